/-
  Floats: sums, products and quotients of what is a power of two times as great.
-/
import Derived.Test.YtfdfnnmgpjamdaiGreatFl10
namespace Go.Ev
open Ieee

/-! ### Signs -/
theorem sgn_word (s : Bool) {r : Nat} (h : r ≤ 9218868437227405312) : sgn (double.word s r) = s := by
  unfold sgn Format.word
  rw [signW]
  cases s
  · have h1 : r / 9223372036854775808 = 0 := Nat.div_eq_of_lt (by omega)
    simp [h1]
  · have h1 : (9223372036854775808 + r) / 9223372036854775808 = 1 := by omega
    simp [h1]
theorem sgn_nearest (s : Bool) (m : Nat) (p : Int) : sgn (double.nearest s m p) = s := by
  obtain ⟨r, hr, hw⟩ := nearest_word s m p
  rw [hw, sgn_word _ hr]
theorem sgn_mul {x y : Nat} (hx : isFin x = true) (hy : isFin y = true) : sgn (fmul x y) = (sgn x ^^ sgn y) := by
  obtain ⟨m, i, hrx, _⟩ := read_fin hx
  obtain ⟨n, j, hry, _⟩ := read_fin hy
  unfold fmul Format.mul
  rw [hrx, hry]
  exact sgn_nearest _ _ _
theorem sgn_div {x y : Nat} (hx : isFin x = true) (hy : isFin y = true) (h0 : val y ≠ 0) : sgn (fdiv x y) = (sgn x ^^ sgn y) := by
  obtain ⟨m, i, hrx, _⟩ := read_fin hx
  obtain ⟨n, j, hry, _, _, hv⟩ := read_fin hy
  have hn : n ≠ 0 := fun e => by
    rw [e, Nat.zero_mul, ← val_abs] at hv
    omega
  unfold fdiv Format.div
  rw [hrx, hry]
  simp only [Datum.quotient, if_neg hn]
  exact sgn_nearest _ _ _
theorem sgn_add0 {x y : Nat} (hx : isFin x = true) (hy : isFin y = true) (h : val x + val y = 0) : sgn (fadd x y) = (sgn x && sgn y) := by
  obtain ⟨m, i, hrx, hi, _, hvx⟩ := read_fin hx
  obtain ⟨n, j, hry, hj, _, hvy⟩ := read_fin hy
  have ea := val_signed hvx (base := min i j) (by omega) (by omega)
  have eb := val_signed hvy (base := min i j) (by omega) (by omega)
  unfold fadd Format.add
  rw [hrx, hry]
  simp only [Datum.sum, Option.map_some, Option.getD_some]
  have h0 : signed (sgn x) m (i - min i j).toNat + signed (sgn y) n (j - min i j).toNat = 0 := by
    rw [ea, eb, ← Int.add_mul] at h
    rcases Int.mul_eq_zero.1 h with e | e
    · exact e
    · exact absurd e (Int.ne_of_gt (Int.pow_pos (by decide)))
  rw [if_pos h0]
  exact sgn_nearest _ _ _
theorem sgn_sub0 {x y : Nat} (hx : isFin x = true) (hy : isFin y = true) (h : val x - val y = 0) : sgn (fsub x y) = (sgn x && !sgn y) := by
  obtain ⟨m, i, hrx, hi, _, hvx⟩ := read_fin hx
  obtain ⟨n, j, hry, hj, _, hvy⟩ := read_fin hy
  have ea := val_signed hvx (base := min i j) (by omega) (by omega)
  have eb := val_signed hvy (base := min i j) (by omega) (by omega)
  unfold fsub Format.sub
  rw [hrx, hry]
  simp only [Datum.opposite, Datum.sum, Option.map_some, Option.getD_some]
  have h0 : signed (sgn x) m (i - min i j).toNat + signed (!sgn y) n (j - min i j).toNat = 0 := by
    rw [signed_neg]
    rw [ea, eb, ← Int.sub_mul] at h
    rcases Int.mul_eq_zero.1 h with e | e
    · omega
    · exact absurd e (Int.ne_of_gt (Int.pow_pos (by decide)))
  rw [if_pos h0]
  exact sgn_nearest _ _ _

/-! ### Operations -/
theorem sc_add {j x x' y y' : Nat} (hx : Sc j x x') (hy : Sc j y y') (f : isFin (fadd x y) = true) (f' : isFin (fadd x' y') = true) (low : val x + val y ≠ 0 → 2 ^ 52 ≤ (val x + val y).natAbs) : Sc j (fadd x y) (fadd x' y') := by
  have e : val x' + val y' = (val x + val y) * ((2 ^ j : Nat) : Int) := by rw [hx.val, hy.val, Int.add_mul]
  refine sc_of (g := 1) (by decide) (key_add hx.fx hy.fx).1 (by rw [(key_add hx.fy hy.fy).1, e]) f f' (fun h => by rw [Nat.div_one]; exact low h) (fun h => ?_)
  rw [sgn_add0 hx.fx hy.fx h, sgn_add0 hx.fy hy.fy (by rw [e, h, Int.zero_mul]), hx.s, hy.s]
theorem sc_sub {j x x' y y' : Nat} (hx : Sc j x x') (hy : Sc j y y') (f : isFin (fsub x y) = true) (f' : isFin (fsub x' y') = true) (low : val x - val y ≠ 0 → 2 ^ 52 ≤ (val x - val y).natAbs) : Sc j (fsub x y) (fsub x' y') := by
  have e : val x' - val y' = (val x - val y) * ((2 ^ j : Nat) : Int) := by rw [hx.val, hy.val, Int.sub_mul]
  refine sc_of (g := 1) (by decide) (key_sub hx.fx hy.fx).1 (by rw [(key_sub hx.fy hy.fy).1, e]) f f' (fun h => by rw [Nat.div_one]; exact low h) (fun h => ?_)
  rw [sgn_sub0 hx.fx hy.fx h, sgn_sub0 hx.fy hy.fy (by rw [e, h, Int.zero_mul]), hx.s, hy.s]
theorem sc_mul {c i j x x' y y' : Nat} (hc : c = 1074) (hx : Sc i x x') (hy : Sc j y y') (f : isFin (fmul x y) = true) (f' : isFin (fmul x' y') = true) (low : val x * val y ≠ 0 → 2 ^ 52 ≤ (val x * val y).natAbs / 2 ^ c) : Sc (i + j) (fmul x y) (fmul x' y') := by
  have e : val x' * val y' = val x * val y * ((2 ^ (i + j) : Nat) : Int) := by
    rw [hx.val, hy.val, Nat.pow_add]; push_cast
    rw [Int.mul_assoc, Int.mul_left_comm _ (val y), ← Int.mul_assoc]
  refine sc_of (g := 2 ^ c) (Nat.two_pow_pos c) (key_mul hc hx.fx hy.fx).1 (by rw [(key_mul hc hx.fy hy.fy).1, e]) f f' low (fun _ => ?_)
  rw [sgn_mul hx.fx hy.fx, sgn_mul hx.fy hy.fy, hx.s, hy.s]
/-- Of which the one is as much greater as the other is less: the product is the same. -/
theorem sc_mulx {c j x x' y y' : Nat} (hc : c = 1074) (hx : Sc j x' x) (hy : Sc j y y') (f : isFin (fmul x y) = true) (f' : isFin (fmul x' y') = true) (low : val x * val y ≠ 0 → 2 ^ 52 ≤ (val x * val y).natAbs / 2 ^ c) : Sc 0 (fmul x y) (fmul x' y') := by
  have e : val x' * val y' = val x * val y * ((2 ^ 0 : Nat) : Int) := by
    rw [hx.val, hy.val]
    simp only [Nat.pow_zero, Int.natCast_one, Int.mul_one]
    rw [Int.mul_assoc, Int.mul_comm (val y)]
  refine sc_of (g := 2 ^ c) (Nat.two_pow_pos c) (key_mul hc hx.fy hy.fx).1 (by rw [(key_mul hc hx.fx hy.fy).1, e]) f f' low (fun _ => ?_)
  rw [sgn_mul hx.fy hy.fx, sgn_mul hx.fx hy.fy, hx.s, hy.s]
theorem KR_mul (v : Int) (g : Nat) {m : Nat} (hm : 0 < m) : KR (v * (m : Int)) (g * m) = KR v g := by
  unfold KR
  have e := rq_mul 52 v.natAbs g hm
  rw [Int.natAbs_mul, Int.natAbs_natCast, e]
  have hg' : (0 : Int) < (m : Int) := by omega
  by_cases h : v < 0
  · rw [decide_eq_true h, decide_eq_true (Int.mul_neg_of_neg_of_pos h hg')]
  · rw [decide_eq_false h, decide_eq_false (Int.not_lt.2 (Int.mul_nonneg (by omega) (by omega)))]
theorem sg_scale (v : Int) {m : Nat} (hm : 0 < m) : sg (v * (m : Int)) = sg v := by
  unfold sg
  have hg' : (0 : Int) < (m : Int) := by omega
  by_cases h : v < 0
  · rw [decide_eq_true h, decide_eq_true (Int.mul_neg_of_neg_of_pos h hg')]
  · rw [decide_eq_false h, decide_eq_false (Int.not_lt.2 (Int.mul_nonneg (by omega) (by omega)))]
theorem sc_div {c k j x x' y y' : Nat} (hc : c = 1074) (hx : Sc (j + k) x x') (hy : Sc j y y') (h0 : val y ≠ 0) (f : isFin (fdiv x y) = true) (f' : isFin (fdiv x' y') = true) (low : val x ≠ 0 → 2 ^ 52 ≤ (val x).natAbs * 2 ^ c / (val y).natAbs) : Sc k (fdiv x y) (fdiv x' y') := by
  have hp : 0 < 2 ^ j := Nat.two_pow_pos j
  have h0' : val y' ≠ 0 := by
    rw [hy.val]; exact Int.mul_ne_zero h0 (by omega)
  have e : KR (val x' * sg (val y') * ((2 ^ c : Nat) : Int)) (val y').natAbs = KR (val x * sg (val y) * ((2 ^ c : Nat) : Int) * ((2 ^ k : Nat) : Int)) (val y).natAbs := by
    rw [hx.val, hy.val, sg_scale _ hp, Int.natAbs_mul, Int.natAbs_natCast, ← KR_mul _ (val y).natAbs hp]
    congr 1
    rw [Nat.pow_add]; push_cast
    simp only [Int.mul_assoc, Int.mul_comm, Int.mul_left_comm]
  have es : (sg (val y)).natAbs = 1 := by unfold sg; cases decide (val y < 0) <;> rfl
  refine sc_of (g := (val y).natAbs) (by omega) (key_div hc hx.fx hy.fx h0).1 (by rw [(key_div hc hx.fy hy.fy h0').1, e]) f f' (fun h => ?_) (fun _ => ?_)
  · rw [Int.natAbs_mul, Int.natAbs_mul, es, Nat.mul_one, Int.natAbs_natCast]
    exact low (fun e => h (by rw [e, Int.zero_mul, Int.zero_mul]))
  · rw [sgn_div hx.fx hy.fx h0, sgn_div hx.fy hy.fy h0', hx.s, hy.s]
/-- What is divided by more is less. -/
theorem sc_divx {c k j x x' y y' : Nat} (hc : c = 1074) (hx : Sc j x x') (hy : Sc (j + k) y y') (h0 : val y ≠ 0) (f : isFin (fdiv x y) = true) (f' : isFin (fdiv x' y') = true) (low : val x' ≠ 0 → 2 ^ 52 ≤ (val x').natAbs * 2 ^ c / (val y').natAbs) : Sc k (fdiv x' y') (fdiv x y) := by
  have hp : 0 < 2 ^ (j + k) := Nat.two_pow_pos _
  have h0' : val y' ≠ 0 := by
    rw [hy.val]; exact Int.mul_ne_zero h0 (by omega)
  have e : KR (val x' * sg (val y') * ((2 ^ c : Nat) : Int) * ((2 ^ k : Nat) : Int)) (val y').natAbs = KR (val x * sg (val y) * ((2 ^ c : Nat) : Int)) (val y).natAbs := by
    rw [hx.val, hy.val, sg_scale _ hp, Int.natAbs_mul, Int.natAbs_natCast, ← KR_mul (val x * sg (val y) * ((2 ^ c : Nat) : Int)) (val y).natAbs hp]
    congr 1
    rw [Nat.pow_add]; push_cast
    simp only [Int.mul_assoc, Int.mul_comm, Int.mul_left_comm]
  have es : (sg (val y')).natAbs = 1 := by unfold sg; cases decide (val y' < 0) <;> rfl
  refine sc_of (g := (val y').natAbs) (by omega) (key_div hc hx.fy hy.fy h0').1 (by rw [(key_div hc hx.fx hy.fx h0).1, e]) f' f (fun h => ?_) (fun _ => ?_)
  · rw [Int.natAbs_mul, Int.natAbs_mul, es, Nat.mul_one, Int.natAbs_natCast]
    exact low (fun e => h (by rw [e, Int.zero_mul, Int.zero_mul]))
  · rw [sgn_div hx.fx hy.fx h0, sgn_div hx.fy hy.fy h0', hx.s, hy.s]
/-- In order as before. -/
theorem sc_key_lt {j x x' y y' : Nat} (hx : Sc j x x') (hy : Sc j y y') : key x' < key y' ↔ key x < key y := by
  rw [← val_lt, ← val_lt, hx.val, hy.val]
  have hp : (0 : Int) < ((2 ^ j : Nat) : Int) := by have := Nat.two_pow_pos j; omega
  exact Int.mul_lt_mul_right hp
end Go.Ev
