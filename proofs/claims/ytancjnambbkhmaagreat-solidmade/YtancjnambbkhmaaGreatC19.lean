/-
  Fl7 Fl8 Hr5 Hm1 Hs1 Hw1 So1 So2 So3 So4 So5 So6 So7 Sq1 Gyo So8 So9, one behind the other.
-/
import Derived.Test.YtancjnambbkhmaaGreatC18
import Derived.Test.YtancjnambbkhmaaGreatC17
import Derived.Test.YtancjnambbkhmaaGreatC16
namespace Go.Ev
open Ieee

/-! ### Tests -/
theorem cmp_lt (a b : Int) : (compare a b == Ordering.lt) = decide (a < b) := by
  show (compareOfLessAndEq a b == Ordering.lt) = _
  unfold compareOfLessAndEq
  by_cases h : a < b
  · simp [h]
  · by_cases h2 : a = b
    · simp [h2]
    · simp [h, h2]
theorem cmp_eq (a b : Int) : (compare a b == Ordering.eq) = decide (a = b) := by
  show (compareOfLessAndEq a b == Ordering.eq) = _
  unfold compareOfLessAndEq
  by_cases h : a < b
  · have : a ≠ b := by omega
    simp [h, this]
  · by_cases h2 : a = b
    · simp [h2]
    · simp [h, h2]
theorem cmp_gt (a b : Int) : (compare a b == Ordering.gt) = decide (b < a) := by
  show (compareOfLessAndEq a b == Ordering.gt) = _
  unfold compareOfLessAndEq
  by_cases h : a < b
  · have : ¬ b < a := by omega
    simp [h, this]
  · by_cases h2 : a = b
    · simp [h2]
    · have : b < a := by omega
      simp [h, h2, this]
theorem some_beq (a b : Ordering) : (some a == some b) = (a == b) := rfl

theorem flt_key {x y : Nat} (hx : isNan x = false) (hy : isNan y = false) : flt x y = decide (key x < key y) := by
  unfold flt; rw [order_key hx hy, some_beq, cmp_lt]
theorem fgt_key {x y : Nat} (hx : isNan x = false) (hy : isNan y = false) : fgt x y = decide (key y < key x) := by
  unfold fgt; rw [order_key hx hy, some_beq, cmp_gt]
theorem feq_key {x y : Nat} (hx : isNan x = false) (hy : isNan y = false) : feq x y = decide (key x = key y) := by
  unfold feq; rw [order_key hx hy, some_beq, cmp_eq]
theorem fle_key {x y : Nat} (hx : isNan x = false) (hy : isNan y = false) : fle x y = decide (key x ≤ key y) := by
  unfold fle; rw [order_key hx hy, some_beq, some_beq, cmp_lt, cmp_eq, Bool.eq_iff_iff]; simp; omega
theorem fge_key {x y : Nat} (hx : isNan x = false) (hy : isNan y = false) : fge x y = decide (key y ≤ key x) := by
  unfold fge; rw [order_key hx hy, some_beq, some_beq, cmp_gt, cmp_eq, Bool.eq_iff_iff]; simp; omega
theorem not_nan_of {x y : Nat} {o : Ordering} (h : double.order x y = some o) : isNan x = false ∧ isNan y = false := by
  constructor
  · cases hx : isNan x
    · rfl
    · have : double.order x y = none := order_nan_left hx
      rw [this] at h; cases h
  · cases hy : isNan y
    · rfl
    · have : double.order x y = none := order_nan_right hy
      rw [this] at h; cases h
theorem fle_true {x y : Nat} (h : fle x y = true) : isNan x = false ∧ isNan y = false ∧ key x ≤ key y := by
  have h' := h
  unfold fle at h
  cases ho : double.order x y with
  | none => rw [ho] at h; cases h
  | some o =>
    obtain ⟨a, b⟩ := not_nan_of ho
    rw [fle_key a b] at h'
    exact ⟨a, b, of_decide_eq_true h'⟩
theorem fge_true {x y : Nat} (h : fge x y = true) : isNan x = false ∧ isNan y = false ∧ key y ≤ key x := by
  have h' := h
  unfold fge at h
  cases ho : double.order x y with
  | none => rw [ho] at h; cases h
  | some o =>
    obtain ⟨a, b⟩ := not_nan_of ho
    rw [fge_key a b] at h'
    exact ⟨a, b, of_decide_eq_true h'⟩
theorem flt_true {x y : Nat} (h : flt x y = true) : isNan x = false ∧ isNan y = false ∧ key x < key y := by
  have h' := h
  unfold flt at h
  cases ho : double.order x y with
  | none => rw [ho] at h; cases h
  | some o =>
    obtain ⟨a, b⟩ := not_nan_of ho
    rw [flt_key a b] at h'
    exact ⟨a, b, of_decide_eq_true h'⟩
theorem fgt_true {x y : Nat} (h : fgt x y = true) : isNan x = false ∧ isNan y = false ∧ key y < key x := by
  have h' := h
  unfold fgt at h
  cases ho : double.order x y with
  | none => rw [ho] at h; cases h
  | some o =>
    obtain ⟨a, b⟩ := not_nan_of ho
    rw [fgt_key a b] at h'
    exact ⟨a, b, of_decide_eq_true h'⟩
theorem feq_true {x y : Nat} (h : feq x y = true) : isNan x = false ∧ isNan y = false ∧ key x = key y := by
  have h' := h
  unfold feq at h
  cases ho : double.order x y with
  | none => rw [ho] at h; cases h
  | some o =>
    obtain ⟨a, b⟩ := not_nan_of ho
    rw [feq_key a b] at h'
    exact ⟨a, b, of_decide_eq_true h'⟩

/-! ### The key of an exact value, rounded -/
def KR (v : Int) (g : Nat) : Int := cond (decide (v < 0)) (-((min (rq 52 v.natAbs g) 9218868437227405312 : Nat) : Int)) ((min (rq 52 v.natAbs g) 9218868437227405312 : Nat) : Int)

theorem KR_mono {v w : Int} (g : Nat) (h : v ≤ w) : KR v g ≤ KR w g := by
  unfold KR
  by_cases h1 : v < 0
  · rw [decide_eq_true h1, cond_true]
    by_cases h2 : w < 0
    · rw [decide_eq_true h2, cond_true]
      have := rq_mono1 52 (g := g) (show w.natAbs ≤ v.natAbs by omega)
      omega
    · rw [decide_eq_false h2, cond_false]; omega
  · rw [decide_eq_false h1, decide_eq_false (show ¬ w < 0 by omega), cond_false, cond_false]
    have := rq_mono1 52 (g := g) (show v.natAbs ≤ w.natAbs by omega)
    omega
theorem KR_neg (v : Int) {g : Nat} (hg : 0 < g) : KR (-v) g = - KR v g := by
  unfold KR
  rw [Int.natAbs_neg]
  rcases Int.lt_trichotomy v 0 with h | h | h
  · rw [decide_eq_true h, decide_eq_false (show ¬ -v < 0 by omega), cond_true, cond_false, Int.neg_neg]
  · subst h
    rw [Int.neg_zero, Int.natAbs_zero, rq_zero 52 hg]; decide
  · rw [decide_eq_false (show ¬ v < 0 by omega), decide_eq_true (show -v < 0 by omega), cond_true, cond_false]
theorem KR_zero {g : Nat} (hg : 0 < g) : KR 0 g = 0 := by
  unfold KR
  rw [Int.natAbs_zero, rq_zero 52 hg]; decide
theorem KR_sign {v : Int} {g : Nat} : (0 ≤ v → 0 ≤ KR v g) ∧ (v ≤ 0 → 0 < g → KR v g ≤ 0) := by
  unfold KR
  constructor
  · intro h; rw [decide_eq_false (show ¬ v < 0 by omega), cond_false]; omega
  · intro h hg
    by_cases h0 : v = 0
    · subst h0; rw [Int.natAbs_zero, rq_zero 52 hg]; decide
    · rw [decide_eq_true (show v < 0 by omega), cond_true]; omega

theorem key_word (s : Bool) {r : Nat} (h : r ≤ 9218868437227405312) : key (double.word s r) = cond s (-(r : Int)) r := by
  unfold key rung sgn Format.word
  rw [signW]
  cases s
  · have h1 : r / 9223372036854775808 = 0 := Nat.div_eq_of_lt (by omega)
    have h2 : r % 9223372036854775808 = r := Nat.mod_eq_of_lt (by omega)
    simp [h1, h2]
  · have h1 : (9223372036854775808 + r) / 9223372036854775808 = 1 := by omega
    have h2 : (9223372036854775808 + r) % 9223372036854775808 = r := by omega
    simp [h1, h2]

/-- What is written of an exact value 'v / g' units, where the sign is the value's (of nought either). -/
theorem key_nearest {s : Bool} {m u w : Nat} {p : Int} {v : Int} {g : Nat} (hg : 0 < g) (hp : p + 1074 = u - w) (ha : rq 52 (m * 2 ^ u) (2 ^ w) = rq 52 v.natAbs g) (hs : v ≠ 0 → s = decide (v < 0)) : key (double.nearest s m p) = KR v g := by
  rw [nearest_rq s m u w p hp, ha, infR, key_word _ (Nat.min_le_right _ _)]
  unfold KR
  by_cases h0 : v = 0
  · subst h0
    rw [Int.natAbs_zero, rq_zero 52 hg]
    cases s <;> decide
  · rw [hs h0]

theorem KR_val {x : Nat} (h : isFin x = true) : KR (val x) 1 = key x := by
  have hl := isFin_lt h
  have hn : (val x).natAbs = rv 52 (rung x) := by unfold val; cases sgn x <;> simp only [cond_true, cond_false] <;> omega
  unfold KR
  rw [hn, rq_rv]
  unfold val key
  have hz : rung x = 0 ∨ 0 < rv 52 (rung x) := by
    rcases Nat.eq_zero_or_pos (rung x) with e | e
    · exact Or.inl e
    · right; have := rv_lt 52 e; rw [rv_zero] at this; exact this
  rw [Nat.min_eq_left (by omega)]
  cases sgn x
  · rw [cond_false, cond_false, decide_eq_false (by omega), cond_false]
  · rw [cond_true, cond_true]
    rcases hz with e | e
    · rw [e, rv_zero]; decide
    · rw [decide_eq_true (by omega), cond_true]

/-! ### Operations -/
theorem val_signed {x m : Nat} {i base : Int} (hv : rv 52 (rung x) = m * 2 ^ (i + 1074).toNat) (h1 : base ≤ i) (h2 : -1074 ≤ base) : val x = signed (sgn x) m (i - base).toNat * 2 ^ (base + 1074).toNat := by
  rw [← signed_split, show (i - base).toNat + (base + 1074).toNat = (i + 1074).toNat by omega, signed_val, ← hv]; rfl

theorem key_sum {x : Nat} {s t : Bool} {m n : Nat} {i j : Int} {r : Bool} {a b : Int} (hi : -1074 ≤ i) (hj : -1074 ≤ j)
    (ea : a = signed s m (i - min i j).toNat * 2 ^ (min i j + 1074).toNat) (eb : b = signed t n (j - min i j).toNat * 2 ^ (min i j + 1074).toNat)
    (hr : x = double.write (.number r (signed s m (i - min i j).toNat + signed t n (j - min i j).toNat).natAbs (min i j)))
    (hs : signed s m (i - min i j).toNat + signed t n (j - min i j).toNat ≠ 0 → r = decide (signed s m (i - min i j).toNat + signed t n (j - min i j).toNat < 0)) : key x = KR (a + b) 1 := by
  generalize signed s m (i - min i j).toNat = A at *
  generalize signed t n (j - min i j).toNat = B at *
  have e : a + b = (A + B) * 2 ^ (min i j + 1074).toNat := by rw [ea, eb, Int.add_mul]
  have hc : (0 : Int) < 2 ^ (min i j + 1074).toNat := Int.pow_pos (by decide)
  rw [hr, e]
  refine key_nearest (u := (min i j + 1074).toNat) (w := 0) (by decide) (by omega) ?_ ?_
  · rw [Int.natAbs_mul, Int.natAbs_pow]; rfl
  · intro h0
    have hAB : A + B ≠ 0 := fun h => h0 (by rw [h, Int.zero_mul])
    rw [hs hAB]
    refine decide_eq_decide.2 ?_
    constructor
    · intro h; exact Int.mul_neg_of_neg_of_pos h hc
    · intro h
      rcases Int.lt_trichotomy (A + B) 0 with h1 | h1 | h1
      · exact h1
      · exact absurd h1 hAB
      · have := Int.mul_pos h1 hc; omega

theorem key_add {x y : Nat} (hx : isFin x = true) (hy : isFin y = true) : key (fadd x y) = KR (val x + val y) 1 ∧ isNan (fadd x y) = false := by
  obtain ⟨m, i, hrx, hi, _, hvx⟩ := read_fin hx
  obtain ⟨n, j, hry, hj, _, hvy⟩ := read_fin hy
  constructor
  · unfold fadd Format.add
    rw [hrx, hry]
    simp only [Datum.sum, Option.map_some, Option.getD_some]
    refine key_sum hi hj (val_signed hvx (by omega) (by omega)) (val_signed hvy (by omega) (by omega)) rfl ?_
    intro h; rw [if_neg h]
  · have : ∃ r, double.add x y = some r := by unfold Format.add; rw [hrx, hry]; exact ⟨_, rfl⟩
    obtain ⟨r, hr⟩ := this
    unfold fadd; rw [hr]; exact isNan_add hr
theorem key_sub {x y : Nat} (hx : isFin x = true) (hy : isFin y = true) : key (fsub x y) = KR (val x - val y) 1 ∧ isNan (fsub x y) = false := by
  obtain ⟨m, i, hrx, hi, _, hvx⟩ := read_fin hx
  obtain ⟨n, j, hry, hj, _, hvy⟩ := read_fin hy
  constructor
  · unfold fsub Format.sub
    rw [hrx, hry]
    simp only [Datum.opposite, Datum.sum, Option.map_some, Option.getD_some]
    have e : val x - val y = val x + -(val y) := Int.sub_eq_add_neg
    rw [e]
    refine key_sum hi hj (val_signed hvx (by omega) (by omega)) ?_ rfl ?_
    · rw [signed_neg, Int.neg_mul, ← val_signed hvy (by omega) (by omega)]
    · intro h; rw [if_neg h]
  · have : ∃ r, double.sub x y = some r := by unfold Format.sub; rw [hrx, hry]; exact ⟨_, rfl⟩
    obtain ⟨r, hr⟩ := this
    unfold fsub; rw [hr]; exact isNan_sub hr

theorem val_abs (x : Nat) : (val x).natAbs = rv 52 (rung x) := by unfold val; cases sgn x <;> simp only [cond_true, cond_false] <;> omega
theorem val_neg {x : Nat} (h : val x ≠ 0) : sgn x = decide (val x < 0) := by
  unfold val at h ⊢
  cases hs : sgn x
  · rw [cond_false, decide_eq_false (by omega)]
  · rw [hs, cond_true] at h; rw [cond_true, decide_eq_true (by omega)]
theorem mul_sign {a b : Int} (h : a * b ≠ 0) : (decide (a < 0) ^^ decide (b < 0)) = decide (a * b < 0) := by
  have ha : a ≠ 0 := fun e => h (by rw [e, Int.zero_mul])
  have hb : b ≠ 0 := fun e => h (by rw [e, Int.mul_zero])
  rcases Int.lt_or_gt_of_ne ha with h1 | h1 <;> rcases Int.lt_or_gt_of_ne hb with h2 | h2
  · have := Int.mul_pos_of_neg_of_neg h1 h2
    rw [decide_eq_true h1, decide_eq_true h2, decide_eq_false (by omega)]; rfl
  · have := Int.mul_neg_of_neg_of_pos h1 h2
    rw [decide_eq_true h1, decide_eq_false (by omega), decide_eq_true this]; rfl
  · have := Int.mul_neg_of_pos_of_neg h1 h2
    rw [decide_eq_false (by omega), decide_eq_true h2, decide_eq_true this]; rfl
  · have := Int.mul_pos h1 h2
    rw [decide_eq_false (by omega), decide_eq_false (by omega), decide_eq_false (by omega)]; rfl

theorem key_mul {x y c : Nat} (hc : c = 1074) (hx : isFin x = true) (hy : isFin y = true) : key (fmul x y) = KR (val x * val y) (2 ^ c) ∧ isNan (fmul x y) = false := by
  obtain ⟨m, i, hrx, hi, _, hvx⟩ := read_fin hx
  obtain ⟨n, j, hry, hj, _, hvy⟩ := read_fin hy
  constructor
  · unfold fmul Format.mul
    rw [hrx, hry]
    simp only [Datum.product, Option.map_some, Option.getD_some, Format.write]
    refine key_nearest (u := (i + 1074).toNat + (j + 1074).toNat) (w := c) (Nat.two_pow_pos _) (by omega) ?_ ?_
    · rw [Int.natAbs_mul, val_abs, val_abs, hvx, hvy, Nat.pow_add]
      congr 1
      rw [Nat.mul_assoc, Nat.mul_assoc, Nat.mul_left_comm n]
    · intro h
      have ha : val x ≠ 0 := fun e => h (by rw [e, Int.zero_mul])
      have hb : val y ≠ 0 := fun e => h (by rw [e, Int.mul_zero])
      rw [val_neg ha, val_neg hb, mul_sign h]
  · have : ∃ r, double.mul x y = some r := by unfold Format.mul; rw [hrx, hry]; exact ⟨_, rfl⟩
    obtain ⟨r, hr⟩ := this
    unfold fmul; rw [hr]; exact isNan_mul hr

/-- A number's sign, as a factor. -/
def sg (v : Int) : Int := cond (decide (v < 0)) (-1) 1

theorem key_div {x y c : Nat} (hc : c = 1074) (hx : isFin x = true) (hy : isFin y = true) (h0 : val y ≠ 0) : key (fdiv x y) = KR (val x * sg (val y) * ((2 ^ c : Nat) : Int)) (val y).natAbs ∧ isNan (fdiv x y) = false := by
  obtain ⟨m, i, hrx, hi, hm, hvx⟩ := read_fin hx
  obtain ⟨n, j, hry, hj, hn, hvy⟩ := read_fin hy
  have hn0 : n ≠ 0 := fun e => h0 (by
    have : (val y).natAbs = 0 := by rw [val_abs, hvy, e, Nat.zero_mul]
    omega)
  have hr : double.div x y = some (double.write (.number (sgn x ^^ sgn y) (2 * (m <<< (54 + n.log2 - m.log2) / n) + (m <<< (54 + n.log2 - m.log2) % n != 0).toNat) (i - j - (54 + n.log2 - m.log2 : Nat) - 1))) := by
    unfold Format.div
    rw [hrx, hry]
    simp only [Datum.quotient]
    rw [if_neg hn0]
    rfl
  refine ⟨?_, by unfold fdiv; rw [hr]; exact isNan_div hr⟩
  unfold fdiv
  rw [hr, Option.getD_some]
  have hsg : (sg (val y)).natAbs = 1 := by unfold sg; cases decide (val y < 0) <;> rfl
  have hP : 0 < (2 ^ c : Nat) := Nat.two_pow_pos _
  refine key_nearest (u := (i + 1074).toNat + c) (w := (j + 1074).toNat + (54 + n.log2 - m.log2) + 1) (by omega) (by omega) ?_ ?_
  · rw [Int.natAbs_mul, Int.natAbs_mul, hsg, Nat.mul_one, Int.natAbs_natCast, val_abs, val_abs, hvx, hvy]
    by_cases hm0 : m = 0
    · rw [hm0, Nat.zero_shiftLeft, Nat.zero_div, Nat.zero_mod, Nat.zero_mul, Nat.zero_mul]
      show rq 52 (0 * _) _ = _
      rw [Nat.zero_mul, rq_zero 52 (Nat.two_pow_pos _), rq_zero 52 (Nat.mul_pos (by omega) (Nat.two_pow_pos _))]
    · have hl := log2_lt53 hm
      have hq : 2 ^ (52 + 1) ≤ m <<< (54 + n.log2 - m.log2) / n := by
        rw [Nat.le_div_iff_mul_le (by omega)]
        have h1 : 2 ^ (54 + n.log2) ≤ m <<< (54 + n.log2 - m.log2) := by
          rw [Nat.shiftLeft_eq]
          have := Nat.mul_le_mul_right (2 ^ (54 + n.log2 - m.log2)) (Nat.log2_self_le hm0)
          rw [← Nat.pow_add, show m.log2 + (54 + n.log2 - m.log2) = 54 + n.log2 by omega] at this
          exact this
        refine Nat.le_trans ?_ h1
        rw [show 54 + n.log2 = (52 + 1) + (n.log2 + 1) by omega, Nat.pow_add 2 (52 + 1)]
        exact Nat.mul_le_mul_left _ (Nat.le_of_lt Nat.lt_log2_self)
      rw [rq_sticky 52 _ n _ _ (by omega) hq, Nat.shiftLeft_eq]
      generalize 54 + n.log2 - m.log2 = k
      have := rq_mul 52 (m * 2 ^ (i + 1074).toNat * 2 ^ c) (n * 2 ^ (j + 1074).toNat) (Nat.two_pow_pos (k + 1))
      rw [← this]
      congr 1
      · rw [Nat.pow_add, Nat.pow_succ]
        generalize 2 ^ (i + 1074).toNat = a
        generalize 2 ^ c = b
        generalize 2 ^ k = d
        simp only [Nat.mul_assoc, Nat.mul_comm, Nat.mul_left_comm]
      · rw [Nat.mul_assoc, ← Nat.pow_add, Nat.add_assoc]
  · intro h
    have hP' : (0 : Int) < ((2 ^ c : Nat) : Int) := Int.ofNat_lt.2 hP
    generalize ((2 ^ c : Nat) : Int) = P at h hP'
    have h1 : val x * sg (val y) ≠ 0 := fun e => h (by rw [e, Int.zero_mul])
    have ha : val x ≠ 0 := fun e => h1 (by rw [e, Int.zero_mul])
    have h2 := mul_sign h
    rw [← h2, decide_eq_false (show ¬ P < 0 by omega), Bool.xor_false, ← mul_sign h1, val_neg ha, val_neg h0]
    congr 1
    unfold sg
    cases decide (val y < 0) <;> decide
end Go.Ev

namespace Go.Ev
open Ieee

theorem fsub_mono {a b o : Nat} (ha : isFin a = true) (hb : isFin b = true) (ho : isFin o = true) (h : key a ≤ key b) : key (fsub a o) ≤ key (fsub b o) := by
  rw [(key_sub ha ho).1, (key_sub hb ho).1]
  have := val_le.2 h
  exact KR_mono 1 (by omega)
theorem fadd_mono {a b o : Nat} (ha : isFin a = true) (hb : isFin b = true) (ho : isFin o = true) (h : key a ≤ key b) : key (fadd a o) ≤ key (fadd b o) := by
  rw [(key_add ha ho).1, (key_add hb ho).1]
  have := val_le.2 h
  exact KR_mono 1 (by omega)
theorem val_pos {x : Nat} : 0 < val x ↔ 0 < key x := by
  have h := val_lt (x := 0) (y := x)
  have h1 : val 0 = 0 := by decide +kernel
  have h2 : key 0 = 0 := by decide +kernel
  rw [h1, h2] at h; exact h
theorem val_negative {x : Nat} : val x < 0 ↔ key x < 0 := by
  have h := val_lt (x := x) (y := 0)
  have h1 : val 0 = 0 := by decide +kernel
  have h2 : key 0 = 0 := by decide +kernel
  rw [h1, h2] at h; exact h
theorem fdiv_mono {a b d : Nat} (ha : isFin a = true) (hb : isFin b = true) (hd : isFin d = true) (h0 : 0 < key d) (h : key a ≤ key b) : key (fdiv a d) ≤ key (fdiv b d) := by
  have hv := val_pos.2 h0
  obtain ⟨c, hc⟩ : ∃ c, c = 1074 := ⟨_, rfl⟩
  rw [(key_div hc ha hd (by omega)).1, (key_div hc hb hd (by omega)).1]
  have hsg : sg (val d) = 1 := by unfold sg; rw [decide_eq_false (by omega)]; rfl
  rw [hsg, Int.mul_one, Int.mul_one]
  exact KR_mono _ (Int.mul_le_mul_of_nonneg_right (val_le.2 h) (Int.natCast_nonneg _))
theorem fdiv_anti {a b d : Nat} (ha : isFin a = true) (hb : isFin b = true) (hd : isFin d = true) (h0 : key d < 0) (h : key a ≤ key b) : key (fdiv b d) ≤ key (fdiv a d) := by
  have hv := val_negative.2 h0
  obtain ⟨c, hc⟩ : ∃ c, c = 1074 := ⟨_, rfl⟩
  rw [(key_div hc ha hd (by omega)).1, (key_div hc hb hd (by omega)).1]
  have hsg : sg (val d) = -1 := by unfold sg; rw [decide_eq_true hv]; rfl
  rw [hsg]
  have := val_le.2 h
  exact KR_mono _ (Int.mul_le_mul_of_nonneg_right (by omega) (Int.natCast_nonneg _))

/-- A float between two numbers is a number. -/
theorem fin_between {x lo hi : Nat} (h0 : isNan x = false) (h1 : key lo ≤ key x) (h2 : key x ≤ key hi) (hl : -9218868437227405312 < key lo) (hh : key hi < 9218868437227405312) : isFin x = true := by
  rcases fin_or_inf h0 with h | h
  · exact h
  · exfalso
    have e : key x = 9218868437227405312 ∨ key x = -9218868437227405312 := by
      unfold key; rw [h]; cases sgn x
      · exact Or.inl rfl
      · exact Or.inr rfl
    omega
/-- A million; two million. -/
theorem near_fin {x : Nat} (h1 : fge x 13920209183539462144 = true) (h2 : fle x 4696837146684686336 = true) : isFin x = true ∧ -4696837146684686336 ≤ key x ∧ key x ≤ 4696837146684686336 := by
  obtain ⟨a, _, h3⟩ := fge_true h1
  obtain ⟨_, _, h4⟩ := fle_true h2
  have e1 : key 13920209183539462144 = -4696837146684686336 := by decide +kernel
  have e2 : key 4696837146684686336 = 4696837146684686336 := by decide +kernel
  refine ⟨fin_between a h3 h4 (by rw [e1]; decide) (by rw [e2]; decide), by omega, by omega⟩
theorem sub_fin {x y : Nat} (hx : isFin x = true) (hy : isFin y = true) (x1 : -4696837146684686336 ≤ key x) (x2 : key x ≤ 4696837146684686336) (y1 : -4696837146684686336 ≤ key y) (y2 : key y ≤ 4696837146684686336) : isFin (fsub x y) = true := by
  have e1 : key 13920209183539462144 = -4696837146684686336 := by decide +kernel
  have e2 : key 4696837146684686336 = 4696837146684686336 := by decide +kernel
  have a1 := val_le.2 (show key 13920209183539462144 ≤ key x by omega)
  have a2 := val_le.2 (show key x ≤ key 4696837146684686336 by omega)
  have b1 := val_le.2 (show key 13920209183539462144 ≤ key y by omega)
  have b2 := val_le.2 (show key y ≤ key 4696837146684686336 by omega)
  have t1 : val 4696837146684686336 - val 13920209183539462144 = val 4701340746312056832 := by decide +kernel
  have t2 : val 13920209183539462144 - val 4696837146684686336 = val 13924712783166832640 := by decide +kernel
  have f1 : isFin 4701340746312056832 = true := by decide +kernel
  have f2 : isFin 13924712783166832640 = true := by decide +kernel
  obtain ⟨k, n⟩ := key_sub hx hy
  refine fin_between (lo := 13924712783166832640) (hi := 4701340746312056832) n ?_ ?_ (by decide +kernel) (by decide +kernel)
  · rw [k, ← KR_val f2]; exact KR_mono 1 (by omega)
  · rw [k, ← KR_val f1]; exact KR_mono 1 (by omega)
end Go.Ev

namespace Go.Ev
open Ieee
theorem fabs_lt_inf {x : Nat} (h : isFin x = true) : flt (fabs x) 9218868437227405312 = true := by
  have hn := fin_not_nan h
  have h1 : isNan (fabs x) = false := by unfold fabs; rw [hn, cond_false, isNan_low]; exact hn
  have h2 : isNan 9218868437227405312 = false := by decide +kernel
  rw [flt_key h1 h2]
  refine decide_eq_true ?_
  have e2 : key 9218868437227405312 = 9218868437227405312 := by decide +kernel
  have hr : rung x < 9218868437227405312 := isFin_lt h
  have e1 : key (fabs x) = rung x := by
    unfold fabs; rw [hn, cond_false]
    unfold key sgn rung
    have : x % 9223372036854775808 / 9223372036854775808 = 0 := Nat.div_eq_of_lt (Nat.mod_lt _ (by decide))
    rw [this, Nat.mod_mod]; rfl
  rw [e1, e2]
  omega
end Go.Ev
namespace Go.Proofs.YtancjnambbkhmaaGreat.Hs
open Go.Gv
open Go.Ev (cn fadd fsub fmul fdiv fsqrt fneg feq flt fle fgt fge fabs isNan fge_not fle_not nan_fgt nan_flt flt_irr fabs_lt_inf)

section
variable (k : Int) (a : Nat → Nat) (sk : Int) (e : Int) (p q u x y w : Nat)
def rnY : Option Out := cond (!fineS p q u) (no4 0 0 0 1) (cond (fgt (lengthS x y w) 0) (no4 (fdiv x (lengthS x y w)) (fdiv y (lengthS x y w)) (fdiv w (lengthS x y w)) 0) (no4 0 0 0 0))
theorem rnY_eq : rnY p q u x y w = some (Out.of (noV p q u x y w)) := by
  unfold rnY noV noC noB noE no4
  cases fineS p q u <;> cases fgt (lengthS x y w) 0 <;> rfl
noncomputable def rnZ (o : Option Out) : Option Out := gate (SMok k a sk e) (cond (!(e == 0)) (no4 0 0 0 e) o)
theorem rno1_ev : ev Tryz.prog R6 [smK e] noL Tryz.f17 [SH 1 a sk, V p q u] ret = rnZ 1 a sk e (rnY p q u (fsub p (a 0)) (fsub q (a 1)) (fsub u (a 2))) := by kernel_rfl
theorem rno3_ev : ev Tryz.prog R6 [smK e] noL Tryz.f17 [SH 3 a sk, V p q u] ret = rnZ 3 a sk e (rnY p q u (trX a 1 2) (trX a 2 0) (trX a 0 1)) := by kernel_rfl
theorem rno4_ev : ev Tryz.prog R6 [smK e] noL Tryz.f17 [SH 4 a sk, V p q u] ret = rnZ 4 a sk e (rnY p q u (a 3) (a 4) (a 5)) := by kernel_rfl
noncomputable def s1K (f : Nat) : KEntry := kS Tryz.prog f fun _ => V x y w
noncomputable def rnG (f : Nat) : Option Out := cond (!fineS p q u) (no4 0 0 0 1) (gate (FSpec Tryz.prog f [SH k a sk, V p q u] (V x y w)) (cond (fgt (lengthS x y w) 0) (no4 (fdiv x (lengthS x y w)) (fdiv y (lengthS x y w)) (fdiv w (lengthS x y w)) 0) (no4 0 0 0 0)))
theorem rno2_ev : ev Tryz.prog R6 [smK e, s1K x y w 54] noL Tryz.f17 [SH 2 a sk, V p q u] ret = rnZ 2 a sk e (rnG 2 a sk p q u x y w 54) := by kernel_rfl
theorem rno5_ev : ev Tryz.prog R6 [smK e, s1K x y w 56] noL Tryz.f17 [SH 5 a sk, V p q u] ret = rnZ 5 a sk e (rnG 5 a sk p q u x y w 56) := by kernel_rfl
theorem rno6_ev : ev Tryz.prog R6 [smK e, s1K x y w 57] noL Tryz.f17 [SH 6 a sk, V p q u] ret = rnZ 6 a sk e (rnG 6 a sk p q u x y w 57) := by kernel_rfl
theorem rnG_pos {k : Int} {a : Nat → Nat} {sk : Int} {p q u x y w f : Nat} (h : FSpec Tryz.prog f [SH k a sk, V p q u] (V x y w)) : rnG k a sk p q u x y w f = rnY p q u x y w := by
  unfold rnG rnY
  rw [gate_pos h]
/-- Of what may not be, whatever kind. -/
theorem rnob_ev : ev Tryz.prog R6 [smK e] noL Tryz.f17 [SH k a sk, V p q u] ret = rnZ k a sk e (cond (!fineS p q u) (no4 0 0 0 1) (cond (k == 1) (cond (fgt (lengthS (fsub p (a 0)) (fsub q (a 1)) (fsub u (a 2))) 0) (no4 (fdiv (fsub p (a 0)) (lengthS (fsub p (a 0)) (fsub q (a 1)) (fsub u (a 2)))) (fdiv (fsub q (a 1)) (lengthS (fsub p (a 0)) (fsub q (a 1)) (fsub u (a 2)))) (fdiv (fsub u (a 2)) (lengthS (fsub p (a 0)) (fsub q (a 1)) (fsub u (a 2)))) 0) (no4 0 0 0 0))
    (cond (k == 2) none (cond (k == 3) (cond (fgt (lengthS (trX a 1 2) (trX a 2 0) (trX a 0 1)) 0) (no4 (fdiv (trX a 1 2) (lengthS (trX a 1 2) (trX a 2 0) (trX a 0 1))) (fdiv (trX a 2 0) (lengthS (trX a 1 2) (trX a 2 0) (trX a 0 1))) (fdiv (trX a 0 1) (lengthS (trX a 1 2) (trX a 2 0) (trX a 0 1))) 0) (no4 0 0 0 0)) (cond (k == 5) none (cond (k == 6) none
      (cond (fgt (lengthS (a 3) (a 4) (a 5)) 0) (no4 (fdiv (a 3) (lengthS (a 3) (a 4) (a 5))) (fdiv (a 4) (lengthS (a 3) (a 4) (a 5))) (fdiv (a 5) (lengthS (a 3) (a 4) (a 5))) 0) (no4 0 0 0 0)))))))) := by kernel_rfl
theorem rno_b {k : Int} {a : Nat → Nat} {sk e : Int} (h : SMok k a sk e) (he : e ≠ 0) : FSpec Tryz.prog 17 [SH k a sk, V p q u] (.tup [V 0 0 0, iA e]) := by
  refine gspec R6_ok (k_cons kS_ok k_nil) Tryz.func17 (by kernel_rfl) (by kernel_rfl) noL_ok rfl ((rnob_ev k a sk e p q u).trans ((gate_pos h).trans ?_))
  rw [beq_false_of_ne he]; rfl
theorem rnZ_pos {k : Int} {a : Nat → Nat} {sk : Int} {o : Option Out} (h : SMok k a sk 0) : rnZ k a sk 0 o = o := (gate_pos h).trans rfl
/-! ### The nearest side of a block -/
theorem ns_ev : ev Tryz.prog R6 [] noL Tryz.f54 [SH k a sk, V p q u] ret = sdT a (ls [p, q, u]) (sdL a (ls [p, q, u]) 0) fun _ s => some (Out.of (sdV s)) := by kernel_rfl
theorem rnearest : FSpec Tryz.prog 54 [SH k a sk, V p q u] (sdV (sdN a (ls [p, q, u]) (sdL a (ls [p, q, u]) 0))) :=
  sp R6_ok Tryz.func54 (by kernel_rfl) (by kernel_rfl) rfl ((ns_ev k a sk p q u).trans (sdT_map (fun s => some (Out.of (sdV s))) a (ls [p, q, u]) (sdL a (ls [p, q, u]) 0) fun _ s => s).symm)
/-! ### Tubes and rings -/
variable (z : Nat)
theorem rts_ev0 : ev Tryz.prog R5 [axK 0] noL Tryz.f56 [SH k a sk, V p q u] ret = gAx a 0 (tnS a p q u 0 (oV (tnQ a p q u 0 0) (tnQ a p q u 0 1) (tnQ a p q u 0 2)) (oV (a 3) (a 4) (a 5)) (oV (fmul (a 3) neg1) (fmul (a 4) neg1) (fmul (a 5) neg1))) := by kernel_rfl
theorem rts_ev1 : ev Tryz.prog R5 [axK 1] noL Tryz.f56 [SH k a sk, V p q u] ret = gAx a 1 (tnS a p q u 1 (oV (tnQ a p q u 1 0) (tnQ a p q u 1 1) (tnQ a p q u 1 2)) (oV (a 3) (a 4) (a 5)) (oV (fmul (a 3) neg1) (fmul (a 4) neg1) (fmul (a 5) neg1))) := by kernel_rfl
theorem rts_ev2 : ev Tryz.prog R5 [axK 2] noL Tryz.f56 [SH k a sk, V p q u] ret = gAx a 2 (tnS a p q u 2 (oV (tnQ a p q u 2 0) (tnQ a p q u 2 1) (tnQ a p q u 2 2)) (oV (a 3) (a 4) (a 5)) (oV (fmul (a 3) neg1) (fmul (a 4) neg1) (fmul (a 5) neg1))) := by kernel_rfl
theorem rtubeSide (h : axO (a 3) (a 4) (a 5) = true) : FSpec Tryz.prog 56 [SH k a sk, V p q u] (tnV a p q u (zB a)) := by
  rcases zB_lt a with hz | hz | hz
  · rw [hz]; exact gspec R5_ok (k_cons kS_ok k_nil) Tryz.func56 (by kernel_rfl) (by kernel_rfl) noL_ok rfl ((rts_ev0 k a sk p q u).trans ((gAx_pos a h hz).trans (tn_eq a p q u 0)))
  · rw [hz]; exact gspec R5_ok (k_cons kS_ok k_nil) Tryz.func56 (by kernel_rfl) (by kernel_rfl) noL_ok rfl ((rts_ev1 k a sk p q u).trans ((gAx_pos a h hz).trans (tn_eq a p q u 1)))
  · rw [hz]; exact gspec R5_ok (k_cons kS_ok k_nil) Tryz.func56 (by kernel_rfl) (by kernel_rfl) noL_ok rfl ((rts_ev2 k a sk p q u).trans ((gAx_pos a h hz).trans (tn_eq a p q u 2)))
def rgO : Option Out := cond (fgt (rnL a p q u z) 0) (oV (rnB a p q u z 0) (rnB a p q u z 1) (rnB a p q u z 2)) (oV 0 0 0)
theorem rgO_eq : rgO a p q u z = some (Out.of (rnV a p q u z)) := by
  unfold rgO rnV rnC oV
  cases fgt (rnL a p q u z) 0 <;> rfl
theorem rgs_ev0 : ev Tryz.prog R5 [axK 0] noL Tryz.f57 [SH k a sk, V p q u] ret = gAx a 0 (rgO a p q u 0) := by kernel_rfl
theorem rgs_ev1 : ev Tryz.prog R5 [axK 1] noL Tryz.f57 [SH k a sk, V p q u] ret = gAx a 1 (rgO a p q u 1) := by kernel_rfl
theorem rgs_ev2 : ev Tryz.prog R5 [axK 2] noL Tryz.f57 [SH k a sk, V p q u] ret = gAx a 2 (rgO a p q u 2) := by kernel_rfl
theorem rringSide (h : axO (a 3) (a 4) (a 5) = true) : FSpec Tryz.prog 57 [SH k a sk, V p q u] (rnV a p q u (zB a)) := by
  rcases zB_lt a with hz | hz | hz
  · rw [hz]; exact gspec R5_ok (k_cons kS_ok k_nil) Tryz.func57 (by kernel_rfl) (by kernel_rfl) noL_ok rfl ((rgs_ev0 k a sk p q u).trans ((gAx_pos a h hz).trans (rgO_eq a p q u 0)))
  · rw [hz]; exact gspec R5_ok (k_cons kS_ok k_nil) Tryz.func57 (by kernel_rfl) (by kernel_rfl) noL_ok rfl ((rgs_ev1 k a sk p q u).trans ((gAx_pos a h hz).trans (rgO_eq a p q u 1)))
  · rw [hz]; exact gspec R5_ok (k_cons kS_ok k_nil) Tryz.func57 (by kernel_rfl) (by kernel_rfl) noL_ok rfl ((rgs_ev2 k a sk p q u).trans ((gAx_pos a h hz).trans (rgO_eq a p q u 2)))
end
theorem near_sub_inf {x y : Nat} (hx : nearS x = true) (hy : nearS y = true) : flt (fabs (fsub x y)) infF = true := by
  have g : ∀ {x : Nat}, nearS x = true → fge x 13920209183539462144 = true ∧ fle x 4696837146684686336 = true := fun {x} h => by
    unfold nearS at h
    cases h1 : fge x 13920209183539462144
    · rw [h1] at h; cases h
    · rw [h1] at h; exact ⟨rfl, h⟩
  obtain ⟨a1, a2, a3⟩ := Go.Ev.near_fin (g hx).1 (g hx).2
  obtain ⟨b1, b2, b3⟩ := Go.Ev.near_fin (g hy).1 (g hy).2
  exact fabs_lt_inf (Go.Ev.sub_fin a1 b1 a2 a3 b2 b3)
/-- From the first side on, or from infinity on: the same. -/
theorem sdN_eq {a p : Nat → Nat} (hp : nearS (p 0) = true) (ha : nearS (a 0) = true) : sdN a p (sdL a p 0) = sdN a p infF := by
  have h : flt (sdL a p 0) infF = true := near_sub_inf hp ha
  unfold sdN sdT
  show sdS 0 (sdL a p 0) (sdH a p 0) (sdL a p 0) 0 _ = sdS 0 (sdL a p 0) (sdH a p 0) infF 0 _
  unfold sdS
  rw [h, flt_irr]
  rfl
end Go.Proofs.YtancjnambbkhmaaGreat.Hs

namespace Go.Proofs.YtancjnambbkhmaaGreat.Hs
open Go.Gv
open Go.Ev (cn fadd fsub fmul fdiv fsqrt fneg feq flt fle fgt fge fabs)

/-! ### Small ones -/
def mpk0 (c : Int) : Int := cond (decide (c < 0)) (w64 (0 - w64 (c + 1))) c
def mpk (c n : Int) : Int := (mpk0 c).tmod n
theorem mpick_ev (c n : Int) : ev Tryz.prog [] [] noL Tryz.f36 [iA c, iA n] ret = cond (decide (c < 0)) (cond ((!(n == 0)) && true) (some (Out.of (iA ((w64 (0 - w64 (c + 1))).tmod n)))) none) (cond ((!(n == 0)) && true) (some (Out.of (iA (c.tmod n)))) none) := by kernel_rfl
theorem mpick {c n : Int} (hn : (!(n == 0)) = true) : FSpec Tryz.prog 36 [iA c, iA n] (iA (mpk c n)) := by
  refine sp e_nil Tryz.func36 (by kernel_rfl) (by kernel_rfl) rfl ((mpick_ev c n).trans ?_)
  rw [hn]
  unfold mpk mpk0
  cases decide (c < 0) <;> rfl
def ePk (pf : Int → Int → Int) : List AV → Option AV
  | [.x (.int .i64 c), .x (.int .i64 n)] => cond (!(n == 0)) (some (iA (pf c n))) none
  | _ => none
theorem ePk_ok : EOk Tryz.prog ⟨36, ePk mpk⟩ := fun args r hr => by
  simp only [ePk] at hr
  split at hr
  · rename_i c n
    cases hn : !(n == 0)
    · rw [hn] at hr; cases hr
    · rw [hn] at hr; cases hr; exact Or.inl (mpick hn)
  · cases hr
def k1000 : Nat := 4652007308841189376
def mth (n : Int) : Nat := fdiv (cn (FloatKind.f64.nearest n)) k1000
theorem mthou (n : Int) : FSpec Tryz.prog 64 [iA n] (.f (mth n)) := sp e_nil Tryz.func64 (by kernel_rfl) (by kernel_rfl) rfl (by kernel_rfl)
def eI (g : Int → AV) : List AV → Option AV
  | [.x (.int .i64 n)] => some (g n)
  | _ => none
theorem eI_ok {f : Nat} {g : Int → AV} (h : ∀ n, FSpec Tryz.prog f [iA n] (g n)) : EOk Tryz.prog ⟨f, eI g⟩ := fun args r hr => by
  simp only [eI] at hr
  split at hr
  · cases hr; exact Or.inl (h _)
  · cases hr
def M0 (pf : Int → Int → Int) (tf : Int → Nat) : List Entry := ⟨36, ePk pf⟩ :: ⟨64, eI fun n => .f (tf n)⟩ :: R4
theorem M0_ok : ∀ e, e ∈ M0 mpk mth → EOk Tryz.prog e := e_cons ePk_ok <| e_cons (eI_ok mthou) R4_ok
section
variable (n : Nat) (hs : Nat → Int) (pf : Int → Int → Int) (tf : Int → Nat) (rf : Int → Int) (k fr mo c : Int)
def mrw : Int := cond ((n : Int) == 0) 0 (hs (k.tmod (n : Int)).toNat)
theorem mraw_ev : ev Tryz.prog [] [] noL Tryz.f63 [sI n hs, iA k] ret = cond ((n : Int) == 0) (some (Out.of (iA 0))) (cond ((!((n : Int) == 0)) && true) (cond (ixB (k.tmod (n : Int)) n || false) (some (Out.of (iA (hs (k.tmod (n : Int)).toNat)))) none) none) := by kernel_rfl
theorem mraw {n : Nat} {hs : Nat → Int} {k : Int} (hk : 0 ≤ k) : FSpec Tryz.prog 63 [sI n hs, iA k] (iA (mrw n hs k)) := by
  refine sp e_nil Tryz.func63 (by kernel_rfl) (by kernel_rfl) rfl ((mraw_ev n hs k).trans ?_)
  unfold mrw
  cases hn : ((n : Int) == 0)
  · have h0 : (n : Int) ≠ 0 := fun e => by rw [e] at hn; cases hn
    have e : k.tmod (n : Int) = k % (n : Int) := Int.tmod_eq_emod_of_nonneg hk
    have a := Int.emod_nonneg k h0
    have b := Int.emod_lt_of_pos k (show (0 : Int) < n by omega)
    have hi : ixB (k.tmod (n : Int)) n = true := by
      unfold ixB
      rw [e, decide_eq_true a, decide_eq_true b]
      rfl
    rw [hi]; rfl
  · rfl
def milB (mo : Int) : Bool := !(w64 (w64 (2 * mo) + 1) == 0)
def mmi (pf : Int → Int → Int) (tf : Int → Nat) (c mo : Int) : Nat := tf (w64 (pf c (w64 (w64 (2 * mo) + 1)) - mo))
theorem mil1_ev : ev Tryz.prog (M0 pf tf) [] noL Tryz.f68 [iA c, iA 4000] ret = some (Out.of (.f (mmi pf tf c 4000))) := by kernel_rfl
theorem mil2_ev : ev Tryz.prog (M0 pf tf) [] noL Tryz.f68 [iA c, iA 3000] ret = some (Out.of (.f (mmi pf tf c 3000))) := by kernel_rfl
theorem mil3_ev : ev Tryz.prog (M0 pf tf) [] noL Tryz.f68 [iA c, iA 6000] ret = some (Out.of (.f (mmi pf tf c 6000))) := by kernel_rfl
theorem mil4_ev : ev Tryz.prog (M0 pf tf) [] noL Tryz.f68 [iA c, iA 1500] ret = some (Out.of (.f (mmi pf tf c 1500))) := by kernel_rfl
theorem mil5_ev : ev Tryz.prog (M0 pf tf) [] noL Tryz.f68 [iA c, iA 5000] ret = some (Out.of (.f (mmi pf tf c 5000))) := by kernel_rfl
end
def moOk (mo : Int) : Prop := mo = 4000 ∨ mo = 3000 ∨ mo = 6000 ∨ mo = 1500 ∨ mo = 5000
theorem mmilli {mo : Int} (h : moOk mo) (c : Int) : FSpec Tryz.prog 68 [iA c, iA mo] (.f (mmi mpk mth c mo)) := by
  rcases h with rfl | rfl | rfl | rfl | rfl
  · exact sp M0_ok Tryz.func68 (by kernel_rfl) (by kernel_rfl) rfl (mil1_ev mpk mth c)
  · exact sp M0_ok Tryz.func68 (by kernel_rfl) (by kernel_rfl) rfl (mil2_ev mpk mth c)
  · exact sp M0_ok Tryz.func68 (by kernel_rfl) (by kernel_rfl) rfl (mil3_ev mpk mth c)
  · exact sp M0_ok Tryz.func68 (by kernel_rfl) (by kernel_rfl) rfl (mil4_ev mpk mth c)
  · exact sp M0_ok Tryz.func68 (by kernel_rfl) (by kernel_rfl) rfl (mil5_ev mpk mth c)
section
variable (n : Nat) (hs : Nat → Int) (rf : Int → Int) (mf : Int → Int → Nat) (fr mo : Int)
def rwG (rf : Int → Int) : List AV → AV
  | [_, .x (.int .i64 k)] => iA (rf k)
  | _ => .any
def miG' (mf : Int → Int → Nat) : List AV → AV
  | [.x (.int .i64 c), .x (.int .i64 mo)] => .f (mf c mo)
  | _ => .any
noncomputable def gR (k : Int) (o : Option Out) : Option Out := gate (FSpec Tryz.prog 63 [sI n hs, iA k] (iA (rf k))) o
noncomputable def gMi (c mo : Int) (o : Option Out) : Option Out := gate (FSpec Tryz.prog 68 [iA c, iA mo] (.f (mf c mo))) o
noncomputable def rwK : KEntry := kS Tryz.prog 63 (rwG rf)
noncomputable def veX : Option Out := gR n hs rf fr (gMi mf (rf fr) mo (gR n hs rf (w64 (fr + 1)) (gMi mf (rf (w64 (fr + 1))) mo (gR n hs rf (w64 (fr + 2)) (gMi mf (rf (w64 (fr + 2))) mo (some (Out.of (V (mf (rf fr) mo) (mf (rf (w64 (fr + 1))) mo) (mf (rf (w64 (fr + 2))) mo)))))))))
theorem ve_ev : ev Tryz.prog R4 [rwK rf, kS Tryz.prog 68 (miG' mf)] noL Tryz.f23 [sI n hs, iA fr, iA mo] ret = veX n hs rf mf fr mo := by kernel_rfl
end
def mve (n : Nat) (hs : Nat → Int) (fr mo : Int) (i : Nat) : Nat := mmi mpk mth (mrw n hs (w64 (fr + (i : Nat)))) mo
theorem gR_pos {n : Nat} {hs : Nat → Int} {k : Int} {o : Option Out} (h : 0 ≤ k) : gR n hs (mrw n hs) k o = o := gate_pos (mraw h)
theorem gMi_pos {c mo : Int} {o : Option Out} (h : moOk mo) : gMi (mmi mpk mth) c mo o = o := gate_pos (mmilli h c)
theorem mvec {n : Nat} {hs : Nat → Int} {fr mo : Int} (h0 : 0 ≤ fr) (h1 : fr ≤ 1000) (hm : moOk mo) : FSpec Tryz.prog 23 [sI n hs, iA fr, iA mo] (V (mve n hs fr mo 0) (mve n hs fr mo 1) (mve n hs fr mo 2)) := by
  refine gspec R4_ok (k_cons kS_ok (k_cons kS_ok k_nil)) Tryz.func23 (by kernel_rfl) (by kernel_rfl) noL_ok rfl ((ve_ev n hs (mrw n hs) (mmi mpk mth) fr mo).trans ?_)
  have e0 : w64 (fr + ((0 : Nat) : Int)) = fr := by rw [w64_id (by omega) (by omega)]; omega
  have a1 : 0 ≤ w64 (fr + 1) := by rw [w64_id (by omega) (by omega)]; omega
  have a2 : 0 ≤ w64 (fr + 2) := by rw [w64_id (by omega) (by omega)]; omega
  unfold veX mve
  rw [gR_pos h0, gMi_pos hm, gR_pos a1, gMi_pos hm, gR_pos a2, gMi_pos hm, e0]
  rfl
/-! ### Rays -/
section
variable (n : Nat) (hs : Nat → Int) (pf : Int → Int → Int) (tf : Int → Nat) (rf : Int → Int) (vf : Int → Int → Nat → Nat)
def vcG (vf : Int → Int → Nat → Nat) : List AV → AV
  | [_, .x (.int .i64 fr), .x (.int .i64 mo)] => V (vf fr mo 0) (vf fr mo 1) (vf fr mo 2)
  | _ => .any
noncomputable def vcK : KEntry := kS Tryz.prog 23 (vcG vf)
noncomputable def gV (fr mo : Int) (o : Option Out) : Option Out := gate (FSpec Tryz.prog 23 [sI n hs, iA fr, iA mo] (V (vf fr mo 0) (vf fr mo 1) (vf fr mo 2))) o
def ryO (x y z : Nat) : Option Out := some (Out.of (.agg [.f (vf 14 6000 0), .f (vf 14 6000 1), .f (vf 14 6000 2), .f x, .f y, .f z, .f (tf (pf (rf 20) 3))]))
def ryN (x y z : Nat) : Option Out := cond (noughtB x y z) (ryO pf tf rf vf x y one) (ryO pf tf rf vf x y z)
def ryY (x : Nat) : Option Out := cond (pf (rf 22) 4 == 0) (ryN pf tf rf vf x 0 (vf 17 1500 2)) (ryN pf tf rf vf x (vf 17 1500 1) (vf 17 1500 2))
noncomputable def ryX : Option Out := gV n hs vf 14 6000 (gV n hs vf 17 1500 (gR n hs rf 20 (gR n hs rf 21 (cond (pf (rf 21) 3 == 0) (gR n hs rf 22 (ryY pf tf rf vf 0)) (gR n hs rf 22 (ryY pf tf rf vf (vf 17 1500 0)))))))
theorem ry_ev : ev Tryz.prog (M0 pf tf) [rwK rf, vcK vf] noL Tryz.f22 [sI n hs, iA 14] ret = ryX n hs pf tf rf vf := by kernel_rfl
end
theorem gV_pos {n : Nat} {hs : Nat → Int} {fr mo : Int} {o : Option Out} (h0 : 0 ≤ fr) (h1 : fr ≤ 1000) (hm : moOk mo) : gV n hs (mve n hs) fr mo o = o := gate_pos (mvec h0 h1 hm)
theorem mray (n : Nat) (hs : Nat → Int) : ∃ r, FSpec Tryz.prog 22 [sI n hs, iA 14] (RY r) := by
  have h := ry_ev n hs mpk mth (mrw n hs) (mve n hs)
  have go : ∃ x y z, ryX n hs mpk mth (mrw n hs) (mve n hs) = ryO mpk mth (mrw n hs) (mve n hs) x y z := by
    unfold ryX
    rw [gV_pos (by decide) (by decide) (Or.inr (Or.inr (Or.inl rfl))), gV_pos (by decide) (by decide) (Or.inr (Or.inr (Or.inr (Or.inl rfl)))), gR_pos (by decide), gR_pos (by decide), gR_pos (by decide), gR_pos (by decide)]
    have ex : ∀ x y z, ∃ z', ryN mpk mth (mrw n hs) (mve n hs) x y z = ryO mpk mth (mrw n hs) (mve n hs) x y z' := fun x y z => by
      unfold ryN
      cases noughtB x y z
      · exact ⟨_, rfl⟩
      · exact ⟨_, rfl⟩
    unfold ryY
    cases mpk (mrw n hs 21) 3 == 0 <;> cases mpk (mrw n hs 22) 4 == 0 <;> simp only [cond_true, cond_false]
    all_goals
      obtain ⟨z', e⟩ := ex _ _ _
      exact ⟨_, _, z', e⟩
  obtain ⟨x, y, z, e⟩ := go
  exact ⟨ls [mve n hs 14 6000 0, mve n hs 14 6000 1, mve n hs 14 6000 2, x, y, z, mth (mpk (mrw n hs 20) 3)], gspec M0_ok (k_cons kS_ok (k_cons kS_ok k_nil)) Tryz.func22 (by kernel_rfl) (by kernel_rfl) noL_ok rfl (h.trans e)⟩
/-! ### Shapes -/
section
variable (n : Nat) (hs : Nat → Int) (pf : Int → Int → Int) (tf : Int → Nat) (rf : Int → Int) (vf : Int → Int → Nat → Nat) (x y w : Nat)
def shK : Int := w64 (1 + pf (rf 0) 6)
def shR : Nat := tf (w64 (1 + pf (rf 8) 2500))
def shO (B C : Nat → Nat) (R Q : Nat) : Option Out := some (Out.of (.agg [iA (shK pf rf), .f (vf 1 4000 0), .f (vf 1 4000 1), .f (vf 1 4000 2), .f (B 0), .f (B 1), .f (B 2), .f (C 0), .f (C 1), .f (C 2), .f R, .f Q, iA (pf (rf 7) 3)]))
def z3 : Nat → Nat := fun _ => 0
def shB2 : Nat → Nat := ls [fadd (vf 1 4000 0) (shR pf tf rf), fadd (vf 1 4000 1) (tf (pf (rf 5) 2000)), fadd (vf 1 4000 2) (tf (pf (rf 6) 2000))]
def shB3 : Nat → Nat := ls [fadd (vf 1 4000 0) (vf 4 3000 0), fadd (vf 1 4000 1) (vf 4 3000 1), fadd (vf 1 4000 2) (vf 4 3000 2)]
def shD : Int := w64 (1 + pf (rf 4) 3)
def shQ : Nat := tf (w64 (1 + w64 ((pf (rf 8) 2500).tdiv (shD pf rf))))
noncomputable def gPu (o : Option Out) : Option Out := gate (FSpec Tryz.prog 66 [V 0 0 0, iA (pf (rf 6) 3), .f (tf (w64 (1 + pf (rf 5) 3000)))] (V x y w)) o
noncomputable def sh56 : Option Out := gR n hs rf 6 (gR n hs rf 5 (gPu pf tf rf x y w (cond (shK pf rf == 6) (gR n hs rf 8 (gR n hs rf 4 (cond ((!(shD pf rf == 0)) && true) (shO pf rf vf (ls [x, y, w]) z3 (shR pf tf rf) (shQ pf tf rf)) none))) (shO pf rf vf (ls [x, y, w]) z3 (shR pf tf rf) 0))))
def sh4 : Option Out := cond (noughtB (vf 4 3000 0) (vf 4 3000 1) (vf 4 3000 2)) (shO pf rf vf (ls [0, one, 0]) z3 (shR pf tf rf) 0) (shO pf rf vf (vf 4 3000) z3 (shR pf tf rf) 0)
noncomputable def shX : Option Out := gR n hs rf 0 (gV n hs vf 1 4000 (gR n hs rf 7 (gV n hs vf 4 3000 (gR n hs rf 8
  (cond (shK pf rf == 1) (shO pf rf vf z3 z3 (shR pf tf rf) 0) (cond (shK pf rf == 2) (gR n hs rf 5 (gR n hs rf 6 (shO pf rf vf (shB2 pf tf rf vf) z3 0 0))) (cond (shK pf rf == 3) (gV n hs vf 9 4000 (shO pf rf vf (shB3 vf) (ls [vf 9 4000 0, vf 9 4000 1, vf 9 4000 2]) 0 0))
    (cond (shK pf rf == 5) (cond (shK pf rf == 5) (sh56 n hs pf tf rf vf x y w) (sh4 pf tf rf vf)) (cond (shK pf rf == 6) (sh56 n hs pf tf rf vf x y w) (sh4 pf tf rf vf))))))))))
def M1 (pf : Int → Int → Int) (tf : Int → Nat) : List Entry := ⟨36, ePk pf⟩ :: ⟨64, eI fun n => .f (tf n)⟩ :: ⟨67, eV fun a b c => bA (noughtB a b c)⟩ :: R3
theorem M1_ok : ∀ e, e ∈ M1 mpk mth → EOk Tryz.prog e := e_cons ePk_ok <| e_cons (eI_ok mthou) <| e_cons (eV_ok rnought) R3_ok
theorem sh_ev : ev Tryz.prog (M1 pf tf) [rwK rf, vcK vf, kS Tryz.prog 66 fun _ => V x y w] noL Tryz.f21 [sI n hs, iA 0, iA 3] ret = shX n hs pf tf rf vf x y w := by kernel_rfl
end
theorem mpk_range {c m : Int} (hc : -9223372036854775808 ≤ c) (hc' : c ≤ 9223372036854775807) (hm : 0 < m) : 0 ≤ mpk c m ∧ mpk c m < m := by
  have h0 : 0 ≤ mpk0 c := by
    unfold mpk0
    by_cases h : c < 0
    · rw [decide_eq_true h, cond_true, w64_id (n := c + 1) (by omega) (by omega), w64_id (by omega) (by omega)]
      omega
    · rw [decide_eq_false h]; show 0 ≤ c; omega
  unfold mpk
  rw [Int.tmod_eq_emod_of_nonneg h0]
  exact ⟨Int.emod_nonneg _ (by omega), Int.emod_lt_of_pos _ hm⟩
theorem mrw_range {n : Nat} {hs : Nat → Int} (h : ∀ i, i < n → -9223372036854775808 ≤ hs i ∧ hs i ≤ 9223372036854775807) {k : Int} (hk : 0 ≤ k) : -9223372036854775808 ≤ mrw n hs k ∧ mrw n hs k ≤ 9223372036854775807 := by
  unfold mrw
  cases hn : ((n : Int) == 0)
  · have h0 : (n : Int) ≠ 0 := fun e => by rw [e] at hn; cases hn
    rw [cond_false, Int.tmod_eq_emod_of_nonneg hk]
    have a := Int.emod_nonneg k h0
    have b := Int.emod_lt_of_pos k (show (0 : Int) < n by omega)
    exact h _ (by omega)
  · show -9223372036854775808 ≤ (0 : Int) ∧ (0 : Int) ≤ 9223372036854775807; omega
theorem mshape {n : Nat} {hs : Nat → Int} (h : ∀ i, i < n → -9223372036854775808 ≤ hs i ∧ hs i ≤ 9223372036854775807) : ∃ k a sk, FSpec Tryz.prog 21 [sI n hs, iA 0, iA 3] (SH k a sk) := by
  have ax := mpk_range (m := 3) (mrw_range h (k := 6) (by decide)).1 (mrw_range h (k := 6) (by decide)).2 (by decide)
  have dd := mpk_range (m := 3) (mrw_range h (k := 4) (by decide)).1 (mrw_range h (k := 4) (by decide)).2 (by decide)
  have hD : shD mpk (mrw n hs) ≠ 0 := by unfold shD; rw [w64_id (by omega) (by omega)]; omega
  obtain ⟨x, y, w, hp⟩ : ∃ x y w, FSpec Tryz.prog 66 [V 0 0 0, iA (mpk (mrw n hs 6) 3), .f (mth (w64 (1 + mpk (mrw n hs 5) 3000)))] (V x y w) := by
    generalize mth (w64 (1 + mpk (mrw n hs 5) 3000)) = t
    have : mpk (mrw n hs 6) 3 = 0 ∨ mpk (mrw n hs 6) 3 = 1 ∨ mpk (mrw n hs 6) 3 = 2 := by omega
    rcases this with e | e | e <;> rw [e]
    · exact ⟨_, _, _, rput0 0 0 0 t⟩
    · exact ⟨_, _, _, rput1 0 0 0 t⟩
    · exact ⟨_, _, _, rput2 0 0 0 t⟩
  have go : ∃ B C R Q, shX n hs mpk mth (mrw n hs) (mve n hs) x y w = shO mpk (mrw n hs) (mve n hs) B C R Q := by
    have g56 : ∃ B C R Q, sh56 n hs mpk mth (mrw n hs) (mve n hs) x y w = shO mpk (mrw n hs) (mve n hs) B C R Q := by
      unfold sh56 gPu
      rw [gR_pos (by decide), gR_pos (by decide), gate_pos hp, gR_pos (by decide), gR_pos (by decide), beq_false_of_ne hD]
      cases shK mpk (mrw n hs) == 6
      · exact ⟨_, _, _, _, rfl⟩
      · exact ⟨_, _, _, _, rfl⟩
    unfold shX
    rw [gR_pos (by decide), gV_pos (by decide) (by decide) (Or.inl rfl), gR_pos (by decide), gV_pos (by decide) (by decide) (Or.inr (Or.inl rfl)), gR_pos (by decide), gR_pos (by decide), gR_pos (by decide), gV_pos (by decide) (by decide) (Or.inl rfl)]
    cases shK mpk (mrw n hs) == 1
    · cases shK mpk (mrw n hs) == 2
      · cases shK mpk (mrw n hs) == 3
        · cases shK mpk (mrw n hs) == 5
          · cases shK mpk (mrw n hs) == 6
            · show ∃ B C R Q, sh4 mpk mth (mrw n hs) (mve n hs) = _
              unfold sh4
              cases noughtB (mve n hs 4 3000 0) (mve n hs 4 3000 1) (mve n hs 4 3000 2)
              · exact ⟨_, _, _, _, rfl⟩
              · exact ⟨_, _, _, _, rfl⟩
            · exact g56
          · exact g56
        · exact ⟨_, _, _, _, rfl⟩
      · exact ⟨_, _, _, _, rfl⟩
    · exact ⟨_, _, _, _, rfl⟩
  obtain ⟨B, C, R, Q, e⟩ := go
  exact ⟨shK mpk (mrw n hs), ls [mve n hs 1 4000 0, mve n hs 1 4000 1, mve n hs 1 4000 2, B 0, B 1, B 2, C 0, C 1, C 2, R, Q], mpk (mrw n hs 7) 3, gspec M1_ok (k_cons kS_ok (k_cons kS_ok (k_cons kS_ok k_nil))) Tryz.func21 (by kernel_rfl) (by kernel_rfl) noL_ok rfl ((sh_ev n hs mpk mth (mrw n hs) (mve n hs) x y w).trans e)⟩
end Go.Proofs.YtancjnambbkhmaaGreat.Hs

namespace Go.Proofs.YtancjnambbkhmaaGreat.Hs
open Go.Gv
open Go.Ev (cn fadd fsub fmul fdiv fsqrt fneg feq flt fle fgt fge fabs isNan fge_not fle_not nan_fgt nan_flt flt_irr)

section
variable (k : Int) (a : Nat → Nat) (sk : Int) (r : Nat → Nat) (p q u : Nat)
def AgM : Prop := ∃ m, FSpec Tryz.prog 10 [SH k a sk] (iA m) ∧ FSpec Tryz.prog 11 [SH k a sk] (iA m)
def AgB : Prop := ∃ b e, FSpec Tryz.prog 8 [SH k a sk] (.tup [BX b, iA e]) ∧ FSpec Tryz.prog 9 [SH k a sk] (.tup [BX b, iA e])
def AgS : Prop := ∃ t ok e, FSpec Tryz.prog 13 [SH k a sk, RY r] (.tup [.f t, bA ok, iA e]) ∧ FSpec Tryz.prog 14 [SH k a sk, RY r] (.tup [.f t, bA ok, iA e])
def AgN : Prop := ∃ x y w e, FSpec Tryz.prog 16 [SH k a sk, V p q u] (.tup [V x y w, iA e]) ∧ FSpec Tryz.prog 17 [SH k a sk, V p q u] (.tup [V x y w, iA e])
def AgW : Prop := ∃ i o ok e, FSpec Tryz.prog 19 [SH k a sk, RY r] (.tup [.f i, .f o, bA ok, iA e]) ∧ FSpec Tryz.prog 20 [SH k a sk, RY r] (.tup [.f i, .f o, bA ok, iA e])
/-- Both give the same. -/
structure Agree : Prop where
  m : AgM k a sk
  b : AgB k a sk
  s : AgS k a sk r
  n : AgN k a sk p q u
  w : AgW k a sk r
end
theorem agree_bad {k : Int} {a : Nat → Nat} {sk e : Int} (r : Nat → Nat) (p q u : Nat) (h : KNb k a sk e) (g : SMok k a sk e) (he : e ≠ 0) : Agree k a sk r p q u :=
  ⟨⟨e, may_b h, g⟩, ⟨z6, e, bounds_b h he, rbo_b g he⟩, ⟨0, false, e, strike_b (kt_b r h he) he, rst_b g he⟩, ⟨0, 0, 0, e, normal_b p q u h he, rno_b p q u g he⟩, ⟨0, 0, false, e, within_b (kt_b r h he) he, rwi_b g he⟩⟩
theorem agS_good {k : Int} {a : Nat → Nat} {sk : Int} {T : Nat} {b : Nat → Nat} (r : Nat → Nat) (h : KNg k a sk T) (g : SMok k a sk 0) {t : Nat} {ok : Bool}
    (h1 : FSpec Tryz.prog 46 [.ifc T (SH k a sk), RY r] (.tup [.f (htT (meetK b r) ok t (meetN b r) (meetF b r) (r 6)), bA (htK (meetK b r) ok t (r 6))]))
    (hb : FSpec Tryz.prog 39 [SH k a sk] (BX b)) (h2 : rayS r = 0 → ∃ t' ok', (meetK b r = true → OWok k a sk r (meetN b r) (meetF b r) t' ok' ∧ ok' = ok ∧ (ok = true → t' = t))) : AgS k a sk r := by
  by_cases hr : rayS r = 0
  · obtain ⟨t', ok', ho⟩ := h2 hr
    have s2 := rst_g (t := t') (ok := ok') g hr hb fun hm => (ho hm).1
    refine ⟨_, _, 0, strike_g (kt_g h hr) h1, ?_⟩
    cases hm : meetK b r
    · rw [hm] at s2; exact s2
    · rw [hm] at s2
      obtain ⟨_, rfl, e⟩ := ho hm
      cases ok' with
      | false => exact s2
      | true => rw [e rfl] at s2; exact s2
  · exact ⟨0, false, rayS r, strike_b (kt_r h hr) hr, rst_r g hr⟩
theorem agW_none {k : Int} {a : Nat → Nat} {sk : Int} {T : Nat} (r : Nat → Nat) (h : KNg k a sk T) (g : SMok k a sk 0) (hk : noIn k = true)
    (h1 : FSpec Tryz.prog 60 [.ifc T (SH k a sk), RY r] (.tup [.f 0, .f 0, bA false, iA 3])) : AgW k a sk r := by
  by_cases hr : rayS r = 0
  · exact ⟨0, 0, false, 3, within_g (kt_g h hr) h1, rwi_n g hr hk⟩
  · exact ⟨0, 0, false, rayS r, within_b (kt_r h hr) hr, rwi_r g hr⟩
theorem agW_good {k : Int} {a : Nat → Nat} {sk : Int} {T : Nat} {b : Nat → Nat} (r : Nat → Nat) (h : KNg k a sk T) (g : SMok k a sk 0) (hk : noIn k = false) {i o : Nat} {ok : Bool}
    (h1 : FSpec Tryz.prog 60 [.ifc T (SH k a sk), RY r] (.tup [.f (paI (meetK b (r0 r)) ok i o (meetN b (r0 r)) (meetF b (r0 r))), .f (paO (meetK b (r0 r)) ok i o (meetN b (r0 r)) (meetF b (r0 r))), bA (paK (meetK b (r0 r)) ok i o (meetN b (r0 r)) (meetF b (r0 r))), iA 0]))
    (hb : FSpec Tryz.prog 39 [SH k a sk] (BX b)) (h2 : ∃ i' o' ok', (meetK b (r0 r) = true → IOok k a sk (r0 r) (meetN b (r0 r)) (meetF b (r0 r)) i' o' ok' ∧ ok' = ok ∧ (ok = true → i' = i ∧ o' = o))) : AgW k a sk r := by
  by_cases hr : rayS r = 0
  · obtain ⟨i', o', ok', ho⟩ := h2
    have s2 := rwi_g (i := i') (o := o') (ok := ok') g hr hk hb fun hm => (ho hm).1
    refine ⟨_, _, _, 0, within_g (kt_g h hr) h1, ?_⟩
    cases hm : meetK b (r0 r)
    · rw [hm] at s2; exact s2
    · rw [hm] at s2
      obtain ⟨_, rfl, e⟩ := ho hm
      cases ok' with
      | false => exact s2
      | true => rw [(e rfl).1, (e rfl).2] at s2; exact s2
  · exact ⟨0, 0, false, rayS r, within_b (kt_r h hr) hr, rwi_r g hr⟩
theorem knE_zero {a : Nat → Nat} {sk m : Int} {b : Nat → Nat} (h : knE a sk m b = 0) : rcB a = false ∧ m = 0 ∧ mayS b = 0 := by
  unfold knE at h
  cases h1 : skB sk
  · rw [h1] at h
    cases h2 : rcB a
    · rw [h2] at h
      cases h3 : (m == 0)
      · rw [h3] at h
        have h : m = 0 := h
        rw [h] at h3; cases h3
      · rw [h3] at h
        cases h4 : (mayS b == 0)
        · rw [h4] at h; cases h
        · exact ⟨rfl, eq_of_beq h3, eq_of_beq h4⟩
    · rw [h2] at h; cases h
  · rw [h1] at h; cases h
theorem rc_fine {a : Nat → Nat} (h : rcB a = false) : fineS (a 0) (a 1) (a 2) = true ∧ fineS (a 3) (a 4) (a 5) = true ∧ fineS (a 6) (a 7) (a 8) = true := by
  unfold rcB at h
  revert h
  cases fineS (a 0) (a 1) (a 2) <;> cases fineS (a 3) (a 4) (a 5) <;> cases fineS (a 6) (a 7) (a 8) <;> cases nearS (a 9) <;> cases nearS (a 10) <;> intro h <;> first | (cases h; done) | exact ⟨rfl, rfl, rfl⟩
theorem more_nan {n x : Nat} (h : isNan n = false) : isNan (moreS n x) = false := by
  unfold moreS
  cases g : fgt x n
  · exact h
  · exact (nan_fgt g).1
theorem less_nan {n x : Nat} (h : isNan n = false) : isNan (lessS n x) = false := by
  unfold lessS
  cases g : flt x n
  · exact h
  · exact (nan_flt g).1
theorem cutN_nan {lo hi o d n : Nat} (h : isNan n = false) : isNan (cutN lo hi o d n) = false := by
  unfold cutN
  cases feq d 0
  · exact more_nan h
  · exact h
theorem cutF_nan {lo hi o d n : Nat} (h : isNan n = false) : isNan (cutF lo hi o d n) = false := by
  unfold cutF
  cases feq d 0
  · exact less_nan h
  · exact h
theorem meet_nan {b r : Nat → Nat} (h : meetK b r = true) : isNan (meetN b r) = false ∧ isNan (meetF b r) = false := by
  have hb : badS b r = false := by
    unfold meetK at h
    cases hb : badS b r
    · rfl
    · rw [hb] at h; cases h
  have hl := near_nan (ray_ok (bad_false hb).2).least
  unfold meetN meetF
  rw [h]
  exact ⟨cutN_nan (cutN_nan (cutN_nan hl)), cutF_nan (cutF_nan (cutF_nan (by decide +kernel)))⟩
section
variable (a : Nat → Nat) (sk : Int) (r : Nat → Nat) (p q u : Nat)
theorem ag1 : Agree 1 a sk r p q u := by
  have sm := sm1 a sk
  by_cases h : e1 a sk = 0
  · rw [h] at sm
    have kg := kn1_good a sk h
    refine ⟨⟨0, may_g kg, sm⟩, ⟨_, 0, boK1 a sk h, rbo_g sm (ar1 a sk)⟩, agS_good r kg sm (sk1 a sk r) (ar1 a sk) fun _ => ⟨_, _, fun _ => ⟨ow1 a sk r _ _ (io1 a sk r _ _), rfl, fun hk => ?_⟩⟩, ⟨_, _, _, _, noK1 a sk p q u h, ?_⟩, agW_good r kg sm rfl (wiK1 a sk r) (ar1 a sk) ⟨_, _, _, fun _ => ⟨io1 a sk (r0 r) _ _, rfl, fun _ => ⟨rfl, rfl⟩⟩⟩⟩
    · unfold ballT; rw [hk]; rfl
    · exact gspec R6_ok (k_cons kS_ok k_nil) Tryz.func17 (by kernel_rfl) (by kernel_rfl) noL_ok rfl ((rno1_ev a sk 0 p q u).trans ((rnZ_pos sm).trans (rnY_eq _ _ _ _ _ _)))
  · exact agree_bad r p q u (kn1_bad a sk h) sm h
theorem ag2 : Agree 2 a sk r p q u := by
  have sm := sm2 a sk
  by_cases h : e2 a sk = 0
  · have hz := h
    rw [h] at sm
    have kg := kn2_good a sk h
    have fa := fine_near (rc_fine (knE_zero hz).1).1
    refine ⟨⟨0, may_g kg, sm⟩, ⟨_, 0, boK2 a sk h, rbo_g sm (ar2 a sk)⟩, agS_good r kg sm (sk2 a sk r) (ar2 a sk) fun _ => ⟨_, _, fun _ => ⟨ow2 a sk r _ _, rfl, fun _ => rfl⟩⟩, ⟨_, _, _, _, noK2 a sk p q u h, ?_⟩, agW_good r kg sm rfl (wiK2 a sk r) (ar2 a sk) ⟨_, _, _, fun _ => ⟨io2 a sk (r0 r) _ _, rfl, fun _ => ⟨rfl, rfl⟩⟩⟩⟩
    cases hp : fineS p q u
    · refine gspec R6_ok (k_cons kS_ok (k_cons kS_ok k_nil)) Tryz.func17 (by kernel_rfl) (by kernel_rfl) noL_ok rfl ((rno2_ev a sk 0 p q u 0 0 0).trans ((rnZ_pos sm).trans ?_))
      unfold rnG noC noE
      rw [hp]; rfl
    · have hn := rnearest 2 a sk p q u
      rw [sdN_eq (a := a) (p := ls [p, q, u]) (fine_near hp).1 fa.1] at hn
      have h3 := gspec R6_ok (k_cons kS_ok (k_cons kS_ok k_nil)) Tryz.func17 (by kernel_rfl) (by kernel_rfl) noL_ok rfl ((rno2_ev a sk 0 p q u (sdC (sdN a (ls [p, q, u]) infF) 0) (sdC (sdN a (ls [p, q, u]) infF) 1) (sdC (sdN a (ls [p, q, u]) infF) 2)).trans ((rnZ_pos sm).trans ((rnG_pos hn).trans (rnY_eq _ _ _ _ _ _))))
      exact h3
  · exact agree_bad r p q u (kn2_bad a sk h) sm h
theorem ag3 : Agree 3 a sk r p q u := by
  have sm := sm3 a sk
  by_cases h : e3 a sk = 0
  · obtain ⟨fA, fB, fC⟩ := rc_fine (knE_zero h).1
    rw [h] at sm
    have kg := kn3_good a sk h
    refine ⟨⟨0, may_g kg, sm⟩, ⟨_, 0, boK3 a sk h, rbo_g sm (ar3 a sk)⟩, agS_good r kg sm (sk3 a sk r) (ar3 a sk) fun hr => ⟨_, _, fun _ => ⟨ow3 a sk r _ _ hr fA fB fC, (byD_eq r fun z => trK a r z).symm, fun _ => (byD_eq r fun z => trT a r z).symm⟩⟩, ⟨_, _, _, _, noK3 a sk p q u h, ?_⟩, agW_none r kg sm rfl (wiK3 a sk r)⟩
    exact gspec R6_ok (k_cons kS_ok k_nil) Tryz.func17 (by kernel_rfl) (by kernel_rfl) noL_ok rfl ((rno3_ev a sk 0 p q u).trans ((rnZ_pos sm).trans (rnY_eq _ _ _ _ _ _)))
  · exact agree_bad r p q u (kn3_bad a sk h) sm h
theorem ag4 : Agree 4 a sk r p q u := by
  have sm := sm4 a sk
  by_cases h : e4 a sk = 0
  · rw [h] at sm
    have kg := kn4_good a sk h
    refine ⟨⟨0, may_g kg, sm⟩, ⟨_, 0, boK4 a sk h, rbo_g sm (ar4 a sk)⟩, agS_good r kg sm (sk4 a sk r) (ar4 a sk) fun _ => ⟨_, _, fun _ => ⟨ow4 a sk r _ _, rfl, fun _ => rfl⟩⟩, ⟨_, _, _, _, noK4 a sk p q u h, ?_⟩, agW_none r kg sm rfl (wiK4 a sk r)⟩
    exact gspec R6_ok (k_cons kS_ok k_nil) Tryz.func17 (by kernel_rfl) (by kernel_rfl) noL_ok rfl ((rno4_ev a sk 0 p q u).trans ((rnZ_pos sm).trans (rnY_eq _ _ _ _ _ _)))
  · exact agree_bad r p q u (kn4_bad a sk h) sm h
theorem ax_of5 {a : Nat → Nat} {sk : Int} (h : e5 a sk = 0) : axO (a 3) (a 4) (a 5) = true := by
  have := (knE_zero h).2.1
  unfold tubeM at this
  cases ho : axO (a 3) (a 4) (a 5)
  · rw [ho] at this; cases this
  · rfl
theorem ax_of6 {a : Nat → Nat} {sk : Int} (h : e6 a sk = 0) : axO (a 3) (a 4) (a 5) = true := by
  have := (knE_zero h).2.1
  unfold ringM at this
  cases ho : axO (a 3) (a 4) (a 5)
  · rw [ho] at this; cases this
  · rfl
theorem ag5 : Agree 5 a sk r p q u := by
  have sm := sm5 a sk
  by_cases h : e5 a sk = 0
  · have ho := ax_of5 h
    rw [h] at sm
    have kg := kn5_good a sk h
    refine ⟨⟨0, may_g kg, sm⟩, ⟨_, 0, boK5 a sk h, rbo_g sm (ar5 a sk ho)⟩, agS_good r kg sm (sk5 a sk r) (ar5 a sk ho) fun _ => ⟨_, _, fun hm => ⟨ow5 a sk r _ _ (io5 a sk r _ _ ho), rtK_eq a r _ _ _ (meet_nan hm).1 (meet_nan hm).2, fun hk => ?_⟩⟩, ⟨_, _, _, _, noK5 a sk p q u h, ?_⟩, agW_good r kg sm rfl (wiK5 a sk r) (ar5 a sk ho) ⟨_, _, _, fun hm => ⟨io5 a sk (r0 r) _ _ ho, rtK_eq a (r0 r) _ _ _ (meet_nan hm).1 (meet_nan hm).2, fun hk => ?_⟩⟩⟩
    · unfold tubT tbN tbF rtI rtU; rw [hk]; rfl
    · rw [byZ_eq, byZ_eq, byZ_eq]
      exact gspec R6_ok (k_cons kS_ok (k_cons kS_ok k_nil)) Tryz.func17 (by kernel_rfl) (by kernel_rfl) noL_ok rfl ((rno5_ev a sk 0 p q u _ _ _).trans ((rnZ_pos sm).trans ((rnG_pos (rtubeSide 5 a sk p q u ho)).trans (rnY_eq _ _ _ _ _ _))))
    · unfold tbN tbF rtI rtU; rw [hk]; exact ⟨rfl, rfl⟩
  · exact agree_bad r p q u (kn5_bad a sk h) sm h
/-- Rings: but for where they are struck. -/
theorem ag6 (hs : e6 a sk = 0 → AgS 6 a sk r) : Agree 6 a sk r p q u := by
  have sm := sm6 a sk
  by_cases h : e6 a sk = 0
  · have ho := ax_of6 h
    rw [h] at sm
    have kg := kn6_good a sk h
    refine ⟨⟨0, may_g kg, sm⟩, ⟨_, 0, boK6 a sk h, rbo_g sm (ar6 a sk ho)⟩, hs h, ⟨_, _, _, _, noK6 a sk p q u h, ?_⟩, agW_none r kg sm rfl (wiK6 a sk r)⟩
    exact gspec R6_ok (k_cons kS_ok (k_cons kS_ok k_nil)) Tryz.func17 (by kernel_rfl) (by kernel_rfl) noL_ok rfl ((rno6_ev a sk 0 p q u _ _ _).trans ((rnZ_pos sm).trans ((rnG_pos (rringSide 6 a sk p q u ho)).trans (rnY_eq _ _ _ _ _ _))))
  · exact agree_bad r p q u (kn6_bad a sk h) sm h
theorem ag_all (k : Int) (hs : e6 a sk = 0 → AgS 6 a sk r) : Agree k a sk r p q u := by
  by_cases h1 : k = 1
  · subst h1; exact ag1 a sk r p q u
  by_cases h2 : k = 2
  · subst h2; exact ag2 a sk r p q u
  by_cases h3 : k = 3
  · subst h3; exact ag3 a sk r p q u
  by_cases h4 : k = 4
  · subst h4; exact ag4 a sk r p q u
  by_cases h5 : k = 5
  · subst h5; exact ag5 a sk r p q u
  by_cases h6 : k = 6
  · subst h6; exact ag6 a sk r p q u hs
  exact agree_bad r p q u (kn0_bad ⟨h1, h2, h3, h4, h5, h6⟩ a sk) (sm0 a sk ⟨h1, h2, h3, h4, h5, h6⟩) (e0_ne a sk)
end
/-! ### The law -/
section
variable (k : Int) (a : Nat → Nat) (sk : Int) (r : Nat → Nat) (p q u : Nat) (m eb es en ew : Int) (b : Nat → Nat) (t x y w i o : Nat) (ok ok' : Bool)
noncomputable def lawK : List KEntry := [kS Tryz.prog 10 fun _ => iA m, kS Tryz.prog 11 fun _ => iA m, kS Tryz.prog 8 fun _ => .tup [BX b, iA eb], kS Tryz.prog 9 fun _ => .tup [BX b, iA eb],
  kS Tryz.prog 13 fun _ => .tup [.f t, bA ok, iA es], kS Tryz.prog 14 fun _ => .tup [.f t, bA ok, iA es], kS Tryz.prog 16 fun _ => .tup [V x y w, iA en], kS Tryz.prog 17 fun _ => .tup [V x y w, iA en],
  kS Tryz.prog 19 fun _ => .tup [.f i, .f o, bA ok', iA ew], kS Tryz.prog 20 fun _ => .tup [.f i, .f o, bA ok', iA ew]]
noncomputable def g2 (c d : Prop) (z : Option Out) : Option Out := gate c (gate d z)
def falO : Option Out := some (Out.of (bA false))
noncomputable def lawX : Option Out :=
  g2 (FSpec Tryz.prog 8 [SH k a sk] (.tup [BX b, iA eb])) (FSpec Tryz.prog 9 [SH k a sk] (.tup [BX b, iA eb])) (g2 (FSpec Tryz.prog 10 [SH k a sk] (iA m)) (FSpec Tryz.prog 11 [SH k a sk] (iA m))
  (cond (cond (cond (!(m == m)) true (!(eb == eb))) true (!sameB b b)) falO
  (g2 (FSpec Tryz.prog 13 [SH k a sk, RY r] (.tup [.f t, bA ok, iA es])) (FSpec Tryz.prog 14 [SH k a sk, RY r] (.tup [.f t, bA ok, iA es])) (cond (cond (cond (!(ok == ok)) true (!(es == es))) true (!sameS t t)) falO
  (g2 (FSpec Tryz.prog 16 [SH k a sk, V p q u] (.tup [V x y w, iA en])) (FSpec Tryz.prog 17 [SH k a sk, V p q u] (.tup [V x y w, iA en])) (cond (cond (!(en == en)) true (!sameVS x y w x y w)) falO
  (g2 (FSpec Tryz.prog 19 [SH k a sk, RY r] (.tup [.f i, .f o, bA ok', iA ew])) (FSpec Tryz.prog 20 [SH k a sk, RY r] (.tup [.f i, .f o, bA ok', iA ew])) (some (Out.of (bA (cond (cond (cond (ok' == ok') (ew == ew) false) (sameS i i) false) (sameS o o) false)))))))))))
theorem law_ev : ev Tryz.prog R3 (lawK m eb es en ew b t x y w i o ok ok') noL Tryz.f3 [SH k a sk, RY r, V p q u] ret = lawX k a sk r p q u m eb es en ew b t x y w i o ok ok' := by kernel_rfl
end
theorem shape_law {k : Int} {a : Nat → Nat} {sk : Int} {r : Nat → Nat} {p q u : Nat} (h : Agree k a sk r p q u) : FSpec Tryz.prog 3 [SH k a sk, RY r, V p q u] (bA true) := by
  obtain ⟨⟨m, m1, m2⟩, ⟨b, eb, b1, b2⟩, ⟨t, ok, es, s1, s2⟩, ⟨x, y, w, en, n1, n2⟩, ⟨i, o, ok', ew, w1, w2⟩⟩ := h
  refine gspec R3_ok (k_cons kS_ok (k_cons kS_ok (k_cons kS_ok (k_cons kS_ok (k_cons kS_ok (k_cons kS_ok (k_cons kS_ok (k_cons kS_ok (k_cons kS_ok (k_cons kS_ok k_nil)))))))))) Tryz.func3 (by kernel_rfl) (by kernel_rfl) noL_ok rfl ((law_ev k a sk r p q u m eb es en ew b t x y w i o ok ok').trans ?_)
  unfold lawX g2
  rw [gate_pos b1, gate_pos b2, gate_pos m1, gate_pos m2, gate_pos s1, gate_pos s2, gate_pos n1, gate_pos n2, gate_pos w1, gate_pos w2, sameB_self, sameS_self, sameVS_self, sameS_self, sameS_self]
  simp only [BEq.rfl]
  rfl
end Go.Proofs.YtancjnambbkhmaaGreat.Hs

namespace Go.Proofs.YtancjnambbkhmaaGreat.Hs
open Go.Gv
open Go.Ev (cn fadd fsub fmul fdiv fsqrt fneg feq flt fle fgt fge fabs isNan)

/-- Within: the same, and what is within has a beginning ahead of its end. -/
def AgW2 (k : Int) (a : Nat → Nat) (sk : Int) (r : Nat → Nat) : Prop := ∃ i o ok e, FSpec Tryz.prog 19 [SH k a sk, RY r] (.tup [.f i, .f o, bA ok, iA e]) ∧ FSpec Tryz.prog 20 [SH k a sk, RY r] (.tup [.f i, .f o, bA ok, iA e]) ∧ (ok = true → flt i o = true)
theorem pa_lt {m k : Bool} {i o n f : Nat} (h : paK m k i o n f = true) : flt (paI m k i o n f) (paO m k i o n f) = true := by
  unfold paI paO
  rw [h]
  unfold paK at h
  revert h
  cases m <;> cases k <;> simp
theorem agW2_bad {k : Int} {a : Nat → Nat} {sk e : Int} (r : Nat → Nat) (h : KNb k a sk e) (g : SMok k a sk e) (he : e ≠ 0) : AgW2 k a sk r := ⟨0, 0, false, e, within_b (kt_b r h he) he, rwi_b g he, fun h => by cases h⟩
theorem agW2_none {k : Int} {a : Nat → Nat} {sk : Int} {T : Nat} (r : Nat → Nat) (h : KNg k a sk T) (g : SMok k a sk 0) (hk : noIn k = true)
    (h1 : FSpec Tryz.prog 60 [.ifc T (SH k a sk), RY r] (.tup [.f 0, .f 0, bA false, iA 3])) : AgW2 k a sk r := by
  by_cases hr : rayS r = 0
  · exact ⟨0, 0, false, 3, within_g (kt_g h hr) h1, rwi_n g hr hk, fun h => by cases h⟩
  · exact ⟨0, 0, false, rayS r, within_b (kt_r h hr) hr, rwi_r g hr, fun h => by cases h⟩
theorem agW2_good {k : Int} {a : Nat → Nat} {sk : Int} {T : Nat} {b : Nat → Nat} (r : Nat → Nat) (h : KNg k a sk T) (g : SMok k a sk 0) (hk : noIn k = false) {i o : Nat} {ok : Bool}
    (h1 : FSpec Tryz.prog 60 [.ifc T (SH k a sk), RY r] (.tup [.f (paI (meetK b (r0 r)) ok i o (meetN b (r0 r)) (meetF b (r0 r))), .f (paO (meetK b (r0 r)) ok i o (meetN b (r0 r)) (meetF b (r0 r))), bA (paK (meetK b (r0 r)) ok i o (meetN b (r0 r)) (meetF b (r0 r))), iA 0]))
    (hb : FSpec Tryz.prog 39 [SH k a sk] (BX b)) (h2 : ∃ i' o' ok', (meetK b (r0 r) = true → IOok k a sk (r0 r) (meetN b (r0 r)) (meetF b (r0 r)) i' o' ok' ∧ ok' = ok ∧ (ok = true → i' = i ∧ o' = o))) : AgW2 k a sk r := by
  by_cases hr : rayS r = 0
  · obtain ⟨i', o', ok', ho⟩ := h2
    have s2 := rwi_g (i := i') (o := o') (ok := ok') g hr hk hb fun hm => (ho hm).1
    refine ⟨_, _, _, 0, within_g (kt_g h hr) h1, ?_, pa_lt⟩
    cases hm : meetK b (r0 r)
    · rw [hm] at s2; exact s2
    · rw [hm] at s2
      obtain ⟨_, rfl, e⟩ := ho hm
      cases ok' with
      | false => exact s2
      | true => rw [(e rfl).1, (e rfl).2] at s2; exact s2
  · exact ⟨0, 0, false, rayS r, within_b (kt_r h hr) hr, rwi_r g hr, fun h => by cases h⟩
theorem agW2_all (k : Int) (a : Nat → Nat) (sk : Int) (r : Nat → Nat) : AgW2 k a sk r := by
  by_cases h1 : k = 1
  · subst h1
    have sm := sm1 a sk
    by_cases h : e1 a sk = 0
    · rw [h] at sm
      exact agW2_good r (kn1_good a sk h) sm rfl (wiK1 a sk r) (ar1 a sk) ⟨_, _, _, fun _ => ⟨io1 a sk (r0 r) _ _, rfl, fun _ => ⟨rfl, rfl⟩⟩⟩
    · exact agW2_bad r (kn1_bad a sk h) sm h
  by_cases h2 : k = 2
  · subst h2
    have sm := sm2 a sk
    by_cases h : e2 a sk = 0
    · rw [h] at sm
      exact agW2_good r (kn2_good a sk h) sm rfl (wiK2 a sk r) (ar2 a sk) ⟨_, _, _, fun _ => ⟨io2 a sk (r0 r) _ _, rfl, fun _ => ⟨rfl, rfl⟩⟩⟩
    · exact agW2_bad r (kn2_bad a sk h) sm h
  by_cases h3 : k = 3
  · subst h3
    have sm := sm3 a sk
    by_cases h : e3 a sk = 0
    · rw [h] at sm; exact agW2_none r (kn3_good a sk h) sm rfl (wiK3 a sk r)
    · exact agW2_bad r (kn3_bad a sk h) sm h
  by_cases h4 : k = 4
  · subst h4
    have sm := sm4 a sk
    by_cases h : e4 a sk = 0
    · rw [h] at sm; exact agW2_none r (kn4_good a sk h) sm rfl (wiK4 a sk r)
    · exact agW2_bad r (kn4_bad a sk h) sm h
  by_cases h5 : k = 5
  · subst h5
    have sm := sm5 a sk
    by_cases h : e5 a sk = 0
    · have ho := ax_of5 h
      rw [h] at sm
      refine agW2_good r (kn5_good a sk h) sm rfl (wiK5 a sk r) (ar5 a sk ho) ⟨_, _, _, fun hm => ⟨io5 a sk (r0 r) _ _ ho, rtK_eq a (r0 r) _ _ _ (meet_nan hm).1 (meet_nan hm).2, fun hk => ?_⟩⟩
      unfold tbN tbF rtI rtU; rw [hk]; exact ⟨rfl, rfl⟩
    · exact agW2_bad r (kn5_bad a sk h) sm h
  by_cases h6 : k = 6
  · subst h6
    have sm := sm6 a sk
    by_cases h : e6 a sk = 0
    · rw [h] at sm; exact agW2_none r (kn6_good a sk h) sm rfl (wiK6 a sk r)
    · exact agW2_bad r (kn6_bad a sk h) sm h
  exact agW2_bad r (kn0_bad ⟨h1, h2, h3, h4, h5, h6⟩ a sk) (sm0 a sk ⟨h1, h2, h3, h4, h5, h6⟩) (e0_ne a sk)
/-- The rest of what is the same, without where rings are struck. -/
structure Agree2 (k : Int) (a : Nat → Nat) (sk : Int) (p q u : Nat) : Prop where
  m : AgM k a sk
  b : AgB k a sk
  n : AgN k a sk p q u
theorem agree2 (k : Int) (a : Nat → Nat) (sk : Int) (p q u : Nat) : Agree2 k a sk p q u := by
  have go : ∀ {k : Int}, Agree k a sk (fun _ => 0) p q u → Agree2 k a sk p q u := fun h => ⟨h.m, h.b, h.n⟩
  by_cases h1 : k = 1
  · subst h1; exact go (ag1 a sk _ p q u)
  by_cases h2 : k = 2
  · subst h2; exact go (ag2 a sk _ p q u)
  by_cases h3 : k = 3
  · subst h3; exact go (ag3 a sk _ p q u)
  by_cases h4 : k = 4
  · subst h4; exact go (ag4 a sk _ p q u)
  by_cases h5 : k = 5
  · subst h5; exact go (ag5 a sk _ p q u)
  by_cases h6 : k = 6
  · subst h6
    have sm := sm6 a sk
    by_cases h : e6 a sk = 0
    · have ho := ax_of6 h
      rw [h] at sm
      have kg := kn6_good a sk h
      refine ⟨⟨0, may_g kg, sm⟩, ⟨_, 0, boK6 a sk h, rbo_g sm (ar6 a sk ho)⟩, ⟨_, _, _, _, noK6 a sk p q u h, ?_⟩⟩
      exact gspec R6_ok (k_cons kS_ok (k_cons kS_ok k_nil)) Tryz.func17 (by kernel_rfl) (by kernel_rfl) noL_ok rfl ((rno6_ev a sk 0 p q u _ _ _).trans ((rnZ_pos sm).trans ((rnG_pos (rringSide 6 a sk p q u ho)).trans (rnY_eq _ _ _ _ _ _))))
    · exact go (agree_bad _ p q u (kn6_bad a sk h) sm h)
  exact go (agree_bad _ p q u (kn0_bad ⟨h1, h2, h3, h4, h5, h6⟩ a sk) (sm0 a sk ⟨h1, h2, h3, h4, h5, h6⟩) (e0_ne a sk))
/-! ### By their cells -/
abbrev shC (k : Int) (a : Nat → Nat) (sk : Int) : List AV := [iA k, .f (a 0), .f (a 1), .f (a 2), .f (a 3), .f (a 4), .f (a 5), .f (a 6), .f (a 7), .f (a 8), .f (a 9), .f (a 10), iA sk]
/-- May, Bounds and the box around, all at once. -/
structure Cel where
  m : Int
  b : Nat → Nat
  e : Int
def CelOk (c : List AV) (x : Cel) : Prop := FSpec Tryz.prog 10 [.agg c] (iA x.m) ∧ FSpec Tryz.prog 11 [.agg c] (iA x.m) ∧ FSpec Tryz.prog 8 [.agg c] (.tup [BX x.b, iA x.e]) ∧ FSpec Tryz.prog 9 [.agg c] (.tup [BX x.b, iA x.e]) ∧ (x.m = 0 → FSpec Tryz.prog 39 [.agg c] (BX x.b)) ∧ x.e = x.m
theorem cel_bad {k : Int} {a : Nat → Nat} {sk e : Int} (h : KNb k a sk e) (g : SMok k a sk e) (he : e ≠ 0) : ∃ x, CelOk (shC k a sk) x :=
  ⟨⟨e, z6, e⟩, may_b h, g, bounds_b h he, rbo_b g he, fun h0 => absurd h0 he, rfl⟩
theorem cel_good {k : Int} {a : Nat → Nat} {sk : Int} {T : Nat} {b : Nat → Nat} (h : KNg k a sk T) (g : SMok k a sk 0) (h1 : FSpec Tryz.prog 8 [SH k a sk] (.tup [BX b, iA 0])) (hb : FSpec Tryz.prog 39 [SH k a sk] (BX b)) : ∃ x, CelOk (shC k a sk) x :=
  ⟨⟨0, b, 0⟩, may_g h, g, h1, rbo_g g hb, fun _ => hb, rfl⟩
theorem cel_all (k : Int) (a : Nat → Nat) (sk : Int) : ∃ x, CelOk (shC k a sk) x := by
  by_cases h1 : k = 1
  · subst h1
    have sm := sm1 a sk
    by_cases h : e1 a sk = 0
    · rw [h] at sm; exact cel_good (kn1_good a sk h) sm (boK1 a sk h) (ar1 a sk)
    · exact cel_bad (kn1_bad a sk h) sm h
  by_cases h2 : k = 2
  · subst h2
    have sm := sm2 a sk
    by_cases h : e2 a sk = 0
    · rw [h] at sm; exact cel_good (kn2_good a sk h) sm (boK2 a sk h) (ar2 a sk)
    · exact cel_bad (kn2_bad a sk h) sm h
  by_cases h3 : k = 3
  · subst h3
    have sm := sm3 a sk
    by_cases h : e3 a sk = 0
    · rw [h] at sm; exact cel_good (kn3_good a sk h) sm (boK3 a sk h) (ar3 a sk)
    · exact cel_bad (kn3_bad a sk h) sm h
  by_cases h4 : k = 4
  · subst h4
    have sm := sm4 a sk
    by_cases h : e4 a sk = 0
    · rw [h] at sm; exact cel_good (kn4_good a sk h) sm (boK4 a sk h) (ar4 a sk)
    · exact cel_bad (kn4_bad a sk h) sm h
  by_cases h5 : k = 5
  · subst h5
    have sm := sm5 a sk
    by_cases h : e5 a sk = 0
    · have ho := ax_of5 h
      rw [h] at sm; exact cel_good (kn5_good a sk h) sm (boK5 a sk h) (ar5 a sk ho)
    · exact cel_bad (kn5_bad a sk h) sm h
  by_cases h6 : k = 6
  · subst h6
    have sm := sm6 a sk
    by_cases h : e6 a sk = 0
    · have ho := ax_of6 h
      rw [h] at sm; exact cel_good (kn6_good a sk h) sm (boK6 a sk h) (ar6 a sk ho)
    · exact cel_bad (kn6_bad a sk h) sm h
  exact cel_bad (kn0_bad ⟨h1, h2, h3, h4, h5, h6⟩ a sk) (sm0 a sk ⟨h1, h2, h3, h4, h5, h6⟩) (e0_ne a sk)
open Classical in
noncomputable def celC (c : List AV) : Cel := if h : ∃ x, CelOk c x then h.choose else ⟨0, fun _ => 0, 0⟩
theorem celC_spec (k : Int) (a : Nat → Nat) (sk : Int) : CelOk (shC k a sk) (celC (shC k a sk)) := by
  unfold celC
  rw [dif_pos (cel_all k a sk)]
  exact (cel_all k a sk).choose_spec
/-- What May says of the cells of a shape. -/
noncomputable def mayC (c : List AV) : Int := (celC c).m
theorem mayC_spec (k : Int) (a : Nat → Nat) (sk : Int) : FSpec Tryz.prog 10 [SH k a sk] (iA (mayC (shC k a sk))) ∧ FSpec Tryz.prog 11 [SH k a sk] (iA (mayC (shC k a sk))) :=
  ⟨(celC_spec k a sk).1, (celC_spec k a sk).2.1⟩
noncomputable def bndC (c : List AV) : (Nat → Nat) × Int := ((celC c).b, (celC c).e)
theorem bndC_spec (k : Int) (a : Nat → Nat) (sk : Int) : FSpec Tryz.prog 8 [SH k a sk] (.tup [BX (bndC (shC k a sk)).1, iA (bndC (shC k a sk)).2]) ∧ FSpec Tryz.prog 9 [SH k a sk] (.tup [BX (bndC (shC k a sk)).1, iA (bndC (shC k a sk)).2]) :=
  ⟨(celC_spec k a sk).2.2.1, (celC_spec k a sk).2.2.2.1⟩
theorem arC_spec (k : Int) (a : Nat → Nat) (sk : Int) (h : mayC (shC k a sk) = 0) : FSpec Tryz.prog 39 [SH k a sk] (BX (bndC (shC k a sk)).1) := (celC_spec k a sk).2.2.2.2.1 h
theorem bndC_e (k : Int) (a : Nat → Nat) (sk : Int) : (bndC (shC k a sk)).2 = mayC (shC k a sk) := (celC_spec k a sk).2.2.2.2.2
structure Wit where
  i : Nat
  o : Nat
  ok : Bool
  e : Int
def Wit.v (w : Wit) : AV := .tup [.f w.i, .f w.o, bA w.ok, iA w.e]
open Classical in
noncomputable def witC (c : List AV) (r : Nat → Nat) : Wit := if h : ∃ w : Wit, FSpec Tryz.prog 19 [.agg c, RY r] w.v ∧ FSpec Tryz.prog 20 [.agg c, RY r] w.v ∧ (w.ok = true → flt w.i w.o = true) then h.choose else ⟨0, 0, false, 0⟩
theorem witC_spec (k : Int) (a : Nat → Nat) (sk : Int) (r : Nat → Nat) : FSpec Tryz.prog 19 [SH k a sk, RY r] (witC (shC k a sk) r).v ∧ FSpec Tryz.prog 20 [SH k a sk, RY r] (witC (shC k a sk) r).v ∧ ((witC (shC k a sk) r).ok = true → flt (witC (shC k a sk) r).i (witC (shC k a sk) r).o = true) := by
  have h : ∃ w : Wit, FSpec Tryz.prog 19 [.agg (shC k a sk), RY r] w.v ∧ FSpec Tryz.prog 20 [.agg (shC k a sk), RY r] w.v ∧ (w.ok = true → flt w.i w.o = true) := by
    obtain ⟨i, o, ok, e, h1, h2, h3⟩ := agW2_all k a sk r
    exact ⟨⟨i, o, ok, e⟩, h1, h2, h3⟩
  unfold witC
  rw [dif_pos h]
  exact h.choose_spec
end Go.Proofs.YtancjnambbkhmaaGreat.Hs

namespace Go.Proofs.YtancjnambbkhmaaGreat.Hs.So
open Go.Gv
open Go.Ev (cn fadd fsub fmul fdiv fsqrt fneg feq flt fle fgt fge fabs isNan)

structure Prt where
  op : Int
  l : Int
  r : Int
  k : Int
  a : Nat → Nat
  sk : Int
def Prt.s (p : Prt) : List AV := shC p.k p.a p.sk
def Prt.c (p : Prt) : List AV := [iA p.op, iA p.l, iA p.r, iA p.k, .f (p.a 0), .f (p.a 1), .f (p.a 2), .f (p.a 3), .f (p.a 4), .f (p.a 5), .f (p.a 6), .f (p.a 7), .f (p.a 8), .f (p.a 9), .f (p.a 10), iA p.sk]
def prS (n : Nat) (P : Nat → Prt) : AV := .sl 16 n fun i => (P i).c
def soC (n : Nat) (P : Nat → Prt) (sn : Int) : List AV := [prS n P, iA sn]
/-- An entry that takes the cells of a shape. -/
def eSc (g : List AV → AV) : List AV → Option AV
  | [.agg [.x (.int .i64 k), .f a0, .f a1, .f a2, .f a3, .f a4, .f a5, .f a6, .f a7, .f a8, .f a9, .f a10, .x (.int .i64 sk)]] => some (g [.x (.int .i64 k), .f a0, .f a1, .f a2, .f a3, .f a4, .f a5, .f a6, .f a7, .f a8, .f a9, .f a10, .x (.int .i64 sk)])
  | _ => none
theorem eSc_ok {f : Nat} {g : List AV → AV} (h : ∀ k a sk, FSpec Tryz.prog f [SH k a sk] (g (shC k a sk))) : EOk Tryz.prog ⟨f, eSc g⟩ := fun args r hr => by
  simp only [eSc] at hr
  split at hr
  · cases hr; exact Or.inl (h _ (ls [_, _, _, _, _, _, _, _, _, _, _]) _)
  · cases hr
def kin (k : Int) : Bool := (k == 1) || ((k == 2) || (k == 5))
def ktT {α : Type} (k : Int) (z t : α) : α := cond (k == 1) (cond (k == 1) z t) (cond (k == 2) (cond (k == 2) z t) (cond (k == 5) z t))
theorem ktT_eq {α : Type} (k : Int) (z t : α) : ktT k z t = cond (kin k) z t := by
  unfold ktT kin
  cases k == 1 <;> cases k == 2 <;> cases k == 5 <;> rfl
section
variable (mf : List AV → Int) (k : Int) (a : Nat → Nat) (sk : Int)
def mlE (m k : Int) : Int := cond (!(m == 0)) m (cond (kin k) 0 3)
theorem ml_ev : ev Tryz.prog [⟨10, eSc fun c => iA (mf c)⟩] [] noL Tryz.f106 [SH k a sk] ret = cond (!(mf (shC k a sk) == 0)) (aiR (mf (shC k a sk))) (ktT k (aiR 0) (aiR 3)) := by kernel_rfl
end
theorem eMay_ok : EOk Tryz.prog ⟨10, eSc fun c => iA (mayC c)⟩ := eSc_ok fun k a sk => (mayC_spec k a sk).1
theorem eMayR_ok : EOk Tryz.prog ⟨11, eSc fun c => iA (mayC c)⟩ := eSc_ok fun k a sk => (mayC_spec k a sk).2
theorem sml (k : Int) (a : Nat → Nat) (sk : Int) : FSpec Tryz.prog 106 [SH k a sk] (iA (mlE (mayC (shC k a sk)) k)) := by
  refine sp (e_cons eMay_ok e_nil) Tryz.func106 (by kernel_rfl) (by kernel_rfl) rfl ((ml_ev mayC k a sk).trans ?_)
  rw [ktT_eq]
  unfold mlE aiR
  cases (mayC (shC k a sk) == 0) <;> cases kin k <;> rfl
/-- Which kind the cells of a shape are of. -/
def kOfC : List AV → Int
  | .x (.int .i64 k) :: _ => k
  | _ => 0
theorem eMl_ok : EOk Tryz.prog ⟨106, eSc fun c => iA (mlE (mayC c) (kOfC c))⟩ := eSc_ok fun k a sk => sml k a sk
def nmB (l r i : Int) : Bool := cond (cond (cond (decide (l < 0)) true (decide (l ≥ i))) true (decide (r < 0))) true (decide (r ≥ i))
def opT {α : Type} (o : Int) (z t : α) : α := cond (o == 1) (cond (o == 1) z t) (cond (o == 2) (cond (o == 2) z t) (cond (o == 3) z t))
def opB (o : Int) : Bool := (o == 1) || ((o == 2) || (o == 3))
theorem opT_eq {α : Type} (o : Int) (z t : α) : opT o z t = cond (opB o) z t := by
  unfold opT opB
  cases o == 1 <;> cases o == 2 <;> cases o == 3 <;> rfl
/-- The errno of a part with so many ahead of it. -/
noncomputable def ppE (p : Prt) (i : Int) : Int := cond (p.op == 0) (mlE (mayC p.s) p.k) (cond (opB p.op) (cond (nmB p.l p.r i) 9 0) 11)
theorem mp_ev (g : List AV → Int) (p : Prt) (i : Int) : ev Tryz.prog [⟨106, eSc fun c => iA (g c)⟩] [] noL Tryz.f71 [.agg p.c, iA i] ret = cond (p.op == 0) (aiR (g p.s)) (opT p.op (cond (nmB p.l p.r i) (aiR 9) (aiR 0)) (aiR 11)) := by kernel_rfl
theorem smp (p : Prt) (i : Int) : FSpec Tryz.prog 71 [.agg p.c, iA i] (iA (ppE p i)) := by
  refine sp (e_cons eMl_ok e_nil) Tryz.func71 (by kernel_rfl) (by kernel_rfl) rfl ((mp_ev (fun c => mlE (mayC c) (kOfC c)) p i).trans ?_)
  rw [opT_eq]
  unfold ppE aiR
  show cond (p.op == 0) (some (Out.of (iA (mlE (mayC p.s) p.k)))) _ = _
  cases p.op == 0 <;> cases opB p.op <;> cases nmB p.l p.r i <;> rfl
/-! ### Parts, one behind the other -/
def seqE (fb : Nat → Int) : Nat → Int
  | 0 => 0
  | i + 1 => cond (seqE fb i == 0) (fb i) (seqE fb i)
theorem seq_all {fb : Nat → Int} : ∀ n, (∀ i, i < n → fb i = 0) → seqE fb n = 0
  | 0, _ => rfl
  | n + 1, h => by
    show cond (seqE fb n == 0) (fb n) (seqE fb n) = 0
    rw [seq_all n fun i hi => h i (by omega), h n (by omega)]
    rfl
theorem seq_first {fb : Nat → Int} {K : Nat} (hK : fb K ≠ 0) (h : ∀ i, i < K → fb i = 0) : ∀ n, K < n → seqE fb n = fb K
  | 0, hn => absurd hn (Nat.not_lt_zero _)
  | n + 1, hn => by
    show cond (seqE fb n == 0) (fb n) (seqE fb n) = _
    by_cases e : K = n
    · subst e; rw [seq_all K h]; rfl
    · rw [seq_first hK h n (by omega), beq_false_of_ne hK]; rfl
theorem seq_zero {fb : Nat → Int} : ∀ n, seqE fb n = 0 → ∀ i, i < n → fb i = 0
  | 0, _, i, hi => absurd hi (Nat.not_lt_zero i)
  | n + 1, h, i, hi => by
    have h : cond (seqE fb n == 0) (fb n) (seqE fb n) = 0 := h
    by_cases h0 : seqE fb n = 0
    · rw [h0] at h
      have h : fb n = 0 := h
      by_cases e : i = n
      · subst e; exact h
      · exact seq_zero n h0 i (by omega)
    · rw [beq_false_of_ne h0] at h; exact absurd h h0
noncomputable def paE (P : Nat → Prt) (i : Nat) : Int := ppE (P i) (i : Nat)
def soX (n : Nat) (sn : Int) (R : Option Out) : Option Out := cond (cond (decide ((n : Int) < 1)) true (decide ((n : Int) > 16))) (aiR 5) (cond (skB sn) (aiR 4) R)
/-- The errno of a solid. -/
noncomputable def soE (n : Nat) (P : Nat → Prt) (sn : Int) : Int := cond (cond (decide ((n : Int) < 1)) true (decide ((n : Int) > 16))) 5 (cond (skB sn) 4 (seqE (paE P) n))
theorem soX_eq {n : Nat} {P : Nat → Prt} {sn : Int} {R : Option Out} (h : 1 ≤ n → n ≤ 16 → R = aiR (seqE (paE P) n)) : soX n sn R = some (Out.of (iA (soE n P sn))) := by
  unfold soX soE
  by_cases h1 : n < 1
  · rw [decide_eq_true (show (n : Int) < 1 by omega)]; rfl
  · by_cases h2 : 16 < n
    · rw [decide_eq_false (show ¬ (n : Int) < 1 by omega), decide_eq_true (show (n : Int) > 16 by omega)]; rfl
    · rw [decide_eq_false (show ¬ (n : Int) < 1 by omega), decide_eq_false (show ¬ (n : Int) > 16 by omega), h (by omega) (by omega)]
      unfold aiR
      cases skB sn <;> rfl
/-! ### The code's May -/
def smS (n : Nat) (P : Nat → Prt) (i : Int) : St := mkS 39 [(25, prS n P), (26, iA n), (27, iA i)] []
def smE' (e : Int) : St := mkS 39 [(2, iA e)] []
def eMp (g : List AV → Int → Int) : List AV → Option AV
  | [.agg [.x (.int .i64 o), .x (.int .i64 l), .x (.int .i64 r), .x (.int .i64 k), .f a0, .f a1, .f a2, .f a3, .f a4, .f a5, .f a6, .f a7, .f a8, .f a9, .f a10, .x (.int .i64 sk)], .x (.int .i64 i)] => some (iA (g [.x (.int .i64 o), .x (.int .i64 l), .x (.int .i64 r), .x (.int .i64 k), .f a0, .f a1, .f a2, .f a3, .f a4, .f a5, .f a6, .f a7, .f a8, .f a9, .f a10, .x (.int .i64 sk)] i))
  | _ => none
def decP : List AV → Prt
  | [.x (.int .i64 o), .x (.int .i64 l), .x (.int .i64 r), .x (.int .i64 k), .f a0, .f a1, .f a2, .f a3, .f a4, .f a5, .f a6, .f a7, .f a8, .f a9, .f a10, .x (.int .i64 sk)] => ⟨o, l, r, k, ls [a0, a1, a2, a3, a4, a5, a6, a7, a8, a9, a10], sk⟩
  | _ => ⟨0, 0, 0, 0, fun _ => 0, 0⟩
noncomputable def mpG (c : List AV) (i : Int) : Int := ppE (decP c) i
theorem mpG_eq (p : Prt) (i : Int) : mpG p.c i = ppE p i := rfl
theorem eMp_ok : EOk Tryz.prog ⟨71, eMp mpG⟩ := fun args r hr => by
  simp only [eMp] at hr
  split at hr
  · cases hr; exact Or.inl (smp ⟨_, _, _, _, ls [_, _, _, _, _, _, _, _, _, _, _], _⟩ _)
  · cases hr
section
variable (g : List AV → Int → Int) (n : Nat) (P : Nat → Prt) (i : Int) (sn : Int)
def smC (o ob oe : Option Out) : Option Out := cond (decide (i < n)) (cond (ixB i n || false) (cond (!(g (P i.toNat).c i == 0)) ob o) none) oe
theorem sm_step : evC Tryz.prog [⟨71, eMp g⟩] [] noL (loopAt Tryz.f26 0) (smS n P i) (finN [25, 26, 27] []) = smC g n P i (some ⟨.normal, smS n P (w64 (i + 1)), .any⟩) none none := by kernel_rfl
theorem sm_ret : evC Tryz.prog [⟨71, eMp g⟩] [] noL (loopAt Tryz.f26 0) (smS n P i) (finR [2] []) = smC g n P i none (some ⟨.ret, smE' (g (P i.toNat).c i), .any⟩) none := by kernel_rfl
theorem sm_end : evC Tryz.prog [⟨71, eMp g⟩] [] noL (loopAt Tryz.f26 0) (smS n P i) (finE [25, 26, 27] []) = smC g n P i none none (some ⟨.exit 0, smS n P i, .any⟩) := by kernel_rfl
theorem sm_evG (j : Int) : ev Tryz.prog [⟨71, eMp g⟩] [] (oneL 6 (toldF [25, 26, 27] [] (smS n P 0) (.exit 0) (smS n P j))) Tryz.f26 [.agg (soC n P sn)] ret = soX n sn (gate (Sub (smS n P 0) (smS n P 0)) (aiR 0)) := by kernel_rfl
theorem sm_evR (e : Int) : ev Tryz.prog [⟨71, eMp g⟩] [] (oneL 6 (toldF [25, 26, 27] [] (smS n P 0) .ret (smE' e))) Tryz.f26 [.agg (soC n P sn)] ret = soX n sn (gate (Sub (smS n P 0) (smS n P 0)) (aiR e)) := by kernel_rfl
theorem sm_ev0 : ev Tryz.prog [⟨71, eMp g⟩] [] (oneL 6 fun _ _ => none) Tryz.f26 [.agg (soC n P sn)] ret = soX n sn none := by kernel_rfl
end
theorem smay_spec (n : Nat) (P : Nat → Prt) (sn : Int) : FSpec Tryz.prog 26 [.agg (soC n P sn)] (iA (soE n P sn)) := by
  have en := e_cons eMp_ok e_nil
  by_cases hc : n < 1 ∨ 16 < n
  · exact gspec en k_nil Tryz.func26 (by kernel_rfl) (by kernel_rfl) (lok_none 6) rfl ((sm_ev0 mpG n P sn).trans (soX_eq fun h1 h2 => absurd hc (by omega)))
  · have go : ∀ k, k < n → paE P k = 0 → Leads Tryz.prog (loopAt Tryz.f26 0) (smS n P (k : Nat)) .normal (smS n P ((k + 1 : Nat) : Int)) := fun k hk hb => by
      refine leads_ev (finN_sub _ _) en k_nil noL_ok ((sm_step mpG n P (k : Nat)).trans ?_)
      unfold smC
      rw [dec_lt hk, ixB_t hk, Int.toNat_natCast, mpG_eq, show ppE (P k) (k : Nat) = 0 from hb, w64_next (by omega)]
      rfl
    rcases all_or_first (fun i => paE P i == 0) n with hl | ⟨K, hK, hp, hq⟩
    · have hl' : ∀ i, i < n → paE P i = 0 := fun i hi => by simpa using hl i hi
      have lead : Leads Tryz.prog (.loop (loopAt Tryz.f26 0)) (smS n P 0) (.exit 0) (smS n P (n : Nat)) := by
        refine loop_rule (fun k => smS n P (k : Nat)) n (.exit 0) _ (by simp) (fun k hk => go k hk (hl' k hk)) ?_
        refine leads_ev (finE_sub _ _) en k_nil noL_ok ((sm_end mpG n P (n : Nat)).trans ?_)
        unfold smC
        rw [dec_self, cond_false]
      refine gspec en k_nil Tryz.func26 (by kernel_rfl) (by kernel_rfl) (lok_at (i := 6) 0 1 (by kernel_rfl) (by kernel_rfl) (toldF_sound (keep := [25, 26, 27]) (τ := []) lead)) rfl ((sm_evG mpG n P sn (n : Nat)).trans (soX_eq fun _ _ => ?_))
      rw [gate_pos (Sub.refl _), seq_all n hl']
    · have hb : paE P K ≠ 0 := by simpa using hp
      have hq' : ∀ i, i < K → paE P i = 0 := fun i hi => by simpa using hq i hi
      have lead : Leads Tryz.prog (.loop (loopAt Tryz.f26 0)) (smS n P 0) .ret (smE' (paE P K)) := by
        refine loop_rule (fun k => smS n P (k : Nat)) K .ret _ (by simp) (fun k hk => go k (by omega) (hq' k hk)) ?_
        refine leads_ev (finR_sub _ _) en k_nil noL_ok ((sm_ret mpG n P (K : Nat)).trans ?_)
        unfold smC
        rw [dec_lt hK, ixB_t hK, Int.toNat_natCast, mpG_eq, beq_false_of_ne (show ppE (P K) (K : Nat) ≠ 0 from hb)]
        rfl
      refine gspec en k_nil Tryz.func26 (by kernel_rfl) (by kernel_rfl) (lok_at (i := 6) 0 1 (by kernel_rfl) (by kernel_rfl) (toldF_sound (keep := [25, 26, 27]) (τ := []) lead)) rfl ((sm_evR mpG n P sn (paE P K)).trans (soX_eq fun _ _ => ?_))
      rw [gate_pos (Sub.refl _), seq_first hb hq' n hK]
/-! ### The answer's SolidMay -/
def amS (n : Nat) (P : Nat → Prt) (sn : Int) (i : Int) : St := mkS 89 [(1, .own 0 0), (3, iA i)] [.c (soC n P sn)]
def amE (e : Int) : St := mkS 89 [(2, iA e)] []
section
variable (mf : List AV → Int) (n : Nat) (P : Nat → Prt) (sn : Int) (i : Int)
def knB (k : Int) : Bool := cond (cond (!(k == 1)) (!(k == 2)) false) (!(k == 5)) false
def amC (p : Prt) (r : Int → Option Out) (o : Option Out) : Option Out := cond (cond (decide (p.op < 0)) true (decide (p.op > 3))) (r 11) (cond (decide (p.op > 0)) (cond (nmB p.l p.r i) (r 9) o) (cond (!(mf p.s == 0)) (r (mf p.s)) (cond (knB p.k) (r 3) o)))
def amX (r : Int → Option Out) (o oe : Option Out) : Option Out := cond (decide (i < n)) (cond (ixB i n || false) (amC mf i (P i.toNat) r o) none) oe
theorem am_step : evC Tryz.prog [⟨11, eSc fun c => iA (mf c)⟩] [] noL (loopAt Tryz.f27 0) (amS n P sn i) (finN [1, 3] [some 0]) = amX mf n P i (fun _ => none) (some ⟨.normal, amS n P sn (w64 (i + 1)), .any⟩) none := by kernel_rfl
theorem am_ret : evC Tryz.prog [⟨11, eSc fun c => iA (mf c)⟩] [] noL (loopAt Tryz.f27 0) (amS n P sn i) (finR [2] []) = amX mf n P i (fun e => some ⟨.ret, amE e, .any⟩) none none := by kernel_rfl
theorem am_end : evC Tryz.prog [⟨11, eSc fun c => iA (mf c)⟩] [] noL (loopAt Tryz.f27 0) (amS n P sn i) (finE [1, 3] [some 0]) = amX mf n P i (fun _ => none) none (some ⟨.exit 0, amS n P sn i, .any⟩) := by kernel_rfl
theorem am_evG (j : Int) : ev Tryz.prog [⟨11, eSc fun c => iA (mf c)⟩] [] (oneL 6 (toldF [1, 3] [some 0] (amS n P sn 0) (.exit 0) (amS n P sn j))) Tryz.f27 [.agg (soC n P sn)] ret = soX n sn (gate (Sub (amS n P sn 0) (amS n P sn 0)) (aiR 0)) := by kernel_rfl
theorem am_evR (e : Int) : ev Tryz.prog [⟨11, eSc fun c => iA (mf c)⟩] [] (oneL 6 (toldF [1, 3] [some 0] (amS n P sn 0) .ret (amE e))) Tryz.f27 [.agg (soC n P sn)] ret = soX n sn (gate (Sub (amS n P sn 0) (amS n P sn 0)) (aiR e)) := by kernel_rfl
theorem am_ev0 : ev Tryz.prog [⟨11, eSc fun c => iA (mf c)⟩] [] (oneL 6 fun _ _ => none) Tryz.f27 [.agg (soC n P sn)] ret = soX n sn none := by kernel_rfl
end
theorem knB_eq (k : Int) : knB k = !kin k := by
  unfold knB kin
  cases k == 1 <;> cases k == 2 <;> cases k == 5 <;> rfl
theorem amC_eq (p : Prt) (i : Int) (r : Int → Option Out) (o : Option Out) : amC mayC i p r o = cond (ppE p i == 0) o (r (ppE p i)) := by
  unfold amC ppE mlE
  rw [knB_eq]
  by_cases h0 : p.op = 0
  · rw [h0]
    cases hm : (mayC p.s == 0)
    · have : mayC p.s ≠ 0 := fun e => by rw [e] at hm; cases hm
      show r (mayC p.s) = cond (mayC p.s == 0) o (r (mayC p.s))
      rw [hm]; rfl
    · cases kin p.k <;> rfl
  · have hb : (p.op == 0) = false := beq_false_of_ne h0
    rw [hb]
    by_cases h1 : p.op = 1 ∨ p.op = 2 ∨ p.op = 3
    · rw [decide_eq_false (show ¬ p.op < 0 by omega), decide_eq_false (show ¬ p.op > 3 by omega), decide_eq_true (show p.op > 0 by omega)]
      have : opB p.op = true := by rcases h1 with h | h | h <;> rw [h] <;> rfl
      rw [this]
      cases nmB p.l p.r i <;> rfl
    · have h2 : opB p.op = false := by
        unfold opB
        rw [beq_false_of_ne (show p.op ≠ 1 by omega), beq_false_of_ne (show p.op ≠ 2 by omega), beq_false_of_ne (show p.op ≠ 3 by omega)]; rfl
      rw [h2]
      by_cases h3 : p.op < 0
      · rw [decide_eq_true h3]; rfl
      · rw [decide_eq_false h3, decide_eq_true (show p.op > 3 by omega)]; rfl
theorem rsmay_spec (n : Nat) (P : Nat → Prt) (sn : Int) : FSpec Tryz.prog 27 [.agg (soC n P sn)] (iA (soE n P sn)) := by
  have en := e_cons eMayR_ok e_nil
  by_cases hc : n < 1 ∨ 16 < n
  · exact gspec en k_nil Tryz.func27 (by kernel_rfl) (by kernel_rfl) (lok_none 6) rfl ((am_ev0 mayC n P sn).trans (soX_eq fun h1 h2 => absurd hc (by omega)))
  · have go : ∀ k, k < n → paE P k = 0 → Leads Tryz.prog (loopAt Tryz.f27 0) (amS n P sn (k : Nat)) .normal (amS n P sn ((k + 1 : Nat) : Int)) := fun k hk hb => by
      refine leads_ev (finN_sub _ _) en k_nil noL_ok ((am_step mayC n P sn (k : Nat)).trans ?_)
      unfold amX
      rw [dec_lt hk, ixB_t hk, Int.toNat_natCast, amC_eq, show ppE (P k) (k : Nat) = 0 from hb, w64_next (by omega)]
      rfl
    rcases all_or_first (fun i => paE P i == 0) n with hl | ⟨K, hK, hp, hq⟩
    · have hl' : ∀ i, i < n → paE P i = 0 := fun i hi => by simpa using hl i hi
      have lead : Leads Tryz.prog (.loop (loopAt Tryz.f27 0)) (amS n P sn 0) (.exit 0) (amS n P sn (n : Nat)) := by
        refine loop_rule (fun k => amS n P sn (k : Nat)) n (.exit 0) _ (by simp) (fun k hk => go k hk (hl' k hk)) ?_
        refine leads_ev (finE_sub _ _) en k_nil noL_ok ((am_end mayC n P sn (n : Nat)).trans ?_)
        unfold amX
        rw [dec_self, cond_false]
      refine gspec en k_nil Tryz.func27 (by kernel_rfl) (by kernel_rfl) (lok_at (i := 6) 0 1 (by kernel_rfl) (by kernel_rfl) (toldF_sound (keep := [1, 3]) (τ := [some 0]) lead)) rfl ((am_evG mayC n P sn (n : Nat)).trans (soX_eq fun _ _ => ?_))
      rw [gate_pos (Sub.refl _), seq_all n hl']
    · have hb : paE P K ≠ 0 := by simpa using hp
      have hq' : ∀ i, i < K → paE P i = 0 := fun i hi => by simpa using hq i hi
      have lead : Leads Tryz.prog (.loop (loopAt Tryz.f27 0)) (amS n P sn 0) .ret (amE (paE P K)) := by
        refine loop_rule (fun k => amS n P sn (k : Nat)) K .ret _ (by simp) (fun k hk => go k (by omega) (hq' k hk)) ?_
        refine leads_ev (finR_sub _ _) en k_nil noL_ok ((am_ret mayC n P sn (K : Nat)).trans ?_)
        unfold amX
        rw [dec_lt hK, ixB_t hK, Int.toNat_natCast, amC_eq, beq_false_of_ne (show ppE (P K) (K : Nat) ≠ 0 from hb)]
        rfl
      refine gspec en k_nil Tryz.func27 (by kernel_rfl) (by kernel_rfl) (lok_at (i := 6) 0 1 (by kernel_rfl) (by kernel_rfl) (toldF_sound (keep := [1, 3]) (τ := [some 0]) lead)) rfl ((am_evR mayC n P sn (paE P K)).trans (soX_eq fun _ _ => ?_))
      rw [gate_pos (Sub.refl _), seq_first hb hq' n hK]
end Go.Proofs.YtancjnambbkhmaaGreat.Hs.So

namespace Go.Proofs.YtancjnambbkhmaaGreat.Hs.So
open Go.Gv
open Go.Ev (cn fadd fsub fmul fdiv fsqrt fneg feq flt fle fgt fge fabs isNan)

def b6 (b : Nat → Nat) : List AV := [.f (b 0), .f (b 1), .f (b 2), .f (b 3), .f (b 4), .f (b 5)]
def lb (b : Nat → Nat) : Nat → Nat := ls [b 0, b 1, b 2, b 3, b 4, b 5]
def boS (n : Nat) (P : Nat → Prt) (i : Int) (el : Nat → List AV) : St := mkS 60 [(0, prS n P), (2, .own 0 0), (3, .osl 1 6 0 n), (9, prS n P), (10, iA n), (11, iA i)] [.c (b6 fun _ => 0), .a 30 6 n el]
def keepBo : List Nat := [0, 2, 3, 9, 10, 11]
def boE (bb : List AV → Nat → Nat) (be : List AV → Int) (jn : (Nat → Nat) → (Nat → Nat) → Nat → Nat) : List Entry := [⟨8, eSc fun c => .tup [BX (bb c), iA (be c)]⟩, ⟨104, eBB fun a b => BX (jn a b)⟩]
def mkB (n : Int) : Bool := decide (0 ≤ n) && (decide (n ≤ n) && decide (((48 : Nat) : Int) * n ≤ 281474976710656))
theorem mkB_t {n : Int} (h0 : 0 ≤ n) (h1 : n ≤ 100000) : mkB n = true := by
  unfold mkB
  rw [decide_eq_true h0, decide_eq_true (Int.le_refl n), decide_eq_true (show ((48 : Nat) : Int) * n ≤ 281474976710656 by omega)]
  rfl
section
variable (bb : List AV → Nat → Nat) (be : List AV → Int) (jn : (Nat → Nat) → (Nat → Nat) → Nat → Nat) (n : Nat) (P : Nat → Prt) (i : Int) (B : Nat → Nat → Nat)
def bl' (i : Int) (n : Nat) : Bool := Nat.blt (0 + i.toNat) n || false
def ow' (i : Int) (n : Nat) (o : Option Out) : Option Out := cond (ixB i n || false) (cond (bl' i n) o none) none
def jnB (l r i : Int) (n : Nat) : Bool := (ixB l n || false) && ((bl' l n) && ((ixB r n || false) && ((bl' r n) && ((ixB i n || false) && ((bl' i n) && true)))))
def boC (f : (Nat → Nat) → Option Out) (oe : Option Out) : Option Out := cond (decide (i < n)) (cond (ixB i n || false) (cond ((P i.toNat).op == 0) (ow' i n (f (bb (P i.toNat).s))) (cond ((P i.toNat).op == 2) (cond (jnB (P i.toNat).l (P i.toNat).r i n) (f (jn (lb (B (0 + (P i.toNat).l.toNat))) (lb (B (0 + (P i.toNat).r.toNat))))) none) (ow' (P i.toNat).l n (ow' i n (f (B (0 + (P i.toNat).l.toNat))))))) none) oe
theorem bo_step : evC Tryz.prog (boE bb be jn) [] noL (loopAt Tryz.f69 0) (boS n P i fun q => b6 (B q)) (finN keepBo [some 0, some 1]) = boC bb jn n P i B (fun x => some ⟨.normal, boS n P (w64 (i + 1)) fun q => mixL (q == 0 + i.toNat) (b6 x) (b6 (B q)), .any⟩) none := by kernel_rfl
theorem bo_end : evC Tryz.prog (boE bb be jn) [] noL (loopAt Tryz.f69 0) (boS n P i fun q => b6 (B q)) (finE keepBo [some 0, some 1]) = boC bb jn n P i B (fun _ => none) (some ⟨.exit 0, boS n P i fun q => b6 (B q), .any⟩) := by kernel_rfl
theorem bo_ev : ev Tryz.prog (boE bb be jn) [] (oneL 3 (toldF keepBo [some 0, some 1] (boS n P 0 fun _ => b6 fun _ => 0) (.exit 0) (boS n P (n : Nat) fun q => b6 (B q)))) Tryz.f69 [prS n P] ret = cond (mkB (n : Int) || false) (gate (Sub (boS n P 0 fun _ => b6 fun _ => 0) (boS n P 0 fun _ => b6 fun _ => 0)) (ow' (w64 ((n : Int) - 1)) n (some (Out.of (.agg (b6 (B (0 + (w64 ((n : Int) - 1)).toNat)))))))) none := by kernel_rfl
end
/-- The box around a part, where the boxes of those ahead of it are known. -/
noncomputable def bxV (p : Prt) (B : Nat → Nat → Nat) : Nat → Nat := cond (p.op == 0) (bndC p.s).1 (cond (p.op == 2) (joinS (lb (B p.l.toNat)) (lb (B p.r.toNat))) (B p.l.toNat))
/-- The boxes of the first parts. -/
noncomputable def bxS (P : Nat → Prt) : Nat → Nat → Nat → Nat
  | 0 => fun _ _ => 0
  | k + 1 => fun q => if q = k then bxV (P k) (bxS P k) else bxS P k q
def PrOk (p : Prt) (k : Nat) : Prop := p.op = 0 ∨ (p.op ≠ 0 ∧ ∃ l r : Nat, p.l = (l : Nat) ∧ p.r = (r : Nat) ∧ l < k ∧ r < k)
theorem pr_ok {p : Prt} {k : Nat} (h : ppE p (k : Nat) = 0) : PrOk p k := by
  by_cases h0 : p.op = 0
  · exact Or.inl h0
  · refine Or.inr ⟨h0, ?_⟩
    unfold ppE at h
    rw [beq_false_of_ne h0, cond_false] at h
    cases ho : opB p.op
    · rw [ho] at h; exact absurd (show (11 : Int) = 0 from h) (by decide)
    · rw [ho, cond_true] at h
      cases hn : nmB p.l p.r (k : Nat)
      · unfold nmB at hn
        by_cases c1 : p.l < 0
        · rw [decide_eq_true c1] at hn; cases hn
        · rw [decide_eq_false c1] at hn
          by_cases c2 : p.l ≥ (k : Nat)
          · rw [decide_eq_true c2] at hn; cases hn
          · rw [decide_eq_false c2] at hn
            by_cases c3 : p.r < 0
            · rw [decide_eq_true c3] at hn; cases hn
            · rw [decide_eq_false c3] at hn
              by_cases c4 : p.r ≥ (k : Nat)
              · rw [decide_eq_true c4] at hn; cases hn
              · exact ⟨p.l.toNat, p.r.toNat, by omega, by omega, by omega, by omega⟩
      · rw [hn] at h; exact absurd (show (9 : Int) = 0 from h) (by decide)
theorem ow_t {i n : Nat} (h : i < n) (o : Option Out) : ow' (i : Nat) n o = o := by
  unfold ow' bl'
  rw [ixB_t h, Int.toNat_natCast, Nat.zero_add, blt_t h]
  rfl
theorem jnB_t {l r i n : Nat} (h1 : l < n) (h2 : r < n) (h3 : i < n) : jnB (l : Nat) (r : Nat) (i : Nat) n = true := by
  unfold jnB bl'
  rw [ixB_t h1, ixB_t h2, ixB_t h3, Int.toNat_natCast, Int.toNat_natCast, Int.toNat_natCast, Nat.zero_add, Nat.zero_add, Nat.zero_add, blt_t h1, blt_t h2, blt_t h3]
  rfl
theorem boC_t {n : Nat} {P : Nat → Prt} {k : Nat} (hk : k < n) (hp : PrOk (P k) k) (B : Nat → Nat → Nat) (f : (Nat → Nat) → Option Out) (oe : Option Out) : boC (fun c => (bndC c).1) joinS n P (k : Nat) B f oe = f (bxV (P k) B) := by
  unfold boC
  rw [dec_lt hk, ixB_t hk, Int.toNat_natCast]
  rcases hp with h | ⟨h, l, r, e1, e2, h1, h2⟩
  · have e : ((P k).op == 0) = true := by rw [h]; rfl
    unfold bxV
    rw [e]
    exact ow_t hk _
  · unfold bxV
    rw [beq_false_of_ne h, e1, e2, Int.toNat_natCast, Int.toNat_natCast, Nat.zero_add, Nat.zero_add]
    cases (P k).op == 2
    · show ow' (l : Nat) n (ow' (k : Nat) n _) = _
      rw [ow_t (by omega), ow_t hk]
      rfl
    · show cond (jnB (l : Nat) (r : Nat) (k : Nat) n) _ none = _
      rw [jnB_t (by omega) (by omega) hk]
      rfl
theorem boE_ok : ∀ e, e ∈ boE (fun c => (bndC c).1) (fun c => (bndC c).2) joinS → EOk Tryz.prog e := e_cons (eSc_ok fun k a sk => (bndC_spec k a sk).1) <| e_cons (eBB_ok sjoin) e_nil
theorem mix_b6 (b : Bool) (x y : Nat → Nat) : mixL b (b6 x) (b6 y) = b6 (cond b x y) := by cases b <;> rfl
theorem bo_leads {n : Nat} (hn : n ≤ 16) {P : Nat → Prt} (hp : ∀ k, k < n → PrOk (P k) k) : Leads Tryz.prog (.loop (loopAt Tryz.f69 0)) (boS n P 0 fun _ => b6 fun _ => 0) (.exit 0) (boS n P (n : Nat) fun q => b6 (bxS P n q)) := by
  refine loop_rule (fun k => boS n P (k : Nat) fun q => b6 (bxS P k q)) n (.exit 0) _ (by simp) (fun k hk => ?_) ?_
  · have st := bo_step (fun c => (bndC c).1) (fun c => (bndC c).2) joinS n P (k : Nat) (bxS P k)
    rw [boC_t hk (hp k hk), w64_next (by omega), Int.toNat_natCast] at st
    refine (leads_ev (finN_sub _ _) boE_ok k_nil noL_ok st).sub (Sub.refl _) ?_
    refine sub_same ⟨Or.inl rfl, Or.inr ⟨30, 6, n, _, _, rfl, rfl, fun q hq => ?_⟩, trivial⟩
    rw [mix_b6, Nat.zero_add]
    show b6 (if q = k then bxV (P k) (bxS P k) else bxS P k q) = _
    by_cases e : q = k
    · subst e; rw [BEq.rfl, if_pos rfl]; rfl
    · rw [beq_false_of_ne e, if_neg e]; rfl
  · refine leads_ev (finE_sub _ _) boE_ok k_nil noL_ok ((bo_end (fun c => (bndC c).1) (fun c => (bndC c).2) joinS n P (n : Nat) (bxS P n)).trans ?_)
    unfold boC
    rw [dec_self, cond_false]
/-- The code's box around a solid's parts. -/
theorem bo_spec {n : Nat} (h1 : 1 ≤ n) (hn : n ≤ 16) {P : Nat → Prt} (hp : ∀ k, k < n → PrOk (P k) k) : FSpec Tryz.prog 69 [prS n P] (BX (bxS P n (n - 1))) := by
  refine gspec boE_ok k_nil Tryz.func69 (by kernel_rfl) (by kernel_rfl) (lok_at (i := 3) 0 1 (by kernel_rfl) (by kernel_rfl) (toldF_sound (keep := keepBo) (τ := [some 0, some 1]) (bo_leads hn hp))) rfl ((bo_ev (fun c => (bndC c).1) (fun c => (bndC c).2) joinS n P (bxS P n)).trans ?_)
  rw [mkB_t (by omega) (by omega), gate_pos (Sub.refl _), w64_id (by omega) (by omega), show ((n : Int) - 1) = ((n - 1 : Nat) : Int) by omega, ow_t (by omega), Int.toNat_natCast, Nat.zero_add]
  rfl
end Go.Proofs.YtancjnambbkhmaaGreat.Hs.So

namespace Go.Proofs.YtancjnambbkhmaaGreat.Hs.So
open Go.Gv
open Go.Ev (cn fadd fsub fmul fdiv fsqrt fneg feq flt fle fgt fge fabs isNan)

theorem rless' (a b : Nat) : FSpec Tryz.prog 90 [.f a, .f b] (.f (lessS a b)) := by
  refine sp e_nil Tryz.func90 (by kernel_rfl) (by kernel_rfl) rfl ?_
  have h : ev Tryz.prog [] [] noL Tryz.f90 [.f a, .f b] ret = cond (flt b a) (some (Out.of (.f b))) (some (Out.of (.f a))) := by kernel_rfl
  rw [h]; unfold lessS; cases flt b a <;> rfl
theorem rmore' (a b : Nat) : FSpec Tryz.prog 89 [.f a, .f b] (.f (moreS a b)) := by
  refine sp e_nil Tryz.func89 (by kernel_rfl) (by kernel_rfl) rfl ?_
  have h : ev Tryz.prog [] [] noL Tryz.f89 [.f a, .f b] ret = cond (fgt b a) (some (Out.of (.f b))) (some (Out.of (.f a))) := by kernel_rfl
  rw [h]; unfold moreS; cases fgt b a <;> rfl
def LM : List Entry := [⟨90, eFF fun a b => .f (lessS a b)⟩, ⟨89, eFF fun a b => .f (moreS a b)⟩]
theorem LM_ok : ∀ e, e ∈ LM → EOk Tryz.prog e := e_cons (eFF_ok rless') <| e_cons (eFF_ok rmore') e_nil
theorem rlow (a b c d e f : Nat) : FSpec Tryz.prog 84 [V a b c, V d e f] (V (lessS a d) (lessS b e) (lessS c f)) := sp LM_ok Tryz.func84 (by kernel_rfl) (by kernel_rfl) rfl (by kernel_rfl)
theorem rhigh (a b c d e f : Nat) : FSpec Tryz.prog 85 [V a b c, V d e f] (V (moreS a d) (moreS b e) (moreS c f)) := sp LM_ok Tryz.func85 (by kernel_rfl) (by kernel_rfl) rfl (by kernel_rfl)
theorem rjoin (a b : Nat → Nat) : FSpec Tryz.prog 105 [BX a, BX b] (BX (joinS a b)) := sp (e_cons (eVV_ok rlow) <| e_cons (eVV_ok rhigh) e_nil) Tryz.func105 (by kernel_rfl) (by kernel_rfl) rfl (by kernel_rfl)
def srS (n : Nat) (P : Nat → Prt) (i : Int) (m : Nat) (el : Nat → List AV) : St := mkS 56 [(0, prS n P), (2, .own 0 0), (3, .osl 1 6 0 m), (4, iA i)] [.c (b6 fun _ => 0), .a 30 6 m el]
def keepSr : List Nat := [0, 2, 3, 4]
section
variable (bb : List AV → Nat → Nat) (jn : (Nat → Nat) → (Nat → Nat) → Nat → Nat) (n m : Nat) (P : Nat → Prt) (i : Int) (B : Nat → Nat → Nat)
noncomputable def arE : List KEntry := [kS Tryz.prog 39 fun v => BX (bb v)]
def jnE : List Entry := [⟨105, eBB fun a b => BX (jn a b)⟩]
def srJ (l r : Int) (m : Nat) : Bool := (ixB l m || false) && ((bl' l m) && ((ixB r m || false) && ((bl' r m) && ((apB m 48 || false) && true))))
def srA (m : Nat) (o : Option Out) : Option Out := cond (apB m 48 || false) o none
noncomputable def srC (f : (Nat → Nat) → Option Out) (oe : Option Out) : Option Out := cond (decide (i < n)) (cond (ixB i n || false) (cond ((P i.toNat).op == 0) (gate (FSpec Tryz.prog 39 [.agg (P i.toNat).s] (BX (bb [.agg (P i.toNat).s]))) (srA m (f (bb [.agg (P i.toNat).s])))) (cond ((P i.toNat).op == 2) (cond (srJ (P i.toNat).l (P i.toNat).r m) (f (jn (lb (B (0 + (P i.toNat).l.toNat))) (lb (B (0 + (P i.toNat).r.toNat))))) none) (ow' (P i.toNat).l m (srA m (f (B (0 + (P i.toNat).l.toNat))))))) none) oe
theorem sr_step : evC Tryz.prog (jnE jn) (arE bb) noL (loopAt Tryz.f70 0) (srS n P i m fun q => b6 (B q)) (finN keepSr [some 0, some 4]) = srC bb jn n m P i B (fun x => some ⟨.normal, srS n P (w64 (i + 1)) (m + 1) fun q => mixL (Nat.blt q m) (b6 (B q)) (b6 x), .any⟩) none := by kernel_rfl
theorem sr_end : evC Tryz.prog (jnE jn) (arE bb) noL (loopAt Tryz.f70 0) (srS n P i m fun q => b6 (B q)) (finE keepSr [some 0, some 1]) = srC bb jn n m P i B (fun _ => none) (some ⟨.exit 0, srS n P i m fun q => b6 (B q), .any⟩) := by kernel_rfl
theorem sr_ev : ev Tryz.prog (jnE jn) (arE bb) (oneL 3 (toldN keepSr [(3, 1, 6)] (.a 30 6 0 fun q => b6 (B q)) [some 0, none] (srS n P 0 0 fun q => b6 (B q)) (.exit 0) (srS n P (n : Nat) n fun q => b6 (B q)))) Tryz.f70 [prS n P] ret = gate (Sub (srS n P 0 0 fun q => b6 (B q)) (srS n P 0 0 fun q => b6 (B q))) (ow' (w64 ((n : Int) - 1)) n (some (Out.of (.agg (b6 (B (0 + (w64 ((n : Int) - 1)).toNat))))))) := by kernel_rfl
end
def agC : List AV → List AV
  | [.agg c] => c
  | _ => []
noncomputable def bbR (v : List AV) : Nat → Nat := (bndC (agC v)).1
theorem pr_leaf {p : Prt} {k : Int} (h : ppE p k = 0) (h0 : p.op = 0) : mayC p.s = 0 := by
  unfold ppE at h
  rw [h0] at h
  have h : mlE (mayC p.s) p.k = 0 := h
  by_cases e : mayC p.s = 0
  · exact e
  · unfold mlE at h
    rw [beq_false_of_ne e] at h
    exact absurd h e
theorem srJ_t {l r m : Nat} (h1 : l < m) (h2 : r < m) (h3 : m ≤ 1000) : srJ (l : Nat) (r : Nat) m = true := by
  unfold srJ bl'
  rw [ixB_t h1, ixB_t h2, Int.toNat_natCast, Int.toNat_natCast, Nat.zero_add, Nat.zero_add, blt_t h1, blt_t h2, apB_t (by omega)]
  rfl
theorem srA_t {m : Nat} (h : m ≤ 1000) (o : Option Out) : srA m o = o := by
  unfold srA
  rw [apB_t (by omega)]
  rfl
theorem srC_t {n : Nat} {P : Nat → Prt} {k : Nat} (hk : k < n) (hn : n ≤ 16) (hp : ppE (P k) (k : Nat) = 0) (B : Nat → Nat → Nat) (f : (Nat → Nat) → Option Out) (oe : Option Out) : srC bbR joinS n k P (k : Nat) B f oe = f (bxV (P k) B) := by
  unfold srC
  rw [dec_lt hk, ixB_t hk, Int.toNat_natCast]
  rcases pr_ok hp with h | ⟨h, l, r, e1, e2, h1, h2⟩
  · have e : ((P k).op == 0) = true := by rw [h]; rfl
    unfold bxV
    rw [e]
    show gate (FSpec Tryz.prog 39 [.agg (P k).s] (BX (bndC (P k).s).1)) (srA k (f (bndC (P k).s).1)) = _
    rw [gate_pos (show FSpec Tryz.prog 39 [.agg (P k).s] (BX (bndC (P k).s).1) from arC_spec (P k).k (P k).a (P k).sk (pr_leaf hp h)), srA_t (by omega)]
    rfl
  · unfold bxV
    rw [beq_false_of_ne h, e1, e2, Int.toNat_natCast, Int.toNat_natCast, Nat.zero_add, Nat.zero_add]
    cases (P k).op == 2
    · show ow' (l : Nat) k (srA k _) = _
      rw [ow_t h1, srA_t (by omega)]
      rfl
    · show cond (srJ (l : Nat) (r : Nat) k) _ none = _
      rw [srJ_t h1 h2 (by omega)]
      rfl
theorem jnE_ok : ∀ e, e ∈ jnE joinS → EOk Tryz.prog e := e_cons (eBB_ok rjoin) e_nil
theorem sr_leads {n : Nat} (hn : n ≤ 16) {P : Nat → Prt} (hp : ∀ k, k < n → ppE (P k) (k : Nat) = 0) : Leads Tryz.prog (.loop (loopAt Tryz.f70 0)) (srS n P 0 0 fun q => b6 (bxS P n q)) (.exit 0) (srS n P (n : Nat) n fun q => b6 (bxS P n q)) := by
  have h0 : Leads Tryz.prog (.loop (loopAt Tryz.f70 0)) (srS n P (0 : Nat) 0 fun q => b6 (bxS P 0 q)) (.exit 0) (srS n P (n : Nat) n fun q => b6 (bxS P n q)) := by
    refine loop_rule (fun k => srS n P (k : Nat) k fun q => b6 (bxS P k q)) n (.exit 0) _ (by simp) (fun k hk => ?_) ?_
    · have st := sr_step bbR joinS n k P (k : Nat) (bxS P k)
      rw [srC_t hk hn (hp k hk), w64_next (by omega)] at st
      refine (leads_ev (finN_sub _ _) jnE_ok (k_cons kS_ok k_nil) noL_ok st).sub (Sub.refl _) ?_
      refine sub_same ⟨Or.inl rfl, Or.inr ⟨30, 6, k + 1, _, _, rfl, rfl, fun q hq => ?_⟩, trivial⟩
      rw [mix_b6]
      show b6 (if q = k then bxV (P k) (bxS P k) else bxS P k q) = _
      cases hlt : Nat.blt q k
      · have hge := not_blt hlt
        rw [if_pos (by omega)]; rfl
      · rw [if_neg (fun e => by subst e; have := Nat.lt_of_lt_of_le (Nat.lt_succ_self q) (Nat.le_of_ble_eq_true hlt); omega)]; rfl
    · refine leads_ev (finE_sub _ _) jnE_ok (k_cons kS_ok k_nil) noL_ok ((sr_end bbR joinS n n P (n : Nat) (bxS P n)).trans ?_)
      unfold srC
      rw [dec_self, cond_false]
  exact h0.sub (sub_same ⟨Or.inl rfl, Or.inr ⟨30, 6, 0, _, _, rfl, rfl, fun q hq => absurd hq (Nat.not_lt_zero q)⟩, trivial⟩) (Sub.refl _)
/-- The answer's box around a solid's parts: the code's. -/
theorem sr_spec {n : Nat} (h1 : 1 ≤ n) (hn : n ≤ 16) {P : Nat → Prt} (hp : ∀ k, k < n → ppE (P k) (k : Nat) = 0) : FSpec Tryz.prog 70 [prS n P] (BX (bxS P n (n - 1))) := by
  have hL := lok_hd (c := bodyOf Tryz.f70) (i := 3) 0 (by kernel_rfl) (by kernel_rfl) (toldN_sound (keep := keepSr) (nils := [(3, 1, 6)]) (nr := .a 30 6 0 fun q => b6 (bxS P n q)) (τ := [some 0, none]) (sr_leads hn hp))
  refine gspec jnE_ok (k_cons kS_ok k_nil) Tryz.func70 (by kernel_rfl) (by kernel_rfl) hL rfl ((sr_ev bbR joinS n P (bxS P n)).trans ?_)
  rw [gate_pos (Sub.refl _), w64_id (by omega) (by omega), show ((n : Int) - 1) = ((n - 1 : Nat) : Int) by omega, ow_t (by omega), Int.toNat_natCast, Nat.zero_add]
  rfl
end Go.Proofs.YtancjnambbkhmaaGreat.Hs.So

namespace Go.Proofs.YtancjnambbkhmaaGreat.Hs.So
open Go.Gv
open Go.Ev (cn fadd fsub fmul fdiv fsqrt fneg feq flt fle fgt fge fabs isNan)

def bo8 (b : Nat → Nat) (e : Int) : Option Out := some (Out.of (.tup [BX b, iA e]))
section
variable (n : Nat) (P : Nat → Prt) (sn e : Int) (b : Nat → Nat)
noncomputable def sbX (fm fb : Nat) : Option Out := gate (FSpec Tryz.prog fm [.agg (soC n P sn)] (iA e)) (cond (!(e == 0)) (bo8 (fun _ => 0) e) (gate (FSpec Tryz.prog fb [prS n P] (BX b)) (bo8 b 0)))
noncomputable def sbK (fm fb : Nat) : List KEntry := [kS Tryz.prog fm fun _ => iA e, kS Tryz.prog fb fun _ => BX b]
theorem sb_ev : ev Tryz.prog [] (sbK e b 26 69) noL Tryz.f24 [.agg (soC n P sn)] ret = sbX n P sn e b 26 69 := by kernel_rfl
theorem rsb_ev : ev Tryz.prog [] (sbK e b 27 70) noL Tryz.f25 [.agg (soC n P sn)] ret = sbX n P sn e b 27 70 := by kernel_rfl
end
/-- What is known of a solid that may be. -/
theorem so_ok {n : Nat} {P : Nat → Prt} {sn : Int} (h : soE n P sn = 0) : 1 ≤ n ∧ n ≤ 16 ∧ ∀ k, k < n → ppE (P k) (k : Nat) = 0 := by
  unfold soE at h
  by_cases h1 : n < 1
  · rw [decide_eq_true (show (n : Int) < 1 by omega)] at h; exact absurd (show (5 : Int) = 0 from h) (by decide)
  · by_cases h2 : 16 < n
    · rw [decide_eq_false (show ¬ (n : Int) < 1 by omega), decide_eq_true (show (n : Int) > 16 by omega)] at h; exact absurd (show (5 : Int) = 0 from h) (by decide)
    · rw [decide_eq_false (show ¬ (n : Int) < 1 by omega), decide_eq_false (show ¬ (n : Int) > 16 by omega)] at h
      cases hs : skB sn
      · rw [hs] at h
        exact ⟨by omega, by omega, seq_zero n h⟩
      · rw [hs] at h; exact absurd (show (4 : Int) = 0 from h) (by decide)
/-- The box around a solid. -/
noncomputable def soB (n : Nat) (P : Nat → Prt) (sn : Int) : Nat → Nat := cond (soE n P sn == 0) (bxS P n (n - 1)) (fun _ => 0)
theorem sbX_eq {n : Nat} {P : Nat → Prt} {sn : Int} {fm fb : Nat} (h : FSpec Tryz.prog fm [.agg (soC n P sn)] (iA (soE n P sn))) (hb : soE n P sn = 0 → FSpec Tryz.prog fb [prS n P] (BX (bxS P n (n - 1)))) : sbX n P sn (soE n P sn) (bxS P n (n - 1)) fm fb = some (Out.of (.tup [BX (soB n P sn), iA (soE n P sn)])) := by
  unfold sbX soB
  rw [gate_pos h]
  by_cases e : soE n P sn = 0
  · rw [gate_pos (hb e), e]; rfl
  · rw [beq_false_of_ne e]; rfl
theorem sbounds_spec (n : Nat) (P : Nat → Prt) (sn : Int) : FSpec Tryz.prog 24 [.agg (soC n P sn)] (.tup [BX (soB n P sn), iA (soE n P sn)]) :=
  gspec e_nil (k_cons kS_ok (k_cons kS_ok k_nil)) Tryz.func24 (by kernel_rfl) (by kernel_rfl) noL_ok rfl ((sb_ev n P sn _ _).trans (sbX_eq (smay_spec n P sn) fun h => bo_spec (so_ok h).1 (so_ok h).2.1 fun k hk => pr_ok ((so_ok h).2.2 k hk)))
theorem rsbounds_spec (n : Nat) (P : Nat → Prt) (sn : Int) : FSpec Tryz.prog 25 [.agg (soC n P sn)] (.tup [BX (soB n P sn), iA (soE n P sn)]) :=
  gspec e_nil (k_cons kS_ok (k_cons kS_ok k_nil)) Tryz.func25 (by kernel_rfl) (by kernel_rfl) noL_ok rfl ((rsb_ev n P sn _ _).trans (sbX_eq (rsmay_spec n P sn) fun h => sr_spec (so_ok h).1 (so_ok h).2.1 (so_ok h).2.2))
end Go.Proofs.YtancjnambbkhmaaGreat.Hs.So

namespace Go.Proofs.YtancjnambbkhmaaGreat.Hs.So
open Go.Gv
open Go.Ev (cn fadd fsub fmul fdiv fsqrt fneg feq flt fle fgt fge fabs isNan)

structure Nor where
  x : Nat
  y : Nat
  w : Nat
  e : Int
def Nor.v (g : Nor) : AV := .tup [V g.x g.y g.w, iA g.e]
open Classical in
noncomputable def norC (c : List AV) (p q u : Nat) : Nor := if h : ∃ g : Nor, FSpec Tryz.prog 16 [.agg c, V p q u] g.v ∧ FSpec Tryz.prog 17 [.agg c, V p q u] g.v then h.choose else ⟨0, 0, 0, 0⟩
theorem norC_spec (k : Int) (a : Nat → Nat) (sk : Int) (p q u : Nat) : FSpec Tryz.prog 16 [SH k a sk, V p q u] (norC (shC k a sk) p q u).v ∧ FSpec Tryz.prog 17 [SH k a sk, V p q u] (norC (shC k a sk) p q u).v := by
  have h : ∃ g : Nor, FSpec Tryz.prog 16 [.agg (shC k a sk), V p q u] g.v ∧ FSpec Tryz.prog 17 [.agg (shC k a sk), V p q u] g.v := by
    obtain ⟨x, y, w, e, h1, h2⟩ := (agree2 k a sk p q u).n
    exact ⟨⟨x, y, w, e⟩, h1, h2⟩
  unfold norC
  rw [dif_pos h]
  exact h.choose_spec
def eScV (g : List AV → Nat → Nat → Nat → AV) : List AV → Option AV
  | [.agg [.x (.int .i64 k), .f a0, .f a1, .f a2, .f a3, .f a4, .f a5, .f a6, .f a7, .f a8, .f a9, .f a10, .x (.int .i64 sk)], .agg [.f p, .f q, .f u]] => some (g [.x (.int .i64 k), .f a0, .f a1, .f a2, .f a3, .f a4, .f a5, .f a6, .f a7, .f a8, .f a9, .f a10, .x (.int .i64 sk)] p q u)
  | _ => none
theorem eScV_ok {f : Nat} {g : List AV → Nat → Nat → Nat → AV} (h : ∀ k a sk p q u, FSpec Tryz.prog f [SH k a sk, V p q u] (g (shC k a sk) p q u)) : EOk Tryz.prog ⟨f, eScV g⟩ := fun args r hr => by
  simp only [eScV] at hr
  split at hr
  · cases hr; exact Or.inl (h _ (ls [_, _, _, _, _, _, _, _, _, _, _]) _ _ _ _)
  · cases hr
def CR (t : Nat) (lf : Int) (tu : Bool) : AV := .agg [.f t, iA lf, bA tu]
def no8 (x y w : Nat) (e : Int) : Option Out := some (Out.of (.tup [V x y w, iA e]))
def mo : Nat := 13830554455654793216
section
variable (G : List AV → Nat → Nat → Nat → Nor) (n : Nat) (P : Nat → Prt) (sn e : Int) (t : Nat) (lf : Int) (tu : Bool) (p q u : Nat)
def snE (fn fs : Nat) : List Entry := [⟨fn, eScV fun c p q u => (G c p q u).v⟩, ⟨fs, eVF fun a b c k => V (fmul a k) (fmul b k) (fmul c k)⟩]
def lfB (n : Nat) (lf : Int) : Bool := cond (decide (lf < 0)) true (decide (lf ≥ n))
def snY (o : Option Out) : Option Out := cond (ixB lf n || !(decide (lfB n lf = false) && true)) (cond (cond (lfB n lf) true (!((P lf.toNat).op == 0))) (no8 0 0 0 9) (cond ((ixB lf n || false) && true) o none)) none
noncomputable def snX (fm : Nat) (o : Option Out) : Option Out := gate (FSpec Tryz.prog fm [.agg (soC n P sn)] (iA e)) (cond (!(e == 0)) (no8 0 0 0 e) (snY n P lf o))
def snA (g : Nor) : Option Out := cond (cond (!(g.e == 0)) true (!tu)) (no8 g.x g.y g.w g.e) (no8 (fmul g.x mo) (fmul g.y mo) (fmul g.w mo) 0)
def snB (g : Nor) : Option Out := cond (cond (g.e == 0) tu false) (no8 (fmul g.x mo) (fmul g.y mo) (fmul g.w mo) g.e) (no8 g.x g.y g.w g.e)
theorem sn_ev : ev Tryz.prog (snE G 16 78) [kS Tryz.prog 26 fun _ => iA e] noL Tryz.f33 [.agg (soC n P sn), CR t lf tu, V p q u] ret = snX n P sn e lf 26 (snA tu (G (P lf.toNat).s p q u)) := by kernel_rfl
theorem rsn_ev : ev Tryz.prog (snE G 17 79) [kS Tryz.prog 27 fun _ => iA e] noL Tryz.f34 [.agg (soC n P sn), CR t lf tu, V p q u] ret = snX n P sn e lf 27 (snB tu (G (P lf.toNat).s p q u)) := by kernel_rfl
end
noncomputable def turnN (tu : Bool) (g : Nor) : Nor := cond (cond (g.e == 0) tu false) ⟨fmul g.x mo, fmul g.y mo, fmul g.w mo, g.e⟩ g
theorem snB_eq (tu : Bool) (g : Nor) : snB tu g = some (Out.of (turnN tu g).v) := by
  unfold snB turnN
  cases cond (g.e == 0) tu false <;> rfl
theorem snA_eq (tu : Bool) (g : Nor) : snA tu g = some (Out.of (turnN tu g).v) := by
  unfold snA turnN
  by_cases e : g.e = 0
  · rw [e]
    cases tu
    · show no8 g.x g.y g.w 0 = some (Out.of g.v)
      unfold no8 Nor.v
      rw [e]
    · rfl
  · rw [beq_false_of_ne e]; rfl
/-- What stands on a solid's leaf. -/
noncomputable def soN (n : Nat) (P : Nat → Prt) (sn lf : Int) (tu : Bool) (p q u : Nat) : Nor := cond (soE n P sn == 0) (cond (cond (lfB n lf) true (!((P lf.toNat).op == 0))) ⟨0, 0, 0, 9⟩ (turnN tu (norC (P lf.toNat).s p q u))) ⟨0, 0, 0, soE n P sn⟩
theorem snX_eq {n : Nat} {P : Nat → Prt} {sn lf : Int} {tu : Bool} {p q u fm : Nat} {o : Option Out} (h : FSpec Tryz.prog fm [.agg (soC n P sn)] (iA (soE n P sn))) (ho : o = some (Out.of (turnN tu (norC (P lf.toNat).s p q u)).v)) : snX n P sn (soE n P sn) lf fm o = some (Out.of (soN n P sn lf tu p q u).v) := by
  unfold snX soN
  rw [gate_pos h]
  by_cases e : soE n P sn = 0
  · rw [e]
    show snY n P lf o = _
    unfold snY
    cases hb : lfB n lf
    · have hi : ixB lf n = true := by
        unfold lfB at hb
        by_cases c1 : lf < 0
        · rw [decide_eq_true c1] at hb; cases hb
        · rw [decide_eq_false c1] at hb
          have hb : decide (lf ≥ n) = false := hb
          have c2 := of_decide_eq_false hb
          obtain ⟨k, hk⟩ : ∃ k : Nat, lf = (k : Nat) := ⟨lf.toNat, by omega⟩
          rw [hk]; exact ixB_t (by omega)
      rw [hi, ho]
      cases (P lf.toNat).op == 0 <;> rfl
    · show cond (ixB lf n || !(decide (true = false) && true)) _ none = _
      cases ixB lf n <;> rfl
  · rw [beq_false_of_ne e]; rfl
theorem snormal_spec (n : Nat) (P : Nat → Prt) (sn : Int) (t : Nat) (lf : Int) (tu : Bool) (p q u : Nat) : FSpec Tryz.prog 33 [.agg (soC n P sn), CR t lf tu, V p q u] (soN n P sn lf tu p q u).v :=
  gspec (e_cons (eScV_ok fun k a sk p q u => (norC_spec k a sk p q u).1) <| e_cons (eVF_ok vscale) e_nil) (k_cons kS_ok k_nil) Tryz.func33 (by kernel_rfl) (by kernel_rfl) noL_ok rfl ((sn_ev norC n P sn _ t lf tu p q u).trans (snX_eq (smay_spec n P sn) (snA_eq _ _)))
theorem rsnormal_spec (n : Nat) (P : Nat → Prt) (sn : Int) (t : Nat) (lf : Int) (tu : Bool) (p q u : Nat) : FSpec Tryz.prog 34 [.agg (soC n P sn), CR t lf tu, V p q u] (soN n P sn lf tu p q u).v :=
  gspec (e_cons (eScV_ok fun k a sk p q u => (norC_spec k a sk p q u).2) <| e_cons (eVF_ok rscale) e_nil) (k_cons kS_ok k_nil) Tryz.func34 (by kernel_rfl) (by kernel_rfl) noL_ok rfl ((rsn_ev norC n P sn _ t lf tu p q u).trans (snX_eq (rsmay_spec n P sn) (snB_eq _ _)))
end Go.Proofs.YtancjnambbkhmaaGreat.Hs.So

namespace Go.Proofs.YtancjnambbkhmaaGreat.Hs.So
open Go.Gv
open Go.Ev (cn fadd fsub fmul fdiv fsqrt fneg feq flt fle fgt fge fabs isNan)

structure Crs where
  t : Nat
  l : Int
  u : Bool
def Crs.c (x : Crs) : List AV := [.f x.t, iA x.l, bA x.u]
def Crs.v (x : Crs) : AV := .agg x.c
def lateS (a b : Crs) : Crs := cond (fgt b.t a.t) b a
def earlS (a b : Crs) : Crs := cond (flt b.t a.t) b a
def turnS (a : Crs) : Crs := ⟨a.t, a.l, !a.u⟩
theorem late_ev (a b : Crs) : ev Tryz.prog [] [] noL Tryz.f127 [a.v, b.v] ret = cond (fgt b.t a.t) (some (Out.of b.v)) (some (Out.of a.v)) := by kernel_rfl
theorem earl_ev (a b : Crs) : ev Tryz.prog [] [] noL Tryz.f128 [a.v, b.v] ret = cond (flt b.t a.t) (some (Out.of b.v)) (some (Out.of a.v)) := by kernel_rfl
theorem turn_ev (a : Crs) : ev Tryz.prog [] [] noL Tryz.f154 [a.v] ret = some (Out.of (turnS a).v) := by kernel_rfl
theorem slate (a b : Crs) : FSpec Tryz.prog 127 [a.v, b.v] (lateS a b).v := sp e_nil Tryz.func127 (by kernel_rfl) (by kernel_rfl) rfl ((late_ev a b).trans (by unfold lateS; cases fgt b.t a.t <;> rfl))
theorem searl (a b : Crs) : FSpec Tryz.prog 128 [a.v, b.v] (earlS a b).v := sp e_nil Tryz.func128 (by kernel_rfl) (by kernel_rfl) rfl ((earl_ev a b).trans (by unfold earlS; cases flt b.t a.t <;> rfl))
theorem sturn (a : Crs) : FSpec Tryz.prog 154 [a.v] (turnS a).v := sp e_nil Tryz.func154 (by kernel_rfl) (by kernel_rfl) rfl (turn_ev a)
end Go.Proofs.YtancjnambbkhmaaGreat.Hs.So

namespace Go.Proofs.YtancjnambbkhmaaGreat.Hs.So
open Go.Gv
open Go.Ev (cn fadd fsub fmul fdiv fsqrt fneg feq flt fle fgt fge fabs isNan)

def eScY (g : List AV → (Nat → Nat) → AV) : List AV → Option AV
  | [.agg [.x (.int .i64 k), .f a0, .f a1, .f a2, .f a3, .f a4, .f a5, .f a6, .f a7, .f a8, .f a9, .f a10, .x (.int .i64 sk)], .agg [.f a, .f b, .f c, .f d, .f e, .f f, .f x]] => some (g [.x (.int .i64 k), .f a0, .f a1, .f a2, .f a3, .f a4, .f a5, .f a6, .f a7, .f a8, .f a9, .f a10, .x (.int .i64 sk)] (ls [a, b, c, d, e, f, x]))
  | _ => none
theorem eScY_ok {f : Nat} {g : List AV → (Nat → Nat) → AV} (h : ∀ k a sk r, FSpec Tryz.prog f [SH k a sk, RY r] (g (shC k a sk) r)) : EOk Tryz.prog ⟨f, eScY g⟩ := fun args r hr => by
  simp only [eScY] at hr
  split at hr
  · cases hr; exact Or.inl (h _ (ls [_, _, _, _, _, _, _, _, _, _, _]) _ (ls [_, _, _, _, _, _, _]))
  · cases hr
def l7 (r : Nat → Nat) : Nat → Nat := ls [r 0, r 1, r 2, r 3, r 4, r 5, r 6]
structure Spn where
  i : Crs
  o : Crs
def Spn.c (x : Spn) : List AV := [.f x.i.t, iA x.i.l, bA x.i.u, .f x.o.t, iA x.o.l, bA x.o.u]
theorem lf_ev (w : List AV → (Nat → Nat) → Wit) (num k : Int) (a : Nat → Nat) (sk : Int) (r : Nat → Nat) : ev Tryz.prog [⟨19, eScY fun c r => (w c r).v⟩] [] noL Tryz.f107 [iA num, SH k a sk, RY r] ret =
    cond (!(w (shC k a sk) (l7 r)).ok) (some (Out.of (.x (.slice none 0 0)))) (some (Out.of (.sl 6 1 fun q => chunk (⟨⟨(w (shC k a sk) (l7 r)).i, num, false⟩, ⟨(w (shC k a sk) (l7 r)).o, num, false⟩⟩ : Spn).c 6 (0 + q)))) := by kernel_rfl
end Go.Proofs.YtancjnambbkhmaaGreat.Hs.So

namespace Go.Proofs.YtancjnambbkhmaaGreat.Hs.So
open Go.Ev (flt fle fgt fge isNan key flt_key fgt_key fle_key fge_key flt_true)

structure Gd (s : Spn) : Prop where
  ni : isNan s.i.t = false
  no : isNan s.o.t = false
  lt : key s.i.t < key s.o.t
def Ris (L : List Spn) : Prop := L.Pairwise (fun a b => key a.o.t < key b.i.t) ∧ ∀ s, s ∈ L → Gd s
def Wn (s a : Spn) : Prop := key a.i.t ≤ key s.i.t ∧ key s.o.t ≤ key a.o.t
theorem ris_nil : Ris [] := ⟨List.Pairwise.nil, fun s h => by cases h⟩
theorem ris_one {s : Spn} (h : Gd s) : Ris [s] := ⟨List.pairwise_singleton _ _, fun x hx => by rw [List.mem_singleton] at hx; subst hx; exact h⟩
theorem ris_tail {a : Spn} {l : List Spn} (h : Ris (a :: l)) : Ris l := ⟨(List.pairwise_cons.1 h.1).2, fun s hs => h.2 s (List.mem_cons_of_mem _ hs)⟩
theorem ris_head {a : Spn} {l : List Spn} (h : Ris (a :: l)) : Gd a ∧ ∀ b, b ∈ l → key a.o.t < key b.i.t := ⟨h.2 a List.mem_cons_self, (List.pairwise_cons.1 h.1).1⟩
theorem ris_app {l m : List Spn} (h : Ris l) (g : Ris m) (k : ∀ a, a ∈ l → ∀ b, b ∈ m → key a.o.t < key b.i.t) : Ris (l ++ m) :=
  ⟨List.pairwise_append.2 ⟨h.1, g.1, k⟩, fun s hs => (List.mem_append.1 hs).elim (h.2 s) (g.2 s)⟩
theorem ris_left {l m : List Spn} (h : Ris (l ++ m)) : Ris l := ⟨(List.pairwise_append.1 h.1).1, fun s hs => h.2 s (List.mem_append_left _ hs)⟩
theorem ris_flat {A : List Spn} {f : Spn → List Spn} (h : Ris A) (hf : ∀ a, a ∈ A → Ris (f a) ∧ ∀ s, s ∈ f a → Wn s a) : Ris (A.flatMap f) := by
  refine ⟨List.pairwise_flatMap.2 ⟨fun a ha => (hf a ha).1.1, ?_⟩, fun s hs => ?_⟩
  · refine List.Pairwise.imp_of_mem (fun {a b} ha hb hab x hx y hy => ?_) h.1
    have := (hf a ha).2 x hx
    have := (hf b hb).2 y hy
    unfold Wn at *
    omega
  · obtain ⟨a, ha, hs⟩ := List.mem_flatMap.1 hs
    exact (hf a ha).1.2 s hs
/-- The piece from one cross to another, if it has a length. -/
def piece (a b : Crs) : List Spn := cond (flt a.t b.t) [⟨a, b⟩] []
theorem piece_mem {a b : Crs} {s : Spn} (h : s ∈ piece a b) : s = ⟨a, b⟩ ∧ Gd s := by
  unfold piece at h
  cases hf : flt a.t b.t <;> rw [hf] at h
  · cases h
  · have e := List.mem_singleton.1 h
    subst e
    have := flt_true hf
    exact ⟨rfl, this.1, this.2.1, this.2.2⟩
theorem piece_ris (a b : Crs) : Ris (piece a b) := by
  refine ⟨?_, fun s hs => (piece_mem hs).2⟩
  unfold piece
  cases flt a.t b.t
  · exact List.Pairwise.nil
  · exact List.pairwise_singleton _ _
theorem late_key {a b : Crs} (ha : isNan a.t = false) (hb : isNan b.t = false) : key a.t ≤ key (lateS a b).t ∧ key b.t ≤ key (lateS a b).t := by
  unfold lateS
  rw [fgt_key hb ha]
  by_cases h : key a.t < key b.t
  · rw [decide_eq_true h, cond_true]; omega
  · rw [decide_eq_false h, cond_false]; omega
theorem earl_key {a b : Crs} (ha : isNan a.t = false) (hb : isNan b.t = false) : key (earlS a b).t ≤ key a.t ∧ key (earlS a b).t ≤ key b.t := by
  unfold earlS
  rw [flt_key hb ha]
  by_cases h : key b.t < key a.t
  · rw [decide_eq_true h, cond_true]; omega
  · rw [decide_eq_false h, cond_false]; omega
theorem late_or (a b : Crs) : lateS a b = a ∨ lateS a b = b := by unfold lateS; cases fgt b.t a.t; exact Or.inl rfl; exact Or.inr rfl
theorem earl_or (a b : Crs) : earlS a b = a ∨ earlS a b = b := by unfold earlS; cases flt b.t a.t; exact Or.inl rfl; exact Or.inr rfl
/-! ### Both -/
def both1 (l r : Spn) : List Spn := piece (lateS l.i r.i) (earlS l.o r.o)
def bothL (A B : List Spn) : List Spn := A.flatMap fun l => B.flatMap fun r => both1 l r
theorem both1_wn {l r s : Spn} (hl : Gd l) (hr : Gd r) (h : s ∈ both1 l r) : Wn s l ∧ Wn s r := by
  have e := (piece_mem h).1
  subst e
  have := late_key hl.ni hr.ni
  have := earl_key hl.no hr.no
  unfold Wn
  show (key l.i.t ≤ key (lateS l.i r.i).t ∧ key (earlS l.o r.o).t ≤ key l.o.t) ∧ (key r.i.t ≤ key (lateS l.i r.i).t ∧ key (earlS l.o r.o).t ≤ key r.o.t)
  omega
theorem both_ris {A B : List Spn} (hA : Ris A) (hB : Ris B) : Ris (bothL A B) :=
  ris_flat hA fun l hl => ⟨ris_flat hB fun r hr => ⟨piece_ris _ _, fun s hs => (both1_wn (hA.2 l hl) (hB.2 r hr) hs).2⟩, fun s hs => by
    obtain ⟨r, hr, hs⟩ := List.mem_flatMap.1 hs
    exact (both1_wn (hA.2 l hl) (hB.2 r hr) hs).1⟩
/-! ### Less -/
def skipB (h : Spn) (g e : Crs) : Bool := fle h.o.t g.t || fge h.i.t e.t
def cutC (e : Crs) : List Spn → Crs → List Spn
  | [], g => piece g e
  | h :: t, g => cond (skipB h g e) (cutC e t g) (piece g (turnS h.i) ++ cutC e t (turnS h.o))
def lessL (A B : List Spn) : List Spn := A.flatMap fun l => cutC l.o B l.i
/-- A hole cut out of one piece. -/
def cut1 (h y : Spn) : List Spn := cond (skipB h y.i y.o) [y] (piece y.i (turnS h.i) ++ piece (turnS h.o) y.o)
def cutA (B : List Spn) (l : List Spn) : List Spn := B.foldl (fun l h => l.flatMap (cut1 h)) l
theorem piece_one {g e : Crs} (h : flt g.t e.t = true) : piece g e = [⟨g, e⟩] := by unfold piece; rw [h]; rfl
theorem piece_none {g e : Crs} (h : flt g.t e.t = false) : piece g e = [] := by unfold piece; rw [h]; rfl
theorem flat_self {f : Spn → List Spn} : ∀ {l : List Spn}, (∀ y, y ∈ l → f y = [y]) → l.flatMap f = l
  | [], _ => rfl
  | a :: l, h => by
    rw [List.flatMap_cons, h a List.mem_cons_self, flat_self fun y hy => h y (List.mem_cons_of_mem _ hy)]; rfl
theorem cut_eq : ∀ (B : List Spn), Ris B → ∀ (d : List Spn) (g e : Crs), (∀ y, y ∈ d → Gd y ∧ ∀ h, h ∈ B → key y.o.t ≤ key h.i.t) → isNan g.t = false → isNan e.t = false → (key g.t < key e.t ∨ ∀ h, h ∈ B → key e.t ≤ key h.i.t) → cutA B (d ++ piece g e) = d ++ cutC e B g
  | [], _, _, _, _, _, _, _, _ => rfl
  | h :: t, hB, d, g, e, hd, ng, ne, hg => by
    have gh := ris_head hB
    have h1 : (d ++ piece g e).flatMap (cut1 h) = d ++ (piece g e).flatMap (cut1 h) := by
      rw [List.flatMap_append, flat_self]
      intro y hy
      have hk := (hd y hy).2 h List.mem_cons_self
      unfold cut1 skipB
      rw [fge_key gh.1.ni (hd y hy).1.no, decide_eq_true hk, Bool.or_true]; rfl
    show cutA t ((d ++ piece g e).flatMap (cut1 h)) = d ++ cutC e (h :: t) g
    rw [h1]
    have hd' : ∀ y, y ∈ d → Gd y ∧ ∀ h, h ∈ t → key y.o.t ≤ key h.i.t := fun y hy => ⟨(hd y hy).1, fun x hx => (hd y hy).2 x (List.mem_cons_of_mem _ hx)⟩
    unfold cutC
    by_cases c : key g.t < key e.t
    · have hp : flt g.t e.t = true := by rw [flt_key ng ne, decide_eq_true c]
      have ep := piece_one hp
      rw [ep, List.flatMap_cons, List.flatMap_nil, List.append_nil]
      unfold cut1
      show cutA t (d ++ cond (skipB h g e) [⟨g, e⟩] _) = _
      cases hs : skipB h g e
      · show cutA t (d ++ (piece g (turnS h.i) ++ piece (turnS h.o) e)) = d ++ (piece g (turnS h.i) ++ cutC e t (turnS h.o))
        rw [← List.append_assoc, ← List.append_assoc]
        refine cut_eq t (ris_tail hB) _ (turnS h.o) e (fun y hy => ?_) gh.1.no ne ?_
        · rcases List.mem_append.1 hy with hy | hy
          · exact hd' y hy
          · have := piece_mem hy
            refine ⟨this.2, fun x hx => ?_⟩
            rw [this.1]
            have := gh.2 x hx
            have := gh.1.lt
            show key h.i.t ≤ key x.i.t
            omega
        · by_cases c2 : key h.o.t < key e.t
          · exact Or.inl c2
          · refine Or.inr fun x hx => ?_
            have := gh.2 x hx
            omega
      · show cutA t (d ++ [⟨g, e⟩]) = d ++ cutC e t g
        rw [← ep]
        exact cut_eq t (ris_tail hB) d g e hd' ng ne (Or.inl c)
    · have hp : flt g.t e.t = false := by rw [flt_key ng ne, decide_eq_false c]
      have ep := piece_none hp
      have hk : ∀ x, x ∈ h :: t → key e.t ≤ key x.i.t := hg.resolve_left c
      have hs : skipB h g e = true := by unfold skipB; rw [fge_key gh.1.ni ne, decide_eq_true (hk h List.mem_cons_self), Bool.or_true]
      rw [hs, ep, List.flatMap_nil, ← ep, cond_true]
      exact cut_eq t (ris_tail hB) d g e hd' ng ne (Or.inr fun x hx => hk x (List.mem_cons_of_mem _ hx))
theorem cut_ris : ∀ (B : List Spn), Ris B → ∀ (g e : Crs), isNan g.t = false → isNan e.t = false → Ris (cutC e B g) ∧ ∀ s, s ∈ cutC e B g → Wn s ⟨g, e⟩
  | [], _, g, e, _, _ => ⟨piece_ris _ _, fun s hs => by
    have := (piece_mem hs).1
    show Wn s ⟨g, e⟩
    rw [this]; unfold Wn; exact ⟨Int.le_refl _, Int.le_refl _⟩⟩
  | h :: t, hB, g, e, ng, ne => by
    have gh := ris_head hB
    unfold cutC
    cases hs : skipB h g e
    · rw [cond_false]
      unfold skipB at hs
      rw [fle_key gh.1.no ng, fge_key gh.1.ni ne] at hs
      have hs := Bool.or_eq_false_iff.1 hs
      have s1 := of_decide_eq_false hs.1
      have s2 := of_decide_eq_false hs.2
      have ih := cut_ris t (ris_tail hB) (turnS h.o) e gh.1.no ne
      refine ⟨ris_app (piece_ris _ _) ih.1 fun a ha b hb => ?_, fun s hs => ?_⟩
      · have e1 := (piece_mem ha).1
        have := (ih.2 b hb).1
        have := gh.1.lt
        rw [e1]
        show key h.i.t < key b.i.t
        have : key h.o.t ≤ key b.i.t := (ih.2 b hb).1
        omega
      · rcases List.mem_append.1 hs with hs | hs
        · have e1 := (piece_mem hs).1
          rw [e1]
          exact ⟨Int.le_refl _, by show key h.i.t ≤ key e.t; omega⟩
        · have q := ih.2 s hs
          have q1 : key h.o.t ≤ key s.i.t := q.1
          exact ⟨by show key g.t ≤ key s.i.t; omega, q.2⟩
    · rw [cond_true]; exact cut_ris t (ris_tail hB) g e ng ne
theorem less_ris {A B : List Spn} (hA : Ris A) (hB : Ris B) : Ris (lessL A B) :=
  ris_flat hA fun l hl => cut_ris B hB l.i l.o (hA.2 l hl).ni (hA.2 l hl).no
/-- What the answer cuts piece by piece is what is cut in one go. -/
theorem cutA_eq {B : List Spn} (hB : Ris B) {l : Spn} (hl : Gd l) : cutA B [l] = cutC l.o B l.i := by
  have := cut_eq B hB [] l.i l.o (fun y hy => by cases hy) hl.ni hl.no (Or.inl hl.lt)
  rw [piece_one (by rw [flt_key hl.ni hl.no, decide_eq_true hl.lt])] at this
  exact this
/-! ### Either -/
def dS : Spn := ⟨⟨0, 0, false⟩, ⟨0, 0, false⟩⟩
def lastS (L : List Spn) : Spn := L.getD (L.length - 1) dS
def swp (L : List Spn) (s : Spn) : List Spn := cond ((L.length == 0) || fgt s.i.t (lastS L).o.t) (L ++ [s]) (L.set (L.length - 1) ⟨(lastS L).i, lateS (lastS L).o s.o⟩)
theorem swp_nil (s : Spn) : swp [] s = [s] := rfl
theorem swp_concat (L : List Spn) (l s : Spn) : swp (L ++ [l]) s = cond (fgt s.i.t l.o.t) (L ++ [l] ++ [s]) (L ++ [⟨l.i, lateS l.o s.o⟩]) := by
  unfold swp
  have e1 : lastS (L ++ [l]) = l := by
    unfold lastS
    rw [List.length_append, List.length_singleton, Nat.add_sub_cancel, List.getD_eq_getElem?_getD, List.getElem?_append_right (Nat.le_refl _), Nat.sub_self]; rfl
  rw [e1]
  have e2 : ((L ++ [l]).length == 0) = false := by rw [List.length_append, List.length_singleton]; rfl
  rw [e2, Bool.false_or]
  have e3 : (L ++ [l]).set ((L ++ [l]).length - 1) ⟨l.i, lateS l.o s.o⟩ = L ++ [⟨l.i, lateS l.o s.o⟩] := by
    rw [List.length_append, List.length_singleton, Nat.add_sub_cancel, List.set_append_right _ _ (Nat.le_refl _), Nat.sub_self]; rfl
  rw [e3]
theorem swp_ris {L : List Spn} {s : Spn} (hL : Ris L) (hs : Gd s) : Ris (swp L s) := by
  rcases List.eq_nil_or_concat L with h | ⟨L', l, h⟩
  · subst h; exact ris_one hs
  · rw [List.concat_eq_append] at h
    subst h
    rw [swp_concat]
    have gl : Gd l := hL.2 l (List.mem_append_right _ List.mem_cons_self)
    have pl := (List.pairwise_append.1 hL.1).2.2
    cases hf : fgt s.i.t l.o.t
    · rw [cond_false]
      have hk := late_key gl.no hs.no
      refine ris_app (ris_left hL) (ris_one ⟨gl.ni, ?_, ?_⟩) fun a ha b hb => ?_
      · show isNan (lateS l.o s.o).t = false
        rcases late_or l.o s.o with h | h <;> rw [h]
        · exact gl.no
        · exact hs.no
      · show key l.i.t < key (lateS l.o s.o).t
        have := gl.lt
        omega
      · rw [List.mem_singleton.1 hb]
        exact pl a ha l List.mem_cons_self
    · rw [cond_true]
      rw [fgt_key hs.ni gl.no] at hf
      have hf := of_decide_eq_true hf
      refine ris_app hL (ris_one hs) fun a ha b hb => ?_
      rw [List.mem_singleton.1 hb]
      rcases List.mem_append.1 ha with ha | ha
      · have := pl a ha l List.mem_cons_self
        have := gl.lt
        omega
      · rw [List.mem_singleton.1 ha]; exact hf
theorem fold_ris : ∀ (M : List Spn) (L : List Spn), Ris L → (∀ s, s ∈ M → Gd s) → Ris (M.foldl swp L)
  | [], _, h, _ => h
  | s :: M, _, h, g => fold_ris M _ (swp_ris h (g s List.mem_cons_self)) fun x hx => g x (List.mem_cons_of_mem _ hx)
/-- Two rows by their beginnings; of two that are the same the first's. -/
def mrg : List Spn → List Spn → List Spn
  | [], B => B
  | a :: A, [] => a :: A
  | a :: A, b :: B => cond (fle a.i.t b.i.t) (a :: mrg A (b :: B)) (b :: mrg (a :: A) B)
  termination_by A B => A.length + B.length
theorem mrg_mem : ∀ (A B : List Spn) (s : Spn), s ∈ mrg A B → s ∈ A ∨ s ∈ B
  | [], B, s, h => by rw [mrg] at h; exact Or.inr h
  | a :: A, [], s, h => by rw [mrg] at h; exact Or.inl h
  | a :: A, b :: B, s, h => by
    rw [mrg] at h
    cases hf : fle a.i.t b.i.t <;> rw [hf] at h
    · rcases List.mem_cons.1 h with h | h
      · exact Or.inr (by rw [h]; exact List.mem_cons_self)
      · rcases mrg_mem (a :: A) B s h with h | h
        · exact Or.inl h
        · exact Or.inr (List.mem_cons_of_mem _ h)
    · rcases List.mem_cons.1 h with h | h
      · exact Or.inl (by rw [h]; exact List.mem_cons_self)
      · rcases mrg_mem A (b :: B) s h with h | h
        · exact Or.inl (List.mem_cons_of_mem _ h)
        · exact Or.inr h
  termination_by A B => A.length + B.length
def eitherL (A B : List Spn) : List Spn := (mrg A B).foldl swp []
theorem either_ris {A B : List Spn} (hA : Ris A) (hB : Ris B) : Ris (eitherL A B) :=
  fold_ris _ _ ris_nil fun s hs => by
    rcases mrg_mem A B s hs with h | h
    · exact hA.2 s h
    · exact hB.2 s h
/-! ### A row into which one is laid from behind -/
def befB (x y : Spn) : Bool := flt x.i.t y.i.t
def ins : List Spn → Spn → List Spn
  | [], x => [x]
  | y :: l, x => cond ((y :: l).all (befB x)) (x :: y :: l) (y :: ins l x)
theorem ins_front {l : List Spn} {x : Spn} (h : ∀ y, y ∈ l → befB x y = true) : ins l x = x :: l := by
  cases l with
  | nil => rfl
  | cons y l =>
    unfold ins
    rw [show (y :: l).all (befB x) = true from List.all_eq_true.2 h]
    rfl
theorem ins_pass {a : Spn} {l : List Spn} {x : Spn} (h : befB x a = false) : ins (a :: l) x = a :: ins l x := by
  show cond ((a :: l).all (befB x)) _ _ = _
  rw [show (a :: l).all (befB x) = false by rw [List.all_cons, h, Bool.false_and]]
  rfl
theorem fold_pass : ∀ (B : List Spn) (a : Spn) (A : List Spn), (∀ b, b ∈ B → befB b a = false) → B.foldl ins (a :: A) = a :: B.foldl ins A
  | [], _, _, _ => rfl
  | b :: B, a, A, h => by
    show B.foldl ins (ins (a :: A) b) = a :: B.foldl ins (ins A b)
    rw [ins_pass (h b List.mem_cons_self)]
    exact fold_pass B a _ fun x hx => h x (List.mem_cons_of_mem _ hx)
theorem bef_f {a b : Spn} (ha : Gd a) (hb : Gd b) (h : key a.i.t ≤ key b.i.t) : befB b a = false := by unfold befB; rw [flt_key hb.ni ha.ni, decide_eq_false (by omega)]
theorem bef_t {a b : Spn} (ha : Gd a) (hb : Gd b) (h : key b.i.t < key a.i.t) : befB b a = true := by unfold befB; rw [flt_key hb.ni ha.ni, decide_eq_true h]
theorem ris_lt {a b : Spn} {l : List Spn} (h : Ris (a :: l)) (hb : b ∈ l) : key a.i.t < key b.i.t := by
  have := (ris_head h).2 b hb
  have := (ris_head h).1.lt
  omega
theorem fold_nil : ∀ (B : List Spn), Ris B → B.foldl ins [] = B
  | [], _ => rfl
  | b :: B, h => by
    show B.foldl ins [b] = b :: B
    rw [fold_pass B b [] fun x hx => bef_f (ris_head h).1 ((ris_tail h).2 x hx) (Int.le_of_lt (ris_lt h hx)), fold_nil B (ris_tail h)]
/-- Laid one behind the other from behind, two rows that rise become the row of both by their beginnings. -/
theorem fold_mrg : ∀ (A B : List Spn), Ris A → Ris B → B.foldl ins A = mrg A B
  | [], B, _, hB => by rw [mrg]; exact fold_nil B hB
  | a :: A, [], _, _ => by rw [mrg]; rfl
  | a :: A, b :: B, hA, hB => by
    rw [mrg]
    have ga := (ris_head hA).1
    have gb := (ris_head hB).1
    rw [fle_key ga.ni gb.ni]
    by_cases h : key a.i.t ≤ key b.i.t
    · rw [decide_eq_true h, cond_true, fold_pass (b :: B) a A, fold_mrg A (b :: B) (ris_tail hA) hB]
      intro x hx
      refine bef_f ga (hB.2 x hx) ?_
      rcases List.mem_cons.1 hx with e | hx
      · rw [e]; exact h
      · have := ris_lt hB hx; omega
    · rw [decide_eq_false h, cond_false]
      show B.foldl ins (ins (a :: A) b) = _
      rw [ins_front, fold_pass B b (a :: A), fold_mrg (a :: A) B hA (ris_tail hB)]
      · intro x hx
        exact bef_f gb ((ris_tail hB).2 x hx) (Int.le_of_lt (ris_lt hB hx))
      · intro y hy
        refine bef_t (hA.2 y hy) gb ?_
        rcases List.mem_cons.1 hy with e | hy
        · rw [e]; omega
        · have := ris_lt hA hy; omega
  termination_by A B => A.length + B.length
/-- The whole sorted: the first row is laid as it is. -/
theorem fold_all {A B : List Spn} (hA : Ris A) (hB : Ris B) : (A ++ B).foldl ins [] = mrg A B := by
  rw [List.foldl_append, fold_nil A hA, fold_mrg A B hA hB]
/-! ### Where their ends come from -/
def Fr (D : Nat → Prop) (L : List Spn) : Prop := ∀ s, s ∈ L → D s.i.t ∧ D s.o.t
theorem fr_piece {D : Nat → Prop} {a b : Crs} (ha : D a.t) (hb : D b.t) : Fr D (piece a b) := fun s hs => by rw [(piece_mem hs).1]; exact ⟨ha, hb⟩
theorem fr_late {D : Nat → Prop} {a b : Crs} (ha : D a.t) (hb : D b.t) : D (lateS a b).t := by rcases late_or a b with h | h <;> rw [h] <;> assumption
theorem fr_earl {D : Nat → Prop} {a b : Crs} (ha : D a.t) (hb : D b.t) : D (earlS a b).t := by rcases earl_or a b with h | h <;> rw [h] <;> assumption
theorem fr_both {D : Nat → Prop} {A B : List Spn} (hA : Fr D A) (hB : Fr D B) : Fr D (bothL A B) := fun s hs => by
  obtain ⟨l, hl, hs⟩ := List.mem_flatMap.1 hs
  obtain ⟨r, hr, hs⟩ := List.mem_flatMap.1 hs
  exact fr_piece (fr_late (hA l hl).1 (hB r hr).1) (fr_earl (hA l hl).2 (hB r hr).2) s hs
theorem fr_cut {D : Nat → Prop} : ∀ {B : List Spn} {g e : Crs}, Fr D B → D g.t → D e.t → Fr D (cutC e B g)
  | [], _, _, _, hg, he => fr_piece hg he
  | h :: t, g, e, hB, hg, he => by
    have ht : Fr D t := fun s hs => hB s (List.mem_cons_of_mem _ hs)
    have hh := hB h List.mem_cons_self
    unfold cutC
    cases skipB h g e
    · intro s hs
      rcases List.mem_append.1 hs with hs | hs
      · exact fr_piece (b := turnS h.i) hg hh.1 s hs
      · exact fr_cut (g := turnS h.o) ht hh.2 he s hs
    · exact fr_cut ht hg he
theorem fr_less {D : Nat → Prop} {A B : List Spn} (hA : Fr D A) (hB : Fr D B) : Fr D (lessL A B) := fun s hs => by
  obtain ⟨l, hl, hs⟩ := List.mem_flatMap.1 hs
  exact fr_cut hB (hA l hl).1 (hA l hl).2 s hs
theorem fr_app {D : Nat → Prop} {A B : List Spn} (hA : Fr D A) (hB : Fr D B) : Fr D (A ++ B) := fun s hs => by
  rcases List.mem_append.1 hs with h | h
  · exact hA s h
  · exact hB s h
theorem fr_one {D : Nat → Prop} {s : Spn} (h1 : D s.i.t) (h2 : D s.o.t) : Fr D [s] := fun x hx => by rw [List.mem_singleton.1 hx]; exact ⟨h1, h2⟩
theorem fr_swp {D : Nat → Prop} {L : List Spn} {s : Spn} (hL : Fr D L) (hs : D s.i.t ∧ D s.o.t) : Fr D (swp L s) := by
  rcases List.eq_nil_or_concat L with h | ⟨L', l, h⟩
  · subst h; exact fr_one hs.1 hs.2
  · rw [List.concat_eq_append] at h
    subst h
    rw [swp_concat]
    have hl := hL l (List.mem_append_right _ List.mem_cons_self)
    cases fgt s.i.t l.o.t
    · exact fr_app (fun x hx => hL x (List.mem_append_left _ hx)) (fr_one hl.1 (fr_late hl.2 hs.2))
    · exact fr_app hL (fr_one hs.1 hs.2)
theorem fr_fold {D : Nat → Prop} : ∀ (M L : List Spn), Fr D L → Fr D M → Fr D (M.foldl swp L)
  | [], _, h, _ => h
  | s :: M, _, h, g => fr_fold M _ (fr_swp h (g s List.mem_cons_self)) fun x hx => g x (List.mem_cons_of_mem _ hx)
theorem fr_either {D : Nat → Prop} {A B : List Spn} (hA : Fr D A) (hB : Fr D B) : Fr D (eitherL A B) :=
  fr_fold _ _ (fun s hs => by cases hs) fun s hs => by
    rcases mrg_mem A B s hs with h | h
    · exact hA s h
    · exact hB s h
theorem len_sub : ∀ (l D : List Nat), l.Nodup → (∀ x, x ∈ l → x ∈ D) → l.length ≤ D.length
  | [], _, _, _ => Nat.zero_le _
  | a :: l, D, h, hs => by
    have ha := hs a List.mem_cons_self
    have hn := List.nodup_cons.1 h
    have := len_sub l (D.erase a) hn.2 fun x hx => by
      have hne : x ≠ a := fun e => by rw [e] at hx; exact hn.1 hx
      exact (List.mem_erase_of_ne hne).2 (hs x (List.mem_cons_of_mem _ hx))
    rw [List.length_erase_of_mem ha] at this
    have := List.length_pos_of_mem ha
    rw [List.length_cons]
    omega
def endsL (L : List Spn) : List Nat := L.flatMap fun s => [s.i.t, s.o.t]
theorem ends_len : ∀ L, (endsL L).length = 2 * L.length
  | [] => rfl
  | a :: L => by
    show (a.i.t :: a.o.t :: endsL L).length = _
    rw [List.length_cons, List.length_cons, List.length_cons, ends_len L]; omega
theorem ends_mem : ∀ {L : List Spn} {x : Nat}, x ∈ endsL L → ∃ s, s ∈ L ∧ (x = s.i.t ∨ x = s.o.t) := fun {L x} h => by
  obtain ⟨s, hs, h⟩ := List.mem_flatMap.1 h
  refine ⟨s, hs, ?_⟩
  rcases List.mem_cons.1 h with h | h
  · exact Or.inl h
  · exact Or.inr (List.mem_singleton.1 h)
theorem ends_nodup : ∀ {L : List Spn}, Ris L → (endsL L).Nodup
  | [], _ => List.nodup_nil
  | a :: L, h => by
    have gh := ris_head h
    show (a.i.t :: a.o.t :: endsL L).Nodup
    have lo : ∀ x, x ∈ endsL L → key a.o.t < key x := fun x hx => by
      obtain ⟨s, hs, e⟩ := ends_mem hx
      have := gh.2 s hs
      have := ((ris_tail h).2 s hs).lt
      rcases e with e | e <;> rw [e] <;> omega
    refine List.nodup_cons.2 ⟨fun hx => ?_, List.nodup_cons.2 ⟨fun hx => ?_, ends_nodup (ris_tail h)⟩⟩
    · have := gh.1.lt
      rcases List.mem_cons.1 hx with e | hx
      · rw [e] at this; omega
      · have := lo _ hx; omega
    · have := lo _ hx; omega
/-- A row that rises has no more spans than half its ends. -/
theorem ris_len {L : List Spn} {D : List Nat} (h : Ris L) (hf : Fr (· ∈ D) L) : 2 * L.length ≤ D.length := by
  rw [← ends_len]
  refine len_sub _ _ (ends_nodup h) fun x hx => ?_
  obtain ⟨s, hs, e⟩ := ends_mem hx
  rcases e with e | e <;> rw [e]
  · exact (hf s hs).1
  · exact (hf s hs).2
end Go.Proofs.YtancjnambbkhmaaGreat.Hs.So

namespace Go.Gv
open Go.RowKit Go.Ev
noncomputable section

/-- A contract over rows where it is called, the rows being there. -/
theorem call_real {P : Program} {f : Nat} {w : Option Nat} {args : List AV} {mem : List Row} {nk : Nat} {rs : List Row} {v : AV} {mem1 : List Row} (hrs : allSome ((rowsL args).map fun k => mem[k]?) = some rs)
    (hk : nodupB (rowsL args) = true ∧ rs.all (fun r => r.live && r.pure) = true ∧ mem1.all Row.pure = true ∧ Nat.ble rs.length mem1.length = true ∧ Nat.ble mem1.length (rs.length + 1) = true)
    (hg : GSpec P f (renL (ixOf (rowsL args)) args) rs v mem1) (hsame : ∀ i, i < rs.length → w ≠ some i → mem1[i]? = rs[i]?)
    {A0 R : Nat → Prop} {w0 E : Env} {mem' : List Row} {cargs : Array Value} (hW : Wd A0 R w0 E mem) (hnk : E.O nk = none) (hgl : glob E) (hr : rels E args cargs.toList)
    (happ : AppOk E mem mem' nk ⟨renA (backOf (rowsL args) ((mem1[(rowsL args).length]?).map fun _ => nk)) v, rowsL args, w.bind fun i => match (rowsL args)[i]?, mem1[i]? with
          | some k, some r => some (k, r)
          | _, _ => none, mem1[(rowsL args).length]?⟩) (hreal : ∀ k, k ∈ rowsL args → ∃ p, E.O k = some p) :
    Calls P f cargs E.w fun e w' => ∃ u E', e = .returned u ∧ E'.w = w' ∧ E.le E' ∧ (∀ k p, E'.O k = some p → E.O k = some p ∨ k = nk) ∧ Wd A0 R w0 E' mem' ∧ rel E' (renA (backOf (rowsL args) ((mem1[(rowsL args).length]?).map fun _ => nk)) v) u := by
  obtain ⟨hnd, hlive, hpure1, hlen1, hlen2⟩ := hk
  have hlen1 := Nat.le_of_ble_eq_true hlen1
  have hlen2 := Nat.le_of_ble_eq_true hlen2
  have hmap := allSome_get hrs
  have hl : rs.length = (rowsL args).length := by
    have := congrArg List.length hmap
    simpa using this.symm
  have hrow : ∀ (i k : Nat), (rowsL args)[i]? = some k → ∃ row, mem[k]? = some row ∧ rs[i]? = some row := fun i k hi => by
    have e1 := congrArg (fun l : List (Option Row) => l[i]?) hmap
    simp only [List.getElem?_map, hi, Option.map_some] at e1
    cases hr : rs[i]? with
    | none => rw [hr] at e1; simp at e1
    | some row =>
      rw [hr] at e1
      simp only [Option.map_some, Option.some.injEq] at e1
      exact ⟨row, e1, rfl⟩
  have hok : ∀ (i : Nat) (row : Row), rs[i]? = some row → row.live = true ∧ row.pure = true := fun i row hi => by
    have := List.all_eq_true.1 hlive row (List.mem_of_getElem? hi)
    simpa using this
  let O1 : Nat → Option (Nat × Nat × Nat) := fun i => ((rowsL args)[i]?).bind E.O
  let E1 : Env := { E with O := O1 }
  have hO1 : ∀ i b c, E1.O i = some (b, c) → ∃ k, (rowsL args)[i]? = some k ∧ E.O k = some (b, c) := fun i b c hi => by
    have hi : ((rowsL args)[i]?).bind E.O = some (b, c) := hi
    cases hx : (rowsL args)[i]? with
    | none => rw [hx] at hi; cases hi
    | some k => rw [hx] at hi; exact ⟨k, rfl, hi⟩
  have hO1' : ∀ (i k : Nat) (p : Nat × Nat × Nat), (rowsL args)[i]? = some k → E.O k = some p → E1.O i = some p := fun i k p hi hp => by
    show ((rowsL args)[i]?).bind E.O = some p
    rw [hi]; exact hp
  let R1 : Nat → Prop := fun b => ∃ k c, k ∈ rowsL args ∧ E.O k = some (b, c)
  have lives : ∀ k, k ∈ rowsL args → liveAt mem k = true := fun k hk => by
    obtain ⟨i, hi⟩ := List.mem_iff_getElem?.1 hk
    obtain ⟨row, g1, g2⟩ := hrow i k hi
    unfold liveAt
    rw [g1]
    exact (hok i row g2).1
  have hW1 : Wd E.A R1 E1 E1 rs := by
    refine ⟨fun i b c hi => ?_, hW.small, fun _ h => h, fun i b c hi _ => ?_, fun i j b c c' hi hj _ _ => ?_, BelowR.refl _ _, Env.le.refl _⟩
    · obtain ⟨k, h1, h2⟩ := hO1 i b c hi
      obtain ⟨row, g1, g2⟩ := hrow i k h1
      obtain ⟨row', g3, g4⟩ := hW.rows k b c h2
      rw [g1] at g3
      cases g3
      exact ⟨row, g2, rowRel_pure (E := E) (E' := E1) rfl (fun _ => Iff.rfl) (hok i row g2).2 g4⟩
    · obtain ⟨k, h1, h2⟩ := hO1 i b c hi
      have hm := List.mem_of_getElem? h1
      exact ⟨(hW.own k b c h2 (lives k hm)).1, Or.inl ⟨k, c, hm, h2⟩⟩
    · obtain ⟨k, h1, h2⟩ := hO1 i b c hi
      obtain ⟨k', h3, h4⟩ := hO1 j b c' hj
      have := hW.one k k' b c c' h2 h4 (lives k (List.mem_of_getElem? h1)) (lives k' (List.mem_of_getElem? h3))
      subst this
      exact nodupB_get hnd i j k h1 h3
  have hpins : Pins rs.length E1.A R1 E1 := by
    refine ⟨fun i hi => ?_, fun h0 => ⟨fun b hb => ?_, hW.small⟩⟩
    · show ((rowsL args)[i]?).bind E.O = none
      rw [List.getElem?_eq_none (by omega)]; rfl
    · obtain ⟨k, c, hk, _⟩ := hb
      have : rowsL args = [] := List.eq_nil_of_length_eq_zero (by omega)
      rw [this] at hk
      cases hk
  have hr1 : rels E1 (renL (ixOf (rowsL args)) args) cargs.toList := relsA_ren args (fun k i p hi hp => hO1' i k p (ixOf_some hi) hp) _ hr
  refine (hg.2 R1 E1 cargs hpins hW1 (glob_O hgl _) hr1).mono ?_
  rintro e w' ⟨u, E', rfl, rfl, hW2, hrel⟩
  have hE1 : ∀ (i k : Nat), (rowsL args)[i]? = some k → ∃ p, E.O k = some p ∧ E'.O i = some p := fun i k hi => by
    obtain ⟨p, hp⟩ := hreal k (List.mem_of_getElem? hi)
    exact ⟨p, hp, hW2.le0.own i p (hO1' i k p hi hp)⟩
  let nw : Option Row := mem1[(rowsL args).length]?
  let O2 : Nat → Option (Nat × Nat × Nat) := fun k => if k = nk then (nw.bind fun _ => E'.O (rowsL args).length) else E.O k
  let E2 : Env := { E' with O := O2 }
  have hO2 : ∀ k p, E.O k = some p → E2.O k = some p := fun k p hp => by
    have : k ≠ nk := fun e => by rw [e, hnk] at hp; cases hp
    show (if k = nk then _ else E.O k) = some p
    rw [if_neg this]; exact hp
  have hO2' : ∀ k p, E2.O k = some p → E.O k = some p ∨ (k = nk ∧ (∃ row, nw = some row) ∧ E'.O (rowsL args).length = some p) := fun k p hp => by
    have hp : (if k = nk then (nw.bind fun _ => E'.O (rowsL args).length) else E.O k) = some p := hp
    by_cases hk : k = nk
    · rw [if_pos hk] at hp
      cases hn : nw with
      | none => rw [hn] at hp; cases hp
      | some row => rw [hn] at hp; exact Or.inr ⟨hk, ⟨row, rfl⟩, hp⟩
    · rw [if_neg hk] at hp; exact Or.inl hp
  have hle : E.le E2 := ⟨hW2.le0.keep, hO2⟩
  have hwr : ∀ k, k ∉ rowsL args → ∀ b c, E.O k = some (b, c) → mem'[k]? = mem[k]? := fun k hk b c hb => by
    have hne : k ≠ nk := fun e => by rw [e, hnk] at hb; cases hb
    have := happ.1 k hne b c hb
    rw [this]
    simp only
    cases hw : (w.bind fun i => match (rowsL args)[i]?, mem1[i]? with | some k, some r => some (k, r) | _, _ => none) with
    | none => rfl
    | some q =>
      obtain ⟨k', row'⟩ := q
      simp only
      rw [if_neg]
      intro e
      subst e
      cases w with
      | none => cases hw
      | some i =>
        simp only [Option.bind_some] at hw
        split at hw
        · rename_i k2 r2 g1 g2
          simp only [Option.some.injEq, Prod.mk.injEq] at hw
          rw [← hw.1] at hk
          exact hk (List.mem_of_getElem? g1)
        · cases hw
  have hin : ∀ (i k : Nat), (rowsL args)[i]? = some k → mem'[k]? = mem1[i]? := fun i k hi => by
    obtain ⟨p, hp, _⟩ := hE1 i k hi
    have hne : k ≠ nk := fun e => by rw [e, hnk] at hp; cases hp
    have h1 := happ.1 k hne p.1 p.2 hp
    obtain ⟨row, g1, g2⟩ := hrow i k hi
    have hil : i < rs.length := (List.getElem?_eq_some_iff.1 g2).1
    rw [h1]
    simp only
    by_cases hwi : w = some i
    · subst hwi
      have hm1 : ∃ r1, mem1[i]? = some r1 := ⟨_, List.getElem?_eq_getElem (by omega)⟩
      obtain ⟨r1, hr1⟩ := hm1
      simp only [Option.bind_some, hi, hr1]
      simp
    · rw [hsame i hil hwi, g2]
      cases hw : (w.bind fun i => match (rowsL args)[i]?, mem1[i]? with | some k, some r => some (k, r) | _, _ => none) with
      | none => exact g1
      | some q =>
        obtain ⟨k', row'⟩ := q
        simp only
        rw [if_neg]
        · exact g1
        · intro e
          subst e
          cases w with
          | none => cases hw
          | some j =>
            simp only [Option.bind_some] at hw
            split at hw
            · rename_i k2 r2 g3 g4
              simp only [Option.some.injEq, Prod.mk.injEq] at hw
              rw [hw.1] at g3
              exact hwi (by rw [nodupB_get hnd j i _ g3 hi])
            · cases hw
  have hback : ∀ i k' p, backOf (rowsL args) ((mem1[(rowsL args).length]?).map fun _ => nk) i = some k' → E'.O i = some p → O2 k' = some p := fun i k' p hi hp => by
    unfold backOf at hi
    cases hx : (rowsL args)[i]? with
    | some k =>
      rw [hx] at hi
      simp only [Option.some.injEq] at hi
      subst hi
      obtain ⟨p', g1, g2⟩ := hE1 i k hx
      rw [hp] at g2
      cases g2
      exact hO2 k p g1
    | none =>
      rw [hx] at hi
      simp only at hi
      cases hb : Nat.beq i (rowsL args).length
      · rw [hb] at hi; cases hi
      · rw [hb] at hi
        simp only [cond_true] at hi
        have e1 := Nat.eq_of_beq_eq_true hb
        cases hn : mem1[(rowsL args).length]? with
        | none => rw [hn] at hi; cases hi
        | some row =>
          rw [hn] at hi
          simp only [Option.map_some, Option.some.injEq] at hi
          subst hi
          show (if nk = nk then (nw.bind fun _ => E'.O (rowsL args).length) else E.O nk) = some p
          rw [if_pos rfl, show nw = some row from hn, ← e1, Option.bind_some]
          exact hp
  have hrow2 : ∀ b c row, row.pure = true → rowRel E' b c row → rowRel E2 b c row := fun b c row hp h => rowRel_pure (E := E') (E' := E2) rfl (fun _ => Iff.rfl) hp h
  have hpure : ∀ (i : Nat) (row : Row), mem1[i]? = some row → row.pure = true := fun i row hi => List.all_eq_true.1 hpure1 row (List.mem_of_getElem? hi)
  have hnwrow : ∀ row, nw = some row → mem'[nk]? = some row := fun row hn => happ.2 row hn
  have back : ∀ k b c, E.O k = some (b, c) → liveAt mem' k = true → liveAt mem k = true := fun k b c hb hlv => by
    by_cases hk : k ∈ rowsL args
    · exact lives k hk
    · unfold liveAt at hlv ⊢
      rw [hwr k hk b c hb] at hlv
      exact hlv
  have hnewblk : ∀ b c row, nw = some row → E'.O (rowsL args).length = some (b, c) → row.live = true → E'.A b ∧ ((∃ k c', k ∈ rowsL args ∧ E.O k = some (b, c')) ∨ E.w.heap.size ≤ b) := fun b c row hn ho hlv => by
    have := hW2.own _ b c ho (by unfold liveAt; rw [show mem1[(rowsL args).length]? = some row from hn]; exact hlv)
    exact ⟨this.1, this.2⟩
  have hlivenk : ∀ row, nw = some row → liveAt mem' nk = true → row.live = true := fun row hn hlv => by
    unfold liveAt at hlv
    rw [hnwrow row hn] at hlv
    exact hlv
  refine ⟨u, E2, rfl, rfl, hle, fun k p hp => (hO2' k p hp).imp id fun h => h.1, ⟨?_, hW2.small, fun b hb => hW2.old b (hW.old b hb), ?_, ?_, ?_, hW.le0.trans hle⟩, relA_ren v hback u hrel⟩
  · intro k b c hb
    rcases hO2' k _ hb with h1 | ⟨rfl, ⟨row, hn⟩, h2⟩
    · by_cases hk : k ∈ rowsL args
      · obtain ⟨i, hi⟩ := List.mem_iff_getElem?.1 hk
        obtain ⟨p, g1, g2⟩ := hE1 i k hi
        rw [h1] at g1
        cases g1
        obtain ⟨row, g3, g4⟩ := hW2.rows i b c g2
        exact ⟨row, by rw [hin i k hi]; exact g3, hrow2 b c row (hpure i row g3) g4⟩
      · obtain ⟨row, g3, g4⟩ := hW.rows k b c h1
        refine ⟨row, by rw [hwr k hk b c h1]; exact g3, rowRel_keep hle g4 fun hlv => ?_⟩
        have hlk : liveAt mem k = true := by unfold liveAt; rw [g3]; exact hlv
        refine hW2.below.block b (hW.small b (hW.own k b c h1 hlk).1) ?_
        rintro ⟨k', c', hk', hb'⟩
        have := hW.one k k' b c c' h1 hb' hlk (lives k' hk')
        subst this
        exact hk hk'
    · obtain ⟨row', g3, g4⟩ := hW2.rows _ b c h2
      have e1 : row' = row := by
        have g3 : mem1[(rowsL args).length]? = some row' := g3
        have hn : mem1[(rowsL args).length]? = some row := hn
        rw [hn] at g3
        cases g3
        rfl
      subst e1
      exact ⟨row', hnwrow row' hn, hrow2 b c row' (hpure _ row' g3) g4⟩
  · intro k b c hb hlv
    rcases hO2' k _ hb with h1 | ⟨rfl, ⟨row, hn⟩, h2⟩
    · obtain ⟨g1, g2⟩ := hW.own k b c h1 (back k b c h1 hlv)
      exact ⟨hW2.old b g1, g2⟩
    · obtain ⟨g1, g2⟩ := hnewblk b c row hn h2 (hlivenk row hn hlv)
      refine ⟨g1, ?_⟩
      rcases g2 with ⟨k', c', hk', hb'⟩ | g2
      · exact (hW.own k' b c' hb' (lives k' hk')).2
      · exact Or.inr (Nat.le_trans hW.below.size g2)
  · have cross : ∀ k b c c', E.O k = some (b, c) → liveAt mem' k = true → (∃ row, nw = some row) → E'.O (rowsL args).length = some (b, c') → liveAt mem' nk = true → False := by
      intro k b c c' hb hlv ⟨row, hn⟩ ho hlv'
      have hrl := hlivenk row hn hlv'
      by_cases hk : k ∈ rowsL args
      · obtain ⟨i, hi⟩ := List.mem_iff_getElem?.1 hk
        obtain ⟨p, g1, g2⟩ := hE1 i k hi
        rw [hb] at g1
        cases g1
        have h1 : liveAt mem1 i = true := by unfold liveAt at hlv ⊢; rw [hin i k hi] at hlv; exact hlv
        have h2 : liveAt mem1 (rowsL args).length = true := by unfold liveAt; rw [show mem1[(rowsL args).length]? = some row from hn]; exact hrl
        have := hW2.one i (rowsL args).length b c c' g2 ho h1 h2
        subst this
        rw [List.getElem?_eq_none (Nat.le_refl _)] at hi
        cases hi
      · have hlk := back k b c hb hlv
        rcases (hnewblk b c' row hn ho hrl).2 with ⟨k', c2, hk', hb'⟩ | g2
        · have := hW.one k k' b c c2 hb hb' hlk (lives k' hk')
          subst this
          exact hk hk'
        · have := hW.small b (hW.own k b c hb hlk).1
          omega
    intro k k' b c c' hb hb' hlv hlv'
    rcases hO2' k _ hb with h1 | ⟨rfl, hn, h2⟩
    · rcases hO2' k' _ hb' with h1' | ⟨rfl, hn', h2'⟩
      · exact hW.one k k' b c c' h1 h1' (back k b c h1 hlv) (back k' b c' h1' hlv')
      · exact (cross k b c c' h1 hlv hn' h2' hlv').elim
    · rcases hO2' k' _ hb' with h1' | ⟨rfl, hn', h2'⟩
      · exact (cross k' b c' c h1' hlv' hn h2 hlv).elim
      · rfl
  · refine ⟨hW2.below.os.trans hW.below.os, hW2.below.tape.trans hW.below.tape, hW2.below.output.trans hW.below.output, Nat.le_trans hW.below.size hW2.below.size, fun b hb hn => ?_⟩
    refine (hW2.below.block b (Nat.lt_of_lt_of_le hb hW.below.size) ?_).trans (hW.below.block b hb hn)
    rintro ⟨k, c, hk, hk2⟩
    rcases (hW.own k b c hk2 (lives k hk)).2 with h | h
    · exact hn h
    · omega
/-- The row gets another number. -/
theorem gspec_moved {P : Program} {f : Nat} {args : List AV} {r0 : Row} {T : TypeId} {sz m : Nat} {u : Nat → List AV} (h : GSpec P f args [r0] (.osl 0 sz 0 m) [.a T sz m u]) : GSpec P f args [r0] (.osl 1 sz 0 m) [.dead, .a T sz m u] := by
  refine ⟨h.1, fun R E cargs hp hW hg hr => (h.2 R E cargs hp hW hg hr).mono ?_⟩
  rintro e w' ⟨x, E', rfl, rfl, hW2, hx⟩
  have dom : ∀ k p, E'.O k = some p → k = 0 := fun k p hk => by
    obtain ⟨row, h1, _⟩ := hW2.rows k p.1 p.2 hk
    have := (List.getElem?_eq_some_iff.1 h1).1
    simp only [List.length_cons, List.length_nil] at this
    omega
  let O2 : Nat → Option (Nat × Nat × Nat) := fun k => if k = 1 then E'.O 0 else E'.O k
  let E2 : Env := { E' with O := O2 }
  have hle : E'.le E2 := ⟨fun b hb ob hob => ⟨hb, hob⟩, fun k p hk => by
    have hne : k ≠ 1 := by rw [dom k p hk]; omega
    show (if k = 1 then E'.O 0 else E'.O k) = some p
    rw [if_neg hne]; exact hk⟩
  have two : ∀ k p, E2.O k = some p → (k = 0 ∨ k = 1) ∧ E'.O 0 = some p := fun k p hk => by
    have hk : (if k = 1 then E'.O 0 else E'.O k) = some p := hk
    by_cases h : k = 1
    · rw [if_pos h] at hk; exact ⟨Or.inr h, hk⟩
    · rw [if_neg h] at hk
      have := dom k p hk
      subst this
      exact ⟨Or.inl rfl, hk⟩
  have live0 : ∀ k, liveAt [.dead, Row.a T sz m u] k = true → k = 1 := fun k hk => by
    unfold liveAt at hk
    rcases k with _ | _ | k
    · cases hk
    · rfl
    · cases hk
  have l0 : liveAt [Row.a T sz m u] 0 = true := rfl
  refine ⟨x, E2, rfl, rfl, ⟨fun k b c hb => ?_, hW2.small, hW2.old, fun k b c hb hl => ?_, fun k k' b c c' _ _ hl hl' => by rw [live0 k hl, live0 k' hl'], hW2.below, hW2.le0.trans hle⟩, ?_⟩
  · obtain ⟨h1, h2⟩ := two k _ hb
    rcases h1 with rfl | rfl
    · exact ⟨.dead, rfl, trivial⟩
    · obtain ⟨row, g1, g2⟩ := hW2.rows 0 b c h2
      cases g1
      exact ⟨_, rfl, rowRel_keep hle g2 fun _ => rfl⟩
  · obtain ⟨_, h2⟩ := two k _ hb
    exact hW2.own 0 b c h2 l0
  · rcases rel_osl.1 hx with ⟨h1, h2, h3⟩ | ⟨b, c, n, h1, h2, h3, h4⟩
    · exact rel_osl.2 (Or.inl ⟨h1, h2, h3⟩)
    · exact rel_osl.2 (Or.inr ⟨b, c, n, by show (if 1 = 1 then E'.O 0 else E'.O 1) = _; rw [if_pos rfl]; exact h1, h2, h3, h4⟩)
/-- What is given back as nil may be told as a row with nothing in it. -/
theorem gspec_nil {P : Program} {f : Nat} {args : List AV} {T : TypeId} {sz : Nat} {u : Nat → List AV} (h : FSpec P f args (.x (.slice none 0 0))) : GSpec P f args [] (.osl 0 sz 0 0) [.a T sz 0 u] := by
  refine ⟨h.1, fun R E cargs hp hW hg hr => ?_⟩
  have hO : E.O = fun _ => none := by funext k; exact hp.1 k (Nat.zero_le _)
  have hr' : rels ⟨E.w, E.A, fun _ => none⟩ args cargs.toList := by rw [← hO]; exact hr
  have hg' : glob ⟨E.w, E.A, fun _ => none⟩ := by rw [← hO]; exact hg
  refine (h.2 E.A E.w cargs hW.small hr' hg').mono ?_
  rintro e w' ⟨v, rfl, hv, hbel⟩
  obtain ⟨h1, _⟩ := hW.on hbel
  refine ⟨v, { E with w := w' }, rfl, rfl, ⟨fun k b c hb => ?_, h1.small, h1.old, fun k b c hb => ?_, fun k k' b c c' hb => ?_, h1.below, h1.le0⟩, rel_osl.2 (Or.inl ⟨rfl, rfl, rel_x.1 hv⟩)⟩
  · have hb : E.O k = some (b, c) := hb
    rw [hO] at hb; cases hb
  · have hb : E.O k = some (b, c) := hb
    rw [hO] at hb; cases hb
  · have hb : E.O k = some (b, c) := hb
    rw [hO] at hb; cases hb
mutual
theorem renA_noOwn : ∀ (x : AV) (σ : Nat → Option Nat), noOwn x = true → renA σ x = x
  | .x _, _, _ => by rw [renA]
  | .f _, _, _ => by rw [renA]
  | .cx _ _, _, _ => by rw [renA]
  | .agg l, σ, h => by rw [renA, renL_noOwn l σ (by simpa [noOwn] using h)]
  | .tup l, σ, h => by rw [renA, renL_noOwn l σ (by simpa [noOwn] using h)]
  | .own _ _, _, h => by simp [noOwn] at h
  | .eown _ _ _ _, _, h => by simp [noOwn] at h
  | .osl _ _ _ _, _, h => by simp [noOwn] at h
  | .view _ _ _ _ _, _, h => by simp [noOwn] at h
  | .ref _ _, _, _ => by rw [renA]
  | .sl _ _ _, _, _ => by rw [renA]
  | .ifc _ x, σ, h => by rw [renA, renA_noOwn x σ (by simpa [noOwn] using h)]
  | .fn _ a b, σ, h => by
    simp only [noOwn, Bool.and_eq_true] at h
    rw [renA, renL_noOwn a σ h.1, renL_noOwn b σ h.2]
  | .any, _, _ => by rw [renA]
theorem renL_noOwn : ∀ (l : List AV) (σ : Nat → Option Nat), noOwns l = true → renL σ l = l
  | [], _, _ => by rw [renL]
  | x :: xs, σ, h => by
    simp only [noOwns, Bool.and_eq_true] at h
    rw [renL, renA_noOwn x σ h.1, renL_noOwn xs σ h.2]
end
/-- What a function does with a row that it is handed, nil or not: it hands back a row of so many elements. -/
def OSpec (P : Program) (f : Nat) (e : TypeId) (sz n : Nat) (el : Nat → List AV) (rest : List AV) (r : Nat × (Nat → List AV)) : Prop :=
  GSpec P f (.osl 0 sz 0 n :: rest) [.a e sz n el] (.osl 1 sz 0 r.1) [.dead, .a e sz r.1 r.2] ∧ (n = 0 → GSpec P f (.x (.slice none 0 0) :: rest) [] (.osl 0 sz 0 r.1) [.a e sz r.1 r.2])
def oRow (P : Program) (f : Nat) (g : Nat → (Nat → List AV) → List AV → Nat × (Nat → List AV)) : MFun := fun args rows nk => match args, rows with
  | .osl k sz 0 m :: rest, [some (.a e sz' n el)] => cond (noOwns rest && (Nat.beq sz sz')) (some (propB (OSpec P f e sz m el rest (g m el rest)) && Nat.beq m n, ⟨.osl nk sz 0 (g m el rest).1, [k], some (k, .dead), some (.a e sz (g m el rest).1 (g m el rest).2)⟩)) none
  | _, _ => none
def mO (P : Program) (f : Nat) (g : Nat → (Nat → List AV) → List AV → Nat × (Nat → List AV)) : MEntry := ⟨f, oRow P f g, none⟩
theorem mO_ok {P : Program} {f : Nat} {g : Nat → (Nat → List AV) → List AV → Nat × (Nat → List AV)} : MEOk P (mO P f g) := by
  refine ⟨⟨fun args mem nk eff h hrd => ?_, fun args rows nk nk' b eff h hn => ?_⟩, fun _ h => by cases h⟩
  · have h : oRow P f g args ((rowsL args).map fun k => mem[k]?) nk = some (true, eff) := h
    unfold oRow at h
    split at h
    · rename_i k sz m rest e sz' n el h0 hrows
      clear h0
      cases hb : (noOwns rest && Nat.beq sz sz')
      · rw [hb] at h; cases h
      · rw [hb] at h
        simp only [cond_true, Option.some.injEq, Prod.mk.injEq, Bool.and_eq_true] at h hb
        obtain ⟨⟨hp, hmn⟩, rfl⟩ := h
        obtain ⟨hno, hsz⟩ := hb
        have e1 := Nat.eq_of_beq_eq_true hsz
        have e2 := Nat.eq_of_beq_eq_true hmn
        subst e1 e2
        have hO := propB_of hp
        have hra : rowsL (.osl k sz 0 m :: rest) = [k] := hrd.symm
        have hrr : rowsL rest = [] := by
          have : rowsL (.osl k sz 0 m :: rest) = [k] ++ rowsL rest := by simp [rowsL, rowsA]
          rw [this] at hra
          simpa using hra
        generalize hr2 : g m el rest = r2 at *
        refine ⟨hO.1.1, fun A0 R w0 E mem' cargs hW hnk hgl hr happ => ?_⟩
        cases hEO : E.O k with
        | some p =>
          have hren : renL (ixOf (rowsL (.osl k sz 0 m :: rest))) (.osl k sz 0 m :: rest) = .osl 0 sz 0 m :: rest := by
            rw [hra, renL, renL_noOwn rest _ hno]
            have : ixOf [k] k = some 0 := by simp [ixOf]
            rw [renA, this]
          have hrs : allSome ((rowsL (.osl k sz 0 m :: rest)).map fun k => mem[k]?) = some [.a e sz m el] := by rw [hrows]; rfl
          have hv : renA (backOf (rowsL (.osl k sz 0 m :: rest)) ((([Row.dead, .a e sz r2.1 r2.2] : List Row)[(rowsL (.osl k sz 0 m :: rest)).length]?).map fun _ => nk)) (.osl 1 sz 0 r2.1) = .osl nk sz 0 r2.1 := by
            rw [hra]; rfl
          have cr := call_real (P := P) (f := f) (w := some 0) (args := .osl k sz 0 m :: rest) (mem := mem) (nk := nk) (rs := [.a e sz m el]) (v := .osl 1 sz 0 r2.1) (mem1 := [.dead, .a e sz r2.1 r2.2]) hrs ⟨by rw [hra]; simp [nodupB], rfl, rfl, rfl, rfl⟩ (by rw [hren]; exact hO.1) (fun i hi hw => by
            have : i = 0 := by simpa using hi
            subst this
            exact absurd rfl hw) hW hnk hgl hr (mem' := mem') (by rw [hv, hra]; exact happ) (fun k' hk' => by
            rw [hra] at hk'
            rw [List.mem_singleton.1 hk']
            exact ⟨p, hEO⟩)
          rw [hv] at cr
          exact cr
        | none =>
          obtain ⟨u, us, e0, r1, hr'⟩ := rels_cons.1 hr
          have hm : m = 0 ∧ u = .slice none 0 0 := by
            rcases rel_osl.1 r1 with ⟨_, h2, h3⟩ | ⟨b, c, n', h1, _⟩
            · exact ⟨h2, h3⟩
            · rw [hEO] at h1; cases h1
          have hG := hO.2 hm.1
          have hra' : rowsL (.x (.slice none 0 0) :: rest) = [] := by simp [rowsL, rowsA, hrr]
          have hren : renL (ixOf (rowsL (.x (.slice none 0 0) :: rest))) (.x (.slice none 0 0) :: rest) = .x (.slice none 0 0) :: rest := by
            rw [renL, renL_noOwn rest _ hno, renA]
          have hv : renA (backOf (rowsL (.x (.slice none 0 0) :: rest)) ((([Row.a e sz r2.1 r2.2] : List Row)[(rowsL (.x (.slice none 0 0) :: rest)).length]?).map fun _ => nk)) (.osl 0 sz 0 r2.1) = .osl nk sz 0 r2.1 := by
            rw [hra']; rfl
          have cr := call_real (P := P) (f := f) (w := none) (args := .x (.slice none 0 0) :: rest) (mem := mem) (nk := nk) (rs := []) (v := .osl 0 sz 0 r2.1) (mem1 := [.a e sz r2.1 r2.2]) (by rw [hra']; rfl) ⟨by rw [hra']; rfl, rfl, rfl, rfl, rfl⟩ (by rw [hren]; exact hG) (fun i hi _ => absurd hi (Nat.not_lt_zero i)) hW hnk hgl (rels_cons.2 ⟨u, us, e0, rel_x.2 hm.2, hr'⟩) (mem' := mem') (by
            rw [hv, hra']
            refine ⟨fun k' hk' b c hb => ?_, happ.2⟩
            have h1 := happ.1 k' hk' b c hb
            have hne : k' ≠ k := fun e' => by rw [e', hEO] at hb; cases hb
            simp only [if_neg hne] at h1
            exact h1) (fun k' hk' => by rw [hra'] at hk'; cases hk')
          rw [hv] at cr
          exact cr
    · cases h
  · have h : oRow P f g args rows nk = some (b, eff) := h
    unfold oRow at h
    split at h
    · rename_i k sz m rest e sz' n el h0
      clear h0
      cases hb : (noOwns rest && Nat.beq sz sz')
      · rw [hb] at h; cases h
      · rw [hb] at h
        simp only [cond_true, Option.some.injEq, Prod.mk.injEq] at h
        rw [← h.2] at hn
        cases hn
    · cases h
end
end Go.Gv

namespace Go.Proofs.YtancjnambbkhmaaGreat.Hs.So
open Go.Gv
open Go.Ev (cn fadd fsub fmul fdiv fsqrt fneg feq flt fle fgt fge fabs isNan)

/-! ### Rows as lists -/
def elX (X : Nat → Spn) : Nat → List AV := fun q => (X q).c
def gtL (L : List Spn) (q : Nat) : Spn := L.getD q dS
def elL (L : List Spn) : Nat → List AV := fun q => (gtL L q).c
def slL (L : List Spn) : AV := .sl 6 L.length (elL L)
def roL (L : List Spn) : Row := .a 62 6 L.length (elL L)
theorem mix_c (b : Bool) (x y : Spn) : mixL b x.c y.c = (cond b x y).c := by cases b <;> rfl
def decC : AV → Crs
  | .agg [.f t, .x (.int .i64 l), .x (.bool u)] => ⟨t, l, u⟩
  | _ => ⟨0, 0, false⟩
def decS : List AV → Spn
  | [.f t, .x (.int .i64 l), .x (.bool u), .f t', .x (.int .i64 l'), .x (.bool u')] => ⟨⟨t, l, u⟩, ⟨t', l', u'⟩⟩
  | _ => dS
def decL (m : Nat) (el : Nat → List AV) : List Spn := (List.range m).map fun q => decS (el q)
theorem decL_len (m : Nat) (el : Nat → List AV) : (decL m el).length = m := by unfold decL; rw [List.length_map, List.length_range]
theorem decL_el (L : List Spn) : decL L.length (elL L) = L := by
  apply List.ext_getElem?
  intro q
  unfold decL
  rw [List.getElem?_map]
  by_cases h : q < L.length
  · rw [List.getElem?_range h, List.getElem?_eq_getElem h, Option.map_some]
    show some (gtL L q) = _
    unfold gtL
    rw [List.getD_eq_getElem?_getD, List.getElem?_eq_getElem h]; rfl
  · rw [List.getElem?_eq_none (by rw [List.length_range]; omega), List.getElem?_eq_none (by omega)]; rfl
theorem gtL_app (L : List Spn) (s : Spn) {q : Nat} (hq : q < L.length + 1) : gtL (L ++ [s]) q = cond (Nat.blt q L.length) (gtL L q) s := by
  unfold gtL
  cases hb : Nat.blt q L.length
  · have := not_blt hb
    have e : q = L.length := by omega
    subst e
    rw [List.getD_eq_getElem?_getD, List.getElem?_append_right (Nat.le_refl _), Nat.sub_self]; rfl
  · have hlt : q < L.length := Nat.le_of_ble_eq_true hb
    rw [List.getD_eq_getElem?_getD, List.getD_eq_getElem?_getD, List.getElem?_append_left hlt]; rfl
theorem elL_app (L : List Spn) (s : Spn) {q : Nat} (hq : q < L.length + 1) : mixL (Nat.blt q L.length) (elL L q) s.c = elL (L ++ [s]) q := by
  show mixL (Nat.blt q L.length) (gtL L q).c s.c = (gtL (L ++ [s]) q).c
  rw [mix_c, gtL_app L s hq]
/-- A call that is handed a row of spans, nil or not, and hands one back. -/
noncomputable def mL (f : Nat) (G : List Spn → List AV → List Spn) : MEntry := mO Tryz.prog f fun m el rest => ((G (decL m el) rest).length, elL (G (decL m el) rest))
theorem mL_ok {f : Nat} {G : List Spn → List AV → List Spn} : MEOk Tryz.prog (mL f G) := mO_ok
abbrev LSpec (f : Nat) (L : List Spn) (rest : List AV) (R : List Spn) : Prop := OSpec Tryz.prog f 62 6 L.length (elL L) rest (R.length, elL R)
/-- The condition of such a call. -/
noncomputable def lsB (f : Nat) (L : List Spn) (rest : List AV) (R : List Spn) : Bool := propB (OSpec Tryz.prog f 62 6 L.length (elL L) rest (R.length, elL R)) && Nat.beq L.length L.length
theorem lsB_t {f : Nat} {L : List Spn} {rest : List AV} {R : List Spn} (h : LSpec f L rest R) : lsB f L rest R = true := by
  unfold lsB
  rw [propB_t h, Nat.beq_refl]; rfl
section
variable (a b : Crs) (m : Nat) (X : Nat → Spn)
theorem ap_ev1 : evG Tryz.prog [] [] [] noL Tryz.f126 [.osl 0 6 0 m, a.v, b.v] [.a 62 6 m (elX X)] [some 0, some 4] = cond (flt a.t b.t) (cond (apB m 48 || false) (gout (.osl 1 6 0 (m + 1)) [.dead, .a 62 6 (m + 1) fun q => mixL (Nat.blt q m) (X q).c (⟨a, b⟩ : Spn).c]) none) none := by kernel_rfl
theorem ap_ev2 : evG Tryz.prog [] [] [] noL Tryz.f126 [.x (.slice none 0 0), a.v, b.v] [] [some 3] = cond (flt a.t b.t) (gout (.osl 0 6 0 1) [.a 62 6 1 fun q => mixL (Nat.blt q 0) [] (⟨a, b⟩ : Spn).c]) none := by kernel_rfl
theorem ap_ev3 : ev Tryz.prog [] [] noL Tryz.f126 [.x (.slice none 0 0), a.v, b.v] ret = cond (flt a.t b.t) (some (Out.of (.sl 6 1 fun q => mixL (Nat.blt q 0) [] (⟨a, b⟩ : Spn).c))) (some (Out.of (.x (.slice none 0 0)))) := by kernel_rfl
theorem ap_ev0 : evG Tryz.prog [] [] [] noL Tryz.f126 [.osl 0 6 0 m, a.v, b.v] [.a 62 6 m (elX X)] [some 0] = cond (flt a.t b.t) (cond (apB m 48 || false) (gout .any [.dead]) none) (gout (.osl 0 6 0 m) [.a 62 6 m (elX X)]) := by kernel_rfl
end
/-- A row with a piece laid behind it, if it has a length. -/
theorem ap_spec {L : List Spn} (hm : L.length ≤ 1000000) (a b : Crs) : LSpec 126 L [a.v, b.v] (L ++ piece a b) := by
  unfold piece
  cases h : flt a.t b.t
  · rw [cond_false, List.append_nil]
    refine ⟨gspec_moved (gspecG (mem := [roL L]) e_nil k_nil m_nil Tryz.func126 (by kernel_rfl) (by kernel_rfl) (fun _ _ _ _ _ h => by cases h) rfl (by kernel_rfl) ((ap_ev0 a b L.length (gtL L)).trans ?_)), fun h0 => ?_⟩
    · rw [h]; rfl
    · rw [List.length_eq_zero_iff.1 h0]
      exact gspec_nil (sp e_nil Tryz.func126 (by kernel_rfl) (by kernel_rfl) rfl ((ap_ev3 a b).trans (by rw [h]; rfl)))
  · rw [cond_true]
    have hl : (L ++ [(⟨a, b⟩ : Spn)]).length = L.length + 1 := by rw [List.length_append]; rfl
    unfold LSpec
    rw [hl]
    refine ⟨?_, fun h0 => ?_⟩
    · have h1 : GSpec Tryz.prog 126 [.osl 0 6 0 L.length, a.v, b.v] [roL L] (.osl 1 6 0 (L.length + 1)) [.dead, .a 62 6 (L.length + 1) fun q => mixL (Nat.blt q L.length) (gtL L q).c (⟨a, b⟩ : Spn).c] := gspecG (mem := [roL L]) e_nil k_nil m_nil Tryz.func126 (by kernel_rfl) (by kernel_rfl) (fun _ _ _ _ _ h => by cases h) rfl (by kernel_rfl) ((ap_ev1 a b L.length (gtL L)).trans (by rw [h, apB_t (by omega)]; rfl))
      exact h1.of_rows ⟨Or.inl rfl, Or.inr ⟨62, 6, L.length + 1, _, _, rfl, rfl, fun q hq => (elL_app L _ hq).symm⟩, trivial⟩
    · have e0 := List.length_eq_zero_iff.1 h0
      subst e0
      have h1 : GSpec Tryz.prog 126 [.x (.slice none 0 0), a.v, b.v] [] (.osl 0 6 0 1) [.a 62 6 1 fun q => mixL (Nat.blt q 0) [] (⟨a, b⟩ : Spn).c] := gspecG (mem := []) e_nil k_nil m_nil Tryz.func126 (by kernel_rfl) (by kernel_rfl) (fun _ _ _ _ _ h => by cases h) rfl (by kernel_rfl) ((ap_ev2 a b).trans (by rw [h]; rfl))
      refine h1.of_rows (mem2 := [.a 62 6 1 (elL ([] ++ [⟨a, b⟩]))]) ⟨Or.inr ⟨62, 6, 1, _, _, rfl, rfl, fun q hq => ?_⟩, trivial⟩
      have : q = 0 := by omega
      subst this
      rfl
/-! ### Entries of crosses -/
def eCC (g : Crs → Crs → AV) : List AV → Option AV
  | [.agg [.f t, .x (.int .i64 l), .x (.bool u)], .agg [.f t', .x (.int .i64 l'), .x (.bool u')]] => some (g ⟨t, l, u⟩ ⟨t', l', u'⟩)
  | _ => none
theorem eCC_ok {f : Nat} {g : Crs → Crs → AV} (h : ∀ a b : Crs, FSpec Tryz.prog f [a.v, b.v] (g a b)) : EOk Tryz.prog ⟨f, eCC g⟩ := fun args r hr => by
  simp only [eCC] at hr
  split at hr
  · cases hr; exact Or.inl (h ⟨_, _, _⟩ ⟨_, _, _⟩)
  · cases hr
def eC1 (g : Crs → AV) : List AV → Option AV
  | [.agg [.f t, .x (.int .i64 l), .x (.bool u)]] => some (g ⟨t, l, u⟩)
  | _ => none
theorem eC1_ok {f : Nat} {g : Crs → AV} (h : ∀ a : Crs, FSpec Tryz.prog f [a.v] (g a)) : EOk Tryz.prog ⟨f, eC1 g⟩ := fun args r hr => by
  simp only [eC1] at hr
  split at hr
  · cases hr; exact Or.inl (h ⟨_, _, _⟩)
  · cases hr
end Go.Proofs.YtancjnambbkhmaaGreat.Hs.So

namespace Go.Proofs.YtancjnambbkhmaaGreat.Hs.So
open Go.Gv
open Go.Ev (cn fadd fsub fmul fdiv fsqrt fneg feq flt fle fgt fge fabs isNan)

def biS (A B : List Spn) (l : Spn) (i j : Int) (R : List Spn) : St := mkS 37 [(1, slL B), (5, .osl 1 6 0 R.length), (7, .own 0 0), (10, slL A), (11, iA A.length), (12, iA i), (16, slL B), (17, iA B.length), (18, iA j)] [.c l.c, roL R]
def keepBi : List Nat := [1, 5, 7, 10, 11, 12, 16, 17, 18]
def buS (A B : List Spn) (i : Int) (R : List Spn) : St := mkS 37 [(1, slL B), (5, .osl 0 6 0 R.length), (10, slL A), (11, iA A.length), (12, iA i)] [roL R]
def keepBu : List Nat := [1, 5, 10, 11, 12]
def bE (lf ef : Crs → Crs → Crs) : List Entry := [⟨127, eCC fun a b => (lf a b).v⟩, ⟨128, eCC fun a b => (ef a b).v⟩]
section
variable (lf ef : Crs → Crs → Crs) (G : List Spn → List AV → List Spn) (A B : List Spn) (l : Spn) (i j : Int) (R R' : List Spn)
def biA : List AV := [(lf l.i (gtL B j.toNat).i).v, (ef l.o (gtL B j.toNat).o).v]
noncomputable def biC (f : List Spn → Option Out) (oe : Option Out) : Option Out := cond (decide (j < B.length)) (cond (ixB j B.length || false) (cond ((lsB 126 R (biA lf ef B l j) (G (decL R.length (elL R)) (biA lf ef B l j)) || false) && true) (f (G (decL R.length (elL R)) (biA lf ef B l j))) none) none) oe
theorem bi_step : evCM Tryz.prog (bE lf ef) [] [mL 126 G] noL (loopAt Tryz.f108 1) (biS A B l i j R) (finN keepBi [some 0, some 3]) = biC lf ef G B l j R (fun R' => some ⟨.normal, biS A B l i (w64 (j + 1)) R', .any⟩) none := by kernel_rfl
theorem bi_end : evCM Tryz.prog (bE lf ef) [] [mL 126 G] noL (loopAt Tryz.f108 1) (biS A B l i j R) (finE keepBi [some 0, some 1]) = biC lf ef G B l j R (fun _ => none) (some ⟨.exit 2, biS A B l i j R, .any⟩) := by kernel_rfl
noncomputable def buL : Nat → Option LFun := oneL 6 (toldF keepBi [some 1, some 0] (biS A B (gtL A i.toNat) i 0 R) (.exit 2) (biS A B (gtL A i.toNat) i B.length R'))
noncomputable def buC (o oe : Option Out) : Option Out := cond (decide (i < A.length)) (cond (ixB i A.length || false) (gate (Sub (biS A B (gtL A i.toNat) i 0 R) (biS A B (gtL A i.toNat) i 0 R)) o) none) oe
theorem bu_step : evCM Tryz.prog (bE lf ef) [] [mL 126 G] (buL A B i R R') (loopAt Tryz.f108 0) (buS A B i R) (finN keepBu [some 1]) = buC A B i R (some ⟨.normal, buS A B (w64 (i + 1)) R', .any⟩) none := by kernel_rfl
theorem bu_end : evCM Tryz.prog (bE lf ef) [] [mL 126 G] (oneL 6 fun _ _ => none) (loopAt Tryz.f108 0) (buS A B i R) (finE keepBu [some 0]) = cond (decide (i < A.length)) (cond (ixB i A.length || false) none none) (some ⟨.exit 0, buS A B i R, .any⟩) := by kernel_rfl
theorem bo_evW : evM Tryz.prog (bE lf ef) [] [mL 126 G] (oneL 3 (toldN keepBu [(5, 0, 6)] (roL []) [none] (buS A B 0 []) (.exit 0) (buS A B A.length R))) Tryz.f108 [slL A, slL B] ret = gate (Sub (buS A B 0 []) (buS A B 0 [])) (some (Out.of (.sl 6 R.length fun q => elL R (0 + q)))) := by kernel_rfl
end
theorem bE_ok : ∀ e, e ∈ bE lateS earlS → EOk Tryz.prog e := e_cons (eCC_ok slate) <| e_cons (eCC_ok searl) e_nil
/-- What appendPiece makes of a row. -/
def apG (L : List Spn) (rest : List AV) : List Spn := match rest with
  | [a, b] => L ++ piece (decC a) (decC b)
  | _ => L
theorem flat_len {f : Spn → List Spn} (hf : ∀ s, (f s).length ≤ 1) : ∀ (l : List Spn), (l.flatMap f).length ≤ l.length
  | [] => Nat.le_refl _
  | a :: l => by
    rw [List.flatMap_cons, List.length_append, List.length_cons]
    have := hf a
    have := flat_len hf l
    omega
theorem piece_len (a b : Crs) : (piece a b).length ≤ 1 := by unfold piece; cases flt a.t b.t; exact Nat.zero_le _; exact Nat.le_refl _
theorem take_succ' {L : List Spn} {k : Nat} (hk : k < L.length) : L.take (k + 1) = L.take k ++ [gtL L k] := by
  rw [List.take_add_one, List.getElem?_eq_getElem hk]
  unfold gtL
  rw [List.getD_eq_getElem?_getD, List.getElem?_eq_getElem hk]; rfl
theorem flat_take {f : Spn → List Spn} {L : List Spn} {k : Nat} (hk : k < L.length) : (L.take (k + 1)).flatMap f = (L.take k).flatMap f ++ f (gtL L k) := by
  rw [take_succ' hk, List.flatMap_append, List.flatMap_cons, List.flatMap_nil, List.append_nil]
theorem biA_eq (B : List Spn) (l : Spn) (k : Nat) (R : List Spn) : apG (decL R.length (elL R)) (biA lateS earlS B l (k : Nat)) = R ++ both1 l (gtL B k) := by
  rw [decL_el]
  unfold biA
  rw [Int.toNat_natCast]
  rfl
theorem bi_leads {A B : List Spn} (hB : B.length ≤ 1000) (l : Spn) (i : Int) {R : List Spn} (hR : R.length ≤ 100000) : Leads Tryz.prog (.loop (loopAt Tryz.f108 1)) (biS A B l i 0 R) (.exit 2) (biS A B l i B.length (R ++ B.flatMap (both1 l))) := by
  have h : Leads Tryz.prog (.loop (loopAt Tryz.f108 1)) (biS A B l i (0 : Nat) (R ++ (B.take 0).flatMap (both1 l))) (.exit 2) (biS A B l i (B.length : Nat) (R ++ (B.take B.length).flatMap (both1 l))) := by
    refine loop_rule (fun k => biS A B l i (k : Nat) (R ++ (B.take k).flatMap (both1 l))) B.length (.exit 2) _ (by simp) (fun k hk => ?_) ?_
    · refine leads_evM (finN_sub _ _) bE_ok k_nil (m_cons mL_ok m_nil) noL_ok ((bi_step lateS earlS apG A B l i (k : Nat) (R ++ (B.take k).flatMap (both1 l))).trans ?_)
      have hl := flat_len (f := both1 l) (fun s => piece_len _ _) (B.take k)
      rw [List.length_take] at hl
      unfold biC
      rw [biA_eq, List.append_assoc, ← flat_take hk, dec_lt hk, ixB_t hk, w64_next (by omega)]
      have hs : LSpec 126 (R ++ (B.take k).flatMap (both1 l)) (biA lateS earlS B l (k : Nat)) (R ++ (B.take (k + 1)).flatMap (both1 l)) := by
        have := ap_spec (L := R ++ (B.take k).flatMap (both1 l)) (by rw [List.length_append]; omega) (lateS l.i (gtL B k).i) (earlS l.o (gtL B k).o)
        rw [List.append_assoc] at this
        rw [flat_take hk]
        exact this
      rw [lsB_t hs]
      rfl
    · refine leads_evM (finE_sub _ _) bE_ok k_nil (m_cons mL_ok m_nil) noL_ok ((bi_end lateS earlS apG A B l i (B.length : Nat) (R ++ (B.take B.length).flatMap (both1 l))).trans ?_)
      unfold biC
      rw [dec_self, cond_false]
  rw [List.take_length, List.take_zero, List.flatMap_nil, List.append_nil] at h
  exact h
theorem both_len {A B : List Spn} : (bothL A B).length ≤ A.length * B.length := by
  unfold bothL
  induction A with
  | nil => exact Nat.zero_le _
  | cons a A ih =>
    rw [List.flatMap_cons, List.length_append, List.length_cons, Nat.add_mul, Nat.one_mul]
    have h1 := flat_len (f := both1 a) (fun s => piece_len _ _) B
    exact Nat.le_trans (Nat.add_le_add h1 ih) (by rw [Nat.add_comm]; exact Nat.le_refl _)
theorem bu_leads {A B : List Spn} (hA : A.length ≤ 200) (hB : B.length ≤ 200) : Leads Tryz.prog (.loop (loopAt Tryz.f108 0)) (buS A B 0 []) (.exit 0) (buS A B A.length (bothL A B)) := by
  have hlen : ∀ k, k ≤ A.length → (bothL (A.take k) B).length ≤ 40000 := fun k hk => by
    have h1 := both_len (A := A.take k) (B := B)
    rw [List.length_take] at h1
    have h2 : min k A.length * B.length ≤ 200 * 200 := Nat.mul_le_mul (by omega) hB
    omega
  have hL : ∀ (i : Int) (R R' : List Spn), Leads Tryz.prog (.loop (loopAt Tryz.f108 1)) (biS A B (gtL A i.toNat) i 0 R) (.exit 2) (biS A B (gtL A i.toNat) i B.length R') → LOk Tryz.prog (buL A B i R R') (loopAt Tryz.f108 0) := fun i R R' h => lok_hd (c := loopAt Tryz.f108 0) (i := 6) 0 (by kernel_rfl) (by kernel_rfl) (toldF_sound (keep := keepBi) (τ := [some 1, some 0]) h)
  have h : Leads Tryz.prog (.loop (loopAt Tryz.f108 0)) (buS A B (0 : Nat) (bothL (A.take 0) B)) (.exit 0) (buS A B (A.length : Nat) (bothL (A.take A.length) B)) := by
    refine loop_rule (fun k => buS A B (k : Nat) (bothL (A.take k) B)) A.length (.exit 0) _ (by simp) (fun k hk => ?_) ?_
    · have h1 := bi_leads (A := A) (B := B) (by omega) (gtL A k) (k : Nat) (R := bothL (A.take k) B) (by have := hlen k (by omega); omega)
      have e1 : bothL (A.take k) B ++ B.flatMap (both1 (gtL A k)) = bothL (A.take (k + 1)) B := by
        unfold bothL
        rw [flat_take hk]
      rw [e1] at h1
      refine leads_evM (finN_sub _ _) bE_ok k_nil (m_cons mL_ok m_nil) (hL (k : Nat) (bothL (A.take k) B) (bothL (A.take (k + 1)) B) (by rw [Int.toNat_natCast]; exact h1)) ((bu_step lateS earlS apG A B (k : Nat) (bothL (A.take k) B) (bothL (A.take (k + 1)) B)).trans ?_)
      unfold buC
      rw [dec_lt hk, ixB_t hk, gate_pos (Sub.refl _), w64_next (by omega)]
      rfl
    · refine leads_evM (finE_sub _ _) bE_ok k_nil (m_cons mL_ok m_nil) (lok_none 6) ((bu_end lateS earlS apG A B (A.length : Nat) (bothL (A.take A.length) B)).trans ?_)
      rw [dec_self, cond_false]
  rw [List.take_length, List.take_zero] at h
  exact h
theorem slL_eq (R : List Spn) : (AV.sl 6 R.length fun q => elL R (0 + q)) = slL R := by
  unfold slL
  congr 1
  funext q
  rw [Nat.zero_add]
/-- What is in both. -/
theorem both_spec {A B : List Spn} (hA : A.length ≤ 200) (hB : B.length ≤ 200) : FSpec Tryz.prog 108 [slL A, slL B] (slL (bothL A B)) := by
  have hL := lok_hd (c := bodyOf Tryz.f108) (i := 3) 1 (by kernel_rfl) (by kernel_rfl) (toldN_sound (keep := keepBu) (nils := [(5, 0, 6)]) (nr := roL []) (τ := [none]) (bu_leads hA hB))
  refine spec_of_evM bE_ok k_nil (m_cons mL_ok m_nil) (by kernel_rfl) Tryz.func108 (by kernel_rfl) (by kernel_rfl) hL rfl ((bo_evW lateS earlS apG A B (bothL A B)).trans ?_)
  rw [gate_pos (Sub.refl _), slL_eq]
end Go.Proofs.YtancjnambbkhmaaGreat.Hs.So
