/-
  Fl9 Fl10 Fl11 Fl12 Fl13 Wh0 Cx0 Cxa Wv1 Wv2, one behind the other.
-/
import Derived.Test.YtldbbajakgaajaaM2
import Derived.Test.YtldbbajakgaajaaEvA
import Derived.Test.YtldbbajakgaajaaGy
import Derived.Test.YtldbbajakgaajaaGu
import Derived.Test.YtldbbajakgaajaaGz
namespace Go.Ev
open Ieee

/-- The word of a power of two, in units of the least float. -/
def pw (n : Nat) : Nat := (n - 51) * 4503599627370496
theorem rv_pw {n : Nat} (h : 52 ≤ n) : rv 52 (pw n) = 2 ^ n := by
  obtain ⟨k, rfl⟩ : ∃ k, n = 52 + k := ⟨n - 52, by omega⟩
  have e : pw (52 + k) = (k + 1) * 4503599627370496 := by unfold pw; congr 1; omega
  rw [e, rv_high (by omega), Nat.mul_mod_left, Nat.mul_div_cancel _ (by decide), Nat.add_zero, Nat.add_sub_cancel, Nat.pow_add]
/-- At most that. -/
def Bd (n x : Nat) : Prop := rung x ≤ pw n
theorem Bd.fin {n x : Nat} (h : Bd n x) (hn : n ≤ 2097) : isFin x = true := by
  unfold Bd pw at h
  unfold isFin
  exact Nat.ble_eq_true_of_le (by show rung x + 1 ≤ _; omega)
theorem Bd.val {n x : Nat} (h : Bd n x) (hn : 52 ≤ n) : (val x).natAbs ≤ 2 ^ n := by
  rw [val_abs, ← rv_pw hn]
  rcases Nat.lt_or_ge (rung x) (pw n) with e | e
  · exact Nat.le_of_lt (rv_lt 52 e)
  · rw [show rung x = pw n from Nat.le_antisymm h e]; exact Nat.le_refl _
theorem key_abs (x : Nat) : (key x).natAbs = rung x := by unfold key; cases sgn x <;> simp only [cond_true, cond_false] <;> omega
theorem KR_abs (v : Int) (g : Nat) : (KR v g).natAbs ≤ rq 52 v.natAbs g := by
  unfold KR
  cases decide (v < 0)
  · rw [cond_false, Int.natAbs_natCast]; exact Nat.min_le_left _ _
  · rw [cond_true, Int.natAbs_neg, Int.natAbs_natCast]; exact Nat.min_le_left _ _
theorem bd_of {x g n : Nat} {v : Int} (hk : key x = KR v g) (hg : 0 < g) (hv : v.natAbs ≤ 2 ^ n * g) (hn : 52 ≤ n) : Bd n x := by
  unfold Bd
  rw [← key_abs, hk]
  refine Nat.le_trans (KR_abs v g) (Nat.le_trans (rq_mono1 52 hv) ?_)
  have := rq_mul 52 (2 ^ n) 1 hg
  rw [Nat.one_mul] at this
  rw [this, ← rv_pw hn, rq_rv]
  exact Nat.le_refl _
theorem Bd.mono {n m x : Nat} (h : Bd n x) (hm : n ≤ m) : Bd m x :=
  Nat.le_trans h (Nat.mul_le_mul_right _ (Nat.sub_le_sub_right hm _))
theorem bd_sub {n x y : Nat} (hx : Bd n x) (hy : Bd n y) (hn : 52 ≤ n) (hn' : n ≤ 2097) : Bd (n + 1) (fsub x y) := by
  refine bd_of (key_sub (hx.fin hn') (hy.fin hn')).1 (by decide) ?_ (by omega)
  have h1 := hx.val hn
  have h2 := hy.val hn
  rw [Nat.mul_one, Nat.pow_succ]
  generalize 2 ^ n = p at *
  omega
theorem bd_add {n x y : Nat} (hx : Bd n x) (hy : Bd n y) (hn : 52 ≤ n) (hn' : n ≤ 2097) : Bd (n + 1) (fadd x y) := by
  refine bd_of (key_add (hx.fin hn') (hy.fin hn')).1 (by decide) ?_ (by omega)
  have h1 := hx.val hn
  have h2 := hy.val hn
  rw [Nat.mul_one, Nat.pow_succ]
  generalize 2 ^ n = p at *
  omega
theorem bd_mul {n m l c x y : Nat} (hc : c = 1074) (hx : Bd n x) (hy : Bd m y) (hn : 52 ≤ n) (hn' : n ≤ 2097) (hm : 52 ≤ m) (hm' : m ≤ 2097) (hl : l + c = n + m) (hl2 : 52 ≤ l) : Bd l (fmul x y) := by
  refine bd_of (key_mul hc (hx.fin hn') (hy.fin hm')).1 (Nat.two_pow_pos _) ?_ hl2
  rw [Int.natAbs_mul, ← Nat.pow_add, hl, Nat.pow_add]
  exact Nat.mul_le_mul (hx.val hn) (hy.val hm)
theorem rv_le {r q : Nat} (h : r ≤ q) : rv 52 r ≤ rv 52 q := by
  rcases Nat.lt_or_ge r q with e | e
  · exact Nat.le_of_lt (rv_lt 52 e)
  · rw [Nat.le_antisymm h e]; exact Nat.le_refl _
theorem val_zero {x : Nat} : val x = 0 ↔ rung x = 0 := by
  constructor
  · intro h
    have h1 := val_abs x
    rw [h, Int.natAbs_zero] at h1
    rcases Nat.eq_zero_or_pos (rung x) with e | e
    · exact e
    · have := rv_lt 52 e; rw [rv_zero] at this; omega
  · intro h
    have h1 := val_abs x
    rw [h, rv_zero] at h1
    omega
theorem bd_div {c x y : Nat} (hc : c = 1074) (hx : isFin x = true) (hy : isFin y = true) (h0 : rung y ≠ 0) (h : rung x ≤ rung y) : Bd c (fdiv x y) := by
  have hv : val y ≠ 0 := fun e => h0 (val_zero.1 e)
  refine bd_of (key_div hc hx hy hv).1 (by omega) ?_ (by omega)
  rw [Int.natAbs_mul, Int.natAbs_mul]
  have e : (sg (val y)).natAbs = 1 := by unfold sg; cases decide (val y < 0) <;> rfl
  rw [e, Nat.mul_one, Int.natAbs_natCast, Nat.mul_comm, val_abs, val_abs]
  exact Nat.mul_le_mul_left _ (rv_le h)

/-! ### A float without its sign -/
theorem rung_fabs {x : Nat} (h : isNan x = false) : rung (fabs x) = rung x := by
  unfold fabs; rw [h]; unfold rung; rw [cond_false, Nat.mod_mod]
theorem sgn_fabs {x : Nat} (h : isNan x = false) : sgn (fabs x) = false := by
  unfold fabs; rw [h]; unfold sgn
  rw [cond_false]
  have : x % 9223372036854775808 / 9223372036854775808 = 0 := Nat.div_eq_of_lt (Nat.mod_lt _ (by decide))
  rw [this]; rfl
theorem nan_fabs (x : Nat) : isNan (fabs x) = isNan x := by
  unfold fabs
  cases h : isNan x
  · rw [cond_false, isNan_low, h]
  · exact isNan_nanB
theorem key_fabs {x : Nat} (h : isNan x = false) : key (fabs x) = rung x := by
  unfold key; rw [sgn_fabs h, rung_fabs h]; rfl
theorem fgt_fabs {x y : Nat} (hx : isNan x = false) (hy : isNan y = false) : fgt (fabs x) (fabs y) = decide (rung y < rung x) := by
  rw [fgt_key (by rw [nan_fabs]; exact hx) (by rw [nan_fabs]; exact hy), key_fabs hx, key_fabs hy]
  by_cases h : rung y < rung x
  · rw [decide_eq_true h, decide_eq_true (by omega)]
  · rw [decide_eq_false h, decide_eq_false (by omega)]
theorem sub_turn {x y : Nat} (hx : isFin x = true) (hy : isFin y = true) : feq (fsub x y) (fneg (fsub y x)) = true := by
  obtain ⟨m, i, h1, _⟩ := read_fin hx
  obtain ⟨n, j, h2, _⟩ := read_fin hy
  exact fsub_turn h1 h2
theorem key_fneg {x : Nat} (h : isNan x = false) : key (fneg x) = - key x ∧ isNan (fneg x) = false := by
  have hx : ∀ s r, r ≤ 9218868437227405312 → key (fneg (double.word s r)) = - key (double.word s r) ∧ isNan (fneg (double.word s r)) = false := fun s r hr => by
    rw [fneg_word s hr, key_word _ hr, key_word _ hr, isNan_word _ hr]
    cases s <;> simp
  have e : fneg x = x ^^^ 9223372036854775808 := by unfold fneg; rw [h]; rfl
  have hr : rung x ≤ 9218868437227405312 := by
    rcases fin_or_inf h with h | h
    · have := isFin_lt h; omega
    · omega
  have hb : (x ^^^ 9223372036854775808) % 9223372036854775808 = x % 9223372036854775808 := by
    rw [show (9223372036854775808 : Nat) = 2 ^ 63 from by decide]
    rw [Nat.xor_mod_two_pow, Nat.mod_self]; simp
  have hs : sgn (x ^^^ 9223372036854775808) = !sgn x := by
    unfold sgn
    have : (x ^^^ 9223372036854775808) / 9223372036854775808 = x / 9223372036854775808 ^^^ 1 := by
      rw [show (9223372036854775808 : Nat) = 2 ^ 63 from by decide, ← Nat.shiftRight_eq_div_pow, ← Nat.shiftRight_eq_div_pow, Nat.shiftRight_xor_distrib]
      rfl
    rw [this]
    have h2 : (x / 9223372036854775808 ^^^ 1) % 2 = (x / 9223372036854775808 % 2) ^^^ 1 := by
      rw [show (2 : Nat) = 2 ^ 1 from rfl, Nat.xor_mod_two_pow]
    rw [h2]
    have : x / 9223372036854775808 % 2 = 0 ∨ x / 9223372036854775808 % 2 = 1 := by omega
    rcases this with e | e <;> rw [e] <;> rfl
  rw [e]
  constructor
  · unfold key
    rw [hs]
    have : rung (x ^^^ 9223372036854775808) = rung x := hb
    rw [this]
    cases sgn x <;> simp
  · unfold isNan at *
    rw [read_isNaN] at *
    rw [hb]; exact h
end Go.Ev

namespace Go.Ev
open Ieee

/-! ### The rung of an exact value that is 2^j times as great -/
theorem log2_unique {x k : Nat} (h1 : 2 ^ k ≤ x) (h2 : x < 2 ^ (k + 1)) : x.log2 = k := by
  have hx : x ≠ 0 := by have := Nat.two_pow_pos k; omega
  have a := (Nat.le_log2 hx).2 h1
  have b := (Nat.log2_lt hx).2 h2
  omega
theorem log2_scale {a g : Nat} (j : Nat) (hg : 0 < g) (h : 1 ≤ a / g) : (a * 2 ^ j / g).log2 = (a / g).log2 + j := by
  have h0 : a / g ≠ 0 := by omega
  have l1 := Nat.log2_self_le h0
  have l2 := Nat.lt_log2_self (n := a / g)
  generalize (a / g).log2 = k at l1 l2
  refine log2_unique ?_ ?_
  · rw [Nat.le_div_iff_mul_le hg, Nat.pow_add]
    rw [Nat.le_div_iff_mul_le hg] at l1
    have := Nat.mul_le_mul_right (2 ^ j) l1
    rw [Nat.mul_right_comm] at this
    exact this
  · rw [Nat.div_lt_iff_lt_mul hg, show k + j + 1 = (k + 1) + j by omega, Nat.pow_add]
    rw [Nat.div_lt_iff_lt_mul hg] at l2
    have := (Nat.mul_lt_mul_right (Nat.two_pow_pos j)).2 l2
    rw [Nat.mul_right_comm] at this
    exact this
theorem rq_scale {a g : Nat} (j : Nat) (hg : 0 < g) (h : 2 ^ 52 ≤ a / g) : rq 52 (a * 2 ^ j) g = rq 52 a g + j * 2 ^ 52 := by
  have h1 : 1 ≤ a / g := Nat.le_trans (Nat.two_pow_pos 52) h
  have h0 : a / g ≠ 0 := by omega
  have hL : 52 ≤ (a / g).log2 := (Nat.le_log2 h0).2 h
  unfold rq
  rw [log2_scale j hg h1]
  generalize (a / g).log2 = k at hL
  rw [show k + j - 52 = (k - 52) + j by omega, Nat.pow_add, ← Nat.mul_assoc g, rnd_mul _ _ (Nat.two_pow_pos j), Nat.add_mul]
  omega
theorem rq_low {a g : Nat} (h : 2 ^ 52 ≤ a / g) : 2 ^ 52 ≤ rq 52 a g := by
  have h0 : a / g ≠ 0 := by have := Nat.two_pow_pos 52; omega
  have l1 := Nat.log2_self_le h0
  unfold rq
  have hL : 52 ≤ (a / g).log2 := (Nat.le_log2 h0).2 h
  have : 2 ^ 52 ≤ rnd a (g * 2 ^ ((a / g).log2 - 52)) := by
    refine Nat.le_trans ?_ (le_rnd _ _)
    rw [← Nat.div_div_eq_div_mul, Nat.le_div_iff_mul_le (Nat.two_pow_pos _), ← Nat.pow_add, show 52 + ((a / g).log2 - 52) = (a / g).log2 by omega]
    exact l1
  omega

/-! ### Twice as great, and so on -/
/-- y is 2^j times x, both nought or both normal numbers, of one sign. -/
structure Sc (j x y : Nat) : Prop where
  s : sgn x = sgn y
  fx : isFin x = true
  fy : isFin y = true
  r : (rung x = 0 ∧ rung y = 0) ∨ (2 ^ 52 ≤ rung x ∧ rung y = rung x + j * 2 ^ 52)
theorem rv_scale {r : Nat} (j : Nat) (h : 2 ^ 52 ≤ r) : rv 52 (r + j * 2 ^ 52) = rv 52 r * 2 ^ j := by
  have p : 0 < 2 ^ 52 := Nat.two_pow_pos 52
  unfold rv
  generalize 2 ^ 52 = b at *
  rw [if_neg (by have : r ≤ r + j * b := Nat.le_add_right _ _; omega), if_neg (by omega), Nat.add_mul_mod_self_right, Nat.add_mul_div_right _ _ p]
  have : 1 ≤ r / b := (Nat.le_div_iff_mul_le p).2 (by omega)
  rw [show r / b + j - 1 = (r / b - 1) + j by omega, Nat.pow_add, Nat.mul_assoc]
theorem Sc.val {j x y : Nat} (h : Sc j x y) : val y = val x * ((2 ^ j : Nat) : Int) := by
  unfold Go.Ev.val
  rw [← h.s]
  have e : rv 52 (rung y) = rv 52 (rung x) * 2 ^ j := by
    rcases h.r with ⟨a, b⟩ | ⟨a, b⟩
    · rw [a, b, rv_zero, Nat.zero_mul]
    · rw [b]; exact rv_scale j a
  rw [e]
  cases sgn x
  · simp only [cond_false]; push_cast; rfl
  · simp only [cond_true]; push_cast; rw [Int.neg_mul]
theorem key_sgn {x : Nat} (h : key x ≠ 0) : sgn x = decide (key x < 0) := by
  have e : key x = cond (sgn x) (-(rung x : Int)) (rung x) := rfl
  cases hs : sgn x
  · rw [hs, cond_false] at e; rw [decide_eq_false (by omega)]
  · rw [hs, cond_true] at e; rw [decide_eq_true (by omega)]
theorem KR_big {v : Int} {g : Nat} (h : rq 52 v.natAbs g < 9218868437227405312) : (KR v g).natAbs = rq 52 v.natAbs g := by
  unfold KR
  rw [Nat.min_eq_left (Nat.le_of_lt h)]
  cases decide (v < 0)
  · rw [cond_false, Int.natAbs_natCast]
  · rw [cond_true, Int.natAbs_neg, Int.natAbs_natCast]
/-- Out of exact values, of which one is 2^j times the other. -/
theorem sc_of {j x y g : Nat} {v : Int} (hg : 0 < g) (kx : key x = KR v g) (ky : key y = KR (v * ((2 ^ j : Nat) : Int)) g) (nx : isFin x = true) (ny : isFin y = true) (h : v ≠ 0 → 2 ^ 52 ≤ v.natAbs / g) (hs : v = 0 → sgn x = sgn y) : Sc j x y := by
  by_cases h0 : v = 0
  · subst h0
    rw [Int.zero_mul, KR_zero hg] at ky
    rw [KR_zero hg] at kx
    have a := key_abs x
    have b := key_abs y
    rw [kx] at a; rw [ky] at b
    exact ⟨hs rfl, nx, ny, Or.inl ⟨a.symm, b.symm⟩⟩
  · have hq := h h0
    have fx := isFin_lt nx
    have fy := isFin_lt ny
    rw [← key_abs, kx] at fx
    rw [← key_abs, ky] at fy
    have cap : ∀ {u : Int}, (KR u g).natAbs < 9218868437227405312 → rq 52 u.natAbs g < 9218868437227405312 := fun {u} hu => by
      unfold KR at hu
      cases hd : decide (u < 0)
      · rw [hd, cond_false, Int.natAbs_natCast] at hu; omega
      · rw [hd, cond_true, Int.natAbs_neg, Int.natAbs_natCast] at hu; omega
    have rx : rung x = rq 52 v.natAbs g := by rw [← key_abs, kx, KR_big (cap fx)]
    have ry : rung y = rq 52 (v.natAbs * 2 ^ j) g := by
      rw [← key_abs, ky, KR_big (cap fy), Int.natAbs_mul, Int.natAbs_natCast]
    have lo := rq_low hq
    have hp : (0 : Int) < ((2 ^ j : Nat) : Int) := by have := Nat.two_pow_pos j; omega
    have px : 0 < rung x := by rw [rx]; have := Nat.two_pow_pos 52; omega
    have py : 0 < rung y := by rw [ry, rq_scale j hg hq]; have := Nat.two_pow_pos 52; omega
    refine ⟨?_, nx, ny, Or.inr ⟨by rw [rx]; exact lo, by rw [ry, rx, rq_scale j hg hq]⟩⟩
    have ax := key_abs x
    have ay := key_abs y
    rw [key_sgn (by omega), key_sgn (by omega)]
    have e1 : key x < 0 ↔ v < 0 := by
      have := KR_sign (v := v) (g := g)
      constructor
      · intro hk; rcases Int.lt_or_le v 0 with e | e
        · exact e
        · have := this.1 e; omega
      · intro hk
        have := this.2 (by omega) hg
        omega
    have e2 : key y < 0 ↔ v < 0 := by
      have := KR_sign (v := v * ((2 ^ j : Nat) : Int)) (g := g)
      constructor
      · intro hk; rcases Int.lt_or_le v 0 with e | e
        · exact e
        · have := this.1 (Int.mul_nonneg e (by omega)); omega
      · intro hk
        have := this.2 (Int.le_of_lt (Int.mul_neg_of_neg_of_pos hk hp)) hg
        omega
    exact decide_eq_decide.2 (e1.trans e2.symm)
end Go.Ev

namespace Go.Ev
open Ieee

/-! ### Signs -/
theorem sgn_word (s : Bool) {r : Nat} (h : r ≤ 9218868437227405312) : sgn (double.word s r) = s := by
  unfold sgn Format.word
  rw [signW]
  cases s
  · have h1 : r / 9223372036854775808 = 0 := Nat.div_eq_of_lt (by omega)
    simp [h1]
  · have h1 : (9223372036854775808 + r) / 9223372036854775808 = 1 := by omega
    simp [h1]
theorem sgn_nearest (s : Bool) (m : Nat) (p : Int) : sgn (double.nearest s m p) = s := by
  obtain ⟨r, hr, hw⟩ := nearest_word s m p
  rw [hw, sgn_word _ hr]
theorem sgn_mul {x y : Nat} (hx : isFin x = true) (hy : isFin y = true) : sgn (fmul x y) = (sgn x ^^ sgn y) := by
  obtain ⟨m, i, hrx, _⟩ := read_fin hx
  obtain ⟨n, j, hry, _⟩ := read_fin hy
  unfold fmul Format.mul
  rw [hrx, hry]
  exact sgn_nearest _ _ _
theorem sgn_div {x y : Nat} (hx : isFin x = true) (hy : isFin y = true) (h0 : val y ≠ 0) : sgn (fdiv x y) = (sgn x ^^ sgn y) := by
  obtain ⟨m, i, hrx, _⟩ := read_fin hx
  obtain ⟨n, j, hry, _, _, hv⟩ := read_fin hy
  have hn : n ≠ 0 := fun e => by
    rw [e, Nat.zero_mul, ← val_abs] at hv
    omega
  unfold fdiv Format.div
  rw [hrx, hry]
  simp only [Datum.quotient, if_neg hn]
  exact sgn_nearest _ _ _
theorem sgn_add0 {x y : Nat} (hx : isFin x = true) (hy : isFin y = true) (h : val x + val y = 0) : sgn (fadd x y) = (sgn x && sgn y) := by
  obtain ⟨m, i, hrx, hi, _, hvx⟩ := read_fin hx
  obtain ⟨n, j, hry, hj, _, hvy⟩ := read_fin hy
  have ea := val_signed hvx (base := min i j) (by omega) (by omega)
  have eb := val_signed hvy (base := min i j) (by omega) (by omega)
  unfold fadd Format.add
  rw [hrx, hry]
  simp only [Datum.sum, Option.map_some, Option.getD_some]
  have h0 : signed (sgn x) m (i - min i j).toNat + signed (sgn y) n (j - min i j).toNat = 0 := by
    rw [ea, eb, ← Int.add_mul] at h
    rcases Int.mul_eq_zero.1 h with e | e
    · exact e
    · exact absurd e (Int.ne_of_gt (Int.pow_pos (by decide)))
  rw [if_pos h0]
  exact sgn_nearest _ _ _
theorem sgn_sub0 {x y : Nat} (hx : isFin x = true) (hy : isFin y = true) (h : val x - val y = 0) : sgn (fsub x y) = (sgn x && !sgn y) := by
  obtain ⟨m, i, hrx, hi, _, hvx⟩ := read_fin hx
  obtain ⟨n, j, hry, hj, _, hvy⟩ := read_fin hy
  have ea := val_signed hvx (base := min i j) (by omega) (by omega)
  have eb := val_signed hvy (base := min i j) (by omega) (by omega)
  unfold fsub Format.sub
  rw [hrx, hry]
  simp only [Datum.opposite, Datum.sum, Option.map_some, Option.getD_some]
  have h0 : signed (sgn x) m (i - min i j).toNat + signed (!sgn y) n (j - min i j).toNat = 0 := by
    rw [signed_neg]
    rw [ea, eb, ← Int.sub_mul] at h
    rcases Int.mul_eq_zero.1 h with e | e
    · omega
    · exact absurd e (Int.ne_of_gt (Int.pow_pos (by decide)))
  rw [if_pos h0]
  exact sgn_nearest _ _ _

/-! ### Operations -/
theorem sc_add {j x x' y y' : Nat} (hx : Sc j x x') (hy : Sc j y y') (f : isFin (fadd x y) = true) (f' : isFin (fadd x' y') = true) (low : val x + val y ≠ 0 → 2 ^ 52 ≤ (val x + val y).natAbs) : Sc j (fadd x y) (fadd x' y') := by
  have e : val x' + val y' = (val x + val y) * ((2 ^ j : Nat) : Int) := by rw [hx.val, hy.val, Int.add_mul]
  refine sc_of (g := 1) (by decide) (key_add hx.fx hy.fx).1 (by rw [(key_add hx.fy hy.fy).1, e]) f f' (fun h => by rw [Nat.div_one]; exact low h) (fun h => ?_)
  rw [sgn_add0 hx.fx hy.fx h, sgn_add0 hx.fy hy.fy (by rw [e, h, Int.zero_mul]), hx.s, hy.s]
theorem sc_sub {j x x' y y' : Nat} (hx : Sc j x x') (hy : Sc j y y') (f : isFin (fsub x y) = true) (f' : isFin (fsub x' y') = true) (low : val x - val y ≠ 0 → 2 ^ 52 ≤ (val x - val y).natAbs) : Sc j (fsub x y) (fsub x' y') := by
  have e : val x' - val y' = (val x - val y) * ((2 ^ j : Nat) : Int) := by rw [hx.val, hy.val, Int.sub_mul]
  refine sc_of (g := 1) (by decide) (key_sub hx.fx hy.fx).1 (by rw [(key_sub hx.fy hy.fy).1, e]) f f' (fun h => by rw [Nat.div_one]; exact low h) (fun h => ?_)
  rw [sgn_sub0 hx.fx hy.fx h, sgn_sub0 hx.fy hy.fy (by rw [e, h, Int.zero_mul]), hx.s, hy.s]
theorem sc_mul {c i j x x' y y' : Nat} (hc : c = 1074) (hx : Sc i x x') (hy : Sc j y y') (f : isFin (fmul x y) = true) (f' : isFin (fmul x' y') = true) (low : val x * val y ≠ 0 → 2 ^ 52 ≤ (val x * val y).natAbs / 2 ^ c) : Sc (i + j) (fmul x y) (fmul x' y') := by
  have e : val x' * val y' = val x * val y * ((2 ^ (i + j) : Nat) : Int) := by
    rw [hx.val, hy.val, Nat.pow_add]; push_cast
    rw [Int.mul_assoc, Int.mul_left_comm _ (val y), ← Int.mul_assoc]
  refine sc_of (g := 2 ^ c) (Nat.two_pow_pos c) (key_mul hc hx.fx hy.fx).1 (by rw [(key_mul hc hx.fy hy.fy).1, e]) f f' low (fun _ => ?_)
  rw [sgn_mul hx.fx hy.fx, sgn_mul hx.fy hy.fy, hx.s, hy.s]
/-- Of which the one is as much greater as the other is less: the product is the same. -/
theorem sc_mulx {c j x x' y y' : Nat} (hc : c = 1074) (hx : Sc j x' x) (hy : Sc j y y') (f : isFin (fmul x y) = true) (f' : isFin (fmul x' y') = true) (low : val x * val y ≠ 0 → 2 ^ 52 ≤ (val x * val y).natAbs / 2 ^ c) : Sc 0 (fmul x y) (fmul x' y') := by
  have e : val x' * val y' = val x * val y * ((2 ^ 0 : Nat) : Int) := by
    rw [hx.val, hy.val]
    simp only [Nat.pow_zero, Int.natCast_one, Int.mul_one]
    rw [Int.mul_assoc, Int.mul_comm (val y)]
  refine sc_of (g := 2 ^ c) (Nat.two_pow_pos c) (key_mul hc hx.fy hy.fx).1 (by rw [(key_mul hc hx.fx hy.fy).1, e]) f f' low (fun _ => ?_)
  rw [sgn_mul hx.fy hy.fx, sgn_mul hx.fx hy.fy, hx.s, hy.s]
theorem KR_mul (v : Int) (g : Nat) {m : Nat} (hm : 0 < m) : KR (v * (m : Int)) (g * m) = KR v g := by
  unfold KR
  have e := rq_mul 52 v.natAbs g hm
  rw [Int.natAbs_mul, Int.natAbs_natCast, e]
  have hg' : (0 : Int) < (m : Int) := by omega
  by_cases h : v < 0
  · rw [decide_eq_true h, decide_eq_true (Int.mul_neg_of_neg_of_pos h hg')]
  · rw [decide_eq_false h, decide_eq_false (Int.not_lt.2 (Int.mul_nonneg (by omega) (by omega)))]
theorem sg_scale (v : Int) {m : Nat} (hm : 0 < m) : sg (v * (m : Int)) = sg v := by
  unfold sg
  have hg' : (0 : Int) < (m : Int) := by omega
  by_cases h : v < 0
  · rw [decide_eq_true h, decide_eq_true (Int.mul_neg_of_neg_of_pos h hg')]
  · rw [decide_eq_false h, decide_eq_false (Int.not_lt.2 (Int.mul_nonneg (by omega) (by omega)))]
theorem sc_div {c k j x x' y y' : Nat} (hc : c = 1074) (hx : Sc (j + k) x x') (hy : Sc j y y') (h0 : val y ≠ 0) (f : isFin (fdiv x y) = true) (f' : isFin (fdiv x' y') = true) (low : val x ≠ 0 → 2 ^ 52 ≤ (val x).natAbs * 2 ^ c / (val y).natAbs) : Sc k (fdiv x y) (fdiv x' y') := by
  have hp : 0 < 2 ^ j := Nat.two_pow_pos j
  have h0' : val y' ≠ 0 := by
    rw [hy.val]; exact Int.mul_ne_zero h0 (by omega)
  have e : KR (val x' * sg (val y') * ((2 ^ c : Nat) : Int)) (val y').natAbs = KR (val x * sg (val y) * ((2 ^ c : Nat) : Int) * ((2 ^ k : Nat) : Int)) (val y).natAbs := by
    rw [hx.val, hy.val, sg_scale _ hp, Int.natAbs_mul, Int.natAbs_natCast, ← KR_mul _ (val y).natAbs hp]
    congr 1
    rw [Nat.pow_add]; push_cast
    simp only [Int.mul_assoc, Int.mul_comm, Int.mul_left_comm]
  have es : (sg (val y)).natAbs = 1 := by unfold sg; cases decide (val y < 0) <;> rfl
  refine sc_of (g := (val y).natAbs) (by omega) (key_div hc hx.fx hy.fx h0).1 (by rw [(key_div hc hx.fy hy.fy h0').1, e]) f f' (fun h => ?_) (fun _ => ?_)
  · rw [Int.natAbs_mul, Int.natAbs_mul, es, Nat.mul_one, Int.natAbs_natCast]
    exact low (fun e => h (by rw [e, Int.zero_mul, Int.zero_mul]))
  · rw [sgn_div hx.fx hy.fx h0, sgn_div hx.fy hy.fy h0', hx.s, hy.s]
/-- What is divided by more is less. -/
theorem sc_divx {c k j x x' y y' : Nat} (hc : c = 1074) (hx : Sc j x x') (hy : Sc (j + k) y y') (h0 : val y ≠ 0) (f : isFin (fdiv x y) = true) (f' : isFin (fdiv x' y') = true) (low : val x' ≠ 0 → 2 ^ 52 ≤ (val x').natAbs * 2 ^ c / (val y').natAbs) : Sc k (fdiv x' y') (fdiv x y) := by
  have hp : 0 < 2 ^ (j + k) := Nat.two_pow_pos _
  have h0' : val y' ≠ 0 := by
    rw [hy.val]; exact Int.mul_ne_zero h0 (by omega)
  have e : KR (val x' * sg (val y') * ((2 ^ c : Nat) : Int) * ((2 ^ k : Nat) : Int)) (val y').natAbs = KR (val x * sg (val y) * ((2 ^ c : Nat) : Int)) (val y).natAbs := by
    rw [hx.val, hy.val, sg_scale _ hp, Int.natAbs_mul, Int.natAbs_natCast, ← KR_mul (val x * sg (val y) * ((2 ^ c : Nat) : Int)) (val y).natAbs hp]
    congr 1
    rw [Nat.pow_add]; push_cast
    simp only [Int.mul_assoc, Int.mul_comm, Int.mul_left_comm]
  have es : (sg (val y')).natAbs = 1 := by unfold sg; cases decide (val y' < 0) <;> rfl
  refine sc_of (g := (val y').natAbs) (by omega) (key_div hc hx.fy hy.fy h0').1 (by rw [(key_div hc hx.fx hy.fx h0).1, e]) f' f (fun h => ?_) (fun _ => ?_)
  · rw [Int.natAbs_mul, Int.natAbs_mul, es, Nat.mul_one, Int.natAbs_natCast]
    exact low (fun e => h (by rw [e, Int.zero_mul, Int.zero_mul]))
  · rw [sgn_div hx.fx hy.fx h0, sgn_div hx.fy hy.fy h0', hx.s, hy.s]
/-- In order as before. -/
theorem sc_key_lt {j x x' y y' : Nat} (hx : Sc j x x') (hy : Sc j y y') : key x' < key y' ↔ key x < key y := by
  rw [← val_lt, ← val_lt, hx.val, hy.val]
  have hp : (0 : Int) < ((2 ^ j : Nat) : Int) := by have := Nat.two_pow_pos j; omega
  exact Int.mul_lt_mul_right hp
end Go.Ev

namespace Go.Ev
open Ieee

theorem rung_word (s : Bool) {r : Nat} (h : r ≤ 9218868437227405312) : rung (double.word s r) = r := by
  unfold rung Format.word
  rw [signW]
  cases s
  · simp only [Bool.false_eq_true, if_false]; exact Nat.mod_eq_of_lt (by omega)
  · simp only [if_true]; omega
theorem sc_nearest {s : Bool} {m j u w : Nat} {p : Int} (hp : p + 1074 = u - w) (hlow : 2 ^ 52 ≤ m * 2 ^ u / 2 ^ w) (hf : isFin (double.nearest s m (p + j)) = true) : Sc j (double.nearest s m p) (double.nearest s m (p + j)) := by
  have e1 := nearest_rq s m u w p hp
  have e2 := nearest_rq s m (u + j) w (p + j) (by omega)
  rw [infR] at e1 e2
  have hs := rq_scale (a := m * 2 ^ u) j (Nat.two_pow_pos w) hlow
  rw [Nat.mul_assoc, ← Nat.pow_add] at hs
  have lo := rq_low hlow
  rw [hs] at e2
  clear hs hlow
  generalize rq 52 (m * 2 ^ u) (2 ^ w) = R at e1 e2 lo
  have h2 := isFin_lt hf
  rw [e2, rung_word s (Nat.min_le_right _ _)] at h2
  have p52 : (2 : Nat) ^ 52 = 4503599627370496 := by decide
  rw [p52] at e2 lo h2
  have h3 : R + j * 4503599627370496 < 9218868437227405312 := by omega
  have h4 : R < 9218868437227405312 := by omega
  have r1 : rung (double.nearest s m p) = R := by rw [e1, rung_word s (Nat.min_le_right _ _), Nat.min_eq_left (Nat.le_of_lt h4)]
  have r2 : rung (double.nearest s m (p + j)) = R + j * 4503599627370496 := by rw [e2, rung_word s (Nat.min_le_right _ _), Nat.min_eq_left (Nat.le_of_lt h3)]
  refine ⟨by rw [sgn_nearest, sgn_nearest], ?_, hf, Or.inr ⟨by rw [r1, p52]; exact lo, by rw [r1, r2, p52]⟩⟩
  unfold isFin
  rw [r1]
  exact Nat.ble_eq_true_of_le (show R + 1 ≤ 9218868437227405312 from h4)
theorem read_norm {x : Nat} (h : isFin x = true) (hn : 2 ^ 52 ≤ rung x) : double.read x = .number (sgn x) (4503599627370496 + rung x % 4503599627370496) (-1074 + ((rung x / 4503599627370496 - 1 : Nat) : Int)) := by
  have hl := isFin_lt h
  unfold rung at hl hn ⊢
  unfold Format.read sgn
  simp only [signW, infR, binadeV, leastP]
  have h1 : ¬ x % 9223372036854775808 < 4503599627370496 := Nat.not_lt.2 hn
  rw [if_neg h1, if_pos hl]
theorem read_nought {x : Nat} (h : rung x = 0) : double.read x = .number (sgn x) 0 (-1074) := by
  unfold rung at h
  unfold Format.read sgn
  simp only [signW, infR, binadeV, leastP]
  rw [h, if_pos (by decide)]
/-- What the root's text gives, of a number above 0. -/
def rootM (m : Nat) (i : Int) : Nat :=
  (m <<< (108 - m.log2 + ((i - ((108 - m.log2 : Nat) : Int)) % 2).toNat))
def rootW (m : Nat) (i : Int) : Nat := 2 * Datum.rootFrom (rootM m i) ((rootM m i).log2 / 2 + 1) 0 + (Datum.rootFrom (rootM m i) ((rootM m i).log2 / 2 + 1) 0 * Datum.rootFrom (rootM m i) ((rootM m i).log2 / 2 + 1) 0 != rootM m i).toNat
def rootE (m : Nat) (i : Int) : Int := (i - ((108 - m.log2 + ((i - ((108 - m.log2 : Nat) : Int)) % 2).toNat : Nat) : Int)) / 2 - 1
theorem fsqrt_text {x m : Nat} {i : Int} (h : double.read x = .number false m i) (hm : m ≠ 0) : fsqrt x = double.nearest false (rootW m i) (rootE m i) := by
  unfold fsqrt Format.sqrt
  rw [h]
  simp only [Datum.root, if_neg hm, Bool.false_eq_true, if_false, Option.map_some, Option.getD_some]
  rfl
theorem root_shift (m : Nat) (i : Int) (j : Nat) : rootW m (i + 2 * j) = rootW m i ∧ rootE m (i + 2 * j) = rootE m i + j := by
  have e : (i + 2 * (j : Int) - ((108 - m.log2 : Nat) : Int)) % 2 = (i - ((108 - m.log2 : Nat) : Int)) % 2 := by omega
  constructor
  · unfold rootW rootM; rw [e]
  · unfold rootE
    rw [e]
    generalize ((i - ((108 - m.log2 : Nat) : Int)) % 2).toNat = q
    generalize 108 - m.log2 = t
    omega
theorem rootW_pos {m : Nat} (hm : m ≠ 0) (i : Int) : 1 ≤ rootW m i := by
  have h : rootM m i ≠ 0 := by
    unfold rootM
    rw [Nat.shiftLeft_eq]
    exact Nat.mul_ne_zero hm (Nat.ne_of_gt (Nat.two_pow_pos _))
  unfold rootW
  generalize rootM m i = n at *
  cases hw : Datum.rootFrom n (n.log2 / 2 + 1) 0 with
  | zero =>
    have : (0 * 0 != n) = true := by
      rw [Nat.zero_mul]
      cases n with
      | zero => exact absurd rfl h
      | succ k => rfl
    rw [this]
    decide
  | succ k => omega
theorem pow_le_pow' {a b : Nat} (h : a ≤ b) : 2 ^ a ≤ 2 ^ b := Nat.pow_le_pow_right (by decide) h
theorem rootE_low (m : Nat) {i : Int} (hi : -1074 ≤ i) : -600 ≤ rootE m i := by
  unfold rootE
  have h1 : ((i - ((108 - m.log2 : Nat) : Int)) % 2).toNat ≤ 1 := by omega
  have h2 : 108 - m.log2 ≤ 108 := Nat.sub_le _ _
  generalize ((i - ((108 - m.log2 : Nat) : Int)) % 2).toNat = q at *
  generalize 108 - m.log2 = t at *
  omega
/-- The root of what is 4^j times as great is 2^j times as great. -/
theorem sc_sqrt {j x x' : Nat} (h : Sc (2 * j) x x') (hs : rung x = 0 ∨ sgn x = false) (f' : isFin (fsqrt x') = true) : Sc j (fsqrt x) (fsqrt x') := by
  rcases h.r with ⟨a, b⟩ | ⟨a, b⟩
  · have r1 := read_nought a
    have r2 := read_nought b
    have e : ∀ {y : Nat} {s : Bool}, double.read y = .number s 0 (-1074) → fsqrt y = double.word s 0 := fun {y s} hy => by
      unfold fsqrt Format.sqrt
      rw [hy]
      simp only [Datum.root, if_true, Option.map_some, Option.getD_some, Format.write, nearest_zero]
    rw [e r1, e r2, h.s]
    have r0 : rung (double.word (sgn x') 0) = 0 := rung_word _ (by decide)
    have f0 : isFin (double.word (sgn x') 0) = true := by unfold isFin; rw [r0]; rfl
    exact ⟨rfl, f0, f0, Or.inl ⟨r0, r0⟩⟩
  · have p52 : (2 : Nat) ^ 52 = 4503599627370496 := by decide
    have hsx : sgn x = false := by
      rcases hs with e | e
      · rw [e, p52] at a; omega
      · exact e
    have hb : 2 ^ 52 ≤ rung x' := by rw [b]; exact Nat.le_trans a (Nat.le_add_right _ _)
    have r1 := read_norm h.fx a
    have r2 := read_norm h.fy hb
    rw [p52] at a b
    rw [← h.s, hsx, b, Nat.add_mul_mod_self_right, Nat.add_mul_div_right _ _ (by decide)] at r2
    rw [hsx] at r1
    have hq : 1 ≤ rung x / 4503599627370496 := (Nat.le_div_iff_mul_le (by decide)).2 (by omega)
    have hi : (-1074 + ((rung x / 4503599627370496 + 2 * j - 1 : Nat) : Int)) = (-1074 + ((rung x / 4503599627370496 - 1 : Nat) : Int)) + 2 * (j : Int) := by omega
    rw [hi] at r2
    generalize hm : 4503599627370496 + rung x % 4503599627370496 = m at r1 r2
    have hi' : -1074 ≤ (-1074 + ((rung x / 4503599627370496 - 1 : Nat) : Int)) := by omega
    generalize (-1074 + ((rung x / 4503599627370496 - 1 : Nat) : Int)) = i at r1 r2 hi'
    have m0 : m ≠ 0 := by omega
    have e1 := fsqrt_text r1 m0
    have e2 := fsqrt_text r2 m0
    rw [(root_shift m i j).1, (root_shift m i j).2] at e2
    rw [e2] at f'
    rw [e1, e2]
    have hl := rootE_low m hi'
    have hw := rootW_pos m0 i
    generalize rootW m i = W at *
    generalize rootE m i = E at *
    refine sc_nearest (u := (E + 1074).toNat) (w := 0) (by omega) ?_ f'
    rw [Nat.pow_zero, Nat.div_one]
    exact Nat.le_trans (pow_le_pow' (show 52 ≤ (E + 1074).toNat by omega)) (Nat.le_mul_of_pos_left _ hw)
end Go.Ev

namespace Go.Ev
open Ieee

theorem rnd_exact {a g : Nat} (hg : 0 < g) (h : g ∣ a) : rnd a g = a / g := by
  obtain ⟨t, rfl⟩ := h
  unfold rnd
  rw [Nat.mul_mod_right, Nat.mul_zero]
  have h1 : decide (g < 0) = false := decide_eq_false (Nat.not_lt_zero _)
  have h2 : (g == 0) = false := by
    cases h3 : g == 0
    · rfl
    · have := eq_of_beq h3; omega
  rw [h1, h2]
  rfl
theorem rnd_lo {a : Nat} (h : 2 ^ 52 ≤ a) : 2 ^ 52 ≤ rnd a (2 ^ (a.log2 - 52)) ∧ rnd a (2 ^ (a.log2 - 52)) ≤ 2 ^ 53 := by
  have h0 : a ≠ 0 := by have := Nat.two_pow_pos 52; omega
  have hL : 52 ≤ a.log2 := (Nat.le_log2 h0).2 h
  have l1 := Nat.log2_self_le h0
  have l2 := Nat.lt_log2_self (n := a)
  constructor
  · refine Nat.le_trans ?_ (le_rnd _ _)
    rw [Nat.le_div_iff_mul_le (Nat.two_pow_pos _), ← Nat.pow_add, show 52 + (a.log2 - 52) = a.log2 by omega]
    exact l1
  · refine Nat.le_trans (rnd_le _ _) ?_
    have : a / 2 ^ (a.log2 - 52) < 2 ^ 53 := by
      rw [Nat.div_lt_iff_lt_mul (Nat.two_pow_pos _), ← Nat.pow_add, show 53 + (a.log2 - 52) = a.log2 + 1 by omega]
      exact l2
    exact this
/-- The value of what is rounded. -/
theorem rv_rq {a : Nat} (h : 2 ^ 52 ≤ a) : rv 52 (rq 52 a 1) = rnd a (2 ^ (a.log2 - 52)) * 2 ^ (a.log2 - 52) := by
  obtain ⟨r1, r2⟩ := rnd_lo h
  unfold rq
  rw [Nat.div_one, Nat.one_mul]
  generalize rnd a (2 ^ (a.log2 - 52)) = R at *
  generalize a.log2 - 52 = k
  have p52 : (2 : Nat) ^ 52 = 4503599627370496 := by decide
  have p53 : (2 : Nat) ^ 53 = 9007199254740992 := by decide
  rw [p52] at r1
  rw [p53] at r2
  rw [p52, rv_high (by omega)]
  rcases Nat.lt_or_ge R 9007199254740992 with e | e
  · have h1 : (k * 4503599627370496 + R) % 4503599627370496 = R - 4503599627370496 := by omega
    have h2 : (k * 4503599627370496 + R) / 4503599627370496 = k + 1 := by omega
    rw [h1, h2, Nat.add_sub_cancel, show 4503599627370496 + (R - 4503599627370496) = R by omega]
  · have h0 : R = 9007199254740992 := by omega
    subst h0
    have h1 : (k * 4503599627370496 + 9007199254740992) % 4503599627370496 = 0 := by omega
    have h2 : (k * 4503599627370496 + 9007199254740992) / 4503599627370496 = k + 2 := by omega
    rw [h1, h2, Nat.add_zero, show k + 2 - 1 = k + 1 by omega, Nat.pow_succ, show (9007199254740992 : Nat) = 4503599627370496 * 2 by decide, Nat.mul_assoc, Nat.mul_comm (2 ^ k) 2]
/-- A multiple of a power of two. -/
def Gr (k x : Nat) : Prop := 2 ^ k ∣ (val x).natAbs
theorem gr_round {k a : Nat} (h : 2 ^ 52 ≤ a) (hd : 2 ^ k ∣ a) : 2 ^ k ∣ rv 52 (rq 52 a 1) := by
  rw [rv_rq h]
  rcases Nat.le_total (a.log2 - 52) k with e | e
  · have hd' : 2 ^ (a.log2 - 52) ∣ a := Nat.dvd_trans (Nat.pow_dvd_pow 2 e) hd
    rw [rnd_exact (Nat.two_pow_pos _) hd', Nat.div_mul_cancel hd']
    exact hd
  · exact Nat.dvd_trans (Nat.pow_dvd_pow 2 e) (Nat.dvd_mul_left _ _)
theorem gr_of {k g z : Nat} {v : Int} (hk : 52 ≤ k) (hg : 0 < g) (hz : key z = KR v g) (f : isFin z = true) (hd : 2 ^ k * g ∣ v.natAbs) : Gr k z := by
  unfold Gr
  rw [val_abs]
  have fz := isFin_lt f
  rw [← key_abs, hz] at fz
  have cap : rq 52 v.natAbs g < 9218868437227405312 := by
    unfold KR at fz
    cases hd : decide (v < 0)
    · rw [hd, cond_false, Int.natAbs_natCast] at fz; omega
    · rw [hd, cond_true, Int.natAbs_neg, Int.natAbs_natCast] at fz; omega
  have rz : rung z = rq 52 v.natAbs g := by rw [← key_abs, hz, KR_big cap]
  obtain ⟨t, ht⟩ := hd
  have e : v.natAbs = 2 ^ k * t * g := by rw [ht, Nat.mul_right_comm]
  have hr : rq 52 v.natAbs g = rq 52 (2 ^ k * t) 1 := by
    rw [e]
    have := rq_mul 52 (2 ^ k * t) 1 hg
    rwa [Nat.one_mul] at this
  rw [rz, hr]
  by_cases h0 : t = 0
  · subst h0
    rw [Nat.mul_zero, rq_zero 52 (by decide), rv_zero]
    exact Nat.dvd_zero _
  · refine gr_round ?_ (Nat.dvd_mul_right _ _)
    exact Nat.le_trans (pow_le_pow' hk) (Nat.le_mul_of_pos_right _ (by omega))
theorem Gr.mono {k l x : Nat} (h : Gr k x) (hl : l ≤ k) : Gr l x := Nat.dvd_trans (Nat.pow_dvd_pow 2 hl) h
theorem Gr.low {k x : Nat} (h : Gr k x) (h0 : val x ≠ 0) : 2 ^ k ≤ (val x).natAbs := Nat.le_of_dvd (by omega) h
theorem gr_add {k x y : Nat} (hk : 52 ≤ k) (hx : Gr k x) (hy : Gr k y) (fx : isFin x = true) (fy : isFin y = true) (f : isFin (fadd x y) = true) : Gr k (fadd x y) ∧ (val x + val y ≠ 0 → 2 ^ 52 ≤ (val x + val y).natAbs) := by
  have hd : 2 ^ k ∣ (val x + val y).natAbs := by
    rw [← Int.ofNat_dvd_left] at *
    exact Int.dvd_add (Int.ofNat_dvd_left.2 hx) (Int.ofNat_dvd_left.2 hy)
  exact ⟨gr_of hk (by decide) (key_add fx fy).1 f (by rw [Nat.mul_one]; exact hd), fun h0 => Nat.le_trans (pow_le_pow' hk) (Nat.le_of_dvd (by omega) hd)⟩
theorem gr_sub {k x y : Nat} (hk : 52 ≤ k) (hx : Gr k x) (hy : Gr k y) (fx : isFin x = true) (fy : isFin y = true) (f : isFin (fsub x y) = true) : Gr k (fsub x y) ∧ (val x - val y ≠ 0 → 2 ^ 52 ≤ (val x - val y).natAbs) := by
  have hd : 2 ^ k ∣ (val x - val y).natAbs := by
    rw [← Int.ofNat_dvd_left] at *
    exact Int.dvd_sub (Int.ofNat_dvd_left.2 hx) (Int.ofNat_dvd_left.2 hy)
  exact ⟨gr_of hk (by decide) (key_sub fx fy).1 f (by rw [Nat.mul_one]; exact hd), fun h0 => Nat.le_trans (pow_le_pow' hk) (Nat.le_of_dvd (by omega) hd)⟩
theorem gr_mul {c k l n x y : Nat} (hc : c = 1074) (hx : Gr k x) (hy : Gr l y) (hn : n + c = k + l) (hk : 52 ≤ n) (fx : isFin x = true) (fy : isFin y = true) (f : isFin (fmul x y) = true) : Gr n (fmul x y) ∧ (val x * val y ≠ 0 → 2 ^ 52 ≤ (val x * val y).natAbs / 2 ^ c) := by
  have hd : 2 ^ n * 2 ^ c ∣ (val x * val y).natAbs := by
    rw [← Nat.pow_add, hn, Nat.pow_add, Int.natAbs_mul]
    exact Nat.mul_dvd_mul hx hy
  refine ⟨gr_of hk (Nat.two_pow_pos c) (key_mul hc fx fy).1 f hd, fun h0 => ?_⟩
  rw [Nat.le_div_iff_mul_le (Nat.two_pow_pos c)]
  exact Nat.le_trans (Nat.mul_le_mul_right _ (pow_le_pow' hk)) (Nat.le_of_dvd (by omega) hd)
/-- What is not small is a multiple of a power of two that is 52 less. -/
theorem gr_low {n x : Nat} (hn : 52 ≤ n) (h : 2 ^ n ≤ (val x).natAbs ∨ val x = 0) : Gr (n - 52) x := by
  unfold Gr
  rcases h with h | h
  · rw [val_abs] at *
    have hr : pw n ≤ rung x := by
      rcases Nat.lt_or_ge (rung x) (pw n) with e | e
      · have := rv_lt 52 e; rw [rv_pw hn] at this; omega
      · exact e
    unfold pw at hr
    have hb : ¬ rung x < 4503599627370496 := by
      have : 1 * 4503599627370496 ≤ (n - 51) * 4503599627370496 := Nat.mul_le_mul_right _ (by omega)
      omega
    rw [rv_high hb]
    have hq : n - 51 ≤ rung x / 4503599627370496 := (Nat.le_div_iff_mul_le (by decide)).2 hr
    exact Nat.dvd_trans (Nat.pow_dvd_pow 2 (by omega)) (Nat.dvd_mul_left _ _)
  · rw [h, Int.natAbs_zero]; exact Nat.dvd_zero _
end Go.Ev

namespace Go.Ev
open Ieee

/-- x is the whole number a (c stands for 1074; of nought the sign is left open). -/
structure Wh (c x : Nat) (a : Int) : Prop where
  fin : isFin x = true
  val : val x = a * ((2 ^ c : Nat) : Int)
theorem wh_KRg (v : Int) {g : Nat} (hg : 0 < g) : KR (v * (g : Int)) g = KR v 1 := by
  have := KR_mul v 1 hg
  rwa [Nat.one_mul] at this
theorem wh_rv {c n : Nat} (hc : 52 ≤ c) (h0 : n ≠ 0) (h : n < 2 ^ 53) : rv 52 (rq 52 (n * 2 ^ c) 1) = n * 2 ^ c := by
  have h52 : 2 ^ 52 ≤ n * 2 ^ c := Nat.le_trans (Nat.pow_le_pow_right (by decide) hc) (Nat.le_mul_of_pos_left _ (by omega))
  have hl : n.log2 < 53 := (Nat.log2_lt h0).2 h
  have hd : 2 ^ ((n * 2 ^ c).log2 - 52) ∣ n * 2 ^ c := by
    rw [log2_mul_pow c h0]
    exact Nat.dvd_trans (Nat.pow_dvd_pow 2 (by omega)) (Nat.dvd_mul_left _ _)
  rw [rv_rq h52, rnd_exact (Nat.two_pow_pos _) hd, Nat.div_mul_cancel hd]
theorem wh_of {c z : Nat} {a : Int} (hc : c = 1074) (hz : key z = KR (a * ((2 ^ c : Nat) : Int)) 1) (ha : a.natAbs < 2 ^ 53) : Wh c z a := by
  have hP : 0 < 2 ^ c := Nat.two_pow_pos c
  have en : (a * ((2 ^ c : Nat) : Int)).natAbs = a.natAbs * 2 ^ c := by rw [Int.natAbs_mul, Int.natAbs_natCast]
  have hb : Bd (53 + c) z := by
    refine bd_of hz (by decide) ?_ (by omega)
    rw [en, Nat.mul_one, Nat.pow_add]
    exact Nat.mul_le_mul_right _ (by omega)
  have hf : isFin z = true := hb.fin (by omega)
  refine ⟨hf, ?_⟩
  by_cases h0 : a = 0
  · subst h0
    rw [Int.zero_mul, KR_zero (by decide)] at hz
    rw [Int.zero_mul]
    refine val_zero.2 ?_
    rw [← key_abs, hz]; rfl
  · have hn : a.natAbs ≠ 0 := by omega
    have hr : rung z = rq 52 (a.natAbs * 2 ^ c) 1 := by
      have hlt : rq 52 (a * ((2 ^ c : Nat) : Int)).natAbs 1 < 9218868437227405312 := by
        rw [en]
        refine Nat.lt_of_le_of_lt (rq_mono1 52 (Nat.mul_le_mul_right _ (Nat.le_of_lt ha))) ?_
        rw [← Nat.pow_add, ← rv_pw (by omega), rq_rv]
        unfold pw
        omega
      rw [← key_abs, hz, KR_big hlt, en]
    have hv : (val z).natAbs = a.natAbs * 2 ^ c := by rw [val_abs, hr, wh_rv (by omega) hn ha]
    have hk0 : key z ≠ 0 := fun e => by
      have e1 : rung z = 0 := by rw [← key_abs, e]; rfl
      have e2 := val_zero.2 e1
      rw [e2] at hv
      have := Nat.mul_pos (Nat.pos_of_ne_zero hn) hP
      have e3 : (0 : Int).natAbs = 0 := rfl
      omega
    generalize (2 ^ c : Nat) = P at *
    rcases Int.lt_or_gt_of_ne h0 with h | h
    · have hk : key z < 0 := by
        have := (KR_sign (v := a * (P : Int)) (g := 1)).2 (by have := Int.mul_neg_of_neg_of_pos h (show (0 : Int) < P by omega); omega) (by decide)
        omega
      have h1 := val_negative.2 hk
      have e : ((a.natAbs * P : Nat) : Int) = -a * P := by rw [Int.natCast_mul, show ((a.natAbs : Nat) : Int) = -a by omega]
      rw [Int.neg_mul] at e
      omega
    · have hk : 0 < key z := by
        have := (KR_sign (v := a * (P : Int)) (g := 1)).1 (by have := Int.mul_pos h (show (0 : Int) < P by omega); omega)
        omega
      have h1 := val_pos.2 hk
      have e : ((a.natAbs * P : Nat) : Int) = a * P := by rw [Int.natCast_mul, show ((a.natAbs : Nat) : Int) = a by omega]
      omega
section
variable {c x y : Nat} {a b : Int} (hc : c = 1074)
include hc
theorem wh_add (hx : Wh c x a) (hy : Wh c y b) (h : (a + b).natAbs < 2 ^ 53) : Wh c (fadd x y) (a + b) :=
  wh_of hc (by rw [(key_add hx.fin hy.fin).1, hx.val, hy.val, Int.add_mul]) h
theorem wh_sub (hx : Wh c x a) (hy : Wh c y b) (h : (a - b).natAbs < 2 ^ 53) : Wh c (fsub x y) (a - b) :=
  wh_of hc (by rw [(key_sub hx.fin hy.fin).1, hx.val, hy.val, Int.sub_mul]) h
theorem wh_mul (hx : Wh c x a) (hy : Wh c y b) (h : (a * b).natAbs < 2 ^ 53) : Wh c (fmul x y) (a * b) :=
  wh_of hc (by
    rw [(key_mul hc hx.fin hy.fin).1, hx.val, hy.val, ← wh_KRg (a * b * _) (Nat.two_pow_pos c)]
    congr 1
    generalize ((2 ^ c : Nat) : Int) = P
    rw [Int.mul_assoc a b P, Int.mul_assoc a P, Int.mul_assoc a, ← Int.mul_assoc P b P, Int.mul_comm P b]) h
theorem wh_div (hx : Wh c x (a * b)) (hy : Wh c y b) (hb : 0 < b) (h : a.natAbs < 2 ^ 53) : Wh c (fdiv x y) a :=
  wh_of hc (by
    have hp : (0 : Int) < val y := by rw [hy.val]; exact Int.mul_pos hb (by have := Nat.two_pow_pos c; omega)
    rw [(key_div hc hx.fin hy.fin (by omega)).1]
    have e1 : sg (val y) = 1 := by unfold sg; rw [decide_eq_false (by omega)]; rfl
    have e2 : (((val y).natAbs : Nat) : Int) = val y := by omega
    rw [e1, Int.mul_one, hx.val, ← wh_KRg (a * _) (show 0 < (val y).natAbs by omega), e2, hy.val]
    congr 1
    generalize ((2 ^ c : Nat) : Int) = P
    rw [Int.mul_assoc, Int.mul_assoc, Int.mul_assoc, ← Int.mul_assoc P b P, Int.mul_comm P b, Int.mul_assoc]) h
theorem wh_neg (hx : Wh c x a) (h : a.natAbs < 2 ^ 53) : Wh c (fneg x) (-a) :=
  wh_of hc (by rw [(key_fneg (fin_not_nan hx.fin)).1, ← KR_val hx.fin, hx.val, Int.neg_mul, KR_neg _ (by decide)]) (by omega)
omit hc
theorem wh_eq (hx : Wh c x a) (hy : Wh c y a) : feq x y = true := by
  rw [feq_key (fin_not_nan hx.fin) (fin_not_nan hy.fin), ← KR_val hx.fin, ← KR_val hy.fin, hx.val, hy.val]
  exact decide_eq_true rfl
end
theorem wh_nearest_def (n : Int) : FloatKind.f64.nearest n = Ieee.double.nearest (decide (n < 0)) n.natAbs 0 := rfl
theorem wh_int {c : Nat} (hc : c = 1074) {n : Int} (h : n.natAbs < 2 ^ 53) : Wh c (FloatKind.f64.nearest n) n :=
  wh_of hc (by
    rw [wh_nearest_def]
    refine key_nearest (u := c) (w := 0) (by decide) (by omega) ?_ ?_
    · rw [Nat.pow_zero, Int.natAbs_mul, Int.natAbs_natCast]
    · intro hv
      have hp : (0 : Int) < ((2 ^ c : Nat) : Int) := by have := Nat.two_pow_pos c; omega
      by_cases h0 : n < 0
      · rw [decide_eq_true h0, decide_eq_true (Int.mul_neg_of_neg_of_pos h0 hp)]
      · rw [decide_eq_false h0, decide_eq_false (by have := Int.mul_nonneg (show 0 ≤ n by omega) (Int.le_of_lt hp); omega)]) h
/-- The noughts and ones of the text. -/
theorem wh_zero {c : Nat} (hc : c = 1074) : Wh c 0 0 := wh_int hc (n := 0) (by decide)
theorem wh_one {c : Nat} (hc : c = 1074) : Wh c 4607182418800017408 1 := by
  have := wh_int hc (n := 1) (by decide)
  rwa [show FloatKind.f64.nearest 1 = 4607182418800017408 by decide +kernel] at this
theorem wh_mone {c : Nat} (hc : c = 1074) : Wh c 13830554455654793216 (-1) := by
  have := wh_int hc (n := -1) (by decide)
  rwa [show FloatKind.f64.nearest (-1) = 13830554455654793216 by decide +kernel] at this
end Go.Ev

namespace Go.Ev

abbrev CX : Type := Nat × Nat
def cmul (x y : CX) : CX := (fsub (fmul x.1 y.1) (fmul x.2 y.2), fadd (fmul x.1 y.2) (fmul x.2 y.1))
def cadd (x y : CX) : CX := (fadd x.1 y.1, fadd x.2 y.2)
def csub (x y : CX) : CX := (fsub x.1 y.1, fsub x.2 y.2)
def one64 : Nat := 4607182418800017408
def two64 : Nat := 4611686018427387904
def mone : Nat := 13830554455654793216
/-- The root of 2 to the m. -/
def rt : Nat → CX
  | 0 => (0, 0)
  | 1 => (mone, 0)
  | 2 => (0, mone)
  | m + 3 => (fsqrt (fdiv (fadd one64 (rt (m + 2)).1) two64), fneg (fsqrt (fdiv (fsub one64 (rt (m + 2)).1) two64)))
/-- The same, backward. -/
def rtB (b : Bool) (m : Nat) : CX := cond b ((rt m).1, fneg (rt m).2) (rt m)
/-- The powers of a root. -/
def pws (w : CX) : Nat → CX
  | 0 => (one64, 0)
  | k + 1 => cmul (pws w k) w
/-- The waves of 2 to the m numbers. -/
def wv (b : Bool) : Nat → (Nat → CX) → Nat → CX
  | 0, x => x
  | m + 1, x => fun k => cond (Nat.blt k (2 ^ m))
      (cadd (wv b m (fun i => x (2 * i)) k) (cmul (pws (rtB b (m + 1)) k) (wv b m (fun i => x (2 * i + 1)) k)))
      (csub (wv b m (fun i => x (2 * i)) (k - 2 ^ m)) (cmul (pws (rtB b (m + 1)) (k - 2 ^ m)) (wv b m (fun i => x (2 * i + 1)) (k - 2 ^ m))))
/-- Places that don't count. -/
theorem wv_congr (b : Bool) : ∀ (m : Nat) (x y : Nat → CX), (∀ i, i < 2 ^ m → x i = y i) → ∀ k, k < 2 ^ m → wv b m x k = wv b m y k
  | 0, _, _, h, k, hk => h k hk
  | m + 1, x, y, h, k, hk => by
    have e : 2 ^ (m + 1) = 2 * 2 ^ m := by rw [Nat.pow_succ]; omega
    have h1 := wv_congr b m (fun i => x (2 * i)) (fun i => y (2 * i)) (fun i hi => h _ (by omega))
    have h2 := wv_congr b m (fun i => x (2 * i + 1)) (fun i => y (2 * i + 1)) (fun i hi => h _ (by omega))
    unfold wv
    cases hb : Nat.blt k (2 ^ m) with
    | true =>
      have hl : k < 2 ^ m := Nat.le_of_ble_eq_true hb
      rw [cond_true, cond_true, h1 k hl, h2 k hl]
    | false =>
      rw [cond_false, cond_false, h1 _ (by omega), h2 _ (by omega)]
/-! ### Whole numbers -/
structure WhC (c : Nat) (z : CX) (a : Int × Int) : Prop where
  re : Wh c z.1 a.1
  im : Wh c z.2 a.2
abbrev ZB (n : Nat) (a : Int × Int) : Prop := a.1.natAbs ≤ n ∧ a.2.natAbs ≤ n
def zmul (x y : Int × Int) : Int × Int := (x.1 * y.1 - x.2 * y.2, x.1 * y.2 + x.2 * y.1)
def zadd (x y : Int × Int) : Int × Int := (x.1 + y.1, x.2 + y.2)
def zsub (x y : Int × Int) : Int × Int := (x.1 - y.1, x.2 - y.2)
section
variable {c : Nat} (hc : c = 1074) {x y : CX} {a b : Int × Int} {n m : Nat}
include hc
theorem whc_add (hx : WhC c x a) (hy : WhC c y b) (ha : ZB n a) (hb : ZB m b) (h : n + m < 2 ^ 53) : WhC c (cadd x y) (zadd a b) ∧ ZB (n + m) (zadd a b) := by
  obtain ⟨h1, h2⟩ := ha
  obtain ⟨h3, h4⟩ := hb
  refine ⟨⟨wh_add hc hx.re hy.re (by omega), wh_add hc hx.im hy.im (by omega)⟩, ?_, ?_⟩
  · show (a.1 + b.1).natAbs ≤ n + m; omega
  · show (a.2 + b.2).natAbs ≤ n + m; omega
theorem whc_sub (hx : WhC c x a) (hy : WhC c y b) (ha : ZB n a) (hb : ZB m b) (h : n + m < 2 ^ 53) : WhC c (csub x y) (zsub a b) ∧ ZB (n + m) (zsub a b) := by
  obtain ⟨h1, h2⟩ := ha
  obtain ⟨h3, h4⟩ := hb
  refine ⟨⟨wh_sub hc hx.re hy.re (by omega), wh_sub hc hx.im hy.im (by omega)⟩, ?_, ?_⟩
  · show (a.1 - b.1).natAbs ≤ n + m; omega
  · show (a.2 - b.2).natAbs ≤ n + m; omega
theorem whc_mul (hx : WhC c x a) (hy : WhC c y b) (ha : ZB n a) (hb : ZB m b) (h : 2 * (n * m) < 2 ^ 53) : WhC c (cmul x y) (zmul a b) := by
  obtain ⟨h1, h2⟩ := ha
  obtain ⟨h3, h4⟩ := hb
  have p1 : (a.1 * b.1).natAbs ≤ n * m := by rw [Int.natAbs_mul]; exact Nat.mul_le_mul h1 h3
  have p2 : (a.2 * b.2).natAbs ≤ n * m := by rw [Int.natAbs_mul]; exact Nat.mul_le_mul h2 h4
  have p3 : (a.1 * b.2).natAbs ≤ n * m := by rw [Int.natAbs_mul]; exact Nat.mul_le_mul h1 h4
  have p4 : (a.2 * b.1).natAbs ≤ n * m := by rw [Int.natAbs_mul]; exact Nat.mul_le_mul h2 h3
  refine ⟨wh_sub hc (wh_mul hc hx.re hy.re (by omega)) (wh_mul hc hx.im hy.im (by omega)) (by omega), wh_add hc (wh_mul hc hx.re hy.im (by omega)) (wh_mul hc hx.im hy.re (by omega)) (by omega)⟩
end
/-- Roots that are whole. -/
def zrt (b : Bool) : Nat → Int × Int
  | 1 => (-1, 0)
  | 2 => (0, cond b 1 (-1))
  | _ => (0, 0)
def zpw (w : Int × Int) : Nat → Int × Int
  | 0 => (1, 0)
  | k + 1 => zmul (zpw w k) w
def zwv (b : Bool) : Nat → (Nat → Int × Int) → Nat → Int × Int
  | 0, x => x
  | m + 1, x => fun k => cond (Nat.blt k (2 ^ m))
      (zadd (zwv b m (fun i => x (2 * i)) k) (zmul (zpw (zrt b (m + 1)) k) (zwv b m (fun i => x (2 * i + 1)) k)))
      (zsub (zwv b m (fun i => x (2 * i)) (k - 2 ^ m)) (zmul (zpw (zrt b (m + 1)) (k - 2 ^ m)) (zwv b m (fun i => x (2 * i + 1)) (k - 2 ^ m))))
/-- The powers that the waves of one, two, four numbers take: whole, and of size 1. -/
theorem whc_rt {c : Nat} (hc : c = 1074) (b : Bool) (m : Nat) (hm : m < 2) : WhC c (rtB b (m + 1)) (zrt b (m + 1)) := by
  rcases (by omega : m = 0 ∨ m = 1) with rfl | rfl
  · cases b
    · exact ⟨wh_mone hc, wh_zero hc⟩
    · refine ⟨wh_mone hc, ?_⟩
      have := wh_neg hc (wh_zero hc) (by decide)
      exact this
  · cases b
    · exact ⟨wh_zero hc, wh_mone hc⟩
    · refine ⟨wh_zero hc, ?_⟩
      have := wh_neg hc (wh_mone hc) (by decide)
      exact this
theorem whc_pw {c : Nat} (hc : c = 1074) (b : Bool) (m k : Nat) (hm : m < 2) (hk : k < 2 ^ m) :
    WhC c (pws (rtB b (m + 1)) k) (zpw (zrt b (m + 1)) k) ∧ ZB 1 (zpw (zrt b (m + 1)) k) ∧ ∀ n z, ZB n z → ZB n (zmul (zpw (zrt b (m + 1)) k) z) := by
  have h1 : WhC c (one64, 0) (1, 0) := ⟨wh_one hc, wh_zero hc⟩
  have hu : ∀ n z, ZB n z → ZB n (zmul (1, 0) z) := fun n z hz => by
    obtain ⟨a, b⟩ := z
    obtain ⟨h, h'⟩ := hz
    constructor
    · show (1 * a - 0 * b).natAbs ≤ n; dsimp only at h h'; omega
    · show (1 * b + 0 * a).natAbs ≤ n; dsimp only at h h'; omega
  rcases (by omega : m = 0 ∨ m = 1) with rfl | rfl
  · have : k = 0 := by have : (2 : Nat) ^ 0 = 1 := rfl; omega
    subst this
    exact ⟨h1, (by decide : ZB 1 (1, 0)), hu⟩
  · rcases (by have : (2 : Nat) ^ 1 = 2 := rfl; omega : k = 0 ∨ k = 1) with rfl | rfl
    · exact ⟨h1, (by decide : ZB 1 (1, 0)), hu⟩
    · have hw := whc_rt hc b 1 (by decide)
      have hz : ∀ b, ZB 1 (zrt b (1 + 1)) := by decide
      have hq : ∀ b, ZB 1 (zpw (zrt b (1 + 1)) 1) := by decide
      refine ⟨whc_mul hc h1 hw (n := 1) (m := 1) (by decide : ZB 1 (1, 0)) (hz b) (by decide), hq b, fun n z hz => ?_⟩
      obtain ⟨x, y⟩ := z
      obtain ⟨h, h'⟩ := hz
      dsimp only at h h'
      cases b
      · constructor
        · show ((1 * 0 - 0 * (-1)) * x - (1 * (-1) + 0 * 0) * y).natAbs ≤ n; omega
        · show ((1 * 0 - 0 * (-1)) * y + (1 * (-1) + 0 * 0) * x).natAbs ≤ n; omega
      · constructor
        · show ((1 * 0 - 0 * 1) * x - (1 * 1 + 0 * 0) * y).natAbs ≤ n; omega
        · show ((1 * 0 - 0 * 1) * y + (1 * 1 + 0 * 0) * x).natAbs ≤ n; omega
theorem whc_wv {c : Nat} (hc : c = 1074) (b : Bool) : ∀ (m : Nat), m ≤ 2 → ∀ (n : Nat) (x : Nat → CX) (z : Nat → Int × Int), (∀ i, i < 2 ^ m → WhC c (x i) (z i) ∧ ZB n (z i)) → n * 2 ^ m ≤ 2 ^ 50 →
    ∀ k, k < 2 ^ m → WhC c (wv b m x k) (zwv b m z k) ∧ ZB (n * 2 ^ m) (zwv b m z k)
  | 0, _, n, x, z, h, _, k, hk => by rw [Nat.pow_zero, Nat.mul_one]; exact h k hk
  | m + 1, hm, n, x, z, h, hn, k, hk => by
    have e : 2 ^ (m + 1) = 2 * 2 ^ m := by rw [Nat.pow_succ]; omega
    have en : n * 2 ^ (m + 1) = n * 2 ^ m + n * 2 ^ m := by rw [e, Nat.two_mul, Nat.mul_add]
    rw [en] at hn ⊢
    have h1 := whc_wv hc b m (by omega) n (fun i => x (2 * i)) (fun i => z (2 * i)) (fun i hi => h _ (by omega)) (by omega)
    have h2 := whc_wv hc b m (by omega) n (fun i => x (2 * i + 1)) (fun i => z (2 * i + 1)) (fun i hi => h _ (by omega)) (by omega)
    unfold wv zwv
    cases hb : Nat.blt k (2 ^ m) with
    | true =>
      have hl : k < 2 ^ m := Nat.le_of_ble_eq_true hb
      obtain ⟨p1, p2, p3⟩ := whc_pw hc b m k (by omega) hl
      obtain ⟨a1, a2⟩ := h1 k hl
      obtain ⟨b1, b2⟩ := h2 k hl
      rw [cond_true, cond_true]
      exact whc_add hc a1 (whc_mul hc p1 b1 p2 b2 (by omega)) a2 (p3 _ _ b2) (by omega)
    | false =>
      have hl : k - 2 ^ m < 2 ^ m := by omega
      obtain ⟨p1, p2, p3⟩ := whc_pw hc b m _ (by omega) hl
      obtain ⟨a1, a2⟩ := h1 _ hl
      obtain ⟨b1, b2⟩ := h2 _ hl
      rw [cond_false, cond_false]
      exact whc_sub hc a1 (whc_mul hc p1 b1 p2 b2 (by omega)) a2 (p3 _ _ b2) (by omega)
/-- There and back. -/
theorem zw1 (b : Bool) (x : Nat → Int × Int) : zwv b 1 x 0 = ((x 0).1 + (x 1).1, (x 0).2 + (x 1).2) ∧ zwv b 1 x 1 = ((x 0).1 - (x 1).1, (x 0).2 - (x 1).2) := by
  refine ⟨Prod.ext ?_ ?_, Prod.ext ?_ ?_⟩
  · show (x 0).1 + (1 * (x 1).1 - 0 * (x 1).2) = (x 0).1 + (x 1).1; omega
  · show (x 0).2 + (1 * (x 1).2 + 0 * (x 1).1) = (x 0).2 + (x 1).2; omega
  · show (x 0).1 - (1 * (x 1).1 - 0 * (x 1).2) = (x 0).1 - (x 1).1; omega
  · show (x 0).2 - (1 * (x 1).2 + 0 * (x 1).1) = (x 0).2 - (x 1).2; omega
theorem zw2 (b : Bool) (x : Nat → Int × Int) :
    zwv b 2 x 0 = ((x 0).1 + (x 2).1 + ((x 1).1 + (x 3).1), (x 0).2 + (x 2).2 + ((x 1).2 + (x 3).2)) ∧
    zwv b 2 x 1 = ((x 0).1 - (x 2).1 - cond b 1 (-1) * ((x 1).2 - (x 3).2), (x 0).2 - (x 2).2 + cond b 1 (-1) * ((x 1).1 - (x 3).1)) ∧
    zwv b 2 x 2 = ((x 0).1 + (x 2).1 - ((x 1).1 + (x 3).1), (x 0).2 + (x 2).2 - ((x 1).2 + (x 3).2)) ∧
    zwv b 2 x 3 = ((x 0).1 - (x 2).1 + cond b 1 (-1) * ((x 1).2 - (x 3).2), (x 0).2 - (x 2).2 - cond b 1 (-1) * ((x 1).1 - (x 3).1)) := by
  obtain ⟨e0, e1⟩ := zw1 b (fun i => x (2 * i))
  obtain ⟨o0, o1⟩ := zw1 b (fun i => x (2 * i + 1))
  have h0 : zwv b 2 x 0 = zadd (zwv b 1 (fun i => x (2 * i)) 0) (zmul (1, 0) (zwv b 1 (fun i => x (2 * i + 1)) 0)) := rfl
  have h1 : zwv b 2 x 1 = zadd (zwv b 1 (fun i => x (2 * i)) 1) (zmul (zmul (1, 0) (0, cond b 1 (-1))) (zwv b 1 (fun i => x (2 * i + 1)) 1)) := rfl
  have h2 : zwv b 2 x 2 = zsub (zwv b 1 (fun i => x (2 * i)) 0) (zmul (1, 0) (zwv b 1 (fun i => x (2 * i + 1)) 0)) := rfl
  have h3 : zwv b 2 x 3 = zsub (zwv b 1 (fun i => x (2 * i)) 1) (zmul (zmul (1, 0) (0, cond b 1 (-1))) (zwv b 1 (fun i => x (2 * i + 1)) 1)) := rfl
  rw [h0, h1, h2, h3, e0, e1, o0, o1]
  simp only [zadd, zsub, zmul, Nat.mul_zero, Nat.mul_one, Nat.zero_add, show (2 + 1 : Nat) = 3 from rfl]
  cases b <;> (simp only [cond_true, cond_false]; refine ⟨Prod.ext ?_ ?_, Prod.ext ?_ ?_, Prod.ext ?_ ?_, Prod.ext ?_ ?_⟩ <;> (dsimp only; omega))
theorem z_back (z : Nat → Int × Int) : ∀ m, m ≤ 2 → ∀ k, k < 2 ^ m → zwv true m (zwv false m z) k = ((z k).1 * ((2 ^ m : Nat) : Int), (z k).2 * ((2 ^ m : Nat) : Int)) := by
  intro m hm k hk
  rcases (by omega : m = 0 ∨ m = 1 ∨ m = 2) with rfl | rfl | rfl
  · refine Prod.ext ?_ ?_
    · show (z k).1 = (z k).1 * 1; omega
    · show (z k).2 = (z k).2 * 1; omega
  · obtain ⟨a0, a1⟩ := zw1 true (zwv false 1 z)
    obtain ⟨c0, c1⟩ := zw1 false z
    rw [c0, c1] at a0 a1
    rcases (by have : (2 : Nat) ^ 1 = 2 := rfl; omega : k = 0 ∨ k = 1) with rfl | rfl
    · rw [a0]; refine Prod.ext ?_ ?_
      · show (z 0).1 + (z 1).1 + ((z 0).1 - (z 1).1) = (z 0).1 * 2; omega
      · show (z 0).2 + (z 1).2 + ((z 0).2 - (z 1).2) = (z 0).2 * 2; omega
    · rw [a1]; refine Prod.ext ?_ ?_
      · show (z 0).1 + (z 1).1 - ((z 0).1 - (z 1).1) = (z 1).1 * 2; omega
      · show (z 0).2 + (z 1).2 - ((z 0).2 - (z 1).2) = (z 1).2 * 2; omega
  · obtain ⟨a0, a1, a2, a3⟩ := zw2 true (zwv false 2 z)
    obtain ⟨c0, c1, c2, c3⟩ := zw2 false z
    rw [c0, c1, c2, c3] at a0 a1 a2 a3
    have e4 : ((2 ^ 2 : Nat) : Int) = 4 := rfl
    rw [e4]
    rcases (by have : (2 : Nat) ^ 2 = 4 := rfl; omega : k = 0 ∨ k = 1 ∨ k = 2 ∨ k = 3) with rfl | rfl | rfl | rfl
    · rw [a0]; refine Prod.ext ?_ ?_ <;> (dsimp only [cond_true, cond_false]; omega)
    · rw [a1]; refine Prod.ext ?_ ?_ <;> (dsimp only [cond_true, cond_false]; omega)
    · rw [a2]; refine Prod.ext ?_ ?_ <;> (dsimp only [cond_true, cond_false]; omega)
    · rw [a3]; refine Prod.ext ?_ ?_ <;> (dsimp only [cond_true, cond_false]; omega)
/-- The row comes back. -/
def wvD (m : Nat) (x : Nat → CX) (k : Nat) : CX := (fdiv (wv true m x k).1 (FloatKind.f64.nearest ((2 ^ m : Nat) : Int)), fdiv (wv true m x k).2 (FloatKind.f64.nearest ((2 ^ m : Nat) : Int)))
theorem wv_back (m : Nat) (hm : m ≤ 2) (x : Nat → CX) (z : Nat → Int × Int) (h : ∀ c, c = 1074 → ∀ i, i < 2 ^ m → WhC c (x i) (z i) ∧ ZB 1000 (z i)) (k : Nat) (hk : k < 2 ^ m) :
    feq (wvD m (wv false m x) k).1 (x k).1 = true ∧ feq (wvD m (wv false m x) k).2 (x k).2 = true := by
  obtain ⟨c, hc⟩ : ∃ c, c = 1074 := ⟨_, rfl⟩
  have h' := h c hc
  have hp : 2 ^ m ≤ 4 := Nat.le_trans (Nat.pow_le_pow_right (by decide) hm) (by decide)
  have hp0 : 0 < 2 ^ m := Nat.two_pow_pos m
  have f1 := whc_wv hc false m hm 1000 x z h' (by omega)
  have f2 := whc_wv hc true m hm (1000 * 2 ^ m) (wv false m x) (zwv false m z) f1 (by
    have : 1000 * 2 ^ m * 2 ^ m ≤ 1000 * 4 * 4 := Nat.mul_le_mul (Nat.mul_le_mul_left _ hp) hp
    omega) k hk
  rw [z_back z m hm k hk] at f2
  have hn := wh_int hc (n := ((2 ^ m : Nat) : Int)) (by omega)
  obtain ⟨g1, g2⟩ := h' k hk
  obtain ⟨g3, g4⟩ := g2
  exact ⟨wh_eq (wh_div hc f2.1.re hn (by omega) (by omega)) g1.re, wh_eq (wh_div hc f2.1.im hn (by omega) (by omega)) g1.im⟩
end Go.Ev

namespace Go.Proofs.Ytldbbajakgaajaa
open Go.Gv
open Go.Ev (fadd fsub fmul fdiv fneg fsqrt cn CX cmul cadd csub one64 two64 mone rt rtB pws wv)

def cA (z : CX) : AV := .cx z.1 z.2
/-- A row of complex numbers. -/
def sC (n : Nat) (g : Nat → CX) : AV := .sl 1 n fun i => [cA (g i)]
theorem sqrtX {f : Nat} {fn : Func} (hf : Try.prog.funcs[f]? = some fn) (hname : (fn.name == "runtime.NumGoroutine") = false) (hb : fn.body.isNone = true) (hn : Extern.findNext fn = none)
    (he : Extern.find fn = some Extern.MathSqrt.sqrt) (a : Nat) : XSpec Try.prog f [.f a] (.f (fsqrt a)) := fun E cargs hv => by
  obtain ⟨l⟩ := cargs
  obtain ⟨v, t, e1, h1, h2⟩ := rels_cons.1 hv
  have e2 := rels_nil.1 h2
  obtain ⟨b, rfl, rfl⟩ := rel_f.1 h1
  have e3 : l = [.float .f64 b] := by rw [e2] at e1; exact e1
  subst e3
  obtain ⟨r, w', g1, g2, g3⟩ := Go.Ev.run_sqrt Try.prog E.w b
  refine ⟨.float .f64 r, w', ?_, g2, rel_f.2 ⟨r, rfl, g3⟩⟩
  rw [run_callFunc_extern hf hname hb hn he, g1]
  rfl
def gF1 (h : Nat → Nat) : List AV → Option AV
  | [.f a] => some (.f (h a))
  | _ => none
def gF2 (h : Nat → Nat → Nat) : List AV → Option AV
  | [.f a, .f b] => some (.f (h a b))
  | _ => none
theorem gSq0_ok : EOk Try.prog ⟨26, gF1 fsqrt⟩ := fun args r hr => by
  simp only [gF1] at hr
  split at hr
  · cases hr; exact Or.inr (sqrtX Try.func26 (by kernel_rfl) rfl (by kernel_rfl) (by kernel_rfl) _)
  · cases hr
theorem sq_ev (h : Nat → Nat) (a : Nat) : ev Try.prog [⟨26, gF1 h⟩] [] noL Try.f21 [.f a] ret = some (Out.of (.f (h a))) := by kernel_rfl
theorem gSq_ok : EOk Try.prog ⟨21, gF1 fsqrt⟩ := fun args r hr => by
  simp only [gF1] at hr
  split at hr
  · cases hr; exact Or.inl (gspec (e_cons gSq0_ok e_nil) k_nil Try.func21 (by kernel_rfl) (by kernel_rfl) noL_ok rfl (sq_ev fsqrt _))
  · cases hr
def gC2 (h : CX → CX → CX) : List AV → Option AV
  | [.cx a b, .cx c d] => some (cA (h (a, b) (c, d)))
  | _ => none
def gRt (h : Int → CX) : List AV → AV
  | [.x (.int .i64 n)] => cA (h n)
  | _ => .any
theorem bltF {a b : Nat} (h : ¬ a < b) : Nat.blt a b = false := by
  cases e : Nat.blt a b with
  | false => rfl
  | true => exact absurd (Nat.le_of_ble_eq_true e) h
def loW (w : CX) (E O : Nat → CX) (q : Nat) : CX := cadd (E q) (cmul (pws w q) (O q))
def hiW (w : CX) (E O : Nat → CX) (q : Nat) : CX := csub (E q) (cmul (pws w q) (O q))
theorem mixC (b : Bool) (x y : CX) : mixL b [cA x] [cA y] = [cA (cond b x y)] := by cases b <;> rfl
end Go.Proofs.Ytldbbajakgaajaa

namespace Go.Proofs.Ytldbbajakgaajaa
open Go.Gv
open Go.Ev (fadd fsub fmul fdiv fneg fsqrt cn CX cmul cadd csub one64 two64 mone rt rtB pws wv)

theorem tm_ev (a b : Nat) : ev Try.prog [] [] noL Try.f25 [.f a, .f b] ret = some (Out.of (.f (fmul a b))) := by kernel_rfl
theorem gTm_ok : EOk Try.prog ⟨25, gF2 fmul⟩ := fun args r hr => by
  simp only [gF2] at hr
  split at hr
  · cases hr; exact Or.inl (gspec e_nil k_nil Try.func25 (by kernel_rfl) (by kernel_rfl) noL_ok rfl (tm_ev _ _))
  · cases hr
theorem pr_ev (h : Nat → Nat → Nat) (x y : CX) : ev Try.prog [⟨25, gF2 h⟩] [] noL Try.f19 [cA x, cA y] ret = some (Out.of (.cx (fsub (h x.1 y.1) (h x.2 y.2)) (fadd (h x.1 y.2) (h x.2 y.1)))) := by kernel_rfl
theorem pr_spec (x y : CX) : FSpec Try.prog 19 [cA x, cA y] (cA (cmul x y)) := gspec (e_cons gTm_ok e_nil) k_nil Try.func19 (by kernel_rfl) (by kernel_rfl) noL_ok rfl (pr_ev fmul x y)
theorem gPr_ok : EOk Try.prog ⟨19, gC2 cmul⟩ := fun args r hr => by
  simp only [gC2] at hr
  split at hr
  · cases hr; exact Or.inl (pr_spec (_, _) (_, _))
  · cases hr
/-! ### Roots -/
theorem rt_ev (s : Nat → Nat) (h : Int → CX) (n : Int) : ev Try.prog [⟨21, gF1 s⟩] [kS Try.prog 24 (gRt h)] noL Try.f24 [iA n] ret =
    cond (n == 2) (some (Out.of (.cx mone 0))) (cond (n == 4) (some (Out.of (.cx 0 mone)))
      (gate (FSpec Try.prog 24 [iA (w64 (n.tdiv 2))] (cA (h (w64 (n.tdiv 2))))) (some (Out.of (.cx (s (fdiv (fadd one64 (h (w64 (n.tdiv 2))).1) two64)) (fneg (s (fdiv (fsub one64 (h (w64 (n.tdiv 2))).1) two64)))))))) := by kernel_rfl
theorem rt_spec : ∀ m, 1 ≤ m → m ≤ 30 → FSpec Try.prog 24 [iA ((2 ^ m : Nat) : Int)] (cA (rt m))
  | 0, h, _ => absurd h (by omega)
  | 1, _, _ => gspec (e_cons gSq_ok e_nil) (k_cons (kS_ok (P := Try.prog) (f := 24) (g := gRt fun _ => (0, 0))) k_nil) Try.func24 (by kernel_rfl) (by kernel_rfl) noL_ok rfl (rt_ev fsqrt (fun _ => (0, 0)) 2)
  | 2, _, _ => gspec (e_cons gSq_ok e_nil) (k_cons (kS_ok (P := Try.prog) (f := 24) (g := gRt fun _ => (0, 0))) k_nil) Try.func24 (by kernel_rfl) (by kernel_rfl) noL_ok rfl (rt_ev fsqrt (fun _ => (0, 0)) 4)
  | m + 3, _, hm => by
    have ih := rt_spec (m + 2) (by omega) (by omega)
    have hp : 4 ≤ 2 ^ (m + 2) := by
      have := Nat.pow_le_pow_right (n := 2) (by omega) (show 2 ≤ m + 2 by omega)
      exact this
    have hq : 2 ^ (m + 2) ≤ 2 ^ 30 := Nat.pow_le_pow_right (by omega) (by omega)
    have e2 : 2 ^ (m + 3) = 2 * 2 ^ (m + 2) := by rw [Nat.pow_succ]; omega
    have e30 : (2 : Nat) ^ 30 = 1073741824 := by decide
    have eh : w64 ((((2 ^ (m + 3) : Nat)) : Int).tdiv 2) = ((2 ^ (m + 2) : Nat) : Int) := by
      rw [e2, Int.tdiv_eq_ediv_of_nonneg (by omega), w64_id (by omega) (by omega)]
      omega
    refine gspec (e_cons gSq_ok e_nil) (k_cons (kS_ok (P := Try.prog) (f := 24) (g := gRt fun _ => rt (m + 2))) k_nil) Try.func24 (by kernel_rfl) (by kernel_rfl) noL_ok rfl ((rt_ev fsqrt (fun _ => rt (m + 2)) ((2 ^ (m + 3) : Nat) : Int)).trans ?_)
    rw [eh, gate_pos ih, beq_false_of_ne (show ((2 ^ (m + 3) : Nat) : Int) ≠ 2 by omega), beq_false_of_ne (show ((2 ^ (m + 3) : Nat) : Int) ≠ 4 by omega)]
    rfl
end Go.Proofs.Ytldbbajakgaajaa

namespace Go.Proofs.Ytldbbajakgaajaa
open Go.Gv
open Go.Ev (fneg CX cmul cadd csub one64 two64 mone rt rtB pws wv)

def wvS (n : Int) (h : Nat) (E O : Nat → CX) (w p : CX) (k : Int) (c : Nat) (lo hi : Nat → CX) : St := mkS 110 [(9, iA n), (10, sC h E), (11, sC h O), (12, cA w), (13, .osl 0 1 0 c), (14, .osl 1 1 0 c), (15, cA p), (16, iA k)] [.a 36 1 c fun q => [cA (lo q)], .a 36 1 c fun q => [cA (hi q)]]
/-- Behind the loop: what is high is only read any more. -/
def wvZ (n : Int) (h : Nat) (E O : Nat → CX) (w p : CX) (k : Int) (c : Nat) (lo hi : Nat → CX) : St := mkS 110 [(9, iA n), (10, sC h E), (11, sC h O), (12, cA w), (13, .osl 0 1 0 c), (14, sC c hi), (15, cA p), (16, iA k)] [.a 36 1 c fun q => [cA (lo q)], .dead]
def keepWv : List Nat := [9, 10, 11, 12, 13, 14, 15, 16]
def wvB (k : Int) (h c : Nat) : Bool := (ixB k h || false) && ((ixB k h || false) && ((apB c 16 || false) && true))
section
variable (pf : CX → CX → CX) (n : Int) (h : Nat) (E O : Nat → CX) (w p : CX) (k : Int) (c : Nat) (lo hi : Nat → CX)
def wvN : St := mkS 110 [(9, iA n), (10, sC h E), (11, sC h O), (12, cA w), (13, .osl 0 1 0 (c + 1)), (14, .osl 1 1 0 (c + 1)), (15, cA (pf p w)), (16, iA (w64 (k + 1)))]
  [.a 36 1 (c + 1) fun q => mixL (Nat.blt q c) [cA (lo q)] [cA (cadd (E k.toNat) (pf p (O k.toNat)))], .a 36 1 (c + 1) fun q => mixL (Nat.blt q c) [cA (hi q)] [cA (csub (E k.toNat) (pf p (O k.toNat)))]]
theorem wv_step : evC Try.prog [⟨19, gC2 pf⟩] [] noL (loopAt Try.f18 0) (wvS n h E O w p k c lo hi) (finN keepWv [some 3, some 5]) =
    cond (decide (k < w64 (n.tdiv 2))) (cond (ixB k h || false) (cond (wvB k h c) (cond (wvB k h c) (some ⟨.normal, wvN pf n h E O w p k c lo hi, .any⟩) none) none) none) none := by kernel_rfl
theorem wv_end : evC Try.prog [⟨19, gC2 pf⟩] [] noL (loopAt Try.f18 0) (wvS n h E O w p k c lo hi) (finE keepWv [some 0, some 1]) =
    cond (decide (k < w64 (n.tdiv 2))) (cond (ixB k h || false) (cond (wvB k h c) (cond (wvB k h c) none none) none) none) (some ⟨.exit 0, wvS n h E O w p k c lo hi, .any⟩) := by kernel_rfl
end
def gWv (h : Nat) (F : Int → Nat → CX) : List AV → AV
  | [_, .x (.int .i64 a), _, _] => sC h (F a)
  | _ => .any
noncomputable def wvL (n : Int) (h : Nat) (E O : Nat → CX) (w p : CX) (k : Int) (lo hi : Nat → CX) : Nat → Option LFun := oneL 13 (toldN keepWv [(13, 0, 1), (14, 1, 1)] (.a 36 1 0 fun q => [cA (lo q)]) [none, none] (wvS n h E O w (one64, 0) 0 0 lo lo) (.exit 0) (wvZ n h E O w p k h lo hi))
section
variable (F : Int → Nat → CX) (rf : Int → CX) (N : Nat) (g : Nat → CX) (a s : Int) (h : Nat) (lo hi : Nat → CX) (p : CX) (k : Int)
def wN (N : Nat) (s : Int) : Int := w64 ((N : Int).tdiv s)
def wv1 (N : Nat) (g : Nat → CX) (a s : Int) (R : Option Out) : Option Out := cond ((!(s == 0)) || false) (cond (wN N s == 1) (cond (ixB a N || false) (some (Out.of (.sl 1 1 fun i => chunk [cA (g a.toNat)] 1 (0 + i)))) none) R) none
abbrev WVok (N : Nat) (g : Nat → CX) (a s : Int) (b : Bool) (h : Nat) (e : Nat → CX) : Prop := FSpec Try.prog 18 [sC N g, iA a, iA s, bA b] (sC h e)
noncomputable def wv2 (b : Bool) (R : Option Out) : Option Out := gate (WVok N g a (w64 (2 * s)) b h (F a)) (gate (WVok N g (w64 (a + s)) (w64 (2 * s)) b h (F (w64 (a + s)))) (gate (FSpec Try.prog 24 [iA (wN N s)] (cA (rf (wN N s)))) R))
def apSm (c : Nat) : Bool := (c == c) && (Nat.blt 0 c && (allB c (fun _ => true) && Nat.ble ((c + c) * 16) 140737488355328))
def cjB (b : Bool) (w : CX) : CX := cond b (w.1, fneg w.2) w
noncomputable def wv3 (b : Bool) (w : CX) : Option Out := wv1 N g a s (wv2 F rf N g a s h b (gate (Sub (wvS (wN N s) h (F a) (F (w64 (a + s))) w (one64, 0) 0 0 lo lo) (wvS (wN N s) h (F a) (F (w64 (a + s))) w (one64, 0) 0 0 lo lo)) (cond (apSm h || false) (some (Out.of (.sl 1 (h + h) fun i => mixL (Nat.blt (0 + i) h) [cA (lo (0 + i))] [cA (hi (0 + i - h))]))) none)))
theorem wv_evF : ev Try.prog [] [kS Try.prog 18 (gWv h F), kS Try.prog 24 (gRt rf)] (wvL (wN N s) h (F a) (F (w64 (a + s))) (rf (wN N s)) p k lo hi) Try.f18 [sC N g, iA a, iA s, bA false] ret = wv3 F rf N g a s h lo hi false (rf (wN N s)) := by kernel_rfl
theorem wv_evB : ev Try.prog [] [kS Try.prog 18 (gWv h F), kS Try.prog 24 (gRt rf)] (wvL (wN N s) h (F a) (F (w64 (a + s))) ((rf (wN N s)).1, fneg (rf (wN N s)).2) p k lo hi) Try.f18 [sC N g, iA a, iA s, bA true] ret = wv3 F rf N g a s h lo hi true ((rf (wN N s)).1, fneg (rf (wN N s)).2) := by kernel_rfl
theorem wv_evN (b : Bool) : ev Try.prog [] [⟨18, fun _ _ => none⟩] noL Try.f18 [sC N g, iA a, iA s, bA b] ret = wv1 N g a s none := by kernel_rfl
end
end Go.Proofs.Ytldbbajakgaajaa
