/-
  Floats: how great a sum, a product, a quotient can be.
-/
import Derived.Test.YtfdfnnmgpjamdaiGreatFl8
import Derived.Test.YtfdfnnmgpjamdaiGreatEvA
namespace Go.Ev
open Ieee

/-- The word of a power of two, in units of the least float. -/
def pw (n : Nat) : Nat := (n - 51) * 4503599627370496
theorem rv_pw {n : Nat} (h : 52 ≤ n) : rv 52 (pw n) = 2 ^ n := by
  obtain ⟨k, rfl⟩ : ∃ k, n = 52 + k := ⟨n - 52, by omega⟩
  have e : pw (52 + k) = (k + 1) * 4503599627370496 := by unfold pw; congr 1; omega
  rw [e, rv_high (by omega), Nat.mul_mod_left, Nat.mul_div_cancel _ (by decide), Nat.add_zero, Nat.add_sub_cancel, Nat.pow_add]
/-- At most that. -/
def Bd (n x : Nat) : Prop := rung x ≤ pw n
theorem Bd.fin {n x : Nat} (h : Bd n x) (hn : n ≤ 2097) : isFin x = true := by
  unfold Bd pw at h
  unfold isFin
  exact Nat.ble_eq_true_of_le (by show rung x + 1 ≤ _; omega)
theorem Bd.val {n x : Nat} (h : Bd n x) (hn : 52 ≤ n) : (val x).natAbs ≤ 2 ^ n := by
  rw [val_abs, ← rv_pw hn]
  rcases Nat.lt_or_ge (rung x) (pw n) with e | e
  · exact Nat.le_of_lt (rv_lt 52 e)
  · rw [show rung x = pw n from Nat.le_antisymm h e]; exact Nat.le_refl _
theorem key_abs (x : Nat) : (key x).natAbs = rung x := by unfold key; cases sgn x <;> simp only [cond_true, cond_false] <;> omega
theorem KR_abs (v : Int) (g : Nat) : (KR v g).natAbs ≤ rq 52 v.natAbs g := by
  unfold KR
  cases decide (v < 0)
  · rw [cond_false, Int.natAbs_natCast]; exact Nat.min_le_left _ _
  · rw [cond_true, Int.natAbs_neg, Int.natAbs_natCast]; exact Nat.min_le_left _ _
theorem bd_of {x g n : Nat} {v : Int} (hk : key x = KR v g) (hg : 0 < g) (hv : v.natAbs ≤ 2 ^ n * g) (hn : 52 ≤ n) : Bd n x := by
  unfold Bd
  rw [← key_abs, hk]
  refine Nat.le_trans (KR_abs v g) (Nat.le_trans (rq_mono1 52 hv) ?_)
  have := rq_mul 52 (2 ^ n) 1 hg
  rw [Nat.one_mul] at this
  rw [this, ← rv_pw hn, rq_rv]
  exact Nat.le_refl _
theorem Bd.mono {n m x : Nat} (h : Bd n x) (hm : n ≤ m) : Bd m x :=
  Nat.le_trans h (Nat.mul_le_mul_right _ (Nat.sub_le_sub_right hm _))
theorem bd_sub {n x y : Nat} (hx : Bd n x) (hy : Bd n y) (hn : 52 ≤ n) (hn' : n ≤ 2097) : Bd (n + 1) (fsub x y) := by
  refine bd_of (key_sub (hx.fin hn') (hy.fin hn')).1 (by decide) ?_ (by omega)
  have h1 := hx.val hn
  have h2 := hy.val hn
  rw [Nat.mul_one, Nat.pow_succ]
  generalize 2 ^ n = p at *
  omega
theorem bd_add {n x y : Nat} (hx : Bd n x) (hy : Bd n y) (hn : 52 ≤ n) (hn' : n ≤ 2097) : Bd (n + 1) (fadd x y) := by
  refine bd_of (key_add (hx.fin hn') (hy.fin hn')).1 (by decide) ?_ (by omega)
  have h1 := hx.val hn
  have h2 := hy.val hn
  rw [Nat.mul_one, Nat.pow_succ]
  generalize 2 ^ n = p at *
  omega
theorem bd_mul {n m l c x y : Nat} (hc : c = 1074) (hx : Bd n x) (hy : Bd m y) (hn : 52 ≤ n) (hn' : n ≤ 2097) (hm : 52 ≤ m) (hm' : m ≤ 2097) (hl : l + c = n + m) (hl2 : 52 ≤ l) : Bd l (fmul x y) := by
  refine bd_of (key_mul hc (hx.fin hn') (hy.fin hm')).1 (Nat.two_pow_pos _) ?_ hl2
  rw [Int.natAbs_mul, ← Nat.pow_add, hl, Nat.pow_add]
  exact Nat.mul_le_mul (hx.val hn) (hy.val hm)
theorem rv_le {r q : Nat} (h : r ≤ q) : rv 52 r ≤ rv 52 q := by
  rcases Nat.lt_or_ge r q with e | e
  · exact Nat.le_of_lt (rv_lt 52 e)
  · rw [Nat.le_antisymm h e]; exact Nat.le_refl _
theorem val_zero {x : Nat} : val x = 0 ↔ rung x = 0 := by
  constructor
  · intro h
    have h1 := val_abs x
    rw [h, Int.natAbs_zero] at h1
    rcases Nat.eq_zero_or_pos (rung x) with e | e
    · exact e
    · have := rv_lt 52 e; rw [rv_zero] at this; omega
  · intro h
    have h1 := val_abs x
    rw [h, rv_zero] at h1
    omega
theorem bd_div {c x y : Nat} (hc : c = 1074) (hx : isFin x = true) (hy : isFin y = true) (h0 : rung y ≠ 0) (h : rung x ≤ rung y) : Bd c (fdiv x y) := by
  have hv : val y ≠ 0 := fun e => h0 (val_zero.1 e)
  refine bd_of (key_div hc hx hy hv).1 (by omega) ?_ (by omega)
  rw [Int.natAbs_mul, Int.natAbs_mul]
  have e : (sg (val y)).natAbs = 1 := by unfold sg; cases decide (val y < 0) <;> rfl
  rw [e, Nat.mul_one, Int.natAbs_natCast, Nat.mul_comm, val_abs, val_abs]
  exact Nat.mul_le_mul_left _ (rv_le h)

/-! ### A float without its sign -/
theorem rung_fabs {x : Nat} (h : isNan x = false) : rung (fabs x) = rung x := by
  unfold fabs; rw [h]; unfold rung; rw [cond_false, Nat.mod_mod]
theorem sgn_fabs {x : Nat} (h : isNan x = false) : sgn (fabs x) = false := by
  unfold fabs; rw [h]; unfold sgn
  rw [cond_false]
  have : x % 9223372036854775808 / 9223372036854775808 = 0 := Nat.div_eq_of_lt (Nat.mod_lt _ (by decide))
  rw [this]; rfl
theorem nan_fabs (x : Nat) : isNan (fabs x) = isNan x := by
  unfold fabs
  cases h : isNan x
  · rw [cond_false, isNan_low, h]
  · exact isNan_nanB
theorem key_fabs {x : Nat} (h : isNan x = false) : key (fabs x) = rung x := by
  unfold key; rw [sgn_fabs h, rung_fabs h]; rfl
theorem fgt_fabs {x y : Nat} (hx : isNan x = false) (hy : isNan y = false) : fgt (fabs x) (fabs y) = decide (rung y < rung x) := by
  rw [fgt_key (by rw [nan_fabs]; exact hx) (by rw [nan_fabs]; exact hy), key_fabs hx, key_fabs hy]
  by_cases h : rung y < rung x
  · rw [decide_eq_true h, decide_eq_true (by omega)]
  · rw [decide_eq_false h, decide_eq_false (by omega)]
theorem sub_turn {x y : Nat} (hx : isFin x = true) (hy : isFin y = true) : feq (fsub x y) (fneg (fsub y x)) = true := by
  obtain ⟨m, i, h1, _⟩ := read_fin hx
  obtain ⟨n, j, h2, _⟩ := read_fin hy
  exact fsub_turn h1 h2
theorem key_fneg {x : Nat} (h : isNan x = false) : key (fneg x) = - key x ∧ isNan (fneg x) = false := by
  have hx : ∀ s r, r ≤ 9218868437227405312 → key (fneg (double.word s r)) = - key (double.word s r) ∧ isNan (fneg (double.word s r)) = false := fun s r hr => by
    rw [fneg_word s hr, key_word _ hr, key_word _ hr, isNan_word _ hr]
    cases s <;> simp
  have e : fneg x = x ^^^ 9223372036854775808 := by unfold fneg; rw [h]; rfl
  have hr : rung x ≤ 9218868437227405312 := by
    rcases fin_or_inf h with h | h
    · have := isFin_lt h; omega
    · omega
  have hb : (x ^^^ 9223372036854775808) % 9223372036854775808 = x % 9223372036854775808 := by
    rw [show (9223372036854775808 : Nat) = 2 ^ 63 from by decide]
    rw [Nat.xor_mod_two_pow, Nat.mod_self]; simp
  have hs : sgn (x ^^^ 9223372036854775808) = !sgn x := by
    unfold sgn
    have : (x ^^^ 9223372036854775808) / 9223372036854775808 = x / 9223372036854775808 ^^^ 1 := by
      rw [show (9223372036854775808 : Nat) = 2 ^ 63 from by decide, ← Nat.shiftRight_eq_div_pow, ← Nat.shiftRight_eq_div_pow, Nat.shiftRight_xor_distrib]
      rfl
    rw [this]
    have h2 : (x / 9223372036854775808 ^^^ 1) % 2 = (x / 9223372036854775808 % 2) ^^^ 1 := by
      rw [show (2 : Nat) = 2 ^ 1 from rfl, Nat.xor_mod_two_pow]
    rw [h2]
    have : x / 9223372036854775808 % 2 = 0 ∨ x / 9223372036854775808 % 2 = 1 := by omega
    rcases this with e | e <;> rw [e] <;> rfl
  rw [e]
  constructor
  · unfold key
    rw [hs]
    have : rung (x ^^^ 9223372036854775808) = rung x := hb
    rw [this]
    cases sgn x <;> simp
  · unfold isNan at *
    rw [read_isNaN] at *
    rw [hb]; exact h
end Go.Ev
