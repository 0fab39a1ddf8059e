/-
  Floats: a power of two moves nothing: what is a power of two times as great goes through sums, products and quotients so, where no result is below the normal floats.
-/
import Derived.Test.YtfdfnnmgpjamdaiGreatFl9
namespace Go.Ev
open Ieee

/-! ### The rung of an exact value that is 2^j times as great -/
theorem log2_unique {x k : Nat} (h1 : 2 ^ k ≤ x) (h2 : x < 2 ^ (k + 1)) : x.log2 = k := by
  have hx : x ≠ 0 := by have := Nat.two_pow_pos k; omega
  have a := (Nat.le_log2 hx).2 h1
  have b := (Nat.log2_lt hx).2 h2
  omega
theorem log2_scale {a g : Nat} (j : Nat) (hg : 0 < g) (h : 1 ≤ a / g) : (a * 2 ^ j / g).log2 = (a / g).log2 + j := by
  have h0 : a / g ≠ 0 := by omega
  have l1 := Nat.log2_self_le h0
  have l2 := Nat.lt_log2_self (n := a / g)
  generalize (a / g).log2 = k at l1 l2
  refine log2_unique ?_ ?_
  · rw [Nat.le_div_iff_mul_le hg, Nat.pow_add]
    rw [Nat.le_div_iff_mul_le hg] at l1
    have := Nat.mul_le_mul_right (2 ^ j) l1
    rw [Nat.mul_right_comm] at this
    exact this
  · rw [Nat.div_lt_iff_lt_mul hg, show k + j + 1 = (k + 1) + j by omega, Nat.pow_add]
    rw [Nat.div_lt_iff_lt_mul hg] at l2
    have := (Nat.mul_lt_mul_right (Nat.two_pow_pos j)).2 l2
    rw [Nat.mul_right_comm] at this
    exact this
theorem rq_scale {a g : Nat} (j : Nat) (hg : 0 < g) (h : 2 ^ 52 ≤ a / g) : rq 52 (a * 2 ^ j) g = rq 52 a g + j * 2 ^ 52 := by
  have h1 : 1 ≤ a / g := Nat.le_trans (Nat.two_pow_pos 52) h
  have h0 : a / g ≠ 0 := by omega
  have hL : 52 ≤ (a / g).log2 := (Nat.le_log2 h0).2 h
  unfold rq
  rw [log2_scale j hg h1]
  generalize (a / g).log2 = k at hL
  rw [show k + j - 52 = (k - 52) + j by omega, Nat.pow_add, ← Nat.mul_assoc g, rnd_mul _ _ (Nat.two_pow_pos j), Nat.add_mul]
  omega
theorem rq_low {a g : Nat} (h : 2 ^ 52 ≤ a / g) : 2 ^ 52 ≤ rq 52 a g := by
  have h0 : a / g ≠ 0 := by have := Nat.two_pow_pos 52; omega
  have l1 := Nat.log2_self_le h0
  unfold rq
  have hL : 52 ≤ (a / g).log2 := (Nat.le_log2 h0).2 h
  have : 2 ^ 52 ≤ rnd a (g * 2 ^ ((a / g).log2 - 52)) := by
    refine Nat.le_trans ?_ (le_rnd _ _)
    rw [← Nat.div_div_eq_div_mul, Nat.le_div_iff_mul_le (Nat.two_pow_pos _), ← Nat.pow_add, show 52 + ((a / g).log2 - 52) = (a / g).log2 by omega]
    exact l1
  omega

/-! ### Twice as great, and so on -/
/-- y is 2^j times x, both nought or both normal numbers, of one sign. -/
structure Sc (j x y : Nat) : Prop where
  s : sgn x = sgn y
  fx : isFin x = true
  fy : isFin y = true
  r : (rung x = 0 ∧ rung y = 0) ∨ (2 ^ 52 ≤ rung x ∧ rung y = rung x + j * 2 ^ 52)
theorem rv_scale {r : Nat} (j : Nat) (h : 2 ^ 52 ≤ r) : rv 52 (r + j * 2 ^ 52) = rv 52 r * 2 ^ j := by
  have p : 0 < 2 ^ 52 := Nat.two_pow_pos 52
  unfold rv
  generalize 2 ^ 52 = b at *
  rw [if_neg (by have : r ≤ r + j * b := Nat.le_add_right _ _; omega), if_neg (by omega), Nat.add_mul_mod_self_right, Nat.add_mul_div_right _ _ p]
  have : 1 ≤ r / b := (Nat.le_div_iff_mul_le p).2 (by omega)
  rw [show r / b + j - 1 = (r / b - 1) + j by omega, Nat.pow_add, Nat.mul_assoc]
theorem Sc.val {j x y : Nat} (h : Sc j x y) : val y = val x * ((2 ^ j : Nat) : Int) := by
  unfold Go.Ev.val
  rw [← h.s]
  have e : rv 52 (rung y) = rv 52 (rung x) * 2 ^ j := by
    rcases h.r with ⟨a, b⟩ | ⟨a, b⟩
    · rw [a, b, rv_zero, Nat.zero_mul]
    · rw [b]; exact rv_scale j a
  rw [e]
  cases sgn x
  · simp only [cond_false]; push_cast; rfl
  · simp only [cond_true]; push_cast; rw [Int.neg_mul]
theorem key_sgn {x : Nat} (h : key x ≠ 0) : sgn x = decide (key x < 0) := by
  have e : key x = cond (sgn x) (-(rung x : Int)) (rung x) := rfl
  cases hs : sgn x
  · rw [hs, cond_false] at e; rw [decide_eq_false (by omega)]
  · rw [hs, cond_true] at e; rw [decide_eq_true (by omega)]
theorem KR_big {v : Int} {g : Nat} (h : rq 52 v.natAbs g < 9218868437227405312) : (KR v g).natAbs = rq 52 v.natAbs g := by
  unfold KR
  rw [Nat.min_eq_left (Nat.le_of_lt h)]
  cases decide (v < 0)
  · rw [cond_false, Int.natAbs_natCast]
  · rw [cond_true, Int.natAbs_neg, Int.natAbs_natCast]
/-- Out of exact values, of which one is 2^j times the other. -/
theorem sc_of {j x y g : Nat} {v : Int} (hg : 0 < g) (kx : key x = KR v g) (ky : key y = KR (v * ((2 ^ j : Nat) : Int)) g) (nx : isFin x = true) (ny : isFin y = true) (h : v ≠ 0 → 2 ^ 52 ≤ v.natAbs / g) (hs : v = 0 → sgn x = sgn y) : Sc j x y := by
  by_cases h0 : v = 0
  · subst h0
    rw [Int.zero_mul, KR_zero hg] at ky
    rw [KR_zero hg] at kx
    have a := key_abs x
    have b := key_abs y
    rw [kx] at a; rw [ky] at b
    exact ⟨hs rfl, nx, ny, Or.inl ⟨a.symm, b.symm⟩⟩
  · have hq := h h0
    have fx := isFin_lt nx
    have fy := isFin_lt ny
    rw [← key_abs, kx] at fx
    rw [← key_abs, ky] at fy
    have cap : ∀ {u : Int}, (KR u g).natAbs < 9218868437227405312 → rq 52 u.natAbs g < 9218868437227405312 := fun {u} hu => by
      unfold KR at hu
      cases hd : decide (u < 0)
      · rw [hd, cond_false, Int.natAbs_natCast] at hu; omega
      · rw [hd, cond_true, Int.natAbs_neg, Int.natAbs_natCast] at hu; omega
    have rx : rung x = rq 52 v.natAbs g := by rw [← key_abs, kx, KR_big (cap fx)]
    have ry : rung y = rq 52 (v.natAbs * 2 ^ j) g := by
      rw [← key_abs, ky, KR_big (cap fy), Int.natAbs_mul, Int.natAbs_natCast]
    have lo := rq_low hq
    have hp : (0 : Int) < ((2 ^ j : Nat) : Int) := by have := Nat.two_pow_pos j; omega
    have px : 0 < rung x := by rw [rx]; have := Nat.two_pow_pos 52; omega
    have py : 0 < rung y := by rw [ry, rq_scale j hg hq]; have := Nat.two_pow_pos 52; omega
    refine ⟨?_, nx, ny, Or.inr ⟨by rw [rx]; exact lo, by rw [ry, rx, rq_scale j hg hq]⟩⟩
    have ax := key_abs x
    have ay := key_abs y
    rw [key_sgn (by omega), key_sgn (by omega)]
    have e1 : key x < 0 ↔ v < 0 := by
      have := KR_sign (v := v) (g := g)
      constructor
      · intro hk; rcases Int.lt_or_le v 0 with e | e
        · exact e
        · have := this.1 e; omega
      · intro hk
        have := this.2 (by omega) hg
        omega
    have e2 : key y < 0 ↔ v < 0 := by
      have := KR_sign (v := v * ((2 ^ j : Nat) : Int)) (g := g)
      constructor
      · intro hk; rcases Int.lt_or_le v 0 with e | e
        · exact e
        · have := this.1 (Int.mul_nonneg e (by omega)); omega
      · intro hk
        have := this.2 (Int.le_of_lt (Int.mul_neg_of_neg_of_pos hk hp)) hg
        omega
    exact decide_eq_decide.2 (e1.trans e2.symm)
end Go.Ev
