/-
  Floats: times a power of two.
-/
import Derived.Test.YtfdfnnmgpjamdaiGreatFl15
namespace Go.Ev
open Ieee

theorem KR_g (v : Int) {g : Nat} (hg : 0 < g) : KR (v * (g : Int)) g = KR v 1 := by
  have := KR_mul v 1 hg
  rwa [Nat.one_mul] at this
/-- Times 2^k: so much greater. -/
theorem sc_up {c k x b : Nat} (hc : c = 1074) (vb : val b = ((2 ^ (c + k) : Nat) : Int)) (fb : isFin b = true) (sb : sgn b = false) (fx : isFin x = true) (gx : Gr 52 x) (f : isFin (fmul x b) = true) : Sc k x (fmul x b) := by
  refine sc_of (g := 1) (v := val x) (by decide) (KR_val fx).symm ?_ fx f (fun h => ?_) (fun _ => ?_)
  · rw [(key_mul hc fx fb).1, vb, ← KR_g (val x * ((2 ^ k : Nat) : Int)) (Nat.two_pow_pos c)]
    congr 1
    rw [Nat.add_comm, Nat.pow_add]; push_cast
    rw [Int.mul_assoc]
  · rw [Nat.div_one]; exact gx.low h
  · rw [sgn_mul fx fb, sb, Bool.xor_false]
/-- Through 2^k: so much less. -/
theorem sc_down {c k x b : Nat} (hc : c = 1074) (hk : k ≤ c) (vb : val b = ((2 ^ (c - k) : Nat) : Int)) (fb : isFin b = true) (sb : sgn b = false) (fx : isFin x = true) (gx : Gr (52 + k) x) (f : isFin (fmul x b) = true) : Sc k (fmul x b) x := by
  obtain ⟨t, ht⟩ := gx
  have hv : ∃ v : Int, val x = v * ((2 ^ k : Nat) : Int) ∧ v.natAbs = 2 ^ 52 * t := by
    rw [Nat.pow_add] at ht
    have e : (val x).natAbs = 2 ^ 52 * t * 2 ^ k := by rw [ht, Nat.mul_right_comm]
    generalize hs : 2 ^ 52 * t = s at e
    rcases Int.natAbs_eq (val x) with h | h
    · refine ⟨(s : Int), ?_, ?_⟩
      · rw [h, e]; push_cast; rfl
      · rw [Int.natAbs_natCast]
    · refine ⟨-(s : Int), ?_, ?_⟩
      · rw [h, e]; push_cast; rw [Int.neg_mul]
      · rw [Int.natAbs_neg, Int.natAbs_natCast]
  obtain ⟨v, h1, h2⟩ := hv
  refine sc_of (g := 1) (v := v) (by decide) ?_ (by rw [← h1]; exact (KR_val fx).symm) f fx (fun h => ?_) (fun _ => ?_)
  · rw [(key_mul hc fx fb).1, vb, ← KR_g v (Nat.two_pow_pos c), h1, Int.mul_assoc]
    congr 2
    have e : 2 ^ c = 2 ^ k * 2 ^ (c - k) := by rw [← Nat.pow_add]; congr 1; omega
    rw [e]; push_cast; rfl
  · rw [Nat.div_one, h2]
    have ht0 : t ≠ 0 := fun e => h (by rw [e, Nat.mul_zero] at h2; omega)
    exact Nat.le_mul_of_pos_right _ (by omega)
  · rw [sgn_mul fx fb, sb, Bool.xor_false]
/-- The word of a power of two. -/
theorem val_pw {n : Nat} (h : 52 ≤ n) (h2 : n ≤ 2097) : val (pw n) = ((2 ^ n : Nat) : Int) ∧ isFin (pw n) = true ∧ sgn (pw n) = false := by
  have hl : pw n < 9218868437227405312 := by unfold pw; omega
  have hr : rung (pw n) = pw n := Nat.mod_eq_of_lt (by omega)
  have hs : sgn (pw n) = false := by
    unfold sgn
    rw [Nat.div_eq_of_lt (by omega)]; rfl
  refine ⟨?_, ?_, hs⟩
  · unfold val; rw [hs, hr, cond_false, rv_pw h]
  · unfold isFin; rw [hr]; exact Nat.ble_eq_true_of_le hl
end Go.Ev
