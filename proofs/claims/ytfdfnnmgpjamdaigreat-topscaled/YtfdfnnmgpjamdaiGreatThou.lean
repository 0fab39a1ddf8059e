/-
  Thousandths: in order as the whole numbers that they are of; how great, how small. Of no particular program.
-/
import Derived.Test.YtfdfnnmgpjamdaiGreatMk
import Derived.Test.YtfdfnnmgpjamdaiGreatEMath
namespace Go.Proofs.YtfdfnnmgpjamdaiGreat
open Go.Ev

/-! ### Whole numbers as floats -/
theorem nearest_def (n : Int) : FloatKind.f64.nearest n = Ieee.double.nearest (decide (n < 0)) n.natAbs 0 := rfl
theorem whole_key {c : Nat} (hc : c = 1074) (n : Int) : key (cn (FloatKind.f64.nearest n)) = KR (n * ((2 ^ c : Nat) : Int)) 1 ∧ isNan (cn (FloatKind.f64.nearest n)) = false := by
  have hn : isNan (FloatKind.f64.nearest n) = false := by rw [nearest_def]; exact isNan_nearest _ _ _
  rw [cn_of_not hn]
  refine ⟨?_, hn⟩
  rw [nearest_def]
  refine key_nearest (u := c) (w := 0) (by decide) (by omega) ?_ ?_
  · rw [Int.natAbs_mul, Int.natAbs_natCast, Nat.pow_zero]
  · intro h
    have hp : (0 : Int) < ((2 ^ c : Nat) : Int) := by have := Nat.two_pow_pos c; omega
    by_cases h0 : n < 0
    · rw [decide_eq_true h0, decide_eq_true (Int.mul_neg_of_neg_of_pos h0 hp)]
    · rw [decide_eq_false h0, decide_eq_false (Int.not_lt.2 (Int.mul_nonneg (by omega) (by omega)))]
/-- In order. -/
theorem thou_mono {m n : Int} (h : m ≤ n) (h1 : -9007199254740992 ≤ m) (h2 : n ≤ 9007199254740992) : key (thouS m) ≤ key (thouS n) := by
  obtain ⟨c, hc⟩ : ∃ c, c = 1074 := ⟨_, rfl⟩
  have hk : ∀ {n : Int}, -9007199254740992 ≤ n → n ≤ 9007199254740992 → isFin (cn (FloatKind.f64.nearest n)) = true := by
    intro n a b
    obtain ⟨k1, k2⟩ := whole_key hc n
    obtain ⟨l, hl⟩ : ∃ l, l = 53 + c := ⟨_, rfl⟩
    have : Bd l (cn (FloatKind.f64.nearest n)) := by
      refine bd_of k1 (by decide) ?_ (by omega)
      rw [Int.natAbs_mul, Int.natAbs_natCast, Nat.mul_one, hl, Nat.pow_add]
      refine Nat.mul_le_mul_right _ ?_
      show n.natAbs ≤ 9007199254740992
      omega
    exact this.fin (by omega)
  unfold thouS
  refine fdiv_mono (hk (by omega) (by omega)) (hk (by omega) (by omega)) (by decide +kernel) (by decide +kernel) ?_
  rw [(whole_key hc m).1, (whole_key hc n).1]
  exact KR_mono 1 (Int.mul_le_mul_of_nonneg_right h (Int.natCast_nonneg _))
theorem thou_fin {n : Int} (h1 : -1000000 ≤ n) (h2 : n ≤ 1000000) : Nr (thouS n) := by
  have a := thou_mono (m := -1000000) h1 (by omega) (by omega)
  have b := thou_mono (n := 1000000) h2 (by omega) (by omega)
  have e1 : key (thouS (-1000000)) = -4652007308841189376 := by decide +kernel
  have e2 : key (thouS 1000000) = 4652007308841189376 := by decide +kernel
  refine ⟨fin_between (thou_nan n) a b (by rw [e1]; decide) (by rw [e2]; decide), by omega, by omega⟩
theorem thou_pos {n : Int} (h1 : 1 ≤ n) (h2 : n ≤ 1000000) : 4562254508917369340 ≤ key (thouS n) := by
  have a := thou_mono (m := 1) h1 (by omega) (by omega)
  have e : key (thouS 1) = 4562254508917369340 := by decide +kernel
  omega
theorem thou_neg {n : Int} (h1 : -1000000 ≤ n) (h2 : n ≤ -1) : key (thouS n) ≤ -4562254508917369340 := by
  have a := thou_mono (n := -1) h2 (by omega) (by omega)
  have e : key (thouS (-1)) = -4562254508917369340 := by decide +kernel
  omega
theorem thou_zero : thouS 0 = 0 := by decide +kernel

/-! ### What raw numbers speak of -/
theorem w64_small {n : Int} (h1 : -9223372036854775808 ≤ n) (h2 : n < 9223372036854775808) : w64 n = n := by
  have hw : w64 n = if n % 18446744073709551616 ≥ 9223372036854775808 then n % 18446744073709551616 - 18446744073709551616 else n % 18446744073709551616 := by
    unfold w64 IntKind.wrap
    by_cases h : n % 18446744073709551616 ≥ 9223372036854775808
    · rw [if_pos h]
      exact if_pos (decide_eq_true h)
    · rw [if_neg h]
      exact if_neg (fun e => h (of_decide_eq_true e))
  rw [hw]
  split <;> omega
/-- A whole number of 64 bits. -/
def I64 (c : Int) : Prop := -9223372036854775808 ≤ c ∧ c < 9223372036854775808
theorem pick_range {c n : Int} (hc : I64 c) (hn : 0 < n) : 0 ≤ pickS c n ∧ pickS c n < n := by
  unfold pickS
  have key1 : 0 ≤ (cond (decide (c < 0)) (w64 (0 - w64 (c + 1))) c) := by
    by_cases h : c < 0
    · rw [decide_eq_true h, cond_true]
      have e : w64 (c + 1) = c + 1 := w64_small (by have := hc.1; omega) (by omega)
      rw [e, w64_small (by omega) (by have := hc.1; omega)]
      omega
    · rw [decide_eq_false h, cond_false]; omega
  generalize cond (decide (c < 0)) (w64 (0 - w64 (c + 1))) c = d at key1
  exact ⟨Int.tmod_nonneg _ key1, Int.tmod_lt_of_pos _ hn⟩
theorem mil_range {c most : Int} (hc : I64 c) (h0 : 0 ≤ most) (h1 : most ≤ 1000000) : ∃ j, milS c most = thouS j ∧ -most ≤ j ∧ j ≤ most := by
  unfold milS
  have e1 : w64 (2 * most) = 2 * most := w64_small (by omega) (by omega)
  have e2 : w64 (w64 (2 * most) + 1) = 2 * most + 1 := by rw [e1]; exact w64_small (by omega) (by omega)
  rw [e2]
  obtain ⟨a, b⟩ := pick_range hc (show 0 < 2 * most + 1 by omega)
  refine ⟨_, rfl, ?_⟩
  rw [w64_small (by omega) (by omega)]
  omega
theorem mil_nr {c most : Int} (hc : I64 c) (h0 : 0 ≤ most) (h1 : most ≤ 1000000) : Nr (milS c most) := by
  obtain ⟨j, e, a, b⟩ := mil_range hc h0 h1
  rw [e]; exact thou_fin (by omega) (by omega)
/-- Nought, or not too small. -/
def Far0 (x : Nat) : Prop := x = 0 ∨ 4562254508917369340 ≤ key x ∨ key x ≤ -4562254508917369340
theorem mil_far {c most : Int} (hc : I64 c) (h0 : 0 ≤ most) (h1 : most ≤ 1000000) : Far0 (milS c most) := by
  obtain ⟨j, e, a, b⟩ := mil_range hc h0 h1
  rw [e]
  rcases Int.lt_trichotomy j 0 with h | h | h
  · exact Or.inr (Or.inr (thou_neg (by omega) (by omega)))
  · subst h; exact Or.inl thou_zero
  · exact Or.inr (Or.inl (thou_pos (by omega) (by omega)))
end Go.Proofs.YtfdfnnmgpjamdaiGreat
