/-
  Cells, and what is left.
-/
import Derived.Test.YthdobfifpkpbnaaDoorNoi
namespace Go.Proofs.YthdobfifpkpbnaaDoor
open Go.Gv

theorem nBad_eq (x y z : Int) : nBad x y z = nBadR x y z := by
  unfold nBad nBadR rea
  have f : ∀ n : Int, decide (n ≥ -1073741824) = !decide (n < -1073741824) ∧ decide (n ≤ 1073741824) = !decide (n > 1073741824) := fun n => by
    by_cases h1 : n < -1073741824 <;> by_cases h2 : n > 1073741824 <;> simp [h1, h2] <;> omega
  rw [(f x).1, (f x).2, (f y).1, (f y).2, (f z).1, (f z).2]
  cases decide (x < -1073741824) <;> cases decide (x > 1073741824) <;> cases decide (y < -1073741824) <;> cases decide (y > 1073741824) <;> cases decide (z < -1073741824) <;> cases decide (z > 1073741824) <;> rfl
theorem rea_rng {n : Int} (h : rea n = true) : -1073741824 ≤ n ∧ n ≤ 1073741824 := by
  unfold rea at h
  by_cases h1 : n ≥ -1073741824 <;> by_cases h2 : n ≤ 1073741824 <;> simp [h1, h2] at h
  exact ⟨h1, h2⟩
theorem tmod_neg {n m : Int} (h : n < 0) : n.tmod m = -((-n) % m) ∧ n.tdiv m = -((-n) / m) := by
  have e : n = -(-n) := by omega
  constructor
  · rw [e, Int.neg_tmod, Int.tmod_eq_emod_of_nonneg (by omega)]; simp
  · rw [e, Int.neg_tdiv, Int.tdiv_eq_ediv_of_nonneg (by omega)]; simp
theorem ce_fl {n : Int} (h : rea n = true) : ceQ n = flQ n 256 ∧ ceR n = flR n 256 := by
  obtain ⟨h0, h1⟩ := rea_rng h
  unfold ceQ ceR flQ flR
  by_cases hn : n < 0
  · obtain ⟨e1, e2⟩ := tmod_neg (m := 256) hn
    rw [e1, e2]
    rw [w64_id (n := -(-n % 256) + 256) (by omega) (by omega), w64_id (n := -(-n / 256)) (by omega) (by omega)]
    have e3 : (-(-n % 256) + 256).tmod 256 = (-(-n % 256) + 256) % 256 := Int.tmod_eq_emod_of_nonneg (by omega)
    rw [e3]
    have hr : 0 ≤ (-(-n % 256) + 256) % 256 ∧ (-(-n % 256) + 256) % 256 < 256 := by omega
    rw [w64_id (n := n - (-(-n % 256) + 256) % 256) (by omega) (by omega)]
    have e4 : (n - (-(-n % 256) + 256) % 256).tdiv 256 = -((-(n - (-(-n % 256) + 256) % 256)) / 256) := (tmod_neg (m := 256) (by omega)).2
    rw [e4]
    by_cases hz : -(-n % 256) < 0
    · rw [decide_eq_true hz]
      simp only [cond_true]
      rw [w64_id (n := -((-(n - (-(-n % 256) + 256) % 256)) / 256)) (by omega) (by omega), w64_id (n := -(-n / 256) - 1) (by omega) (by omega)]
      omega
    · rw [decide_eq_false hz]
      simp only [cond_false]
      rw [w64_id (n := -((-(n - (-(-n % 256) + 256) % 256)) / 256)) (by omega) (by omega)]
      omega
  · have e1 : n.tmod 256 = n % 256 := Int.tmod_eq_emod_of_nonneg (by omega)
    have e2 : n.tdiv 256 = n / 256 := Int.tdiv_eq_ediv_of_nonneg (by omega)
    rw [e1, e2, w64_id (n := n % 256 + 256) (by omega) (by omega), w64_id (n := n / 256) (by omega) (by omega)]
    have e3 : (n % 256 + 256).tmod 256 = (n % 256 + 256) % 256 := Int.tmod_eq_emod_of_nonneg (by omega)
    rw [e3, w64_id (n := n - (n % 256 + 256) % 256) (by omega) (by omega)]
    have e4 : (n - (n % 256 + 256) % 256).tdiv 256 = (n - (n % 256 + 256) % 256) / 256 := Int.tdiv_eq_ediv_of_nonneg (by omega)
    rw [e4, decide_eq_false (show ¬ n % 256 < 0 by omega), w64_id (n := (n - (n % 256 + 256) % 256) / 256) (by omega) (by omega)]
    simp only [cond_false]
    omega
end Go.Proofs.YthdobfifpkpbnaaDoor
