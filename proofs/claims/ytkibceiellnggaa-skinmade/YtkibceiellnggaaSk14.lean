/-
  The answer: a picture of half the sides: the two inner loops.
-/
import Derived.Test.YtkibceiellnggaaSk13
namespace Go.Proofs.Ytkibceiellnggaa
open Go.Gv

theorem riX_eq {p : Pic} {wd ht : Nat} (h : PG p wd ht) {i j k : Nat} (hi : i < wd) (hj : j < ht) (hk : k < 4) : riX p (k : Nat) (j : Nat) (i : Nat) = (((j * wd + i) * 4 + k : Nat) : Int) ∧ (j * wd + i) * 4 + k < p.n := by
  have hlt := h.at_lt hi hj hk
  have hn := h.n_le
  refine ⟨?_, hlt⟩
  unfold riX
  rw [h.W]
  have e1 : (j : Int) * (wd : Int) = ((j * wd : Nat) : Int) := by rw [Int.natCast_mul]
  rw [e1, w64_id (n := ((j * wd : Nat) : Int)) (by omega) (by omega), w64_id (n := ((j * wd : Nat) : Int) + _) (by omega) (by omega), w64_id (n := 4 * _) (by omega) (by omega), w64_id (by omega) (by omega)]
  omega
theorem riT_in {p : Pic} {wd ht : Nat} (h : PG p wd ht) {X i : Nat} (hX : 2 * X < wd) : riT p (X : Nat) (i : Nat) = decide (i < 2 * X + min 2 (wd - 2 * X)) := by
  have hw := h.w64
  unfold riT
  rw [w64_id (n := 2 * ((X : Nat) : Int)) (by omega) (by omega), w64_id (by omega) (by omega), h.W]
  by_cases h1 : ((i : Nat) : Int) < 2 * ((X : Nat) : Int) + 2
  · rw [decide_eq_true h1, cond_true]
    exact decide_eq_decide.2 (by omega)
  · rw [decide_eq_false h1, cond_false, decide_eq_false (by omega)]
theorem ri_leads {p : Pic} {wd ht : Nat} (h : PG p wd ht) {X j k n0 : Nat} (W' H' y sum : Int) (m : Nat) (el : Nat → List AV) (hX : 2 * X < wd) (hj : j < ht) (hk : k < 4) (hn : n0 ≤ 100) (hs : 0 ≤ sum ∧ sum ≤ 10000) :
    Leads Try.prog (.loop (loopAt Try.f12 4)) (riS p W' H' y (X : Nat) (k : Nat) sum (n0 : Nat) (j : Nat) (2 * X : Nat) m el) (.exit 8)
      (riS p W' H' y (X : Nat) (k : Nat) (sum + accX p wd (2 * X) j k (min 2 (wd - 2 * X))) (n0 + min 2 (wd - 2 * X) : Nat) (j : Nat) (2 * X + min 2 (wd - 2 * X) : Nat) m el) := by
  have hw := h.w64
  have h0 : Leads Try.prog (.loop (loopAt Try.f12 4)) (riS p W' H' y (X : Nat) (k : Nat) (sum + accX p wd (2 * X) j k 0) (n0 + 0 : Nat) (j : Nat) (2 * X + 0 : Nat) m el) (.exit 8)
      (riS p W' H' y (X : Nat) (k : Nat) (sum + accX p wd (2 * X) j k (min 2 (wd - 2 * X))) (n0 + min 2 (wd - 2 * X) : Nat) (j : Nat) (2 * X + min 2 (wd - 2 * X) : Nat) m el) := by
    refine loop_rule (fun i => riS p W' H' y (X : Nat) (k : Nat) (sum + accX p wd (2 * X) j k i) (n0 + i : Nat) (j : Nat) (2 * X + i : Nat) m el) (min 2 (wd - 2 * X)) (.exit 8) _ (by simp) (fun i hi => ?_) ?_
    · refine leads_ev (finN_sub keepRi t4) e_nil k_nil noL_ok ((ri_step p W' H' y (X : Nat) (k : Nat) _ (n0 + i : Nat) (j : Nat) (2 * X + i : Nat) m el).trans ?_)
      obtain ⟨q1, q2⟩ := riX_eq h (i := 2 * X + i) (j := j) (k := k) (by omega) hj hk
      have hp := h.px _ q2
      have r := accX_rng h (x := 2 * X) hj hk i (by omega)
      rw [riT_in h hX, decide_eq_true (show 2 * X + i < 2 * X + min 2 (wd - 2 * X) by omega), q1, Int.toNat_natCast, dec_nonneg, dec_lt q2, w64_next (n := n0 + i) (by omega), w64_next (n := 2 * X + i) (by omega), w64_id (n := p.px _) (by omega) (by omega), w64_id (by omega) (by omega), Int.add_assoc]
      rfl
    · refine leads_ev (finX_sub keepRi t4) e_nil k_nil noL_ok ((ri_end p W' H' y (X : Nat) (k : Nat) _ _ (j : Nat) (2 * X + min 2 (wd - 2 * X) : Nat) m el).trans ?_)
      rw [riT_in h hX, decide_eq_false (Nat.lt_irrefl _), cond_false]
  simpa [accX] using h0
def rjS (p : Pic) (W' H' y x k sum n j : Int) (m : Nat) (el : Nat → List AV) : St := mkS 106 [(1, .own 0 0), (2, .own 1 0), (5, .own 2 0), (6, iA y), (7, iA x), (8, iA k), (9, iA sum), (10, iA n), (11, iA j)] (rhR p W' H' m el)
def keepRj : List Nat := [1, 2, 5, 6, 7, 8, 9, 10, 11]
noncomputable def rjL (p : Pic) (W' H' y x k sum n j sum' n' i' : Int) (m : Nat) (el : Nat → List AV) : Nat → Option LFun := oneL 20 (toldF keepRi t4 (riS p W' H' y x k sum n j (w64 (2 * x)) m el) (.exit 8) (riS p W' H' y x k sum' n' j i' m el))
section
variable (p : Pic) (W' H' y x k sum n j sum' n' i' : Int) (m : Nat) (el : Nat → List AV)
def rjT : Bool := cond (decide (j < w64 (w64 (2 * y) + 2))) (decide (j < p.H)) false
theorem rj_step : evC Try.prog [] [] (rjL p W' H' y x k sum n j sum' n' i' m el) (loopAt Try.f12 3) (rjS p W' H' y x k sum n j m el) (finN keepRj t4) =
    cond (rjT p y j) (gate (Sub (riS p W' H' y x k sum n j (w64 (2 * x)) m el) (riS p W' H' y x k sum n j (w64 (2 * x)) m el)) (some ⟨.normal, rjS p W' H' y x k sum' n' (w64 (j + 1)) m el, .any⟩)) none := by kernel_rfl
theorem rj_end : evC Try.prog [] [] (oneL 20 fun _ _ => none) (loopAt Try.f12 3) (rjS p W' H' y x k sum n j m el) (finX keepRj t4) =
    cond (rjT p y j) none (some ⟨.exit 6, rjS p W' H' y x k sum n j m el, .any⟩) := by kernel_rfl
end
theorem rjT_in {p : Pic} {wd ht : Nat} (h : PG p wd ht) {Y j : Nat} (hY : 2 * Y < ht) : rjT p (Y : Nat) (j : Nat) = decide (j < 2 * Y + min 2 (ht - 2 * Y)) := by
  have hh := h.h64
  unfold rjT
  rw [w64_id (n := 2 * ((Y : Nat) : Int)) (by omega) (by omega), w64_id (by omega) (by omega), h.H]
  by_cases h1 : ((j : Nat) : Int) < 2 * ((Y : Nat) : Int) + 2
  · rw [decide_eq_true h1, cond_true]
    exact decide_eq_decide.2 (by omega)
  · rw [decide_eq_false h1, cond_false, decide_eq_false (by omega)]
theorem rj_leads {p : Pic} {wd ht : Nat} (h : PG p wd ht) {X Y k : Nat} (W' H' : Int) (m : Nat) (el : Nat → List AV) (hX : 2 * X < wd) (hY : 2 * Y < ht) (hk : k < 4) :
    Leads Try.prog (.loop (loopAt Try.f12 3)) (rjS p W' H' (Y : Nat) (X : Nat) (k : Nat) 0 0 (2 * Y : Nat) m el) (.exit 6)
      (rjS p W' H' (Y : Nat) (X : Nat) (k : Nat) (accY p wd (2 * X) (2 * Y) (min 2 (wd - 2 * X)) k (min 2 (ht - 2 * Y))) (min 2 (ht - 2 * Y) * min 2 (wd - 2 * X) : Nat) (2 * Y + min 2 (ht - 2 * Y) : Nat) m el) := by
  have hw := h.w64; have hh := h.h64
  have ex : w64 (2 * ((X : Nat) : Int)) = ((2 * X : Nat) : Int) := by rw [w64_id (by omega) (by omega)]; omega
  have h0 : Leads Try.prog (.loop (loopAt Try.f12 3)) (rjS p W' H' (Y : Nat) (X : Nat) (k : Nat) (accY p wd (2 * X) (2 * Y) (min 2 (wd - 2 * X)) k 0) (0 * min 2 (wd - 2 * X) : Nat) (2 * Y + 0 : Nat) m el) (.exit 6)
      (rjS p W' H' (Y : Nat) (X : Nat) (k : Nat) (accY p wd (2 * X) (2 * Y) (min 2 (wd - 2 * X)) k (min 2 (ht - 2 * Y))) (min 2 (ht - 2 * Y) * min 2 (wd - 2 * X) : Nat) (2 * Y + min 2 (ht - 2 * Y) : Nat) m el) := by
    refine loop_rule (fun i => rjS p W' H' (Y : Nat) (X : Nat) (k : Nat) (accY p wd (2 * X) (2 * Y) (min 2 (wd - 2 * X)) k i) (i * min 2 (wd - 2 * X) : Nat) (2 * Y + i : Nat) m el) (min 2 (ht - 2 * Y)) (.exit 6) _ (by simp) (fun i hi => ?_) ?_
    · have hin : i * min 2 (wd - 2 * X) ≤ 2 * 2 := Nat.mul_le_mul (by omega) (by omega)
      have hl := ri_leads h (X := X) (j := 2 * Y + i) (k := k) (n0 := i * min 2 (wd - 2 * X)) W' H' (Y : Nat) (accY p wd (2 * X) (2 * Y) (min 2 (wd - 2 * X)) k i) m el hX (by omega) hk (by omega) (by
        have := accY_rng h (x := 2 * X) (y := 2 * Y) (nx := min 2 (wd - 2 * X)) (k := k) (by omega) (by omega) hk i (by omega)
        omega)
      rw [← ex] at hl
      have hL : LOk Try.prog (rjL p W' H' (Y : Nat) (X : Nat) (k : Nat) (accY p wd (2 * X) (2 * Y) (min 2 (wd - 2 * X)) k i) (i * min 2 (wd - 2 * X) : Nat) (2 * Y + i : Nat) _ _ _ m el) (loopAt Try.f12 3) :=
        lok_one (i := 20) 1 (by kernel_rfl) fun j hj _ => by
          have : j = 0 := by omega
          subst this
          exact toldF_sound hl
      refine leads_ev (finN_sub keepRj t4) e_nil k_nil hL ((rj_step p W' H' _ _ _ _ _ _ _ _ _ m el).trans ?_)
      rw [rjT_in h hY, decide_eq_true (show 2 * Y + i < 2 * Y + min 2 (ht - 2 * Y) by omega), gate_pos (Sub.refl _), w64_next (n := 2 * Y + i) (by omega), Nat.succ_mul i]
      rfl
    · refine leads_ev (finX_sub keepRj t4) e_nil k_nil (lok_none 20) ((rj_end p W' H' _ _ _ _ _ _ m el).trans ?_)
      rw [rjT_in h hY, decide_eq_false (Nat.lt_irrefl _), cond_false]
  simpa [accY] using h0
end Go.Proofs.Ytkibceiellnggaa
