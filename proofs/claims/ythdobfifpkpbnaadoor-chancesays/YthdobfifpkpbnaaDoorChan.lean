/-
  The law ChanceSays returns true for every nine numbers: package chance answers as the document's answer does. The variables that stir hold what the program's text lays.
-/
import Derived.Test.YthdobfifpkpbnaaDoorShot
import Derived.Test.YthdobfifpkpbnaaDoorCards
import Derived.Test.YthdobfifpkpbnaaDoorTie
import Derived.ProofKit
import Derived.OpenShut
import Derived.Deep.DeepHandedRow
import Derived.Lib.LaidTab
namespace Go.Proofs.YthdobfifpkpbnaaDoor
open Go.Gv Go.RowKit Go.ChangeShapes Go.WideShapes Go.ChangeAt
open Go.Ev (law_post)

theorem mv_spec {b k h : Int} (hb : (!mBad b k) = true) : FSpec Tryd.prog 14 [iA b, iA k, uA h] (iA (mvG mA mB b k h)) := by
  have hbad : mBad b k = false := by simpa using hb
  obtain ⟨b', n', rfl, rfl, h1, h2, h3⟩ := mGood hbad
  have hp : 0 < b' ^ dgs b' 24 n' := Nat.pow_pos (by omega)
  have e2 : mB b' n' = (b' ^ dgs b' 24 n' : Nat) := by simp only [mB, hbad, Int.toNat_natCast, cond_false]
  have hne : (!(mB b' n' == 0)) = true := by rw [e2]; exact nat_ne hp
  refine gspec e_nil (k_cons kMi_ok k_nil) Tryd.func14 (by kernel_rfl) (by kernel_rfl) noL_ok rfl ((mv_ev mA mB b' n' h).trans ?_)
  rw [hb, hne, Bool.and_true, cond_true, cond_true]
theorem kMv_ok : KOk Tryd.prog (kIf 14 mvC (mvV mA mB)) := kIf_ok fun args h => by
  unfold mvC at h
  split at h
  · exact mv_spec h
  · cases h
theorem sBad_eq (x y k : Int) : sBad x y k = sBadR x y k := by
  unfold sBad sBadR wi
  have f : ∀ n m : Int, decide (n ≥ 0) = !decide (n < 0) ∧ decide (n < m) = !decide (n ≥ m) := fun n m => by
    by_cases h1 : n < 0 <;> by_cases h2 : n ≥ m <;> simp [h1, h2] <;> omega
  rw [(f x 64).1, (f x 64).2, (f y 64).1, (f y 64).2, (f k 16).1, (f k 16).2]
  cases decide (x < 0) <;> cases decide (x ≥ 64) <;> cases decide (y < 0) <;> cases decide (y ≥ 64) <;> cases decide (k < 0) <;> cases decide (k ≥ 16) <;> rfl
def sA (x y k : Int) : Int := cond (sBadR x y k) 0 (mvG mA mB 2 k ((mixR (u32 x) (u32 y) 77).tmod 65536))
def sB (x y k : Int) : Int := cond (sBadR x y k) 0 (mvG mA mB 3 k (qu (mixR (u32 x) (u32 y) 77) 65536))
def sE (x y k : Int) : Int := cond (sBadR x y k) 6 0
theorem s_good {x y k : Int} (h : sBadR x y k = false) : (!mBad 2 k) = true ∧ (!mBad 3 k) = true ∧ (!(mB 2 k == 0)) = true ∧ (!(mB 3 k == 0)) = true := by
  have hk : 0 ≤ k ∧ k < 16 := by
    unfold sBadR at h
    by_cases h1 : k < 0 <;> by_cases h2 : k ≥ 16 <;> simp [h1, h2] at h
    omega
  have g : ∀ b : Int, 2 ≤ b → b ≤ 3 → mBad b k = false := fun b hb hb' => by
    unfold mBad
    rw [decide_eq_false (show ¬ b < 2 by omega), decide_eq_false (show ¬ b > 16 by omega), decide_eq_false (show ¬ k < 0 by omega), decide_eq_false (show ¬ k ≥ 16777216 by omega)]
    rfl
  have g2 : ∀ b : Int, 2 ≤ b → b ≤ 3 → (!(mB b k == 0)) = true := fun b hb hb' => by
    have hbad := g b hb hb'
    obtain ⟨b', n', rfl, rfl, h1, h2, h3⟩ := mGood hbad
    have hp : 0 < b' ^ dgs b' 24 n' := Nat.pow_pos (by omega)
    have e2 : mB b' n' = (b' ^ dgs b' 24 n' : Nat) := by simp only [mB, hbad, Int.toNat_natCast, cond_false]
    rw [e2]; exact nat_ne hp
  exact ⟨by rw [g 2 (by omega) (by omega)]; rfl, by rw [g 3 (by omega) (by omega)]; rfl, g2 2 (by omega) (by omega), g2 3 (by omega) (by omega)⟩
theorem s_e1 {x y k : Int} (h : sBadR x y k = false) : sA x y k = mvG mA mB 2 k ((mixR (u32 x) (u32 y) 77).tmod 65536) ∧ sB x y k = mvG mA mB 3 k (qu (mixR (u32 x) (u32 y) 77) 65536) ∧ sE x y k = 0 := by
  unfold sA sB sE
  rw [h]
  exact ⟨cond_false _ _, cond_false _ _, cond_false _ _⟩
theorem s_e2 {x y k : Int} (h : sBadR x y k = true) : sA x y k = 0 ∧ sB x y k = 0 ∧ sE x y k = 6 := by
  unfold sA sB sE
  rw [h]
  exact ⟨cond_true _ _, cond_true _ _, cond_true _ _⟩
theorem EGR_ok : ∀ e, e ∈ EGR mA mB mE mixR → EOk Tryd.prog e := e_cons (g3u_ok mixR_spec) <| e_cons (g2i_ok mr_spec) e_nil
theorem EGC_ok : ∀ e, e ∈ EGC mixR → EOk Tryd.prog e := e_cons (g3u_ok mixC_spec) <| e_cons (g2i_ok fun n m => gspec e_nil k_nil Tryd.func13 (by kernel_rfl) (by kernel_rfl) noL_ok rfl (wi_ev n m)) e_nil
theorem shR_spec (x y k : Int) : FSpec Tryd.prog 9 [iA x, iA y, iA k] (.tup [iA (sA x y k), iA (sB x y k), iA (sE x y k)]) := by
  refine gspec EGR_ok k_nil Tryd.func9 (by kernel_rfl) (by kernel_rfl) noL_ok rfl ((shR_ev mA mB mE mixR x y k).trans ?_)
  cases h : sBadR x y k
  · obtain ⟨_, _, h3, h4⟩ := s_good h
    obtain ⟨e1, e2, e3⟩ := s_e1 h
    rw [e1, e2, e3, h3, h4, Bool.and_true, cond_false, cond_true, cond_true]
  · obtain ⟨e1, e2, e3⟩ := s_e2 h
    rw [e1, e2, e3, cond_true]
theorem shC_spec (x y k : Int) : FSpec Tryd.prog 8 [iA x, iA y, iA k] (.tup [iA (sA x y k), iA (sB x y k), iA (sE x y k)]) := by
  refine gspec EGC_ok (k_cons kMv_ok k_nil) Tryd.func8 (by kernel_rfl) (by kernel_rfl) noL_ok rfl ((shC_ev mA mB mixR x y k).trans ?_)
  rw [sBad_eq]
  cases h : sBadR x y k
  · obtain ⟨h1, h2, _, _⟩ := s_good h
    obtain ⟨e1, e2, e3⟩ := s_e1 h
    rw [e1, e2, e3, h1, h2, cond_false, cond_true, cond_true]
  · obtain ⟨e1, e2, e3⟩ := s_e2 h
    rw [e1, e2, e3, cond_true]
/-! ### The law -/
section
variable (mx sa sb se na ne : Int → Int → Int → Int) (fa fb fe : Int → Int → Int)
def EL : List Entry := [⟨4, g2i fun b n => .tup [iA (fa b n), iA (fb b n), iA (fe b n)]⟩, ⟨5, g2i fun b n => .tup [iA (fa b n), iA (fb b n), iA (fe b n)]⟩,
  ⟨6, g3u fun a b c => uA (mx a b c)⟩, ⟨7, g3u fun a b c => uA (mx a b c)⟩, ⟨8, g3i fun x y k => .tup [iA (sa x y k), iA (sb x y k), iA (se x y k)]⟩, ⟨9, g3i fun x y k => .tup [iA (sa x y k), iA (sb x y k), iA (se x y k)]⟩,
  ⟨10, g3i fun x y z => .tup [iA (na x y z), iA (ne x y z)]⟩, ⟨11, g3i fun x y z => .tup [iA (na x y z), iA (ne x y z)]⟩]
theorem law_ev (a b c base n x y k z : Int) : ev Tryd.prog (EL mx sa sb se na ne fa fb fe) [] noL Tryd.f3 [uA a, uA b, uA c, iA base, iA n, iA x, iA y, iA k, iA z] ret =
    cond (cond (cond (cond (!(mx a b c == mx a b c)) true (!(fa base n == fa base n))) true (!(fb base n == fb base n))) true (!(fe base n == fe base n))) (some (Out.of (bA false)))
      (cond (cond (cond (!(sa x y k == sa x y k)) true (!(sb x y k == sb x y k))) true (!(se x y k == se x y k))) (some (Out.of (bA false)))
        (some (Out.of (bA (cond (na x y z == na x y z) (ne x y z == ne x y z) false))))) := by kernel_rfl
theorem law_ev2 (a b c base n x y k z : Int) : ev Tryd.prog (EL mx sa sb se na ne fa fb fe) [] noL Tryd.f3 [uA a, uA b, uA c, iA base, iA n, iA x, iA y, iA k, iA z] ret = some (Out.of (bA true)) := by
  rw [law_ev]
  simp only [BEq.rfl, Bool.not_true, cond_false, cond_true]
end
theorem EL_ok : ∀ e, e ∈ EL mixR sA sB sE noA noE mA mB mE → EOk Tryd.prog e :=
  e_cons (g2i_ok Mir_spec) <| e_cons (g2i_ok mr_spec) <| e_cons (g3u_ok mixC_spec) <| e_cons (g3u_ok mixR_spec) <| e_cons (g3i_ok shC_spec) <| e_cons (g3i_ok shR_spec) <| e_cons (g3i_ok noiC_spec) <| e_cons (g3i_ok noiR_spec) e_nil
theorem law_all (a b c base n x y k z : Int) : FSpec Tryd.prog 3 [uA a, uA b, uA c, iA base, iA n, iA x, iA y, iA k, iA z] (bA true) :=
  gspec EL_ok k_nil Tryd.func3 (by kernel_rfl) (by kernel_rfl) noL_ok rfl (law_ev2 _ _ _ _ _ _ _ _ _ a b c base n x y k z)
end Go.Proofs.YthdobfifpkpbnaaDoor
