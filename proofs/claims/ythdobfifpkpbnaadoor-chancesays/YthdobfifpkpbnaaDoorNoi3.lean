/-
  Noise: the contracts.
-/
import Derived.Test.YthdobfifpkpbnaaDoorNoi2
namespace Go.Proofs.YthdobfifpkpbnaaDoor
open Go.Gv

def noA (x y z : Int) : Int := cond (nBadR x y z) 0 (noiG co bl (flQ x 256) (flR x 256) (flQ y 256) (flR y 256) (flQ z 256) (flR z 256))
def noE (x y z : Int) : Int := cond (nBadR x y z) 1 0
theorem EG_ok : ∀ e, e ∈ EG co bl → EOk Tryd.prog e := e_cons (ER2_ok _ (by simp [ER2])) <| e_cons (ER2_ok _ (by simp [ER2])) e_nil
theorem flGG_eq : flGG flQ flR = flG := by
  funext l
  unfold flGG flG
  rfl
theorem noiR_e1 (x y z : Int) : ev Tryd.prog (EG co bl) [kIf 19 flC flG] noL Tryd.f11 [iA x, iA y, iA z] ret = cond (nBadR x y z) (some (Out.of (.tup [iA 0, iA 1]))) (some (Out.of (.tup [iA (noiG co bl (flQ x 256) (flR x 256) (flQ y 256) (flR y 256) (flQ z 256) (flR z 256)), iA 0]))) := by
  rw [← flGG_eq]
  exact noiR_ev co bl flQ flR x y z
theorem no_e2 (x y z : Int) : cond (nBadR x y z) (some (Out.of (.tup [iA 0, iA 1]))) (some (Out.of (.tup [iA (noiG co bl (flQ x 256) (flR x 256) (flQ y 256) (flR y 256) (flQ z 256) (flR z 256)), iA 0]))) = some (Out.of (.tup [iA (noA x y z), iA (noE x y z)])) := by
  cases h : nBadR x y z
  · have e1 : noA x y z = noiG co bl (flQ x 256) (flR x 256) (flQ y 256) (flR y 256) (flQ z 256) (flR z 256) := by unfold noA; rw [h]; exact cond_false _ _
    have e2 : noE x y z = 0 := by unfold noE; rw [h]; exact cond_false _ _
    rw [e1, e2]; exact cond_false _ _
  · have e1 : noA x y z = 0 := by unfold noA; rw [h]; exact cond_true _ _
    have e2 : noE x y z = 1 := by unfold noE; rw [h]; exact cond_true _ _
    rw [e1, e2]; exact cond_true _ _
theorem noiR_spec (x y z : Int) : FSpec Tryd.prog 11 [iA x, iA y, iA z] (.tup [iA (noA x y z), iA (noE x y z)]) :=
  gspec EG_ok (k_cons kFl_ok k_nil) Tryd.func11 (by kernel_rfl) (by kernel_rfl) noL_ok rfl ((noiR_e1 x y z).trans (no_e2 x y z))
theorem noi_eq (i u j v k w : Int) : noi i u j v k w = noiG co bl i u j v k w := by unfold noi noiG plane planeG rw_ rwG; rfl
theorem no_e3 (x y z : Int) : cond (nBad x y z) (some (Out.of (.tup [iA 0, iA 1]))) (some (Out.of (.tup [iA (noi (ceQ x) (ceR x) (ceQ y) (ceR y) (ceQ z) (ceR z)), iA 0]))) = cond (nBadR x y z) (some (Out.of (.tup [iA 0, iA 1]))) (some (Out.of (.tup [iA (noiG co bl (flQ x 256) (flR x 256) (flQ y 256) (flR y 256) (flQ z 256) (flR z 256)), iA 0]))) := by
  cases h : nBad x y z
  · have h' : nBadR x y z = false := by rw [← nBad_eq]; exact h
    have hx : rea x = true ∧ rea y = true ∧ rea z = true := by
      unfold nBad at h
      cases h1 : rea x <;> cases h2 : rea y <;> cases h3 : rea z <;> simp [h1, h2, h3] at h
      exact ⟨rfl, rfl, rfl⟩
    have e : noi (ceQ x) (ceR x) (ceQ y) (ceR y) (ceQ z) (ceR z) = noiG co bl (flQ x 256) (flR x 256) (flQ y 256) (flR y 256) (flQ z 256) (flR z 256) := by
      rw [noi_eq, (ce_fl hx.1).1, (ce_fl hx.1).2, (ce_fl hx.2.1).1, (ce_fl hx.2.1).2, (ce_fl hx.2.2).1, (ce_fl hx.2.2).2]
    rw [h', e]
  · have h' : nBadR x y z = true := by rw [← nBad_eq]; exact h
    rw [h', cond_true, cond_true]
theorem noiC_spec (x y z : Int) : FSpec Tryd.prog 10 [iA x, iA y, iA z] (.tup [iA (noA x y z), iA (noE x y z)]) :=
  gspec EC3_ok k_nil Tryd.func10 (by kernel_rfl) (by kernel_rfl) noL_ok rfl ((noiC_ev x y z).trans ((no_e3 x y z).trans (no_e2 x y z)))
end Go.Proofs.YthdobfifpkpbnaaDoor
