/-
  Where a ray meets a box: the contract of Meets.
-/
import Derived.Test.YtnlfeocapnefeabSlab
namespace Go.Proofs.Ytnlfeocapnefeab
open Go.Ev

theorem smeets [Tok] (b r : Nat → Nat) : FSpec Try.prog 21 [] [BX b, RY r] (meetV b r) := by
  refine sp2 S3_ok SM_ok Try.func21 (by kernel_rfl) rfl ?_
  have h : ev2 Try.prog S3 SM Try.f21 [BX b, RY r] = cond (badS b r) (some (.tuple #[F 0, F 0, B false])) (cond (missS b r) (some (.tuple #[F 0, F 0, B false])) (some (.tuple #[F (m3N b r), F (m3F b r), B true]))) := by kernel_rfl
  rw [h]
  unfold meetV meetN meetF meetK
  cases badS b r <;> cases missS b r <;> rfl
def S4 : List Entry := (21, pe (eBY0 meetV)) :: S3
theorem S4_ok [Tok] : ∀ e, e ∈ S4 → EOk Try.prog e := all_cons (eBY_ok smeets) S3_ok

end Go.Proofs.Ytnlfeocapnefeab
