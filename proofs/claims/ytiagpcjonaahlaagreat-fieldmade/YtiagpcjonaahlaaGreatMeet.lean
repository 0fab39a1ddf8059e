/-
  Where a ray meets a box: the contract of Meets.
-/
import Derived.Test.YtiagpcjonaahlaaGreatSlab
namespace Go.Proofs.YtiagpcjonaahlaaGreat
open Go.Ev

theorem smeets [Tok] (b r : Nat → Nat) : FSpec Tryz.prog 27 [] [BX b, RY r] (meetV b r) := by
  refine sp2 S3_ok SM_ok Tryz.func27 (by kernel_rfl) rfl ?_
  have h : ev2 Tryz.prog S3 SM Tryz.f27 [BX b, RY r] = cond (badS b r) (some (.tuple #[F 0, F 0, B false])) (cond (missS b r) (some (.tuple #[F 0, F 0, B false])) (some (.tuple #[F (m3N b r), F (m3F b r), B true]))) := by kernel_rfl
  rw [h]
  unfold meetV meetN meetF meetK
  cases badS b r <;> cases missS b r <;> rfl
def S4 : List Entry := (27, pe (eBY0 meetV)) :: S3
theorem S4_ok [Tok] : ∀ e, e ∈ S4 → EOk Tryz.prog e := all_cons (eBY_ok smeets) S3_ok

end Go.Proofs.YtiagpcjonaahlaaGreat
