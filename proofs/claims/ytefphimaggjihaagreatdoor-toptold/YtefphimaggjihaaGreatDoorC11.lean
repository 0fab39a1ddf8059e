/-
  Contracts that ask something of their arguments; several loops told at once.
-/
import Derived.Test.YtefphimaggjihaaGreatDoorC8
namespace Go.Gv
open Go.RowKit Go.Ev
noncomputable section

/-- Where a loop is left by its exit. -/
def finE (keep : List Nat) (τ : List (Option Nat)) : Kont := fun e s => match e with
  | .exit i => finF keep τ (.exit i) s
  | _ => none
theorem finE_sub (keep : List Nat) (τ : List (Option Nat)) : KSub (finE keep τ) := fun e s o h => by
  unfold finE at h
  cases e <;> simp only at h <;> first | (cases h; done) | exact finF_sub keep τ _ s o h
end
end Go.Gv
