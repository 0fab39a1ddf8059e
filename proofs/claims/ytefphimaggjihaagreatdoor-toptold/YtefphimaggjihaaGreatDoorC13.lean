/-
  Calls that hand back what is new: rows that are lent to them, and slices in what they give; a new row that is ours.
-/
import Derived.Test.YtefphimaggjihaaGreatDoorC12
namespace Go.Gv
open Go.RowKit Go.Ev
noncomputable section

/-- What is handed back points at nothing that was there. -/
def FreshSpec (P : Program) (f : Nat) (args : List AV) (r : AV) : Prop :=
  Entered P f ∧ ∀ (w : World) (cargs : Array Value), rels ⟨w, fun _ => False, fun _ => none⟩ args cargs.toList → glob ⟨w, fun _ => False, fun _ => none⟩ →
    Calls P f cargs w fun e w' => ∃ v, e = .returned v ∧ rel ⟨w', fun b => b < w.heap.size, fun _ => none⟩ r v ∧ Below w.heap.size w w'
theorem FreshSpec.of_res {P : Program} {f : Nat} {args : List AV} {r r' : AV} (h : FreshSpec P f args r) (hr : ∀ (E : Env) (v : Value), rel E r v → rel E r' v) : FreshSpec P f args r' :=
  ⟨h.1, fun w cargs ha hg => (h.2 w cargs ha hg).mono fun _ _ ⟨v, h1, h2, h3⟩ => ⟨v, h1, hr _ _ h2, h3⟩⟩
section
variable {A0 R : Nat → Prop} {w0 E : Env} {mem : List Row}
end
end
end Go.Gv
