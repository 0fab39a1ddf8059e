/-
  DERIVED. GIVEN WITH THE SEED: THE CARDS: each row of YtefphimaggjihaaGreatDoorRows.lean that lists a variable, with what it lists TIED to the program's text (the seventh form; the later family's looks); each row that meets fmt, with fmt's text TOLD by the authors' own Lean function (tested against real Go, not proved from fmt's source: count such statements apart). THE CARD IS WHAT COUNTS. Prove the row's statement (the work); the ties are given (YtefphimaggjihaaGreatDoorTie.lean); close each card by the builder's one call (the guide's Derived/Test/ToyasCard.lean, 'card_holds'). Laid BY PROGRAM, IN A SANDBOX (cutbox-door.mjs). By AI agents, Wed Nov 11 2026. No macro, syntax, notation, axiom, sorry.
-/
import Derived.Test.YtefphimaggjihaaGreatDoorRows
import GoSem.ClaimSeven
namespace Go.Proofs.YtefphimaggjihaaGreatDoor
namespace Rows

/-- THE TIED CARD OF 'rayhouselaw.SceneBack'. -/
def sceneBackCard : Claim7 := { stood := { row := sceneBackRow, standIns := [], harness := (true, "078536f449872d0937874711a6aa9250a3379ebe1ebb7eb31cd5eb94894abaec"), looks := true }, kinds := [], alts := [], laidByText := true, laidKinds := [.data, .data, .data, .data, .data, .pinned], laidTests := true, laidLooks := .later }
def SceneBackCardSaid : Prop := Claim7.holds Tryz.pinned (.plain (OpenSpec.ofChange sceneBackSpec)) sceneBackCard

end Rows
end Go.Proofs.YtefphimaggjihaaGreatDoor
