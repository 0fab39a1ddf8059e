/-
  DERIVED. GIVEN WITH THE SEED: THE CARDS: each row of YtefphimaggjihaaGreatDoorRows.lean that lists a variable, with what it lists TIED to the program's text (the seventh form; the later family's looks); each row that meets fmt, with fmt's text TOLD by the authors' own Lean function (tested against real Go, not proved from fmt's source: count such statements apart). THE CARD IS WHAT COUNTS. Prove the row's statement (the work); the ties are given (YtefphimaggjihaaGreatDoorTie.lean); close each card by the builder's one call (the guide's Derived/Test/ToyasCard.lean, 'card_holds'). Laid BY PROGRAM, IN A SANDBOX (cutbox-door.mjs). By AI agents, Wed Nov 11 2026. No macro, syntax, notation, axiom, sorry.
-/
import Derived.Test.YtefphimaggjihaaGreatDoorRows
import GoSem.ClaimSeven
namespace Go.Proofs.YtefphimaggjihaaGreatDoor
namespace Rows

end Rows
end Go.Proofs.YtefphimaggjihaaGreatDoor

