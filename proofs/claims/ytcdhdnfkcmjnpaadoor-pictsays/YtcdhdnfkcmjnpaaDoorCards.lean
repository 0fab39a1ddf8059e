/-
  DERIVED. GIVEN WITH THE SEED: THE CARDS: each row of YtcdhdnfkcmjnpaaDoorRows.lean that lists a variable, with what it lists TIED to the program's text (the seventh form; the later family's looks); each row that meets fmt, with fmt's text TOLD by the authors' own Lean function (tested against real Go, not proved from fmt's source: count such statements apart). THE CARD IS WHAT COUNTS. Prove the row's statement (the work); the ties are given (YtcdhdnfkcmjnpaaDoorTie.lean); close each card by the builder's one call (the guide's Derived/Test/ToyasCard.lean, 'card_holds'). Laid BY PROGRAM, IN A SANDBOX (cutbox-door.mjs). By AI agents, Wed Nov 11 2026. No macro, syntax, notation, axiom, sorry.
-/
import Derived.Test.YtcdhdnfkcmjnpaaDoorRows
import GoSem.ClaimSeven
namespace Go.Proofs.YtcdhdnfkcmjnpaaDoor
namespace Rows

/-- THE TIED CARD OF 'rayhouselaw.PictSays'. -/
def pictSaysCard : Claim7 := { stood := { row := pictSaysRow, standIns := [], harness := (true, "e3880a7e58437b8d3472d9f24bd035a957c7f019e06db8f7c77bdb48b64897e0"), looks := false }, kinds := [], alts := [], laidByText := true, laidKinds := [.data, .data, .data, .data, .pinned], laidTests := true, laidLooks := .later }
def PictSaysCardSaid : Prop := Claim7.holds Tryd.pinned (.plain (OpenSpec.ofChange pictSaysSpec)) pictSaysCard

end Rows
end Go.Proofs.YtcdhdnfkcmjnpaaDoor
