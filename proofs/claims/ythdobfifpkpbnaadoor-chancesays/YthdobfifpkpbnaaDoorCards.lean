/-
  DERIVED. GIVEN WITH THE SEED: THE CARDS: each row of YthdobfifpkpbnaaDoorRows.lean that lists a variable, with what it lists TIED to the program's text (the seventh form; the later family's looks); each row that meets fmt, with fmt's text TOLD by the authors' own Lean function (tested against real Go, not proved from fmt's source: count such statements apart). THE CARD IS WHAT COUNTS. Prove the row's statement (the work); the ties are given (YthdobfifpkpbnaaDoorTie.lean); close each card by the builder's one call (the guide's Derived/Test/ToyasCard.lean, 'card_holds'). Laid BY PROGRAM, IN A SANDBOX (cutbox-door.mjs). By AI agents, Wed Nov 11 2026. No macro, syntax, notation, axiom, sorry.
-/
import Derived.Test.YthdobfifpkpbnaaDoorRows
import GoSem.ClaimSeven
namespace Go.Proofs.YthdobfifpkpbnaaDoor
namespace Rows

/-- THE TIED CARD OF 'rayhouselaw.ChanceSays'. -/
def chanceSaysCard : Claim7 := { stood := { row := chanceSaysRow, standIns := [], harness := (true, "7ed0ca4e2262ce8c3bc8d1b1b8a9e32752a28004ba4f23026550693d5bd1a2e9"), looks := false }, kinds := [], alts := [], laidByText := true, laidKinds := [.data, .data], laidTests := true, laidLooks := .later }
def ChanceSaysCardSaid : Prop := Claim7.holds Tryd.pinned (.plain (OpenSpec.ofChange chanceSaysSpec)) chanceSaysCard

/-- THE SECOND FORM's CARD OF 'rayhouselaw.ChanceSays'. -/
def chanceSaysUptoCard : Claim7 := { stood := { row := chanceSaysUptoRow, standIns := [], harness := (true, "7ed0ca4e2262ce8c3bc8d1b1b8a9e32752a28004ba4f23026550693d5bd1a2e9"), looks := false }, kinds := [], alts := [], laidByText := true, laidKinds := [.data, .data], laidTests := true, laidLooks := .later }
def ChanceSaysUptoCardSaid : Prop := Claim7.holds Tryd.pinned (.plain (OpenSpec.upto chanceSaysSpec)) chanceSaysUptoCard
end Rows
end Go.Proofs.YthdobfifpkpbnaaDoor
