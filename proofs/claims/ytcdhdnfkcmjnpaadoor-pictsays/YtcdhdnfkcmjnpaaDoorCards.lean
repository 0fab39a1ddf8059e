/-
  DERIVED. GIVEN WITH THE SEED: THE CARDS: each row of YtcdhdnfkcmjnpaaDoorRows.lean that lists a variable, with what it lists TIED to the program's text (the seventh form; the later family's looks); each row that meets fmt, with fmt's text TOLD by the authors' own Lean function (tested against real Go, not proved from fmt's source: count such statements apart). THE CARD IS WHAT COUNTS. Prove the row's statement (the work); the ties are given (YtcdhdnfkcmjnpaaDoorTie.lean); close each card by the builder's one call (the guide's Derived/Test/ToyasCard.lean, 'card_holds'). Laid BY PROGRAM, IN A SANDBOX (cutbox-door.mjs). By AI agents, Wed Nov 11 2026. No macro, syntax, notation, axiom, sorry.
-/
import Derived.Test.YtcdhdnfkcmjnpaaDoorRows
import GoSem.ClaimSeven
namespace Go.Proofs.YtcdhdnfkcmjnpaaDoor
namespace Rows

/-- THE TIED CARD OF 'rayhouselaw.PictSays'. -/
def pictSaysCard : Claim7 := { stood := { row := pictSaysRow, standIns := [], harness := (true, "e3880a7e58437b8d3472d9f24bd035a957c7f019e06db8f7c77bdb48b64897e0"), looks := false }, kinds := [], alts := [], laidByText := true, laidKinds := [.data, .data, .data, .data, .pinned], laidTests := true, laidLooks := .later }
def PictSaysCardSaid : Prop := Claim7.holds Tryd.pinned (.plain (OpenSpec.ofChange pictSaysSpec)) pictSaysCard

/-- THE TIED CARD OF 'rayhouselaw.PictMade'. -/
def pictMadeCard : Claim7 := { stood := { row := pictMadeRow, standIns := [], harness := (true, "e3880a7e58437b8d3472d9f24bd035a957c7f019e06db8f7c77bdb48b64897e0"), looks := false }, kinds := [], alts := [], laidByText := true, laidKinds := [.data, .data, .data, .data, .pinned], laidTests := true, laidLooks := .later }
def PictMadeCardSaid : Prop := Claim7.holds Tryd.pinned (.plain (OpenSpec.ofChange pictMadeSpec)) pictMadeCard

/-- THE TIED CARD OF 'rayhouselaw.PictReads'. -/
def pictReadsCard : Claim7 := { stood := { row := pictReadsRow, standIns := [], harness := (true, "e3880a7e58437b8d3472d9f24bd035a957c7f019e06db8f7c77bdb48b64897e0"), looks := false }, kinds := [], alts := [], laidByText := true, laidKinds := [.data, .pinned], laidTests := true, laidLooks := .later }
def PictReadsCardSaid : Prop := Claim7.holds Tryd.pinned (.plain (OpenSpec.ofChange pictReadsSpec)) pictReadsCard

/-- THE SECOND FORM's CARD OF 'rayhouselaw.PictSays'. -/
def pictSaysUptoCard : Claim7 := { stood := { row := pictSaysUptoRow, standIns := [], harness := (true, "e3880a7e58437b8d3472d9f24bd035a957c7f019e06db8f7c77bdb48b64897e0"), looks := false }, kinds := [], alts := [], laidByText := true, laidKinds := [.data, .data, .data, .data, .pinned], laidTests := true, laidLooks := .later }
def PictSaysUptoCardSaid : Prop := Claim7.holds Tryd.pinned (.plain (OpenSpec.upto pictSaysSpec)) pictSaysUptoCard

/-- THE SECOND FORM's CARD OF 'rayhouselaw.PictMade'. -/
def pictMadeUptoCard : Claim7 := { stood := { row := pictMadeUptoRow, standIns := [], harness := (true, "e3880a7e58437b8d3472d9f24bd035a957c7f019e06db8f7c77bdb48b64897e0"), looks := false }, kinds := [], alts := [], laidByText := true, laidKinds := [.data, .data, .data, .data, .pinned], laidTests := true, laidLooks := .later }
def PictMadeUptoCardSaid : Prop := Claim7.holds Tryd.pinned (.plain (OpenSpec.upto pictMadeSpec)) pictMadeUptoCard

/-- THE SECOND FORM's CARD OF 'rayhouselaw.PictReads'. -/
def pictReadsUptoCard : Claim7 := { stood := { row := pictReadsUptoRow, standIns := [], harness := (true, "e3880a7e58437b8d3472d9f24bd035a957c7f019e06db8f7c77bdb48b64897e0"), looks := false }, kinds := [], alts := [], laidByText := true, laidKinds := [.data, .pinned], laidTests := true, laidLooks := .later }
def PictReadsUptoCardSaid : Prop := Claim7.holds Tryd.pinned (.plain (OpenSpec.upto pictReadsSpec)) pictReadsUptoCard
end Rows
end Go.Proofs.YtcdhdnfkcmjnpaaDoor
