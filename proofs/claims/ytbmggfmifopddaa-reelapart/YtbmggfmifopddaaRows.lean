/-
  No cell of these rows narrows 'for every input' (looked for: loops, veiled, ifaces, maps, wideKeys, modest, calm, conditions, laid).
  DERIVED. THE GIVEN ROWS OF THIS SEAT. 2 by the template 'for every input the law returns true; each argument reads behind the call as it read before'; 0 by the template 'total and deterministic' (their statements: YtbmggfmifopddaaTotals.lean).
  GIVEN WITH THE SEED: the statements are not yours to turn. If you find one false, say at which input.
  Laid BY PROGRAM, IN A SANDBOX (cutbox-rows.mjs): the forced cells as the released guide's own fill.sh prints them over the translation bd0965bdc26b6a0a… (all of the seat's roots in one cut). By AI agents, Wed Nov 11 2026. No macro, syntax, notation, axiom, sorry.
-/
import Derived.Test.YtbmggfmifopddaaChecked
import GoSem.Claim
import GoSem.ClaimJoined
import GoSem.ClaimMapViews
import Derived.JoinedTies
import Derived.KernelRfl
namespace Go.Proofs.Ytbmggfmifopddaa
/- THE CELL 'sum', in the pinned program and in every row, IS THE sha256 OF THE DUMP (.gsa) THAT YtbmggfmifopddaaProg.lean LOADS. Nothing in Lean hashes anything: it is a label: what it is worth is what the hold of that sum in a sandbox is worth. -/
noncomputable def Try.pinned : Pinned := { name := "ytbmggfmifopddaa", sum := "bd0965bdc26b6a0a3878aa385485d0f56fd4db137d19368ef261c4d96463b263", checked := Try.checked }
namespace Rows
def none {H : Type} : Left H := { results := [], args := [] }

/-- 'rayhouselaw.ReelApart': WHATEVER THE INPUT: true; the input reads as it did. -/
def reelApartSpec : ChangeSpec := { name := "reelApart", fn := fun _ => fun
  | [d1, d2] => { results := [.lit (.bool true)], args := [d1, d2] }
  | _ => none }
def reelApartRow : OpenClaim := { program := "ytbmggfmifopddaa", sum := "bd0965bdc26b6a0a3878aa385485d0f56fd4db137d19368ef261c4d96463b263", func := "rayhouse/rayhouselaw.ReelApart", spec := "reelApart", apart := false }
def ReelApartSaid : Prop := reelApartRow.holds Try.pinned (OpenSpec.ofChange reelApartSpec)

/-- ITS FALSE NEIGHBOUR: 'it returns false'. Refute it at one input. -/
def reelApartWrong : ChangeSpec := { name := "reelApart", fn := fun _ => fun
  | [d1, d2] => { results := [.lit (.bool false)], args := [d1, d2] }
  | _ => none }
def ReelApartWrongFalsely : Prop := reelApartRow.holds Try.pinned (OpenSpec.ofChange reelApartWrong)

/-- 'rayhousetop.TopReel': WHATEVER THE INPUT: true; the input reads as it did. -/
def topReelSpec : ChangeSpec := { name := "topReel", fn := fun _ => fun
  | [d1, d2, d3] => { results := [.lit (.bool true)], args := [d1, d2, d3] }
  | _ => none }
def topReelRow : OpenClaim := { program := "ytbmggfmifopddaa", sum := "bd0965bdc26b6a0a3878aa385485d0f56fd4db137d19368ef261c4d96463b263", func := "rayhouse/rayhousetop.TopReel", spec := "topReel", apart := false }
def TopReelSaid : Prop := topReelRow.holds Try.pinned (OpenSpec.ofChange topReelSpec)

/-- ITS FALSE NEIGHBOUR: 'it returns false'. Refute it at one input. -/
def topReelWrong : ChangeSpec := { name := "topReel", fn := fun _ => fun
  | [d1, d2, d3] => { results := [.lit (.bool false)], args := [d1, d2, d3] }
  | _ => none }
def TopReelWrongFalsely : Prop := topReelRow.holds Try.pinned (OpenSpec.ofChange topReelWrong)

/- THE SECOND FORM. 'bulk': how many values and letters a reading holds, each counted each time it is reached (what is shared counts as often as it is met; a slice's spare places count too). A statement '..UptoSaid' is the law's where the arguments, and the package variables that the reading takes, are together of bulk at most 1048576: NARROWER than '..Said'. Prove '..Said' where nothing that the law and all that it calls make is longer than what came in: it says more and counts as full. Else prove '..UptoSaid'. A law counts once. -/
mutual
def uptoBulk {H : Type} : DataW H → Nat
  | .lit (.string bytes) => bytes.length + 1
  | .lit _ => 1
  | .nil => 1
  | .ptr d => uptoBulk d + 1
  | .slice elems spare => uptoBulkAll elems + uptoBulkAll spare + 1
  | .agg parts => uptoBulkAll parts + 1
  | .iface _ d => uptoBulk d + 1
  | .map entries => uptoBulkEntries entries + 1
  | .held _ => 1
def uptoBulkAll {H : Type} : List (DataW H) → Nat
  | [] => 0
  | d :: r => uptoBulk d + uptoBulkAll r
def uptoBulkEntries {H : Type} : List (Lit × DataW H) → Nat
  | [] => 0
  | x :: r => uptoBulkEntry x + uptoBulkEntries r
def uptoBulkEntry {H : Type} : Lit × DataW H → Nat
  | (.string bytes, d) => bytes.length + uptoBulk d + 1
  | (_, d) => uptoBulk d + 1
 end
def uptoSmall : (H : Type) → List (DataW H) → Bool := fun _ ds => decide (uptoBulkAll ds ≤ 1048576)
def OpenSpec.upto (s : _root_.Go.ChangeSpec) : _root_.Go.OpenSpec := { _root_.Go.OpenSpec.ofChange s with cond := some uptoSmall }

/-- 'rayhouselaw.ReelApart', WHERE WHAT IT READS IS OF BULK AT MOST 1048576: true; the input reads as it did. -/
def reelApartUptoRow : OpenClaim := { program := "ytbmggfmifopddaa", sum := "bd0965bdc26b6a0a3878aa385485d0f56fd4db137d19368ef261c4d96463b263", func := "rayhouse/rayhouselaw.ReelApart", spec := "reelApart", apart := false, narrowed := true }
def ReelApartUptoSaid : Prop := reelApartUptoRow.holds Try.pinned (OpenSpec.upto reelApartSpec)

/-- 'rayhousetop.TopReel', WHERE WHAT IT READS IS OF BULK AT MOST 1048576: true; the input reads as it did. -/
def topReelUptoRow : OpenClaim := { program := "ytbmggfmifopddaa", sum := "bd0965bdc26b6a0a3878aa385485d0f56fd4db137d19368ef261c4d96463b263", func := "rayhouse/rayhousetop.TopReel", spec := "topReel", apart := false, narrowed := true }
def TopReelUptoSaid : Prop := topReelUptoRow.holds Try.pinned (OpenSpec.upto topReelSpec)

end Rows
end Go.Proofs.Ytbmggfmifopddaa
