/-
  No cell of these rows narrows 'for every input' (looked for: loops, veiled, ifaces, maps, wideKeys, modest, calm, conditions, laid).
  DERIVED. THE GIVEN ROWS OF THIS SEAT. 4 by the template 'for every input the law returns true; each argument reads behind the call as it read before'; 0 by the template 'total and deterministic' (their statements: YtmjmhjcddaaklaaTotals.lean).
  GIVEN WITH THE SEED: the statements are not yours to turn. If you find one false, say at which input.
  Laid BY PROGRAM, IN A SANDBOX (cutbox-rows.mjs): the forced cells as the released guide's own fill.sh prints them over the translation 5561da7113f565d5… (all of the seat's roots in one cut). By AI agents, Wed Nov 11 2026. No macro, syntax, notation, axiom, sorry.
-/
import Derived.Test.YtmjmhjcddaaklaaChecked
import GoSem.Claim
import GoSem.ClaimJoined
import GoSem.ClaimMapViews
import Derived.JoinedTies
import Derived.KernelRfl
namespace Go.Proofs.Ytmjmhjcddaaklaa
/- THE CELL 'sum', in the pinned program and in every row, IS THE sha256 OF THE DUMP (.gsa) THAT YtmjmhjcddaaklaaProg.lean LOADS. Nothing in Lean hashes anything: it is a label: what it is worth is what the hold of that sum in a sandbox is worth. -/
noncomputable def Try.pinned : Pinned := { name := "ytmjmhjcddaaklaa", sum := "5561da7113f565d525cb9a80603c88c492f49f26869f98f7171d7bbf0608da8e", checked := Try.checked }
namespace Rows
def none {H : Type} : Left H := { results := [], args := [] }

/-- 'rayhouselaw.RootsSays': WHATEVER THE INPUT: true; the input reads as it did. -/
def rootsSaysSpec : ChangeSpec := { name := "rootsSays", fn := fun _ => fun
  | [d1, d2, d3] => { results := [.lit (.bool true)], args := [d1, d2, d3] }
  | _ => none }
def rootsSaysRow : OpenClaim := { program := "ytmjmhjcddaaklaa", sum := "5561da7113f565d525cb9a80603c88c492f49f26869f98f7171d7bbf0608da8e", func := "rayhouse/rayhouselaw.RootsSays", spec := "rootsSays", inPlace := ["math/bits.Add64", "math/bits.Sub64"], unfollowed := true, recurses := true, apart := false }
def RootsSaysSaid : Prop := rootsSaysRow.holds Try.pinned (OpenSpec.ofChange rootsSaysSpec)

/-- ITS FALSE NEIGHBOUR: 'it returns false'. Refute it at one input. -/
def rootsSaysWrong : ChangeSpec := { name := "rootsSays", fn := fun _ => fun
  | [d1, d2, d3] => { results := [.lit (.bool false)], args := [d1, d2, d3] }
  | _ => none }
def RootsSaysWrongFalsely : Prop := rootsSaysRow.holds Try.pinned (OpenSpec.ofChange rootsSaysWrong)

/-- 'rayhouselaw.RootsRings': WHATEVER THE INPUT: true; the input reads as it did. -/
def rootsRingsSpec : ChangeSpec := { name := "rootsRings", fn := fun _ => fun
  | [d1, d2, d3, d4, d5, d6, d7] => { results := [.lit (.bool true)], args := [d1, d2, d3, d4, d5, d6, d7] }
  | _ => none }
def rootsRingsRow : OpenClaim := { program := "ytmjmhjcddaaklaa", sum := "5561da7113f565d525cb9a80603c88c492f49f26869f98f7171d7bbf0608da8e", func := "rayhouse/rayhouselaw.RootsRings", spec := "rootsRings", inPlace := ["math/bits.Add64", "math/bits.Sub64"], unfollowed := true, recurses := true, apart := false }
def RootsRingsSaid : Prop := rootsRingsRow.holds Try.pinned (OpenSpec.ofChange rootsRingsSpec)

/-- ITS FALSE NEIGHBOUR: 'it returns false'. Refute it at one input. -/
def rootsRingsWrong : ChangeSpec := { name := "rootsRings", fn := fun _ => fun
  | [d1, d2, d3, d4, d5, d6, d7] => { results := [.lit (.bool false)], args := [d1, d2, d3, d4, d5, d6, d7] }
  | _ => none }
def RootsRingsWrongFalsely : Prop := rootsRingsRow.holds Try.pinned (OpenSpec.ofChange rootsRingsWrong)

/-- 'rayhousetop.TopRoots': WHATEVER THE INPUT: true; the input reads as it did. -/
def topRootsSpec : ChangeSpec := { name := "topRoots", fn := fun _ => fun
  | [d1, d2, d3, d4] => { results := [.lit (.bool true)], args := [d1, d2, d3, d4] }
  | _ => none }
def topRootsRow : OpenClaim := { program := "ytmjmhjcddaaklaa", sum := "5561da7113f565d525cb9a80603c88c492f49f26869f98f7171d7bbf0608da8e", func := "rayhouse/rayhousetop.TopRoots", spec := "topRoots", inPlace := ["math/bits.Add64", "math/bits.Sub64"], unfollowed := true, recurses := true, apart := false }
def TopRootsSaid : Prop := topRootsRow.holds Try.pinned (OpenSpec.ofChange topRootsSpec)

/-- ITS FALSE NEIGHBOUR: 'it returns false'. Refute it at one input. -/
def topRootsWrong : ChangeSpec := { name := "topRoots", fn := fun _ => fun
  | [d1, d2, d3, d4] => { results := [.lit (.bool false)], args := [d1, d2, d3, d4] }
  | _ => none }
def TopRootsWrongFalsely : Prop := topRootsRow.holds Try.pinned (OpenSpec.ofChange topRootsWrong)

/-- 'rayhousetop.TopCertain': WHATEVER THE INPUT: true; the input reads as it did. -/
def topCertainSpec : ChangeSpec := { name := "topCertain", fn := fun _ => fun
  | [d1, d2, d3, d4] => { results := [.lit (.bool true)], args := [d1, d2, d3, d4] }
  | _ => none }
def topCertainRow : OpenClaim := { program := "ytmjmhjcddaaklaa", sum := "5561da7113f565d525cb9a80603c88c492f49f26869f98f7171d7bbf0608da8e", func := "rayhouse/rayhousetop.TopCertain", spec := "topCertain", inPlace := ["math/bits.Add64", "math/bits.Sub64"], unfollowed := true, recurses := true, apart := false }
def TopCertainSaid : Prop := topCertainRow.holds Try.pinned (OpenSpec.ofChange topCertainSpec)

/-- ITS FALSE NEIGHBOUR: 'it returns false'. Refute it at one input. -/
def topCertainWrong : ChangeSpec := { name := "topCertain", fn := fun _ => fun
  | [d1, d2, d3, d4] => { results := [.lit (.bool false)], args := [d1, d2, d3, d4] }
  | _ => none }
def TopCertainWrongFalsely : Prop := topCertainRow.holds Try.pinned (OpenSpec.ofChange topCertainWrong)

/- THE SECOND FORM. 'bulk': how many values and letters a reading holds, each counted each time it is reached (what is shared counts as often as it is met; a slice's spare places count too). A statement '..UptoSaid' is the law's where the arguments, and the package variables that the reading takes, are together of bulk at most 1048576: NARROWER than '..Said'. Prove '..Said' where nothing that the law and all that it calls make is longer than what came in: it says more and counts as full. Else prove '..UptoSaid'. A law counts once. -/
mutual
def uptoBulk {H : Type} : DataW H → Nat
  | .lit (.string bytes) => bytes.length + 1
  | .lit _ => 1
  | .nil => 1
  | .ptr d => uptoBulk d + 1
  | .slice elems spare => uptoBulkAll elems + uptoBulkAll spare + 1
  | .agg parts => uptoBulkAll parts + 1
  | .iface _ d => uptoBulk d + 1
  | .map entries => uptoBulkEntries entries + 1
  | .held _ => 1
def uptoBulkAll {H : Type} : List (DataW H) → Nat
  | [] => 0
  | d :: r => uptoBulk d + uptoBulkAll r
def uptoBulkEntries {H : Type} : List (Lit × DataW H) → Nat
  | [] => 0
  | x :: r => uptoBulkEntry x + uptoBulkEntries r
def uptoBulkEntry {H : Type} : Lit × DataW H → Nat
  | (.string bytes, d) => bytes.length + uptoBulk d + 1
  | (_, d) => uptoBulk d + 1
 end
def uptoSmall : (H : Type) → List (DataW H) → Bool := fun _ ds => decide (uptoBulkAll ds ≤ 1048576)
def OpenSpec.upto (s : _root_.Go.ChangeSpec) : _root_.Go.OpenSpec := { _root_.Go.OpenSpec.ofChange s with cond := some uptoSmall }

/-- 'rayhouselaw.RootsSays', WHERE WHAT IT READS IS OF BULK AT MOST 1048576: true; the input reads as it did. -/
def rootsSaysUptoRow : OpenClaim := { program := "ytmjmhjcddaaklaa", sum := "5561da7113f565d525cb9a80603c88c492f49f26869f98f7171d7bbf0608da8e", func := "rayhouse/rayhouselaw.RootsSays", spec := "rootsSays", inPlace := ["math/bits.Add64", "math/bits.Sub64"], unfollowed := true, recurses := true, apart := false, narrowed := true }
def RootsSaysUptoSaid : Prop := rootsSaysUptoRow.holds Try.pinned (OpenSpec.upto rootsSaysSpec)

/-- 'rayhouselaw.RootsRings', WHERE WHAT IT READS IS OF BULK AT MOST 1048576: true; the input reads as it did. -/
def rootsRingsUptoRow : OpenClaim := { program := "ytmjmhjcddaaklaa", sum := "5561da7113f565d525cb9a80603c88c492f49f26869f98f7171d7bbf0608da8e", func := "rayhouse/rayhouselaw.RootsRings", spec := "rootsRings", inPlace := ["math/bits.Add64", "math/bits.Sub64"], unfollowed := true, recurses := true, apart := false, narrowed := true }
def RootsRingsUptoSaid : Prop := rootsRingsUptoRow.holds Try.pinned (OpenSpec.upto rootsRingsSpec)

/-- 'rayhousetop.TopRoots', WHERE WHAT IT READS IS OF BULK AT MOST 1048576: true; the input reads as it did. -/
def topRootsUptoRow : OpenClaim := { program := "ytmjmhjcddaaklaa", sum := "5561da7113f565d525cb9a80603c88c492f49f26869f98f7171d7bbf0608da8e", func := "rayhouse/rayhousetop.TopRoots", spec := "topRoots", inPlace := ["math/bits.Add64", "math/bits.Sub64"], unfollowed := true, recurses := true, apart := false, narrowed := true }
def TopRootsUptoSaid : Prop := topRootsUptoRow.holds Try.pinned (OpenSpec.upto topRootsSpec)

/-- 'rayhousetop.TopCertain', WHERE WHAT IT READS IS OF BULK AT MOST 1048576: true; the input reads as it did. -/
def topCertainUptoRow : OpenClaim := { program := "ytmjmhjcddaaklaa", sum := "5561da7113f565d525cb9a80603c88c492f49f26869f98f7171d7bbf0608da8e", func := "rayhouse/rayhousetop.TopCertain", spec := "topCertain", inPlace := ["math/bits.Add64", "math/bits.Sub64"], unfollowed := true, recurses := true, apart := false, narrowed := true }
def TopCertainUptoSaid : Prop := topCertainUptoRow.holds Try.pinned (OpenSpec.upto topCertainSpec)

end Rows
end Go.Proofs.Ytmjmhjcddaaklaa
