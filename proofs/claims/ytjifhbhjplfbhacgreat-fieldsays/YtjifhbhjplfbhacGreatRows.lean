/-
  No cell of these rows narrows 'for every input' (looked for: loops, veiled, ifaces, maps, wideKeys, modest, calm, conditions, laid).
  DERIVED. THE GIVEN ROWS OF THIS SEAT. 6 by the template 'for every input the law returns true; each argument reads behind the call as it read before'; 0 by the template 'total and deterministic' (their statements: YtjifhbhjplfbhacGreatTotals.lean).
  GIVEN WITH THE SEED: the statements are not yours to turn. If you find one false, say at which input.
  Laid BY PROGRAM, IN A SANDBOX (cutbox-rows.mjs): the forced cells as the released guide's own fill.sh prints them over the translation de74d36a6ac9a087… (all of the seat's roots in one cut). By AI agents, Wed Nov 11 2026. No macro, syntax, notation, axiom, sorry.
-/
import Derived.Test.YtjifhbhjplfbhacGreatChecked
import GoSem.Claim
import GoSem.ClaimJoined
import GoSem.ClaimMapViews
import Derived.JoinedTies
import Derived.KernelRfl
namespace Go.Proofs.YtjifhbhjplfbhacGreat
/- THE CELL 'sum', in the pinned program and in every row, IS THE sha256 OF THE DUMP (.gsa) THAT YtjifhbhjplfbhacGreatProg.lean LOADS. Nothing in Lean hashes anything: it is a label: what it is worth is what the hold of that sum in a sandbox is worth. -/
noncomputable def Tryz.pinned : Pinned := { name := "ytjifhbhjplfbhacgreat", sum := "de74d36a6ac9a087e2c326123b261dfae8b6e9109179038f974a61de232b0bc1", checked := Tryz.checked }
namespace Rows
def none {H : Type} : Left H := { results := [], args := [] }

/-- 'rayhouselaw.SolidSays': WHATEVER THE INPUT: true; the input reads as it did. -/
def solidSaysSpec : ChangeSpec := { name := "solidSays", fn := fun _ => fun
  | [d1, d2, d3, d4] => { results := [.lit (.bool true)], args := [d1, d2, d3, d4] }
  | _ => none }
def solidSaysRow : OpenClaim := { program := "ytjifhbhjplfbhacgreat", sum := "de74d36a6ac9a087e2c326123b261dfae8b6e9109179038f974a61de232b0bc1", func := "rayhouse/rayhouselaw.SolidSays", spec := "solidSays", inPlace := ["math.sqrt", "math.Float64bits", "math.Float64frombits"], unfollowed := true, recurses := true, apart := false }
def SolidSaysSaid : Prop := solidSaysRow.holds Tryz.pinned (OpenSpec.ofChange solidSaysSpec)

/-- ITS FALSE NEIGHBOUR: 'it returns false'. Refute it at one input. -/
def solidSaysWrong : ChangeSpec := { name := "solidSays", fn := fun _ => fun
  | [d1, d2, d3, d4] => { results := [.lit (.bool false)], args := [d1, d2, d3, d4] }
  | _ => none }
def SolidSaysWrongFalsely : Prop := solidSaysRow.holds Tryz.pinned (OpenSpec.ofChange solidSaysWrong)

/-- 'rayhouselaw.SolidMade': WHATEVER THE INPUT: true; the input reads as it did. -/
def solidMadeSpec : ChangeSpec := { name := "solidMade", fn := fun _ => fun
  | [d1, d2] => { results := [.lit (.bool true)], args := [d1, d2] }
  | _ => none }
def solidMadeRow : OpenClaim := { program := "ytjifhbhjplfbhacgreat", sum := "de74d36a6ac9a087e2c326123b261dfae8b6e9109179038f974a61de232b0bc1", func := "rayhouse/rayhouselaw.SolidMade", spec := "solidMade", inPlace := ["math.sqrt", "math.Float64bits", "math.Float64frombits"], unfollowed := true, recurses := true, apart := false }
def SolidMadeSaid : Prop := solidMadeRow.holds Tryz.pinned (OpenSpec.ofChange solidMadeSpec)

/-- ITS FALSE NEIGHBOUR: 'it returns false'. Refute it at one input. -/
def solidMadeWrong : ChangeSpec := { name := "solidMade", fn := fun _ => fun
  | [d1, d2] => { results := [.lit (.bool false)], args := [d1, d2] }
  | _ => none }
def SolidMadeWrongFalsely : Prop := solidMadeRow.holds Tryz.pinned (OpenSpec.ofChange solidMadeWrong)

/-- 'rayhouselaw.FieldSays': WHATEVER THE INPUT: true; the input reads as it did. -/
def fieldSaysSpec : ChangeSpec := { name := "fieldSays", fn := fun _ => fun
  | [d1, d2] => { results := [.lit (.bool true)], args := [d1, d2] }
  | _ => none }
def fieldSaysRow : OpenClaim := { program := "ytjifhbhjplfbhacgreat", sum := "de74d36a6ac9a087e2c326123b261dfae8b6e9109179038f974a61de232b0bc1", func := "rayhouse/rayhouselaw.FieldSays", spec := "fieldSays", inPlace := ["math.sqrt", "math.archFloor", "math.Float64bits", "math.Float64frombits", "math.archTrunc", "math.archCeil"], unfollowed := true, recurses := true, apart := false }
def FieldSaysSaid : Prop := fieldSaysRow.holds Tryz.pinned (OpenSpec.ofChange fieldSaysSpec)

/-- ITS FALSE NEIGHBOUR: 'it returns false'. Refute it at one input. -/
def fieldSaysWrong : ChangeSpec := { name := "fieldSays", fn := fun _ => fun
  | [d1, d2] => { results := [.lit (.bool false)], args := [d1, d2] }
  | _ => none }
def FieldSaysWrongFalsely : Prop := fieldSaysRow.holds Tryz.pinned (OpenSpec.ofChange fieldSaysWrong)

/-- 'rayhouselaw.FieldMade': WHATEVER THE INPUT: true; the input reads as it did. -/
def fieldMadeSpec : ChangeSpec := { name := "fieldMade", fn := fun _ => fun
  | [d1, d2] => { results := [.lit (.bool true)], args := [d1, d2] }
  | _ => none }
def fieldMadeRow : OpenClaim := { program := "ytjifhbhjplfbhacgreat", sum := "de74d36a6ac9a087e2c326123b261dfae8b6e9109179038f974a61de232b0bc1", func := "rayhouse/rayhouselaw.FieldMade", spec := "fieldMade", inPlace := ["math.sqrt", "math.archFloor", "math.Float64bits", "math.Float64frombits", "math.archTrunc", "math.archCeil"], unfollowed := true, recurses := true, apart := false }
def FieldMadeSaid : Prop := fieldMadeRow.holds Tryz.pinned (OpenSpec.ofChange fieldMadeSpec)

/-- ITS FALSE NEIGHBOUR: 'it returns false'. Refute it at one input. -/
def fieldMadeWrong : ChangeSpec := { name := "fieldMade", fn := fun _ => fun
  | [d1, d2] => { results := [.lit (.bool false)], args := [d1, d2] }
  | _ => none }
def FieldMadeWrongFalsely : Prop := fieldMadeRow.holds Tryz.pinned (OpenSpec.ofChange fieldMadeWrong)

/-- 'rayhouselaw.TreeSays': WHATEVER THE INPUT: true; the input reads as it did. -/
def treeSaysSpec : ChangeSpec := { name := "treeSays", fn := fun _ => fun
  | [d1, d2, d3, d4, d5] => { results := [.lit (.bool true)], args := [d1, d2, d3, d4, d5] }
  | _ => none }
def treeSaysRow : OpenClaim := { program := "ytjifhbhjplfbhacgreat", sum := "de74d36a6ac9a087e2c326123b261dfae8b6e9109179038f974a61de232b0bc1", func := "rayhouse/rayhouselaw.TreeSays", spec := "treeSays", inPlace := ["math.sqrt", "math.archFloor", "math.Float64bits", "math.Float64frombits", "math.archTrunc", "math.archCeil"], unfollowed := true, recurses := true, apart := false }
def TreeSaysSaid : Prop := treeSaysRow.holds Tryz.pinned (OpenSpec.ofChange treeSaysSpec)

/-- ITS FALSE NEIGHBOUR: 'it returns false'. Refute it at one input. -/
def treeSaysWrong : ChangeSpec := { name := "treeSays", fn := fun _ => fun
  | [d1, d2, d3, d4, d5] => { results := [.lit (.bool false)], args := [d1, d2, d3, d4, d5] }
  | _ => none }
def TreeSaysWrongFalsely : Prop := treeSaysRow.holds Tryz.pinned (OpenSpec.ofChange treeSaysWrong)

/-- 'rayhouselaw.TreeMade': WHATEVER THE INPUT: true; the input reads as it did. -/
def treeMadeSpec : ChangeSpec := { name := "treeMade", fn := fun _ => fun
  | [d1, d2, d3, d4, d5] => { results := [.lit (.bool true)], args := [d1, d2, d3, d4, d5] }
  | _ => none }
def treeMadeRow : OpenClaim := { program := "ytjifhbhjplfbhacgreat", sum := "de74d36a6ac9a087e2c326123b261dfae8b6e9109179038f974a61de232b0bc1", func := "rayhouse/rayhouselaw.TreeMade", spec := "treeMade", inPlace := ["math.sqrt", "math.archFloor", "math.Float64bits", "math.Float64frombits", "math.archTrunc", "math.archCeil"], unfollowed := true, recurses := true, apart := false }
def TreeMadeSaid : Prop := treeMadeRow.holds Tryz.pinned (OpenSpec.ofChange treeMadeSpec)

/-- ITS FALSE NEIGHBOUR: 'it returns false'. Refute it at one input. -/
def treeMadeWrong : ChangeSpec := { name := "treeMade", fn := fun _ => fun
  | [d1, d2, d3, d4, d5] => { results := [.lit (.bool false)], args := [d1, d2, d3, d4, d5] }
  | _ => none }
def TreeMadeWrongFalsely : Prop := treeMadeRow.holds Tryz.pinned (OpenSpec.ofChange treeMadeWrong)

/- THE SECOND FORM. 'bulk': how many values and letters a reading holds, each counted each time it is reached (what is shared counts as often as it is met; a slice's spare places count too). A statement '..UptoSaid' is the law's where the arguments, and the package variables that the reading takes, are together of bulk at most 1048576: NARROWER than '..Said'. Prove '..Said' where nothing that the law and all that it calls make is longer than what came in: it says more and counts as full. Else prove '..UptoSaid'. A law counts once. -/
mutual
def uptoBulk {H : Type} : DataW H → Nat
  | .lit (.string bytes) => bytes.length + 1
  | .lit _ => 1
  | .nil => 1
  | .ptr d => uptoBulk d + 1
  | .slice elems spare => uptoBulkAll elems + uptoBulkAll spare + 1
  | .agg parts => uptoBulkAll parts + 1
  | .iface _ d => uptoBulk d + 1
  | .map entries => uptoBulkEntries entries + 1
  | .held _ => 1
def uptoBulkAll {H : Type} : List (DataW H) → Nat
  | [] => 0
  | d :: r => uptoBulk d + uptoBulkAll r
def uptoBulkEntries {H : Type} : List (Lit × DataW H) → Nat
  | [] => 0
  | x :: r => uptoBulkEntry x + uptoBulkEntries r
def uptoBulkEntry {H : Type} : Lit × DataW H → Nat
  | (.string bytes, d) => bytes.length + uptoBulk d + 1
  | (_, d) => uptoBulk d + 1
 end
def uptoSmall : (H : Type) → List (DataW H) → Bool := fun _ ds => decide (uptoBulkAll ds ≤ 1048576)
def OpenSpec.upto (s : _root_.Go.ChangeSpec) : _root_.Go.OpenSpec := { _root_.Go.OpenSpec.ofChange s with cond := some uptoSmall }

/-- 'rayhouselaw.SolidSays', WHERE WHAT IT READS IS OF BULK AT MOST 1048576: true; the input reads as it did. -/
def solidSaysUptoRow : OpenClaim := { program := "ytjifhbhjplfbhacgreat", sum := "de74d36a6ac9a087e2c326123b261dfae8b6e9109179038f974a61de232b0bc1", func := "rayhouse/rayhouselaw.SolidSays", spec := "solidSays", inPlace := ["math.sqrt", "math.Float64bits", "math.Float64frombits"], unfollowed := true, recurses := true, apart := false, narrowed := true }
def SolidSaysUptoSaid : Prop := solidSaysUptoRow.holds Tryz.pinned (OpenSpec.upto solidSaysSpec)

/-- 'rayhouselaw.SolidMade', WHERE WHAT IT READS IS OF BULK AT MOST 1048576: true; the input reads as it did. -/
def solidMadeUptoRow : OpenClaim := { program := "ytjifhbhjplfbhacgreat", sum := "de74d36a6ac9a087e2c326123b261dfae8b6e9109179038f974a61de232b0bc1", func := "rayhouse/rayhouselaw.SolidMade", spec := "solidMade", inPlace := ["math.sqrt", "math.Float64bits", "math.Float64frombits"], unfollowed := true, recurses := true, apart := false, narrowed := true }
def SolidMadeUptoSaid : Prop := solidMadeUptoRow.holds Tryz.pinned (OpenSpec.upto solidMadeSpec)

/-- 'rayhouselaw.FieldSays', WHERE WHAT IT READS IS OF BULK AT MOST 1048576: true; the input reads as it did. -/
def fieldSaysUptoRow : OpenClaim := { program := "ytjifhbhjplfbhacgreat", sum := "de74d36a6ac9a087e2c326123b261dfae8b6e9109179038f974a61de232b0bc1", func := "rayhouse/rayhouselaw.FieldSays", spec := "fieldSays", inPlace := ["math.sqrt", "math.archFloor", "math.Float64bits", "math.Float64frombits", "math.archTrunc", "math.archCeil"], unfollowed := true, recurses := true, apart := false, narrowed := true }
def FieldSaysUptoSaid : Prop := fieldSaysUptoRow.holds Tryz.pinned (OpenSpec.upto fieldSaysSpec)

/-- 'rayhouselaw.FieldMade', WHERE WHAT IT READS IS OF BULK AT MOST 1048576: true; the input reads as it did. -/
def fieldMadeUptoRow : OpenClaim := { program := "ytjifhbhjplfbhacgreat", sum := "de74d36a6ac9a087e2c326123b261dfae8b6e9109179038f974a61de232b0bc1", func := "rayhouse/rayhouselaw.FieldMade", spec := "fieldMade", inPlace := ["math.sqrt", "math.archFloor", "math.Float64bits", "math.Float64frombits", "math.archTrunc", "math.archCeil"], unfollowed := true, recurses := true, apart := false, narrowed := true }
def FieldMadeUptoSaid : Prop := fieldMadeUptoRow.holds Tryz.pinned (OpenSpec.upto fieldMadeSpec)

/-- 'rayhouselaw.TreeSays', WHERE WHAT IT READS IS OF BULK AT MOST 1048576: true; the input reads as it did. -/
def treeSaysUptoRow : OpenClaim := { program := "ytjifhbhjplfbhacgreat", sum := "de74d36a6ac9a087e2c326123b261dfae8b6e9109179038f974a61de232b0bc1", func := "rayhouse/rayhouselaw.TreeSays", spec := "treeSays", inPlace := ["math.sqrt", "math.archFloor", "math.Float64bits", "math.Float64frombits", "math.archTrunc", "math.archCeil"], unfollowed := true, recurses := true, apart := false, narrowed := true }
def TreeSaysUptoSaid : Prop := treeSaysUptoRow.holds Tryz.pinned (OpenSpec.upto treeSaysSpec)

/-- 'rayhouselaw.TreeMade', WHERE WHAT IT READS IS OF BULK AT MOST 1048576: true; the input reads as it did. -/
def treeMadeUptoRow : OpenClaim := { program := "ytjifhbhjplfbhacgreat", sum := "de74d36a6ac9a087e2c326123b261dfae8b6e9109179038f974a61de232b0bc1", func := "rayhouse/rayhouselaw.TreeMade", spec := "treeMade", inPlace := ["math.sqrt", "math.archFloor", "math.Float64bits", "math.Float64frombits", "math.archTrunc", "math.archCeil"], unfollowed := true, recurses := true, apart := false, narrowed := true }
def TreeMadeUptoSaid : Prop := treeMadeUptoRow.holds Tryz.pinned (OpenSpec.upto treeMadeSpec)

end Rows
end Go.Proofs.YtjifhbhjplfbhacGreat
