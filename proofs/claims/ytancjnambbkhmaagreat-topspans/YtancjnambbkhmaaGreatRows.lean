/-
  No cell of these rows narrows 'for every input' (looked for: loops, veiled, ifaces, maps, wideKeys, modest, calm, conditions, laid).
  DERIVED. THE GIVEN ROWS OF THIS SEAT. 5 by the template 'for every input the law returns true; each argument reads behind the call as it read before'; 0 by the template 'total and deterministic' (their statements: YtancjnambbkhmaaGreatTotals.lean).
  GIVEN WITH THE SEED: the statements are not yours to turn. If you find one false, say at which input.
  Laid BY PROGRAM, IN A SANDBOX (cutbox-rows.mjs): the forced cells as the released guide's own fill.sh prints them over the translation 73cfe14bc7d3f74a… (all of the seat's roots in one cut). By AI agents, Wed Nov 11 2026. No macro, syntax, notation, axiom, sorry.
-/
import Derived.Test.YtancjnambbkhmaaGreatChecked
import GoSem.Claim
import GoSem.ClaimJoined
import GoSem.ClaimMapViews
import Derived.JoinedTies
import Derived.KernelRfl
namespace Go.Proofs.YtancjnambbkhmaaGreat
/- THE CELL 'sum', in the pinned program and in every row, IS THE sha256 OF THE DUMP (.gsa) THAT YtancjnambbkhmaaGreatProg.lean LOADS. Nothing in Lean hashes anything: it is a label: what it is worth is what the hold of that sum in a sandbox is worth. -/
noncomputable def Tryz.pinned : Pinned := { name := "ytancjnambbkhmaagreat", sum := "73cfe14bc7d3f74ac6ddf1f06fea9773a1618537fa0b2d9b7a620ca4f2f9091a", checked := Tryz.checked }
namespace Rows
def none {H : Type} : Left H := { results := [], args := [] }

/-- 'rayhouselaw.ShapeSays': WHATEVER THE INPUT: true; the input reads as it did. -/
def shapeSaysSpec : ChangeSpec := { name := "shapeSays", fn := fun _ => fun
  | [d1, d2, d3] => { results := [.lit (.bool true)], args := [d1, d2, d3] }
  | _ => none }
def shapeSaysRow : OpenClaim := { program := "ytancjnambbkhmaagreat", sum := "73cfe14bc7d3f74ac6ddf1f06fea9773a1618537fa0b2d9b7a620ca4f2f9091a", func := "rayhouse/rayhouselaw.ShapeSays", spec := "shapeSays", inPlace := ["math.sqrt", "math.archFloor", "math.Float64bits", "math.Float64frombits", "math.archTrunc", "math.archCeil"], unfollowed := true, recurses := true, apart := false }
def ShapeSaysSaid : Prop := shapeSaysRow.holds Tryz.pinned (OpenSpec.ofChange shapeSaysSpec)

/-- ITS FALSE NEIGHBOUR: 'it returns false'. Refute it at one input. -/
def shapeSaysWrong : ChangeSpec := { name := "shapeSays", fn := fun _ => fun
  | [d1, d2, d3] => { results := [.lit (.bool false)], args := [d1, d2, d3] }
  | _ => none }
def ShapeSaysWrongFalsely : Prop := shapeSaysRow.holds Tryz.pinned (OpenSpec.ofChange shapeSaysWrong)

/-- 'rayhouselaw.ShapeMade': WHATEVER THE INPUT: true; the input reads as it did. -/
def shapeMadeSpec : ChangeSpec := { name := "shapeMade", fn := fun _ => fun
  | [d] => { results := [.lit (.bool true)], args := [d] }
  | _ => none }
def shapeMadeRow : OpenClaim := { program := "ytancjnambbkhmaagreat", sum := "73cfe14bc7d3f74ac6ddf1f06fea9773a1618537fa0b2d9b7a620ca4f2f9091a", func := "rayhouse/rayhouselaw.ShapeMade", spec := "shapeMade", inPlace := ["math.sqrt", "math.archFloor", "math.Float64bits", "math.Float64frombits", "math.archTrunc", "math.archCeil"], unfollowed := true, recurses := true, apart := false }
def ShapeMadeSaid : Prop := shapeMadeRow.holds Tryz.pinned (OpenSpec.ofChange shapeMadeSpec)

/-- ITS FALSE NEIGHBOUR: 'it returns false'. Refute it at one input. -/
def shapeMadeWrong : ChangeSpec := { name := "shapeMade", fn := fun _ => fun
  | [d] => { results := [.lit (.bool false)], args := [d] }
  | _ => none }
def ShapeMadeWrongFalsely : Prop := shapeMadeRow.holds Tryz.pinned (OpenSpec.ofChange shapeMadeWrong)

/-- 'rayhouselaw.SolidSays': WHATEVER THE INPUT: true; the input reads as it did. -/
def solidSaysSpec : ChangeSpec := { name := "solidSays", fn := fun _ => fun
  | [d1, d2, d3, d4] => { results := [.lit (.bool true)], args := [d1, d2, d3, d4] }
  | _ => none }
def solidSaysRow : OpenClaim := { program := "ytancjnambbkhmaagreat", sum := "73cfe14bc7d3f74ac6ddf1f06fea9773a1618537fa0b2d9b7a620ca4f2f9091a", func := "rayhouse/rayhouselaw.SolidSays", spec := "solidSays", inPlace := ["math.sqrt", "math.Float64bits", "math.Float64frombits"], unfollowed := true, recurses := true, apart := false }
def SolidSaysSaid : Prop := solidSaysRow.holds Tryz.pinned (OpenSpec.ofChange solidSaysSpec)

/-- ITS FALSE NEIGHBOUR: 'it returns false'. Refute it at one input. -/
def solidSaysWrong : ChangeSpec := { name := "solidSays", fn := fun _ => fun
  | [d1, d2, d3, d4] => { results := [.lit (.bool false)], args := [d1, d2, d3, d4] }
  | _ => none }
def SolidSaysWrongFalsely : Prop := solidSaysRow.holds Tryz.pinned (OpenSpec.ofChange solidSaysWrong)

/-- 'rayhouselaw.SolidMade': WHATEVER THE INPUT: true; the input reads as it did. -/
def solidMadeSpec : ChangeSpec := { name := "solidMade", fn := fun _ => fun
  | [d1, d2] => { results := [.lit (.bool true)], args := [d1, d2] }
  | _ => none }
def solidMadeRow : OpenClaim := { program := "ytancjnambbkhmaagreat", sum := "73cfe14bc7d3f74ac6ddf1f06fea9773a1618537fa0b2d9b7a620ca4f2f9091a", func := "rayhouse/rayhouselaw.SolidMade", spec := "solidMade", inPlace := ["math.sqrt", "math.Float64bits", "math.Float64frombits"], unfollowed := true, recurses := true, apart := false }
def SolidMadeSaid : Prop := solidMadeRow.holds Tryz.pinned (OpenSpec.ofChange solidMadeSpec)

/-- ITS FALSE NEIGHBOUR: 'it returns false'. Refute it at one input. -/
def solidMadeWrong : ChangeSpec := { name := "solidMade", fn := fun _ => fun
  | [d1, d2] => { results := [.lit (.bool false)], args := [d1, d2] }
  | _ => none }
def SolidMadeWrongFalsely : Prop := solidMadeRow.holds Tryz.pinned (OpenSpec.ofChange solidMadeWrong)

/-- 'rayhousetop.TopSpans': WHATEVER THE INPUT: true; the input reads as it did. -/
def topSpansSpec : ChangeSpec := { name := "topSpans", fn := fun _ => fun
  | [d1, d2, d3, d4, d5] => { results := [.lit (.bool true)], args := [d1, d2, d3, d4, d5] }
  | _ => none }
def topSpansRow : OpenClaim := { program := "ytancjnambbkhmaagreat", sum := "73cfe14bc7d3f74ac6ddf1f06fea9773a1618537fa0b2d9b7a620ca4f2f9091a", func := "rayhouse/rayhousetop.TopSpans", spec := "topSpans", unfollowed := true, recurses := true, apart := false }
def TopSpansSaid : Prop := topSpansRow.holds Tryz.pinned (OpenSpec.ofChange topSpansSpec)

/-- ITS FALSE NEIGHBOUR: 'it returns false'. Refute it at one input. -/
def topSpansWrong : ChangeSpec := { name := "topSpans", fn := fun _ => fun
  | [d1, d2, d3, d4, d5] => { results := [.lit (.bool false)], args := [d1, d2, d3, d4, d5] }
  | _ => none }
def TopSpansWrongFalsely : Prop := topSpansRow.holds Tryz.pinned (OpenSpec.ofChange topSpansWrong)

/- THE SECOND FORM. 'bulk': how many values and letters a reading holds, each counted each time it is reached (what is shared counts as often as it is met; a slice's spare places count too). A statement '..UptoSaid' is the law's where the arguments, and the package variables that the reading takes, are together of bulk at most 1048576: NARROWER than '..Said'. Prove '..Said' where nothing that the law and all that it calls make is longer than what came in: it says more and counts as full. Else prove '..UptoSaid'. A law counts once. -/
mutual
def uptoBulk {H : Type} : DataW H → Nat
  | .lit (.string bytes) => bytes.length + 1
  | .lit _ => 1
  | .nil => 1
  | .ptr d => uptoBulk d + 1
  | .slice elems spare => uptoBulkAll elems + uptoBulkAll spare + 1
  | .agg parts => uptoBulkAll parts + 1
  | .iface _ d => uptoBulk d + 1
  | .map entries => uptoBulkEntries entries + 1
  | .held _ => 1
def uptoBulkAll {H : Type} : List (DataW H) → Nat
  | [] => 0
  | d :: r => uptoBulk d + uptoBulkAll r
def uptoBulkEntries {H : Type} : List (Lit × DataW H) → Nat
  | [] => 0
  | x :: r => uptoBulkEntry x + uptoBulkEntries r
def uptoBulkEntry {H : Type} : Lit × DataW H → Nat
  | (.string bytes, d) => bytes.length + uptoBulk d + 1
  | (_, d) => uptoBulk d + 1
 end
def uptoSmall : (H : Type) → List (DataW H) → Bool := fun _ ds => decide (uptoBulkAll ds ≤ 1048576)
def OpenSpec.upto (s : _root_.Go.ChangeSpec) : _root_.Go.OpenSpec := { _root_.Go.OpenSpec.ofChange s with cond := some uptoSmall }

/-- 'rayhouselaw.ShapeSays', WHERE WHAT IT READS IS OF BULK AT MOST 1048576: true; the input reads as it did. -/
def shapeSaysUptoRow : OpenClaim := { program := "ytancjnambbkhmaagreat", sum := "73cfe14bc7d3f74ac6ddf1f06fea9773a1618537fa0b2d9b7a620ca4f2f9091a", func := "rayhouse/rayhouselaw.ShapeSays", spec := "shapeSays", inPlace := ["math.sqrt", "math.archFloor", "math.Float64bits", "math.Float64frombits", "math.archTrunc", "math.archCeil"], unfollowed := true, recurses := true, apart := false, narrowed := true }
def ShapeSaysUptoSaid : Prop := shapeSaysUptoRow.holds Tryz.pinned (OpenSpec.upto shapeSaysSpec)

/-- 'rayhouselaw.ShapeMade', WHERE WHAT IT READS IS OF BULK AT MOST 1048576: true; the input reads as it did. -/
def shapeMadeUptoRow : OpenClaim := { program := "ytancjnambbkhmaagreat", sum := "73cfe14bc7d3f74ac6ddf1f06fea9773a1618537fa0b2d9b7a620ca4f2f9091a", func := "rayhouse/rayhouselaw.ShapeMade", spec := "shapeMade", inPlace := ["math.sqrt", "math.archFloor", "math.Float64bits", "math.Float64frombits", "math.archTrunc", "math.archCeil"], unfollowed := true, recurses := true, apart := false, narrowed := true }
def ShapeMadeUptoSaid : Prop := shapeMadeUptoRow.holds Tryz.pinned (OpenSpec.upto shapeMadeSpec)

/-- 'rayhouselaw.SolidSays', WHERE WHAT IT READS IS OF BULK AT MOST 1048576: true; the input reads as it did. -/
def solidSaysUptoRow : OpenClaim := { program := "ytancjnambbkhmaagreat", sum := "73cfe14bc7d3f74ac6ddf1f06fea9773a1618537fa0b2d9b7a620ca4f2f9091a", func := "rayhouse/rayhouselaw.SolidSays", spec := "solidSays", inPlace := ["math.sqrt", "math.Float64bits", "math.Float64frombits"], unfollowed := true, recurses := true, apart := false, narrowed := true }
def SolidSaysUptoSaid : Prop := solidSaysUptoRow.holds Tryz.pinned (OpenSpec.upto solidSaysSpec)

/-- 'rayhouselaw.SolidMade', WHERE WHAT IT READS IS OF BULK AT MOST 1048576: true; the input reads as it did. -/
def solidMadeUptoRow : OpenClaim := { program := "ytancjnambbkhmaagreat", sum := "73cfe14bc7d3f74ac6ddf1f06fea9773a1618537fa0b2d9b7a620ca4f2f9091a", func := "rayhouse/rayhouselaw.SolidMade", spec := "solidMade", inPlace := ["math.sqrt", "math.Float64bits", "math.Float64frombits"], unfollowed := true, recurses := true, apart := false, narrowed := true }
def SolidMadeUptoSaid : Prop := solidMadeUptoRow.holds Tryz.pinned (OpenSpec.upto solidMadeSpec)

/-- 'rayhousetop.TopSpans', WHERE WHAT IT READS IS OF BULK AT MOST 1048576: true; the input reads as it did. -/
def topSpansUptoRow : OpenClaim := { program := "ytancjnambbkhmaagreat", sum := "73cfe14bc7d3f74ac6ddf1f06fea9773a1618537fa0b2d9b7a620ca4f2f9091a", func := "rayhouse/rayhousetop.TopSpans", spec := "topSpans", unfollowed := true, recurses := true, apart := false, narrowed := true }
def TopSpansUptoSaid : Prop := topSpansUptoRow.holds Tryz.pinned (OpenSpec.upto topSpansSpec)

end Rows
end Go.Proofs.YtancjnambbkhmaaGreat
