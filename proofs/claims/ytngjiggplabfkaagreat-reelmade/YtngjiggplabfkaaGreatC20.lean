/-
  Calls that are handed all of our rows, calls that look at rows of ours; texts one part behind the other.
-/
import Derived.Test.YtngjiggplabfkaaGreatC19
namespace Go.Gv
open Go.RowKit Go.Ev
noncomputable section

structure WEntry where
  f : Nat
  g : WFun
structure REntry where
  f : Nat
  g : RFun
def WEOk (P : Program) (e : WEntry) : Prop := WOk P e.f e.g
def REOk (P : Program) (e : REntry) : Prop := ROk P e.f e.g
end
end Go.Gv
