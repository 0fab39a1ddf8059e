/-
  ach that ask something of their arguments; several loops told at once.
-/
import Derived.Test.YtefphimaggjihaaGreatDoorC8
namespace Go.Gv
open Go.RowKit Go.Ev
noncomputable section
def kIf(f:Nat)(c:List AV→Bool)(g:List AV→AV):aV:=⟨f,fun args k=>cond(c args)(k(g args))none⟩
def gM(keep:List Nat)(τ:List(Option Nat)):jZ:=fun e s=>match e with
 |.exit i=>Uh keep τ(.exit i)s
 |_=>none
theorem bU(keep:List Nat)(τ:List(Option Nat)):X3(gM keep τ):=fun e s o h=>by
 unfold gM at h
 cases e<;>simp only at h<;>first | (cases h;done) |exact EB keep τ _ s o h
end
end Go.Gv
