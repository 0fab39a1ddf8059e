/-
  abp that ask something of their arguments; several loops told at once.
-/
import Derived.Test.YtefphimaggjihaaGreatDoorC8
namespace Go.Gv
open Go.RowKit Go.Ev
noncomputable section
def kIf(f:Nat)(c:List AV->Bool)(g:List AV->AV):aV:=⟨f,λ args k=>cond (c args) (k (g args)) none⟩
def gM(keep:List Nat)(τ:List (Option Nat)):jZ:=λ e s=>match e with
 |.exit i=>Tp keep τ (.exit i) s
 |_=>none
theorem bU(keep:List Nat)(τ:List (Option Nat)):Xh (gM keep τ):=λ e s o h=>by
 unfold gM at h;cases e<;>simp only at h<;>first | (cases h;done) |exact Em keep τ _ s o h
end
end Go.Gv
