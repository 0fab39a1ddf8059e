/-
  Calls that are handed rows of ours: a contract over rows that are numbered from nought, and what it says where it is called.
-/
import Derived.Test.YtefphimaggjihaaGreatDoorC8
namespace Go.Gv
open Go.RowKit Go.Ev
noncomputable section
def cu(P:Program)(f:Nat)(args:List AV)(mem:List Row)(v:AV)(mem1:List Row):Prop :=
 qG P f/\∀(R:Nat->Prop) (E:Env) (aZ:Array Value),Ju mem.length E.A R E->Wd E.A R E E mem->vC E->dB E args aZ.toList ->
  Calls P f aZ E.w λ e w'=>∃u E',e=.returned u/\E'.w=w'/\Wd E.A R E E' mem1/\rel E' v u
def Row.pure:Row->Bool
 |.c l=>bZ l
 |.a _ _ _ _=>true
 |.dead=>true
 |.t _ l=>bZ l
 |.z _ _ _ _ _=>true
 |.i _ _ _=>true
def oH(l:List Nat)(k:Nat):Option Nat:=l.findIdx? (·==k)
theorem wB{l:List Nat}{k i:Nat}(h:oH l k=some i):l[i]?=some k:=by
 unfold oH at h;rw[List.findIdx?_eq_some_iff_getElem]at h;obtain⟨h1,h2,_⟩:=h;rw[List.getElem?_eq_getElem h1];simpa using h2
def nodupB:List Nat->Bool
 | []=>true
 |k::l=>!(l.contains k)&&nodupB l
theorem CJ:∀{l:List Nat},nodupB l=true->∀(i j k:Nat),l[i]?=some k->l[j]?=some k->i=j
 | [],_,i,j,k,h,_=>by simp at h
 |k0::l,hd,i,j,k,hi,hj=>by
  simp only[nodupB,Bool.and_eq_true,Bool.not_eq_true']at hd
  have hno:∀n,l[n]?≠some k0:=λ n hn=>by
   have:l.contains k0=true:=List.contains_iff_mem.2 (List.mem_of_getElem? hn);rw[hd.1]at this;cases this
  cases i with
  |zero =>
   simp at hi;subst hi;cases j with
   |zero=>rfl
   |succ j=>exact absurd (by simpa using hj) (hno j)
  |succ i =>
   cases j with
   |zero =>
    simp at hj;subst hj;exact absurd (by simpa using hi) (hno i)
   |succ j=>rw[CJ hd.2 i j k (by simpa using hi) (by simpa using hj)]
end
end Go.Gv
