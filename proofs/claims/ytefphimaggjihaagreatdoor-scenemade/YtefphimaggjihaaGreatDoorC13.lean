/-
  Calls that hand back what is new: rows that are avJ to them, and slices in what they give; a new row that is ours.
-/
import Derived.Test.YtefphimaggjihaaGreatDoorC12
namespace Go.Gv
open Go.RowKit Go.Ev
noncomputable section
def E9(P:Program)(f:Nat)(args:List AV)(r:AV):Prop :=
 qG P f/\∀(w:World) (aZ:Array Value),dB ⟨w,λ _=>False,λ _=>none⟩ args aZ.toList->vC ⟨w,λ _=>False,λ _=>none⟩ ->
  Calls P f aZ w λ e w'=>∃v,e=.returned v/\rel ⟨w',λ b=>b<w.heap.size,λ _=>none⟩ r v/\Below w.heap.size w w'
theorem E9.ade{P:Program}{f:Nat}{args:List AV}{r r':AV}(h:E9 P f args r)(hr:∀(E:Env) (v:Value),rel E r v->rel E r' v):E9 P f args r' :=
 ⟨h.1,λ w aZ ha hg=>(h.2 w aZ ha hg).mono λ _ _ ⟨v,h1,h2,h3⟩=>⟨v,h1,hr _ _ h2,h3⟩⟩
section
variable{A0 R:Nat->Prop}{w0 E:Env}{mem:List Row}
end
theorem Wd.same{A0 R:Nat->Prop}{w0 E:Env}{mem mem':List Row}(hW:Wd A0 R w0 E mem)(h:rz mem mem'):Wd A0 R w0 E mem':=by
 have lives:∀k,aK mem' k=aK mem k:=λ k=>by
  unfold aK;rcases h.get k with⟨h1,h2⟩ | ⟨r,r',h1,h2,h3⟩
  .rw[h1,h2]
  .rw[h1,h2]
   rcases h3 with rfl | ⟨e,sz,n,el,sZ,rfl,rfl,_⟩<;>rfl
 refine⟨λ k b c hb=>?_,hW.small,hW.old,λ k b c hb hl=>hW.own k b c hb (by rw[<-lives];exact hl),λ k k' b c c' hb hb' hl hl'=>hW.one k k' b c c' hb hb' (by rw[<-lives];exact hl) (by rw[<-lives];exact hl'),hW.below,hW.CY⟩;obtain⟨row,h1,h2⟩:=hW.rows k b c hb;rcases h.get k with⟨g1,_⟩ | ⟨r,r',g1,g2,g3⟩
 .rw[g1]at h1;cases h1
 .rw[g1]at h1
  cases h1;refine⟨r',g2,?_⟩;rcases g3 with rfl | ⟨e,sz,n,el,sZ,rfl,rfl,g4⟩
  .exact h2
  .obtain⟨cs,k1,k2,k3,k4,k5,k6⟩:=h2
   exact⟨cs,k1,k2,k3,k4,k5,λ i hi=>by rw[g4 i hi];exact k6 i hi⟩
theorem cu.HY{P:Program}{f:Nat}{args:List AV}{mem mem1 mem2:List Row}{v:AV}(h:cu P f args mem v mem1)(hs:rz mem1 mem2):cu P f args mem v mem2 :=
 ⟨h.1,λ R E aZ hp hW hg hr=>(h.2 R E aZ hp hW hg hr).mono λ _ _ ⟨u,E',h1,h2,h3,h4⟩=>⟨u,E',h1,h2,h3.same hs,h4⟩⟩
end
end Go.Gv
