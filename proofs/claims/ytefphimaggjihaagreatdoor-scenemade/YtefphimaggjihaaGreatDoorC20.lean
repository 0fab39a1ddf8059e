/-
  A row of ours that is not written any more: frozen.
-/
import Derived.Test.YtefphimaggjihaaGreatDoorC8
namespace Go.Gv
open Go.RowKit Go.Ev
def abu(k sz n:Nat)(el:Nat->List AV):List AV->List AV->Prop
 | [],[]=>True
 |x::xs,y::ys=>(y=x\/(x=.fJ k sz 0 n/\y=.sl sz n el))/\abu k sz n el xs ys
 |_,_=>False
theorem KQ{E E':Env}{k sz n:Nat}{el:Nat->List AV}(hle:E.le E')(hrow:∀u,rel E (.fJ k sz 0 n) u->rel E' (.sl sz n el) u):∀{l l':List AV} {us:List Value},abu k sz n el l l'->pre E l us->pre E' l' us
 | [],[],_,_,_=>pre_nil
 |x::xs,y::ys,us,h,hp=>by
  obtain⟨u,us',rfl,h1,h2⟩:=bE.1 hp;refine bE.2 ⟨u,us',rfl,?_,KQ hle hrow h.2 h2⟩;rcases h.1 with rfl | ⟨rfl,rfl⟩
  .exact mM hle h1
  .exact hrow u h1
 | [],_::_,_,h,_=>h.elim
 |_::_,[],_,h,_=>h.elim
theorem Es{np:Nat}{slots sK:List (AV × Chain)}{mem mem':List Row}{k:Nat}{e:TypeId}{sz n:Nat}{el:Nat->List AV}(hk:mem[k]?=some (.a e sz n el))
  (hM:∀j row,mem[j]?=some row->∃row',mem'[j]?=some row'/\((j=k/\row'=.dead)\/(j≠k/\(row'=row\/∃l l',row=.c l/\row'=.c l'/\abu k sz n el l l'))))
  (hlen:sK.length=slots.length) (hch:∀t,(slots.getD t dflt).2=[]) (hS:∀t,sK.getD t dflt=slots.getD t dflt\/((slots.getD t dflt).1=.fJ k sz 0 n/\sK.getD t dflt=(.sl sz n el,[])))
  (hnp:np<=k) (hlv:∀j,j<np->aK mem j=true):iV np ⟨slots,mem⟩ ⟨sK,mem'⟩:=by
 intro A0 R w0 E a hp0 hI;have hwd:Wd A0 R w0 E mem:=hI.wd;have hlk:aK mem k=true:=by unfold aK;rw[hk];rfl
 let E':Env:={ E with A:=λ b=>E.A b/\∀c,E.O k≠some (b,c) }
 have hle:E.le E':=⟨λ b hb ob LJ=>⟨λ h=>hb h.1,LJ⟩,λ _ _ h=>h⟩
 have hrow:∀u,rel E (.fJ k sz 0 n) u->rel E' (.sl sz n el) u:=λ u hu=>by
  rcases fM.1 hu with⟨_,h0,rfl⟩ | ⟨b,c,n0,hO,h1,h2,rfl⟩
  .exact iM.2 ⟨none,0,by rw[h0],by omega,Or.inl h0⟩
  .obtain⟨row,g1,g2⟩:=hwd.rows k b (c,n0) hO
   rw[hk]at g1;cases g1;obtain⟨cs,h3,h4,h5,h6,h7,h8⟩:=g2;refine iM.2 ⟨_,_,rfl,by omega,Or.inr ⟨b,0,cs,e,(0,0),by rw[Nat.zero_mul],λ h=>h.2 _ hO,h3,λ i hi=>?_⟩⟩;obtain⟨h9,h10⟩:=h8 i hi;refine⟨h9,?_⟩;rw[Nat.zero_add];exact kg hle.fz h10
 have hlive:∀j,aK mem' j=true->(∃p,E.O j=some p)->j≠k/\aK mem j=true:=λ j hj ⟨p,hp⟩=>by
  obtain⟨row,g1,_⟩:=hwd.rows j p.1 p.2 hp;obtain⟨row',g2,g3⟩:=hM j row g1;unfold aK at hj ⊢;rw[g2]at hj;rw[g1];rcases g3 with⟨_,rfl⟩ | ⟨hne,rfl | ⟨l,l',rfl,rfl,_⟩⟩
  .cases hj
  .exact⟨hne,hj⟩
  .exact⟨hne,rfl⟩
 have hfr:Bo E' sK sK a.tmps:=by
  have h0:=hI.frame;refine⟨⟨by rw[hlen];exact h0.1.1,H6 hle h0.1.2⟩,λ t=>?_⟩;have h1:=h0.2 t;rcases hS t with h2 | ⟨h2,h3⟩
  .rw[h2,hch t]
   have h1:(qo slots (slots.getD t dflt).2=true->rel E (slots.getD t dflt).1 (a.tmps.getD t undef))/\_:=h1;rw[hch t]at h1;exact⟨λ _=>mM hle (h1.1 rfl),λ h=>by cases h⟩
  .rw[h3]
   have h1:(qo slots (slots.getD t dflt).2=true->rel E (slots.getD t dflt).1 (a.tmps.getD t undef))/\_:=h1;rw[hch t,h2]at h1;exact⟨λ _=>hrow _ (h1.1 rfl),λ h=>by cases h⟩
 refine⟨E',rfl,hI.defers,hfr,⟨λ j b c hb=>?_,λ b hb=>hwd.small b hb.1,λ b hb=>⟨hwd.old b hb,λ c hc=>?_⟩,λ j b c hb hl=>?_,λ j j' b c c' hb hb' hl hl'=>?_,hwd.below,⟨λ b hb ob LJ=>?_,hwd.CY.own⟩⟩⟩
 .obtain⟨row,g1,g2⟩:=hwd.rows j b c hb
  obtain⟨row',g3,g4⟩:=hM j row g1;refine⟨row',g3,?_⟩;rcases g4 with⟨_,rfl⟩ | ⟨hne,rfl | ⟨l,l',rfl,rfl,hf⟩⟩
  .trivial
  .exact pU hle g2 λ _=>rfl
  .obtain⟨cs,e0,h3,h4⟩:=g2
   exact⟨cs,e0,h3,KQ hle hrow hf h4⟩
 .have h2:=hp0.2.2
  have h3:=(hwd.own k b c hc hlk).2;have h4:=h2 b hb;rcases h3 with h3 |h3
  .obtain⟨j,c',hj,hO⟩:=hp0.2.1 b h3
   have:=hwd.one k j b c c' hc (hwd.CY.own j _ hO) hlk (hlv j hj);omega
  .omega
 .obtain⟨hne,hl2⟩:=hlive j hl ⟨_,hb⟩
  obtain⟨h1,h2⟩:=hwd.own j b c hb hl2;exact⟨⟨h1,λ c' hc=>hne (hwd.one j k b c c' hb hc hl2 hlk)⟩,h2⟩
 .exact hwd.one j j' b c c' hb hb' (hlive j hl ⟨_,hb⟩).2 (hlive j' hl' ⟨_,hb'⟩).2
 .obtain⟨h1,h2⟩:=hwd.CY.keep b hb ob LJ
  exact⟨λ h=>h1 h.1,h2⟩
theorem TD{slots sK:List (AV × Chain)}{mem mem':List Row}{k:Nat}{e:TypeId}{sz n:Nat}{el:Nat->List AV}(hk:mem[k]?=some (.a e sz n el))
  (hM:∀j row,mem[j]?=some row->∃row',mem'[j]?=some row'/\((j=k/\row'=.dead)\/(j≠k/\(row'=row\/∃l l',row=.c l/\row'=.c l'/\abu k sz n el l l'))))
  (hlen:sK.length=slots.length) (hch:∀t,(slots.getD t dflt).2=[]) (hS:∀t,sK.getD t dflt=slots.getD t dflt\/((slots.getD t dflt).1=.fJ k sz 0 n/\sK.getD t dflt=(.sl sz n el,[]))):Sub ⟨slots,mem⟩ ⟨sK,mem'⟩:=Es hk hM hlen hch hS (Nat.zero_le _) λ j hj=>absurd hj (Nat.not_lt_zero j)
end Go.Gv
