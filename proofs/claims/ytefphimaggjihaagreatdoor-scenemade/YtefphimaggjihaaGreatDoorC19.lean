/-
  A loop that is told, and begins with a nil slice in a struct of ours.
-/
import Derived.Test.YtefphimaggjihaaGreatDoorC8
open List renaming getElem?_eq_getElem->adv,length_cons->anE
open Or renaming inl->ER,inr->aaH
namespace Go.Gv
open Go.RowKit Go.Ev
noncomputable section
def qd(ji:List (Nat × Nat × Nat))(σ:Nat->Option Nat):Nat->List AV->List AV
 |_,[]=>[]
 |i,x::xs=>akc σ (agy ji i) x::qd ji σ (i+1) xs
theorem yg{ji:List (Nat × Nat × Nat)}{σ:Nat->Option Nat}:∀(i:Nat) (l:List AV),ug σ l (qd ji σ i l)
 |_,[]=>trivial
 |i,_::xs=>⟨Ur _ _,yg (i+1) xs⟩
theorem yE{ji:List (Nat × Nat × Nat)}{σ:Nat->Option Nat}:∀(i:Nat) (l:List AV),(qd ji σ i l).length=l.length
 |_,[]=>rfl
 |i,_::xs=>by rw[qd,anE,anE,yE (i+1) xs]
def Qs(r0:Nat)(ji:List (Nat × Nat × Nat))(σ:Nat->Option Nat)(k:Nat):Row->Row
 |.c l=>cond (Nat.beq k r0) (.c (qd ji σ 0 l)) (.c (gP σ l))
 |.z _ _ _ _ _=>.dead
 |.t e l=>cond (Nat.beq k r0) (.t e (qd ji σ 0 l)) (.t e (gP σ l))
 |r=>r
def Qt(r0:Nat)(ji:List (Nat × Nat × Nat))(τ:List (Option Nat))(mem:List Row)(nr:Row):List (Option Nat)->List Row
 | []=>[]
 |none::os=>nr::Qt r0 ji τ mem nr os
 |some k::os=>Qs r0 ji (jR τ) k (mem.getD k .dead)::Qt r0 ji τ mem nr os
theorem CQ{r0:Nat}{ji:List (Nat × Nat × Nat)}{τ:List (Option Nat)}{mem:List Row}{nr:Row}:∀(os:List (Option Nat)),(os.all λ o=>match o with |some k=>Nat.blt k mem.length |none=>true)=true->o8 τ mem os (Qt r0 ji τ mem nr os)
 | [],_=>trivial
 |none::os,h=>⟨trivial,CQ os (by simpa using h)⟩
 |some k::os,h=>by
  simp only[List.all_cons,Bool.and_eq_true]at h;have hk:k<mem.length:=kJ h.1;refine⟨⟨mem[k],adv hk,?_⟩,CQ os h.2⟩;have e:mem.getD k .dead=mem[k]:=by rw[List.getD_eq_getElem?_getD,adv hk];rfl
  rw[e];cases hr:mem[k]with
  |c l =>
   simp only[Qs];cases Nat.beq k r0
   .exact aaH (ER ⟨l,gP (jR τ) l,rfl,rfl,sQ l⟩)
   .exact aaH (ER ⟨l,qd ji (jR τ) 0 l,rfl,rfl,yg 0 l⟩)
  |a e sz n el=>exact aaH (aaH (ER ⟨e,sz,n,el,el,rfl,rfl,λ _ _=>rfl⟩))
  |dead=>exact ER rfl
  |z x e sz n el=>exact ER rfl
  |t e l =>
   simp only[Qs];cases Nat.beq k r0
   .exact aaH (aaH (aaH (ER ⟨e,l,gP (jR τ) l,rfl,rfl,sQ l,qb l⟩)))
   .exact aaH (aaH (aaH (ER ⟨e,l,qd ji (jR τ) 0 l,rfl,rfl,yg 0 l,yE 0 l⟩)))
  |i s p e=>exact aaH (aaH (aaH (aaH ⟨s,p,e,rfl,rfl⟩)))
def auM(keep:List Nat)(r0:Nat)(ji:List (Nat × Nat × Nat))(nr:Row)(τ:List (Option Nat))(s:St):St:=⟨EG keep (jR τ) 0 s.slots,Qt r0 ji τ s.mem nr τ⟩
theorem agF{keep:List Nat}{r0:Nat}{ji:List (Nat × Nat × Nat)}{nr:Row}{τ:List (Option Nat)}{s:St}(h:jF τ s=true):Sub s (auM keep r0 ji nr τ s):=by
 unfold jF at h;simp only[Bool.and_eq_true]at h;exact VO τ h.1 (AY 0 s.slots) (CQ τ h.2)
noncomputable def BP(keep:List Nat)(r0:Nat)(ji:List (Nat × Nat × Nat))(nr:Row)(τ:List (Option Nat))(s0:St)(e:Exit)(sf:St):dN:=λ s k=>cond (jF τ s) (gate (Sub (auM keep r0 ji nr τ s) s0) (k e sf)) none
theorem zV{P:Program}{c:Code}{keep:List Nat}{r0:Nat}{ji:List (Nat × Nat × Nat)}{nr:Row}{τ:List (Option Nat)}{s0 sf:St}{e:Exit}(h:bF P (.loop c) s0 e sf):gI P c (BP keep r0 ji nr τ s0 e sf):=by
 have h1:=Ci h
 have get:∀{s:St} {k:jZ} {r:Out},BP keep r0 ji nr τ s0 e sf s k=some r->Sub s s0/\k e sf=some r:=fun{s k r} hr=>by
  unfold BP at hr;cases hf:jF τ s
  .rw[hf]at hr;cases hr
  .rw[hf]at hr
   simp only[cond_true]at hr;obtain⟨h2,h3⟩:=gY hr;exact⟨(agF hf).trans h2,h3⟩
 have eq:∀{s:St} {k:jZ} {r:Out},BP keep r0 ji nr τ s0 e sf s k=some r->∀k',BP keep r0 ji nr τ s0 e sf s k'=k' e sf:=fun{s k r} hr k'=>by
  unfold BP at hr ⊢;cases hf:jF τ s
  .rw[hf]at hr;cases hr
  .rw[hf]at hr
   simp only[cond_true]at hr ⊢;rw[ah (gY hr).1]
 have eq1:∀{s:St} {k:jZ} {r:Out},BP keep r0 ji nr τ s0 e sf s k=some r->∀k',told s0 e sf s k'=k' e sf:=fun{s k r} hr k'=>by
  unfold told;rw[if_pos (get hr).1]
 constructor
 .intro s k r hr
  exact⟨e,sf,(get hr).2,eq hr⟩
 .intro s s' e' hk
  have h0:=hk (λ e s=>some ⟨e,s,.any⟩);refine h1.2 s s' e' λ k'=>?_;rw[eq1 h0 k',<-eq h0 k'];exact hk k'
end
end Go.Gv
