/-
  A loop that is told, and begins with a nil slice in a struct of ours.
-/
import Derived.Test.YtefphimaggjihaaGreatDoorC8
namespace Go.Gv
open Go.RowKit Go.Ev
noncomputable section
def qj(ji:List(Nat × Nat × Nat))(σ:Nat→Option Nat):Nat→List AV→List AV
 |_,[]=>[]
 |i,x::xs=>al1 σ(ahv ji i)x::qj ji σ(i+1)xs
theorem yw {ji:List(Nat × Nat × Nat)}{σ:Nat→Option Nat}:∀(i:Nat)(l:List AV),uq σ l(qj ji σ i l)
 |_,[]=>trivial
 |i,_::xs=>⟨Vd _ _,yw(i+1)xs⟩
theorem yK {ji:List(Nat × Nat × Nat)}{σ:Nat→Option Nat}:∀(i:Nat)(l:List AV),(qj ji σ i l).length=l.length
 |_,[]=>rfl
 |i,_::xs=>by rw[qj,List.length_cons,List.length_cons,yK(i+1)xs]
def Q6(r0:Nat)(ji:List(Nat × Nat × Nat))(σ:Nat→Option Nat)(k:Nat):Row→Row
 |.c l=>cond(Nat.beq k r0)(.c(qj ji σ 0 l))(.c(gP σ l))
 |.z _ _ _ _ _=>.dead
 |.t e l=>cond(Nat.beq k r0)(.t e(qj ji σ 0 l))(.t e(gP σ l))
 |r=>r
def Q7(r0:Nat)(ji:List(Nat × Nat × Nat))(τ:List(Option Nat))(mem:List Row)(nr:Row):List(Option Nat)→List Row
 | []=>[]
 |none::os=>nr::Q7 r0 ji τ mem nr os
 |some k::os=>Q6 r0 ji(jR τ)k(mem.getD k .dead)::Q7 r0 ji τ mem nr os
theorem Da {r0:Nat}{ji:List(Nat × Nat × Nat)}{τ:List(Option Nat)}{mem:List Row}{nr:Row}:∀(os:List(Option Nat)),(os.all fun o=>match o with |some k=>Nat.blt k mem.length |none=>true)=true→pq τ mem os(Q7 r0 ji τ mem nr os)
 | [],_=>trivial
 |none::os,h=>⟨trivial,Da os(by simpa using h)⟩
 |some k::os,h=>by
  simp only[List.all_cons,Bool.and_eq_true]at h
  have hk:k<mem.length:=kJ h.1
  refine⟨⟨mem[k],List.getElem?_eq_getElem hk,?_⟩,Da os h.2⟩
  have e:mem.getD k .dead=mem[k]:=by rw[List.getD_eq_getElem?_getD,List.getElem?_eq_getElem hk];rfl
  rw[e]
  cases hr:mem[k]with
  |c l =>
   simp only[Q6]
   cases Nat.beq k r0
   ·exact Or.inr(Or.inl⟨l,gP(jR τ)l,rfl,rfl,sW l⟩)
   ·exact Or.inr(Or.inl⟨l,qj ji(jR τ)0 l,rfl,rfl,yw 0 l⟩)
  |a e sz n el=>exact Or.inr(Or.inr(Or.inl⟨e,sz,n,el,el,rfl,rfl,fun _ _=>rfl⟩))
  |dead=>exact Or.inl rfl
  |z x e sz n el=>exact Or.inl rfl
  |t e l =>
   simp only[Q6]
   cases Nat.beq k r0
   ·exact Or.inr(Or.inr(Or.inr(Or.inl⟨e,l,gP(jR τ)l,rfl,rfl,sW l,qg l⟩)))
   ·exact Or.inr(Or.inr(Or.inr(Or.inl⟨e,l,qj ji(jR τ)0 l,rfl,rfl,yw 0 l,yK 0 l⟩)))
  |i s p e=>exact Or.inr(Or.inr(Or.inr(Or.inr⟨s,p,e,rfl,rfl⟩)))
def axr(keep:List Nat)(r0:Nat)(ji:List(Nat × Nat × Nat))(nr:Row)(τ:List(Option Nat))(s:St):St:=⟨EX keep(jR τ)0 s.slots,Q7 r0 ji τ s.mem nr τ⟩
theorem ahC {keep:List Nat}{r0:Nat}{ji:List(Nat × Nat × Nat)}{nr:Row}{τ:List(Option Nat)}{s:St}(h:jF τ s=true):Sub s(axr keep r0 ji nr τ s):=by
 unfold jF at h
 simp only[Bool.and_eq_true]at h
 exact WV τ h.1(Bg 0 s.slots)(Da τ h.2)
noncomputable def Ce(keep:List Nat)(r0:Nat)(ji:List(Nat × Nat × Nat))(nr:Row)(τ:List(Option Nat))(s0:St)(e:Exit)(sf:St):dN:=fun s k=>cond(jF τ s)(gate(Sub(axr keep r0 ji nr τ s)s0)(k e sf))none
theorem z8 {P:Program}{c:Code}{keep:List Nat}{r0:Nat}{ji:List(Nat × Nat × Nat)}{nr:Row}{τ:List(Option Nat)}{s0 sf:St}{e:Exit}(h:bF P(.loop c)s0 e sf):gI P c(Ce keep r0 ji nr τ s0 e sf):=by
 have h1:=Cw h
 have get:∀{s:St}{k:jZ}{r:Out},Ce keep r0 ji nr τ s0 e sf s k=some r→Sub s s0∧k e sf=some r:=fun {s k r} hr=>by
  unfold Ce at hr
  cases hf:jF τ s
  ·rw[hf]at hr;cases hr
  ·rw[hf]at hr
   simp only[cond_true]at hr
   obtain⟨h2,h3⟩:=gY hr
   exact⟨(ahC hf).trans h2,h3⟩
 have eq:∀{s:St}{k:jZ}{r:Out},Ce keep r0 ji nr τ s0 e sf s k=some r→∀k',Ce keep r0 ji nr τ s0 e sf s k'=k' e sf:=fun {s k r} hr k'=>by
  unfold Ce at hr ⊢
  cases hf:jF τ s
  ·rw[hf]at hr;cases hr
  ·rw[hf]at hr
   simp only[cond_true]at hr ⊢
   rw[ah(gY hr).1]
 have eq1:∀{s:St}{k:jZ}{r:Out},Ce keep r0 ji nr τ s0 e sf s k=some r→∀k',told s0 e sf s k'=k' e sf:=fun {s k r} hr k'=>by
  unfold told
  rw[if_pos(get hr).1]
 constructor
 ·intro s k r hr
  exact⟨e,sf,(get hr).2,eq hr⟩
 ·intro s s' e' hk
  have h0:=hk(fun e s=>some⟨e,s,.any⟩)
  refine h1.2 s s' e' fun k'=>?_
  rw[eq1 h0 k',←eq h0 k']
  exact hk k'
end
end Go.Gv
