/-
  Loops that are told, in a call that was handed rows.
-/
import Derived.Test.YtefphimaggjihaaGreatDoorC13
import Derived.Test.YtefphimaggjihaaGreatDoorC11
namespace Go.Gv
open Go.RowKit Go.Ev
noncomputable section
def KF(np:Nat)(k:jZ):Prop:=∀e s o,k e s=some o->o.e=e/\iV np s o.s
theorem K6{np:Nat}{keep:List Nat}{τ:List (Option Nat)}{s:St}(hp:Co np τ=true)(h:jF τ s=true):iV np s (gN keep τ s):=by
 unfold jF at h;simp only[Bool.and_eq_true]at h;exact Zh τ (Tq hp) h.1 (AY 0 s.slots) (wC τ h.2)
theorem N9{np:Nat}(keep:List Nat){τ:List (Option Nat)}(hp:Co np τ=true):KF np (Tp keep τ):=λ e s o h=>by
 unfold Tp at h;cases hf:jF τ s
 .rw[hf]at h;cases h
 .rw[hf]at h
  simp only[cond_true,Option.some.injEq]at h;subst h;exact⟨rfl,K6 hp hf⟩
theorem jI{np:Nat}(keep:List Nat){τ:List (Option Nat)}(hp:Co np τ=true):KF np (fu keep τ):=λ e s o h=>by
 unfold fu at h;cases e<;>simp only at h<;>first | (cases h;done) |exact N9 keep hp _ s o h
theorem lT{np:Nat}(keep:List Nat){τ:List (Option Nat)}(hp:Co np τ=true):KF np (gM keep τ):=λ e s o h=>by
 unfold gM at h;cases e<;>simp only at h<;>first | (cases h;done) |exact N9 keep hp _ s o h
theorem J6{np:Nat}{P:Program}{T:Tab}{D:List Oper->St->SK->Option Out}{L:Nat->Option dN}{N:Nat}{c:Code}{s s':St}{e:Exit}{k:jZ}(hk:KF np k)(hT:Ao P T)(hD:DOk P D)(hL:nu np P L c)(h:gT P T D L N c s k=some ⟨e,s',.any⟩):fG np P c s e s':=λ A0 R w0 E a hp hI=>by
 refine Go.Code.wp_mono ?_ (Dx hp hT hD N c hL hI h);rintro e' a' w' ⟨E',s1,rfl,hI',he⟩;obtain⟨h1,h2⟩:=hk e' s1 _ he;obtain⟨E2,e2,h3⟩:=h2 A0 R w0 E' a' hp hI';exact⟨h1.symm,E2,e2,h3⟩
def rC(np:Nat)(keep:List Nat)(τ:List (Option Nat))(s0:St)(e:Exit)(sf:St):dN:=λ s k=>cond (jF τ s) (gate (iV np (gN keep τ s) s0) (k e sf)) none
theorem jy{np:Nat}{P:Program}{c:Code}{keep:List Nat}{τ:List (Option Nat)}{s0 sf:St}{e:Exit}(hp:Co np τ=true)(h:fG np P (.loop c) s0 e sf):Dw np P c (rC np keep τ s0 e sf):=by
 have get:∀{s:St} {k:jZ} {r:Out},rC np keep τ s0 e sf s k=some r->iV np s s0/\k e sf=some r:=fun{s k r} hr=>by
  unfold rC at hr;cases hf:jF τ s
  .rw[hf]at hr;cases hr
  .rw[hf]at hr
   simp only[cond_true]at hr;obtain⟨h2,h3⟩:=gY hr;exact⟨(K6 hp hf).trans h2,h3⟩
 have eq:∀{s:St} {k:jZ} {r:Out},rC np keep τ s0 e sf s k=some r->∀k',rC np keep τ s0 e sf s k'=k' e sf:=fun{s k r} hr k'=>by
  unfold rC at hr ⊢;cases hf:jF τ s
  .rw[hf]at hr;cases hr
  .rw[hf]at hr
   simp only[cond_true]at hr ⊢;rw[ah (gY hr).1]
 constructor
 .intro s k r hr
  exact⟨e,sf,(get hr).2,eq hr⟩
 .intro s s' e' hk A0 R w0 E a hp' hI
  have h0:=hk (λ e s=>some ⟨e,s,.any⟩);obtain⟨hs,he⟩:=get h0;simp only[Option.some.injEq,Out.mk.injEq,and_true]at he;obtain⟨rfl,rfl⟩:=he;obtain⟨E1,e1,hI1⟩:=hs A0 R w0 E a hp' hI;have:=h A0 R w0 E1 a hp' hI1;rw[e1]at this;exact this
theorem zk{np:Nat}{P:Program}{c:Code}{i:Nat}{g:dN}(m:Nat)(hlen:(bC c).length=m)(h:∀j,j<m->jA ((bC c).getD j .skip)=some i->Dw np P ((bC c).getD j .skip) g):nu np P (gu i g) c:=by
 intro c' hc i' g' hi hg;obtain⟨j,hj,rfl⟩:=List.mem_iff_getElem.1 hc;unfold gu at hg;cases hb:Nat.beq i' i
 .rw[hb]at hg;cases hg
 .rw[hb]at hg
  cases hg;have e1:=Nat.eq_of_beq_eq_true hb;subst e1;have e2:(bC c).getD j .skip=(bC c)[j]:=by rw[List.getD_eq_getElem?_getD,List.getElem?_eq_getElem hj];rfl
  have:=h j (by omega) (by rw[e2];exact hi);rw[e2]at this;exact this
theorem aS{np:Nat}{P:Program}{c:Code}:nu np P aM c:=λ _ _ _ _ _ h=>by cases h
end
end Go.Gv
