/-
  Calls that are handed all of our rows, calls that look at rows of ours; texts one part behind the other.
-/
import Derived.Test.YtefphimaggjihaaGreatDoorC14
open Nat renaming beq->ax0,eq_of_beq_eq_true->axO,le_trans->apL
namespace Go.Gv
open Go.RowKit Go.Ev
noncomputable section
structure bH where
 f:Nat
 g:aa0
structure lY where
 f:Nat
 g:VY
def ZM:List bH->Nat->Option aa0
 | [],_=>none
 |e::l,f=>cond (ax0 e.f f) (some e.g) (ZM l f)
def ZN:List lY->Nat->Option VY
 | [],_=>none
 |e::l,f=>cond (ax0 e.f f) (some e.g) (ZN l f)
def xu(l:List Entry)(ks:List aV)(ms:List fQ)(ws:List bH)(rs:List lY):Tab:=⟨GN l,Kk ks,Tg ms,Ti ms,ZM ws,ZN rs⟩
def vk(P:Program)(e:bH):Prop:=WOk P e.f e.g
def Wp(P:Program)(e:lY):Prop:=ROk P e.f e.g
theorem Tj{P:Program}{f:Nat}{g:aa0}:∀(ws:List bH),(∀e,e∈ws->vk P e)->ZM ws f=some g->WOk P f g
 | [],_,h=>by cases h
 |e::l,hw,h=>by
  simp only[ZM]at h;cases hb:ax0 e.f f
  .rw[hb]at h;exact Tj l (λ e' he'=>hw e' (by simp[he'])) h
  .rw[hb]at h
   simp only[cond_true,Option.some.injEq]at h;have e1:=axO hb;rw[<-h,<-e1];exact hw e (by simp)
theorem Tm{P:Program}{f:Nat}{g:VY}:∀(ws:List lY),(∀e,e∈ws->Wp P e)->ZN ws f=some g->ROk P f g
 | [],_,h=>by cases h
 |e::l,hw,h=>by
  simp only[ZN]at h;cases hb:ax0 e.f f
  .rw[hb]at h;exact Tm l (λ e' he'=>hw e' (by simp[he'])) h
  .rw[hb]at h
   simp only[cond_true,Option.some.injEq]at h;have e1:=axO hb;rw[<-h,<-e1];exact hw e (by simp)
theorem gL{P:Program}{l:List Entry}{ks:List aV}{ms:List fQ}{ws:List bH}{rs:List lY}(hl:∀e,e∈l->lg P e)(hk:∀e,e∈ks->tO P e)(hm:∀e,e∈ms->vU P e)(hw:∀e,e∈ws->vk P e)(hr:∀e,e∈rs->Wp P e):Ao P (xu l ks ms ws rs):=by
 obtain⟨_,h2,h3,_⟩:=qN (P:=P) (l:=l) (ks:=ks) (ms:=ms) hl hk hm;exact⟨Py hl hk,h2,h3,λ _ _ h=>Tj ws hw h,λ _ _ h=>Tm rs hr h⟩
def evW(P:Program)(l:List Entry)(ks:List aV)(ms:List fQ)(ws:List bH)(rs:List lY)(L:Nat->Option dN)(fn:Func)(args:List AV)(k:AV->Option Out):Option Out:=abody P (xu l ks ms ws rs) (lZ P (xu l ks ms ws rs)) L 40 fn args k
def tC(P:Program)(l:List Entry)(ks:List aV)(ms:List fQ)(ws:List bH)(rs:List lY)(L:Nat->Option dN)(c:Code)(s:St)(k:jZ):Option Out:=gT P (xu l ks ms ws rs) (lZ P (xu l ks ms ws rs)) L 40 c s k
def eu(P:Program)(l:List Entry)(ks:List aV)(ms:List fQ)(ws:List bH)(rs:List lY)(L:Nat->Option dN)(fn:Func)(args:List AV)(mem:List Row)(τ:List (Option Nat)):Option Out:=Po P (xu l ks ms ws rs) (lZ P (xu l ks ms ws rs)) L 40 fn args mem τ
theorem yT{P:Program}{f:Nat}{args:List AV}{mem mem1:List Row}{v:AV}(h:cu P f args mem v mem1):bP P f args mem v mem1:=by
 refine⟨h.1,λ A0 R w0 E aZ hW hg hr=>?_⟩;let R':Nat->Prop:=λ b=>∃k c,E.O k=some (b,c)/\aK mem k=true;have hW1:Wd E.A R' E E mem:=⟨hW.rows,hW.small,λ _ h=>h,λ k b c hb hl=>⟨(hW.own k b c hb hl).1,Or.inl ⟨k,c,hb,hl⟩⟩,hW.one,nJ.refl _ _,Env.le.refl _⟩
 have hp:Ju mem.length E.A R' E:=by
  refine⟨λ k hk=>?_,λ b ⟨k,c,hb,_⟩=>⟨k,c,hW.dom k b c hb,hb⟩,hW.small⟩;cases hO:E.O k with
  |none=>rfl
  |some p=>have:=hW.dom k p.1 p.2 hO;omega
 refine(h.2 R' E aZ hp hW1 hg hr).mono ?_;rintro e w' ⟨u,E',rfl,rfl,hW2,hu⟩;refine⟨u,E',rfl,rfl,hW2.CY,⟨hW2.rows,hW2.small,λ b hb=>hW2.old b (hW.old b hb),λ k b c hb hl=>?_,hW2.one,?_,hW.CY.trans hW2.CY⟩,hu⟩
 .obtain⟨h1,h2⟩:=hW2.own k b c hb hl
  refine⟨h1,?_⟩;rcases h2 with⟨k',c',hb',hl'⟩ |h2
  .exact(hW.own k' b c' hb' hl').2
  .exact Or.inr (apL hW.below.size h2)
 .refine⟨hW2.below.os.trans hW.below.os,hW2.below.tape.trans hW.below.tape,hW2.below.output.trans hW.below.output,apL hW.below.size hW2.below.size,λ b hb hn=>(hW2.below.block b (Nat.lt_of_lt_of_le hb hW.below.size) ?_).trans (hW.below.block b hb hn)⟩
  rintro⟨k,c,hb',hl⟩;rcases(hW.own k b c hb' hl).2 with h |h
  .exact hn h
  .omega
def iX(σ:Nat->Option Nat):Row->Row
 |.c l=>.c (gP σ l)
 |.t e l=>.t e (gP σ l)
 |r=>r
theorem Tn(σ:Nat->Option Nat)(r:Row):(iX σ r).live=r.live:=by cases r<;>rfl
theorem Pz:∀(xs:List AV) {σ:Nat->Option Nat} {E:Env} {O':Nat->Option (Nat × Nat × Nat)} (_:∀k k' p,σ k=some k'->E.O k=some p->O' k'=some p) (us:List Value),pre E xs us->pre { E with O:=O' } (gP σ xs) us
 | [],_,_,_,_,_,_=>by rw[gP];exact pre_nil
 |x::xs,σ,E,O',h,us,hp=>by
  obtain⟨u,us',rfl,h1,h2⟩:=bE.1 hp;rw[gP];exact bE.2 ⟨u,us',rfl,vJ x h u h1,Pz xs h us' h2⟩
theorem Kl{σ:Nat->Option Nat}{E:Env}{O':Nat->Option (Nat × Nat × Nat)}(h:∀k k' p,σ k=some k'->E.O k=some p->O' k'=some p){b:Nat}{c:Nat × Nat}{row:Row}(hr:rH E b c row):rH { E with O:=O' } b c (iX σ row):=by
 cases row with
 |c l =>
  obtain⟨cs,e,h1,h2⟩:=hr;exact⟨cs,e,h1,Pz l h _ h2⟩
 |a e sz n el=>exact hr
 |dead=>trivial
 |z x e sz n el=>exact hr
 |i s p e=>exact hr
 |t e l =>
  obtain⟨cs,h1,h2,h3⟩:=hr;exact⟨cs,h1,Pz l h _ h2,by rw[qb];exact h3⟩
end
end Go.Gv
