/-
  The second evaluator, part Ga.
-/
import Derived.Test.YtefphimaggjihaaGreatDoorC4
import Derived.WalkKit
import Derived.WalkLawsBesides
import Derived.Deep.MidRow
import Derived.Laws.AppendOwn
import Derived.Laws.MakeOwn
import Derived.Laws.BytesString
open Array renaming append_empty->azF,empty_append->azd,ext'->azJ,map->aCw,toList_append->aAB,toList_eq_nil_iff->aA9,toList_extract->aCC
open Bool renaming and_eq_true->J8,false_eq_true->ayX,or_eq_false_iff->ahD
open Classical renaming choose->aCv,choose_spec->aCe
open Go.Addr renaming add->aBr
open Go.Call renaming operands->ayu
open Go.Instr renaming build->aCO,extract->aD5,field->aEz,fieldAt->aD4,fill->aDe,index->aB7,indexAt->aAT,loadAt->aEk,makeInterface->aCP,missingMethod->aAr,slice->aCN,sliceAt->az3,sliceBound->aAV,sliceBounds->az8,sureAddr->aBl,typeAssert->aAW
open Go.Op renaming complexOp->aEV,eqFields->aE5,equal->azL,equalIn->azg,maxDepth->azs,negFloat->aDp,operands->aeG,unary->aEF
open Go.Op.Complex renaming add->aE4,arith->azE,cmp->az2,conv->aE0,mul->aE2,product->aE1,sub->aE3
open Go.Result renaming andThen->aAJ,andThen_ok->xU
open Go.Sem renaming run_bind->YC,run_ite->aCB,run_pure->abP
open Iff renaming rfl->aA3
open List renaming all_cons->aB0,any_eq_true->aCl,cons_append->aBZ,drop_succ_cons->aAs,drop_zero->aD2,extract->aCA,foldr_cons->aDI,getElem?_cons_zero->aCr,getElem?_drop->aoD,getElem?_take->axq,getElem?_toArray->aCD,length_cons->anE,mem_filter->az9,nil_append->aBR,range->av2,take_succ_cons->aBq,take_zero->aD3
open Nat renaming add_assoc->aAq,add_mul->asM,add_zero->ayO,beq->ax0,ble->aqE,ble_eq_true_of_le->ah4,blt->afC,le_of_ble_eq_true->Sr,le_refl->ao5,lt_or_ge->aA4,mul_one->ayY,zero_add->avB
open Option renaming getD_none->aAU,getD_some->ayV,map_none->aDq,map_some->amS
open Option.some renaming injEq->jN
open Or renaming inl->ER,inr->aaH
open Prod.mk renaming injEq->EU
namespace Go.Gv
open Go.RowKit Go.Ev
inductive AV where
 |x (v:Value)
 |f (w:Nat)
 |cx (re im:Nat)
 |agg (l:List AV)
 |aN (l:List AV)
 |own (k off:Nat)
 |pR (k sz i sub:Nat)
 |fJ (k sz st len:Nat)
 |view (k sz st sub n:Nat)
 |ref (l:List AV) (off:Nat)
 |sl (sz n:Nat) (el:Nat->List AV)
 |sW (t:TypeId) (x:AV)
 |fn (g:Fn) (a b:List AV)
 |any
 deriving Inhabited
structure Env where
 w:World
 A:Nat->Prop
 O:Nat->Option (Nat × Nat × Nat)
def Env.fz(E:Env):Env:={ E with O:=λ _=>none }
mutual
def bN:AV->Env->Value->Prop
 |.x v,_,u=>u=v
 |.f a,_,u=>∃b,u=.float .f64 b/\cn b=a
 |.cx a c,_,u=>∃b d,u=.complex .f64 b d/\cn b=a/\cn d=c
 |.agg l,E,u=>∃vs,u=.agg vs/\gU l E vs.toList
 |.aN l,E,u=>∃vs,u=.tuple vs/\gU l E vs.toList
 |.own k off,E,u=>∃b c,E.O k=some (b,c)/\u=.pointer (some ⟨b,off,none⟩)
 |.pR k sz i sub,E,u=>∃b c,E.O k=some (b,c)/\u=.pointer (some ⟨b,i*sz+sub,none⟩)
 |.fJ k sz st len,E,u=>(st=0/\len=0/\u=.slice none 0 0)\/∃b c n,E.O k=some (b,c,n)/\st+len<=n/\n<=c/\u=.slice (some ⟨b,st*sz,none⟩) len (c - st)
 |.view k sz st sub n,E,u=>∃a c,u=.slice a n c/\n<=c/\(n=0\/∃b c',E.O k=some (b,c')/\a=some ⟨b,st*sz+sub,none⟩)
 |.ref l off,E,u=>∃b o cs e fz,u=.pointer (some ⟨b,o+off,none⟩)/\¬E.A b/\E.w.heap[b]?=some (.cells cs e fz)/\tF l E.fz (cs.toList.drop o)
 |.sl sz n el,E,u=>∃a c,u=.slice a n c/\n<=c/\(n=0\/∃b o cs e fz,a=some ⟨b,o,none⟩/\¬E.A b/\E.w.heap[b]?=some (.cells cs e fz)/\∀i,i<n->(el i).length=sz/\tF (el i) E.fz (cs.toList.drop (o+i*sz)))
 |.sW t x,E,u=>∃y,u=.iface t y/\bN x E y
 |.fn g a b,E,u=>∃va vb,u=.func g va vb/\gU a E va.toList/\gU b E vb.toList
 |.any,_,_=>True
def gU:List AV->Env->List Value->Prop
 | [],_,[]=>True
 |x::xs,E,v::vs=>bN x E v/\gU xs E vs
 |_,_,_=>False
def tF:List AV->Env->List Value->Prop
 | [],_,_=>True
 |x::xs,E,v::vs=>bN x E v/\tF xs E vs
 |_::_,_,[]=>False
end
def rel(E:Env)(x:AV)(u:Value):Prop:=bN x E u
def dB(E:Env)(xs:List AV)(us:List Value):Prop:=gU xs E us
def pre(E:Env)(xs:List AV)(us:List Value):Prop:=tF xs E us
structure Env.le(E E':Env):Prop where
 keep:∀b,¬E.A b->∀ob,E.w.heap[b]?=some ob->¬E'.A b/\E'.w.heap[b]?=some ob
 own:∀k b,E.O k=some b->E'.O k=some b
theorem Env.le.refl(E:Env):E.le E:=⟨λ _ h _ h'=>⟨h,h'⟩,λ _ _ h=>h⟩
theorem Env.le.trans{E E' E'':Env}(h:E.le E')(h':E'.le E''):E.le E'':=⟨λ b hb ob LJ=>by
  obtain⟨h1,h2⟩:=h.keep b hb ob LJ;exact h'.keep b h1 ob h2,λ k b hb=>h'.own k b (h.own k b hb)⟩
theorem Env.le.fz{E E':Env}(h:E.le E'):E.fz.le E'.fz:=⟨h.keep,λ k b hb=>by cases hb⟩
mutual
theorem IG:∀(x:AV) {E E':Env} (_:E.le E') (u:Value),bN x E u->bN x E' u
 |.x v,_,_,_,u,hr=>by unfold bN at *;exact hr
 |.f a,_,_,_,u,hr=>by unfold bN at *;exact hr
 |.cx a c,_,_,_,u,hr=>by unfold bN at *;exact hr
 |.agg l,_,_,h,u,hr=>by
  unfold bN at *;obtain⟨vs,h1,h2⟩:=hr;exact⟨vs,h1,wJ l h _ h2⟩
 |.aN l,_,_,h,u,hr=>by
  unfold bN at *;obtain⟨vs,h1,h2⟩:=hr;exact⟨vs,h1,wJ l h _ h2⟩
 |.own k off,_,_,h,u,hr=>by
  unfold bN at *;obtain⟨b,c,h1,h2⟩:=hr;exact⟨b,c,h.own k _ h1,h2⟩
 |.pR k sz i sub,_,_,h,u,hr=>by
  unfold bN at *;obtain⟨b,c,h1,h2⟩:=hr;exact⟨b,c,h.own k _ h1,h2⟩
 |.fJ k sz st len,_,_,h,u,hr=>by
  unfold bN at *;rcases hr with hr | ⟨b,c,n,h1,h2⟩
  .exact ER hr
  .exact aaH ⟨b,c,n,h.own k _ h1,h2⟩
 |.view k sz st sub n,_,_,h,u,hr=>by
  unfold bN at *;obtain⟨a,c,h1,h2,h3⟩:=hr;refine⟨a,c,h1,h2,?_⟩;rcases h3 with h3 | ⟨b,c',h4,h5⟩
  .exact ER h3
  .exact aaH ⟨b,c',h.own k _ h4,h5⟩
 |.ref l off,_,_,h,u,hr=>by
  unfold bN at *;obtain⟨b,o,cs,e,fz,h1,h2,h3,h4⟩:=hr;obtain⟨g1,g2⟩:=h.keep b h2 _ h3;exact⟨b,o,cs,e,fz,h1,g1,g2,o9 l h.fz _ h4⟩
 |.sl sz n el,_,_,h,u,hr=>by
  unfold bN at *;obtain⟨a,c,h1,h2,h3⟩:=hr;refine⟨a,c,h1,h2,?_⟩;rcases h3 with h3 | ⟨b,o,cs,e,fz,h4,h5,h6,h7⟩
  .exact ER h3
  .obtain⟨g1,g2⟩:=h.keep b h5 _ h6
   exact aaH ⟨b,o,cs,e,fz,h4,g1,g2,λ i hi=>⟨(h7 i hi).1,o9 (el i) h.fz _ (h7 i hi).2⟩⟩
 |.sW t x,_,_,h,u,hr=>by
  unfold bN at *;obtain⟨y,h1,h2⟩:=hr;exact⟨y,h1,IG x h y h2⟩
 |.fn g a b,_,_,h,u,hr=>by
  unfold bN at *;obtain⟨va,vb,h1,h2,h3⟩:=hr;exact⟨va,vb,h1,wJ a h _ h2,wJ b h _ h3⟩
 |.any,_,_,_,_,_=>by unfold bN;trivial
theorem wJ:∀(xs:List AV) {E E':Env} (_:E.le E') (us:List Value),gU xs E us->gU xs E' us
 | [],_,_,_,[],_=>by unfold gU;trivial
 |x::xs,_,_,h,u::us,hr=>by
  unfold gU at *;exact⟨IG x h u hr.1,wJ xs h us hr.2⟩
 | [],_,_,_,_::_,hr=>by unfold gU at hr;exact hr.elim
 |_::_,_,_,_,[],hr=>by unfold gU at hr;exact hr.elim
theorem o9:∀(xs:List AV) {E E':Env} (_:E.le E') (us:List Value),tF xs E us->tF xs E' us
 | [],_,_,_,_,_=>by unfold tF;trivial
 |x::xs,_,_,h,u::us,hr=>by
  unfold tF at *;exact⟨IG x h u hr.1,o9 xs h us hr.2⟩
 |_::_,_,_,_,[],hr=>by unfold tF at hr;exact hr.elim
end
theorem mM{E E':Env}(h:E.le E'){x:AV}{u:Value}(hr:rel E x u):rel E' x u:=IG x h u hr
theorem um{E E':Env}(h:E.le E'){xs:List AV}{us:List Value}(hr:dB E xs us):dB E' xs us:=wJ xs h us hr
theorem kg{E E':Env}(h:E.le E'){xs:List AV}{us:List Value}(hr:pre E xs us):pre E' xs us:=o9 xs h us hr
theorem bI{E:Env}{v u:Value}:rel E (.x v) u↔u=v:=by unfold rel;first | (rw[bN];done) | (rw[bN];exact aA3)
theorem jB{E:Env}{a:Nat}{u:Value}:rel E (.f a) u↔∃b,u=.float .f64 b/\cn b=a:=by unfold rel;first | (rw[bN];done) | (rw[bN];exact aA3)
theorem kV{E:Env}{l:List AV}{u:Value}:rel E (.agg l) u↔∃vs,u=.agg vs/\dB E l vs.toList:=by unfold rel;first | (rw[bN];done) | (rw[bN];exact aA3)
theorem nI{E:Env}{l:List AV}{u:Value}:rel E (.aN l) u↔∃vs,u=.tuple vs/\dB E l vs.toList:=by unfold rel;first | (rw[bN];done) | (rw[bN];exact aA3)
theorem jh{E:Env}{k off:Nat}{u:Value}:rel E (.own k off) u↔∃b c,E.O k=some (b,c)/\u=.pointer (some ⟨b,off,none⟩):=by unfold rel;first | (rw[bN];done) | (rw[bN];exact aA3)
theorem rY{E:Env}{k sz i sub:Nat}{u:Value}:rel E (.pR k sz i sub) u↔∃b c,E.O k=some (b,c)/\u=.pointer (some ⟨b,i*sz+sub,none⟩):=by unfold rel;first | (rw[bN];done) | (rw[bN];exact aA3)
theorem lD{E:Env}{k sz st sub n:Nat}{u:Value}:rel E (.view k sz st sub n) u↔∃a c,u=.slice a n c/\n<=c/\(n=0\/∃b c',E.O k=some (b,c')/\a=some ⟨b,st*sz+sub,none⟩):=by unfold rel;rw[bN]
theorem fM{E:Env}{k sz st len:Nat}{u:Value}:rel E (.fJ k sz st len) u↔(st=0/\len=0/\u=.slice none 0 0)\/∃b c n,E.O k=some (b,c,n)/\st+len<=n/\n<=c/\u=.slice (some ⟨b,st*sz,none⟩) len (c - st):=by unfold rel;first | (rw[bN];done) | (rw[bN];exact aA3)
theorem w9{E:Env}{l:List AV}{off:Nat}{u:Value}:rel E (.ref l off) u↔∃b o cs e fz,u=.pointer (some ⟨b,o+off,none⟩)/\¬E.A b/\E.w.heap[b]?=some (.cells cs e fz)/\pre E.fz l (cs.toList.drop o):=by unfold rel;first | (rw[bN];done) | (rw[bN];exact aA3)
theorem iM{E:Env}{sz n:Nat}{el:Nat->List AV}{u:Value}:rel E (.sl sz n el) u↔∃a c,u=.slice a n c/\n<=c/\(n=0\/∃b o cs e fz,a=some ⟨b,o,none⟩/\¬E.A b/\E.w.heap[b]?=some (.cells cs e fz)/\∀i,i<n->(el i).length=sz/\pre E.fz (el i) (cs.toList.drop (o+i*sz))):=by unfold rel;first | (rw[bN];done) | (rw[bN];exact aA3)
theorem qL{E:Env}{t:TypeId}{x:AV}{u:Value}:rel E (.sW t x) u↔∃y,u=.iface t y/\rel E x y:=by
 unfold rel;first | (rw[bN];done) | (rw[bN];exact aA3)
theorem lQ{E:Env}{u:Value}:rel E .any u:=by unfold rel;rw[bN];trivial
theorem bK{E:Env}{us:List Value}:dB E [] us↔us=[]:=by
 unfold dB;cases us with
 |nil=>simp[gU]
 |cons u us=>simp[gU]
theorem aH{E:Env}{x:AV}{xs:List AV}{us:List Value}:dB E (x::xs) us↔∃u us',us=u::us'/\rel E x u/\dB E xs us':=by
 unfold dB;cases us with
 |nil=>simp[gU]
 |cons u us=>rw[gU];exact⟨λ h=>⟨u,us,rfl,h⟩,λ⟨_,_,h,g⟩=>by cases h;exact g⟩
theorem pre_nil{E:Env}{us:List Value}:pre E [] us:=by unfold pre;rw[tF];trivial
theorem bE{E:Env}{x:AV}{xs:List AV}{us:List Value}:pre E (x::xs) us↔∃u us',us=u::us'/\rel E x u/\pre E xs us':=by
 cases us with
 |nil=>unfold pre;rw[tF];exact⟨λ h=>h.elim,λ⟨_,_,h,_⟩=>by cases h⟩
 |cons u us=>unfold pre;rw[tF];exact⟨λ h=>⟨u,us,rfl,h⟩,λ⟨_,_,h,g⟩=>by cases h;exact g⟩
theorem dJ{E:Env}:∀{xs:List AV} {vs:List Value},dB E xs vs->xs.length=vs.length
 | [],vs,h=>by rw[bK.1 h];rfl
 |x::xs,vs,h=>by
  obtain⟨u,us,rfl,_,h2⟩:=aH.1 h;simp[dJ h2]
theorem dV{E:Env}:∀{xs:List AV} {vs:List Value},dB E xs vs->pre E xs vs
 | [],vs,_=>pre_nil
 |x::xs,vs,h=>by
  obtain⟨u,us,rfl,h1,h2⟩:=aH.1 h;exact bE.2 ⟨u,us,rfl,h1,dV h2⟩
theorem xk{E:Env}:∀{xs:List AV} {vs:List Value},pre E xs vs->xs.length<=vs.length
 | [],vs,_=>Nat.zero_le _
 |x::xs,vs,h=>by
  obtain⟨u,us,rfl,_,h2⟩:=bE.1 h;simp[xk h2]
theorem xq{E:Env}:∀{xs:List AV} {vs:List Value} {i:Nat} {x:AV},pre E xs vs->xs[i]?=some x->∃v,vs[i]?=some v/\rel E x v
 | [],_,i,x,_,h=>by simp at h
 |y::xs,vs,i,x,hr,h=>by
  obtain⟨u,us,rfl,h1,h2⟩:=bE.1 hr;cases i with
  |zero=>simp at h;subst h;exact⟨u,rfl,h1⟩
  |succ i=>simp at h;simpa using xq h2 h
theorem l9{E:Env}:∀{xs:List AV} {vs:List Value} (o n:Nat),pre E xs vs->o+n<=xs.length->dB E ((xs.drop o).take n) ((vs.drop o).take n)
 |xs,vs,0,0,_,_=>by simp[bK]
 | [],vs,0,n+1,_,h=>by simp at h
 |x::xs,vs,0,n+1,hr,h=>by
  obtain⟨u,us,rfl,h1,h2⟩:=bE.1 hr;simp only[aD2,aBq];exact aH.2 ⟨u,_,rfl,h1,by have:=l9 0 n h2 (by simp at h ⊢;omega);simpa using this⟩
 | [],vs,o+1,n,_,h=>by simp at h
 |x::xs,vs,o+1,n,hr,h=>by
  obtain⟨u,us,rfl,h1,h2⟩:=bE.1 hr;simp only[aAs];exact l9 o n h2 (by simp at h ⊢;omega)
theorem agY{E:Env}{xs:List AV}{vs:List Value}{i:Nat}{x:AV}(h:dB E xs vs)(hx:xs[i]?=some x):∃v,vs[i]?=some v/\rel E x v:=xq (dV h) hx
theorem Uu{E:Env}:∀{xs:List AV} {vs:List Value} (i:Nat) {x:AV} {v:Value},dB E xs vs->rel E x v->dB E (xs.set i x) (vs.set i v)
 | [],vs,i,x,v,h,_=>by rw[bK.1 h];simp[bK]
 |y::xs,vs,i,x,v,h,hx=>by
  obtain⟨u,us,rfl,h1,h2⟩:=aH.1 h;cases i with
  |zero=>exact aH.2 ⟨v,us,rfl,hx,h2⟩
  |succ i=>exact aH.2 ⟨u,_,rfl,h1,Uu i h2 hx⟩
theorem vR{E:Env}:∀{xs:List AV} {vs:List Value} (o:Nat) {ys:List AV} {us:List Value},pre E xs vs->dB E ys us->o+ys.length<=xs.length ->
  pre E (xs.take o++(ys++xs.drop (o+ys.length))) (vs.take o++us++vs.drop (o+us.length))
 |xs,vs,0,[],us,h,hr,_=>by rw[bK.1 hr];simpa using h
 | [],_,0,_::_,_,_,_,hl=>by simp at hl
 |x::xs,vs,0,y::ys,us,h,hr,hl=>by
  obtain⟨v,vs',rfl,h1,h2⟩:=bE.1 h;obtain⟨u,us',rfl,g1,g2⟩:=aH.1 hr;have:=vR 0 h2 g2 (by simp at hl ⊢;omega);simp only[aD3,aBR,aBZ,anE,avB,aAs]at this ⊢;exact bE.2 ⟨u,_,rfl,g1,this⟩
 | [],_,o+1,ys,_,_,_,hl=>by simp at hl
 |x::xs,vs,o+1,ys,us,h,hr,hl=>by
  obtain⟨v,vs',rfl,h1,h2⟩:=bE.1 h;have:=vR o h2 hr (by simp at hl ⊢;omega);simp only[aBq,aBZ];rw[show o+1+ys.length=(o+ys.length)+1 by omega,show o+1+us.length=(o+us.length)+1 by omega];simp only[aAs];exact bE.2 ⟨v,_,rfl,h1,this⟩
def zq:Value->AV
 |.float .f64 b=>.f (cn b)
 |.complex .f64 a b=>.cx (cn a) (cn b)
 |.pointer (some _)=>.any
 |.slice (some _) _ _=>.any
 |.agg _=>.any
 |.tuple _=>.any
 |.iface _ _=>.any
 |.func _ _ _=>.any
 |.map (some _)=>.any
 |.chan (some _)=>.any
 |v=>.x v
theorem RH(E:Env)(v:Value):rel E (zq v) v:=by
 unfold zq;split
 .exact jB.2 ⟨_,rfl,rfl⟩
 .unfold rel;rw[bN];exact⟨_,_,rfl,rfl,rfl⟩
 all_goals first |exact lQ |exact bI.2 rfl
def om:Value->Bool
 |.bool _=>true
 |.int _ _=>true
 |.string _=>true
 |_=>false
def Uv:Value->AV
 |.float .f64 b=>.f (cn b)
 |.bool b=>.x (.bool b)
 |.int k n=>.x (.int k n)
 |.string s=>.x (.string s)
 |_=>.any
theorem wK(E:Env)(v:Value):rel E (Uv v) v:=by
 unfold Uv;split
 .exact jB.2 ⟨_,rfl,rfl⟩
 all_goals first |exact lQ |exact bI.2 rfl
theorem oV(E:Env):∀(vs:List Value),dB E (vs.map zq) vs
 | []=>bK.2 rfl
 |v::vs=>aH.2 ⟨v,vs,rfl,RH E v,oV E vs⟩
def iN{α:Type}(P:Program):Sem α->Option α
 |.pure a=>some a
 |.program k=>iN P (k P)
 |_=>none
theorem dH{α:Type}{P:Program}(w:World):∀{s:Sem α} {a:α},iN P s=some a->s.run P w=.ok a w:=by
 intro s
 induction s with
 |pure b=>intro a h;simp[iN]at h;subst h;rfl
 |program k ih=>intro a h;simp only[Sem.run];exact ih P h
 |_=>intro a h;simp[iN]at h
def je:AV->Bool
 |.x (.agg _)=>false
 |.x (.tuple _)=>false
 |.agg _=>false
 |.aN _=>false
 |.any=>false
 |_=>true
def rV:AV->Bool
 |.agg l=>l.all je
 |x=>je x
def AV.cells:AV->List AV
 |.agg l=>l
 |y=>[y]
theorem pV{E:Env}{x:AV}{v:Value}(h:rel E x v)(hx:je x=true):v.oneCell'=true:=by
 cases x with
 |x u=>rw[bI.1 h];cases u<;>first |rfl | (simp[je]at hx)
 |f a=>obtain⟨b,rfl,_⟩:=jB.1 h;rfl
 |cx a c=>unfold rel at h;rw[bN]at h;obtain⟨b,d,rfl,_⟩:=h;rfl
 |own k o=>obtain⟨b,c,_,rfl⟩:=jh.1 h;rfl
 |pR k sz i s=>obtain⟨b,c,_,rfl⟩:=rY.1 h;rfl
 |fJ k sz st len=>rcases fM.1 h with⟨_,_,rfl⟩ | ⟨b,c,n,_,_,_,rfl⟩<;>rfl
 |view k sz st sub n=>obtain⟨a,c,rfl,_⟩:=lD.1 h;rfl
 |ref l o=>obtain⟨b,_,_,_,_,rfl,_⟩:=w9.1 h;rfl
 |sl sz n el=>obtain⟨a,c,rfl,_⟩:=iM.1 h;rfl
 |sW t x=>obtain⟨y,rfl,_⟩:=qL.1 h;rfl
 |fn g a b=>unfold rel at h;rw[bN]at h;obtain⟨va,vb,rfl,_⟩:=h;rfl
 |_=>simp[je]at hx
theorem QB{v:Value}(h:v.oneCell'=true):v.cells=#[v]:=by cases v<;>first |rfl |simp[Value.oneCell']at h
theorem Fx{E:Env}{x:AV}{v:Value}(h:rel E x v)(hx:rV x=true):dB E x.cells v.cells.toList:=by
 have one:∀(_:je x=true) (_:x.cells=[x]),dB E x.cells v.cells.toList:=by
  intro hk hc;rw[QB (pV h hk),hc];exact aH.2 ⟨v,[],rfl,h,bK.2 rfl⟩
 cases x with
 |agg l=>obtain⟨vs,rfl,h2⟩:=kV.1 h;exact h2
 |_=>exact one hx rfl
theorem cells_one{E:Env}:∀{xs:List AV} {vs:List Value},dB E xs vs->xs.all je=true->∀u∈vs,u.oneCell'=true
 | [],vs,h,_,u,hu=>by rw[bK.1 h]at hu;cases hu
 |x::xs,vs,h,hx,u,hu=>by
  obtain⟨v,vs',rfl,h1,h2⟩:=aH.1 h;simp only[aB0,J8]at hx;rcases List.mem_cons.1 hu with rfl |hu
  .exact pV h1 hx.1
  .exact cells_one h2 hx.2 u hu
theorem OX{x:AV}(h:rV x=true):x.cells.all je=true:=by
 cases x with
 |agg l=>exact h
 |_=>simp only[AV.cells,aB0,List.all_nil,Bool.and_true];exact h
end Go.Gv
namespace Go.Gv
def known:Nat->Option (List AV):=λ g=>cond (ax0 g 2) (some [.x (.int .u64 1),.x (.int .u64 10),.x (.int .u64 100),.x (.int .u64 1000),.x (.int .u64 10000),.x (.int .u64 100000),.x (.int .u64 1000000),.x (.int .u64 10000000),.x (.int .u64 100000000),.x (.int .u64 1000000000),.x (.int .u64 10000000000),.x (.int .u64 100000000000),.x (.int .u64 1000000000000),.x (.int .u64 10000000000000),.x (.int .u64 100000000000000),.x (.int .u64 1000000000000000),.x (.int .u64 10000000000000000),.x (.int .u64 100000000000000000),.x (.int .u64 1000000000000000000),.x (.int .u64 10000000000000000000)]) (cond (ax0 g 1) (some [.x (.string ⟨#[]⟩),.x (.string ⟨#[98,111,116,104]⟩),.x (.string ⟨#[101,105,116,104,101,114]⟩),.x (.string ⟨#[108,101,115,115]⟩)]) none)
def aio:Nat->Bool:=λ t=>ax0 t 3
open Go.RowKit Go.Ev
noncomputable section
inductive Row where
 |c (l:List AV)
 |a (e:TypeId) (sz n:Nat) (el:Nat->List AV)
 |dead
 |z (x:Bool) (e:TypeId) (sz n:Nat) (el:Nat->List AV)
 |t (e:TypeId) (l:List AV)
 |i (s:ByteArray) (p:Nat) (e:Bool)
def rH(E:Env)(b:Nat)(c:Nat × Nat):Row->Prop
 |.c l=>∃cs e,E.w.heap[b]?=some (.cells cs e (0,0))/\pre E l cs.toList
 |.a e sz n el=>∃cs,E.w.heap[b]?=some (.cells cs e (0,0))/\cs.size=c.1*sz/\c.2=n/\n<=c.1/\c.1<=maxLen/\∀i,i<n->(el i).length=sz/\pre E.fz (el i) (cs.toList.drop (i*sz))
 |.dead=>True
 |.z x e sz n el=>∃cs fz,E.w.heap[b]?=some (.cells cs e fz)/\c.2=n/\(x=true->c.1=n/\cs.size=n*sz)/\∀i,i<n->(el i).length=sz/\pre E.fz (el i) (cs.toList.drop (i*sz))
 |.t e l=>∃cs,E.w.heap[b]?=some (.cells cs e (0,0))/\pre E l cs.toList/\cs.size=l.length
 |.i s p e=>E.w.heap[b]?=some (.stringIter s p)/\e=aqE s.size p
def uM(E:Env)(mem:List Row):Prop:=∀k b c,E.O k=some (b,c)->∃row,mem[k]?=some row/\rH E b c row
abbrev Chain:=List (Nat × Bool)
def dflt:AV × Chain:=(.x undef,[])
structure St where
 slots:List (AV × Chain)
 mem:List Row
def aG(s:St):Operand->AV
 |.tmp t=>(s.slots.getD t dflt).1
 |.const v=>zq v
 |.global g=>match known g with
  |some l=>.ref l 0
  |none=>.any
 |.func f=>.fn (.func f) [] []
def vC(E:Env):Prop:=∀g l,known g=some l->rel E (.ref l 0) (.pointer (some ⟨g,0,none⟩))/\∀cs e fz,E.w.heap[g]?=some (.cells cs e fz)->cs.size=l.length
theorem H6{E E':Env}(h:E.le E')(hg:vC E):vC E':=λ g l hl=>by
 obtain⟨h1,h2⟩:=hg g l hl;refine⟨mM h h1,λ cs e fz hc=>?_⟩;have h1:bN _ _ _:=h1;rw[bN]at h1;obtain⟨b,o,cs0,e0,fz0,hp,hA,hb,_⟩:=h1;simp only[Value.pointer.injEq,jN,Addr.mk.injEq]at hp;obtain⟨rfl,_⟩:=hp;have:=(h.keep g hA _ hb).2;rw[this]at hc;cases hc;exact h2 _ _ _ hb
theorem OP{E:Env}(hg:vC E)(O':Nat->Option (Nat × Nat × Nat)):vC { E with O:=O' }:=λ g l hl=>by
 obtain⟨h,h2⟩:=hg g l hl;refine⟨?_,h2⟩;have h:bN _ _ _:=h;show bN _ _ _;rw[bN]at h ⊢;exact h
def aat(mem:List Row):AV->Option (Bool × List AV × Nat)
 |.own k off=>match mem[k]? with
  |some (.c l)=>some (true,l,off)
  |some (.t _ l)=>some (true,l,off)
  |_=>none
 |.pR k sz i sub=>match mem[k]? with
  |some (.a _ sz' n el)=>cond (sz==sz') (some (afC i n,el i,sub)) none
  |_=>none
 |.ref l off=>some (true,l,off)
 |_=>none
theorem agZ{E:Env}{l:List AV}{us:List Value}(h:pre E.fz l us):pre E l us:=kg (E:=E.fz) (E':=E) ⟨λ _ h1 _ h2=>⟨h1,h2⟩,λ _ _ hb=>by cases hb⟩ h
theorem RG{E:Env}{mem:List Row}(hm:uM E mem){x:AV}{v:Value}(hv:rel E x v){l:List AV}{o:Nat}(h:aat mem x=some (true,l,o)) :
  ∃b o0 cs e fz,v=.pointer (some ⟨b,o0+o,none⟩)/\E.w.heap[b]?=some (.cells cs e fz)/\pre E l (cs.toList.drop o0):=by
 cases x with
 |own k off =>
  obtain⟨b,c,hb,rfl⟩:=jh.1 hv;obtain⟨row,hr,hrel⟩:=hm k b c hb;simp only[aat,hr]at h;cases row<;>simp only at h<;>first | (cases h;done) |skip
  .cases h
   obtain⟨cs,e,h1,h2⟩:=hrel;exact⟨b,0,cs,e,(0,0),by rw[avB],h1,by simpa using h2⟩
  .cases h
   obtain⟨cs,h1,h2,_⟩:=hrel;exact⟨b,0,cs,_,(0,0),by rw[avB],h1,by simpa using h2⟩
 |pR k sz i sub =>
  obtain⟨b,c,hb,rfl⟩:=rY.1 hv;obtain⟨row,hr,hrel⟩:=hm k b c hb;simp only[aat,hr]at h;cases row<;>simp only at h<;>first | (cases h;done) |skip
  rename_i e0 sz' n el;cases hs:sz==sz'
  .rw[hs]at h;cases h
  .rw[hs]at h
   simp only[cond_true,jN,EU]at h;obtain⟨h1,rfl,rfl⟩:=h;have e1:=eq_of_beq hs;subst e1;obtain⟨cs,h2,_,_,_,_,h3⟩:=hrel;exact⟨b,i*sz,cs,e0,(0,0),rfl,h2,agZ (h3 i (Sr h1)).2⟩
 |ref l' off =>
  obtain⟨b,o0,cs,e,fz,rfl,_,h2,h3⟩:=w9.1 hv;simp only[aat,jN,EU]at h;obtain⟨_,rfl,rfl⟩:=h;exact⟨b,o0,cs,e,fz,rfl,h2,agZ h3⟩
 |_=>simp[aat]at h
def Yd:AV->Nat->Option AV
 |.own k o,n=>some (.own k (o+n))
 |.pR k sz i s,n=>some (.pR k sz i (s+n))
 |.ref l o,n=>some (.ref l (o+n))
 |_,_=>none
theorem F7{E:Env}{x y:AV}{v:Value}{n:Nat}(hv:rel E x v)(h:Yd x n=some y):∃b o,v=.pointer (some ⟨b,o,none⟩)/\rel E y (.pointer (some ⟨b,o+n,none⟩)):=by
 cases x with
 |own k off =>
  obtain⟨b,c,hb,rfl⟩:=jh.1 hv;cases h;exact⟨b,off,rfl,jh.2 ⟨b,c,hb,rfl⟩⟩
 |pR k sz i sub =>
  obtain⟨b,c,hb,rfl⟩:=rY.1 hv;cases h;exact⟨b,_,rfl,rY.2 ⟨b,c,hb,by rw[aAq]⟩⟩
 |ref l' off =>
  obtain⟨b,o0,cs,e,fz,rfl,h1,h2,h3⟩:=w9.1 hv;cases h;exact⟨b,_,rfl,w9.2 ⟨b,o0,cs,e,fz,by rw[aAq],h1,h2,h3⟩⟩
 |_=>simp[Yd]at h
def jK:TypeDesc->Bool
 |.struct _=>true
 |.array _ _=>true
 |_=>false
def Dz(P:Program)(t:TypeId)(cells:List AV)(o:Nat):Option AV :=
 match P.underlying t,P.info? t with
 |some d,some i=>cond (jK d) (cond (aqE (o+i.size) cells.length) (some (.agg ((cells.drop o).take i.size))) none) (cells[o]?)
 |_,_=>none
def Ye(P:Program)(t:TypeId)(x:AV)(f:Nat):Option AV :=
 match P.underlying t with
 |some (.struct fields) =>
  match fields[f]? with
  |some fd=>match P.info? fd.type with
   |some inf=>cond (inf.size==0) none (Yd x fd.offset)
   |none=>none
  |none=>none
 |_=>none
def Yf (P:Program) (t:TypeId) (x ix:AV):Option (Bool × AV) :=
  match ix with
  | .x (.int _ k)=>match P.underlying t with
    |some (.array n e)=>match P.info? e with
      |some inf=>(Yd x (k.toNat*inf.size)).map λ y=>(decide (0<=k)&&decide (k<(n:Int)),y)
      |none=>none
    |some (.slice e)=>match P.info? e with
      |some inf=>match x with
        |.sl sz n el=>cond (sz==inf.size) (some (decide (0<=k)&&decide (k<(n:Int)),.ref (el k.toNat) 0)) none
        |.fJ j sz st len=>cond (sz==inf.size) (some (decide (0<=k)&&decide (k<(len:Int)),.pR j sz (st+k.toNat) 0)) none
        |.view j sz st sub len=>cond (sz==inf.size) (some (decide (0<=k)&&decide (k<(len:Int)),.pR j sz (st+k.toNat) sub)) none
        |_=>none
      |none=>none
    |_=>none
  |_=>none
def aav(P:Program)(t:TypeId)(x ix:AV):Option AV :=
 match ix,x,P.underlying t with
 |.x (.int _ k),.agg cs,some (.array n e)=>match P.info? e with
  |some inf=>cond (decide (0<=k)&&decide (k<(n:Int))) (Dz P e cs (k.toNat*inf.size)) none
  |none=>none
 |_,_,_=>none
def ag0(P:Program)(t:TypeId)(x:AV)(f:Nat):Option AV :=
 match x,P.underlying t with
 |.agg cs,some (.struct fields)=>match fields[f]? with
  |some fd=>Dz P fd.type cs fd.offset
  |none=>none
 |_,_=>none
def ab6(op:BinOp)(a b:Nat):Option AV :=
 match op with
 |.add=>some (.f (bq a b))
 |.sub=>some (.f (dI a b))
 |.mul=>some (.f (bT a b))
 |.quo=>some (.f (fdiv a b))
 |.eql=>some (.x (.bool (dK a b)))
 |.neq=>some (.x (.bool (!dK a b)))
 |.lss=>some (.x (.bool (jO a b)))
 |.leq=>some (.x (.bool (kL a b)))
 |.gtr=>some (.x (.bool (gN a b)))
 |.geq=>some (.x (.bool (lK a b)))
 |_=>none
def akr(op:BinOp)(a b c d:Nat):Option AV :=
 match op with
 |.add=>some (.cx (bq a c) (bq b d))
 |.sub=>some (.cx (dI a c) (dI b d))
 |.mul=>some (.cx (dI (bT a c) (bT b d)) (bq (bT a d) (bT b c)))
 |.eql=>some (.x (.bool (dK a c&&dK b d)))
 |.neq=>some (.x (.bool (!(dK a c&&dK b d))))
 |_=>none
def La(P:Program)(t:TypeId):Bool :=
 match P.underlying t with
 |some d=>jK d
 |none=>false
def aeq(P:Program):Nat->TypeId->List AV->List AV->Option Bool
  | 0,_,_,_=>none
  |n+1,t,xs,ys=>match P.underlying t with
    |some (.struct fs)=>cond (P.stoodInHeld t) none (fs.toList.foldr (λ f acc=>match P.info? f.type,acc with
      | some inf, some b => cond ((f.name == "_") || (inf.size == 0) || afC xs.length (f.offset + inf.size) || afC ys.length (f.offset + inf.size)) none
          ((aeq P n f.type ((xs.drop f.offset).take inf.size) ((ys.drop f.offset).take inf.size)).map (·&&b))
      |_,_=>none) (some true))
    | some (.array len e)=>match P.info? e with
      |some inf=>(av2 len).foldr (λ i acc=>match acc with
        |some b=>cond ((inf.size==0)||afC xs.length (i*inf.size+inf.size)||afC ys.length (i*inf.size+inf.size)) none
            ((aeq P n e ((xs.drop (i*inf.size)).take inf.size) ((ys.drop (i*inf.size)).take inf.size)).map (·&&b))
        |none=>none) (some true)
      |none=>none
    |some (.float .f64)=>match xs,ys with
      | [.f a],[.f b]=>some (dK a b)
      |_,_=>none
    |some (.int _)=>match xs,ys with
      | [.x (.int k a)],[.x (.int k' b)]=>cond (decide (k=k')) (some (a==b)) none
      |_,_=>none
    |some .bool=>match xs,ys with
      | [.x (.bool a)],[.x (.bool b)]=>some (a==b)
      |_,_=>none
    |_=>none
def sAt(s:ByteArray)(i:Nat):Int:=((s.data.toList.getD i 0).toNat:Int)
def aqm(P:Program)(t:TypeId)(x ix:AV):Option (Bool × AV) :=
 match x with
 |.x (.string s)=>match ix,P.underlying t with
  |.x (.int _ k),some .string=>some (decide (0<=k)&&decide (k<(s.size:Int)),.x (.int .u8 (sAt s k.toNat)))
  |_,_=>none
 |_=>(aav P t x ix).map λ y=>(true,y)
def ag1(a b:ByteArray):Bool:=decide (((a.size+b.size:Nat):Int)<=IntKind.i64.max)
noncomputable def mq:ByteArray->ByteArray->Bool:=aCv (⟨ag1,rfl⟩:∃f:ByteArray->ByteArray->Bool,f=ag1)
theorem Zr:mq=ag1:=aCe (⟨ag1,rfl⟩:∃f:ByteArray->ByteArray->Bool,f=ag1)
def aks(op:BinOp)(u v:Value):Option (Bool × AV) :=
 match u,v with
 |.int .i64 a,.int .i64 b=>match op with
  |.rem=>some (!(b==0),.x (.int .i64 (a.tmod b)))
  |.quo=>some (!(b==0),.x (.int .i64 (IntKind.i64.wrap (a.tdiv b))))
  |_=>none
 |.string a,.string b=>match op with
  |.add=>some (mq a b,.x (.string (a++b)))
  |_=>none
 |_,_=>none
def aqn(P:Program)(op:BinOp)(t:TypeId)(x y:AV):Option (Bool × AV) :=
 match x,y with
 |.f a,.f b=>(ab6 op a b).map λ r=>(true,r)
 |.cx a b,.cx c d=>(akr op a b c d).map λ r=>(true,r)
 |.agg xs,.agg ys=>cond (La P t&&!P.eqGuardType P.depth t) (match op,aeq P 8 t xs ys with
  |.eql,some b=>some (true,.x (.bool b))
  |.neq,some b=>some (true,.x (.bool !b))
  |_,_=>none) none
 |.x u,.x v=>cond (om u&&om v) (match aks op u v with
  |some r=>some r
  |none=>(iN P (binOp op t u v)).map λ r=>(true,Uv r)) none
 |_,_=>none
def EJ:TypeDesc->Bool
 |.interface _=>true
 |_=>false
def wL(P:Program)(t:TypeId):Bool :=
 match P.underlying t with
 |some d=>EJ d
 |none=>false
def wM(P:Program)(t:TypeId):Bool :=
 match P.underlying t with
 |some (.slice _)=>true
 |_=>false
def F8(P:Program)(t:TypeId):Bool :=
 match P.underlying t with
 |some (.pointer _)=>true
 |_=>false
def isConst:Operand->Bool
 |.const _=>true
 |_=>false
def oo(op:BinOp)(b:Bool):Option AV :=
 match op with
 |.eql=>some (.x (.bool b))
 |.neq=>some (.x (.bool !b))
 |_=>none
def ag2(P:Program)(op:BinOp)(t:TypeId)(x y:Operand)(a b:AV):Option (Bool × AV) :=
 match a,b with
 |.x .nilIface,.x .nilIface=>cond ((isConst x||isConst y)&&wL P t) ((oo op true).map λ r=>(true,r)) none
 |.sW _ _,.x .nilIface=>cond (wL P t) ((oo op false).map λ r=>(true,r)) none
 |.sl _ n _,.x (.slice none 0 0)=>cond (wM P t) ((oo op false).map λ r=>(afC 0 n,r)) none
 |.own _ _,.x (.pointer none)=>cond (F8 P t) ((oo op false).map λ r=>(true,r)) none
 |.ref _ _,.x (.pointer none)=>cond (F8 P t) ((oo op false).map λ r=>(true,r)) none
 |.x (.slice ad _ _),.x (.slice none 0 0)=>cond (wM P t) ((oo op ad.isNone).map λ r=>(true,r)) none
 |a,b=>aqn P op t a b
def lacks(want:Array (String × TypeId))(got:Array Method):Bool :=
 want.toList.any λ p=>!got.any λ m=>m.name==p.1&&m.sig==p.2
def II(P:Program)(t:TypeId)(name:String):Option Nat :=
 match P.info? t,P.underlying t with
 |some inf,some (.struct _)=>match inf.methods.find? (λ m=>m.name==name)with
  |some m=>match m.func with
   |some (f,false)=>cond m.path.isEmpty (some f) none
   |_=>none
  |none=>none
 |_,_=>none
def QC(P:Program)(x:AV)(asserted:TypeId)(ok:Bool):Option AV :=
  match x with
  |.sW t v=>match P.underlying asserted with
    | some (.interface want)=>match P.info? t with
      |some inf=>cond (lacks want inf.methods)
          (cond ok (match iN P (zeroValue asserted)with
            |some .nilIface=>some (.aN [.x .nilIface,.x (.bool false)])
            |_=>none) none)
          (cond ok (some (.aN [.sW t v,.x (.bool true)])) (some (.sW t v)))
      |none=>none
    |_=>none
  |_=>none
def aun(P:Program)(op:UnOp)(x:AV):Option AV :=
 match op,x with
 |.neg,.f a=>some (.f (fI a))
 |op,.x u=>cond (om u) ((iN P (aEF op u)).map Uv) none
 |_,_=>none
def vQ(place:Nat->Option (Nat × Nat)):List AV->List (Nat × AV)->Option (List AV)
 |cells,[]=>some cells
 |cells,(i,x)::rest=>match place i with
  |some (off,size)=>cond (rV x&&((x.cells.length==size)&&aqE (off+size) cells.length)) (vQ place (x.cells.zipIdx.foldl (λ cs p=>cs.set (off+p.2) p.1) cells) rest) none
  |none=>none
def Yg(P:Program)(t:TypeId)(parts:List (Nat × AV)):Option AV :=
 match iN P (zeroValue t)with
 |some z=>match P.underlying t with
  |some (.struct fields)=>match iN P (fields.mapM (m:=Sem) λ f=>do pure (f.offset,<-sizeOf f.type))with
   |some places=>(vQ (places[·]?) (z.cells.toList.map zq) parts).map .agg
   |none=>none
  |some (.array _ elem)=>match iN P (sizeOf elem)with
   |some size=>(vQ (λ i=>some (i*size,size)) (z.cells.toList.map zq) parts).map .agg
   |none=>none
  |_=>none
 |none=>none
end
section
variable{P:Program}{w:World}
def yF(P:Program)(t:TypeId)(us:List Value)(X:Value):Prop :=
 match P.underlying t with
 |some (.struct _)=>X=.agg us.toArray
 |some (.array _ _)=>X=.agg us.toArray
 |_=>us=[X]
theorem yh{t:TypeId}{us:List Value}{o:Nat}{inf:TypeInfo}{d:TypeDesc}(hu:P.underlying t=some d)(hi:P.info? t=some inf)(hle:o+inf.size<=us.length)(h1:jK d=true\/inf.size=1) :
  ∃X,(part t us.toArray o).run P w=.ok X w/\yF P t ((us.drop o).take inf.size) X:=by
 cases hd:jK d
 .have hs:inf.size=1:=by rcases h1 with h |h;(rw[hd]at h;cases h);exact h
  have hlt:o<us.length:=by omega
  have hagg:(isAgg t).run P w=.ok false w:=by
   unfold isAgg;rw[YC,run_underlying hu w];cases d<;>simp_all[jK]
  refine⟨us[o],by simp[part,hagg,hlt],?_⟩
  have:(us.drop o).take inf.size=[us[o]]:=by
   rw[hs,List.drop_eq_getElem_cons hlt,aBq,aD3]
  unfold yF;rw[hu,this];cases d<;>simp_all[jK]
 .have hagg:(isAgg t).run P w=.ok true w:=by
   unfold isAgg;rw[YC,run_underlying hu w];cases d<;>simp_all[jK]
  refine⟨.agg (us.toArray.extract o (o+inf.size)),by simp[part,hagg,sizeOf,typeInfo,hi],?_⟩;unfold yF;rw[hu];cases d<;>simp_all[jK,aCA]
def Ba(d:Nat)(e:TypeId)(a:Nat)(xs ys:Array Value):List Nat->Sem Bool
 | []=>pure true
 |i::l=>do
  let x <-part e xs (i*a);let y <-part e ys (i*a);let r <-azg d e x y
  if(!r)=true then pure false else Ba d e a xs ys l
theorem run_equalIn_array(d:Nat)(t e:TypeId)(len:Nat)(inf:TypeInfo)(xs ys:Array Value)(hu:P.underlying t=some (.array len e))(hi:P.info? e=some inf) :
  (azg (d+1) t (.agg xs) (.agg ys)).run P w=(Ba d e inf.size xs ys (av2 len)).run P w:=by
 have hsz:(Go.sizeOf e).run P w=.ok inf.size w:=by simp[Go.sizeOf,typeInfo,hi]
 simp only[azg,YC,run_underlying hu,xU,hsz,Std.Legacy.Range.forIn_eq_forIn_range',Std.Legacy.Range.size,Nat.sub_zero,Nat.add_one_sub_one,Nat.div_one,<-List.range_eq_range'];generalize av2 len=l;clear hsz
 induction l generalizing w with
 |nil=>simp[Ba]
 |cons i l ih =>
  simp only[List.forIn_cons,Ba,YC,aCB];generalize(part e xs (i*inf.size)).run P w=r1;cases r1 with
  |ok a w1 =>
   simp only[xU];generalize(part e ys (i*inf.size)).run P w1=r2;cases r2 with
   |ok b w2 =>
    simp only[xU];generalize(azg d e a b).run P w2=r3;cases r3 with
    |ok r w3 =>
     cases r
     .simp only[xU,Bool.not_false,if_true,abP]
     .simp only[xU,Bool.not_true,ayX,if_false,abP]
      exact ih
    |halt x w3=>simp[aAJ]
   |halt x w2=>simp[aAJ]
  |halt x w1=>simp[aAJ]
theorem QD{want:Array (String × TypeId)}{got:Array Method}(h:lacks want got=false):aAr want got=none:=by
 unfold lacks at h;unfold aAr
 have:want.toList.filter (λ(x:String × TypeId)=>!got.any λ m=>m.name==x.1&&m.sig==x.2)=[]:=by
  rw[List.filter_eq_nil_iff];intro p hp hq;have:(want.toList.any λ p=>!got.any λ m=>m.name==p.1&&m.sig==p.2)=true:=aCl.2 ⟨p,hp,hq⟩;rw[h]at this;cases this
 simp only[this];rfl
theorem QE{want:Array (String × TypeId)}{got:Array Method}(h:lacks want got=true):∃m,aAr want got=some m:=by
 unfold lacks at h;unfold aAr;obtain⟨p,hp,hq⟩:=aCl.1 h;have hm:p∈want.toList.filter (λ(x:String × TypeId)=>!got.any λ m=>m.name==x.1&&m.sig==x.2):=az9.2 ⟨hp,hq⟩;simp only;have hm':p.1∈(want.toList.filter (λ(x:String × TypeId)=>!got.any λ m=>m.name==x.1&&m.sig==x.2)).map (·.1):=List.mem_map.2 ⟨p,hm,rfl⟩;generalize(want.toList.filter (λ(x:String × TypeId)=>!got.any λ m=>m.name==x.1&&m.sig==x.2)).map (·.1)=l at hm';simp only[List.partition_eq_filter_filter];by_cases hd:p.1.contains '.'=true
 .have h1:p.1∈l.filter (λ x=>x.contains '.'):=az9.2 ⟨hm',hd⟩
  generalize l.filter (λ x=>x.contains '.')=l1 at h1;generalize l.filter (not ∘ λ x=>x.contains '.')=l2;cases l2 with
  |nil=>cases l1 with
   |nil=>cases h1
   |cons a l1=>exact⟨_,rfl⟩
  |cons a l2=>exact⟨_,rfl⟩
 .have h1:p.1∈l.filter (not ∘ λ x=>x.contains '.'):=az9.2 ⟨hm',by simpa using hd⟩
  generalize l.filter (λ x=>x.contains '.')=l1;generalize l.filter (not ∘ λ x=>x.contains '.')=l2 at h1;cases l2 with
  |nil=>cases h1
  |cons a l2=>exact⟨_,rfl⟩
theorem EK{t:TypeId}{name:String}{f n:Nat}{v:Value}(h:II P t name=some f):(method (n+1) t v name).run P w=.ok (f,v) w:=by
 unfold II at h;split at h
 .rename_i inf fs mR hun
  split at h
  .rename_i m hm
   split at h
   .rename_i f' hfn
    cases hp:m.path.isEmpty
    .rw[hp]at h;cases h
    .rw[hp]at h
     cases h;have hpe:m.path=#[]:=by simpa using hp
     simp[method,typeInfo,mR,hm,hpe,follow,hfn,receiverAt,run_underlying hun,Place.get]
   .cases h
  .cases h
 .cases h
theorem akt(p:Nat):cn (aDp .f64 p)=fI (cn p):=by
 have hb:aDp .f64 p=p ^^^ 9223372036854775808:=by unfold aDp;rfl
 have hm:(p ^^^ 9223372036854775808) % 9223372036854775808=p % 9223372036854775808:=by
  rw[show(9223372036854775808:Nat)=2 ^ 63 from by decide];rw[Nat.xor_mod_two_pow,Nat.mod_self];simp
 have hn:aL (p ^^^ 9223372036854775808)=aL p:=by
  unfold aL;rw[q8,q8,hm]
 rw[hb];unfold fI;rw[En];cases h:aL p
 .rw[iI (by rw[hn];exact h),iI h];rfl
 .rw[wE (by rw[hn];exact h)];rfl
theorem NT{t:TypeId}{us:Array Value}(hd:La P t=true):yF P t us.toList (.agg us):=by
 unfold La at hd;unfold yF;cases hu:P.underlying t with
 |none=>rw[hu]at hd;cases hd
 |some d =>
  rw[hu]at hd;cases d<;>simp[jK]at hd<;>simp
theorem uW{op:BinOp}{t:TypeId}{x y:Operand}{a b:Value}(h:(match a with |.nilIface=>false |.agg _=>false |_=>true)=true):(eqGuard op t x y a b).run P w=.ok () w:=by
 unfold eqGuard;cases op<;>cases a<;>first |rfl |simp at h
theorem BQ{t:TypeId}(h:wL P t=true):∃ms,P.underlying t=some (.interface ms):=by
 unfold wL at h;cases hu:P.underlying t with
 |none=>rw[hu]at h;cases h
 |some d=>rw[hu]at h;cases d<;>first | (cases h;done) |exact⟨_,rfl⟩
theorem Lb{t:TypeId}{cells:List AV}{o:Nat}{x:AV}{E:Env}{us:List Value}(hx:Dz P t cells o=some x)(hr:pre E cells us):∃d inf,P.underlying t=some d/\P.info? t=some inf /\
  ((jK d=false/\∃u,us[o]?=some u/\rel E x u)\/(jK d=true/\o+inf.size<=cells.length/\x=.agg ((cells.drop o).take inf.size)/\dB E ((cells.drop o).take inf.size) ((us.drop o).take inf.size))):=by
 unfold Dz at hx;cases hu:P.underlying t with
 |none=>simp[hu]at hx
 |some d =>
  cases hi:P.info? t with
  |none=>simp[hu,hi]at hx
  |some inf =>
   simp only[hu,hi]at hx;refine⟨d,inf,rfl,rfl,?_⟩;cases hd:jK d
   .simp only[hd,cond_false]at hx
    exact ER ⟨rfl,xq hr hx⟩
   .simp only[hd,cond_true]at hx
    cases hle:aqE (o+inf.size) cells.length
    .simp[hle]at hx
    .simp only[hle,cond_true]at hx
     cases hx;have hle':=Sr hle;exact aaH ⟨rfl,hle',rfl,l9 o inf.size hr hle'⟩
theorem NU{t:TypeId}{d:TypeDesc}(hu:P.underlying t=some d):(isAgg t).run P w=.ok (jK d) w:=by
 unfold isAgg;rw[YC,run_underlying hu w];cases d<;>simp_all[jK]
theorem MB{E:Env}{mem:List Row}(hm:uM E mem){t:TypeId}{l:List AV}{o:Nat}{x y:AV}{v:Value}(hat:aat mem x=some (true,l,o))(hx:Dz P t l o=some y)(hv:rel E x v):∃u,(aEk t v).run P E.w=.ok u E.w/\rel E y u:=by
 obtain⟨b,o0,cs,e,fz,rfl,hh,hr⟩:=RG hm hv hat
 have hcell:∀j,E.w.cell? ⟨b,o0+o+j,none⟩=(cs.toList.drop o0)[o+j]?:=λ j=>by
  rw[cell_of_row E.w b (o0+o+j) cs e fz hh,aoD,aAq];simp
 obtain⟨d,inf,hu,hi,hcase⟩:=Lb hx hr;rcases hcase with⟨hd,u,h1,h2⟩ | ⟨hd,hle,rfl,h2⟩
 .refine⟨u,?_,h2⟩
  have hagg:=NU (P:=P) (w:=E.w) hu;rw[hd]at hagg;have hc0:=hcell 0;rw[ayO,ayO,h1]at hc0;simp[aEk,aBl,loadVar,hagg,hc0]
 .have hl:=dJ h2
  refine⟨.agg (((cs.toList.drop o0).drop o).take inf.size).toArray,?_,kV.2 ⟨_,rfl,by simpa using h2⟩⟩;refine run_loadAt_mid E.w b (o0+o) t (((cs.toList.drop o0).drop o).take inf.size) d ?_ hu (by cases d<;>first |rfl |simp[jK]at hd) ?_
  .intro j u hj
   rw[hcell j];rw[axq]at hj;split at hj
   .rw[aoD]at hj;exact hj
   .cases hj
  .rw[hi,amS]
   congr 1;rw[<-hl];simp;omega
theorem Yh{E:Env}{t:TypeId}{f:Nat}{x y:AV}{v:Value}(hx:Ye P t x f=some y)(hv:rel E x v):∃u,(aD4 t v f).run P w=.ok u w/\rel E y u:=by
 unfold Ye at hx;cases hu:P.underlying t with
 |none=>simp[hu]at hx
 |some d =>
  cases d<;>simp only[hu]at hx<;>first | (cases hx;done) |skip
  rename_i fields;cases hf:fields[f]? with
  |none=>simp[hf]at hx
  |some fd =>
   simp only[hf]at hx;cases hi:P.info? fd.type with
   |none=>simp[hi]at hx
   |some inf =>
    simp only[hi]at hx;cases hz:(inf.size==0)
    .simp only[hz,cond_false]at hx
     have hz':inf.size≠0:=by simpa using hz
     obtain⟨b,o,rfl,hr⟩:=F7 hv hx;refine⟨_,?_,hr⟩;have hadd:(⟨b,o,none⟩:Addr).add fd.offset=⟨b,o+fd.offset,none⟩:=by unfold aBr;split<;>simp_all
     simp[aD4,run_underlying hu,hf,aBl,fieldPlace,sizeOf,typeInfo,hi,hz',hadd]
    .simp[hz]at hx
theorem NW{E:Env}{t:TypeId}{cells:List AV}{cs:Array Value}{o:Nat}{x:AV}(hx:Dz P t cells o=some x)(hr:pre E cells cs.toList):∃u,(part t cs o).run P w=.ok u w/\rel E x u:=by
 obtain⟨d,inf,hu,hi,hcase⟩:=Lb hx hr;have hagg:=NU (P:=P) (w:=w) hu;rcases hcase with⟨hd,u,h1,h2⟩ | ⟨hd,hle,rfl,h2⟩
 .rw[hd]at hagg
  have h1':cs[o]?=some u:=by simpa using h1
  exact⟨u,by simp[part,hagg,h1'],h2⟩
 .rw[hd]at hagg
  refine⟨.agg (cs.extract o (o+inf.size)),by simp[part,hagg,sizeOf,typeInfo,hi],kV.2 ⟨_,rfl,?_⟩⟩;simpa[aCC,aCA]using h2
theorem Yi{E:Env}{t:TypeId}{x ix y:AV}{u v:Value}(hx:Yf P t x ix=some (true,y))(hu:rel E x u)(hv:rel E ix v):∃r,(aAT t u v).run P w=.ok r w/\rel E y r:=by
 unfold Yf at hx;split at hx
 .rename_i kk k
  have hv':=bI.1 hv;subst hv';split at hx
  .rename_i n e hun
   split at hx
   .rename_i inf mR
    cases hp:Yd x (k.toNat*inf.size)with
    |none=>rw[hp]at hx;cases hx
    |some y' =>
     rw[hp]at hx;simp only[amS,jN,EU]at hx;obtain⟨hk,rfl⟩:=hx;simp only[J8,decide_eq_true_eq]at hk;obtain⟨b,o,rfl,hr⟩:=F7 hu hp;refine⟨_,?_,hr⟩;have hadd:(⟨b,o,none⟩:Addr).add (k.toNat*inf.size)=⟨b,o+k.toNat*inf.size,none⟩:=by unfold aBr;split<;>simp_all
     simp[aAT,asIntOf,run_underlying hun,aBl,sizeOf,typeInfo,mR,hk.1,hk.2,hadd]
   .cases hx
  .rename_i e hun
   split at hx
   .rename_i inf mR
    split at hx
    .rename_i sz n el
     cases hs:sz==inf.size
     .rw[hs]at hx;cases hx
     .rw[hs]at hx
      simp only[cond_true,jN,EU]at hx;obtain⟨hk,rfl⟩:=hx;have hs':=eq_of_beq hs;simp only[J8,decide_eq_true_eq]at hk;obtain⟨a,c,rfl,hnc,hcase⟩:=iM.1 hu;rcases hcase with h0 | ⟨b,o,cs,e',fz,rfl,hA,hh,hel⟩
      .omega
      .obtain⟨_,hpre⟩:=hel k.toNat (by omega)
       refine⟨.pointer (some ⟨b,o+k.toNat*inf.size,none⟩),?_,w9.2 ⟨b,o+k.toNat*sz,cs,e',fz,by rw[hs',ayO],hA,hh,hpre⟩⟩;have hadd:(⟨b,o,none⟩:Addr).add (k.toNat*inf.size)=⟨b,o+k.toNat*inf.size,none⟩:=by unfold aBr;split<;>simp_all
       simp[aAT,asIntOf,run_underlying hun,sizeOf,typeInfo,mR,hk.1,hk.2,hadd]
    .rename_i j sz st len
     cases hs:sz==inf.size
     .rw[hs]at hx;cases hx
     .rw[hs]at hx
      simp only[cond_true,jN,EU]at hx;obtain⟨hk,rfl⟩:=hx;have hs':=eq_of_beq hs;simp only[J8,decide_eq_true_eq]at hk;obtain⟨b,c,n0,hb,hle,_,rfl⟩:=(fM.1 hu).resolve_left (λ hz=>by have:=hz.2.1;omega);refine⟨.pointer (some ⟨b,st*sz+k.toNat*inf.size,none⟩),?_,rY.2 ⟨b,_,hb,by rw[hs',asM,ayO]⟩⟩;have hadd:(⟨b,st*sz,none⟩:Addr).add (k.toNat*inf.size)=⟨b,st*sz+k.toNat*inf.size,none⟩:=by unfold aBr;split<;>simp_all
      simp[aAT,asIntOf,run_underlying hun,sizeOf,typeInfo,mR,hk.1,hk.2,hadd]
    .rename_i j sz st sub len
     cases hs:sz==inf.size
     .rw[hs]at hx;cases hx
     .rw[hs]at hx
      simp only[cond_true,jN,EU]at hx;obtain⟨hk,rfl⟩:=hx;have hs':=eq_of_beq hs;simp only[J8,decide_eq_true_eq]at hk;obtain⟨a,c,rfl,_,hcase⟩:=lD.1 hu;rcases hcase with h0 | ⟨b,c',hb,rfl⟩
      .omega
      .refine⟨.pointer (some ⟨b,st*sz+sub+k.toNat*inf.size,none⟩),?_,rY.2 ⟨b,_,hb,by rw[hs',asM];congr 3;omega⟩⟩
       have hadd:(⟨b,st*sz+sub,none⟩:Addr).add (k.toNat*inf.size)=⟨b,st*sz+sub+k.toNat*inf.size,none⟩:=by unfold aBr;split<;>simp_all
       simp[aAT,asIntOf,run_underlying hun,sizeOf,typeInfo,mR,hk.1,hk.2,hadd]
    .cases hx
   .cases hx
  .cases hx
 .cases hx
theorem ab7{E:Env}{t:TypeId}{x ix y:AV}{u v:Value}(hx:aav P t x ix=some y)(hu:rel E x u)(hv:rel E ix v):∃r,(aB7 t u v).run P w=.ok r w/\rel E y r:=by
 unfold aav at hx;split at hx
 .rename_i kk k cs n e hun
  have hv':=bI.1 hv;subst hv';split at hx
  .rename_i inf mR
   cases hk:(decide (0<=k)&&decide (k<(n:Int)))
   .rw[hk]at hx;cases hx
   .rw[hk]at hx
    simp only[cond_true]at hx;simp only[J8,decide_eq_true_eq]at hk;obtain⟨vs,rfl,hr⟩:=kV.1 hu;obtain⟨r,h1,h2⟩:=NW (P:=P) (w:=w) hx (dV hr);refine⟨r,?_,h2⟩;simp[aB7,asIntOf,run_underlying hun,sizeOf,typeInfo,mR,hk.1,hk.2,h1]
  .cases hx
 .cases hx
theorem aqo{s:ByteArray}{k:Int}(h1:0<=k)(h2:k<(s.size:Int)):∃b:UInt8,s[k.toNat]?=some b/\(b.toNat:Int)=sAt s k.toNat:=by
 have hlt:k.toNat<s.size:=by omega
 refine⟨s[k.toNat],by simp[hlt],?_⟩;unfold sAt
 have:s.data.toList.getD k.toNat 0=s[k.toNat]:=by
  rw[List.getD_eq_getElem?_getD,List.getElem?_eq_getElem (show k.toNat<s.data.toList.length by rw[Array.length_toList];exact hlt)];rfl
 rw[this]
theorem ag3{E:Env}{t:TypeId}{x ix y:AV}{u v:Value}(hx:aqm P t x ix=some (true,y))(hu:rel E x u)(hv:rel E ix v):∃r,(aB7 t u v).run P w=.ok r w/\rel E y r:=by
 unfold aqm at hx;split at hx
 .rename_i s
  split at hx
  .rename_i kk k hun
   simp only[jN,EU,J8,decide_eq_true_eq]at hx;obtain⟨⟨h1,h2⟩,rfl⟩:=hx;have hv':=bI.1 hv;have hu':=bI.1 hu;subst hv' hu';obtain⟨b,hb,hb2⟩:=aqo h1 h2;refine⟨.int .u8 b.toNat,?_,bI.2 (by rw[hb2])⟩;simp[aB7,asIntOf,run_underlying hun,h1,hb]
  .cases hx
 .cases he:aav P t x ix with
  |none=>rw[he]at hx;cases hx
  |some y' =>
   rw[he]at hx;simp only[amS,jN,EU,true_and]at hx;subst hx;exact ab7 he hu hv
theorem Yj{E:Env}{t:TypeId}{x y:AV}{u:Value}{f:Nat}(hx:ag0 P t x f=some y)(hu:rel E x u):∃r,(aEz t u f).run P w=.ok r w/\rel E y r:=by
 unfold ag0 at hx;split at hx
 .rename_i cs fields hun
  split at hx
  .rename_i fd hfd
   obtain⟨vs,rfl,hr⟩:=kV.1 hu;obtain⟨r,h1,h2⟩:=NW (P:=P) (w:=w) hx (dV hr);refine⟨r,?_,h2⟩;simp[aEz,run_underlying hun,hfd,asAgg,h1]
  .cases hx
 .cases hx
abbrev Dr(w w':World):Prop:=w'=w\/∃k,w'={ w with drawn:=w.drawn+k }
theorem RA{w w':World}(h:w'=w\/w'=w.drew):Dr w w':=by
 rcases h with h |h
 .exact ER h
 .exact aaH ⟨1,h⟩
theorem sU{w w' w'':World}(h:Dr w w')(h':Dr w' w''):Dr w w'':=by
 rcases h with rfl | ⟨k,rfl⟩
 .exact h'
 .rcases h' with rfl | ⟨l,rfl⟩
  .exact aaH ⟨k,rfl⟩
  .exact aaH ⟨k+l,by simp[aAq]⟩
theorem F9{E:Env}{op:BinOp}{t:TypeId}{a b:Nat}{x:AV}{u v:Value}(hx:ab6 op a b=some x)(hu:rel E (.f a) u)(hv:rel E (.f b) v) :
  ∃r w',(binOp op t u v).run P w=.ok r w'/\(w'=w\/w'=w.drew)/\rel E x r:=by
 obtain⟨p,rfl,rfl⟩:=jB.1 hu;obtain⟨q,rfl,rfl⟩:=jB.1 hv
 have hc:∀(c:Bool) (r:Value),(binOp op t (.float .f64 p) (.float .f64 q)).run P w=.ok (.bool c) w->x=.x (.bool c)->∃r w',(binOp op t (.float .f64 p) (.float .f64 q)).run P w=.ok r w'/\(w'=w\/w'=w.drew)/\rel E x r :=
  λ c _ h1 h2=>⟨_,_,h1,ER rfl,by subst h2;exact bI.2 rfl⟩
 cases op<;>simp only[ab6]at hx<;>first | (cases hx;done) |skip
 case add =>
  cases hx;obtain⟨r,w',h1,h2,h3⟩:=AL P .add t Ieee.double.add (λ _ _=>rfl) (ER rfl) aoz (λ _ _ _ h=>MV h) w p q;exact⟨_,_,h1,h2,jB.2 ⟨r,rfl,h3⟩⟩
 case sub =>
  cases hx;obtain⟨r,w',h1,h2,h3⟩:=AL P .sub t Ieee.double.sub (λ _ _=>rfl) (aaH (ER rfl)) aoA (λ _ _ _ h=>abr h) w p q;exact⟨_,_,h1,h2,jB.2 ⟨r,rfl,h3⟩⟩
 case mul =>
  cases hx;obtain⟨r,w',h1,h2,h3⟩:=AL P .mul t Ieee.double.mul (λ _ _=>rfl) (aaH (aaH (ER rfl))) aoB (λ _ _ _ h=>MW h) w p q;exact⟨_,_,h1,h2,jB.2 ⟨r,rfl,h3⟩⟩
 case quo =>
  cases hx;obtain⟨r,w',h1,h2,h3⟩:=AL P .quo t Ieee.double.div (λ _ _=>rfl) (aaH (aaH (aaH rfl))) aoC (λ _ _ _ h=>MX h) w p q;exact⟨_,_,h1,h2,jB.2 ⟨r,rfl,h3⟩⟩
 all_goals
  cases hx;refine hc _ undef (by simp only[binOp_float_cmp_eql,binOp_float_cmp_neq,binOp_float_cmp_lss,binOp_float_cmp_leq,binOp_float_cmp_gtr,binOp_float_cmp_geq,abP];rfl) ?_;simp only[dK,jO,kL,gN,lK,Ko];rfl
theorem iZ{op:BinOp}{a b r:Nat}(hr:ab6 op a b=some (.f r)){p q:Nat}(hp:cn p=a)(hq:cn q=b)(w:World):∃s w',(azE op .f64 p q).run P w=.ok s w'/\Dr w w'/\cn s=r:=by
 obtain⟨v,w',h1,h2,h3⟩:=F9 (P:=P) (w:=w) (t:=0) (E:=⟨w,λ _=>False,λ _=>none⟩) hr (jB.2 ⟨p,rfl,hp⟩) (jB.2 ⟨q,rfl,hq⟩);obtain⟨s,rfl,hs⟩:=jB.1 h3;refine⟨s,w',?_,RA h2,hs⟩
 have e:(Op.floatArith op .f64 p q).run P w=.ok (.float .f64 s) w':=by
  cases op<;>simp only[ab6]at hr<;>first | (cases hr;done) |exact h1
 simp only[azE,YC,e,xU,abP]
theorem Bb{a b:Nat}{p q:Nat}(hp:cn p=a)(hq:cn q=b)(w:World):(az2 .eql .f64 p q).run P w=.ok (dK a b) w:=by
 obtain⟨v,w',h1,h2,h3⟩:=F9 (P:=P) (w:=w) (t:=0) (op:=.eql) (x:=.x (.bool (dK a b))) (E:=⟨w,λ _=>False,λ _=>none⟩) rfl (jB.2 ⟨p,rfl,hp⟩) (jB.2 ⟨q,rfl,hq⟩);have hv:=bI.1 h3;subst hv
 have e0:(binOp .eql 0 (.float .f64 p) (.float .f64 q)).run P w=.ok (.bool (dK a b)) w:=by
  simp only[binOp_float_cmp_eql,abP];rw[<-hp,<-hq];simp only[dK,Ko];rfl
 have e:(Op.floatCmp .eql .f64 p q).run P w=.ok (.bool (dK a b)) w:=e0;simp only[az2,YC,e,xU,asBool,abP]
theorem ab8{E:Env}{op:BinOp}{t:TypeId}{a b c d:Nat}{x:AV}{u v:Value}(hx:akr op a b c d=some x)(hu:rel E (.cx a b) u)(hv:rel E (.cx c d) v) :
  ∃r w',(binOp op t u v).run P w=.ok r w'/\Dr w w'/\rel E x r:=by
 unfold rel at hu hv;rw[bN]at hu hv;obtain⟨p,q,rfl,hp,hq⟩:=hu;obtain⟨p',q',rfl,hp',hq'⟩:=hv;have cxr:∀{s s' r r':Nat},cn s=r->cn s'=r'->rel E (.cx r r') (.complex .f64 s s'):=λ h h'=>by unfold rel;rw[bN];exact⟨_,_,rfl,h,h'⟩
 cases op<;>simp only[akr]at hx<;>first | (cases hx;done) |skip
 case add =>
  cases hx;obtain⟨s,w1,h1,d1,e1⟩:=iZ (P:=P) (op:=.add) (r:=bq a c) rfl hp hp' w;obtain⟨s',w2,h2,d2,e2⟩:=iZ (P:=P) (op:=.add) (r:=bq b d) rfl hq hq' w1;refine⟨.complex .f64 s s',w2,?_,sU d1 d2,cxr e1 e2⟩;have hb:binOp .add t (.complex .f64 p q) (.complex .f64 p' q')=(do pure (.complex .f64 (<-azE .add .f64 p p') (<-azE .add .f64 q q'))):=rfl
  rw[hb];simp only[YC,h1,h2,xU,abP]
 case sub =>
  cases hx;obtain⟨s,w1,h1,d1,e1⟩:=iZ (P:=P) (op:=.sub) (r:=dI a c) rfl hp hp' w;obtain⟨s',w2,h2,d2,e2⟩:=iZ (P:=P) (op:=.sub) (r:=dI b d) rfl hq hq' w1;refine⟨.complex .f64 s s',w2,?_,sU d1 d2,cxr e1 e2⟩;have hb:binOp .sub t (.complex .f64 p q) (.complex .f64 p' q')=(do pure (.complex .f64 (<-azE .sub .f64 p p') (<-azE .sub .f64 q q'))):=rfl
  rw[hb];simp only[YC,h1,h2,xU,abP]
 case mul =>
  cases hx;obtain⟨m1,w1,h1,d1,e1⟩:=iZ (P:=P) (op:=.mul) (r:=bT a c) rfl hp hp' w;obtain⟨m2,w2,h2,d2,e2⟩:=iZ (P:=P) (op:=.mul) (r:=bT b d) rfl hq hq' w1;obtain⟨s,w3,h3,d3,e3⟩:=iZ (P:=P) (op:=.sub) (r:=dI (bT a c) (bT b d)) rfl e1 e2 w2;obtain⟨m3,w4,h4,d4,e4⟩:=iZ (P:=P) (op:=.mul) (r:=bT a d) rfl hp hq' w3;obtain⟨m4,w5,h5,d5,e5⟩:=iZ (P:=P) (op:=.mul) (r:=bT b c) rfl hq hp' w4;obtain⟨s',w6,h6,d6,e6⟩:=iZ (P:=P) (op:=.add) (r:=bq (bT a d) (bT b c)) rfl e4 e5 w5;refine⟨.complex .f64 s s',w6,?_,sU d1 (sU d2 (sU d3 (sU d4 (sU d5 d6)))),cxr e3 e6⟩;have hb:binOp .mul t (.complex .f64 p q) (.complex .f64 p' q')=aEV .mul .f64 p q p' q':=rfl;rw[hb];simp[aEV,aE0,aE1,aE2,aE3,aE4,h1,h2,h3,h4,h5,h6]
 case eql =>
  cases hx;refine⟨.bool (dK a c&&dK b d),w,?_,ER rfl,bI.2 rfl⟩;have hb:binOp .eql t (.complex .f64 p q) (.complex .f64 p' q')=(do pure (.bool ((<-az2 .eql .f64 p p')&&(<-az2 .eql .f64 q q')))):=rfl
  rw[hb];simp only[YC,Bb (P:=P) hp hp' w,Bb (P:=P) hq hq' w,xU,abP]
 case neq =>
  cases hx;refine⟨.bool (!(dK a c&&dK b d)),w,?_,ER rfl,bI.2 rfl⟩;have hb:binOp .neq t (.complex .f64 p q) (.complex .f64 p' q')=(do pure (.bool !((<-az2 .eql .f64 p p')&&(<-az2 .eql .f64 q q')))):=rfl
  rw[hb];simp only[YC,Bb (P:=P) hp hp' w,Bb (P:=P) hq hq' w,xU,abP]
theorem take_length{α:Type}{us:List α}{o n:Nat}(h:o+n<=us.length):((us.drop o).take n).length=n:=by simp;omega
theorem EL{E:Env}{xs:List AV}{us:List Value}(h:dB E xs us){o n:Nat}(hle:o+n<=xs.length):dB E ((xs.drop o).take n) ((us.drop o).take n):=l9 o n (dV h) hle
theorem aaw{n:Nat}{t:TypeId}{d:TypeDesc}{xs ys:List AV}{r:Bool}(hu:P.underlying t=some d)(hd:jK d=false)(h:aeq P n t xs ys=some r):xs.length=1:=by
 cases n with
 |zero=>simp[aeq]at h
 |succ n =>
  unfold aeq at h;rw[hu]at h;cases d<;>simp only at h<;>first | (cases h;done) | (cases hd;done) |skip
  case bool=>split at h<;>first | (cases h;done) |rfl
  case int k=>split at h<;>first | (cases h;done) |rfl
  case float k=>cases k<;>simp only at h<;>first | (cases h;done) | (split at h<;>first | (cases h;done) |rfl)
theorem Lc{n d:Nat}{E:Env}{xs ys:List AV}{us vs:List Value}(hxs:dB E xs us)(hys:dB E ys vs)
  (ih:∀(t:TypeId) (xs ys:List AV) (us vs:List Value) (r:Bool) (X Y:Value),aeq P n t xs ys=some r->dB E xs us->dB E ys vs->yF P t us X->yF P t vs Y->(azg d t X Y).run P w=.ok r w) :
  ∀(l:List Field) (r:Bool),(l.foldr (λ f acc=>match P.info? f.type,acc with
   | some inf, some b => cond ((f.name == "_") || (inf.size == 0) || afC xs.length (f.offset + inf.size) || afC ys.length (f.offset + inf.size)) none
     ((aeq P n f.type ((xs.drop f.offset).take inf.size) ((ys.drop f.offset).take inf.size)).map (·&&b))
   |_,_=>none) (some true))=some r->(aE5 d us.toArray vs.toArray l).run P w=.ok r w
 | [],r,h=>by simp at h;subst h;rfl
 |f::l,r,h=>by
  rw[aDI]at h;split at h
  .rename_i inf b mR hb
   have hl:=Lc hxs hys ih l b hb
   cases hk : ((f.name == "_") || (inf.size == 0) || afC xs.length (f.offset + inf.size) || afC ys.length (f.offset + inf.size))
   .rw[hk]at h
    simp only[cond_false]at h;simp only[ahD]at hk;obtain⟨⟨⟨hnm,_⟩,hx⟩,hy⟩:=hk
    have hx':f.offset+inf.size<=xs.length:=by
     rcases aA4 xs.length (f.offset+inf.size)with h |h
     .have:afC xs.length (f.offset+inf.size)=true:=ah4 h
      rw[hx]at this;cases this
     .exact h
    have hy':f.offset+inf.size<=ys.length:=by
     rcases aA4 ys.length (f.offset+inf.size)with h |h
     .have:afC ys.length (f.offset+inf.size)=true:=ah4 h
      rw[hy]at this;cases this
     .exact h
    cases ha:aeq P n f.type ((xs.drop f.offset).take inf.size) ((ys.drop f.offset).take inf.size)with
    |none=>rw[ha]at h;cases h
    |some c =>
     rw[ha]at h;simp only[amS,jN]at h;subst h;have hlu:=dJ hxs;have hlv:=dJ hys;cases hu:P.underlying f.type with
     |none =>
      cases n with
      |zero=>simp[aeq]at ha
      |succ n=>unfold aeq at ha;rw[hu]at ha;cases ha
     |some d' =>
      have h1:jK d'=true\/inf.size=1:=by
       cases hd:jK d'
       .have:=aaw hu hd ha
        rw[take_length hx']at this;exact aaH this
       .exact ER rfl
      obtain⟨A,hA,hAv⟩:=yh (P:=P) (w:=w) (us:=us) (o:=f.offset) hu mR (by omega) h1;obtain⟨B,hB,hBv⟩:=yh (P:=P) (w:=w) (us:=vs) (o:=f.offset) hu mR (by omega) h1;have he:=ih f.type _ _ _ _ c A B ha (EL hxs hx') (EL hys hy') hAv hBv
      have hnm' : f.name ≠ "_" := by simpa using hnm
      simp only[aE5,hnm',ne_eq,not_false_eq_true,if_true,YC,hA,xU,hB,he,aCB,abP,hl];cases c<;>rfl
   .rw[hk]at h;cases h
  .cases h
theorem NY{n d:Nat}{e:TypeId}{inf:TypeInfo}{E:Env}{xs ys:List AV}{us vs:List Value}(mR:P.info? e=some inf)(hxs:dB E xs us)(hys:dB E ys vs)
  (ih:∀(t:TypeId) (xs ys:List AV) (us vs:List Value) (r:Bool) (X Y:Value),aeq P n t xs ys=some r->dB E xs us->dB E ys vs->yF P t us X->yF P t vs Y->(azg d t X Y).run P w=.ok r w) :
  ∀(l:List Nat) (r:Bool),(l.foldr (λ i acc=>match acc with
    |some b=>cond ((inf.size==0)||afC xs.length (i*inf.size+inf.size)||afC ys.length (i*inf.size+inf.size)) none
      ((aeq P n e ((xs.drop (i*inf.size)).take inf.size) ((ys.drop (i*inf.size)).take inf.size)).map (·&&b))
    |none=>none) (some true))=some r->(Ba d e inf.size us.toArray vs.toArray l).run P w=.ok r w
 | [],r,h=>by simp at h;subst h;rfl
 |i::l,r,h=>by
  rw[aDI]at h;split at h
  .rename_i b hb
   have hl:=NY mR hxs hys ih l b hb;cases hk:((inf.size==0)||afC xs.length (i*inf.size+inf.size)||afC ys.length (i*inf.size+inf.size))
   .rw[hk]at h
    simp only[cond_false]at h;simp only[ahD]at hk;obtain⟨⟨_,hx⟩,hy⟩:=hk
    have hx':i*inf.size+inf.size<=xs.length:=by
     rcases aA4 xs.length (i*inf.size+inf.size)with h |h
     .have:afC xs.length (i*inf.size+inf.size)=true:=ah4 h
      rw[hx]at this;cases this
     .exact h
    have hy':i*inf.size+inf.size<=ys.length:=by
     rcases aA4 ys.length (i*inf.size+inf.size)with h |h
     .have:afC ys.length (i*inf.size+inf.size)=true:=ah4 h
      rw[hy]at this;cases this
     .exact h
    cases ha:aeq P n e ((xs.drop (i*inf.size)).take inf.size) ((ys.drop (i*inf.size)).take inf.size)with
    |none=>rw[ha]at h;cases h
    |some c =>
     rw[ha]at h;simp only[amS,jN]at h;subst h;have hlu:=dJ hxs;have hlv:=dJ hys;cases hu:P.underlying e with
     |none =>
      cases n with
      |zero=>simp[aeq]at ha
      |succ n=>unfold aeq at ha;rw[hu]at ha;cases ha
     |some d' =>
      have h1:jK d'=true\/inf.size=1:=by
       cases hd:jK d'
       .have:=aaw hu hd ha
        rw[take_length hx']at this;exact aaH this
       .exact ER rfl
      obtain⟨A,hA,hAv⟩:=yh (P:=P) (w:=w) (us:=us) (o:=i*inf.size) hu mR (by omega) h1;obtain⟨B,hB,hBv⟩:=yh (P:=P) (w:=w) (us:=vs) (o:=i*inf.size) hu mR (by omega) h1;have he:=ih e _ _ _ _ c A B ha (EL hxs hx') (EL hys hy') hAv hBv;simp only[Ba,YC,hA,xU,hB,he,aCB,abP,hl];cases c<;>rfl
   .rw[hk]at h;cases h
  .cases h
theorem ag4{E:Env}:∀(n d:Nat),n<=d->∀(t:TypeId) (xs ys:List AV) (us vs:List Value) (r:Bool) (X Y:Value),aeq P n t xs ys=some r->dB E xs us->dB E ys vs->yF P t us X->yF P t vs Y->(azg d t X Y).run P w=.ok r w:=by
 intro n
 induction n with
 |zero=>intro d _ t xs ys us vs r X Y h;simp[aeq]at h
 |succ n ih =>
  intro d hd t xs ys us vs r X Y h hxs hys hX hY;obtain⟨d,rfl⟩:∃k,d=k+1:=⟨d - 1,by omega⟩;have ih':=ih d (by omega);unfold aeq at h;cases hu:P.underlying t with
  |none=>rw[hu]at h;cases h
  |some desc =>
   rw[hu]at h;unfold yF at hX hY;rw[hu]at hX hY;cases desc<;>simp only at h<;>first | (cases h;done) |skip
   case struct fs =>
    simp only at hX hY;subst hX hY;cases hp:P.stoodInHeld t
    .rw[hp]at h
     simp only[cond_false]at h;have hfs:P.fieldsOf t=fs:=by unfold Program.fieldsOf;rw[hu]
     rw[run_equalIn_struct w d t us.toArray vs.toArray (by rw[hfs];exact hu) hp,hfs];exact Lc hxs hys ih' fs.toList r h
    .rw[hp]at h;cases h
   case array len e =>
    simp only at hX hY;subst hX hY;split at h
    .rename_i inf mR
     rw[run_equalIn_array d t e len inf us.toArray vs.toArray hu mR];exact NY mR hxs hys ih' (av2 len) r h
    .cases h
   case float k =>
    simp only at hX hY;subst hX hY;cases k<;>simp only at h
    .cases h
    .split at h
     .rename_i a b
      simp only[jN]at h;subst h;obtain⟨_,_,e1,hp,_⟩:=aH.1 hxs;obtain⟨_,_,e2,hq,_⟩:=aH.1 hys;cases e1;cases e2;obtain⟨p,rfl,rfl⟩:=jB.1 hp;obtain⟨q,rfl,rfl⟩:=jB.1 hq;simp only[azg,YC,run_underlying hu,xU,if_true,abP,Op.floatEq,dK];rw[Ko];rfl
     .cases h
   case int k =>
    simp only at hX hY;subst hX hY;split at h
    .rename_i k1 a k2 b
     cases hk:decide (k1=k2)
     .rw[hk]at h;cases h
     .rw[hk]at h
      simp only[cond_true,jN]at h;have hk':=of_decide_eq_true hk;subst h hk';obtain⟨_,_,e1,hp,_⟩:=aH.1 hxs;obtain⟨_,_,e2,hq,_⟩:=aH.1 hys;cases e1;cases e2;have e1:=bI.1 hp;have e2:=bI.1 hq;subst e1 e2;exact run_equalIn_int w d t k1 k a b hu
    .cases h
   case bool =>
    simp only at hX hY;subst hX hY;split at h
    .rename_i a b
     simp only[jN]at h;subst h;obtain⟨_,_,e1,hp,_⟩:=aH.1 hxs;obtain⟨_,_,e2,hq,_⟩:=aH.1 hys;cases e1;cases e2;have e1:=bI.1 hp;have e2:=bI.1 hq;subst e1 e2;exact run_equalIn_bool' w d t a b hu
    .cases h
end
noncomputable section
def ab9:Option AV->Option (Option Int)
 |none=>some none
 |some (.x (.int _ i))=>some (some i)
 |some _=>none
def GV(l:Option Int):Nat:=(l.getD 0).toNat
def KE(l h:Option Int)(n:Nat):Nat:=(h.getD n - l.getD 0).toNat
def Bh(l h m:Option Int)(n:Nat):Bool:=decide (0<=l.getD 0)&&(decide (l.getD 0<=h.getD n)&&(decide (h.getD n<=m.getD n)&&decide (m.getD n<=n)))
def sbM:Option Int->Option Int->Bool
 |none,some _=>false
 |_,_=>true
def auU(k sz st len:Nat)(l h m:Option Int):Option (Bool × AV):=match l,m with
 |none,none=>some (Bh none h none len,.fJ k sz st (KE none h len))
 |_,_=>none
def aslice(P:Program)(t:TypeId)(x:AV)(lo hi mx:Option AV):Option (Bool × AV) :=
 match ab9 lo,ab9 hi,ab9 mx with
 |some l,some h,some m=>cond (sbM h m) (match P.underlying t with
  |some (.slice e)=>match P.info? e with
   |some inf=>match x with
    |.sl sz n el=>cond (sz==inf.size) (some (Bh l h m n,.sl sz (KE l h n) (λ i=>el (GV l+i)))) none
    |.fJ k sz st len=>cond (sz==inf.size) (cond (aio e) (auU k sz st len l h m) (some (Bh l h m len,.view k sz (st+GV l) 0 (KE l h len)))) none
    |.view k sz st sub n=>cond (sz==inf.size) (some (Bh l h m n,.view k sz (st+GV l) sub (KE l h n))) none
    |_=>none
   |none=>none
  |some (.array n e)=>match P.info? e with
   |some inf=>match x with
    |.own k off=>some (Bh l h m n,.view k inf.size 0 (off+GV l*inf.size) (KE l h n))
    |_=>none
   |none=>none
  |some .string=>match x,m with
   |.x (.string s),none=>some (Bh l h none s.size,.x (.string (s.extract (GV l) (h.getD s.size).toNat)))
   |_,_=>none
  |_=>none) none
 |_,_,_=>none
def Ld(l:Option Int)(lo:Option Value):Prop:=(l=none/\lo=none)\/∃k i,l=some i/\lo=some (.int k i)
theorem QF{E:Env}{s:St}{ρ:Operand->Value}{lo:Option Operand}{l:Option Int}(h:ab9 (lo.map (aG s))=some l)(hρ:∀y,lo=some y->rel E (aG s y) (ρ y)):Ld l (lo.map ρ):=by
 cases lo with
 |none=>simp[ab9]at h;exact ER ⟨h.symm,rfl⟩
 |some y =>
  simp only[amS]at h ⊢;unfold ab9 at h;split at h
  .rename_i heq;cases heq
  .rename_i k i heq
   simp only[jN]at heq h;have hv:=hρ y rfl;rw[heq]at hv;rw[bI.1 hv];exact aaH ⟨k,i,h.symm,rfl⟩
  .cases h
theorem qy{P:Program}{w:World}{isSlice:Bool}{n c:Nat}{l h m:Option Int}{lo hi mx:Option Value}(hnc:n<=c)(h1:Ld l lo)(h2:Ld h hi)(h3:Ld m mx)(hm:sbM h m=true)(hb:Bh l h m n=true) :
  ∃M,(az8 isSlice n c lo hi mx).run P w=.ok (GV l,(h.getD n).toNat,M) w/\(h.getD n).toNat<=M/\GV l<=(h.getD n).toNat/\(h.getD n).toNat<=n/\(h.getD n).toNat - GV l=KE l h n:=by
 unfold Bh at hb;simp only[J8,decide_eq_true_eq]at hb;obtain⟨b1,b2,b3,b4⟩:=hb;have e0:GV l<=(h.getD n).toNat:=by unfold GV;omega
 have e1:(h.getD n).toNat<=n:=by omega
 have e2:(h.getD n).toNat - GV l=KE l h n:=by unfold GV KE;omega
 have e3:(0:Int)<=h.getD n:=by omega
 refine⟨(m.map Int.toNat).getD c,?_,?_,e0,e1,e2⟩
 .rcases h1 with⟨rfl,rfl⟩ | ⟨k1,i1,rfl,rfl⟩<;>rcases h2 with⟨rfl,rfl⟩ | ⟨k2,i2,rfl,rfl⟩<;>rcases h3 with⟨rfl,rfl⟩ | ⟨k3,i3,rfl,rfl⟩ <;>
   simp only[aAU,ayV,sbM,ayX,Int.toNat_natCast]at b1 b2 b3 b4 e3 hm ⊢
  all_goals
   have g1:∀(x:Int) (y:Nat) (k:IntKind) (code:BoundsCode),0<=x->x<=y->(aAV (.int k x) y code).run P w=.ok x.toNat w:=λ x y k code p q=>by
    simp[aAV,asIntOf,p,q]
   unfold az8;simp only[YC,abP,xU,aDq,amS,aAU,ayV,GV,Int.toNat_zero]
   repeat rw[g1 _ _ _ _ (by omega) (by omega)]
   try simp only[xU]
   try repeat rw[g1 _ _ _ _ (by omega) (by omega)]
   try simp only[xU]
   try repeat rw[g1 _ _ _ _ (by omega) (by omega)]
   try simp only[xU]
 .rcases h3 with⟨rfl,rfl⟩ | ⟨k3,i3,rfl,rfl⟩
  .simp only[aDq,aAU];omega
  .simp only[amS,ayV]at b3 ⊢;omega
theorem Gb{P:Program}{w:World}{isSlice:Bool}{n c:Nat}{h:Option Int}{hi:Option Value}(hnc:n<=c)(h2:Ld h hi)(hb:Bh none h none n=true) :
  (az8 isSlice n c none hi none).run P w=.ok (0,(h.getD n).toNat,c) w/\(h.getD n).toNat<=n/\(h.getD n).toNat=KE none h n:=by
 unfold Bh at hb;simp only[J8,decide_eq_true_eq,aAU]at hb;obtain⟨b1,b2,b3,b4⟩:=hb;refine⟨?_,by omega,by unfold KE;simp⟩
 have g1:∀(x:Int) (y:Nat) (k:IntKind) (code:BoundsCode),0<=x->x<=y->(aAV (.int k x) y code).run P w=.ok x.toNat w:=λ x y k code p q=>by
  simp[aAV,asIntOf,p,q]
 rcases h2 with⟨rfl,rfl⟩ | ⟨k2,i2,rfl,rfl⟩
 .unfold az8
  simp
 .simp only[ayV]at b2 b3 b4 ⊢
  unfold az8;simp only[YC,abP,xU]
  repeat rw[g1 _ _ _ _ (by omega) (by omega)]
  try simp only[xU]
theorem add_plain(b o i:Nat):(⟨b,o,none⟩:Addr).add i=⟨b,o+i,none⟩:=by unfold aBr;split<;>simp_all
theorem Yk{P:Program}{E:Env}{s:St}{ρ:Operand->Value}{t:TypeId}{x:AV}{v:Value}{lo hi mx:Option Operand}{y:AV}(h:aslice P t x (lo.map (aG s)) (hi.map (aG s)) (mx.map (aG s))=some (true,y))(hv:rel E x v)
  (h1:∀z,lo=some z->rel E (aG s z) (ρ z)) (h2:∀z,hi=some z->rel E (aG s z) (ρ z)) (h3:∀z,mx=some z->rel E (aG s z) (ρ z)):∃r,(az3 t v (lo.map ρ) (hi.map ρ) (mx.map ρ)).run P E.w=.ok r E.w/\rel E y r:=by
 unfold aslice at h;split at h
 .rename_i l hh m e1 e2 e3
  cases hm:sbM hh m
  .rw[hm]at h;cases h
  .rw[hm]at h
   simp only[cond_true]at h;have r1:=QF e1 h1;have r2:=QF e2 h2;have r3:=QF e3 h3;split at h
   .rename_i e hun
    split at h
    .rename_i inf mR
     have run:∀(n c:Nat) (a:Option Addr),n<=c->Bh l hh m n=true->∃M,(az3 t (.slice a n c) (lo.map ρ) (hi.map ρ) (mx.map ρ)).run P E.w=.ok (.slice (if M=GV l then a else a.map (·.add (GV l*inf.size))) (KE l hh n) (M - GV l)) E.w/\KE l hh n<=M - GV l/\(0<KE l hh n->M≠GV l)/\GV l+KE l hh n<=n:=by
      intro n c a hnc hb;obtain⟨M,g1,g2,g3,g4,g5⟩:=qy (P:=P) (w:=E.w) (isSlice:=true) hnc r1 r2 r3 hm hb;refine⟨M,?_,by omega,λ hp=>by omega,by omega⟩;rw[<-g5];simp only[az3,YC,run_underlying hun,xU,aCN,g1,sizeOf,typeInfo,run_program,mR,abP]
     split at h
     .rename_i sz n el
      cases hs:sz==inf.size
      .rw[hs]at h;cases h
      .rw[hs]at h
       simp only[cond_true,jN,EU]at h;obtain⟨hb,rfl⟩:=h;have hs':=eq_of_beq hs;obtain⟨a,c,rfl,hnc,hcs⟩:=iM.1 hv;obtain⟨M,g1,g2,g3,g4⟩:=run n c a hnc hb;refine⟨_,g1,iM.2 ⟨_,_,rfl,g2,?_⟩⟩;by_cases hz:KE l hh n=0
       .exact ER hz
       .rw[if_neg (g3 (by omega))]
        rcases hcs with hcs | ⟨b,o,cs,e',fz,rfl,hA,hh2,hpre⟩
        .omega
        .refine aaH ⟨b,o+GV l*sz,cs,e',fz,by rw[amS,add_plain,hs'],hA,hh2,λ i hi=>?_⟩
         obtain⟨p1,p2⟩:=hpre (GV l+i) (by omega);refine⟨p1,?_⟩;have e5:o+GV l*sz+i*sz=o+(GV l+i)*sz:=by rw[asM];omega
         rw[e5];exact p2
     .rename_i k sz st len
      cases hs:sz==inf.size
      .rw[hs]at h;cases h
      .rw[hs]at h
       have hs':=eq_of_beq hs;simp only[cond_true]at h;cases hcut:aio e
       rotate_left
       .rw[hcut,cond_true]at h
        unfold auU at h;split at h
        .simp only[jN,EU]at h
         obtain⟨hb,rfl⟩:=h;have l0:lo.map ρ=none:=by rcases r1 with⟨_,h⟩ | ⟨_,_,h,_⟩;exact h;cases h
         have m0:mx.map ρ=none:=by rcases r3 with⟨_,h⟩ | ⟨_,_,h,_⟩;exact h;cases h
         have auV:∀(n c:Nat) (a:Option Addr),n<=c->Bh none hh none n=true->(az3 t (.slice a n c) (lo.map ρ) (hi.map ρ) (mx.map ρ)).run P E.w=.ok (.slice a (KE none hh n) c) E.w/\KE none hh n<=n:=by
          intro n c a hnc hb;obtain⟨g1,g2,g3⟩:=Gb (P:=P) (w:=E.w) (isSlice:=true) hnc r2 hb;refine⟨?_,by omega⟩;rw[l0,m0];simp only[az3,YC,run_underlying hun,xU,aCN,g1,sizeOf,typeInfo,run_program,mR,abP,g3];cases a with
          |none=>simp
          |some a=>simp[aBr]
         rcases fM.1 hv with⟨rfl,rfl,rfl⟩ | ⟨b,c,n0,hO,hle,hnc,rfl⟩
         .obtain⟨g1,g2⟩:=auV 0 0 none (ao5 _) hb
          have:KE none hh 0=0:=by omega
          rw[this]at g1 ⊢;exact⟨_,g1,fM.2 (ER ⟨rfl,rfl,rfl⟩)⟩
         .obtain⟨g1,g2⟩:=auV len (c - st) (some ⟨b,st*sz,none⟩) (by omega) hb
          exact⟨_,g1,fM.2 (aaH ⟨b,c,n0,hO,by omega,hnc,rfl⟩)⟩
        .cases h
       rw[hcut,cond_false]at h;simp only[jN,EU]at h;obtain⟨hb,rfl⟩:=h;rcases fM.1 hv with⟨_,rfl,rfl⟩ | ⟨b,c,n0,hO,hle,hnc,rfl⟩
       .obtain⟨M,g1,g2,g3,g4⟩:=run 0 0 none (ao5 _) hb
        exact⟨_,g1,lD.2 ⟨_,_,rfl,g2,ER (by omega)⟩⟩
       .obtain⟨M,g1,g2,g3,g4⟩:=run len (c - st) (some ⟨b,st*sz,none⟩) (by omega) hb
        refine⟨_,g1,lD.2 ⟨_,_,rfl,g2,?_⟩⟩;by_cases hz:KE l hh len=0
        .exact ER hz
        .rw[if_neg (g3 (by omega))]
         exact aaH ⟨b,_,hO,by rw[amS,add_plain,hs',asM,ayO]⟩
     .rename_i k sz st sub n
      cases hs:sz==inf.size
      .rw[hs]at h;cases h
      .rw[hs]at h
       simp only[cond_true,jN,EU]at h;obtain⟨hb,rfl⟩:=h;have hs':=eq_of_beq hs;obtain⟨a,c,rfl,hnc,hcs⟩:=lD.1 hv;obtain⟨M,g1,g2,g3,g4⟩:=run n c a hnc hb;refine⟨_,g1,lD.2 ⟨_,_,rfl,g2,?_⟩⟩;by_cases hz:KE l hh n=0
       .exact ER hz
       .rw[if_neg (g3 (by omega))]
        rcases hcs with hcs | ⟨b,c',hO,rfl⟩
        .omega
        .refine aaH ⟨b,c',hO,?_⟩
         rw[amS,add_plain,hs',asM];congr 2;omega
     .cases h
    .cases h
   .rename_i n e hun
    split at h
    .rename_i inf mR
     split at h
     .rename_i k off
      simp only[jN,EU]at h;obtain⟨hb,rfl⟩:=h;obtain⟨b,c,hO,rfl⟩:=jh.1 hv;obtain⟨M,g1,g2,g3,g4,g5⟩:=qy (P:=P) (w:=E.w) (isSlice:=false) (ao5 n) r1 r2 r3 hm hb;refine⟨.slice (some (if M=GV l then⟨b,off,none⟩else(⟨b,off,none⟩:Addr).add (GV l*inf.size))) (KE l hh n) (M - GV l),?_,lD.2 ⟨_,_,rfl,by omega,?_⟩⟩
      .rw[<-g5]
       simp only[az3,YC,run_underlying hun,xU,aBl,g1,sizeOf,typeInfo,run_program,mR,abP]
      .by_cases hz:KE l hh n=0
       .exact ER hz
       .rw[if_neg (by omega)]
        exact aaH ⟨b,c,hO,by rw[add_plain,Nat.zero_mul,avB]⟩
     .cases h
    .cases h
   .rename_i hun
    split at h
    .rename_i s'
     simp only[jN,EU]at h;obtain⟨hb,rfl⟩:=h;have hu:=bI.1 hv;subst hu;have m0:mx.map ρ=none:=by rcases r3 with⟨_,h⟩ | ⟨_,_,h,_⟩;exact h;cases h
     obtain⟨M,g1,g2,g3,g4,g5⟩:=qy (P:=P) (w:=E.w) (isSlice:=false) (ao5 s'.size) r1 r2 r3 hm hb;rw[m0]at g1;refine⟨_,?_,bI.2 rfl⟩;rw[m0];simp[az3,YC,run_underlying hun,xU,aCN,g1]
    .cases h
   .cases h
 .cases h
def isByte:List AV->Bool
 | [.x (.int .u8 _)]=>true
 |_=>false
def byteOf:List AV->Int
 | [.x (.int .u8 b)]=>b
 |_=>0
theorem NZ{l:List AV}(h:isByte l=true):l=[.x (.int .u8 (byteOf l))]:=by
 unfold isByte at h;split at h
 .rfl
 .cases h
def OQ:Nat->(Nat->Bool)->Bool
 | 0,_=>true
 |n+1,p=>p n&&OQ n p
theorem DU:∀{n:Nat} {p:Nat->Bool},OQ n p=true->∀i,i<n->p i=true
 | 0,_,_,i,h=>by omega
 |n+1,p,h,i,hi=>by
  simp only[OQ,J8]at h;by_cases e:i=n
  .subst e;exact h.1
  .exact DU h.2 i (by omega)
theorem Nf:∀{n:Nat} {p:Nat->Bool},(∀i,i<n->p i=true)->OQ n p=true
 | 0,_,_=>rfl
 |n+1,p,h=>by
  simp only[OQ,J8];exact⟨h n (by omega),Nf λ i hi=>h i (by omega)⟩
def acd(n:Nat)(g:Nat->Int):ByteArray:=((av2 n).map g).foldl (λ r n=>r.push (UInt8.ofNat n.toNat)) ByteArray.empty
noncomputable def abK:Nat->(Nat->Int)->ByteArray:=aCv (⟨acd,rfl⟩:∃f:Nat->(Nat->Int)->ByteArray,f=acd)
theorem Qh:abK=acd:=aCe (⟨acd,rfl⟩:∃f:Nat->(Nat->Int)->ByteArray,f=acd)
def Ce(k:IntKind)(b:Nat):Bool:=(floatToIntVal .f64 b k).isSome
def LC(k:IntKind)(b:Nat):Int:=(floatToIntVal .f64 b k).getD 0
theorem aku{P:Program}{w:World}{src dst:TypeId}{k:IntKind}{b b':Nat}(hs:P.underlying src=some (.float .f64))(hd:P.underlying dst=some (.int k))(hf:Ce k b=true)(hb:cn b'=b) :
  (convert src dst (.float .f64 b')).run P w=.ok (.int k (LC k b)) w:=by
 unfold Ce at hf;unfold LC
 have hn:aL b'=false:=by
  cases h:aL b' with
  |false=>rfl
  |true =>
   rw[wE h]at hb;subst hb;have h0:∀k,(floatToIntVal .f64 uP k).isSome=false:=λ k=>by cases k<;>decide +kernel
   rw[h0]at hf;cases hf
 rw[iI hn]at hb;subst hb;cases h:floatToIntVal .f64 b' k with
 |none=>rw[h]at hf;cases hf
 |some n=>exact run_convert_float_int w src dst .f64 k b' n (by rw[hs];rfl) hd h
def ace(P:Program)(mem:List Row)(src dst:TypeId)(x:AV):Option (Bool × AV) :=
 match P.underlying src,P.underlying dst with
 |some (.slice e),some .string=>match P.underlying e with
  |some (.int .u8)=>match x with
   |.sl sz n el=>cond (sz==1) (some (OQ n (λ i=>isByte (el i)),.x (.string (abK n λ i=>byteOf (el i))))) none
   |.view k sz st sub n=>match mem[k]? with
    |some (.c l)=>cond (sz==1) (some (OQ n (λ i=>isByte ((l.drop (st+sub+i)).take 1)),.x (.string (abK n λ i=>byteOf ((l.drop (st+sub+i)).take 1))))) none
    |_=>none
   |_=>none
  |_=>none
 |some (.float .f64),some (.int k)=>match x with
  |.f b=>some (Ce k b,.x (.int k (LC k b)))
  |_=>none
 |_,_=>none
theorem cell_of{w:World}{b o:Nat}{cs:Array Value}{e:TypeId}{fz:Nat × Nat}{v:Value}(hh:w.heap[b]?=some (.cells cs e fz))(hv:cs.toList[o]?=some v):w.cell? ⟨b,o,none⟩=some v:=by
 simp only[World.cell?,hh];simpa using hv
theorem N7{P:Program}{w:World}{src dst e:TypeId}(hs:P.underlying src=some (.slice e))(he:P.underlying e=some (.int .u8))(hd:P.underlying dst=some .string){n c:Nat}{a:Option Addr}{g:Nat->Int}
  (ha:n=0\/∃b o cs e' fz,a=some ⟨b,o,none⟩/\w.heap[b]?=some (.cells cs e' fz)/\∀i,i<n->cs.toList[o+i]?=some (.int .u8 (g i))) :
  (convert src dst (.slice a n c)).run P w=.ok (.string (abK n g)) w:=by
 rw[run_convert_bytes_string w src dst e a n c hs he hd]
 have key:∀(ad:Addr),(∀i,i<n->w.cell? (ad.add i)=some (.int .u8 (g i)))->(Conv.bytesToString (.slice (some ad) n c)).run P w=.ok (.string (abK n g)) w:=by
  intro ad hc;rw[Qh];refine run_bytesToString w ad n c ((av2 n).map g) ?_
  have:=run_loadCells_list (P:=P) (w:=w) ad (((av2 n).map g).map (Value.int .u8)) (λ j v hj=>by
   simp only[List.map_map,List.getElem?_map]at hj;by_cases hjn:j<n
   .rw[List.getElem?_range hjn]at hj
    simp only[amS,jN,Function.comp]at hj;rw[<-hj];exact hc j hjn
   .rw[List.getElem?_eq_none (by simpa using hjn)]at hj
    cases hj)
  simpa using this
 cases a with
 |none =>
  have hn:n=0:=by
   rcases ha with ha | ⟨b,o,cs,e',fz,h1,_⟩
   .exact ha
   .cases h1
  subst hn;simp[Conv.bytesToString,Qh,acd,abP]
 |some ad =>
  refine key ad λ i hi=>?_;rcases ha with ha | ⟨b,o,cs,e',fz,h1,h2,h3⟩
  .omega
  .simp only[jN]at h1
   subst h1;rw[add_plain];exact cell_of h2 (h3 i hi)
theorem aax{E:Env}{b:Int}{us:List Value}(h:pre E [.x (.int .u8 b)] us):us[0]?=some (.int .u8 b):=by
 obtain⟨u,us',rfl,h1,_⟩:=bE.1 h;rw[bI.1 h1];rfl
theorem ag5{P:Program}{E:Env}{mem:List Row}(hm:uM E mem){src dst:TypeId}{x y:AV}{v:Value}(h:ace P mem src dst x=some (true,y))(hv:rel E x v):∃r,(convert src dst v).run P E.w=.ok r E.w/\rel E y r:=by
 unfold ace at h;split at h
 .rename_i e hs hd
  split at h
  .rename_i he
   split at h
   .rename_i sz n el
    cases h1:sz==1
    .rw[h1]at h;cases h
    .rw[h1]at h
     simp only[cond_true,jN,EU]at h;obtain⟨hb,rfl⟩:=h;have hs1:=eq_of_beq h1;subst hs1;obtain⟨a,c,rfl,hnc,hcs⟩:=iM.1 hv;refine⟨_,N7 hs he hd (g:=λ i=>byteOf (el i)) ?_,bI.2 rfl⟩;rcases hcs with hcs | ⟨b,o,cs,e',fz,h4,h5,h6,h7⟩
     .exact ER hcs
     .refine aaH ⟨b,o,cs,e',fz,h4,h6,λ i hi=>?_⟩
      have hp:pre E.fz (el i) (cs.toList.drop (o+i*1)):=(h7 i hi).2;rw[NZ (DU hb i hi)]at hp;have:=aax hp;rw[aoD,ayY,ayO]at this;exact this
   .rename_i k sz st sub n
    split at h
    .rename_i l hk
     cases h1:sz==1
     .rw[h1]at h;cases h
     .rw[h1]at h
      simp only[cond_true,jN,EU]at h;obtain⟨hb,rfl⟩:=h;have hs1:=eq_of_beq h1;subst hs1;obtain⟨a,c,rfl,hnc,hcs⟩:=lD.1 hv;refine⟨_,N7 hs he hd (g:=λ i=>byteOf ((l.drop (st+sub+i)).take 1)) ?_,bI.2 rfl⟩;rcases hcs with hcs | ⟨b,c',hO,h4⟩
      .exact ER hcs
      .obtain⟨row,g1,g2⟩:=hm k b c' hO
       rw[hk]at g1;cases g1;obtain⟨cs,e',g3,g4⟩:=g2;refine aaH ⟨b,st*1+sub,cs,e',(0,0),h4,g3,λ i hi=>?_⟩;have hi1:=NZ (DU hb i hi)
       have hle:st+sub+i+1<=l.length:=by
        have:=congrArg List.length hi1;simp at this;omega
       have hp:=l9 (st+sub+i) 1 g4 hle;rw[hi1]at hp;have:=aax (dV hp);rw[ayY]
       have h0:((cs.toList.drop (st+sub+i)).take 1)[0]?=cs.toList[st+sub+i]?:=by
        rw[axq,if_pos (by omega),aoD,ayO]
       rw[h0]at this;exact this
    .cases h
   .cases h
  .cases h
 .rename_i k hs hd
  split at h
  .rename_i b
   simp only[jN,EU]at h;obtain⟨hf,rfl⟩:=h;obtain⟨b',rfl,hb⟩:=jB.1 hv;exact⟨_,aku hs hd hf (by first |exact hb |exact hb.symm),bI.2 rfl⟩
  .cases h
 .cases h
theorem XW{P:Program}{m1 m2:List Row}{src dst:TypeId}{x:AV}(h:∀k sz st sub n,x=.view k sz st sub n->m1[k]?=m2[k]?):ace P m1 src dst x=ace P m2 src dst x:=by
 unfold ace;split
 .split
  .split
   .rfl
   .rename_i k sz st sub n
    rw[h k sz st sub n rfl]
   .rfl
  .rfl
 .rfl
 .rfl
def jL:List AV->Option (List Value)
 | []=>some []
 |.x u::xs=>cond (om u) ((jL xs).map (u::·)) none
 |_::_=>none
theorem CS{E:Env}:∀{xs:List AV} {us vs:List Value},jL xs=some vs->dB E xs us->us=vs
 | [],us,vs,h,hr=>by simp[jL]at h;subst h;exact bK.1 hr
 |.x u::xs,us,vs,h,hr=>by
  simp only[jL]at h;cases hp:om u
  .rw[hp]at h;cases h
  .rw[hp]at h
   simp only[cond_true]at h;cases hx:jL xs with
   |none=>rw[hx]at h;cases h
   |some ws =>
    rw[hx]at h;simp only[amS,jN]at h;subst h;obtain⟨w,us',rfl,h1,h2⟩:=aH.1 hr;rw[bI.1 h1,CS hx h2]
 |.f _::_,_,_,h,_=>by simp[jL]at h
 |.cx _ _::_,_,_,h,_=>by simp[jL]at h
 |.agg _::_,_,_,h,_=>by simp[jL]at h
 |.aN _::_,_,_,h,_=>by simp[jL]at h
 |.own _ _::_,_,_,h,_=>by simp[jL]at h
 |.pR _ _ _ _::_,_,_,h,_=>by simp[jL]at h
 |.fJ _ _ _ _::_,_,_,h,_=>by simp[jL]at h
 |.view _ _ _ _ _::_,_,_,h,_=>by simp[jL]at h
 |.ref _ _::_,_,_,h,_=>by simp[jL]at h
 |.sl _ _ _::_,_,_,h,_=>by simp[jL]at h
 |.sW _ _::_,_,_,h,_=>by simp[jL]at h
 |.fn _ _ _::_,_,_,h,_=>by simp[jL]at h
 |.any::_,_,_,h,_=>by simp[jL]at h
end
noncomputable section
mutual
def nH:AV->Bool
 |.own _ _=>false
 |.pR _ _ _ _=>false
 |.fJ _ _ _ _=>false
 |.view _ _ _ _ _=>false
 |.agg l=>bZ l
 |.aN l=>bZ l
 |.sW _ x=>nH x
 |.fn _ a b=>bZ a&&bZ b
 |_=>true
def bZ:List AV->Bool
 | []=>true
 |x::xs=>nH x&&bZ xs
end
mutual
theorem CU:∀(x:AV) {E E':Env} (_:∀b,¬E.A b->∀ob,E.w.heap[b]?=some ob->¬E'.A b/\E'.w.heap[b]?=some ob) (_:nH x=true) (u:Value),bN x E u->bN x E' u
 |.x v,_,_,_,_,u,hr=>by unfold bN at *;exact hr
 |.f a,_,_,_,_,u,hr=>by unfold bN at *;exact hr
 |.cx a c,_,_,_,_,u,hr=>by unfold bN at *;exact hr
 |.agg l,_,_,h,hn,u,hr=>by
  unfold bN at *;unfold nH at hn;obtain⟨vs,h1,h2⟩:=hr;exact⟨vs,h1,ng l h hn _ h2⟩
 |.aN l,_,_,h,hn,u,hr=>by
  unfold bN at *;unfold nH at hn;obtain⟨vs,h1,h2⟩:=hr;exact⟨vs,h1,ng l h hn _ h2⟩
 |.own k off,_,_,h,hn,u,hr=>by simp[nH]at hn
 |.pR k sz i sub,_,_,h,hn,u,hr=>by simp[nH]at hn
 |.fJ k sz st len,_,_,h,hn,u,hr=>by simp[nH]at hn
 |.view k sz st sub n,_,_,h,hn,u,hr=>by simp[nH]at hn
 |.ref l off,E,E',h,hn,u,hr=>by
  unfold bN at *;obtain⟨b,o,cs,e,fz,h1,h2,h3,h4⟩:=hr;obtain⟨g1,g2⟩:=h b h2 _ h3;exact⟨b,o,cs,e,fz,h1,g1,g2,o9 l (E:=E.fz) (E':=E'.fz) ⟨h,λ k b hb=>by cases hb⟩ _ h4⟩
 |.sl sz n el,E,E',h,hn,u,hr=>by
  unfold bN at *;obtain⟨a,c,h1,h2,h3⟩:=hr;refine⟨a,c,h1,h2,?_⟩;rcases h3 with h3 | ⟨b,o,cs,e,fz,h4,h5,h6,h7⟩
  .exact ER h3
  .obtain⟨g1,g2⟩:=h b h5 _ h6
   exact aaH ⟨b,o,cs,e,fz,h4,g1,g2,λ i hi=>⟨(h7 i hi).1,o9 (el i) (E:=E.fz) (E':=E'.fz) ⟨h,λ k b hb=>by cases hb⟩ _ (h7 i hi).2⟩⟩
 |.sW t x,_,_,h,hn,u,hr=>by
  unfold bN at *;unfold nH at hn;obtain⟨y,h1,h2⟩:=hr;exact⟨y,h1,CU x h hn y h2⟩
 |.fn g a b,_,_,h,hn,u,hr=>by
  unfold bN at *;unfold nH at hn;simp only[J8]at hn;obtain⟨va,vb,h1,h2,h3⟩:=hr;exact⟨va,vb,h1,ng a h hn.1 _ h2,ng b h hn.2 _ h3⟩
 |.any,_,_,_,_,_,_=>by unfold bN;trivial
theorem ng:∀(xs:List AV) {E E':Env} (_:∀b,¬E.A b->∀ob,E.w.heap[b]?=some ob->¬E'.A b/\E'.w.heap[b]?=some ob) (_:bZ xs=true) (us:List Value),gU xs E us->gU xs E' us
 | [],_,_,_,_,[],_=>by unfold gU;trivial
 |x::xs,_,_,h,hn,u::us,hr=>by
  unfold gU at *;unfold bZ at hn;simp only[J8]at hn;exact⟨CU x h hn.1 u hr.1,ng xs h hn.2 us hr.2⟩
 | [],_,_,_,_,_::_,hr=>by simp[gU]at hr
 |_::_,_,_,_,_,[],hr=>by simp[gU]at hr
end
theorem JA{E E':Env}{xs:List AV}{us:List Value}(h:dB E xs us)(hn:bZ xs=true)(hk:∀b,¬E.A b->∀ob,E.w.heap[b]?=some ob->¬E'.A b/\E'.w.heap[b]?=some ob):dB E' xs us:=ng xs hk hn us h
theorem aaV{E E':Env}{x:AV}{u:Value}(h:rel E x u)(hn:nH x=true)(hk:∀b,¬E.A b->∀ob,E.w.heap[b]?=some ob->¬E'.A b/\E'.w.heap[b]?=some ob):rel E' x u:=CU x hk hn u h
def qG (P : Program) (f : Nat) : Prop := ∃ fn, P.funcs[f]? = some fn /\ (fn.name == "runtime.NumGoroutine") = false /\ fn.body.isNone = false
def aj(P:Program)(f:Nat)(args:List AV)(r:AV):Prop :=
 qG P f/\∀(A:Nat->Prop) (w:World) (aZ:Array Value),(∀b,A b->b<w.heap.size)->dB ⟨w,A,λ _=>none⟩ args aZ.toList->vC ⟨w,A,λ _=>none⟩ ->
  Calls P f aZ w λ e w'=>∃v,e=.returned v/\rel ⟨w',A,λ _=>none⟩ r v/\Below w.heap.size w w'
def EF(P:Program)(f:Nat)(args:List AV)(r:AV):Prop :=
 ∀(E:Env) (aZ:Array Value),dB E args aZ.toList->∃u w',(callFunc f aZ).run P E.w=.ok (.value u) w'/\(w'=E.w\/w'=E.w.drew)/\rel E r u
structure Out where
 e:Exit
 s:St
 v:AV
structure Eff where
 v:AV
 rd:List Nat
 wr:Option (Nat × Row)
 nw:Option Row
mutual
def alK:AV->List Nat
 |.own k _=>[k]
 |.pR k _ _ _=>[k]
 |.fJ k _ _ _=>[k]
 |.view k _ _ _ _=>[k]
 |.agg l=>uh l
 |.aN l=>uh l
 |.sW _ x=>alK x
 |.fn _ a b=>uh a++uh b
 |_=>[]
def uh:List AV->List Nat
 | []=>[]
 |x::xs=>alK x++uh xs
end
abbrev adH:=List AV->List (Option Row)->Nat->Option (Bool × Eff)
abbrev agv:=List AV->(AV->Option Out)->Option Out
abbrev adI:=List AV->Nat->Option (Bool × AV × List Row)
abbrev aa0:=List AV->List Row->Option (Bool × AV × List Row)
abbrev VY:=List AV->(Nat->Option Row)->Option (Bool × AV × List Nat)
structure Tab where
 f:Nat->List AV->Option AV
 k:Nat->Option agv
 m:Nat->Option adH
 n:Nat->Option adI
 w:Nat->Option aa0
 r:Nat->Option VY
def aij(g:agv):Prop:=∀args k r,g args k=some r->∃v,k v=some r/\∀k',g args k'=k' v
def agw(P:Program)(f:Nat)(g:agv):Prop:=∀args v,(∀k',g args k'=k' v)->aj P f args v\/EF P f args v
def ain(P:Program)(T:Tab):Prop:=(∀f args r,T.f f args=some r->aj P f args r\/EF P f args r)/\∀f g,T.k f=some g->aij g/\agw P f g
def Good(P:Program)(E:Env)(x:AV):Result Next->Prop
 |.ok (.value v) w'=>rel E x v/\Dr E.w w'
 |.ok (.enter f args) w'=>w'=E.w/\Calls P f args E.w λ e w''=>∃v,e=.returned v/\rel { E with w:=w'' } x v/\Below E.w.heap.size E.w w''
 |_=>False
def auW(P:Program)(t:TypeId)(x:AV):Option AV:=match P.underlying t with
 |some (.slice _)=>match x with
  |.sl _ n _=>some (.x (.int .i64 n))
  |.fJ _ _ _ len=>some (.x (.int .i64 len))
  |.view _ _ _ _ n=>some (.x (.int .i64 n))
  |.x (.slice _ n _)=>some (.x (.int .i64 n))
  |_=>none
 |some .string=>match x with
  |.x (.string s)=>some (.x (.int .i64 s.size))
  |_=>none
 |_=>none
def qJ(P:Program)(s:St)(c:Call):Option (Nat × List AV) :=
 match c.callee with
 |.value x=>match aG s x with
  |.fn (.func f) [] []=>some (f,c.args.toList.map (aG s))
  |_=>none
 |.invoke r name=>match aG s r with
  |.sW t v=>match II P t name with
   |some f=>some (f,v::c.args.toList.map (aG s))
   |none=>none
  |_=>none
 |_=>none
def LH(P:Program)(T:Tab)(s:St)(o:Oper):Option (Bool × AV) :=
 match o.op with
 |.move x=>some (true,aG s x)
 |.assign x=>some (true,aG s x)
 |.load t x=>match aat s.mem (aG s x)with
  |some (b,l,off)=>(Dz P t l off).map λ y=>(b,y)
  |none=>none
 |.fieldAddr t x f=>(Ye P t (aG s x) f).map λ y=>(true,y)
 |.nilCheck x=>(Yd (aG s x) 0).map λ _=>(true,aG s x)
 |.indexAddr t x ix=>Yf P t (aG s x) (aG s ix)
 |.index t x ix=>aqm P t (aG s x) (aG s ix)
 |.field t x f=>(ag0 P t (aG s x) f).map λ y=>(true,y)
 |.binOp op t x y _=>ag2 P op t x y (aG s x) (aG s y)
 |.makeInterface t x=>match P.underlying t with
  |some d=>cond (!EJ d) (some (true,.sW t (aG s x))) none
  |none=>none
 |.typeAssert x _ asserted ok=>(QC P (aG s x) asserted ok).map λ y=>(true,y)
 |.unOp op _ x=>(aun P op (aG s x)).map λ y=>(true,y)
 |.convert src dst x=>match aG s x with
  |.x u=>cond (om u) ((iN P (convert src dst u)).map λ r=>(true,Uv r)) none
  |y=>ace P s.mem src dst y
 |.slice t x lo hi mx=>aslice P t (aG s x) (lo.map (aG s)) (hi.map (aG s)) (mx.map (aG s))
 |.build t ps=>(Yg P t (ps.toList.map λ p=>(p.1,aG s p.2))).map λ y=>(true,y)
 |.extract x i=>match aG s x with
  |.aN vs=>(vs[i]?).map λ y=>(true,y)
  |_=>none
 |.call c=>match c.callee with
  |.builtin .len=>match c.args.toList.map (aG s),c.argTypes.toList with
   | [x],[t]=>(auW P t x).map λ y=>(true,y)
   |_,_=>none
  |.builtin .min=>match jL (c.args.toList.map (aG s))with
   |some us=>(iN P (Builtin.min_ c.argTypes o.type us.toArray)).map λ r=>(true,Uv r)
   |none=>none
  |.builtin .max=>match jL (c.args.toList.map (aG s))with
   |some us=>(iN P (Builtin.max_ c.argTypes o.type us.toArray)).map λ r=>(true,Uv r)
   |none=>none
  |.builtin .complex=>match c.args.toList.map (aG s)with
   | [.f a,.f b]=>some (true,.cx a b)
   |_=>none
  |.builtin .real=>match c.args.toList.map (aG s)with
   | [.cx a _]=>some (true,.f a)
   |_=>none
  |.builtin .imag=>match c.args.toList.map (aG s)with
   | [.cx _ b]=>some (true,.f b)
   |_=>none
  |_=>match qJ P s c with
   |some (f,args)=>cond (bZ args) ((T.f f args).map λ y=>(true,y)) none
   |none=>none
 |_=>none
section
variable{P:Program}{w:World}
theorem QG{E:Env}{op:BinOp}{t:TypeId}{y z:Operand}{xs ys:List AV}{x:AV}{c:Bool}{u v:Value}(hx:cond (La P t&&!P.eqGuardType P.depth t) (match op,aeq P 8 t xs ys with
  |.eql,some b=>some (true,AV.x (.bool b))
  |.neq,some b=>some (true,.x (.bool !b))
  |_,_=>none) none=some (c,x)) (hu:rel E (.agg xs) u) (hv:rel E (.agg ys) v) :
  ∃r w',(do eqGuard op t y z u v;binOp op t u v:Sem Value).run P w=.ok r w'/\Dr w w'/\rel E x r:=by
 cases hk:(La P t&&!P.eqGuardType P.depth t)
 .rw[hk]at hx;cases hx
 .rw[hk]at hx
  simp only[cond_true]at hx;simp only[J8,Bool.not_eq_true']at hk;obtain⟨hagg,hg⟩:=hk;obtain⟨us,rfl,hru⟩:=kV.1 hu;obtain⟨vs,rfl,hrv⟩:=kV.1 hv;have hgr:=run_eqGuard_agg (P:=P) w op t y z us vs hg
  have main:∀b,aeq P 8 t xs ys=some b->(azg 10000 t (.agg us) (.agg vs)).run P w=.ok b w:=λ b hb =>
   ag4 8 10000 (by decide) t _ _ _ _ b _ _ hb hru hrv (NT hagg) (NT hagg)
  split at hx
  .rename_i b hb
   simp only[jN,EU]at hx;obtain⟨_,rfl⟩:=hx;refine⟨.bool b,w,?_,ER rfl,bI.2 rfl⟩;simp only[YC,hgr,xU,run_eql_struct,main b hb]
  .rename_i b hb
   simp only[jN,EU]at hx;obtain⟨_,rfl⟩:=hx;refine⟨.bool (!b),w,?_,ER rfl,bI.2 rfl⟩;simp only[YC,hgr,xU,run_neq_struct,main b hb]
  .cases hx
theorem acf{op:BinOp}{t:TypeId}{u v:Value}{x:AV}(h:aks op u v=some (true,x)):∃r,(binOp op t u v).run P w=.ok r w/\x=Uv r:=by
 unfold aks at h;split at h
 rotate_left
 .rename_i a b
  split at h
  .simp only[jN,EU]at h
   obtain⟨hb,rfl⟩:=h;rw[Zr]at hb;have hb:=of_decide_eq_true hb;refine⟨.string (a++b),?_,rfl⟩;have hb':¬(((a.size+b.size:Nat):Int)>IntKind.i64.max):=by omega
   simp only[binOp,Op.stringOp,hb',if_false,abP]
  .cases h
 rotate_left
 .rename_i a b
  split at h
  all_goals first | (cases h;done) |skip
  all_goals
   simp only[jN,EU]at h;obtain⟨hb,rfl⟩:=h
   have hb0:b≠0:=by
    intro e;subst e;cases hb
   first
    |exact⟨.int .i64 (a.tmod b),by simp[binOp,Op.intDiv,hb0],rfl⟩
    |exact⟨.int .i64 (IntKind.i64.wrap (a.tdiv b)),by simp[binOp,Op.intDiv,hb0],rfl⟩
 .cases h
end
end
noncomputable section
section
variable{P:Program}{w:World}
theorem acg{E:Env}{op:BinOp}{t:TypeId}{y z:Operand}{x a b:AV}{u v:Value}(hx:aqn P op t a b=some (true,x))(hu:rel E a u)(hv:rel E b v) :
  ∃r w',(do eqGuard op t y z u v;binOp op t u v:Sem Value).run P w=.ok r w'/\Dr w w'/\rel E x r:=by
 unfold aqn at hx;split at hx
 .rename_i p q
  cases hf:ab6 op p q with
  |none=>rw[hf]at hx;cases hx
  |some r0 =>
   rw[hf]at hx;simp only[amS,jN,EU,true_and]at hx;subst hx;obtain⟨r,w',h1,h2,h3⟩:=F9 (P:=P) (w:=w) (t:=t) hf hu hv;obtain⟨p',rfl,_⟩:=jB.1 hu;have hg:(eqGuard op t y z (.float .f64 p') v).run P w=.ok () w:=uW rfl;refine⟨r,w',?_,RA h2,h3⟩;simp only[YC,hg,xU,h1]
 .rename_i p q p2 q2
  cases hf:akr op p q p2 q2 with
  |none=>rw[hf]at hx;cases hx
  |some r0 =>
   rw[hf]at hx;simp only[amS,jN,EU,true_and]at hx;subst hx;obtain⟨r,w',h1,h2,h3⟩:=ab8 (P:=P) (w:=w) (t:=t) hf hu hv;have hu':=hu;unfold rel at hu';rw[bN]at hu';obtain⟨p',q',rfl,_⟩:=hu';have hg:(eqGuard op t y z (.complex .f64 p' q') v).run P w=.ok () w:=uW rfl;refine⟨r,w',?_,h2,h3⟩;simp only[YC,hg,xU,h1]
 .exact QG hx hu hv
 .rename_i a' b'
  have e1:=bI.1 hu;have e2:=bI.1 hv;subst e1 e2;cases hc:(om u&&om v)
  .rw[hc]at hx;cases hx
  .rw[hc]at hx
   simp only[cond_true]at hx;simp only[J8]at hc;have hg:(eqGuard op t y z u v).run P w=.ok () w:=uW (by cases u<;>first |rfl |simp[om]at hc)
   cases hd:aks op u v with
   |some r0 =>
    rw[hd]at hx;simp only[jN]at hx;subst hx;obtain⟨r,h1,h2⟩:=acf (P:=P) (w:=w) (t:=t) hd;refine⟨r,w,?_,ER rfl,by rw[h2];exact wK E r⟩;simp only[YC,hg,xU,h1]
   |none =>
    rw[hd]at hx;simp only at hx;cases hp:iN P (binOp op t u v)with
    |none=>rw[hp]at hx;cases hx
    |some r =>
     rw[hp]at hx;simp only[amS,jN,EU,true_and]at hx;refine⟨r,w,?_,ER rfl,by rw[<-hx];exact wK E r⟩;simp only[YC,hg,xU,dH w hp]
 .cases hx
theorem ni{E:Env}{op:BinOp}{t:TypeId}{b:Bool}{x:AV}{u v:Value}(h:oo op b=some x)(he:(azL t u v).run P w=.ok b w)(hb1:binOp .eql t u v=(do pure (.bool (<-azL t u v))))(hb2:binOp .neq t u v=(do pure (.bool (!(<-azL t u v))))) :
  ∃r,(binOp op t u v).run P w=.ok r w/\rel E x r:=by
 cases op<;>simp only[oo]at h<;>first | (cases h;done) |skip
 .cases h;refine⟨_,?_,bI.2 rfl⟩;rw[hb1];simp only[YC,he,xU,abP]
 .cases h;refine⟨_,?_,bI.2 rfl⟩;rw[hb2];simp only[YC,he,xU,abP]
theorem Yl{E:Env}{op:BinOp}{t:TypeId}{y z:Operand}{x a b:AV}{u v:Value}(hx:ag2 P op t y z a b=some (true,x))(hu:rel E a u)(hv:rel E b v) :
  ∃r w',(do eqGuard op t y z u v;binOp op t u v:Sem Value).run P w=.ok r w'/\Dr w w'/\rel E x r:=by
 unfold ag2 at hx;split at hx
 .have hu':=bI.1 hu
  have hv':=bI.1 hv;subst hu' hv';cases hc:((isConst y||isConst z)&&wL P t)
  .rw[hc]at hx;cases hx
  .rw[hc]at hx
   simp only[cond_true]at hx;simp only[J8]at hc;cases hn:oo op true with
   |none=>rw[hn]at hx;cases hx
   |some r0 =>
    rw[hn]at hx;simp only[amS,jN,EU,true_and]at hx;subst hx;obtain⟨ms,hms⟩:=BQ hc.2
    have he:(azL t .nilIface .nilIface).run P w=.ok true w:=by
     obtain⟨k,hk⟩:∃k,azs=k+1:=⟨azs - 1,rfl⟩;unfold azL;rw[hk];simp only[azg,YC,run_underlying hms,xU,abP]
    obtain⟨r,h1,h2⟩:=ni (E:=E) hn he rfl rfl;refine⟨r,w,?_,ER rfl,h2⟩
    have hg:(eqGuard op t y z .nilIface .nilIface).run P w=.ok () w:=by
     have hc1:=hc.1;cases y<;>cases z<;>first | (cases hc1;done) | (cases op<;>rfl)
    simp only[YC,hg,xU,h1]
 .rename_i t' v'
  obtain⟨u',rfl,_⟩:=qL.1 hu;have hv':=bI.1 hv;subst hv';cases hc:wL P t
  .rw[hc]at hx;cases hx
  .rw[hc]at hx
   simp only[cond_true]at hx;cases hn:oo op false with
   |none=>rw[hn]at hx;cases hx
   |some r0 =>
    rw[hn]at hx;simp only[amS,jN,EU,true_and]at hx;subst hx;obtain⟨ms,hms⟩:=BQ hc
    have he:(azL t (.iface t' u') .nilIface).run P w=.ok false w:=by
     obtain⟨k,hk⟩:∃k,azs=k+1:=⟨azs - 1,rfl⟩;unfold azL;rw[hk];simp only[azg,YC,run_underlying hms,xU,abP]
    obtain⟨r,h1,h2⟩:=ni (E:=E) hn he rfl rfl;refine⟨r,w,?_,ER rfl,h2⟩
    have hg:(eqGuard op t y z (.iface t' u') .nilIface).run P w=.ok () w:=by
     cases op<;>rfl
    simp only[YC,hg,xU,h1]
 .rename_i sz n el
  have hv':=bI.1 hv;subst hv';cases hc:wM P t
  .rw[hc]at hx;cases hx
  .rw[hc]at hx
   simp only[cond_true]at hx;cases hn:oo op false with
   |none=>rw[hn]at hx;cases hx
   |some r0 =>
    rw[hn]at hx;simp only[amS,jN,EU]at hx;obtain⟨hn0,rfl⟩:=hx;have hn0:0<n:=Sr hn0;obtain⟨ad,c,rfl,hnc,hcs⟩:=iM.1 hu;obtain⟨b0,o0,cs0,e0,fz0,rfl,_⟩:=hcs.resolve_left (by omega)
    obtain⟨el0,Ym⟩:∃e,P.underlying t=some (.slice e):=by
     unfold wM at hc;split at hc
     .rename_i e he;exact⟨e,he⟩
     .cases hc
    have he:(azL t (.slice (some ⟨b0,o0,none⟩) n c) (.slice none 0 0)).run P w=.ok false w:=by
     obtain⟨k,hk⟩:∃k,azs=k+1:=⟨azs - 1,rfl⟩;unfold azL;rw[hk];simp only[azg,YC,run_underlying Ym,xU,abP]
    obtain⟨r,h1,h2⟩:=ni (E:=E) hn he rfl rfl;refine⟨r,w,?_,ER rfl,h2⟩
    have hg:(eqGuard op t y z (.slice (some ⟨b0,o0,none⟩) n c) (.slice none 0 0)).run P w=.ok () w:=by
     cases op<;>rfl
    simp only[YC,hg,xU,h1]
 .rename_i k off
  have hv':=bI.1 hv;subst hv';obtain⟨b0,c0,_,rfl⟩:=jh.1 hu;cases hc:F8 P t
  .rw[hc]at hx;cases hx
  .rw[hc]at hx
   simp only[cond_true]at hx;cases hn:oo op false with
   |none=>rw[hn]at hx;cases hx
   |some r0 =>
    rw[hn]at hx;simp only[amS,jN,EU,true_and]at hx;subst hx
    obtain⟨el0,Ym⟩:∃e,P.underlying t=some (.pointer e):=by
     unfold F8 at hc;split at hc
     .rename_i e he;exact⟨e,he⟩
     .cases hc
    have he:(azL t (.pointer (some ⟨b0,off,none⟩)) (.pointer none)).run P w=.ok false w:=by
     obtain⟨k,hk⟩:∃k,azs=k+1:=⟨azs - 1,rfl⟩;unfold azL;rw[hk];simp only[azg,YC,run_underlying Ym,xU,abP]
    obtain⟨r,h1,h2⟩:=ni (E:=E) hn he rfl rfl;refine⟨r,w,?_,ER rfl,h2⟩
    have hg:(eqGuard op t y z (.pointer (some ⟨b0,off,none⟩)) (.pointer none)).run P w=.ok () w:=by
     cases op<;>rfl
    simp only[YC,hg,xU,h1]
 .rename_i l off
  have hv':=bI.1 hv;subst hv';obtain⟨b0,o0,_,_,_,rfl,_⟩:=w9.1 hu;cases hc:F8 P t
  .rw[hc]at hx;cases hx
  .rw[hc]at hx
   simp only[cond_true]at hx;cases hn:oo op false with
   |none=>rw[hn]at hx;cases hx
   |some r0 =>
    rw[hn]at hx;simp only[amS,jN,EU,true_and]at hx;subst hx
    obtain⟨el0,Ym⟩:∃e,P.underlying t=some (.pointer e):=by
     unfold F8 at hc;split at hc
     .rename_i e he;exact⟨e,he⟩
     .cases hc
    have he:(azL t (.pointer (some ⟨b0,o0+off,none⟩)) (.pointer none)).run P w=.ok false w:=by
     obtain⟨k,hk⟩:∃k,azs=k+1:=⟨azs - 1,rfl⟩;unfold azL;rw[hk];simp only[azg,YC,run_underlying Ym,xU,abP]
    obtain⟨r,h1,h2⟩:=ni (E:=E) hn he rfl rfl;refine⟨r,w,?_,ER rfl,h2⟩
    have hg:(eqGuard op t y z (.pointer (some ⟨b0,o0+off,none⟩)) (.pointer none)).run P w=.ok () w:=by
     cases op<;>rfl
    simp only[YC,hg,xU,h1]
 .rename_i ad n0 c0
  have hu':=bI.1 hu;have hv':=bI.1 hv;subst hu' hv';cases hc:wM P t
  .rw[hc]at hx;cases hx
  .rw[hc]at hx
   simp only[cond_true]at hx;cases hn:oo op ad.isNone with
   |none=>rw[hn]at hx;cases hx
   |some r0 =>
    rw[hn]at hx;simp only[amS,jN,EU,true_and]at hx;subst hx
    obtain⟨el0,Ym⟩:∃e,P.underlying t=some (.slice e):=by
     unfold wM at hc;split at hc
     .rename_i e he;exact⟨e,he⟩
     .cases hc
    have he:(azL t (.slice ad n0 c0) (.slice none 0 0)).run P w=.ok ad.isNone w:=by
     obtain⟨k,hk⟩:∃k,azs=k+1:=⟨azs - 1,rfl⟩;unfold azL;rw[hk];cases ad<;>simp only[azg,YC,run_underlying Ym,xU,abP,Option.isNone_none,Option.isNone_some]
    obtain⟨r,h1,h2⟩:=ni (E:=E) hn he rfl rfl;refine⟨r,w,?_,ER rfl,h2⟩
    have hg:(eqGuard op t y z (.slice ad n0 c0) (.slice none 0 0)).run P w=.ok () w:=by
     cases op<;>rfl
    simp only[YC,hg,xU,h1]
 .exact acg hx hu hv
theorem Uw{E:Env}{xt asserted:TypeId}{ok:Bool}{x a:AV}{u:Value}(hx:QC P a asserted ok=some x)(hu:rel E a u):∃r,(aAW u xt asserted ok).run P w=.ok r w/\rel E x r:=by
 unfold QC at hx;split at hx
 .rename_i t v
  obtain⟨u',rfl,hc⟩:=qL.1 hu;split at hx
  .rename_i want hun
   split at hx
   .rename_i inf mR
    cases hl:lacks want inf.methods
    .rw[hl]at hx
     simp only[cond_false]at hx;have hm:=QD hl;cases ok
     .cases hx
      refine⟨.iface t u',?_,qL.2 ⟨u',rfl,hc⟩⟩;simp[aAW,run_underlying hun,typeInfo,mR,hm]
     .cases hx
      refine⟨.tuple #[.iface t u',.bool true],?_,nI.2 ⟨_,rfl,aH.2 ⟨_,_,rfl,qL.2 ⟨u',rfl,hc⟩,aH.2 ⟨_,_,rfl,bI.2 rfl,bK.2 rfl⟩⟩⟩⟩;simp[aAW,run_underlying hun,typeInfo,mR,hm]
    .rw[hl]at hx
     simp only[cond_true]at hx;obtain⟨m,hm⟩:=QE hl;cases ok
     .cases hx
     .simp only[cond_true]at hx
      split at hx
      .rename_i hz
       cases hx;refine⟨.tuple #[.nilIface,.bool false],?_,nI.2 ⟨_,rfl,aH.2 ⟨_,_,rfl,bI.2 rfl,aH.2 ⟨_,_,rfl,bI.2 rfl,bK.2 rfl⟩⟩⟩⟩;simp[aAW,run_underlying hun,typeInfo,mR,hm,dH w hz]
      .cases hx
   .cases hx
  .cases hx
 .cases hx
theorem ag6{E:Env}{op:UnOp}{x a:AV}{u:Value}(hx:aun P op a=some x)(hu:rel E a u):∃r,(aEF op u).run P w=.ok r w/\rel E x r:=by
 unfold aun at hx;split at hx
 .cases hx
  obtain⟨p,rfl,rfl⟩:=jB.1 hu;exact⟨_,rfl,jB.2 ⟨_,rfl,akt p⟩⟩
 .rename_i u' _
  have e1:=bI.1 hu;subst e1;cases h1:om u
  .rw[h1]at hx;cases hx
  .rw[h1]at hx
   simp only[cond_true]at hx;cases hp:iN P (aEF op u)with
   |none=>rw[hp]at hx;cases hx
   |some r =>
    rw[hp]at hx;simp only[amS,jN]at hx;exact⟨r,dH w hp,by rw[<-hx];exact wK E r⟩
 .cases hx
def aqp(E:Env):List (AV × Nat)->List (Value × Nat)->Prop
 | [],[]=>True
 |x::xs,v::vs=>(rel E x.1 v.1/\x.2=v.2)/\aqp E xs vs
 |_,_=>False
theorem GX{E:Env}:∀{xs:List AV} {vs:List Value} (n:Nat),dB E xs vs->aqp E (xs.zipIdx n) (vs.zipIdx n)
 | [],vs,_,h=>by rw[bK.1 h];trivial
 |x::xs,vs,n,h=>by
  obtain⟨u,us,rfl,h1,h2⟩:=aH.1 h;exact⟨⟨h1,rfl⟩,GX (n+1) h2⟩
theorem Ux{E:Env}(off:Nat):∀{l:List (AV × Nat)} {l':List (Value × Nat)} {xs:List AV} {vs:Array Value},aqp E l l'->dB E xs vs.toList ->
  dB E (l.foldl (λ cs (p:AV × Nat)=>cs.set (off+p.2) p.1) xs) (l'.foldl (λ cs (p:Value × Nat)=>cs.setIfInBounds (off+p.2) p.1) vs).toList
 | [],[],_,_,_,h=>h
 |x::l,v::l',xs,vs,hz,h=>by
  simp only[List.foldl_cons];refine Ux off hz.2 ?_;simp only[Array.toList_setIfInBounds,hz.1.2];exact Uu _ h hz.1.1
 | [],_::_,_,_,hz,_=>hz.elim
 |_::_,[],_,_,hz,_=>hz.elim
def aa2(E:Env):List (Nat × AV)->List (Nat × Value)->Prop
 | [],[]=>True
 |x::xs,v::vs=>(x.1=v.1/\rel E x.2 v.2)/\aa2 E xs vs
 |_,_=>False
theorem zu{E:Env}(place:Nat->Option (Nat × Nat)):∀{ps:List (Nat × AV)} {qs:List (Nat × Value)} {xs rs:List AV} {vs:Array Value},aa2 E ps qs->dB E xs vs.toList ->
  vQ place xs ps=some rs->∃rs',aDe place vs qs=some rs'/\dB E rs rs'.toList
 | [],[],xs,rs,vs,_,h,e=>by
  simp only[vQ,jN]at e;subst e;exact⟨vs,by simp[aDe],h⟩
 | (i,x)::ps,(j,v)::qs,xs,rs,vs,hp,h,e=>by
  obtain⟨⟨hi,hc⟩,hp'⟩:=hp;simp only at hi hc;subst hi;unfold vQ at e;unfold aDe;cases hpl:place i with
  |none=>simp[hpl]at e
  |some p =>
   obtain⟨off,size⟩:=p;simp only[hpl]at e ⊢;cases hk:(rV x&&((x.cells.length==size)&&aqE (off+size) xs.length))
   .rw[hk]at e;cases e
   .rw[hk]at e
    simp only[cond_true]at e;simp only[J8,beq_iff_eq]at hk;obtain⟨hok,hsz,hle⟩:=hk;have hle':=Sr hle;have hcr:=Fx hc hok;have hl:x.cells.length=v.cells.size:=by have:=dJ hcr;simpa using this
    have hl2:xs.length=vs.size:=by have:=dJ h;simpa using this
    rw[if_neg (by simp;omega)];refine zu place hp' ?_ e;have:=Ux off (GX 0 hcr) h;rw[<-Array.foldl_toList,Array.toList_zipIdx];exact this
 | [],_::_,_,_,_,hp,_,_=>hp.elim
 |_::_,[],_,_,_,hp,_,_=>hp.elim
theorem H9{E:Env}{s:St}{ρ:Operand->Value}:∀{ps:List (Nat × Operand)},(∀y,y∈ps.map (·.2)->rel E (aG s y) (ρ y))->aa2 E (ps.map λ p=>(p.1,aG s p.2)) (ps.map λ p=>(p.1,ρ p.2))
 | [],_=>trivial
 |p::ps,h=>⟨⟨rfl,h p.2 (by simp)⟩,H9 (λ y hy=>h y (by simp at hy ⊢;exact aaH hy))⟩
theorem Uy{E:Env}{t:TypeId}{s:St}{ρ:Operand->Value}{ps:Array (Nat × Operand)}{x:AV}(hρ:∀y,y∈ps.toList.map (·.2)->rel E (aG s y) (ρ y))
  (hx:Yg P t (ps.toList.map λ p=>(p.1,aG s p.2))=some x) :
  ∃r,(aCO t (ps.map λ(i,y)=>(i,ρ y))).run P w=.ok r w/\rel E x r:=by
 unfold Yg at hx;cases hz:iN P (zeroValue t)with
 |none=>simp[hz]at hx
 |some z =>
  simp only[hz]at hx;have hzr:dB E (z.cells.toList.map zq) z.cells.toList:=oV E _;have hpr:aa2 E (ps.toList.map λ p=>(p.1,aG s p.2)) (ps.toList.map λ p=>(p.1,ρ p.2)):=H9 hρ;have hps:(ps.map λ(i,y)=>(i,ρ y)).toList=ps.toList.map λ p=>(p.1,ρ p.2):=by simp
  have alL:=dH w hz;cases hu:P.underlying t with
  |none=>simp[hu]at hx
  |some d =>
   cases d<;>simp only[hu]at hx<;>first | (cases hx;done) |skip
   case struct fields =>
    split at hx
    .rename_i places hpl
     cases hf:vQ (places[·]?) (z.cells.toList.map zq) (ps.toList.map λ p=>(p.1,aG s p.2))with
     |none=>simp[hf]at hx
     |some rs =>
      simp only[hf,amS,jN]at hx;subst hx;obtain⟨rs',h1,h2⟩:=zu _ hpr hzr hf;refine⟨.agg rs',?_,kV.2 ⟨rs',rfl,h2⟩⟩;have aqr:=dH w hpl;simp only[aCO,YC,alL,xU,run_underlying hu,aqr,hps,h1,abP]
    .cases hx
   case array n elem =>
    split at hx
    .rename_i size hsz
     cases hf:vQ (λ i=>some (i*size,size)) (z.cells.toList.map zq) (ps.toList.map λ p=>(p.1,aG s p.2))with
     |none=>simp[hf]at hx
     |some rs =>
      simp only[hf,amS,jN]at hx;subst hx;obtain⟨rs',h1,h2⟩:=zu _ hpr hzr hf;refine⟨.agg rs',?_,kV.2 ⟨rs',rfl,h2⟩⟩;have aqs:=dH w hsz;simp only[aCO,YC,alL,xU,run_underlying hu,aqs,hps,h1,abP]
    .cases hx
theorem QH{E:Env}{xs:List AV}{i:Nat}{x:AV}{u:Value}(hx:xs[i]?=some x)(hu:rel E (.aN xs) u):∃r,(aD5 u i).run P w=.ok r w/\rel E x r:=by
 obtain⟨vs,rfl,hr⟩:=nI.1 hu;obtain⟨v,h1,h2⟩:=agY hr hx;refine⟨v,?_,h2⟩;have h1':vs[i]?=some v:=by simpa using h1
 simp[aD5,h1']
end
theorem lS{E:Env}{s:St}{ρ:Operand->Value}:∀{ys:List Operand},(∀y,y∈ys->rel E (aG s y) (ρ y))->dB E (ys.map (aG s)) (ys.map ρ)
 | [],_=>bK.2 rfl
 |y::ys,h=>aH.2 ⟨_,_,rfl,h y (by simp),lS (λ z hz=>h z (by simp[hz]))⟩
theorem oq{α:Type}{o:Option α}{b:Bool}{x:α}(h:o.map (λ y=>(true,y))=some (b,x)):o=some x/\b=true:=by
 cases o with
 |none=>cases h
 |some y=>simp only[amS,jN,EU]at h;exact⟨by rw[h.2],h.1.symm⟩
theorem VN{E:Env}{g:Fn}{a b:List AV}{u:Value}:rel E (.fn g a b) u↔∃va vb,u=.func g va vb/\dB E a va.toList/\dB E b vb.toList:=by unfold rel;first | (rw[bN];done) | (rw[bN];exact aA3)
theorem aaY{P:Program}{T:Tab}{E:Env}{s:St}{ρ:Operand->Value}{o:Oper}{x:AV}(hT:ain P T)(hm:uM E s.mem)(hA:∀b,E.A b->b<E.w.heap.size)(hg:vC E)(_hf:∀f,ρ (.func f)=.func (.func f) #[] #[])
  (hρ:∀y,y∈o.op.operands.toList->rel E (aG s y) (ρ y)) (h:LH P T s o=some (true,x)):Good P E x ((execOp ρ o).run P E.w):=by
 obtain⟨dst,op,type,pos,after,guard⟩:=o;cases op<;>simp only[LH]at h<;>first | (cases h;done) |skip
 case move y=>cases h;exact⟨hρ y (by simp[aeG]),ER rfl⟩
 case assign y=>cases h;exact⟨hρ y (by simp[aeG]),ER rfl⟩
 case load t y =>
  split at h
  .rename_i b l off ha
   cases hl:Dz P t l off with
   |none=>rw[hl]at h;cases h
   |some z =>
    rw[hl]at h;simp only[amS,jN,EU]at h;obtain⟨rfl,rfl⟩:=h;obtain⟨u,h1,h2⟩:=MB (P:=P) hm ha hl (hρ y (by simp[aeG]));simp only[execOp,YC,h1,xU,abP];exact⟨h2,ER rfl⟩
  .cases h
 case fieldAddr t y f =>
  obtain⟨h,_⟩:=oq h;obtain⟨u,h1,h2⟩:=Yh (P:=P) (w:=E.w) h (hρ y (by simp[aeG]));simp only[execOp,YC,h1,xU,abP];exact⟨h2,ER rfl⟩
 case nilCheck y =>
  cases hp:Yd (aG s y) 0 with
  |none=>rw[hp]at h;cases h
  |some z =>
   rw[hp]at h;simp only[amS,jN,EU,true_and]at h;subst h;have hv:=hρ y (by simp[aeG]);obtain⟨b,o,hve,_⟩:=F7 hv hp;rw[hve]at hv;simp only[execOp,hve,abP];exact⟨hv,ER rfl⟩
 case indexAddr t y z =>
  obtain⟨r,h1,h2⟩:=Yi (P:=P) (w:=E.w) h (hρ y (by simp[aeG])) (hρ z (by simp[aeG]));simp only[execOp,YC,h1,xU,abP];exact⟨h2,ER rfl⟩
 case index t y z =>
  obtain⟨r,h1,h2⟩:=ag3 (P:=P) (w:=E.w) h (hρ y (by simp[aeG])) (hρ z (by simp[aeG]));simp only[execOp,YC,h1,xU,abP];exact⟨h2,ER rfl⟩
 case field t y f =>
  obtain⟨h,_⟩:=oq h;obtain⟨r,h1,h2⟩:=Yj (P:=P) (w:=E.w) h (hρ y (by simp[aeG]));simp only[execOp,YC,h1,xU,abP];exact⟨h2,ER rfl⟩
 case binOp op t y z t2 =>
  obtain⟨r,w',h1,h2,h3⟩:=Yl (P:=P) (w:=E.w) (y:=y) (z:=z) h (hρ y (by simp[aeG])) (hρ z (by simp[aeG]));simp only[execOp,YC]at h1 ⊢;rw[h1];exact⟨h3,h2⟩
 case makeInterface t y =>
  split at h
  .rename_i d hun
   cases hc:(!EJ d)
   .rw[hc]at h;cases h
   .rw[hc]at h
    cases h;have hv:=hρ y (by simp[aeG]);refine(?_:Good P E _ ((execOp ρ _).run P E.w))
    have hr:(aCP t (ρ y)).run P E.w=.ok (.iface t (ρ y)) E.w:=by
     unfold aCP;rw[YC,run_underlying hun E.w];cases d<;>first |rfl | (simp[EJ]at hc)
    simp only[execOp,YC,hr,xU,abP];exact⟨qL.2 ⟨ρ y,rfl,hv⟩,ER rfl⟩
  .cases h
 case typeAssert y xt asserted ok =>
  obtain⟨h,_⟩:=oq h;obtain⟨r,h1,h2⟩:=Uw (P:=P) (w:=E.w) (xt:=xt) h (hρ y (by simp[aeG]));simp only[execOp,YC,h1,xU,abP];exact⟨h2,ER rfl⟩
 case unOp op t y =>
  obtain⟨h,_⟩:=oq h;obtain⟨r,h1,h2⟩:=ag6 (P:=P) (w:=E.w) h (hρ y (by simp[aeG]));simp only[execOp,YC,h1,xU,abP];exact⟨h2,ER rfl⟩
 case convert src dst y =>
  split at h
  .rename_i u hu
   cases h1:om u
   .rw[h1]at h;cases h
   .rw[h1]at h
    simp only[cond_true]at h;have hv:=hρ y (by simp[aeG]);rw[hu]at hv;have e1:=bI.1 hv;cases hp:iN P (convert src dst u)with
    |none=>rw[hp]at h;cases h
    |some r =>
     rw[hp]at h;simp only[amS,jN,EU,true_and]at h;simp only[execOp,e1,YC,dH E.w hp,xU,abP];exact⟨by rw[<-h];exact wK E r,ER rfl⟩
  .obtain⟨r,h1,h2⟩:=ag5 (P:=P) hm h (hρ y (by simp[aeG]))
   simp only[execOp,YC,h1,xU,abP];exact⟨h2,ER rfl⟩
 case slice t y lo hi mx =>
  obtain⟨r,h1,h2⟩:=Yk (P:=P) (ρ:=ρ) h (hρ y (by simp[aeG])) (λ z hz=>hρ z (by simp[aeG,hz])) (λ z hz=>hρ z (by simp[aeG,hz])) (λ z hz=>hρ z (by simp[aeG,hz]));simp only[execOp,YC,h1,xU,abP];exact⟨h2,ER rfl⟩
 case build t ps =>
  obtain⟨h,_⟩:=oq h;obtain⟨r,h1,h2⟩:=Uy (P:=P) (w:=E.w) (s:=s) (ρ:=ρ) (λ y hy=>hρ y (by simpa[aeG]using hy)) h;simp only[execOp,YC,h1,xU,abP];exact⟨h2,ER rfl⟩
 case extract y i =>
  split at h
  .rename_i vs ha
   obtain⟨h,_⟩:=oq h;obtain⟨r,h1,h2⟩:=QH (P:=P) (w:=E.w) h (by rw[<-ha];exact hρ y (by simp[aeG]));simp only[execOp,YC,h1,xU,abP];exact⟨h2,ER rfl⟩
  .cases h
 case call c =>
  obtain⟨callee,args,argTypes⟩:=c
  have main:∀(_:(match qJ P s ⟨callee,args,argTypes⟩with
    |some (f,args)=>cond (bZ args) ((T.f f args).map λ y=>(true,y)) none
    |none=>none)=some (true,x)),Good P E x ((execOp ρ ⟨dst,.call ⟨callee,args,argTypes⟩,type,pos,after,guard⟩).run P E.w):=by
   intro h
   have ag7:∀(_:∀y,y∈args.toList->y∈(Op.call ⟨callee,args,argTypes⟩).operands.toList),dB E (args.toList.map (aG s)) (args.map ρ).toList:=λ hsub=>by
    have:=lS (E:=E) (s:=s) (ρ:=ρ) (ys:=args.toList) (λ y hy=>hρ y (hsub y hy));simpa using this
   have hkeep:∀b,¬E.A b->∀ob,E.w.heap[b]?=some ob->¬E.A b/\E.w.heap[b]?=some ob:=λ b h1 ob h2=>⟨h1,h2⟩
   have fin:∀{f:Nat} {as:List AV} {aZ:Array Value},bZ as=true->T.f f as=some x->dB E as aZ.toList->(aj P f as x/\Calls P f aZ E.w λ e w''=>∃v,e=.returned v/\rel { E with w:=w'' } x v/\Below E.w.heap.size E.w w'')\/EF P f as x:=by
    intro f as aZ hno hTf hr;rcases hT.1 f as x hTf with hs |hs
    .left
     refine⟨hs,?_⟩;have hr':dB ⟨E.w,E.A,λ _=>none⟩ as aZ.toList:=JA hr hno hkeep;refine(hs.2 E.A E.w aZ hA hr' (OP hg _)).mono λ e w' ⟨v,g1,g2,g3⟩=>⟨v,g1,?_,g3⟩;exact mM (E:=⟨w',E.A,λ _=>none⟩) (E':={ E with w:=w' }) ⟨λ b h1 ob h2=>⟨h1,h2⟩,λ k b hb=>by cases hb⟩ g2
    .exact aaH hs
   cases callee with
   |value fo =>
    obtain⟨f,hfo,h⟩:∃f,aG s fo=.fn (.func f) [] []/\cond (bZ (args.toList.map (aG s))) ((T.f f (args.toList.map (aG s))).map λ y=>(true,y)) none=some (true,x):=by
     simp only[qJ]at h;split at h
     .rename_i f as hm
      split at hm
      .rename_i f' hfo
       simp only[jN,EU]at hm;obtain⟨rfl,rfl⟩:=hm;exact⟨_,hfo,h⟩
      .cases hm
     .cases h
    have hfv:ρ fo=.func (.func f) #[] #[]:=by
     have h1:=hρ fo (by simp[aeG,ayu]);rw[hfo]at h1;obtain⟨va,vb,e,h2,h3⟩:=VN.1 h1;have e1:va=#[]:=aA9.1 (bK.1 h2);have e2:vb=#[]:=aA9.1 (bK.1 h3);rw[e,e1,e2]
    cases hno:bZ (args.toList.map (aG s))
    .rw[hno]at h;cases h
    .rw[hno]at h
     simp only[cond_true]at h;obtain⟨h,_⟩:=oq h;have hr:=ag7 (λ y hy=>by simp[aeG,ayu];exact aaH (by simpa using hy));rcases fin hno h hr with⟨⟨⟨fn,h1,h2,h3⟩,_⟩,hc⟩ |hs
     .simp only[execOp,resolve,hfv,Deferred.ofValue,YC,abP,xU,invoke,callFunc,run_program,h1,h2,h3,azF,azd,ayX,if_false]
      exact⟨rfl,hc⟩
     .obtain⟨u,w',h1,h2,h3⟩:=hs E (args.map ρ) hr
      simp only[execOp,resolve,hfv,Deferred.ofValue,YC,abP,xU,invoke,azF,azd,h1];exact⟨h3,RA h2⟩
   |builtin b=>simp[qJ]at h
   |invoke rc name =>
    simp only[qJ]at h;cases hrc:aG s rc with
    |sW t v =>
     rw[hrc]at h;simp only at h;cases aay:II P t name with
     |none=>rw[aay]at h;cases h
     |some f =>
      rw[aay]at h;simp only at h;cases hno:bZ (v::args.toList.map (aG s))
      .rw[hno]at h;cases h
      .rw[hno]at h
       simp only[cond_true]at h;obtain⟨h,_⟩:=oq h;have hr:=hρ rc (by simp[aeG,ayu]);rw[hrc]at hr;obtain⟨u',hru,hcr⟩:=qL.1 hr;have aqt:=ag7 (λ y hy=>by simp[aeG,ayu];exact aaH (by simpa using hy))
       have hargs:dB E (v::args.toList.map (aG s)) (#[u']++args.map ρ).toList:=by
        rw[aAB];exact aH.2 ⟨u',_,rfl,hcr,aqt⟩
       have axo:∃k,P.types.size+Made.depth=k+1:=⟨P.types.size+(Made.depth - 1),by have:Made.depth=Made.depth - 1+1:=rfl;omega⟩;obtain⟨k,hk⟩:=axo
       have hget:(#[Value.iface t u']++aCw ρ args)[0]?=some (.iface t u'):=by
        rw[Array.getElem?_append_left (by simp)];rfl
       have hext:(#[Value.iface t u']++aCw ρ args).extract 1 (#[Value.iface t u']++aCw ρ args).size=aCw ρ args:=by
        apply azJ;rw[aCC,aAB];simp only[aCA,aBZ,aBR,Array.toList_map];simp only[Array.size_append,List.size_toArray,anE,List.length_nil,Array.size_map,aAs,aD2,avB,Nat.add_sub_cancel_left];exact List.take_of_length_le (by simp)
       rcases fin hno h hargs with⟨⟨⟨fn,h1,h2,h3⟩,_⟩,hc⟩ |hs
       .have hrun:(execOp ρ ⟨dst,.call ⟨.invoke rc name,args,argTypes⟩,type,pos,after,guard⟩).run P E.w=.ok (.enter f (#[u']++args.map ρ)) E.w:=by
         simp only[execOp,resolve,hru,YC,abP,xU,invoke,hget,hext,callMethod,run_program,hk,EK aay,callFunc,h1,h2,h3,ayX,if_false]
        rw[hrun];exact⟨rfl,hc⟩
       .obtain⟨u,w',h1,h2,h3⟩:=hs E (#[u']++args.map ρ) hargs
        have hrun:(execOp ρ ⟨dst,.call ⟨.invoke rc name,args,argTypes⟩,type,pos,after,guard⟩).run P E.w=.ok (.value u) w':=by
         simp only[execOp,resolve,hru,YC,abP,xU,invoke,hget,hext,callMethod,run_program,hk,EK aay,h1]
        rw[hrun];exact⟨h3,RA h2⟩
    |_=>rw[hrc]at h;cases h
  split at h
  .rename_i hc
   simp only at hc;subst hc;split at h
   .rename_i x0 t hargs hty
    obtain⟨h,_⟩:=oq h;simp only at hargs hty
    have Uz:dB E (args.toList.map (aG s)) (args.map ρ).toList:=by
     have:=lS (E:=E) (s:=s) (ρ:=ρ) (ys:=args.toList) (λ y hy=>hρ y (by simp[aeG,ayu];simpa using hy));simpa using this
    rw[hargs]at Uz;obtain⟨v,vs',hvs,hv,hnil⟩:=aH.1 Uz;rw[bK.1 hnil]at hvs;have hmap:args.map ρ=#[v]:=by apply azJ;exact hvs
    have ht:argTypes=#[t]:=by cases argTypes;simpa using hty
    subst ht;unfold auW at h;cases hun:P.underlying t with
    |none=>rw[hun]at h;cases h
    |some d =>
     rw[hun]at h;cases d<;>simp only at h<;>first | (cases h;done) |skip
     .split at h
      .cases h
       rename_i s';rw[bI.1 hv]at hmap;simp only[execOp,resolve,hmap,YC,abP,xU,invoke,builtin,Builtin.len_,aCD,aCr,run_underlying hun];exact⟨bI.2 rfl,ER rfl⟩
      .cases h
     obtain⟨a',n',c',rfl,hx⟩:∃a' n' c',v=.slice a' n' c'/\x=.x (.int .i64 n'):=by
      split at h
      .cases h;obtain⟨a,c,rfl,_⟩:=iM.1 hv;exact⟨_,_,_,rfl,rfl⟩
      .cases h;rcases fM.1 hv with⟨_,rfl,rfl⟩ | ⟨b,c,n,_,_,_,rfl⟩<;>exact⟨_,_,_,rfl,rfl⟩
      .cases h;obtain⟨a,c,rfl,_⟩:=lD.1 hv;exact⟨_,_,_,rfl,rfl⟩
      .cases h;rw[bI.1 hv];exact⟨_,_,_,rfl,rfl⟩
      .cases h
     subst hx;simp only[execOp,resolve,hmap,YC,abP,xU,invoke,builtin,Builtin.len_,aCD,aCr,run_underlying hun];exact⟨bI.2 rfl,ER rfl⟩
   .cases h
  .rename_i hc
   simp only at hc;subst hc;split at h
   .rename_i us hus
    simp only at hus;cases hp:iN P (Builtin.min_ argTypes type us.toArray)with
    |none=>simp[hp]at h
    |some r =>
     simp only[hp,amS,jN,EU,true_and]at h
     have Uz:dB E (args.toList.map (aG s)) (args.map ρ).toList:=by
      have:=lS (E:=E) (s:=s) (ρ:=ρ) (ys:=args.toList) (λ y hy=>hρ y (by simp[aeG,ayu];simpa using hy));simpa using this
     have e1:=CS hus Uz;have hmap:args.map ρ=us.toArray:=by apply azJ;simpa using e1
     simp only[execOp,resolve,hmap,YC,abP,xU,invoke,builtin,dH E.w hp];exact⟨by rw[<-h];exact wK E r,ER rfl⟩
   .cases h
  .rename_i hc
   simp only at hc;subst hc;split at h
   .rename_i us hus
    simp only at hus;cases hp:iN P (Builtin.max_ argTypes type us.toArray)with
    |none=>simp[hp]at h
    |some r =>
     simp only[hp,amS,jN,EU,true_and]at h
     have Uz:dB E (args.toList.map (aG s)) (args.map ρ).toList:=by
      have:=lS (E:=E) (s:=s) (ρ:=ρ) (ys:=args.toList) (λ y hy=>hρ y (by simp[aeG,ayu];simpa using hy));simpa using this
     have e1:=CS hus Uz;have hmap:args.map ρ=us.toArray:=by apply azJ;simpa using e1
     simp only[execOp,resolve,hmap,YC,abP,xU,invoke,builtin,dH E.w hp];exact⟨by rw[<-h];exact wK E r,ER rfl⟩
   .cases h
  .rename_i hc
   simp only at hc;subst hc;split at h
   .rename_i a b hargs
    simp only at hargs;simp only[jN,EU,true_and]at h
    have Uz:dB E (args.toList.map (aG s)) (args.map ρ).toList:=by
     have:=lS (E:=E) (s:=s) (ρ:=ρ) (ys:=args.toList) (λ y hy=>hρ y (by simp[aeG,ayu];simpa using hy));simpa using this
    rw[hargs]at Uz;obtain⟨v,vs',hvs,hv,Uz⟩:=aH.1 Uz;obtain⟨v2,vs2,auX,hv2,hnil⟩:=aH.1 Uz;rw[bK.1 hnil]at auX;rw[auX]at hvs;have hmap:args.map ρ=#[v,v2]:=by apply azJ;exact hvs
    obtain⟨p,rfl,hp⟩:=jB.1 hv;obtain⟨q,rfl,hq⟩:=jB.1 hv2;have hbi:Builtin.complex_ argTypes type #[.float .f64 p,.float .f64 q]=pure (.complex .f64 p q):=rfl;simp only[execOp,resolve,hmap,YC,abP,xU,invoke,builtin,hbi];exact⟨by rw[<-h];unfold rel;rw[bN];exact⟨p,q,rfl,hp,hq⟩,ER rfl⟩
   .cases h
  .rename_i hc
   simp only at hc;subst hc;split at h
   .rename_i a b hargs
    simp only at hargs;simp only[jN,EU,true_and]at h
    have Uz:dB E (args.toList.map (aG s)) (args.map ρ).toList:=by
     have:=lS (E:=E) (s:=s) (ρ:=ρ) (ys:=args.toList) (λ y hy=>hρ y (by simp[aeG,ayu];simpa using hy));simpa using this
    rw[hargs]at Uz;obtain⟨v,vs',hvs,hv,hnil⟩:=aH.1 Uz;rw[bK.1 hnil]at hvs;have hmap:args.map ρ=#[v]:=by apply azJ;exact hvs
    unfold rel at hv;rw[bN]at hv;obtain⟨p,q,rfl,hp,hq⟩:=hv;have hbi:Builtin.real_ argTypes type #[.complex .f64 p q]=pure (.float .f64 p):=rfl;simp only[execOp,resolve,hmap,YC,abP,xU,invoke,builtin,hbi];exact⟨by rw[<-h];exact jB.2 ⟨_,rfl,hp⟩,ER rfl⟩
   .cases h
  .rename_i hc
   simp only at hc;subst hc;split at h
   .rename_i a b hargs
    simp only at hargs;simp only[jN,EU,true_and]at h
    have Uz:dB E (args.toList.map (aG s)) (args.map ρ).toList:=by
     have:=lS (E:=E) (s:=s) (ρ:=ρ) (ys:=args.toList) (λ y hy=>hρ y (by simp[aeG,ayu];simpa using hy));simpa using this
    rw[hargs]at Uz;obtain⟨v,vs',hvs,hv,hnil⟩:=aH.1 Uz;rw[bK.1 hnil]at hvs;have hmap:args.map ρ=#[v]:=by apply azJ;exact hvs
    unfold rel at hv;rw[bN]at hv;obtain⟨p,q,rfl,hp,hq⟩:=hv;have hbi:Builtin.imag_ argTypes type #[.complex .f64 p q]=pure (.float .f64 q):=rfl;simp only[execOp,resolve,hmap,YC,abP,xU,invoke,builtin,hbi];exact⟨by rw[<-h];exact jB.2 ⟨_,rfl,hq⟩,ER rfl⟩
   .cases h
  .exact main h
end
end Go.Gv
