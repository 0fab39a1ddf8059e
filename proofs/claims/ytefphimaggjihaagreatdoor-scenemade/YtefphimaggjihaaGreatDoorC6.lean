/-
  The second evaluator, part Gc.
-/
import Derived.Test.YtefphimaggjihaaGreatDoorC5
import Derived.Laws.RangeString
open Array renaming append_empty->azF,empty_append->azd,ext'->azJ,getD_eq_getD_getElem?->ay0,getElem?_eq_getElem->axZ,getElem?_eq_some_iff->ayR,getElem?_modify->aBb,getElem?_toList->azG,length_toList->azZ,range->aCR,size_append->aBL,toList_append->aAB
open Bool renaming and_eq_true->J8,false_eq_true->ayX,false_ne_true->ayF
open Classical renaming choose->aCv,choose_spec->aCe,propDecidable->aAD
open Go.Builtin renaming append_->ay4,copy_->aDy,firstCells->aAt,lenOf->aBn,zeroCells->aBv
open Go.Call renaming operands->ayu
open Go.Instr renaming alloc->aEA,buildSlice->azN,next->aCm,storeAt->aD6
open Go.Op renaming operands->aeG
open Go.Oper renaming upon_value->ayS,wp->azC
open Go.Region renaming wanted->azm
open Go.Result renaming andThen_ok->xU
open Go.Sem renaming run_bind->YC,run_ite->aCB,run_pure->abP
open Go.Utf8 renaming decode->aAX
open Go.Value renaming int->aAP
open Go.World renaming freeze->aAf,grownBy_alloc->azx,ownsRow_nil->aDf,setRow->aAj,shape?->aEl
open List renaming all_eq_true->apB,append_assoc->aiR,eq_nil_of_length_eq_zero->aB1,getD_eq_getElem?_getD->amh,getElem?_append_left->apR,getElem?_append_right->axY,getElem?_drop->aoD,getElem?_eq_getElem->adv,getElem?_eq_some_iff->aj8,getElem?_take->axq,getElem_mem->azH,length_append->uI,length_drop->aze,length_map->aAL,length_take->ayM,map_cons->aB2,map_nil->aBX,map_toArray->aA5,mem_iff_getElem?->aAn,mem_map->azp,nil_append->aBR,range->av2,size_toArray->azf,take_left->aAK
open Nat renaming add_assoc->aAq,add_mul->asM,add_zero->ayO,beq->ax0,ble->aqE,ble_eq_true_of_le->ah4,blt->afC,div_add_mod->ay1,div_lt_iff_lt_mul->aAu,eq_of_beq_eq_true->axO,le_of_ble_eq_true->Sr,le_of_not_lt->ayU,le_refl->ao5,le_trans->apL,lt_of_lt_of_le->ayB,mod_lt->aA8,mul_comm->aye,mul_le_mul_left->ax9,mul_le_mul_right->agT,mul_one->ayY,pos_of_ne_zero->aAM,zero_add->avB
open Option.some renaming injEq->jN
open Or renaming inl->ER,inr->aaH
open Prod.mk renaming injEq->EU
namespace Go.Gv
open Go.RowKit Go.Ev
noncomputable section
theorem Dy{E:Env}{b:Bool}{v:Value}(h:rel E (.x (.bool b)) v):v=.bool b:=bI.1 h
def trp(F:List (AV × Chain))(p:Nat × Bool):Bool :=
 match(F.getD p.1 dflt).1 with
 |.x (.bool b)=>b==p.2
 |_=>false
def qo(F:List (AV × Chain))(c:Chain):Bool:=c.all (trp F)
def Bo(E:Env)(F s:List (AV × Chain))(tmps:Array Value):Prop :=
 (tmps.size=s.length/\vC E)/\∀t,(qo F (s.getD t dflt).2=true->rel E (s.getD t dflt).1 (tmps.getD t undef))/\(qo F (s.getD t dflt).2=false->tmps.getD t undef=undef)
def fV (ops:List Oper) (slots:List (AV × Chain)) (o:Oper):Option Chain :=
  match o.guard with
  |none=>some []
  |some (j,want)=>match ops[j]? with
    |some oj=>match oj.dst with
      |some d=>match(slots.getD d dflt).1 with
        |.x (.bool _)=>some ((d,want)::(slots.getD d dflt).2)
        |_=>none
      |none=>none
    |none=>none
def iB(slots:List (AV × Chain))(c:Chain):Operand->Bool
 |.tmp t=>(slots.getD t dflt).2.all (λ p=>c.contains p)
 |_=>true
def tZ (P:Program) (T:Tab) (ops:List Oper) (s:St) (o:Oper):Option (Bool × Chain × AV) :=
  match fV ops s.slots o with
  |none=>none
  |some c=>match o.op with
    |.pick (.tmp g) x y =>
      cond (iB s.slots c (.tmp g)&&(iB s.slots ((g,true)::c) x&&iB s.slots ((g,false)::c) y))
        (match aG s (.tmp g),aG s x,aG s y with
        |.x (.bool b),.x (.bool p),.x (.bool q)=>some (true,c,.x (.bool (cond b p q)))
        |_,_,_=>none) none
    |_=>cond (o.op.operands.toList.all (iB s.slots c)) (match LH P T s o with
        |some (b,v)=>some (b,c,v)
        |none=>none) none
def jY(ops:List Oper)(o:Oper):List Nat :=
 (match o.guard with
 |none=>[]
 |some (j,_)=>match ops[j]? with
  |some oj=>oj.dst.toList
  |none=>[]) ++
 (match o.op with
 |.pick (.tmp g) _ _=>[g]
 |_=>[])
theorem Jz(F:List (AV × Chain))(p:Nat × Bool)(c:Chain):qo F (p::c)=(trp F p&&qo F c):=by simp[qo]
theorem ail{F:List (AV × Chain)}{c d:Chain}(h:(c.all λ p=>d.contains p)=true)(hd:qo F d=true):qo F c=true:=by
 unfold qo at *;rw[apB]at *;intro p hp;exact hd p (by have:=h p hp;simpa using this)
theorem iF{E:Env}{F:List (AV × Chain)}{s:St}{a:Act}{c:Chain}(hfr:Bo E F s.slots a.tmps)(hc:qo F c=true)(y:Operand)(hy:iB s.slots c y=true):rel E (aG s y) (a.eval y):=by
 cases y with
 |tmp t=>exact(hfr.2 t).1 (ail hy hc)
 |const v=>exact RH E v
 |global g =>
  show rel E (match known g with |some l=>AV.ref l 0 |none=>.any) _
  cases hl:known g with
  |none=>exact lQ
  |some l=>exact(hfr.1.2 g l hl).1
 |func f=>exact VN.2 ⟨#[],#[],rfl,bK.2 rfl,bK.2 rfl⟩
theorem aaX{tmps:Array Value}{d:Nat}{b:Bool}(h:tmps.getD d undef=.bool b):tmps[d]?=some (.bool b):=by
 rw[ay0]at h;cases hx:tmps[d]? with
 |none=>rw[hx]at h;simp[undef]at h
 |some v=>rw[hx]at h;simp at h;rw[h]
theorem VP{tmps:Array Value}{d:Nat}(h:tmps.getD d undef=undef):tmps[d]?=none\/tmps[d]?=some undef:=by
 rw[ay0]at h;cases hx:tmps[d]? with
 |none=>exact ER rfl
 |some v=>rw[hx]at h;simp at h;rw[h];exact aaH rfl
theorem jd{E:Env}{F s:List (AV × Chain)}{a:Act}{ops:Array Oper}{o:Oper}{c:Chain}(hfr:Bo E F s a.tmps)
  (hag:∀t,t∈jY ops.toList o->(F.getD t dflt).1=(s.getD t dflt).1) (h:fV ops.toList s o=some c):azm o (yielded ops a.tmps)=qo F c:=by
 unfold fV at h;unfold azm;cases hg:o.guard with
 |none=>simp only[hg,jN]at h;subst h;rfl
 |some gw =>
  obtain⟨j,want⟩:=gw;simp only[hg]at h ⊢;cases hj:ops.toList[j]? with
  |none=>simp[hj]at h
  |some oj =>
   simp only[hj]at h;cases hd:oj.dst with
   |none=>simp[hd]at h
   |some d =>
    simp only[hd]at h;have hj':ops[j]?=some oj:=by simpa using hj
    have hag':=hag d (by simp[jY,hg,hj',hd]);split at h
    .rename_i b hb
     simp only[jN]at h;subst h;rw[Jz]
     have hy:yielded ops a.tmps j=match a.tmps[d]? with |some (.bool b)=>some b |_=>none:=by
      unfold yielded;simp[hj',hd];rfl
     rw[hy];cases ht:qo F (s.getD d dflt).2
     .have:=(hfr.2 d).2 ht
      rcases VP this with e |e<;>rw[e]<;>simp[undef]
     .have:=(hfr.2 d).1 ht
      rw[hb]at this;rw[aaX (Dy this)];have htr:trp F (d,want)=(b==want):=by unfold trp;simp only[hag',hb]
      rw[htr];cases b<;>cases want<;>rfl
    .cases h
theorem Jj{P:Program}{T:Tab}{E:Env}{F:List (AV × Chain)}{s:St}{a:Act}{ops:Array Oper}{o:Oper}{c:Chain}{b:Bool}{v:AV}(hT:ain P T)
  (hfr:Bo E F s.slots a.tmps) (hm:uM E s.mem) (hA:∀b,E.A b->b<E.w.heap.size) (hag:∀t,t∈jY ops.toList o->(F.getD t dflt).1=(s.slots.getD t dflt).1)
  (h:tZ P T ops.toList s o=some (b,c,v)) (hb:qo F c=true->b=true) :
  azm o (yielded ops a.tmps)=qo F c/\(qo F c=true->Good P E v ((execOp a.eval o).run P E.w)):=by
 unfold tZ at h;split at h
 .cases h
 .rename_i c' hc
  have main:∀c'',c''=c'->c''=c->(qo F c=true->Good P E v ((execOp a.eval o).run P E.w))->azm o (yielded ops a.tmps)=qo F c/\(qo F c=true->Good P E v ((execOp a.eval o).run P E.w)) :=
   λ c'' e1 e2 h3=>⟨by rw[<-e2,e1];exact jd hfr hag hc,h3⟩
  split at h
  .rename_i g x y hop
   cases hk:(iB s.slots c' (.tmp g)&&(iB s.slots ((g,true)::c') x&&iB s.slots ((g,false)::c') y))
   .rw[hk]at h;cases h
   .rw[hk]at h
    simp only[cond_true]at h;simp only[J8]at hk;split at h
    .rename_i bb p q hbb hp hq
     simp only[jN,EU]at h;obtain⟨_,e1,e2⟩:=h;refine main c' rfl e1 λ ht=>?_;subst e1 e2;have hgv:=iF hfr ht (.tmp g) hk.1;rw[hbb]at hgv;have avU:a.eval (.tmp g)=.bool bb:=Dy hgv
     have hagg:(F.getD g dflt).1=.x (.bool bb):=by
      rw[hag g (by simp[jY,hop])];exact hbb
     have hrun:(execOp a.eval o).run P E.w=.ok (.value (if bb then a.eval x else a.eval y)) E.w:=by
      unfold execOp;simp only[hop,avU,asBool,YC,abP,xU]
     rw[hrun];refine⟨?_,ER rfl⟩;cases bb
     .have hy:=iF hfr (c:=(g,false)::c') (by rw[Jz,ht];simp only[trp,hagg];rfl) y hk.2.2
      rw[hq]at hy;exact hy
     .have hx:=iF hfr (c:=(g,true)::c') (by rw[Jz,ht];simp only[trp,hagg];rfl) x hk.2.1
      rw[hp]at hx;exact hx
    .cases h
  .cases hk:(o.op.operands.toList.all (iB s.slots c'))
   .rw[hk]at h;cases h
   .rw[hk]at h
    simp only[cond_true]at h;split at h
    .rename_i bb u hv
     simp only[jN,EU]at h;obtain⟨e0,e1,e2⟩:=h;refine main c' rfl e1 λ ht=>?_;subst e0 e1 e2;rw[hb ht]at hv;rw[apB]at hk;exact aaY hT hm hA hfr.1.2 (λ f=>rfl) (λ y hy=>iF hfr ht y (hk y hy)) hv
    .cases h
theorem OM{P:Program}{E:Env}{o:Oper}{a:Act}{v:AV}{K:Act->World->Prop}{Q:Exit->Act->World->Prop}(hg:Good P E v ((execOp a.eval o).run P E.w))
  (hK:∀u w',rel { E with w:=w' } v u->Below E.w.heap.size E.w w'->K (a.put o.dst u) w'):o.wp P a E.w K Q:=by
 unfold azC;generalize(execOp a.eval o).run P E.w=r at hg;cases r with
 |ok n w' =>
  cases n<;>simp only[Good]at hg<;>first |exact hg.elim |skip
  case value u =>
   rcases hg.2 with rfl | ⟨k,rfl⟩
   .exact hK u _ hg.1 (Below.refl _ _)
   .exact hK u _ (mM (E:=E) (E':={ E with w:={ E.w with drawn:=E.w.drawn+k } }) ⟨λ b h1 ob h2=>⟨h1,h2⟩,λ k b hb=>hb⟩ hg.1) ⟨rfl,rfl,rfl,ao5 _,λ _ _=>rfl⟩
  case enter f args =>
   obtain⟨he,hc⟩:=hg;subst he;exact hc.mono λ e w'' ⟨u,he,hu,hb⟩=>by subst he;exact hK u w'' hu hb
 |halt x w'=>exact hg.elim
def ow(slots:List (AV × Chain))(dst:Option Nat)(p:AV × Chain):List (AV × Chain) :=
 match dst with
 |some d=>slots.set d p
 |none=>slots
def jQ(slots:List (AV × Chain))(c:Chain):Option Nat->Bool
 |some d=>c.all (λ p=>p.1 !=d)&&slots.all (λ q=>q.2.all (λ p=>p.1 !=d))
 |none=>true
theorem DI(l:List (AV × Chain))(d t:Nat)(p:AV × Chain):(l.set d p).getD t dflt=if d=t/\d<l.length then p else l.getD t dflt:=by
 simp only[amh,List.getElem?_set];by_cases h:d=t
 .subst h
  by_cases h2:d<l.length
  .simp[h2]
  .simp[h2]
 .simp[h]
theorem RI(l:Array Value)(d t:Nat)(v:Value):(l.setIfInBounds d v).getD t undef=if d=t/\d<l.size then v else l.getD t undef:=by
 simp only[ay0,Array.getElem?_setIfInBounds];by_cases h:d=t
 .subst h
  by_cases h2:d<l.size
  .simp[h2]
  .simp[h2]
 .simp[h]
theorem aaZ{F:List (AV × Chain)}{d:Nat}{p:Nat × Bool}(v:AV × Chain)(h:p.1≠d):trp (F.set d v) p=trp F p:=by
 unfold trp;rw[DI,if_neg (λ e=>h e.1.symm)]
theorem ME{F:List (AV × Chain)}{d:Nat}{c:Chain}(v:AV × Chain)(h:(c.all λ p=>p.1 !=d)=true):qo (F.set d v) c=qo F c:=by
 unfold qo
 induction c with
 |nil=>rfl
 |cons p c ih =>
  simp only[List.all_cons,J8]at h ⊢;rw[aaZ v (by simpa using h.1),ih h.2]
theorem kD{E:Env}{s:List (AV × Chain)}{a:Act}{c:Chain}{dst:Option Nat}{v:AV}{u:Value}(hfr:Bo E s s a.tmps)(hd:jQ s c dst=true)
  (h1:qo s c=true->rel E v u) (h2:qo s c=false->u=undef):Bo E (ow s dst (v,c)) (ow s dst (v,c)) (a.put dst u).tmps:=by
 cases dst with
 |none=>exact hfr
 |some d =>
  simp only[jQ,J8]at hd;obtain⟨hd1,hd2⟩:=hd;rw[apB]at hd2;refine⟨⟨by simp[ow,Act.put,hfr.1.1],hfr.1.2⟩,λ t=>?_⟩
  have hch:((s.getD t dflt).2.all λ p=>p.1 !=d)=true:=by
   simp only[amh];cases hx:s[t]? with
   |none=>rfl
   |some q=>exact hd2 q (List.mem_of_getElem? hx)
  simp only[ow,Act.put];rw[DI,RI,hfr.1.1];by_cases h:d=t/\d<s.length
  .rw[if_pos h,if_pos h]
   simp only[ME _ hd1];exact⟨h1,h2⟩
  .rw[if_neg h,if_neg h,ME _ hch]
   exact hfr.2 t
end
noncomputable section
mutual
def kZ(b:Bool):AV->AV->AV
 |.f x,.f y=>.f (cond b x y)
 |.cx x z,.cx y v=>.cx (cond b x y) (cond b z v)
 |.x (.int k x),.x (.int k' y)=>cond (decide (k=k')) (.x (.int k (cond b x y))) .any
 |.x (.bool x),.x (.bool y)=>.x (.bool (cond b x y))
 |.x (.string x),.x (.string y)=>.x (.string (cond b x y))
 |.sl sz n el,.sl sz' n' sZ=>cond (ax0 sz sz') (.sl sz (cond b n n') (λ i=>dn b (el i) (sZ i))) .any
 |_,_=>.any
def dn(b:Bool):List AV->List AV->List AV
 |x::xs,y::ys=>kZ b x y::dn b xs ys
 | [],[]=>[]
 |x::xs,[]=>cond b (x::xs) []
 | [],y::ys=>cond b [] (y::ys)
end
theorem Cj:∀(xs ys:List AV),(dn true xs ys).length=xs.length
 |x::xs,y::ys=>by rw[dn];simp[Cj xs ys]
 | [],[]=>by rw[dn]
 |x::xs,[]=>by rw[dn];rfl
 | [],y::ys=>by rw[dn];rfl
theorem Ck:∀(xs ys:List AV),(dn false xs ys).length=ys.length
 |x::xs,y::ys=>by rw[dn];simp[Ck xs ys]
 | [],[]=>by rw[dn]
 |x::xs,[]=>by rw[dn];rfl
 | [],y::ys=>by rw[dn];rfl
theorem bV{E:Env}{u:Value}:bN .any E u:=lQ
mutual
theorem amJ:∀(x y:AV) {E:Env} {u:Value},bN x E u->bN (kZ true x y) E u
 |.f a,y,E,u,h=>by cases y<;>simp only[kZ]<;>first |exact h |exact bV
 |.x v,y,E,u,h=>by
  cases y<;>try (cases v<;>simp only[kZ]<;>exact bV)
  rename_i v';cases v<;>cases v'<;>simp only[kZ]<;>first |exact h |exact bV |skip
  rename_i k a k' b;by_cases hk:k=k'
  .simp only[hk,decide_true,cond_true]at h ⊢;exact h
  .simp only[hk,decide_false,cond_false];exact bV
 |.sl sz n el,y,E,u,h=>by
  cases y<;>simp only[kZ]<;>first |exact bV |skip
  rename_i sz' n' sZ;cases hs:ax0 sz sz'
  .exact bV
  .simp only[cond_true]
   unfold bN at h ⊢;obtain⟨a,c,h1,h2,h3⟩:=h;refine⟨a,c,h1,h2,?_⟩;rcases h3 with h3 | ⟨b,o,cs,e,fz,h4,h5,h6,h7⟩
   .exact ER h3
   .exact aaH ⟨b,o,cs,e,fz,h4,h5,h6,λ i hi=>⟨by rw[Cj];exact(h7 i hi).1,VQ (el i) (sZ i) (h7 i hi).2⟩⟩
 |.cx _ _,y,E,u,h=>by cases y<;>simp only[kZ]<;>first |exact h |exact bV
 |.agg _,y,_,_,_=>by cases y<;>simp only[kZ]<;>exact bV
 |.aN _,y,_,_,_=>by cases y<;>simp only[kZ]<;>exact bV
 |.own _ _,y,_,_,_=>by cases y<;>simp only[kZ]<;>exact bV
 |.pR _ _ _ _,y,_,_,_=>by cases y<;>simp only[kZ]<;>exact bV
 |.fJ _ _ _ _,y,_,_,_=>by cases y<;>simp only[kZ]<;>exact bV
 |.view _ _ _ _ _,y,_,_,_=>by cases y<;>simp only[kZ]<;>exact bV
 |.ref _ _,y,_,_,_=>by cases y<;>simp only[kZ]<;>exact bV
 |.sW _ _,y,_,_,_=>by cases y<;>simp only[kZ]<;>exact bV
 |.fn _ _ _,y,_,_,_=>by cases y<;>simp only[kZ]<;>exact bV
 |.any,y,_,_,_=>by cases y<;>simp only[kZ]<;>exact bV
theorem VQ:∀(xs ys:List AV) {E:Env} {us:List Value},tF xs E us->tF (dn true xs ys) E us
 |x::xs,y::ys,E,u::us,h=>by
  unfold tF at h;rw[dn];unfold tF;exact⟨amJ x y h.1,VQ xs ys h.2⟩
 |x::xs,y::ys,E,[],h=>by unfold tF at h;exact h.elim
 | [],[],E,us,h=>by rw[dn];exact h
 |x::xs,[],E,us,h=>by rw[dn];exact h
 | [],y::ys,E,us,h=>by rw[dn];exact h
end
mutual
theorem amK:∀(x y:AV) {E:Env} {u:Value},bN y E u->bN (kZ false x y) E u
 |.f a,y,E,u,h=>by cases y<;>simp only[kZ]<;>first |exact h |exact bV
 |.x v,y,E,u,h=>by
  cases y<;>try (cases v<;>simp only[kZ]<;>exact bV)
  rename_i v';cases v<;>cases v'<;>simp only[kZ]<;>first |exact h |exact bV |skip
  rename_i k a k' b;by_cases hk:k=k'
  .simp only[hk,decide_true,cond_true,cond_false]at h ⊢;exact h
  .simp only[hk,decide_false,cond_false];exact bV
 |.sl sz n el,y,E,u,h=>by
  cases y<;>simp only[kZ]<;>first |exact bV |skip
  rename_i sz' n' sZ;cases hs:ax0 sz sz'
  .exact bV
  .have e1:=axO hs
   subst e1;simp only[cond_true,cond_false];unfold bN at h ⊢;obtain⟨a,c,h1,h2,h3⟩:=h;refine⟨a,c,h1,h2,?_⟩;rcases h3 with h3 | ⟨b,o,cs,e,fz,h4,h5,h6,h7⟩
   .exact ER h3
   .exact aaH ⟨b,o,cs,e,fz,h4,h5,h6,λ i hi=>⟨by rw[Ck];exact(h7 i hi).1,VR (el i) (sZ i) (h7 i hi).2⟩⟩
 |.cx _ _,y,E,u,h=>by cases y<;>simp only[kZ]<;>first |exact h |exact bV
 |.agg _,y,_,_,_=>by cases y<;>simp only[kZ]<;>exact bV
 |.aN _,y,_,_,_=>by cases y<;>simp only[kZ]<;>exact bV
 |.own _ _,y,_,_,_=>by cases y<;>simp only[kZ]<;>exact bV
 |.pR _ _ _ _,y,_,_,_=>by cases y<;>simp only[kZ]<;>exact bV
 |.fJ _ _ _ _,y,_,_,_=>by cases y<;>simp only[kZ]<;>exact bV
 |.view _ _ _ _ _,y,_,_,_=>by cases y<;>simp only[kZ]<;>exact bV
 |.ref _ _,y,_,_,_=>by cases y<;>simp only[kZ]<;>exact bV
 |.sW _ _,y,_,_,_=>by cases y<;>simp only[kZ]<;>exact bV
 |.fn _ _ _,y,_,_,_=>by cases y<;>simp only[kZ]<;>exact bV
 |.any,y,_,_,_=>by cases y<;>simp only[kZ]<;>exact bV
theorem VR:∀(xs ys:List AV) {E:Env} {us:List Value},tF ys E us->tF (dn false xs ys) E us
 |x::xs,y::ys,E,u::us,h=>by
  unfold tF at h;rw[dn];unfold tF;exact⟨amK x y h.1,VR xs ys h.2⟩
 |x::xs,y::ys,E,[],h=>by unfold tF at h;exact h.elim
 | [],[],E,us,h=>by rw[dn];exact h
 |x::xs,[],E,us,h=>by rw[dn];exact h
 | [],y::ys,E,us,h=>by rw[dn];exact h
end
theorem l7{E:Env}{b:Bool}{xs ys:List AV}{us:List Value}(h1:b=true->pre E xs us)(h2:b=false->pre E ys us):pre E (dn b xs ys) us:=by
 cases b
 .exact VR xs ys (h2 rfl)
 .exact VQ xs ys (h1 rfl)
theorem l8{b:Bool}{xs ys:List AV}{n:Nat}(h1:b=true->xs.length=n)(h2:b=false->ys.length=n):(dn b xs ys).length=n:=by
 cases b
 .rw[Ck];exact h2 rfl
 .rw[Cj];exact h1 rfl
def Row.live:Row->Bool
 |.dead=>false
 |_=>true
def aK(mem:List Row)(k:Nat):Bool:=match mem[k]? with
 |some r=>r.live
 |none=>false
structure nJ(R:Nat->Prop)(w w':World):Prop where
 os:w'.os=w.os
 tape:w'.tape=w.tape
 output:w'.output=w.output
 size:w.heap.size<=w'.heap.size
 block:∀k,k<w.heap.size->¬R k->w'.heap[k]?=w.heap[k]?
theorem nJ.refl(R:Nat->Prop)(w:World):nJ R w w:=⟨rfl,rfl,rfl,ao5 _,λ _ _ _=>rfl⟩
theorem nJ.grown{R:Nat->Prop}{w0 w w':World}{b:Nat}(h:nJ R w0 w)(hg:w.grownBy w' (some b))(hb:R b\/w0.heap.size<=b):nJ R w0 w' :=
 ⟨hg.os.trans h.os,hg.tape.trans h.tape,hg.output.trans h.output,apL h.size hg.size,λ k hk hn=>(hg.block k (ayB hk h.size) (λ e=>by
  cases e;rcases hb with hb |hb
  .exact hn hb
  .omega)).trans (h.block k hk hn)⟩
theorem nJ.on{R:Nat->Prop}{w0 w w':World}(h:nJ R w0 w)(hb:Below w.heap.size w w'):nJ R w0 w' :=
 ⟨hb.os.trans h.os,hb.tape.trans h.tape,hb.output.trans h.output,apL h.size hb.size,λ k hk hn=>(hb.block k (ayB hk h.size)).trans (h.block k hk hn)⟩
structure Wd(A0 R:Nat->Prop)(w0:Env)(E:Env)(mem:List Row):Prop where
 rows:uM E mem
 small:∀b,E.A b->b<E.w.heap.size
 old:∀b,A0 b->E.A b
 own:∀k b c,E.O k=some (b,c)->aK mem k=true->E.A b/\(R b\/w0.w.heap.size<=b)
 one:∀k k' b c c',E.O k=some (b,c)->E.O k'=some (b,c')->aK mem k=true->aK mem k'=true->k=k'
 below:nJ R w0.w E.w
 CY:w0.le E
theorem pU{E E':Env}(hle:E.le E'){b:Nat}{c:Nat × Nat}{row:Row}(h:rH E b c row)(hb:row.live=true->E'.w.heap[b]?=E.w.heap[b]?):rH E' b c row:=by
 cases row with
 |c l =>
  obtain⟨cs,e,h1,h2⟩:=h;exact⟨cs,e,by rw[hb rfl];exact h1,kg hle h2⟩
 |a e sz n el =>
  obtain⟨cs,h1,h2,h3,h4,h5,h6⟩:=h;exact⟨cs,by rw[hb rfl];exact h1,h2,h3,h4,h5,λ i hi=>⟨(h6 i hi).1,kg hle.fz (h6 i hi).2⟩⟩
 |dead=>trivial
 |i s p e=>exact⟨by rw[hb rfl];exact h.1,h.2⟩
 |t e l =>
  obtain⟨cs,h1,h2,h3⟩:=h;exact⟨cs,by rw[hb rfl];exact h1,kg hle h2,h3⟩
 |z x e sz n el =>
  obtain⟨cs,fz,h1,h2,hx,h3⟩:=h;exact⟨cs,fz,by rw[hb rfl];exact h1,h2,hx,λ i hi=>⟨(h3 i hi).1,kg hle.fz (h3 i hi).2⟩⟩
def Env.row(E:Env)(w':World)(k1 b1:Nat)(c1:Nat × Nat):Env:=⟨w',λ b=>E.A b\/b=b1,λ k=>if k=k1 then some (b1,c1)else E.O k⟩
theorem Env.kN{E:Env}{w':World}{k1 b1:Nat}{c1:Nat × Nat}(hg:E.w.grownBy w' (some b1))(hA:E.A b1\/E.w.heap.size<=b1)(hO:E.O k1=none\/E.O k1=some (b1,c1)):E.le (E.row w' k1 b1 c1) where
 keep:=λ b hb ob LJ=>by
  have hlt:=(ayR.1 LJ).1
  have hne:b≠b1:=λ e=>by
   subst e;rcases hA with h |h
   .exact hb h
   .omega
  refine⟨λ h=>h.elim hb hne,?_⟩;show w'.heap[b]?=_;rw[hg.block b hlt (λ e=>hne (by cases e;rfl))];exact LJ
 own:=λ k b hb=>by
  show(if k=k1 then some (b1,c1)else E.O k)=some b
  by_cases hk:k=k1
  .subst hk
   rw[if_pos rfl];rcases hO with h |h
   .rw[h]at hb;cases hb
   .rw[<-h];exact hb
  .rw[if_neg hk];exact hb
theorem Wd.row{A0 R:Nat->Prop}{w0:Env}{E:Env}{mem mem':List Row}(h:Wd A0 R w0 E mem){w':World}{k1 b1:Nat}{c1:Nat × Nat}{VT:Row}(hg:E.w.grownBy w' (some b1))(hb1:b1<w'.heap.size)
  (hR:R b1\/w0.w.heap.size<=b1) (hA:E.A b1\/E.w.heap.size<=b1) (hO:E.O k1=none\/E.O k1=some (b1,c1)) (hm1:mem'[k1]?=some VT)
  (hm:∀k,k≠k1->∀b c,E.O k=some (b,c)->(mem'[k]?=mem[k]?/\(aK mem k=true->b≠b1))\/mem'[k]?=some .dead)
  (hrow:rH (E.row w' k1 b1 c1) b1 c1 VT):Wd A0 R w0 (E.row w' k1 b1 c1) mem':=by
 have hle:E.le (E.row w' k1 b1 c1):=Env.kN hg hA hO
 have other:∀k,k≠k1->∀b c,E.O k=some (b,c)->aK mem' k=true->aK mem k=true/\b≠b1:=λ k hk b c hb hl=>by
  rcases hm k hk b c hb with⟨h1,h2⟩ |h1
  .have:aK mem k=true:=by unfold aK at hl ⊢;rw[<-h1];exact hl
   exact⟨this,h2 this⟩
  .unfold aK at hl;rw[h1]at hl;cases hl
 refine⟨?_,?_,λ b hb=>ER (h.old b hb),?_,?_,h.below.grown hg hR,h.CY.trans hle⟩
 .intro k b c hb
  by_cases hk:k=k1
  .subst hk
   have hb':(b1,c1)=(b,c):=by simpa[Env.row]using hb
   cases hb';exact⟨VT,hm1,hrow⟩
  .have hb':E.O k=some (b,c):=by simpa[Env.row,hk]using hb
   rcases hm k hk b c hb' with⟨h1,h2⟩ |h1
   .obtain⟨row,hr,hrr⟩:=h.rows k b c hb'
    refine⟨row,by rw[h1];exact hr,pU hle hrr λ hl=>?_⟩;have hlv:aK mem k=true:=by unfold aK;rw[hr];exact hl
    show w'.heap[b]?=_;exact hg.block b (h.small b (h.own k b c hb' hlv).1) (λ e=>h2 hlv (by cases e;rfl))
   .exact⟨.dead,h1,trivial⟩
 .intro b hb
  rcases hb with hb |rfl
  .exact ayB (h.small b hb) hg.size
  .exact hb1
 .intro k b c hb hl
  by_cases hk:k=k1
  .subst hk
   have hb':(b1,c1)=(b,c):=by simpa[Env.row]using hb
   cases hb';exact⟨aaH rfl,hR⟩
  .have hb':E.O k=some (b,c):=by simpa[Env.row,hk]using hb
   obtain⟨h1,h2⟩:=h.own k b c hb' (other k hk b c hb' hl).1;exact⟨ER h1,h2⟩
 .intro k k' b c c' hb hb' hl hl'
  by_cases hk:k=k1
  .subst hk
   have e1:(b1,c1)=(b,c):=by simpa[Env.row]using hb
   cases e1;by_cases hk':k'=k
   .exact hk'.symm
   .have e2:E.O k'=some (b1,c'):=by simpa[Env.row,hk']using hb'
    exact absurd rfl (other k' hk' b1 c' e2 hl').2
  .have e1:E.O k=some (b,c):=by simpa[Env.row,hk]using hb
   obtain⟨g1,g2⟩:=other k hk b c e1 hl;by_cases hk':k'=k1
   .subst hk'
    have e2:(b1,c1)=(b,c'):=by simpa[Env.row]using hb'
    cases e2;exact absurd rfl g2
   .have e2:E.O k'=some (b,c'):=by simpa[Env.row,hk']using hb'
    exact h.one k k' b c c' e1 e2 g1 (other k' hk' b c' e2 hl').1
theorem Wd.on{A0 R:Nat->Prop}{w0:Env}{E:Env}{mem:List Row}(h:Wd A0 R w0 E mem){w':World}(hb:Below E.w.heap.size E.w w'):Wd A0 R w0 { E with w:=w' } mem/\E.le { E with w:=w' }:=by
 have hle:E.le { E with w:=w' }:=⟨λ b hn ob LJ=>⟨hn,by rw[<-LJ];exact hb.block b (ayR.1 LJ).1⟩,λ k b hk=>hk⟩
 refine⟨⟨?_,λ b hA=>ayB (h.small b hA) hb.size,h.old,h.own,h.one,h.below.on hb,h.CY.trans hle⟩,hle⟩;intro k b c hk;obtain⟨row,hr,hrr⟩:=h.rows k b c hk;refine⟨row,hr,pU hle hrr λ hl=>?_⟩;have hlv:aK mem k=true:=by unfold aK;rw[hr];exact hl
 exact hb.block b (h.small b (h.own k b c hk hlv).1)
end
noncomputable section
theorem VU{P:Program}{w:World}(t ty e:TypeId)(i:TypeInfo)(z:Value)(ht:P.underlying t=some (.slice e))(hi:P.info? e=some i)(hz:i.zero=some z)(hzs:z.cells.size=i.size)
  (v:Value) (n:Nat) (xs:List Value) (hown:w.ownsRow 0 e i.size v n xs) (a:Addr) (m c:Nat) (news:List Value) (hl:news.length=m*i.size) (hnews:∀j u,news[j]?=some u->w.cell? (a.add j)=some u)
  (h1:∀u∈news,u.oneCell'=true) (hm:0<m) (h63:n+m<=maxLen) (hbytes:(n+m)*i.bytes<=140737488355328) :
  ∃g cap cur w',(ay4 #[t,t] ty #[v,.slice (some a) m c]).run P w=.ok (.slice (some ⟨g,0,none⟩) (n+m) cap) w'/\(v.ownBlock=some g\/g=w.heap.size)/\w'.heap[g]?=some (.cells cur e (0,0)) /\
   cur.size=cap*i.size/\n+m<=cap/\cap<=maxLen/\cur.toList.take ((n+m)*i.size)=xs++news/\w.grownBy w' (some g):=by
 have hsmall:n+m<=9223372036854775807:=by simp only[maxLen]at h63;omega
 have hlen:(xs++news).length=(n+m)*i.size:=by rw[uI,hown.1,hl,asM]
 have grown:∀(old:Nat),old<n+m->∃cur w',w'=(w.drew.alloc (.cells (xs.toArray++news.toArray++aBv z.cells (grownCap w (n+m) old e - (n+m))) e))/\w'.heap[w.heap.size]?=some (.cells cur e (0,0)) /\
   cur.size=grownCap w (n+m) old e*i.size/\n+m<=grownCap w (n+m) old e/\grownCap w (n+m) old e<=maxLen/\cur.toList.take ((n+m)*i.size)=xs++news/\w.grownBy w' (some w.heap.size):=by
  intro old ho;have hge:=grownCap_ge w (n+m) old e;have hcm:grownCap w (n+m) old e<=maxLen:=grownCap_le_maxLen w (n+m) old e h63;refine⟨_,_,rfl,heap_alloc_new w.drew _,?_,hge,hcm,?_,⟨rfl,rfl,rfl,by simp,λ k hk _=>heap_alloc_old w.drew _ hk⟩⟩
  .simp only[aBL,azf,size_zeroCells,hzs,hown.1,hl,<-asM]
   congr 1;omega
  .simp only[aAB,aiR]
   rw[<-aiR,<-hlen];exact aAK
 rcases hown.2 with⟨rfl,rfl⟩ | ⟨g,cap,cur,rfl,_,hg,hnc,hcm,hcs,htake⟩
 .have hx:xs=[]:=aB1 (by simpa using hown.1)
  subst hx;have hr:=run_append_nil (P:=P) w t ty e i z ht hi hz a m c news hl hnews hm (by omega) (by have hb:=hbytes;simp only[avB]at hb;omega);obtain⟨cur,w',e1,h2,h3,h4,h5,h6,h7⟩:=grown 0 (by omega);simp only[avB,aBR,azd]at e1 h2 h3 h4 h5 h6 h7 ⊢;exact⟨w.heap.size,_,cur,w',by rw[hr,e1],aaH rfl,h2,h3,h4,h5,h6,h7⟩
 .by_cases hroom:n+m<=cap
  .have hfit:n*i.size+news.length<=cur.size:=by rw[hl,hcs,<-asM];exact agT _ hroom
   have hr:=run_append_room (P:=P) w t ty e i ht hi g n cap cur hg a m c news hl hnews h1 hroom hfit;refine⟨g,cap,_,_,hr,ER rfl,setRow_heap w g cur _ e _ hg,?_,hroom,hcm,?_,⟨rfl,rfl,rfl,by simp,λ k _ hk=>setRow_other w g k _ (λ e=>hk (by rw[e]))⟩⟩
   .simp only[azf,uI,ayM,aze,azZ]
    omega
   .rw[htake,<-hlen]
    exact aAK
  .have holds:∀j u,xs[j]?=some u->w.cell? ((⟨g,0,none⟩:Addr).add j)=some u:=hown.cells (g:=g) rfl
   have hr:=run_append_grow (P:=P) w t ty e i z ht hi hz ⟨g,0,none⟩ n cap xs hown.1 holds a m c news hl hnews (by omega) (by omega) (growslice_fits (by omega) hbytes);obtain⟨cur',w',e1,h2,h3,h4,h5,h6,h7⟩:=grown cap (by omega);exact⟨w.heap.size,_,cur',w',by rw[hr,e1],aaH rfl,h2,h3,h4,h5,h6,h7⟩
theorem extract_all(s:ByteArray):(s.extract 0 s.size).data.map (λ b=>aAP .u8 b.toNat)=s.data.map (λ b=>aAP .u8 b.toNat):=by
 have hs:s.size=s.data.size:=rfl;simp only[ByteArray.data_extract,hs,Array.extract_size]
theorem Cm{P:Program}(w:World)(size:Nat)(s:ByteArray):(aAt size s.size (.string s)).run P w=.ok (s.data.map (λ b=>aAP .u8 b.toNat)) w:=by
 simp only[aAt,abP,extract_all]
theorem RJ{P:Program}{w:World}(t t' ty e:TypeId)(i:TypeInfo)(z:Value)(ht:P.underlying t=some (.slice e))(ht':P.underlying t'=some .string)(hi:P.info? e=some i)(hz:i.zero=some z)(hzs:z.cells.size=i.size)(hi1:i.size=1)
  (v:Value) (n:Nat) (xs:List Value) (hown:w.ownsRow 0 e i.size v n xs) (b:ByteArray) (news:List Value) (hnews:news=b.data.toList.map (λ b=>aAP .u8 b.toNat))
  (hm:0<b.size) (h63:n+b.size<=maxLen) (hbytes:(n+b.size)*i.bytes<=140737488355328) :
  ∃g cap cur w',(ay4 #[t,t'] ty #[v,.string b]).run P w=.ok (.slice (some ⟨g,0,none⟩) (n+b.size) cap) w'/\(v.ownBlock=some g\/g=w.heap.size)/\w'.heap[g]?=some (.cells cur e (0,0)) /\
   cur.size=cap*i.size/\n+b.size<=cap/\cap<=maxLen/\cur.toList.take ((n+b.size)*i.size)=xs++news/\w.grownBy w' (some g):=by
 have hl:news.length=b.size*i.size:=by rw[hnews,hi1,aAL,ayY];rfl
 have hna:b.data.map (λ b=>aAP .u8 b.toNat)=news.toArray:=by rw[hnews];apply azJ;simp
 have hsmall:n+b.size<=9223372036854775807:=by simp only[maxLen]at h63;omega
 have hlen:(xs++news).length=(n+b.size)*i.size:=by rw[uI,hown.1,hl,asM]
 have grown:∀(old:Nat),old<n+b.size->∃cur w',w'=(w.drew.alloc (.cells (xs.toArray++news.toArray++aBv z.cells (grownCap w (n+b.size) old e - (n+b.size))) e))/\w'.heap[w.heap.size]?=some (.cells cur e (0,0)) /\
   cur.size=grownCap w (n+b.size) old e*i.size/\n+b.size<=grownCap w (n+b.size) old e/\grownCap w (n+b.size) old e<=maxLen/\cur.toList.take ((n+b.size)*i.size)=xs++news/\w.grownBy w' (some w.heap.size):=by
  intro old ho;have hge:=grownCap_ge w (n+b.size) old e;have hcm:grownCap w (n+b.size) old e<=maxLen:=grownCap_le_maxLen w (n+b.size) old e h63;refine⟨_,_,rfl,heap_alloc_new w.drew _,?_,hge,hcm,?_,⟨rfl,rfl,rfl,by simp,λ k hk _=>heap_alloc_old w.drew _ hk⟩⟩
  .simp only[aBL,azf,size_zeroCells,hzs,hown.1,hl,<-asM]
   congr 1;omega
  .simp only[aAB,aiR]
   rw[<-aiR,<-hlen];exact aAK
 have hf:∀w',(aAt i.size b.size (.string b)).run P w'=.ok news.toArray w':=λ w'=>by rw[Cm,hna]
 rcases hown.2 with⟨rfl,rfl⟩ | ⟨g,cap,cur,rfl,_,hg,hnc,hcm,hcs,htake⟩
 .have hx:xs=[]:=aB1 (by simpa using hown.1)
  subst hx;have hr:=run_append_nil_string (P:=P) w t t' ty e i z ht ht' hi hz b hm (by omega) (by have hb:=hbytes;simp only[avB]at hb;omega);rw[hna]at hr;obtain⟨cur,w',e1,h2,h3,h4,h5,h6,h7⟩:=grown 0 (by omega);simp only[avB,aBR,azd]at e1 h2 h3 h4 h5 h6 h7 ⊢;exact⟨w.heap.size,_,cur,w',by rw[hr,e1],aaH rfl,h2,h3,h4,h5,h6,h7⟩
 .by_cases hroom:n+b.size<=cap
  .have hfit:n*i.size+news.length<=cur.size:=by rw[hl,hcs,<-asM];exact agT _ hroom
   have h1:∀u∈news,u.oneCell'=true:=λ u hu=>by
    rw[hnews]at hu;obtain⟨c,_,rfl⟩:=azp.1 hu;rfl
   have hst:=run_storeCells_at P g (n*i.size) e news 0 cur w hg (by simpa using hfit) h1;simp only[ayO]at hst
   have hr:(ay4 #[t,t'] ty #[.slice (some ⟨g,0,none⟩) n cap,.string b]).run P w =
     .ok (.slice (some ⟨g,0,none⟩) (n+b.size) cap) (w.setRow g (cur.toList.take (n*i.size)++news++cur.toList.drop (n*i.size+news.length)).toArray):=by
    simp[ay4,run_underlying ht,run_underlying ht',sizeOf,typeInfo,hi,aBn,hroom,hf,Addr.add_lit,hst]
   refine⟨g,cap,_,_,hr,ER rfl,setRow_heap w g cur _ e _ hg,?_,hroom,hcm,?_,⟨rfl,rfl,rfl,by simp,λ k _ hk=>setRow_other w g k _ (λ e=>hk (by rw[e]))⟩⟩
   .simp only[azf,uI,ayM,aze,azZ]
    omega
   .rw[htake,<-hlen]
    exact aAK
  .have holds:∀j u,xs[j]?=some u->w.cell? ((⟨g,0,none⟩:Addr).add j)=some u:=hown.cells (g:=g) rfl
   have hr:(ay4 #[t,t'] ty #[.slice (some ⟨g,0,none⟩) n cap,.string b]).run P w =
     .ok (.slice (some ⟨w.heap.size,0,none⟩) (n+b.size) (grownCap w (n+b.size) cap e)) (w.drew.alloc (.cells (xs.toArray++news.toArray++aBv z.cells (grownCap w (n+b.size) cap e - (n+b.size))) e)):=by
    have hn:¬(n+b.size<=cap):=by omega
    have h63':¬(9223372036854775807<((n:Int)+(b.size:Int))):=by omega
    have h48':¬(281474976710656<Builtin.nextslicecap (n+b.size) cap*i.bytes):=by have:=growslice_fits (show cap<n+b.size by omega) hbytes;omega
    have hfo:=run_firstCells_some (P:=P) w.drew i.size n ⟨g,0,none⟩ n cap xs hown.1 (by simpa using holds);simp[ay4,run_underlying ht,run_underlying ht',sizeOf,typeInfo,zeroValue,hi,hz,aBn,hn,h63',h48',Question.forced,hf,hfo,newRow,grownCap];congr 2;apply azJ;simp[aiR]
   obtain⟨cur',w',e1,h2,h3,h4,h5,h6,h7⟩:=grown cap (by omega);exact⟨w.heap.size,_,cur',w',by rw[hr,e1],aaH rfl,h2,h3,h4,h5,h6,h7⟩
def zo(cells:List AV)(off:Nat)(xs:List AV):List AV:=cells.take off++(xs++cells.drop (off+xs.length))
def vM(mem:List Row)(e:TypeId)(size:Nat):AV->Option (Bool × Option Nat × Nat × (Nat->List AV))
 |.x (.slice none 0 0)=>some (true,none,0,λ _=>[])
 |.fJ k sz 0 len=>match mem[k]? with
  |some (.a e' sz' n el)=>cond ((e==e')&&((sz==size)&&(sz'==size))) (some (cond (aio e) (aqE len n) (len==n),some k,len,el)) none
  |_=>none
 |_=>none
def Gu(mem:List Row)(size:Nat):AV->Option (Nat × Nat × List (List AV))
 |.fJ k sz 0 m=>match mem[k]? with
  |some (.a _ sz' _ el)=>cond ((sz==size)&&((sz'==size)&&afC 0 m)) (some (k,m,(av2 m).map el)) none
  |_=>none
 |_=>none
def spread(n:Nat):List (List AV)->Nat->List AV
 | [],_=>[]
 | [x],_=>x
 |x::y::xs,q=>dn (afC q (n+1)) x (spread (n+1) (y::xs) q)
theorem Aq{q:Nat}(Q:List AV->Prop)(asT:∀b xs ys,(b=true->Q xs)->(b=false->Q ys)->Q (dn b xs ys)):∀(ns:List (List AV)) (n:Nat),n<=q->q<n+ns.length->(∀p new,ns[p]?=some new->q=n+p->Q new)->Q (spread n ns q)
 | [],n,h1,h2,_=>by simp at h2;omega
 | [x],n,h1,h2,h=>by
  simp at h2;rw[spread];exact h 0 x rfl (by omega)
 |x::y::xs,n,h1,h2,h=>by
  rw[spread];refine asT _ _ _ (λ hb=>?_) (λ hb=>?_)
  .have:q<n+1:=Sr hb
   exact h 0 x rfl (by omega)
  .have hge:n+1<=q:=ayU λ hc=>by
    have:afC q (n+1)=true:=ah4 hc;rw[this]at hb;cases hb
   refine Aq Q asT (y::xs) (n+1) hge (by simp at h2 ⊢;omega) λ p new hp hq=>?_;exact h (p+1) new (by simpa using hp) (by omega)
def qM (P:Program) (s:St) (nk:Nat) (t:TypeId) (x y:AV):Option (Bool × Eff) :=
  match P.underlying t with
  |some (.slice e)=>match P.info? e with
    |some i=>match i.zero with
      |some z=>match vM s.mem e i.size x,Gu s.mem i.size y with
        |some (b,k,n,el),some (j,m,ns)=>cond ((z.cells.size==i.size)&&(afC 0 i.bytes&&((ns.all λ new=>new.all je)&&((ns.all bZ)&&!(k==some j)))))
            (some (b&&aqE ((n+m)*i.bytes) 140737488355328,⟨.fJ nk i.size 0 (n+m),k.toList++[j],k.map (λ k=>(k,Row.dead)),some (.a e i.size (n+m) (λ q=>dn (afC q n) (el q) (spread n ns q)))⟩)) none
        |_,_=>none
      |none=>none
    |none=>none
  |_=>none
def rM (P:Program) (s:St) (nk:Nat) (t:TypeId) (x:AV) (sz m:Nat) (el2:Nat->List AV):Option (Bool × Eff) :=
  match P.underlying t with
  |some (.slice e)=>match P.info? e with
    |some i=>match i.zero with
      |some z=>match vM s.mem e i.size x with
        |some (b,k,n,el)=>cond ((z.cells.size==i.size)&&(afC 0 i.bytes&&(sz==i.size)))
            (some (b&&(afC 0 m&&(OQ m (λ q=>(el2 q).all je)&&aqE ((n+m)*i.bytes) 140737488355328)),⟨.fJ nk i.size 0 (n+m),k.toList,k.map (λ k=>(k,Row.dead)),some (.a e i.size (n+m) (λ q=>dn (afC q n) (el q) (el2 (q - n))))⟩)) none
        |none=>none
      |none=>none
    |none=>none
  |_=>none
def DJ(P:Program)(t:TypeId)(x:AV):Option (Bool × Eff) :=
 match P.underlying t with
 |some (.slice e)=>match P.info? e with
  |some _=>match x with
   |.fJ k sz st len=>some (true,⟨.fJ k sz st len,[],none,none⟩)
   |.x (.slice none 0 0)=>some (true,⟨.x (.slice none 0 0),[],none,none⟩)
   |_=>none
  |none=>none
 |_=>none
def RN(mem:List Row)(e:TypeId)(size:Nat):AV->Option (Nat × Nat × (Nat->List AV))
 |.fJ k sz 0 len=>match mem[k]? with
  |some (.z true e' sz' n el)=>cond ((e==e')&&((sz==size)&&((sz'==size)&&((len==n)&&afC 0 n)))) (some (k,n,el)) none
  |_=>none
 |_=>none
def isZ(mem:List Row):AV->Bool
 |.fJ k _ _ _=>match mem[k]? with
  |some (.z _ _ _ _ _)=>true
  |_=>false
 |_=>false
def nM (P:Program) (s:St) (nk:Nat) (t:TypeId) (x y:AV):Option (Bool × Eff) :=
  match P.underlying t with
  |some (.slice e)=>match P.info? e with
    |some i=>match i.zero with
      |some z=>match RN s.mem e i.size x,Gu s.mem i.size y with
        |some (k,n,el),some (j,m,ns)=>cond ((z.cells.size==i.size)&&(afC 0 i.bytes&&((ns.all λ new=>new.all je)&&((ns.all bZ)&&!(k==j)))))
            (some (aqE ((n+m)*i.bytes) 140737488355328,⟨.fJ nk i.size 0 (n+m),[k,j],none,some (.a e i.size (n+m) (λ q=>dn (afC q n) (el q) (spread n ns q)))⟩)) none
        |_,_=>none
      |none=>none
    |none=>none
  |_=>none
def rQ(P:Program)(s:St)(nk:Nat)(t:TypeId)(x y:AV):Option (Bool × Eff) :=
 match y with
 |.x (.slice _ 0 _)=>DJ P t x
 |.sl sz m el2=>rM P s nk t x sz m el2
 |y=>cond (isZ s.mem x) (nM P s nk t x y) (qM P s nk t x y)
def adF(b:ByteArray)(p:Nat):Int:=((b.data.toList.getD p 0).toNat:Nat)
def rU (P:Program) (s:St) (nk:Nat) (t t':TypeId) (x y:AV):Option (Bool × Eff) :=
  match y with
  | .x (.string b)=>match P.underlying t' with
    |some .string=>match P.underlying t with
      |some (.slice e)=>match P.info? e with
        |some i=>match i.zero with
          |some z=>match vM s.mem e i.size x with
            |some (bb,k,n,el)=>cond ((z.cells.size==i.size)&&(afC 0 i.bytes&&(i.size==1)))
                (some (bb&&(afC 0 b.size&&aqE ((n+b.size)*i.bytes) 140737488355328),⟨.fJ nk i.size 0 (n+b.size),k.toList,k.map (λ k=>(k,Row.dead)),some (.a e i.size (n+b.size) (λ q=>dn (afC q n) (el q) [.x (.int .u8 (adF b (q - n)))]))⟩)) none
            |none=>none
          |none=>none
        |none=>none
      |_=>none
    |_=>none
  |_=>none
def vN(P:Program)(s:St)(nk:Nat)(t t':TypeId)(x y:AV):Option (Bool × Eff):=cond (t==t') (rQ P s nk t x y) (rU P s nk t t' x y)
def Fw(P:Program)(s:St)(t:TypeId)(p x:AV):Option (Bool × Eff) :=
 match P.info? t with
 |some inf=>cond (rV x&&(x.cells.length==inf.size)) (match p with
  |.own k off=>match s.mem[k]? with
   |some (.c l)=>cond (aqE (off+inf.size) l.length) (some (true,⟨.any,[k],some (k,.c (zo l off x.cells)),none⟩)) none
   |some (.t e l)=>cond (aqE (off+inf.size) l.length) (some (true,⟨.any,[k],some (k,.t e (zo l off x.cells)),none⟩)) none
   |_=>none
  |.pR k sz q sub=>match s.mem[k]? with
   |some (.a e sz' n el)=>cond ((sz==sz')&&(bZ x.cells&&aqE (sub+inf.size) (el q).length)) (some (afC q n,⟨.any,[k],some (k,.a e sz n (λ j=>dn (j==q) (zo (el q) sub x.cells) (el j))),none⟩)) none
   |_=>none
  |_=>none) none
 |none=>none
def chunk(cells:List AV)(size i:Nat):List AV:=(cells.drop (i*size)).take size
def ak8(z:Bool)(e:TypeId)(sz n:Nat)(el:Nat->List AV):Row:=cond z (.z true e sz n el) (.a e sz n el)
def DK (P:Program) (nk:Nat) (t:TypeId) (len:Nat) (ps:List (Nat × AV)) (zz:Bool):Option (Bool × Eff) :=
  match P.underlying t with
  |some (.slice elem)=>match iN P (sizeOf elem),iN P (zeroValue elem)with
    |some size,some z=>cond (afC 0 (len*size)&&aqE (len*size) 16777216)
        (match vQ (λ i=>some (i*size,size)) (((aCR (len*size)).map (z.cells[· % z.cells.size]!)).toList.map zq) ps with
        |some cells=>cond (bZ cells) (some (true,⟨.fJ nk size 0 len,[],none,some (ak8 zz elem size len (chunk cells size))⟩)) none
        |none=>none) none
    |_,_=>none
  |_=>none
def OT(P:Program)(nk:Nat)(t:TypeId):Option (Bool × Eff) :=
 match P.underlying t with
 |some (.slice elem)=>match iN P (sizeOf elem)with
  |some size=>some (true,⟨.fJ nk size 0 0,[],none,some (.a elem size 0 (λ _=>[]))⟩)
  |none=>none
 |_=>none
def H8(P:Program)(nk:Nat)(t:TypeId)(len:Nat)(ps:List (Nat × AV))(zz:Bool):Option (Bool × Eff) :=
 match len,ps with
 | 0,[]=>OT P nk t
 |len,ps=>DK P nk t len ps zz
def OU (P:Program) (t:TypeId) (len:Nat) (ps:List (Nat × AV)):Option (Bool × Eff) :=
  match P.underlying t with
  |some (.slice elem)=>match iN P (sizeOf elem),iN P (zeroValue elem)with
    |some size,some z=>cond (afC 0 (len*size)&&aqE (len*size) 16777216)
        (match vQ (λ i=>some (i*size,size)) (((aCR (len*size)).map (z.cells[· % z.cells.size]!)).toList.map zq) ps with
        |some cells=>cond (bZ cells) (some (true,⟨.sl size len (chunk cells size),[],none,none⟩)) none
        |none=>none) none
    |_,_=>none
  |_=>none
def adG(t:Nat):Nat:=1000000+t
def ak9(t:Nat):Nat:=3000000+t
def asU(t len:Nat):Nat:=2000000+1000*t+len
def Zi(P:Program)(nk:Nat)(t:TypeId)(l c:AV):Option (Bool × Eff) :=
 match l,c,P.underlying t with
 |.x (.int _ l),.x (.int _ c),some (.slice e)=>match P.info? e with
  |some i=>match i.zero with
   |some z=>cond (((z.cells.size==i.size)&&afC 0 i.bytes)&&bZ (z.cells.toList.map zq))
     (some (decide (0<=l)&&(decide (l<=c)&&decide ((i.bytes:Int)*c<=281474976710656)),⟨.fJ nk i.size 0 l.toNat,[],none,some (.a e i.size l.toNat (λ _=>z.cells.toList.map zq))⟩)) none
   |none=>none
  |none=>none
 |_,_,_=>none
def VW(l:List AV)(off sz n:Nat):List (List AV):=(av2 n).map λ i=>(l.drop (off+i*sz)).take sz
def MG (P:Program) (s:St) (t:TypeId) (x y:AV):Option (Bool × Eff) :=
  match P.underlying t with
  |some (.slice e)=>match P.info? e with
    |some i=>match x,y with
      |.view k sz st sub n,.view j LK st2 kE n2=>match s.mem[k]?,s.mem[j]? with
        |some (.a e' sz3 m el),some (.c l)=>cond ((sz==i.size)&&((LK==i.size)&&((sz3==i.size)&&((sub==0)&&(afC 0 n2&&(aqE (st2*LK+kE+n2*i.size) l.length&&(bZ l&&(l.all je&&!(k==j)))))))))
            (some (aqE n2 n&&aqE (st+n2) m,⟨.x (.int .i64 n2),[k,j],some (k,.a e' sz3 m (λ q=>dn (afC q st) (el q) (dn (afC q (st+n2)) (spread st (VW l (st2*LK+kE) i.size n2) q) (el q)))),none⟩)) none
        |_,_=>none
      |_,_=>none
    |none=>none
  |_=>none
theorem Gw{l:List AV}(h:bZ l=true){a n:Nat}:bZ ((l.drop a).take n)=true:=by
 have all:∀(l:List AV),bZ l=true↔∀x,x∈l->nH x=true:=λ l=>by
  induction l with
  |nil=>simp[bZ]
  |cons x xs ih=>rw[bZ];simp[ih]
 exact(all _).2 λ x hx=>(all l).1 h x (List.mem_of_mem_drop (List.mem_of_mem_take hx))
def MH (P:Program) (s:St) (src dst:TypeId) (x:AV):Option (Bool × Eff) :=
  match P.underlying src with
  |some (.slice e)=>match P.underlying e with
    |some (.int .u8)=>cond (src==dst) (match x with
      |.fJ k sz st n=>match s.mem[k]? with
        |some (.a e2 LK m el)=>some (afC 0 n,⟨.fJ k sz st n,[k],some (k,.z false e2 LK m el),none⟩)
        |some (.z x e2 LK m el)=>some (afC 0 n,⟨.fJ k sz st n,[k],some (k,.z x e2 LK m el),none⟩)
        |_=>none
      |_=>none) none
    |_=>none
  |_=>none
def OV(T:Tab)(s:St)(nk f:Nat)(args:List AV):Option (Bool × Eff) :=
 match T.m f with
 |some g=>match g args ((uh args).map λ k=>s.mem[k]?) nk with
  |some (b,bg)=>cond (bg.rd==uh args) (some (b,bg)) none
  |none=>none
 |none=>none
def VX(g:VY)(s:St)(args:List AV):Option (Bool × Eff) :=
 match g args λ k=>s.mem[k]? with
 |some (b,v,rd)=>cond (nH v) (some (b,⟨v,rd,none,none⟩)) none
 |none=>none
def dcX(s:ByteArray)(p:Nat):Nat × Nat:=aCv (⟨_,rfl⟩:∃q,q=aAX s p)
theorem VZ(s:ByteArray)(p:Nat):dcX s p=aAX s p:=aCe (⟨_,rfl⟩:∃q,q=aAX s p)
def OW(P:Program)(nk:Nat)(t:TypeId)(x:AV):Option (Bool × Eff):=match P.underlying t with
 |some .string=>match x with
  |.x (.string st)=>some (true,⟨.own nk 0,[],none,some (.i st 0 (aqE st.size 0))⟩)
  |_=>none
 |_=>none
def MI(s:St)(it:AV):Option (Bool × Eff):=match it with
 |.own k 0=>match s.mem[k]? with
  |some (.i st p false)=>some (true,⟨.aN [.x (.bool true),.x (.int .i64 (p:Nat)),.x (.int .i32 ((dcX st p).1:Nat))],[k],some (k,.i st (p+(dcX st p).2) (aqE st.size (p+(dcX st p).2))),none⟩)
  |some (.i _ _ true)=>some (true,⟨.aN [.x (.bool false)],[k],none,none⟩)
  |_=>none
 |_=>none
def VH(P:Program)(T:Tab)(s:St)(nk:Nat)(o:Oper):Option (Bool × Eff) :=
 match o.op with
 |.box _ x=>cond (rV (aG s x)) (some (true,⟨.own nk 0,[],none,some (.c (aG s x).cells)⟩)) none
 |.alloc t=>match iN P (zeroValue t)with
  |some z=>match T.m (ak9 t)with
   |some _=>some (true,⟨.own nk 0,[],none,some (.t t (z.cells.toList.map zq))⟩)
   |none=>some (true,⟨.own nk 0,[],none,some (.c (z.cells.toList.map zq))⟩)
  |none=>none
 |.buildSlice t len ps=>match T.m (adG t)with
  |some _=>OU P t len (ps.toList.map λ p=>(p.1,aG s p.2))
  |none=>H8 P nk t len (ps.toList.map λ p=>(p.1,aG s p.2)) (T.m (asU t len)).isSome
 |.makeSlice t l c=>Zi P nk t (aG s l) (aG s c)
 |.store t p x=>cond o.dst.isNone (Fw P s t (aG s p) (aG s x)) none
 |.convert src dst x=>MH P s src dst (aG s x)
 |.range t x=>OW P nk t (aG s x)
 |.next it b=>cond b (MI s (aG s it)) none
 |.call c=>match c.callee with
  |.builtin .append=>match c.args.toList.map (aG s),c.argTypes.toList with
   | [x,y],[t,t']=>vN P s nk t t' x y
   |_,_=>none
  |.builtin .copy=>match c.args.toList.map (aG s),c.argTypes.toList with
   | [x,y],[t,t']=>cond (t==t') (MG P s t x y) none
   |_,_=>none
  |.value (.func f)=>match T.r f with
   |some g=>VX g s (c.args.toList.map (aG s))
   |none=>OV T s nk f (c.args.toList.map (aG s))
  |_=>none
 |_=>none
def jk(E:Env)(mem mem':List Row)(nk:Nat)(bg:Eff):Prop :=
 (∀k,k≠nk->∀b c,E.O k=some (b,c)->mem'[k]?=(match bg.wr with
  |some (k',row)=>if k=k' then some row else mem[k]?
  |none=>mem[k]?))/\∀row,bg.nw=some row->mem'[nk]?=some row
def asV(P:Program)(f:Nat)(args:List AV)(mem:List Row)(nk:Nat)(bg:Eff):Prop :=
 qG P f/\∀(A0 R:Nat->Prop) (w0 E:Env) (mem':List Row) (aZ:Array Value),Wd A0 R w0 E mem->E.O nk=none->vC E->dB E args aZ.toList->jk E mem mem' nk bg ->
  Calls P f aZ E.w λ e w'=>∃u E',e=.returned u/\E'.w=w'/\E.le E'/\(∀k p,E'.O k=some p->E.O k=some p\/k=nk)/\Wd A0 R w0 E' mem'/\rel E' bg.v u
def MOk(P:Program)(f:Nat)(g:adH):Prop:=(∀args mem nk bg,g args ((uh args).map λ k=>mem[k]?) nk=some (true,bg)->bg.rd=uh args->asV P f args mem nk bg) /\
 ∀args rows nk nk' b bg,g args rows nk=some (b,bg)->bg.nw=none->g args rows nk'=some (b,bg)
def amI(E:Env)(mem mem':List Row)(nk:Nat)(rows:List Row):Prop:=(∀k,(k<nk\/nk+rows.length<=k)->∀b c,E.O k=some (b,c)->mem'[k]?=mem[k]?)/\∀(i:Nat) (row:Row),rows[i]?=some row->mem'[nk+i]?=some row
def asW(P:Program)(f:Nat)(args:List AV)(nk:Nat)(v:AV)(mem1:List Row):Prop :=
 qG P f/\∀(A0 R:Nat->Prop) (w0 E:Env) (mem mem':List Row) (aZ:Array Value),Wd A0 R w0 E mem->(∀i,i<mem1.length->E.O (nk+i)=none)->vC E->dB E args aZ.toList->amI E mem mem' nk mem1 ->
  Calls P f aZ E.w λ e w'=>∃u E',e=.returned u/\E'.w=w'/\E.le E'/\(∀k p,E'.O k=some p->E.O k=some p\/(nk<=k/\k<nk+mem1.length))/\Wd A0 R w0 E' mem'/\rel E' v u
def NOk(P:Program)(f:Nat)(g:adI):Prop:=∀args nk v mem1,g args nk=some (true,v,mem1)->asW P f args nk v mem1
def bP(P:Program)(f:Nat)(args:List AV)(mem:List Row)(v:AV)(mem1:List Row):Prop :=
 qG P f/\∀(A0 R:Nat->Prop) (w0 E:Env) (aZ:Array Value),Wd A0 R w0 E mem->vC E->dB E args aZ.toList ->
  Calls P f aZ E.w λ e w'=>∃u E',e=.returned u/\E'.w=w'/\E.le E'/\Wd A0 R w0 E' mem1/\rel E' v u
def WOk(P:Program)(f:Nat)(g:aa0):Prop:=∀args mem v mem1,g args mem=some (true,v,mem1)->bP P f args mem v mem1
def asX(P:Program)(f:Nat)(args:List AV)(look:Nat->Option Row)(v:AV)(rd:List Nat):Prop :=
 qG P f/\∀(A0 R:Nat->Prop) (w0 E:Env) (mem:List Row) (aZ:Array Value),Wd A0 R w0 E mem->(∀k,k∈rd->mem[k]?=look k)->vC E->dB E args aZ.toList ->
  Calls P f aZ E.w λ e w'=>∃u,e=.returned u/\rel { E with w:=w' } v u/\Below E.w.heap.size E.w w'
def ROk(P:Program)(f:Nat)(g:VY):Prop:=(∀args look RO b v rd,g args look=some (b,v,rd)->(∀k,k∈rd->look k=RO k)->g args RO=some (b,v,rd))/\∀args look v rd,g args look=some (true,v,rd)->asX P f args look v rd
def Ao(P:Program)(T:Tab):Prop:=ain P T/\(∀f g,T.m f=some g->MOk P f g)/\(∀f g,T.n f=some g->NOk P f g)/\(∀f g,T.w f=some g->WOk P f g)/\∀f g,T.r f=some g->ROk P f g
section
variable{P:Program}{A0 R:Nat->Prop}{w0:Env}{E:Env}{mem mem':List Row}{nk:Nat}
theorem Wd.made(h:Wd A0 R w0 E mem)(hnk:E.O nk=none){v:AV}{rd:List Nat}{row:Row}(happ:jk E mem mem' nk ⟨v,rd,none,some row⟩)(cs:Array Value)(e:TypeId)(c1:Nat × Nat)
  (hrow:rH (E.row (E.w.alloc (.cells cs e)) nk E.w.heap.size c1) E.w.heap.size c1 row) :
  E.le (E.row (E.w.alloc (.cells cs e)) nk E.w.heap.size c1)/\Wd A0 R w0 (E.row (E.w.alloc (.cells cs e)) nk E.w.heap.size c1) mem':=by
 have hg:E.w.grownBy (E.w.alloc (.cells cs e)) (some E.w.heap.size):=azx _ _ _;refine⟨Env.kN hg (aaH (ao5 _)) (ER hnk),?_⟩;refine h.row hg (by simp) (aaH h.below.size) (aaH (ao5 _)) (ER hnk) (happ.2 row rfl) ?_ hrow;intro k hk b c hb;refine ER ⟨happ.1 k hk b c hb,λ hl=>?_⟩;have:=h.small b (h.own k b c hb hl).1;omega
theorem Wd.written(h:Wd A0 R w0 E mem)(hnk:E.O nk=none){v:AV}{rd:List Nat}{k b:Nat}{c:Nat × Nat}{row row':Row}(happ:jk E mem mem' nk ⟨v,rd,some (k,row'),none⟩)(hk:E.O k=some (b,c))(hr:mem[k]?=some row)(hlv:row.live=true)
  (cs:Array Value) (hrow:rH (E.row (E.w.setRow b cs) k b c) b c row') :
  E.le (E.row (E.w.setRow b cs) k b c)/\Wd A0 R w0 (E.row (E.w.setRow b cs) k b c) mem':=by
 have hg:E.w.grownBy (E.w.setRow b cs) (some b):=⟨rfl,rfl,rfl,by simp[aAj],λ j _ hj=>setRow_other _ _ _ _ (λ e=>hj (by rw[e]))⟩;have hl:aK mem k=true:=by unfold aK;rw[hr];exact hlv
 obtain⟨hA,hR⟩:=h.own k b c hk hl;have hne:k≠nk:=λ e=>by rw[e,hnk]at hk;cases hk
 refine⟨Env.kN hg (ER hA) (aaH hk),?_⟩;refine h.row hg (by simpa[aAj]using h.small b hA) hR (ER hA) (aaH hk) (by rw[happ.1 k hne b c hk];simp) ?_ hrow;intro j hj b' c' hb';have hjn:j≠nk:=λ e=>by rw[e,hnk]at hb';cases hb'
 refine ER ⟨by rw[happ.1 j hjn b' c' hb'];simp[hj],λ hlj e=>hj ?_⟩;subst e;exact h.one j k b' c' c hb' hk hlj hl
end
end
noncomputable section
theorem gX{E:Env}:∀{xs:List AV} {us us':List Value},pre E xs us->(∀i,i<xs.length->us'[i]?=us[i]?)->pre E xs us'
 | [],_,_,_,_=>pre_nil
 |x::xs,us,us',h,hc=>by
  obtain⟨u,us1,rfl,h1,h2⟩:=bE.1 h;have h0:=hc 0 (by simp);cases us' with
  |nil=>simp at h0
  |cons u' us2 =>
   simp at h0;subst h0;exact bE.2 ⟨u',us2,rfl,h1,gX h2 λ i hi=>by have:=hc (i+1) (by simpa using hi);simpa using this⟩
theorem rW(l us:List Value)(o:Nat)(h:o+us.length<=l.length)(i:Nat):(l.take o++us++l.drop (o+us.length))[i]?=if i<o then l[i]? else if i<o+us.length then us[i - o]? else l[i]?:=by
 have h1:(l.take o).length=o:=by simp;omega
 have h2:(l.take o++us).length=o+us.length:=by simp;omega
 by_cases hi:i<o
 .rw[if_pos hi,apR (by omega),apR (by omega),axq,if_pos hi]
 .rw[if_neg hi]
  by_cases hi2:i<o+us.length
  .rw[if_pos hi2,apR (by omega),axY (by omega),h1]
  .rw[if_neg hi2,axY (by omega),h2,aoD]
   congr 1;omega
theorem RP(l us:List Value)(a o:Nat)(h:a+o+us.length<=l.length):(l.take (a+o)++us++l.drop (a+o+us.length)).drop a=(l.drop a).take o++us++(l.drop a).drop (o+us.length):=by
 apply List.ext_getElem?;intro i;rw[aoD,rW l us (a+o) h,rW (l.drop a) us o (by simp;omega)];simp only[aoD];by_cases h1:i<o
 .rw[if_pos h1,if_pos (by omega)]
 .rw[if_neg h1,if_neg (by omega)]
  by_cases h2:i<o+us.length
  .rw[if_pos h2,if_pos (by omega)];congr 1;omega
  .rw[if_neg h2,if_neg (by omega)]
theorem Ar{E:Env}{xs:List AV}{us:List Value}(h:dB E xs us)(hn:bZ xs=true):dB E.fz xs us:=JA h hn (λ _ h1 _ h2=>⟨h1,h2⟩)
section
variable{P:Program}{A0 R:Nat->Prop}{w0:Env}{E:Env}{s:St}{mem':List Row}{nk:Nat}{a:Act}{o:Oper}{K:Act->World->Prop}{Q:Exit->Act->World->Prop}
theorem Env.MJ{E:Env}{w':World}{k1 b1:Nat}{c1:Nat × Nat}:∀k p,(E.row w' k1 b1 c1).O k=some p->E.O k=some p\/k=k1:=λ k p h=>by
 by_cases hk:k=k1
 .exact aaH hk
 .exact ER (by simpa[Env.row,hk]using h)
theorem Env.rX{E:Env}{w':World}{k1 b1 nk:Nat}{c1:Nat × Nat}(hb:E.O k1=some (b1,c1)):∀k p,(E.row w' k1 b1 c1).O k=some p->E.O k=some p\/k=nk:=λ k p h=>by
 by_cases hk:k=k1
 .subst hk
  exact ER (by rw[hb];simpa[Env.row]using h)
 .exact ER (by simpa[Env.row,hk]using h)
theorem adJ(hW:Wd A0 R w0 E s.mem)(hnk:E.O nk=none){rd:List Nat}{cells:List AV}(happ:jk E s.mem mem' nk ⟨.own nk 0,rd,none,some (.c cells)⟩){cs:Array Value}(e:TypeId)(hr:dB E cells cs.toList) :
  ∃E',E'.w=E.w.alloc (.cells cs e)/\E.le E'/\(∀k p,E'.O k=some p->E.O k=some p\/k=nk)/\Wd A0 R w0 E' mem'/\rel E' (.own nk 0) (.pointer (some ⟨E.w.heap.size,0,none⟩)):=by
 have hg:E.w.grownBy (E.w.alloc (.cells cs e)) (some E.w.heap.size):=azx _ _ _;have hle:E.le (E.row (E.w.alloc (.cells cs e)) nk E.w.heap.size (0,0)):=Env.kN hg (aaH (ao5 _)) (ER hnk);obtain⟨h1,h2⟩:=hW.made hnk happ cs e (0,0) ⟨cs,e,heap_alloc_new _ _,dV (um hle hr)⟩;exact⟨_,rfl,h1,Env.MJ,h2,jh.2 ⟨E.w.heap.size,(0,0),by simp[Env.row],rfl⟩⟩
theorem amL(hW:Wd A0 R w0 E s.mem)(hnk:E.O nk=none){rd:List Nat}{cells:List AV}(e:TypeId)(happ:jk E s.mem mem' nk ⟨.own nk 0,rd,none,some (.t e cells)⟩){cs:Array Value}(hr:dB E cells cs.toList) :
  ∃E',E'.w=E.w.alloc (.cells cs e)/\E.le E'/\(∀k p,E'.O k=some p->E.O k=some p\/k=nk)/\Wd A0 R w0 E' mem'/\rel E' (.own nk 0) (.pointer (some ⟨E.w.heap.size,0,none⟩)):=by
 have hg:E.w.grownBy (E.w.alloc (.cells cs e)) (some E.w.heap.size):=azx _ _ _;have hle:E.le (E.row (E.w.alloc (.cells cs e)) nk E.w.heap.size (0,0)):=Env.kN hg (aaH (ao5 _)) (ER hnk);have hl:=dJ hr;obtain⟨h1,h2⟩:=hW.made hnk happ cs e (0,0) ⟨cs,heap_alloc_new _ _,dV (um hle hr),by simp at hl;omega⟩;exact⟨_,rfl,h1,Env.MJ,h2,jh.2 ⟨E.w.heap.size,(0,0),by simp[Env.row],rfl⟩⟩
theorem aa1{t:TypeId}{p x:Operand}{bg:Eff}(hW:Wd A0 R w0 E s.mem)(hnk:E.O nk=none)(hop:o.op=.store t p x)(hd:o.dst=none)(hp:rel E (aG s p) (a.eval p))(hx:rel E (aG s x) (a.eval x))
  (h:Fw P s t (aG s p) (aG s x)=some (true,bg)) (happ:jk E s.mem mem' nk bg) (hK:∀E' u,E.le E'->(∀k p,E'.O k=some p->E.O k=some p\/k=nk)->Wd A0 R w0 E' mem'->rel E' bg.v u->K (a.put o.dst u) E'.w):o.wp P a E.w K Q:=by
 unfold Fw at h;split at h
 .rename_i inf mR
  cases hk:(rV (aG s x)&&((aG s x).cells.length==inf.size))
  .rw[hk]at h;cases h
  .rw[hk]at h
   simp only[cond_true]at h;simp only[J8,beq_iff_eq]at hk;obtain⟨hpx,hsz⟩:=hk;have hc:=Fx hx hpx;have hlc:=dJ hc;have hone:=cells_one hc (OX hpx)
   have run:∀(b off:Nat) (cs:Array Value) (e:TypeId),a.eval p=.pointer (some ⟨b,off,none⟩)->E.w.heap[b]?=some (.cells cs e (0,0))->off+inf.size<=cs.size ->
     (∃E' u,E'.w=E.w.setRow b (cs.toList.take off++(a.eval x).cells.toList++cs.toList.drop (off+(a.eval x).cells.toList.length)).toArray/\E.le E'/\(∀k p,E'.O k=some p->E.O k=some p\/k=nk)/\Wd A0 R w0 E' mem'/\rel E' bg.v u)->o.wp P a E.w K Q:=by
    intro b off cs e hpe hcs hle ⟨E',u,hw,h1,hO,h2,h3⟩;have hsz':(a.eval x).cells.size=inf.size:=by simp at hlc;omega
    have hst:=run_storeCells_at (P:=P) b off e (a.eval x).cells.toList 0 cs E.w hcs (by simp;omega) hone
    have hrun:(aD6 t (.pointer (some ⟨b,off,none⟩)) (a.eval x)).run P E.w=.ok () (E.w.setRow b (cs.toList.take off++(a.eval x).cells.toList++cs.toList.drop (off+(a.eval x).cells.toList.length)).toArray):=by
     simp only[ayO]at hst;simp[aD6,Instr.sureAddr,storeVar,sizeOf,typeInfo,mR,hsz']at hst ⊢;exact hst
    unfold azC execOp;simp only[hop,hpe,YC,hrun,xU,abP,Oper.upon_skip,hd,Act.put];have:=hK E' u h1 hO h2 h3;rw[hw,hd]at this;exact this
   split at h
   .rename_i k off hpt
    rw[hpt]at hp;obtain⟨b,c,hb,hpe⟩:=jh.1 hp;split at h
    .rename_i l hmk
     cases hl:aqE (off+inf.size) l.length
     .rw[hl]at h;cases h
     .rw[hl]at h
      simp only[cond_true,jN,EU,true_and]at h;subst h;have hl':=Sr hl;obtain⟨row,hr,hrr⟩:=hW.rows k b c hb;rw[hmk]at hr;cases hr;obtain⟨cs,e,hcs,hpre⟩:=hrr;have hpl:=xk hpre;refine run b off cs e hpe hcs (by simp at hpl;omega) ?_
      have hle:E.le (E.row (E.w.setRow b (cs.toList.take off++(a.eval x).cells.toList++cs.toList.drop (off+(a.eval x).cells.toList.length)).toArray) k b c):=Env.kN ⟨rfl,rfl,rfl,by simp[aAj],λ j _ hj=>setRow_other _ _ _ _ (λ e=>hj (by rw[e]))⟩
       (ER (hW.own k b c hb (by unfold aK;rw[hmk];rfl)).1) (aaH hb)
      obtain⟨h1,h2⟩:=hW.written hnk happ hb hmk rfl (cs.toList.take off++(a.eval x).cells.toList++cs.toList.drop (off+(a.eval x).cells.toList.length)).toArray ⟨_,e,setRow_heap E.w b cs _ e (0,0) hcs,by
       have:=vR off (kg hle hpre) (um hle hc) (by omega);simpa[zo]using this⟩
      exact⟨_,undef,rfl,h1,Env.rX hb,h2,lQ⟩
    .rename_i e l hmk
     cases hl:aqE (off+inf.size) l.length
     .rw[hl]at h;cases h
     .rw[hl]at h
      simp only[cond_true,jN,EU,true_and]at h;subst h;have hl':=Sr hl;obtain⟨row,hr,hrr⟩:=hW.rows k b c hb;rw[hmk]at hr;cases hr;obtain⟨cs,hcs,hpre,ayc⟩:=hrr;have hpl:=xk hpre;refine run b off cs e hpe hcs (by simp at hpl;omega) ?_
      have hle:E.le (E.row (E.w.setRow b (cs.toList.take off++(a.eval x).cells.toList++cs.toList.drop (off+(a.eval x).cells.toList.length)).toArray) k b c):=Env.kN ⟨rfl,rfl,rfl,by simp[aAj],λ j _ hj=>setRow_other _ _ _ _ (λ e=>hj (by rw[e]))⟩
       (ER (hW.own k b c hb (by unfold aK;rw[hmk];rfl)).1) (aaH hb)
      obtain⟨h1,h2⟩:=hW.written hnk happ hb hmk rfl (cs.toList.take off++(a.eval x).cells.toList++cs.toList.drop (off+(a.eval x).cells.toList.length)).toArray ⟨_,setRow_heap E.w b cs _ e (0,0) hcs,by
       have:=vR off (kg hle hpre) (um hle hc) (by omega);simpa[zo]using this,by
       have hcl:=dJ hc;simp only[azZ]at hcl;simp only[azf,uI,ayM,aze,azZ,zo];omega⟩
      exact⟨_,undef,rfl,h1,Env.rX hb,h2,lQ⟩
    .cases h
   .rename_i k sz q sub hpt
    rw[hpt]at hp;obtain⟨b,c,hb,hpe⟩:=rY.1 hp;split at h
    .rename_i e0 sz' n el hmk
     cases hl:((sz==sz')&&(bZ (aG s x).cells&&aqE (sub+inf.size) (el q).length))
     .rw[hl]at h;cases h
     .rw[hl]at h
      simp only[cond_true,jN,EU]at h;obtain⟨hq,h⟩:=h;subst h;simp only[J8,beq_iff_eq]at hl;obtain⟨e1,hno,hl⟩:=hl;subst e1;have hl':=Sr hl;have hqn:q<n:=Sr hq;obtain⟨row,hr,hrr⟩:=hW.rows k b c hb;rw[hmk]at hr;cases hr;obtain⟨cs,hcs,hsize,hn,hnc,hcm,hel⟩:=hrr;obtain⟨hlq,hpq⟩:=hel q hqn
      have hbig:q*sz+sz<=cs.size:=by
       rw[hsize];have:(q+1)*sz<=c.1*sz:=agT _ (by omega);rw[asM]at this;omega
      refine run b (q*sz+sub) cs e0 hpe hcs (by omega) ?_
      have hle:E.le (E.row (E.w.setRow b (cs.toList.take (q*sz+sub)++(a.eval x).cells.toList++cs.toList.drop (q*sz+sub+(a.eval x).cells.toList.length)).toArray) k b c):=Env.kN ⟨rfl,rfl,rfl,by simp[aAj],λ j _ hj=>setRow_other _ _ _ _ (λ e=>hj (by rw[e]))⟩
       (ER (hW.own k b c hb (by unfold aK;rw[hmk];rfl)).1) (aaH hb)
      have hlen:(a.eval x).cells.toList.length=inf.size:=by omega
      have DL:q*sz+sub+(a.eval x).cells.toList.length<=cs.toList.length:=by rw[hlen];simp;omega
      obtain⟨h1,h2⟩:=hW.written hnk happ hb hmk rfl (cs.toList.take (q*sz+sub)++(a.eval x).cells.toList++cs.toList.drop (q*sz+sub+(a.eval x).cells.toList.length)).toArray ⟨_,setRow_heap E.w b cs _ e0 (0,0) hcs,by
        rw[<-hsize];simp only[azf,uI,ayM,aze];simp at DL ⊢;omega,hn,hnc,hcm,by
       intro j hj;obtain⟨hlj,hpj⟩:=hel j hj;refine⟨l8 (λ _=>by simp only[zo,uI,ayM,aze];omega) (λ _=>hlj),l7 (λ hjq=>?_) (λ hjq=>?_)⟩
       .have e2:=eq_of_beq hjq
        subst e2;have:=vR sub (kg hle.fz hpq) (Ar (um hle hc) hno) (by omega);rw[RP cs.toList _ (j*sz) sub DL];simpa[zo]using this
       .refine gX (kg hle.fz hpj) λ i hi=>?_
        rw[aoD,aoD,rW _ _ _ DL];have hne:j≠q:=λ e=>by simp[e]at hjq
        rw[hlj]at hi;rcases Nat.lt_or_gt_of_ne hne with hlt |hgt
        .have:(j+1)*sz<=q*sz:=agT _ hlt
         rw[asM]at this;rw[if_pos (by omega)]
        .have:(q+1)*sz<=j*sz:=agT _ hgt
         rw[asM]at this;rw[if_neg (by omega),if_neg (by omega)]⟩
      exact⟨_,undef,rfl,h1,Env.rX hb,h2,lQ⟩
    .cases h
   .cases h
 .cases h
end
end
noncomputable section
theorem DN(off:Nat):∀(l:List (AV × Nat)) (xs:List AV),(l.foldl (λ cs (p:AV × Nat)=>cs.set (off+p.2) p.1) xs).length=xs.length
 | [],_=>rfl
 |p::l,xs=>by rw[List.foldl_cons,DN off l];simp
theorem Fy{place:Nat->Option (Nat × Nat)}:∀{ps:List (Nat × AV)} {xs rs:List AV},vQ place xs ps=some rs->rs.length=xs.length
 | [],xs,rs,h=>by simp only[vQ,jN]at h;rw[h]
 | (i,x)::ps,xs,rs,h=>by
  unfold vQ at h;split at h
  .rename_i off size hp
   cases hk:(rV x&&((x.cells.length==size)&&aqE (off+size) xs.length))
   .rw[hk]at h;cases h
   .rw[hk]at h
    simp only[cond_true]at h;rw[Fy h,DN]
  .cases h
theorem adK(z:Array Value)(n q j:Nat)(hj:j<z.size)(hq:q*z.size+z.size<=n):((madeCells z n).toList.drop (q*z.size))[j]?=z.toList[j]?:=by
 rw[aoD];have h1:q*z.size+j<(madeCells z n).size:=by rw[size_madeCells];omega
 have hm:(q*z.size+j) % z.size=j:=by rw[aye,Nat.mul_add_mod];exact Nat.mod_eq_of_lt hj
 rw[azG,azG,axZ h1,axZ hj];simp[madeCells,hm,hj]
section
variable{P:Program}{A0 R:Nat->Prop}{w0:Env}{E:Env}{s:St}{mem':List Row}{nk:Nat}{a:Act}{o:Oper}{K:Act->World->Prop}{Q:Exit->Act->World->Prop}
theorem Wi(hW:Wd A0 R w0 E s.mem)(hnk:E.O nk=none){e:TypeId}{size n cap:Nat}{el:Nat->List AV}(happ:jk E s.mem mem' nk ⟨.fJ nk size 0 n,[],none,some (.a e size n el)⟩){cs:Array Value}
  (hs:cs.size=cap*size) (hn:n<=cap) (hc:cap<=maxLen) (hr:∀E',E.le E'->∀i,i<n->(el i).length=size/\pre E'.fz (el i) (cs.toList.drop (i*size))) :
  ∃E',E'.w=E.w.alloc (.cells cs e)/\E.le E'/\(∀k p,E'.O k=some p->E.O k=some p\/k=nk)/\Wd A0 R w0 E' mem'/\rel E' (.fJ nk size 0 n) (.slice (some ⟨E.w.heap.size,0,none⟩) n cap):=by
 have hg:E.w.grownBy (E.w.alloc (.cells cs e)) (some E.w.heap.size):=azx _ _ _;have hle:E.le (E.row (E.w.alloc (.cells cs e)) nk E.w.heap.size (cap,n)):=Env.kN hg (aaH (ao5 _)) (ER hnk);obtain⟨h1,h2⟩:=hW.made hnk happ cs e (cap,n) ⟨cs,heap_alloc_new _ _,hs,rfl,hn,hc,hr _ hle⟩;exact⟨_,rfl,h1,Env.MJ,h2,fM.2 (aaH ⟨E.w.heap.size,cap,n,by simp[Env.row],by omega,hn,by simp⟩)⟩
theorem amM(zz:Bool)(hW:Wd A0 R w0 E s.mem)(hnk:E.O nk=none){e:TypeId}{size n:Nat}{el:Nat->List AV}(happ:jk E s.mem mem' nk ⟨.fJ nk size 0 n,[],none,some (ak8 zz e size n el)⟩){cs:Array Value}
  (hs:cs.size=n*size) (hc:n<=maxLen) (hr:∀E',E.le E'->∀i,i<n->(el i).length=size/\pre E'.fz (el i) (cs.toList.drop (i*size))) :
  ∃E',E'.w=E.w.alloc (.cells cs e)/\E.le E'/\(∀k p,E'.O k=some p->E.O k=some p\/k=nk)/\Wd A0 R w0 E' mem'/\rel E' (.fJ nk size 0 n) (.slice (some ⟨E.w.heap.size,0,none⟩) n n):=by
 cases zz with
 |false=>exact Wi hW hnk happ hs (ao5 _) hc hr
 |true =>
  have hg:E.w.grownBy (E.w.alloc (.cells cs e)) (some E.w.heap.size):=azx _ _ _;have hle:E.le (E.row (E.w.alloc (.cells cs e)) nk E.w.heap.size (n,n)):=Env.kN hg (aaH (ao5 _)) (ER hnk);obtain⟨h1,h2⟩:=hW.made hnk happ cs e (n,n) ⟨cs,_,heap_alloc_new _ _,rfl,λ _=>⟨rfl,hs⟩,hr _ hle⟩;exact⟨_,rfl,h1,Env.MJ,h2,fM.2 (aaH ⟨E.w.heap.size,n,n,by simp[Env.row],by omega,ao5 _,by simp⟩)⟩
theorem RQ{zz:Bool}{t:TypeId}{len:Nat}{ps:Array (Nat × Operand)}{bg:Eff}(hW:Wd A0 R w0 E s.mem)(hnk:E.O nk=none)(hop:o.op=.buildSlice t len ps)(hρ:∀y,y∈ps.toList.map (·.2)->rel E (aG s y) (a.eval y))
  (h:DK P nk t len (ps.toList.map λ p=>(p.1,aG s p.2)) zz=some (true,bg)) (happ:jk E s.mem mem' nk bg) (hK:∀E' u,E.le E'->(∀k p,E'.O k=some p->E.O k=some p\/k=nk)->Wd A0 R w0 E' mem'->rel E' bg.v u->K (a.put o.dst u) E'.w):o.wp P a E.w K Q:=by
 unfold DK at h;split at h
 .rename_i elem hun
  split at h
  .rename_i size z hsz hz
   cases hk:(afC 0 (len*size)&&aqE (len*size) 16777216)
   .rw[hk]at h;cases h
   .rw[hk]at h
    simp only[cond_true]at h;simp only[J8]at hk;have hpos:0<len*size:=Sr hk.1;have hbig:len*size<=16777216:=Sr hk.2;split at h
    .rename_i cells RS
     cases hno:bZ cells
     .rw[hno]at h;cases h
     .rw[hno]at h
      simp only[cond_true,jN,EU,true_and]at h;subst h;have hpr:aa2 E (ps.toList.map λ p=>(p.1,aG s p.2)) (ps.toList.map λ p=>(p.1,a.eval p.2)):=H9 hρ;have hps:(ps.map λ(i,y)=>(i,a.eval y)).toList=ps.toList.map λ p=>(p.1,a.eval p.2):=by simp
      obtain⟨rs',h1,h2⟩:=zu _ hpr (oV E _) RS
      have hlen:rs'.size=len*size:=by
       have e1:=dJ h2;rw[Fy RS]at e1;simp at e1;omega
      have amN:=dH E.w hsz;have amO:=dH E.w hz;have hpos':¬len*size=0:=by omega
      have hbig':¬len*size>2 ^ 24:=by omega
      have hrun:(azN t len (ps.map λ(i,y)=>(i,a.eval y))).run P E.w=.ok (.slice (some ⟨E.w.heap.size,0,none⟩) len len) (E.w.alloc (.cells rs' elem)):=by
       simp only[azN,YC,run_underlying hun,xU,amN,aCB,hbig',hpos',if_false,amO,abP,hps,h1,newRow,run_newObj];rfl
      have hsp:0<size:=aAM λ e=>by rw[e]at hpos;simp at hpos
      have hlm:len<=maxLen:=by
       have:len*1<=len*size:=ax9 _ hsp;simp only[maxLen];omega
      have hcl:cells.length=len*size:=by have:=dJ h2;simp at this;omega
      obtain⟨E',e1,e2,eO,e3,e4⟩:=amM zz hW hnk happ hlen hlm (λ E' hle i hi=>by
       have hi2:i*size+size<=len*size:=by
        have:(i+1)*size<=len*size:=agT _ hi;rw[asM]at this;omega
       have hfz:=Ar (um hle h2) hno;refine⟨by simp only[chunk,ayM,aze];omega,?_⟩;have hpp:=dV (l9 (i*size) size (dV hfz) (by omega));refine gX hpp λ j hj=>?_;have hj':j<size:=ayB hj (by simp only[chunk,ayM];omega);rw[axq,if_pos hj'])
      unfold azC execOp;simp only[hop,YC,hrun,xU,abP,ayS];have:=hK E' _ e2 eO e3 e4;rw[e1]at this;exact this
    .cases h
  .cases h
 .cases h
theorem Wj{t:TypeId}{len:Nat}{ps:Array (Nat × Operand)}{bg:Eff}(hW:Wd A0 R w0 E s.mem)(hnk:E.O nk=none)(hop:o.op=.buildSlice t len ps)(hρ:∀y,y∈ps.toList.map (·.2)->rel E (aG s y) (a.eval y))
  (h:OU P t len (ps.toList.map λ p=>(p.1,aG s p.2))=some (true,bg)) (happ:jk E s.mem mem' nk bg) (hK:∀E' u,E.le E'->(∀k p,E'.O k=some p->E.O k=some p\/k=nk)->Wd A0 R w0 E' mem'->rel E' bg.v u->K (a.put o.dst u) E'.w):o.wp P a E.w K Q:=by
 unfold OU at h;split at h
 .rename_i elem hun
  split at h
  .rename_i size z hsz hz
   cases hk:(afC 0 (len*size)&&aqE (len*size) 16777216)
   .rw[hk]at h;cases h
   .rw[hk]at h
    simp only[cond_true]at h;simp only[J8]at hk;have hpos:0<len*size:=Sr hk.1;have hbig:len*size<=16777216:=Sr hk.2;split at h
    .rename_i cells RS
     cases hno:bZ cells
     .rw[hno]at h;cases h
     .rw[hno]at h
      simp only[cond_true,jN,EU,true_and]at h;subst h;have hpr:aa2 E (ps.toList.map λ p=>(p.1,aG s p.2)) (ps.toList.map λ p=>(p.1,a.eval p.2)):=H9 hρ;have hps:(ps.map λ(i,y)=>(i,a.eval y)).toList=ps.toList.map λ p=>(p.1,a.eval p.2):=by simp
      obtain⟨rs',h1,h2⟩:=zu _ hpr (oV E _) RS
      have hlen:rs'.size=len*size:=by
       have e1:=dJ h2;rw[Fy RS]at e1;simp at e1;omega
      have amN:=dH E.w hsz;have amO:=dH E.w hz;have hpos':¬len*size=0:=by omega
      have hbig':¬len*size>2 ^ 24:=by omega
      have hrun:(azN t len (ps.map λ(i,y)=>(i,a.eval y))).run P E.w=.ok (.slice (some ⟨E.w.heap.size,0,none⟩) len len) (E.w.alloc (.cells rs' elem)):=by
       simp only[azN,YC,run_underlying hun,xU,amN,aCB,hbig',hpos',if_false,amO,abP,hps,h1,newRow,run_newObj];rfl
      have hsp:0<size:=aAM λ e=>by rw[e]at hpos;simp at hpos
      have hlm:len<=maxLen:=by
       have:len*1<=len*size:=ax9 _ hsp;simp only[maxLen];omega
      have hcl:cells.length=len*size:=by have:=dJ h2;simp at this;omega
      obtain⟨hw1,hw2⟩:=hW.on (w':=E.w.alloc (.cells rs' elem)) ((Below.refl _ _).alloc (ao5 _) _);have same:∀k b c,E.O k=some (b,c)->mem'[k]?=s.mem[k]?:=λ k b c hb=>happ.1 k (λ e=>by rw[e,hnk]at hb;cases hb) b c hb;have live:∀k b c,E.O k=some (b,c)->aK mem' k=aK s.mem k:=λ k b c hb=>by unfold aK;rw[same k b c hb]
      have hrel:rel { E with w:=E.w.alloc (.cells rs' elem) } (.sl size len (chunk cells size)) (.slice (some ⟨E.w.heap.size,0,none⟩) len len):=by
       refine iM.2 ⟨_,_,rfl,ao5 _,aaH ⟨E.w.heap.size,0,rs',elem,_,rfl,λ hA=>Nat.lt_irrefl _ (hW.small _ hA),heap_alloc_new _ _,λ i hi=>?_⟩⟩
       have hi2:i*size+size<=len*size:=by
        have:(i+1)*size<=len*size:=agT _ hi;rw[asM]at this;omega
       have hfz:=Ar (um hw2 h2) hno;refine⟨by simp only[chunk,ayM,aze];omega,?_⟩;rw[avB];have hpp:=dV (l9 (i*size) size (dV hfz) (by omega));refine gX hpp λ j hj=>?_;have hj':j<size:=ayB hj (by simp only[chunk,ayM];omega);rw[axq,if_pos hj']
      unfold azC execOp;simp only[hop,YC,hrun,xU,abP,ayS];exact hK { E with w:=E.w.alloc (.cells rs' elem) } _ hw2 (λ _ _ h=>ER h) ⟨λ k b c hb=>by rw[same k b c hb];exact hw1.rows k b c hb,hw1.small,hw1.old,λ k b c hb hl=>hw1.own k b c hb (by rw[<-live k b c hb];exact hl),λ k k' b c c' hb hb' hl hl'=>hw1.one k k' b c c' hb hb' (by rw[<-live k b c hb];exact hl) (by rw[<-live k' b c' hb'];exact hl'),hw1.below,hw1.CY⟩ hrel
    .cases h
  .cases h
 .cases h
theorem Wm{zz:Bool}{t:TypeId}{len:Nat}{ps:Array (Nat × Operand)}{bg:Eff}(hW:Wd A0 R w0 E s.mem)(hnk:E.O nk=none)(hop:o.op=.buildSlice t len ps)(hρ:∀y,y∈ps.toList.map (·.2)->rel E (aG s y) (a.eval y))
  (h:H8 P nk t len (ps.toList.map λ p=>(p.1,aG s p.2)) zz=some (true,bg)) (happ:jk E s.mem mem' nk bg) (hK:∀E' u,E.le E'->(∀k p,E'.O k=some p->E.O k=some p\/k=nk)->Wd A0 R w0 E' mem'->rel E' bg.v u->K (a.put o.dst u) E'.w):o.wp P a E.w K Q:=by
 unfold H8 at h;split at h
 .rename_i hps
  have hp0:ps=#[]:=by
   obtain⟨l⟩:=ps;simp only[List.map_eq_nil_iff]at hps;rw[hps]
  subst hp0;unfold OT at h;split at h
  .rename_i elem hun
   split at h
   .rename_i size hsz
    simp only[jN,EU,true_and]at h;subst h
    have hrun:(azN t 0 #[]).run P E.w=.ok (.slice (some ⟨E.w.heap.size,0,none⟩) 0 0) (E.w.alloc (.cells #[] elem)):=by
     have hb:¬(0:Nat)>2 ^ 24:=by omega
     simp only[azN,YC,run_underlying hun,xU,dH E.w hsz,Nat.zero_mul,hb,if_false,if_true,newRow,run_newObj,abP,Instr.fill];simp[show aCR 0=#[] from rfl]
    obtain⟨E',e1,e2,eO,e3,e4⟩:=Wi hW hnk happ (cs:=#[]) (cap:=0) (by simp) (ao5 _) (by simp[maxLen]) (λ E' hle i hi=>by omega);unfold azC execOp;simp only[hop,aA5,aBX,YC,hrun,xU,abP,ayS];have:=hK E' _ e2 eO e3 e4;rw[e1]at this;exact this
   .cases h
  .cases h
 .exact RQ hW hnk hop hρ h happ hK
theorem adL{t:TypeId}{l c:Operand}{bg:Eff}(hW:Wd A0 R w0 E s.mem)(hnk:E.O nk=none)(hop:o.op=.makeSlice t l c)(hl:rel E (aG s l) (a.eval l))(hc:rel E (aG s c) (a.eval c))
  (h:Zi P nk t (aG s l) (aG s c)=some (true,bg)) (happ:jk E s.mem mem' nk bg) (hK:∀E' u,E.le E'->(∀k p,E'.O k=some p->E.O k=some p\/k=nk)->Wd A0 R w0 E' mem'->rel E' bg.v u->K (a.put o.dst u) E'.w):o.wp P a E.w K Q:=by
 unfold Zi at h;split at h
 .rename_i kl l' kc c' e hle hce hun
  rw[hle]at hl;rw[hce]at hc;have hl:=bI.1 hl;have hc:=bI.1 hc;split at h
  .rename_i i hi
   split at h
   .rename_i z hz
    cases hk:(((z.cells.size==i.size)&&afC 0 i.bytes)&&bZ (z.cells.toList.map zq))
    .rw[hk]at h;cases h
    .rw[hk]at h
     simp only[cond_true,jN,EU]at h;obtain⟨hb,rfl⟩:=h;simp only[J8,beq_iff_eq]at hk;simp only[J8,decide_eq_true_eq]at hb;obtain⟨⟨hzs,hby⟩,hno⟩:=hk;obtain⟨h0,hlc,hbc⟩:=hb;have hby:0<i.bytes:=Sr hby
     have ayd:c'<=281474976710656:=by
      have:(1:Int)*c'<=(i.bytes:Int)*c':=Int.mul_le_mul_of_nonneg_right (by omega) (by omega);omega
     have hrun:=run_make (P:=P) E.w t e i z hun hi hz kl kc l' c' h0 hlc hbc (by omega)
     obtain⟨E',e1,e2,eO,e3,e4⟩:=Wi hW hnk happ (cs:=madeCells z.cells (c'.toNat*i.size)) (cap:=c'.toNat) (by rw[size_madeCells]) (by omega) (by simp only[maxLen];omega) (λ E' hle q hq=>by
      refine⟨by simp[hzs],?_⟩;refine gX (dV (Ar (E:=E') (oV E' z.cells.toList) hno)) λ j hj=>?_;have hj':j<z.cells.size:=by simpa using hj
      rw[<-hzs];refine adK z.cells _ q j hj' ?_;have:(q+1)*z.cells.size<=c'.toNat*z.cells.size:=agT _ (by omega);rw[asM]at this;omega)
     unfold azC execOp;simp only[hop,hl,hc,YC,hrun,xU,abP,ayS];have:=hK E' _ e2 eO e3 e4;rw[e1]at this;exact this
   .cases h
  .cases h
 .cases h
end
end
noncomputable section
theorem adM{P:Program}{A0 R:Nat->Prop}{w0:Env}{E:Env}{s:St}{mem':List Row}{nk:Nat}{a:Act}{o:Oper}{K:Act->World->Prop}{Q:Exit->Act->World->Prop}{t:TypeId}{x y:Operand}{bg:Eff}(hW:Wd A0 R w0 E s.mem)(hnk:E.O nk=none)
  (hop:o.op=.call { callee:=.builtin .copy,args:=#[x,y],argTypes:=#[t,t] }) (hx:rel E (aG s x) (a.eval x)) (hy:rel E (aG s y) (a.eval y))
  (h:MG P s t (aG s x) (aG s y)=some (true,bg)) (happ:jk E s.mem mem' nk bg) (hK:∀E' u,E.le E'->(∀k p,E'.O k=some p->E.O k=some p\/k=nk)->Wd A0 R w0 E' mem'->rel E' bg.v u->K (a.put o.dst u) E'.w):o.wp P a E.w K Q:=by
 unfold MG at h;split at h
 .rename_i e hun
  split at h
  .rename_i i hi
   split at h
   .rename_i k sz st sub nd j LK st2 kE n hxe hye
    split at h
    .rename_i e' sz3 m el l hmk hmj
     cases hk:((sz==i.size)&&((LK==i.size)&&((sz3==i.size)&&((sub==0)&&(afC 0 n&&(aqE (st2*LK+kE+n*i.size) l.length&&(bZ l&&(l.all je&&!(k==j)))))))))
     .rw[hk]at h;cases h
     .rw[hk]at h
      simp only[cond_true,jN,EU]at h;obtain⟨hb,rfl⟩:=h;simp only[J8,beq_iff_eq]at hk hb;obtain⟨h1,h2,h3,h4,h5,h6,h7,h8,_⟩:=hk;subst h1;subst h2;subst h3;subst h4;obtain⟨hn,hst⟩:=hb;have hn:=Sr hn;have h5:0<n:=Sr h5;have h6:=Sr h6;have hst:=Sr hst;rw[hxe]at hx;rw[hye]at hy;obtain⟨ax,cx,hxv,hxc,hx2⟩:=lD.1 hx;obtain⟨ay,cy,hyv,hyc,hy2⟩:=lD.1 hy;obtain⟨b,c,hO,rfl⟩:=hx2.resolve_left (by omega);obtain⟨b2,c2,hO2,rfl⟩:=hy2.resolve_left (by omega);obtain⟨row,hr,hrr⟩:=hW.rows k b c hO;rw[hmk]at hr;cases hr;obtain⟨cs,hcs,hsize,hcn,hnc,hcm,hel⟩:=hrr;obtain⟨avV,hr2,avW⟩:=hW.rows j b2 c2 hO2;rw[hmj]at hr2;cases hr2;obtain⟨cs2,e2,hcs2,adN⟩:=avW;have hl2:=xk adN;have hp2:=l9 (st2*i.size+kE) (n*i.size) adN h6;have hnl:((cs2.toList.drop (st2*i.size+kE)).take (n*i.size)).length=n*i.size:=by simp at hl2 ⊢;omega
      have hone:∀u∈(cs2.toList.drop (st2*i.size+kE)).take (n*i.size),u.oneCell'=true:=λ u hu=>by
       obtain⟨q,hq⟩:=aAn.1 hu;have hql:=(aj8.1 hq).1;rw[hnl]at hql
       have hxq:((l.drop (st2*i.size+kE)).take (n*i.size))[q]?=l[st2*i.size+kE+q]?:=by
        rw[axq,if_pos hql,aoD]
       have hlq:l[st2*i.size+kE+q]?=some (l[st2*i.size+kE+q]'(by omega)):=adv (by omega);obtain⟨v,g1,g2⟩:=xq (dV hp2) (hxq.trans hlq);rw[hq]at g1;cases g1;exact pV g2 (apB.1 h8 _ (azH _))
      have hbig:(st+n)*i.size<=cs.size:=by rw[hsize];exact agT _ (by omega)
      rw[asM]at hbig;have DL:st*i.size+((cs2.toList.drop (st2*i.size+kE)).take (n*i.size)).length<=cs.toList.length:=by rw[hnl];simpa using hbig
      have asY:=run_storeCells_at (P:=P) b (st*i.size+0) e' ((cs2.toList.drop (st2*i.size+kE)).take (n*i.size)) 0 cs E.w hcs (by rw[hnl];omega) hone
      have hfc:=run_firstCells_some (P:=P) E.w i.size n ⟨b2,st2*i.size+kE,none⟩ n cy ((cs2.toList.drop (st2*i.size+kE)).take (n*i.size)) hnl (λ q v hq=>by
       rw[add_plain,cell_of_row E.w b2 _ cs2 e2 (0,0) hcs2];have hql:=(aj8.1 hq).1;rw[hnl]at hql;rw[axq,if_pos hql,aoD]at hq;simpa using hq)
      have hrun:(aDy #[t,t] o.type #[a.eval x,a.eval y]).run P E.w=.ok (goInt n) (E.w.setRow b (cs.toList.take (st*i.size)++(cs2.toList.drop (st2*i.size+kE)).take (n*i.size)++cs.toList.drop (st*i.size+((cs2.toList.drop (st2*i.size+kE)).take (n*i.size)).length)).toArray):=by
       simp only[ayO]at asY;simp only[aDy,hxv,hyv,List.getElem?_toArray,List.getElem?_cons_zero,List.getElem?_cons_succ,YC,run_underlying hun,xU,aBn,abP,sizeOf,typeInfo,run_program,hi,show Nat.min n nd=n from Nat.min_eq_left hn,hfc,ayO,asY]
      have hle:E.le (E.row (E.w.setRow b (cs.toList.take (st*i.size)++(cs2.toList.drop (st2*i.size+kE)).take (n*i.size)++cs.toList.drop (st*i.size+((cs2.toList.drop (st2*i.size+kE)).take (n*i.size)).length)).toArray) k b c):=Env.kN ⟨rfl,rfl,rfl,by simp[aAj],λ j _ hj=>setRow_other _ _ _ _ (λ e=>hj (by rw[e]))⟩
       (ER (hW.own k b c hO (by unfold aK;rw[hmk];rfl)).1) (aaH hO)
      obtain⟨g1,g2⟩:=hW.written hnk happ hO hmk rfl (cs.toList.take (st*i.size)++(cs2.toList.drop (st2*i.size+kE)).take (n*i.size)++cs.toList.drop (st*i.size+((cs2.toList.drop (st2*i.size+kE)).take (n*i.size)).length)).toArray ⟨_,setRow_heap E.w b cs _ e' (0,0) hcs,by
        rw[<-hsize];simp only[azf,uI,ayM,aze];simp at hl2 DL ⊢;omega,hcn,hnc,hcm,by
       intro q hq;obtain⟨hlq,hpq⟩:=hel q hq
       have same:(q<st\/st+n<=q)->pre (E.row (E.w.setRow b (cs.toList.take (st*i.size)++(cs2.toList.drop (st2*i.size+kE)).take (n*i.size)++cs.toList.drop (st*i.size+((cs2.toList.drop (st2*i.size+kE)).take (n*i.size)).length)).toArray) k b c).fz (el q) ((cs.toList.take (st*i.size)++(cs2.toList.drop (st2*i.size+kE)).take (n*i.size)++cs.toList.drop (st*i.size+((cs2.toList.drop (st2*i.size+kE)).take (n*i.size)).length)).drop (q*i.size)):=by
        intro hor;refine gX (kg hle.fz hpq) λ r hr=>?_;rw[aoD,aoD,rW _ _ _ DL,hnl];rw[hlq]at hr;rcases hor with hlt |hge
        .have:(q+1)*i.size<=st*i.size:=agT _ hlt
         rw[asM]at this;rw[if_pos (by omega)]
        .have:(st+n)*i.size<=q*i.size:=agT _ hge
         rw[asM]at this;rw[if_neg (by omega),if_neg (by omega)]
       have hnew:st<=q->q<st+n->(spread st (VW l (st2*i.size+kE) i.size n) q).length=i.size/\pre (E.row (E.w.setRow b (cs.toList.take (st*i.size)++(cs2.toList.drop (st2*i.size+kE)).take (n*i.size)++cs.toList.drop (st*i.size+((cs2.toList.drop (st2*i.size+kE)).take (n*i.size)).length)).toArray) k b c).fz (spread st (VW l (st2*i.size+kE) i.size n) q) ((cs.toList.take (st*i.size)++(cs2.toList.drop (st2*i.size+kE)).take (n*i.size)++cs.toList.drop (st*i.size+((cs2.toList.drop (st2*i.size+kE)).take (n*i.size)).length)).drop (q*i.size)):=by
        intro hge hlt;refine Aq (λ z=>z.length=i.size/\pre _ z _) (λ bb xs ys p1 p2=>⟨l8 (λ hb=>(p1 hb).1) (λ hb=>(p2 hb).1),l7 (λ hb=>(p1 hb).2) (λ hb=>(p2 hb).2)⟩) (VW l (st2*i.size+kE) i.size n) st hge (by simp only[VW,aAL,List.length_range];exact hlt) λ p new hp hqp=>?_
        have hpn:p<n:=by
         have:=(aj8.1 hp).1;simpa[VW]using this
        have hnw:new=(l.drop (st2*i.size+kE+p*i.size)).take i.size:=by
         simp only[VW,List.getElem?_map,List.getElem?_range hpn,Option.map_some,jN]at hp;exact hp.symm
        subst hnw;have hpz:(p+1)*i.size<=n*i.size:=agT _ hpn;rw[asM]at hpz;have hps:=l9 (st2*i.size+kE+p*i.size) i.size adN (by omega);refine⟨by simp;omega,?_⟩;have hno:bZ ((l.drop (st2*i.size+kE+p*i.size)).take i.size)=true:=Gw h7;refine gX (dV (Ar (um hle hps) hno)) λ r hr=>?_
        have hr:r<i.size:=by
         have:((l.drop (st2*i.size+kE+p*i.size)).take i.size).length<=i.size:=by simp;omega
         omega
        subst hqp;have e5:(st+p)*i.size=st*i.size+p*i.size:=asM _ _ _;rw[aoD,rW _ _ _ DL,hnl,if_neg (by omega),if_pos (by omega),axq,if_pos (by omega),aoD,axq,if_pos hr,aoD];congr 1;omega
       cases hq1:afC q st
       .have hge:st<=q:=ayU λ hc=>by
         have:afC q st=true:=ah4 hc;rw[this]at hq1;cases hq1
        cases hq2:afC q (st+n)
        .have avX:st+n<=q:=ayU λ hc=>by
          have:afC q (st+n)=true:=ah4 hc;rw[this]at hq2;cases hq2
         exact⟨l8 (λ h=>(ayF (hq1.symm.trans h)).elim) (λ _=>l8 (λ h=>(ayF (hq2.symm.trans h)).elim) λ _=>hlq),l7 (λ h=>(ayF (hq1.symm.trans h)).elim) λ _=>l7 (λ h=>(ayF (hq2.symm.trans h)).elim) λ _=>same (aaH avX)⟩
        .have hlt2:q<st+n:=Sr hq2
         exact⟨l8 (λ h=>(ayF (hq1.symm.trans h)).elim) (λ _=>l8 (λ _=>(hnew hge hlt2).1) λ h=>(ayF (h.symm.trans hq2)).elim),l7 (λ h=>(ayF (hq1.symm.trans h)).elim) λ _=>l7 (λ _=>(hnew hge hlt2).2) λ h=>(ayF (h.symm.trans hq2)).elim⟩
       .have hlt:q<st:=Sr hq1
        exact⟨l8 (λ _=>hlq) (λ h=>(ayF (h.symm.trans hq1)).elim),l7 (λ _=>same (ER hlt)) λ h=>(ayF (h.symm.trans hq1)).elim⟩⟩
      unfold azC execOp;simp only[hop,resolve,invoke,builtin,YC,abP,xU,aA5,aB2,aBX,hrun];exact hK _ _ g1 (Env.rX hO) g2 (bI.2 rfl)
    .cases h
   .cases h
  .cases h
 .cases h
theorem RU{w:World}{b n:Nat}{cs:Array Value}{e:TypeId}(h:w.heap[b]?=some (.cells cs e (0,0))):(w.freeze ⟨b,n,none⟩ 1).heap[b]?=some (.cells cs e (n,n+1)):=by
 unfold aAf;rw[if_neg (by decide)];simp[aBb,h]
theorem OY{w:World}{b n:Nat}{cs:Array Value}{e:TypeId}{fz:Nat × Nat}(h:w.heap[b]?=some (.cells cs e fz)):∃fz',(w.freeze ⟨b,n,none⟩ 1).heap[b]?=some (.cells cs e fz'):=by
 unfold aAf;rw[if_neg (by decide)];simp[aBb,h]
theorem DR(w:World)(b n:Nat):w.grownBy (w.freeze ⟨b,n,none⟩ 1) (some b):=by
 refine⟨?_,?_,?_,?_,λ j _ hj=>?_⟩
 .unfold aAf;rw[if_neg (by decide)]
 .unfold aAf;rw[if_neg (by decide)]
 .unfold aAf;rw[if_neg (by decide)]
 .unfold aAf;rw[if_neg (by decide)];simp
 .unfold aAf
  rw[if_neg (by decide)];have hne:b≠j:=λ e=>hj (by rw[e]);simp[aBb,hne]
theorem adO{P:Program}{A0 R:Nat->Prop}{w0:Env}{E:Env}{s:St}{mem':List Row}{nk:Nat}{a:Act}{o:Oper}{K:Act->World->Prop}{Q:Exit->Act->World->Prop}{src dst:TypeId}{x:Operand}{bg:Eff}(hW:Wd A0 R w0 E s.mem)(hnk:E.O nk=none)
  (hop:o.op=.convert src dst x) (hx:rel E (aG s x) (a.eval x))
  (h:MH P s src dst (aG s x)=some (true,bg)) (happ:jk E s.mem mem' nk bg) (hK:∀E' u,E.le E'->(∀k p,E'.O k=some p->E.O k=some p\/k=nk)->Wd A0 R w0 E' mem'->rel E' bg.v u->K (a.put o.dst u) E'.w):o.wp P a E.w K Q:=by
 unfold MH at h;split at h
 .rename_i e hun
  split at h
  .rename_i he
   cases hsd:src==dst
   .rw[hsd]at h;cases h
   .rw[hsd]at h
    simp only[cond_true]at h;have e1:=eq_of_beq hsd;subst e1;split at h
    .rename_i k sz st n hxe
     split at h
     .rename_i e2 LK m el hmk
      simp only[jN,EU]at h;obtain⟨hn,rfl⟩:=h;have hn:0<n:=Sr hn;rw[hxe]at hx;rcases fM.1 hx with⟨_,h2,_⟩ | ⟨b,c,n0,hO,h1,h2,hv⟩
      .omega
      .obtain⟨row,hr,hrr⟩:=hW.rows k b (c,n0) hO
       rw[hmk]at hr;cases hr;obtain⟨cs,hcs,hsize,hcn,hnc,hcm,hel⟩:=hrr;have hg:=DR E.w b cs.size;have hl:aK s.mem k=true:=by unfold aK;rw[hmk];rfl
       obtain⟨hA,hR⟩:=hW.own k b (c,n0) hO hl;have hne:k≠nk:=λ e=>by rw[e,hnk]at hO;cases hO
       have hle:E.le (E.row (E.w.freeze ⟨b,cs.size,none⟩ 1) k b (c,n0)):=Env.kN hg (ER hA) (aaH hO)
       have hWd:Wd A0 R w0 (E.row (E.w.freeze ⟨b,cs.size,none⟩ 1) k b (c,n0)) mem':=by
        refine hW.row hg (ayB (hW.small b hA) hg.size) hR (ER hA) (aaH hO) (VT:=.z false e2 LK m el) (by rw[happ.1 k hne b (c,n0) hO];simp) ?_ ⟨cs,_,RU hcs,hcn,λ h=>(ayF h).elim,λ i hi=>⟨(hel i hi).1,kg hle.fz (hel i hi).2⟩⟩;intro j hj b' c' hb';have hjn:j≠nk:=λ e=>by rw[e,hnk]at hb';cases hb'
        refine ER ⟨by rw[happ.1 j hjn b' c' hb'];simp[hj],λ hlj e=>hj ?_⟩;subst e;exact hW.one j k b' c' (c,n0) hb' hO hlj hl
       have hrun:(convert src src (a.eval x)).run P E.w=.ok (a.eval x) (E.w.freeze ⟨b,cs.size,none⟩ 1):=by
        rw[hv];simp[convert,run_underlying hun,run_underlying he,markStringish,aEl,hcs]
       unfold azC execOp;simp only[hop,YC,hrun,xU,abP];exact hK _ _ hle (Env.rX hO) hWd (mM hle hx)
     .rename_i xx e2 LK m el hmk
      simp only[jN,EU]at h;obtain⟨hn,rfl⟩:=h;have hn:0<n:=Sr hn;rw[hxe]at hx;rcases fM.1 hx with⟨_,h2,_⟩ | ⟨b,c,n0,hO,h1,h2,hv⟩
      .omega
      .obtain⟨row,hr,hrr⟩:=hW.rows k b (c,n0) hO
       rw[hmk]at hr;cases hr;obtain⟨cs,fz0,hcs,hcn,hxx,hel⟩:=hrr;have hg:=DR E.w b cs.size;have hl:aK s.mem k=true:=by unfold aK;rw[hmk];rfl
       obtain⟨hA,hR⟩:=hW.own k b (c,n0) hO hl;have hne:k≠nk:=λ e=>by rw[e,hnk]at hO;cases hO
       have hle:E.le (E.row (E.w.freeze ⟨b,cs.size,none⟩ 1) k b (c,n0)):=Env.kN hg (ER hA) (aaH hO)
       have hWd:Wd A0 R w0 (E.row (E.w.freeze ⟨b,cs.size,none⟩ 1) k b (c,n0)) mem':=by
        refine hW.row hg (ayB (hW.small b hA) hg.size) hR (ER hA) (aaH hO) (VT:=.z xx e2 LK m el) (by rw[happ.1 k hne b (c,n0) hO];simp) ?_ ⟨cs,_,(OY hcs).choose_spec,hcn,hxx,λ i hi=>⟨(hel i hi).1,kg hle.fz (hel i hi).2⟩⟩;intro j hj b' c' hb';have hjn:j≠nk:=λ e=>by rw[e,hnk]at hb';cases hb'
        refine ER ⟨by rw[happ.1 j hjn b' c' hb'];simp[hj],λ hlj e=>hj ?_⟩;subst e;exact hW.one j k b' c' (c,n0) hb' hO hlj hl
       have hrun:(convert src src (a.eval x)).run P E.w=.ok (a.eval x) (E.w.freeze ⟨b,cs.size,none⟩ 1):=by
        rw[hv];simp[convert,run_underlying hun,run_underlying he,markStringish,aEl,hcs]
       unfold azC execOp;simp only[hop,YC,hrun,xU,abP];exact hK _ _ hle (Env.rX hO) hWd (mM hle hx)
     .cases h
    .cases h
  .cases h
 .cases h
end
noncomputable section
section
variable{P:Program}{A0 R:Nat->Prop}{w0:Env}{E:Env}{s:St}{mem':List Row}{nk:Nat}{a:Act}{o:Oper}{K:Act->World->Prop}{Q:Exit->Act->World->Prop}
theorem JB{size j m:Nat}{y:AV}{ns:List (List AV)}{v:Value}(hW:Wd A0 R w0 E s.mem)(hv:rel E y v)(h:Gu s.mem size y=some (j,m,ns))(hall:(ns.all λ new=>new.all je)=true) :
  ∃(ad:Addr) (c:Nat) (news:List Value),v=.slice (some ad) m c/\news.length=m*size/\(∀j u,news[j]?=some u->E.w.cell? (ad.add j)=some u)/\(∀u∈news,u.oneCell'=true)/\0<m/\ns.length=m/\∀p new,ns[p]?=some new->new.length=size/\pre E.fz new (news.drop (p*size)):=by
 unfold Gu at h;split at h
 .rename_i k sz m'
  split at h
  .rename_i e' sz' n el hmk
   cases hk:((sz==size)&&((sz'==size)&&afC 0 m'))
   .rw[hk]at h;cases h
   .rw[hk]at h
    simp only[cond_true,jN,EU]at h;simp only[J8,beq_iff_eq]at hk;obtain⟨rfl,rfl,hm0⟩:=hk;have hm0:0<m':=Sr hm0;obtain⟨_,rfl,rfl⟩:=h;obtain⟨b,c,n',hb,h1,h2,rfl⟩:=(fM.1 hv).resolve_left (λ hz=>by have:=hz.2.1;omega);obtain⟨row,hr,hrr⟩:=hW.rows k b _ hb;rw[hmk]at hr;cases hr;obtain⟨cs,hcs,hsize,hn,hnc,hcm,hel⟩:=hrr;simp only at hn hsize hnc;have hbig:m'*sz'<=cs.size:=by rw[hsize];exact agT _ (by omega)
    have part:∀p,p<m'->(el p).length=sz'/\pre E.fz (el p) ((cs.toList.take (m'*sz')).drop (p*sz')):=λ p hp=>by
     obtain⟨hl0,hp0⟩:=hel p (by omega);refine⟨hl0,gX hp0 λ i hi=>?_⟩;rw[hl0]at hi;have:(p+1)*sz'<=m'*sz':=agT _ hp;rw[asM]at this;rw[aoD,aoD,axq,if_pos (by omega)]
    refine⟨_,_,cs.toList.take (m'*sz'),rfl,by simp;omega,λ i u hu=>?_,λ u hu=>?_,hm0,by simp,λ p new hp=>?_⟩
    .have hadd:(⟨b,0*sz',none⟩:Addr).add i=⟨b,i,none⟩:=by unfold Addr.add;split<;>simp_all
     rw[hadd,cell_of_row E.w b i cs _ (0,0) hcs];rw[axq]at hu;split at hu
     .simpa using hu
     .cases hu
    .obtain⟨i,hi⟩:=aAn.1 hu
     have hil:i<m'*sz':=by
      have h3:=(aj8.1 hi).1;rw[ayM]at h3;omega
     have hsp:0<sz':=aAM λ e=>by rw[e]at hil;simp at hil
     have hpq:i / sz'<m':=(aAu hsp).2 hil;obtain⟨g1,g2⟩:=part (i / sz') hpq;have hiq:i / sz'*sz'+i % sz'=i:=by rw[aye];exact ay1 i sz'
     have hmod:=aA8 i hsp;have hx:(el (i / sz'))[i % sz']?=some ((el (i / sz'))[i % sz']'(by omega)):=adv (by omega);obtain⟨v,hv1,hv2⟩:=xq g2 hx;rw[aoD,hiq,hi]at hv1;cases hv1;refine pV hv2 ?_;have h5:=apB.1 hall (el (i / sz')) (azp.2 ⟨_,List.mem_range.2 hpq,rfl⟩);exact apB.1 h5 _ (azH _)
    .have hlt:=(aj8.1 hp).1
     simp at hlt;simp[hlt]at hp;rw[<-hp];exact part p hlt
  .cases h
 .cases h
theorem Gx{t t' e:TypeId}{i:TypeInfo}{x y:Operand}{k:Option Nat}{n m:Nat}{el tl:Nat->List AV}{rd:List Nat}{news:List Value}(hW:Wd A0 R w0 E s.mem)(hnk:E.O nk=none)(hop:o.op=.call { callee:=.builtin .append,args:=#[x,y],argTypes:=#[t,t'] })
  (htl:∀q,n<=q->q<n+m->(tl q).length=i.size/\pre E.fz (tl q) (news.drop ((q - n)*i.size)))
  (happ:jk E s.mem mem' nk ⟨.fJ nk i.size 0 (n+m),rd,k.map (λ k=>(k,Row.dead)),some (.a e i.size (n+m) (λ q=>dn (afC q n) (el q) (tl q)))⟩) (hK:∀E' u,E.le E'->(∀k p,E'.O k=some p->E.O k=some p\/k=nk)->Wd A0 R w0 E' mem'->rel E' (.fJ nk i.size 0 (n+m)) u->K (a.put o.dst u) E'.w)
  (xs:List Value) (hxl:xs.length=n*i.size) (hel:∀q,q<n->(el q).length=i.size/\∀E',E.le E'->pre E'.fz (el q) (xs.drop (q*i.size)))
  (hR1:∃g cap cur w',(ay4 #[t,t'] o.type #[a.eval x,a.eval y]).run P E.w=.ok (.slice (some ⟨g,0,none⟩) (n+m) cap) w'/\((∃k0 c0 row0,k=some k0/\E.O k0=some (g,c0)/\s.mem[k0]?=some row0/\row0.live=true)\/g=E.w.heap.size)/\w'.heap[g]?=some (.cells cur e (0,0)) /\
   cur.size=cap*i.size/\n+m<=cap/\cap<=maxLen/\cur.toList.take ((n+m)*i.size)=xs++news/\E.w.grownBy w' (some g)):o.wp P a E.w K Q:=by
 obtain⟨g,cap,cur,w',hrun,hg,hcur,hsize,hcap,hcm,htake,hgr⟩:=hR1
 have hA:E.A g\/E.w.heap.size<=g:=by
  rcases hg with hg |hg
  .obtain⟨k0,c0,row0,_,h2,h3,h4⟩:=hg
   exact ER (hW.own k0 g c0 h2 (by unfold aK;rw[h3];exact h4)).1
  .exact aaH (by omega)
 have hR:R g\/w0.w.heap.size<=g:=by
  rcases hg with hg |hg
  .obtain⟨k0,c0,row0,_,h2,h3,h4⟩:=hg
   exact(hW.own k0 g c0 h2 (by unfold aK;rw[h3];exact h4)).2
  .have:=hW.below.size;exact aaH (by omega)
 have hle:E.le (E.row w' nk g (cap,n+m)):=Env.kN hgr hA (ER hnk)
 have hrow:rH (E.row w' nk g (cap,n+m)) g (cap,n+m) (.a e i.size (n+m) (λ q=>dn (afC q n) (el q) (tl q))):=by
  refine⟨cur,hcur,hsize,rfl,hcap,hcm,λ q hq=>?_⟩;have Zj:∀p,p<(n+m)*i.size->cur.toList[p]?=(xs++news)[p]?:=λ p hp=>by rw[<-htake,axq,if_pos hp]
  have hq2:q*i.size+i.size<=(n+m)*i.size:=by
   have:(q+1)*i.size<=(n+m)*i.size:=agT _ hq;rw[asM]at this;omega
  have hnew:afC q n=false->(tl q).length=i.size/\pre (E.row w' nk g (cap,n+m)).fz (tl q) (cur.toList.drop (q*i.size)):=λ hqn=>by
   have aip:n<=q:=ayU λ hc=>by
    have:afC q n=true:=ah4 hc;rw[this]at hqn;cases hqn
   obtain⟨g1,g2⟩:=htl q aip hq;refine⟨g1,gX (kg hle.fz g2) λ r hr=>?_⟩;rw[g1]at hr;have e5:q*i.size=n*i.size+(q - n)*i.size:=by rw[<-asM];congr 1;omega
   rw[aoD,aoD,Zj _ (by omega),axY (by rw[hxl];omega),hxl];congr 1;omega
  refine⟨l8 (λ hqn=>(hel q (Sr hqn)).1) (λ hqn=>(hnew hqn).1),l7 (λ hqn=>?_) (λ hqn=>(hnew hqn).2)⟩;have aip:q<n:=Sr hqn;obtain⟨hlq,hpq⟩:=hel q aip;refine gX (hpq _ hle) λ p hp=>?_;rw[hlq]at hp;rw[aoD,aoD,Zj _ (by omega),apR];rw[hxl];have:(q+1)*i.size<=n*i.size:=agT _ aip;rw[asM]at this;omega
 have hWd:Wd A0 R w0 (E.row w' nk g (cap,n+m)) mem':=by
  refine hW.row hgr (ayR.1 hcur).1 hR hA (ER hnk) (happ.2 _ rfl) ?_ hrow;intro k' hk' b' c' hb';have e1:=happ.1 k' hk' b' c' hb';by_cases adP:k=some k'
  .subst adP
   simp only[Option.map_some,if_true]at e1;exact aaH e1
  .have e2:mem'[k']?=s.mem[k']?:=by
    rw[e1];cases k with
    |none=>rfl
    |some k0 =>
     simp only[Option.map_some];rw[if_neg (λ e=>adP (by rw[e]))]
   refine ER ⟨e2,λ hlv e3=>?_⟩;subst e3;rcases hg with hg |hg
   .obtain⟨k0,c0,row0,e4,h2,h3,h4⟩:=hg
    have:=hW.one k' k0 b' c' c0 hb' h2 hlv (by unfold aK;rw[h3];exact h4);exact adP (by rw[e4,this])
   .have:=hW.small b' (hW.own k' b' c' hb' hlv).1
    omega
 have hrel:rel (E.row w' nk g (cap,n+m)) (.fJ nk i.size 0 (n+m)) (.slice (some ⟨g,0,none⟩) (n+m) cap):=fM.2 (aaH ⟨g,cap,n+m,by simp[Env.row],by omega,hcap,by simp⟩);unfold azC execOp;simp only[hop,resolve,invoke,builtin,YC,abP,xU,aA5,aB2,aBX,hrun];exact hK _ _ hle Env.MJ hWd hrel
theorem DT{t t' e:TypeId}{i:TypeInfo}{x y:Operand}{k:Option Nat}{n m:Nat}{b:Bool}{el tl:Nat->List AV}{rd:List Nat}{news:List Value}(hW:Wd A0 R w0 E s.mem)(hnk:E.O nk=none)(hop:o.op=.call { callee:=.builtin .append,args:=#[x,y],argTypes:=#[t,t'] })(hx:rel E (aG s x) (a.eval x))
  (hH:vM s.mem e i.size (aG s x)=some (b,k,n,el)) (hb:b=true)
  (hR0:∀xs,E.w.ownsRow 0 e i.size (a.eval x) n xs->∃g cap cur w',(ay4 #[t,t'] o.type #[a.eval x,a.eval y]).run P E.w=.ok (.slice (some ⟨g,0,none⟩) (n+m) cap) w'/\((a.eval x).ownBlock=some g\/g=E.w.heap.size)/\w'.heap[g]?=some (.cells cur e (0,0)) /\
   cur.size=cap*i.size/\n+m<=cap/\cap<=maxLen/\cur.toList.take ((n+m)*i.size)=xs++news/\E.w.grownBy w' (some g))
  (htl:∀q,n<=q->q<n+m->(tl q).length=i.size/\pre E.fz (tl q) (news.drop ((q - n)*i.size)))
  (happ:jk E s.mem mem' nk ⟨.fJ nk i.size 0 (n+m),rd,k.map (λ k=>(k,Row.dead)),some (.a e i.size (n+m) (λ q=>dn (afC q n) (el q) (tl q)))⟩) (hK:∀E' u,E.le E'->(∀k p,E'.O k=some p->E.O k=some p\/k=nk)->Wd A0 R w0 E' mem'->rel E' (.fJ nk i.size 0 (n+m)) u->K (a.put o.dst u) E'.w):o.wp P a E.w K Q:=by
 have goal:∀(xs:List Value),E.w.ownsRow 0 e i.size (a.eval x) n xs->(∀q,q<n->(el q).length=i.size/\∀E',E.le E'->pre E'.fz (el q) (xs.drop (q*i.size))) ->
   (∀g,(a.eval x).ownBlock=some g->∃k0 c0 row0,k=some k0/\E.O k0=some (g,c0)/\s.mem[k0]?=some row0/\row0.live=true)->o.wp P a E.w K Q:=by
  intro xs hown hel hblk;obtain⟨g,cap,cur,w',hrun,hg,hrest⟩:=hR0 xs hown;exact Gx hW hnk hop htl happ hK xs hown.1 hel ⟨g,cap,cur,w',hrun,hg.imp (hblk g) id,hrest⟩
 unfold vM at hH;split at hH
 .rename_i hxe
  simp only[jN,EU]at hH;obtain⟨_,rfl,rfl,rfl⟩:=hH;rw[hxe]at hx;have hxv:=bI.1 hx;refine goal [] (by rw[hxv];exact aDf _ _ _ _) (λ q hq=>by omega) (λ g hg=>by rw[hxv]at hg;cases hg)
 .rename_i k1 sz len hxe
  split at hH
  .rename_i e' sz' n' sZ hmk
   cases hk2:((e==e')&&((sz==i.size)&&(sz'==i.size)))
   .rw[hk2]at hH;cases hH
   .rw[hk2]at hH
    simp only[cond_true,jN,EU]at hH;obtain⟨hbn,rfl,rfl,rfl⟩:=hH;simp only[J8,beq_iff_eq]at hk2;obtain⟨rfl,rfl,hs2⟩:=hk2;subst hs2;rw[hb]at hbn
    have hbn:len<=n':=by
     cases hcut:aio e
     .rw[hcut,cond_false]at hbn;exact Nat.le_of_eq (eq_of_beq hbn)
     .rw[hcut,cond_true]at hbn;exact Sr hbn
    rw[hxe]at hx;rcases fM.1 hx with⟨_,h0,hxv⟩ | ⟨b',c',n2,hb',hle1,hle2,hxv⟩
    .subst h0
     exact goal [] (by rw[hxv];exact aDf _ _ _ _) (λ q hq=>by omega) (λ g hg=>by rw[hxv]at hg;cases hg)
    .obtain⟨row,hr,hrr⟩:=hW.rows k1 b' _ hb'
     rw[hmk]at hr;cases hr;obtain⟨cs,hcs,hsize,hn,hnc,hcm,hel⟩:=hrr;simp only at hn hsize hnc hcm;subst hn
     refine goal (cs.toList.take (len*i.size)) (by
      rw[hxv];refine⟨?_,aaH ⟨b',c',cs,by simp,Nat.zero_le _,hcs,by omega,hcm,hsize,rfl⟩⟩;have:len*i.size<=c'*i.size:=agT _ (by omega);simp;omega) (λ q hq=>⟨(hel q (by omega)).1,λ E' hle=>?_⟩) (λ g hg=>?_)
     .refine gX (kg hle.fz (hel q (by omega)).2) λ p hp=>?_
      rw[(hel q (by omega)).1]at hp;have:(q+1)*i.size<=len*i.size:=agT _ hq;rw[asM]at this;rw[aoD,aoD,axq,if_pos (by omega)]
     .rw[hxv]at hg
      simp only[Value.ownBlock,jN]at hg;subst hg;exact⟨k1,_,_,rfl,hb',hmk,rfl⟩
  .cases hH
 .cases hH
theorem Gy{t e:TypeId}{i:TypeInfo}{z:Value}{x y:Operand}{k:Option Nat}{n m c:Nat}{b:Bool}{el tl:Nat->List AV}{rd:List Nat}{ad:Addr}{news:List Value}(hW:Wd A0 R w0 E s.mem)(hnk:E.O nk=none)(hop:o.op=.call { callee:=.builtin .append,args:=#[x,y],argTypes:=#[t,t] })(hx:rel E (aG s x) (a.eval x))
  (hun:P.underlying t=some (.slice e)) (hi:P.info? e=some i) (hz:i.zero=some z) (hzs:z.cells.size=i.size) (h63:n+m<=maxLen) (hbytes:(n+m)*i.bytes<=140737488355328) (hH:vM s.mem e i.size (aG s x)=some (b,k,n,el)) (hb:b=true)
  (hve:a.eval y=.slice (some ad) m c) (hnl:news.length=m*i.size) (hcell:∀j u,news[j]?=some u->E.w.cell? (ad.add j)=some u) (hone:∀u∈news,u.oneCell'=true) (hm0:0<m) (htl:∀q,n<=q->q<n+m->(tl q).length=i.size/\pre E.fz (tl q) (news.drop ((q - n)*i.size)))
  (happ:jk E s.mem mem' nk ⟨.fJ nk i.size 0 (n+m),rd,k.map (λ k=>(k,Row.dead)),some (.a e i.size (n+m) (λ q=>dn (afC q n) (el q) (tl q)))⟩) (hK:∀E' u,E.le E'->(∀k p,E'.O k=some p->E.O k=some p\/k=nk)->Wd A0 R w0 E' mem'->rel E' (.fJ nk i.size 0 (n+m)) u->K (a.put o.dst u) E'.w):o.wp P a E.w K Q :=
 DT (t':=t) (news:=news) hW hnk hop hx hH hb (λ xs hown=>by rw[hve];exact VU (P:=P) t o.type e i z hun hi hz hzs (a.eval x) n xs hown ad m c news hnl hcell hone hm0 h63 hbytes) htl happ hK
theorem Wo{t:TypeId}{x y:Operand}{bg:Eff}(hW:Wd A0 R w0 E s.mem)(hnk:E.O nk=none)(hop:o.op=.call { callee:=.builtin .append,args:=#[x,y],argTypes:=#[t,t] })(hx:rel E (aG s x) (a.eval x))(hy:rel E (aG s y) (a.eval y))
  (h:qM P s nk t (aG s x) (aG s y)=some (true,bg)) (happ:jk E s.mem mem' nk bg) (hK:∀E' u,E.le E'->(∀k p,E'.O k=some p->E.O k=some p\/k=nk)->Wd A0 R w0 E' mem'->rel E' bg.v u->K (a.put o.dst u) E'.w):o.wp P a E.w K Q:=by
 unfold qM at h;split at h
 .rename_i e hun
  split at h
  .rename_i i hi
   split at h
   .rename_i z hz
    split at h
    .rename_i b k n el j m ns hH Fz
     cases hk:((z.cells.size==i.size)&&(afC 0 i.bytes&&((ns.all λ new=>new.all je)&&((ns.all bZ)&&!(k==some j)))))
     .rw[hk]at h;cases h
     .rw[hk]at h
      simp only[cond_true,jN,EU]at h;obtain⟨hb,rfl⟩:=h;simp only[J8,beq_iff_eq]at hk hb;obtain⟨hzs,hby,hall,hno,hkj⟩:=hk;obtain⟨hb,hbytes⟩:=hb;have hby:0<i.bytes:=Sr hby;have hbytes:(n+m)*i.bytes<=140737488355328:=Sr hbytes
      have h63:n+m<=maxLen:=by
       have:(n+m)*1<=(n+m)*i.bytes:=ax9 _ hby;simp only[maxLen];omega
      obtain⟨ad,c,news,hve,hnl,hcell,hone,hm0,avY,hrn⟩:=JB hW hy Fz hall;refine Gy hW hnk hop hx hun hi hz hzs h63 hbytes hH hb hve hnl hcell hone hm0 (λ q hq1 hq2=>?_) happ hK;refine Aq (λ l=>l.length=i.size/\pre E.fz l (news.drop ((q - n)*i.size))) (λ bb xs ys g1 g2=>⟨l8 (λ hb=>(g1 hb).1) (λ hb=>(g2 hb).1),l7 (λ hb=>(g1 hb).2) (λ hb=>(g2 hb).2)⟩) ns n hq1 (by omega) λ p new hp hqp=>?_;have e5:q - n=p:=by omega
      rw[e5];exact hrn p new hp
    .cases h
   .cases h
  .cases h
 .cases h
theorem RV{t:TypeId}{x y:Operand}{bg:Eff}{sz m:Nat}{el2:Nat->List AV}(hW:Wd A0 R w0 E s.mem)(hnk:E.O nk=none)(hop:o.op=.call { callee:=.builtin .append,args:=#[x,y],argTypes:=#[t,t] })(hx:rel E (aG s x) (a.eval x))(hy:rel E (.sl sz m el2) (a.eval y))
  (h:rM P s nk t (aG s x) sz m el2=some (true,bg)) (happ:jk E s.mem mem' nk bg) (hK:∀E' u,E.le E'->(∀k p,E'.O k=some p->E.O k=some p\/k=nk)->Wd A0 R w0 E' mem'->rel E' bg.v u->K (a.put o.dst u) E'.w):o.wp P a E.w K Q:=by
 unfold rM at h;split at h
 .rename_i e hun
  split at h
  .rename_i i hi
   split at h
   .rename_i z hz
    split at h
    .rename_i b k n el hH
     cases hk:((z.cells.size==i.size)&&(afC 0 i.bytes&&(sz==i.size)))
     .rw[hk]at h;cases h
     .rw[hk]at h
      simp only[cond_true,jN,EU]at h;obtain⟨hb,rfl⟩:=h;simp only[J8,beq_iff_eq]at hk hb;obtain⟨hzs,hby,rfl⟩:=hk;obtain⟨hb,hm0,hall,hbytes⟩:=hb;have hby:0<i.bytes:=Sr hby;have hm0:0<m:=Sr hm0;have hbytes:(n+m)*i.bytes<=140737488355328:=Sr hbytes
      have h63:n+m<=maxLen:=by
       have:(n+m)*1<=(n+m)*i.bytes:=ax9 _ hby;simp only[maxLen];omega
      obtain⟨ad0,c,hve,hnc,hcs⟩:=iM.1 hy;obtain⟨bk,o0,cs,e0,fz0,rfl,hA,hcs,hel⟩:=hcs.resolve_left (by omega);have hsp:0<i.size\/i.size=0:=by omega
      have hin:o0+m*i.size<=cs.size\/i.size=0:=by
       rcases hsp with hsp |hsp
       .refine ER (ayU λ hlt=>?_)
        obtain⟨g1,g2⟩:=hel (m - 1) (by omega);have hl:(el2 (m - 1))[i.size - 1]?=some ((el2 (m - 1))[i.size - 1]'(by omega)):=adv (by omega);obtain⟨v,hv1,_⟩:=xq g2 hl;rw[aoD]at hv1;have h5:=(aj8.1 hv1).1;have e6:(m - 1)*i.size+i.size=m*i.size:=by rw[<-Nat.succ_mul];congr 1;omega
        simp at h5;omega
       .exact aaH hsp
      have hnl:((cs.toList.drop o0).take (m*i.size)).length=m*i.size:=by
       rcases hin with h5 |h5
       .simp;omega
       .rw[h5];simp
      refine Gy (news:=(cs.toList.drop o0).take (m*i.size)) hW hnk hop hx hun hi hz hzs h63 hbytes hH hb hve hnl (λ j u hu=>?_) (λ u hu=>?_) hm0 (λ q hq1 hq2=>?_) happ hK
      .have hadd:(⟨bk,o0,none⟩:Addr).add j=⟨bk,o0+j,none⟩:=by unfold Addr.add;split<;>simp_all
       rw[hadd,cell_of_row E.w bk (o0+j) cs _ _ hcs];rw[axq]at hu;split at hu
       .rw[aoD]at hu
        simpa using hu
       .cases hu
      .obtain⟨j,hj⟩:=aAn.1 hu
       have hjl:j<m*i.size:=by
        have h3:=(aj8.1 hj).1;rw[hnl]at h3;exact h3
       have hsp:0<i.size:=aAM λ e=>by rw[e]at hjl;simp at hjl
       have hpq:j / i.size<m:=(aAu hsp).2 hjl;obtain⟨g1,g2⟩:=hel (j / i.size) hpq;have hiq:j / i.size*i.size+j % i.size=j:=by rw[aye];exact ay1 j i.size
       have hmod:=aA8 j hsp;have hx2:(el2 (j / i.size))[j % i.size]?=some ((el2 (j / i.size))[j % i.size]'(by omega)):=adv (by omega);obtain⟨v,hv1,hv2⟩:=xq g2 hx2;rw[axq,if_pos hjl,aoD]at hj;rw[aoD,aAq,hiq,hj]at hv1;cases hv1;refine pV hv2 ?_;exact apB.1 (DU hall _ hpq) _ (azH _)
      .obtain⟨g1,g2⟩:=hel (q - n) (by omega)
       refine⟨g1,gX g2 λ r hr=>?_⟩;rw[g1]at hr;have:(q - n+1)*i.size<=m*i.size:=agT _ (by omega);rw[asM]at this;rw[aoD,aoD,axq,if_pos (by omega),aoD,aAq]
    .cases h
   .cases h
  .cases h
 .cases h
theorem run_append_nothing{P:Program}(w:World)(t ty e:TypeId)(i:TypeInfo)(ht:P.underlying t=some (.slice e))(hi:P.info? e=some i)(base a:Option Addr)(l c c':Nat)(hl:l<=c) :
  (ay4 #[t,t] ty #[.slice base l c,.slice a 0 c']).run P w=.ok (.slice base l c) w:=by
 cases base<;>cases a<;>simp[ay4,run_underlying ht,sizeOf,typeInfo,hi,aBn,hl,aAt,storeCells,loadCells,loadCellsFrom,abP]
theorem RX{t:TypeId}{x y:Operand}{ad:Option Addr}{c0:Nat}{bg:Eff}(hW:Wd A0 R w0 E s.mem)(hnk:E.O nk=none)(hop:o.op=.call { callee:=.builtin .append,args:=#[x,y],argTypes:=#[t,t] })(hx:rel E (aG s x) (a.eval x))(hy:a.eval y=.slice ad 0 c0)
  (h:DJ P t (aG s x)=some (true,bg)) (happ:jk E s.mem mem' nk bg) (hK:∀E' u,E.le E'->(∀k p,E'.O k=some p->E.O k=some p\/k=nk)->Wd A0 R w0 E' mem'->rel E' bg.v u->K (a.put o.dst u) E'.w):o.wp P a E.w K Q:=by
 have fin:∀(e:TypeId) (i:TypeInfo) (base:Option Addr) (l c:Nat),P.underlying t=some (.slice e)->P.info? e=some i->a.eval x=.slice base l c->l<=c->bg=⟨aG s x,[],none,none⟩->o.wp P a E.w K Q:=by
  intro e i base l c ht hi hxe hlc heff
  have hWm:Wd A0 R w0 E mem':=by
   have same:∀k b c,E.O k=some (b,c)->mem'[k]?=s.mem[k]?:=λ k b c hb=>by
    have:=happ.1 k (λ e=>by rw[e,hnk]at hb;cases hb) b c hb;rw[heff]at this;exact this
   have live:∀k b c,E.O k=some (b,c)->aK mem' k=aK s.mem k:=λ k b c hb=>by unfold aK;rw[same k b c hb]
   exact⟨λ k b c hb=>by rw[same k b c hb];exact hW.rows k b c hb,hW.small,hW.old,λ k b c hb hl=>hW.own k b c hb (by rw[<-live k b c hb];exact hl),λ k k' b c c' hb hb' hl hl'=>hW.one k k' b c c' hb hb' (by rw[<-live k b c hb];exact hl) (by rw[<-live k' b c' hb'];exact hl'),hW.below,hW.CY⟩
  have hrun:(execOp a.eval o).run P E.w=.ok (.value (a.eval x)) E.w:=by
   unfold execOp;have hrn:=run_append_nothing E.w t o.type e i ht hi base ad l c c0 hlc;simp only[hop,resolve,invoke,builtin,YC,abP,xU,aA5,aB2,aBX,hxe,hy,hrn]
  unfold azC;rw[hrun];exact hK E _ (Env.le.refl _) (λ _ _ h=>ER h) hWm (by rw[heff];exact hx)
 unfold DJ at h;split at h
 .rename_i e ht
  split at h
  .rename_i i hi
   split at h
   .rename_i k sz st len hxe
    simp only[jN,EU,true_and]at h;rw[hxe]at hx;rcases fM.1 hx with⟨h1,h2,h3⟩ | ⟨b,c,n,h1,h2,h3,h4⟩
    .exact fin e i none 0 0 ht hi h3 (ao5 _) (by rw[<-h,hxe])
    .exact fin e i _ len (c - st) ht hi h4 (by omega) (by rw[<-h,hxe])
   .rename_i hxe
    simp only[jN,EU,true_and]at h;rw[hxe]at hx;exact fin e i none 0 0 ht hi (bI.1 hx) (ao5 _) (by rw[<-h,hxe])
   .cases h
  .cases h
 .cases h
theorem RY{t:TypeId}{x y:Operand}{bg:Eff}(hW:Wd A0 R w0 E s.mem)(hnk:E.O nk=none)(hop:o.op=.call { callee:=.builtin .append,args:=#[x,y],argTypes:=#[t,t] })(hx:rel E (aG s x) (a.eval x))(hy:rel E (aG s y) (a.eval y))
  (h:nM P s nk t (aG s x) (aG s y)=some (true,bg)) (happ:jk E s.mem mem' nk bg) (hK:∀E' u,E.le E'->(∀k p,E'.O k=some p->E.O k=some p\/k=nk)->Wd A0 R w0 E' mem'->rel E' bg.v u->K (a.put o.dst u) E'.w):o.wp P a E.w K Q:=by
 unfold nM at h;split at h
 .rename_i e hun
  split at h
  .rename_i i hi
   split at h
   .rename_i z hz
    split at h
    .rename_i k n el j m ns hH Fz
     cases hk:((z.cells.size==i.size)&&(afC 0 i.bytes&&((ns.all λ new=>new.all je)&&((ns.all bZ)&&!(k==j)))))
     .rw[hk]at h;cases h
     .rw[hk]at h
      simp only[cond_true,jN,EU]at h;obtain⟨hbytes,rfl⟩:=h;simp only[J8,beq_iff_eq]at hk;obtain⟨hzs,hby,hall,hno,hkj⟩:=hk;have hby:0<i.bytes:=Sr hby;have hbytes:(n+m)*i.bytes<=140737488355328:=Sr hbytes
      have h63:n+m<=maxLen:=by
       have:(n+m)*1<=(n+m)*i.bytes:=ax9 _ hby;simp only[maxLen];omega
      have hsmall:n+m<=9223372036854775807:=by simp only[maxLen]at h63;omega
      obtain⟨ad,c,news,hve,hnl,hcell,hone,hm0,avY,hrn⟩:=JB hW hy Fz hall;unfold RN at hH;split at hH
      .rename_i k1 sz len hxe
       split at hH
       .rename_i e' sz' n' sZ hmk
        cases hk2:((e==e')&&((sz==i.size)&&((sz'==i.size)&&((len==n')&&afC 0 n'))))
        .rw[hk2]at hH;cases hH
        .rw[hk2]at hH
         simp only[cond_true,jN,EU]at hH;obtain⟨rfl,rfl,rfl⟩:=hH;simp only[J8,beq_iff_eq]at hk2;obtain⟨rfl,rfl,hs2,rfl,hn0⟩:=hk2;subst hs2;have hn0:0<len:=Sr hn0;rw[hxe]at hx;rcases fM.1 hx with⟨_,h0,hxv⟩ | ⟨b',c',n2,hb',hle1,hle2,hxv⟩
         .omega
         .obtain⟨row,hr,hrr⟩:=hW.rows k1 b' _ hb'
          rw[hmk]at hr;cases hr;obtain⟨cs,fz,hcs,hn,hcap,hel⟩:=hrr;simp only at hn hcap;obtain⟨hcap,hcz⟩:=hcap trivial;subst hn hcap;have hxl:(cs.toList.take (c'*i.size)).length=c'*i.size:=by simp;omega
          have holds:∀j u,(cs.toList.take (c'*i.size))[j]?=some u->E.w.cell? ((⟨b',0,none⟩:Addr).add j)=some u:=λ j u hj=>by
           rw[add_plain,avB]
           have hj2:j<c'*i.size:=by
            have:=(aj8.1 hj).1;rw[hxl]at this;exact this
           rw[axq,if_pos hj2]at hj;simp only[World.cell?,hcs];simpa using hj
          have hr:=run_append_grow (P:=P) E.w t o.type e i z hun hi hz ⟨b',0,none⟩ c' c' (cs.toList.take (c'*i.size)) hxl holds ad m c news hnl hcell (by omega) (by omega) (growslice_fits (by omega) hbytes);have avZ:a.eval x=.slice (some ⟨b',0,none⟩) c' c':=by rw[hxv];simp
          refine Gx (k:=none) (t':=t) (news:=news) hW hnk hop (λ q hq1 hq2=>?_) happ hK (cs.toList.take (c'*i.size)) hxl (λ q hq=>⟨(hel q hq).1,λ E' hle=>?_⟩) ?_
          .refine Aq (λ l=>l.length=i.size/\pre E.fz l (news.drop ((q - c')*i.size))) (λ bb xs ys g1 g2=>⟨l8 (λ hb=>(g1 hb).1) (λ hb=>(g2 hb).1),l7 (λ hb=>(g1 hb).2) (λ hb=>(g2 hb).2)⟩) ns c' hq1 (by omega) λ p new hp hqp=>?_
           have e5:q - c'=p:=by omega
           rw[e5];exact hrn p new hp
          .refine gX (kg hle.fz (hel q hq).2) λ p hp=>?_
           rw[(hel q hq).1]at hp;have:(q+1)*i.size<=c'*i.size:=agT _ hq;rw[asM]at this;rw[aoD,aoD,axq,if_pos (by omega)]
          .have hge:=grownCap_ge E.w (c'+m) c' e
           have hcm:grownCap E.w (c'+m) c' e<=maxLen:=grownCap_le_maxLen E.w (c'+m) c' e h63;have hlen:(cs.toList.take (c'*i.size)++news).length=(c'+m)*i.size:=by rw[uI,hxl,hnl,asM]
           rw[avZ,hve];refine⟨_,_,_,_,hr,aaH rfl,heap_alloc_new E.w.drew _,?_,hge,hcm,?_,⟨rfl,rfl,rfl,by simp,λ k hk _=>heap_alloc_old E.w.drew _ hk⟩⟩
           .simp only[aBL,azf,size_zeroCells,hzs,hxl,hnl,<-asM]
            congr 1;omega
           .simp only[aAB,aiR]
            rw[<-aiR,<-hlen];exact aAK
       .cases hH
      .cases hH
    .cases h
   .cases h
  .cases h
 .cases h
theorem RZ{t:TypeId}{x y:Operand}{bg:Eff}(hW:Wd A0 R w0 E s.mem)(hnk:E.O nk=none)(hop:o.op=.call { callee:=.builtin .append,args:=#[x,y],argTypes:=#[t,t] })(hx:rel E (aG s x) (a.eval x))(hy:rel E (aG s y) (a.eval y))
  (h:rQ P s nk t (aG s x) (aG s y)=some (true,bg)) (happ:jk E s.mem mem' nk bg) (hK:∀E' u,E.le E'->(∀k p,E'.O k=some p->E.O k=some p\/k=nk)->Wd A0 R w0 E' mem'->rel E' bg.v u->K (a.put o.dst u) E'.w):o.wp P a E.w K Q:=by
 unfold rQ at h;split at h
 .rename_i ad c0 hye
  rw[hye]at hy;exact RX hW hnk hop hx (bI.1 hy) h happ hK
 .rename_i sz m el2 hye
  rw[hye]at hy;exact RV hW hnk hop hx hy h happ hK
 .cases hz:isZ s.mem (aG s x)
  .rw[hz]at h
   exact Wo hW hnk hop hx hy h happ hK
  .rw[hz]at h
   exact RY hW hnk hop hx hy h happ hK
theorem R7{t t':TypeId}{x y:Operand}{bg:Eff}(hW:Wd A0 R w0 E s.mem)(hnk:E.O nk=none)(hop:o.op=.call { callee:=.builtin .append,args:=#[x,y],argTypes:=#[t,t'] })(hx:rel E (aG s x) (a.eval x))(hy:rel E (aG s y) (a.eval y))
  (h:rU P s nk t t' (aG s x) (aG s y)=some (true,bg)) (happ:jk E s.mem mem' nk bg) (hK:∀E' u,E.le E'->(∀k p,E'.O k=some p->E.O k=some p\/k=nk)->Wd A0 R w0 E' mem'->rel E' bg.v u->K (a.put o.dst u) E'.w):o.wp P a E.w K Q:=by
 unfold rU at h;split at h
 .rename_i b hye
  rw[hye]at hy;have hyv:=bI.1 hy;split at h
  .rename_i hun'
   split at h
   .rename_i e hun
    split at h
    .rename_i i hi
     split at h
     .rename_i z hz
      split at h
      .rename_i bb k n el hH
       cases hk:((z.cells.size==i.size)&&(afC 0 i.bytes&&(i.size==1)))
       .rw[hk]at h;cases h
       .rw[hk]at h
        simp only[cond_true,jN,EU]at h;obtain⟨hb,rfl⟩:=h;simp only[J8,beq_iff_eq]at hk hb;obtain⟨hzs,hby,hi1⟩:=hk;obtain⟨hb,hm0,hbytes⟩:=hb;have hby:0<i.bytes:=Sr hby;have hm0:0<b.size:=Sr hm0;have hbytes:(n+b.size)*i.bytes<=140737488355328:=Sr hbytes
        have h63:n+b.size<=maxLen:=by
         have:(n+b.size)*1<=(n+b.size)*i.bytes:=ax9 _ hby;simp only[maxLen];omega
        refine DT (m:=b.size) (tl:=λ q=>[.x (.int .u8 (adF b (q - n)))]) (news:=b.data.toList.map (λ b=>aAP .u8 b.toNat)) hW hnk hop hx hH hb (λ xs hown=>by rw[hyv];exact RJ t t' o.type e i z hun hun' hi hz hzs hi1 (a.eval x) n xs hown b _ rfl hm0 h63 hbytes) (λ q hq1 hq2=>⟨hi1.symm,?_⟩) happ hK
        have hlt:q - n<b.data.toList.length:=by
         have:b.data.toList.length=b.size:=rfl;omega
        rw[hi1,ayY,List.drop_eq_getElem_cons (by simpa using hlt)];refine bE.2 ⟨_,_,rfl,?_,pre_nil⟩;rw[List.getElem_map];refine bI.2 ?_;unfold adF;rw[amh,adv hlt];rfl
      .cases h
     .cases h
    .cases h
   .cases h
  .cases h
 .cases h
theorem adQ{t t':TypeId}{x y:Operand}{bg:Eff}(hW:Wd A0 R w0 E s.mem)(hnk:E.O nk=none)(hop:o.op=.call { callee:=.builtin .append,args:=#[x,y],argTypes:=#[t,t'] })(hx:rel E (aG s x) (a.eval x))(hy:rel E (aG s y) (a.eval y))
  (h:vN P s nk t t' (aG s x) (aG s y)=some (true,bg)) (happ:jk E s.mem mem' nk bg) (hK:∀E' u,E.le E'->(∀k p,E'.O k=some p->E.O k=some p\/k=nk)->Wd A0 R w0 E' mem'->rel E' bg.v u->K (a.put o.dst u) E'.w):o.wp P a E.w K Q:=by
 unfold vN at h;cases hk:t==t'
 .rw[hk]at h
  exact R7 hW hnk hop hx hy h happ hK
 .rw[hk]at h
  have e1:=eq_of_beq hk;subst e1;exact RZ hW hnk hop hx hy h happ hK
theorem aa3{t:TypeId}{x:Operand}{bg:Eff}(hW:Wd A0 R w0 E s.mem)(hnk:E.O nk=none)(hop:o.op=.range t x)(hx:rel E (aG s x) (a.eval x))
  (h:OW P nk t (aG s x)=some (true,bg)) (happ:jk E s.mem mem' nk bg) (hK:∀E' u,E.le E'->(∀k p,E'.O k=some p->E.O k=some p\/k=nk)->Wd A0 R w0 E' mem'->rel E' bg.v u->K (a.put o.dst u) E'.w):o.wp P a E.w K Q:=by
 unfold OW at h;split at h
 .rename_i hu
  split at h
  .rename_i st hst
   simp only[jN,EU,true_and]at h;subst h;rw[hst]at hx;have hv:=bI.1 hx;have hg:E.w.grownBy (E.w.iter st 0) (some E.w.heap.size):=azx _ _ _;have hle:E.le (E.row (E.w.iter st 0) nk E.w.heap.size (0,0)):=Env.kN hg (aaH (ao5 _)) (ER hnk)
   have hWd:Wd A0 R w0 (E.row (E.w.iter st 0) nk E.w.heap.size (0,0)) mem':=by
    refine hW.row hg (by simp[World.iter]) (aaH hW.below.size) (aaH (ao5 _)) (ER hnk) (happ.2 _ rfl) ?_ ⟨World.iter_heap E.w st 0,rfl⟩;intro k hk b c hb;refine ER ⟨happ.1 k hk b c hb,λ hl=>?_⟩;have:=hW.small b (hW.own k b c hb hl).1;omega
   have hrun:=run_range_string (P:=P) E.w t st hu;unfold azC execOp;simp only[hop,hv,YC,hrun,xU,abP,ayS];exact hK _ _ hle Env.MJ hWd (jh.2 ⟨E.w.heap.size,(0,0),by simp[Env.row],rfl⟩)
  .cases h
 .cases h
theorem R8{P:Program}{w:World}{b:Nat}{st:ByteArray}{p:Nat}(ty:TypeId)(hb:w.heap[b]?=some (.stringIter st p))(hp:p<st.size) :
  (aCm (.pointer (some ⟨b,0,none⟩)) true ty).run P w=.ok (.tuple #[.bool true,.int .i64 (p:Nat),.int .i32 ((aAX st p).1:Nat)]) { w with heap:=w.heap.setIfInBounds b (.stringIter st (p+(aAX st p).2)) }:=by
 simp only[aCm,getObj,setObj,YC,Sem.run,hb,Result.andThen,hp,if_true];simp[goInt]
theorem OZ{P:Program}{w:World}{b:Nat}{st:ByteArray}{p:Nat}(ty:TypeId)(hb:w.heap[b]?=some (.stringIter st p))(hp:¬p<st.size) :
  (aCm (.pointer (some ⟨b,0,none⟩)) true ty).run P w=.ok (.tuple #[.bool false]) w:=by
 simp[aCm,getObj,Sem.run,hb,hp]
theorem adR{it:Operand}{bg:Eff}(hW:Wd A0 R w0 E s.mem)(hnk:E.O nk=none)(hop:o.op=.next it true)(hx:rel E (aG s it) (a.eval it))
  (h:MI s (aG s it)=some (true,bg)) (happ:jk E s.mem mem' nk bg) (hK:∀E' u,E.le E'->(∀k p,E'.O k=some p->E.O k=some p\/k=nk)->Wd A0 R w0 E' mem'->rel E' bg.v u->K (a.put o.dst u) E'.w):o.wp P a E.w K Q:=by
 unfold MI at h;split at h
 .rename_i k hit
  rw[hit]at hx;obtain⟨b,c,hO,hv⟩:=jh.1 hx;obtain⟨row,hr,hrr⟩:=hW.rows k b c hO;have hne:k≠nk:=λ e=>by rw[e,hnk]at hO;cases hO
  split at h
  .rename_i st p hmk
   simp only[jN,EU,true_and]at h;subst h;rw[hmk]at hr;cases hr;obtain⟨hb,he⟩:=hrr;have hp:p<st.size:=Nat.lt_of_not_le λ hc=>by rw[ah4 hc]at he;cases he
   have hl:aK s.mem k=true:=by unfold aK;rw[hmk];rfl
   obtain⟨hA,hR⟩:=hW.own k b c hO hl;have hlt:=(ayR.1 hb).1;let w1:World:={ E.w with heap:=E.w.heap.setIfInBounds b (.stringIter st (p+(aAX st p).2)) }
   have hg:E.w.grownBy w1 (some b):=⟨rfl,rfl,rfl,by simp[w1],λ j _ hj=>by
    show(E.w.heap.setIfInBounds b _)[j]?=_;rw[Array.getElem?_setIfInBounds_ne (λ e=>hj (by rw[e]))]⟩
   have hle:E.le (E.row w1 k b c):=Env.kN hg (ER hA) (aaH hO)
   have hWd:Wd A0 R w0 (E.row w1 k b c) mem':=by
    refine hW.row hg (by simpa[w1]using hlt) hR (ER hA) (aaH hO) (VT:=.i st (p+(dcX st p).2) (aqE st.size (p+(dcX st p).2))) (by rw[happ.1 k hne b c hO];simp) ?_ ⟨by
     show(E.w.heap.setIfInBounds b _)[b]?=_;rw[Array.getElem?_setIfInBounds_self_of_lt hlt,VZ],rfl⟩
    intro j hj b' c' hb';have hjn:j≠nk:=λ e=>by rw[e,hnk]at hb';cases hb'
    refine ER ⟨by rw[happ.1 j hjn b' c' hb'];simp[hj],λ hlj e=>hj ?_⟩;subst e;exact hW.one j k b' c' c hb' hO hlj hl
   have hrun:=R8 (P:=P) o.type hb hp;unfold azC execOp;simp only[hop,hv,YC,hrun,xU,abP,ayS];refine hK _ _ hle (Env.rX hO) hWd (nI.2 ⟨_,rfl,?_⟩);rw[VZ];exact aH.2 ⟨_,_,rfl,bI.2 rfl,aH.2 ⟨_,_,rfl,bI.2 rfl,aH.2 ⟨_,_,rfl,bI.2 rfl,bK.2 rfl⟩⟩⟩
  .rename_i st p hmk
   simp only[jN,EU,true_and]at h;subst h;rw[hmk]at hr;cases hr;obtain⟨hb,he⟩:=hrr;have hp:¬p<st.size:=Nat.not_lt.2 (Sr he.symm)
   have hWd:Wd A0 R w0 E mem':=by
    refine⟨λ j b' c' hb'=>?_,hW.small,hW.old,λ j b' c' hb' hl=>?_,λ j j' b' c' c'' hb' aiq hl hl'=>?_,hW.below,hW.CY⟩
    .obtain⟨row,h1,h2⟩:=hW.rows j b' c' hb'
     exact⟨row,by rw[happ.1 j (λ e=>by rw[e,hnk]at hb';cases hb') b' c' hb'];exact h1,h2⟩
    .refine hW.own j b' c' hb' ?_
     unfold aK at hl ⊢;rw[happ.1 j (λ e=>by rw[e,hnk]at hb';cases hb') b' c' hb']at hl;exact hl
    .refine hW.one j j' b' c' c'' hb' aiq ?_ ?_
     .unfold aK at hl ⊢
      rw[happ.1 j (λ e=>by rw[e,hnk]at hb';cases hb') b' c' hb']at hl;exact hl
     .unfold aK at hl' ⊢
      rw[happ.1 j' (λ e=>by rw[e,hnk]at aiq;cases aiq) b' c'' aiq]at hl';exact hl'
   have hrun:=OZ (P:=P) o.type hb hp;unfold azC execOp;simp only[hop,hv,YC,hrun,xU,abP,ayS];exact hK _ _ (Env.le.refl _) (λ k p h=>ER h) hWd (nI.2 ⟨_,rfl,aH.2 ⟨_,_,rfl,bI.2 rfl,bK.2 rfl⟩⟩)
  .cases h
 .cases h
theorem Jk{T:Tab}{bg:Eff}(hT:Ao P T)(hg:vC E)(hW:Wd A0 R w0 E s.mem)(hnk:E.O nk=none)(hρ:∀y,y∈o.op.operands->rel E (aG s y) (a.eval y))
  (h:VH P T s nk o=some (true,bg)) (happ:jk E s.mem mem' nk bg) (hK:∀E' u,E.le E'->(∀k p,E'.O k=some p->E.O k=some p\/k=nk)->Wd A0 R w0 E' mem'->rel E' bg.v u->K (a.put o.dst u) E'.w):o.wp P a E.w K Q:=by
 unfold VH at h;split at h
 .rename_i t x hop
  cases hk:rV (aG s x)
  .rw[hk]at h;cases h
  .rw[hk]at h
   simp only[cond_true,jN,EU,true_and]at h;subst h;have hx:=hρ x (by rw[hop];simp[aeG]);obtain⟨E',e1,e2,eO,e3,e4⟩:=adJ hW hnk happ t (Fx hx hk);unfold azC execOp;simp only[hop,Instr.box,newVar,newRow,YC,run_newObj,xU,abP,ayS];have:=hK E' _ e2 eO e3 e4;rw[e1]at this;exact this
 .rename_i t hop
  split at h
  .rename_i z hz
   split at h
   .simp only[jN,EU,true_and]at h
    subst h;obtain⟨E',e1,e2,eO,e3,e4⟩:=amL hW hnk t happ (oV E z.cells.toList);have hzr:=dH E.w hz;unfold azC execOp;simp only[hop,aEA,newVar,newRow,YC,hzr,run_newObj,xU,abP,ayS];have:=hK E' _ e2 eO e3 e4;rw[e1]at this;exact this
   .simp only[jN,EU,true_and]at h
    subst h;obtain⟨E',e1,e2,eO,e3,e4⟩:=adJ hW hnk happ t (oV E z.cells.toList);have hzr:=dH E.w hz;unfold azC execOp;simp only[hop,aEA,newVar,newRow,YC,hzr,run_newObj,xU,abP,ayS];have:=hK E' _ e2 eO e3 e4;rw[e1]at this;exact this
  .cases h
 .rename_i t len ps hop
  split at h
  .exact Wj hW hnk hop (λ y hy=>hρ y (by rw[hop];simpa[aeG]using hy)) h happ hK
  .exact Wm hW hnk hop (λ y hy=>hρ y (by rw[hop];simpa[aeG]using hy)) h happ hK
 .rename_i t l c hop
  exact adL hW hnk hop (hρ l (by rw[hop];simp[aeG])) (hρ c (by rw[hop];simp[aeG])) h happ hK
 .rename_i t p x hop
  cases hd:o.dst with
  |some d=>rw[hd]at h;cases h
  |none =>
   rw[hd]at h;exact aa1 hW hnk hop hd (hρ p (by rw[hop];simp[aeG])) (hρ x (by rw[hop];simp[aeG])) h happ hK
 .rename_i src dst x hop
  exact adO hW hnk hop (hρ x (by rw[hop];simp[aeG])) h happ hK
 .rename_i t x hop
  exact aa3 hW hnk hop (hρ x (by rw[hop];simp[aeG])) h happ hK
 .rename_i it bb hop
  cases bb with
  |false=>cases h
  |true=>exact adR hW hnk hop (hρ it (by rw[hop];simp[aeG])) h happ hK
 .rename_i c hop
  obtain⟨callee,args,argTypes⟩:=c;simp only at h;split at h
  .split at h
   .rename_i x y t t' hargs hty
    have ha:∃x' y',args=#[x',y']/\aG s x'=x/\aG s y'=y:=by
     obtain⟨l⟩:=args;simp only at hargs
     match l,hargs with
     | [x',y'],hargs=>simp at hargs;exact⟨x',y',rfl,hargs.1,hargs.2⟩
    obtain⟨x',y',rfl,rfl,rfl⟩:=ha;have ht:argTypes=#[t,t']:=by cases argTypes;simpa using hty
    subst ht;exact adQ hW hnk hop (hρ x' (by rw[hop];simp[aeG,ayu])) (hρ y' (by rw[hop];simp[aeG,ayu])) h happ hK
   .cases h
  .split at h
   .rename_i x y t t' hargs hty
    cases hk:t==t'
    .rw[hk]at h;cases h
    .rw[hk]at h
     have e1:=eq_of_beq hk;subst e1;simp only[cond_true]at h
     have ha:∃x' y',args=#[x',y']/\aG s x'=x/\aG s y'=y:=by
      obtain⟨l⟩:=args;simp only at hargs
      match l,hargs with
      | [x',y'],hargs=>simp at hargs;exact⟨x',y',rfl,hargs.1,hargs.2⟩
     obtain⟨x',y',rfl,rfl,rfl⟩:=ha;have ht:argTypes=#[t,t]:=by cases argTypes;simpa using hty
     subst ht;exact adM hW hnk hop (hρ x' (by rw[hop];simp[aeG,ayu])) (hρ y' (by rw[hop];simp[aeG,ayu])) h happ hK
   .cases h
  .rename_i f
   cases hTr:T.r f with
   |some g =>
    simp only[hTr]at h;unfold VX at h;split at h
    .rename_i b v rd hge
     cases hno:nH v
     .rw[hno]at h;cases h
     .rw[hno]at h
      simp only[cond_true,jN,EU]at h;obtain⟨rfl,rfl⟩:=h;obtain⟨⟨fn,h1,h2,h3⟩,hs⟩:=(hT.2.2.2.2 f g hTr).2 _ _ _ _ hge
      have hr:dB E (args.toList.map (aG s)) (args.map a.eval).toList:=by
       have:=lS (E:=E) (s:=s) (ρ:=a.eval) (ys:=args.toList) (λ y hy=>hρ y (by rw[hop];simp[aeG,ayu];exact aaH (by simpa using hy)));simpa using this
      have hc:=hs A0 R w0 E s.mem (args.map a.eval) hW (λ _ _=>rfl) hg hr;unfold azC;have hf:a.eval (.func f)=.func (.func f) #[] #[]:=rfl
      have hrun:(execOp a.eval o).run P E.w=.ok (.enter f (args.map a.eval)) E.w:=by
       unfold execOp;simp only[hop,resolve,hf,Deferred.ofValue,YC,abP,xU,invoke,callFunc,run_program,h1,h2,h3,azF,azd,ayX,if_false]
      rw[hrun]
      exact hc.mono λ e w'' ⟨u,he,hu,hbel⟩=>by
       subst he;obtain⟨hw1,hw2⟩:=hW.on hbel;have same:∀k b c,E.O k=some (b,c)->mem'[k]?=s.mem[k]?:=λ k b c hb=>happ.1 k (λ e=>by rw[e,hnk]at hb;cases hb) b c hb;have live:∀k b c,E.O k=some (b,c)->aK mem' k=aK s.mem k:=λ k b c hb=>by unfold aK;rw[same k b c hb]
       exact hK { E with w:=w'' } u hw2 (λ _ _ h=>ER h) ⟨λ k b c hb=>by rw[same k b c hb];exact hw1.rows k b c hb,hw1.small,hw1.old,λ k b c hb hl=>hw1.own k b c hb (by rw[<-live k b c hb];exact hl),λ k k' b c c' hb hb' hl hl'=>hw1.one k k' b c c' hb hb' (by rw[<-live k b c hb];exact hl) (by rw[<-live k' b c' hb'];exact hl'),hw1.below,hw1.CY⟩ hu
    .cases h
   |none =>
   simp only[hTr]at h;unfold OV at h;split at h
   .rename_i g hgm
    split at h
    .rename_i b OO hge
     cases hrd:OO.rd==uh (args.toList.map (aG s))
     .rw[hrd]at h;cases h
     .rw[hrd]at h
      simp only[cond_true,jN,EU]at h;obtain⟨rfl,rfl⟩:=h;obtain⟨⟨fn,h1,h2,h3⟩,hs⟩:=(hT.2.1 f g hgm).1 _ _ _ _ hge (eq_of_beq hrd)
      have hr:dB E (args.toList.map (aG s)) (args.map a.eval).toList:=by
       have:=lS (E:=E) (s:=s) (ρ:=a.eval) (ys:=args.toList) (λ y hy=>hρ y (by rw[hop];simp[aeG,ayu];exact aaH (by simpa using hy)));simpa using this
      have hc:=hs A0 R w0 E mem' (args.map a.eval) hW hnk hg hr happ;unfold azC;have hf:a.eval (.func f)=.func (.func f) #[] #[]:=rfl
      have hrun:(execOp a.eval o).run P E.w=.ok (.enter f (args.map a.eval)) E.w:=by
       unfold execOp;simp only[hop,resolve,hf,Deferred.ofValue,YC,abP,xU,invoke,callFunc,run_program,h1,h2,h3,azF,azd,ayX,if_false]
      rw[hrun]
      exact hc.mono λ e w'' ⟨u,E',he,hw,hle,hO,hWd,hu⟩=>by
       subst he;have:=hK E' u hle hO hWd hu;rw[hw]at this;exact this
    .cases h
   .cases h
  .cases h
 .cases h
end
end
noncomputable section
def adS:Option Row->Nat->List AV
 |some (.a _ _ _ el)=>el
 |some (.z _ _ _ _ el)=>el
 |_=>λ _=>[]
mutual
def pW(mem:List Row):AV->AV
 |.fJ k sz st len=>.sl sz len λ i=>adS mem[k]? (st+i)
 |.view k sz st sub len=>match mem[k]? with
  |some (.c l)=>.sl sz len λ i=>(l.drop (st*sz+sub+i*sz)).take sz
  |r=>.sl sz len λ i=>adS r (st+i)
 |.agg l=>.agg (Jm mem l)
 |x=>x
def Jm(mem:List Row):List AV->List AV
 | []=>[]
 |x::xs=>pW mem x::Jm mem xs
end
mutual
def BI(mem:List Row):AV->Bool
 |.fJ k sz st len=>match mem[k]? with
  |some (.a _ sz' n _)=>ax0 sz sz'&&aqE (st+len) n
  |some (.z _ _ sz' n _)=>ax0 sz sz'&&aqE (st+len) n
  |_=>false
 |.view k sz st sub len=>match mem[k]? with
  |some (.a _ sz' n _)=>ax0 sz sz'&&(ax0 sub 0&&aqE (st+len) n)
  |some (.c l)=>bZ l&&aqE (st*sz+sub+len*sz) l.length
  |_=>false
 |.agg l=>Jl mem l
 |.x _=>true
 |.f _=>true
 |.cx _ _=>true
 |.sl _ _ _=>true
 |.ref _ _=>true
 |.any=>true
 |_=>false
def Jl(mem:List Row):List AV->Bool
 | []=>true
 |x::xs=>BI mem x&&Jl mem xs
end
def Env.shut(E:Env):Env:=⟨E.w,λ _=>False,λ _=>none⟩
theorem DV(E:Env):E.fz.le E.shut.fz:=⟨λ _ _ _ LJ=>⟨id,LJ⟩,λ _ _ h=>by cases h⟩
theorem R9{E:Env}{mem:List Row}(hm:uM E mem){k b:Nat}{c n:Nat}(hO:E.O k=some (b,c,n)){e:TypeId}{sz n':Nat}{el:Nat->List AV}(hk:mem[k]?=some (.a e sz n' el)) :
  ∃cs,E.w.heap[b]?=some (.cells cs e (0,0))/\n=n'/\∀i,i<n'->(el i).length=sz/\pre E.shut.fz (el i) (cs.toList.drop (i*sz)):=by
 obtain⟨row,g1,g2⟩:=hm k b (c,n) hO;rw[hk]at g1;cases g1;obtain⟨cs,h3,_,h5,_,_,h8⟩:=g2;exact⟨cs,h3,h5,λ i hi=>⟨(h8 i hi).1,o9 (el i) (DV E) _ (h8 i hi).2⟩⟩
mutual
theorem adT:∀(x:AV) {E:Env} {mem:List Row} {u:Value},uM E mem->BI mem x=true->bN x E u->bN (pW mem x) E.shut u
 |.fJ k sz st len,E,mem,u,hm,hb,hr=>by
  rw[BI]at hb;split at hb
  .rename_i e sz' n' el hk
   simp only[J8]at hb;have hsz:=axO hb.1;have hle:=Sr hb.2;subst hsz;have e1:pW mem (.fJ k sz st len)=.sl sz len λ i=>el (st+i):=by simp only[pW,hk,adS]
   rw[e1];rcases fM.1 hr with⟨_,h2,rfl⟩ | ⟨b,c,n,hO,h1,h2,rfl⟩
   .exact iM.2 ⟨none,0,by rw[h2],by omega,ER h2⟩
   .obtain⟨cs,h3,h4,h5⟩:=R9 hm hO hk
    refine iM.2 ⟨_,_,rfl,by omega,aaH ⟨b,st*sz,cs,e,(0,0),rfl,id,h3,λ i hi=>?_⟩⟩;obtain⟨h6,h7⟩:=h5 (st+i) (by omega);refine⟨h6,?_⟩;rw[<-asM];exact h7
  .rename_i e sz' n' el hk
   simp only[J8]at hb;have hsz:=axO hb.1;have hle:=Sr hb.2;subst hsz;have e1:pW mem (.fJ k sz st len)=.sl sz len λ i=>el (st+i):=by simp only[pW,hk,adS]
   rw[e1];rcases fM.1 hr with⟨_,h2,rfl⟩ | ⟨b,c,n,hO,h1,h2,rfl⟩
   .exact iM.2 ⟨none,0,by rw[h2],by omega,ER h2⟩
   .obtain⟨row,g1,g2⟩:=hm k b (c,n) hO
    rw[hk]at g1;cases g1;obtain⟨cs,fz,h3,h4,_,h5⟩:=g2;refine iM.2 ⟨_,_,rfl,by omega,aaH ⟨b,st*sz,cs,e,fz,rfl,id,h3,λ i hi=>?_⟩⟩;obtain⟨h6,h7⟩:=h5 (st+i) (by omega);refine⟨h6,?_⟩;rw[<-asM];exact o9 (el (st+i)) (DV E) _ h7
  .cases hb
 |.view k sz st sub len,E,mem,u,hm,hb,hr=>by
  rw[BI]at hb;split at hb
  .rename_i e sz' n' el hk
   simp only[J8]at hb;have hsz:=axO hb.1;have hsub:=axO hb.2.1;have hle:=Sr hb.2.2;subst hsz;subst hsub;have e1:pW mem (.view k sz st 0 len)=.sl sz len λ i=>el (st+i):=by simp only[pW,hk,adS]
   rw[e1];unfold bN at hr;obtain⟨a,c,rfl,h2,h3⟩:=hr;rcases h3 with h3 | ⟨b,⟨c',n⟩,hO,rfl⟩
   .exact iM.2 ⟨_,_,rfl,h2,ER h3⟩
   .obtain⟨cs,h3,h4,h5⟩:=R9 hm hO hk
    refine iM.2 ⟨_,_,rfl,h2,aaH ⟨b,st*sz+0,cs,e,(0,0),rfl,id,h3,λ i hi=>?_⟩⟩;obtain⟨h6,h7⟩:=h5 (st+i) (by omega);refine⟨h6,?_⟩;rw[ayO,<-asM];exact h7
  .rename_i l hk
   simp only[J8]at hb;obtain⟨hno,hle⟩:=hb;have hle:=Sr hle;have e1:pW mem (.view k sz st sub len)=.sl sz len λ i=>(l.drop (st*sz+sub+i*sz)).take sz:=by simp only[pW,hk]
   rw[e1];unfold bN at hr;obtain⟨a,c,rfl,h2,h3⟩:=hr;rcases h3 with h3 | ⟨b,⟨c',n⟩,hO,rfl⟩
   .exact iM.2 ⟨_,_,rfl,h2,ER h3⟩
   .obtain⟨row,g1,g2⟩:=hm k b (c',n) hO
    rw[hk]at g1;cases g1;obtain⟨cs,e,h4,h5⟩:=g2;refine iM.2 ⟨_,_,rfl,h2,aaH ⟨b,st*sz+sub,cs,e,(0,0),rfl,id,h4,λ i hi=>?_⟩⟩;have hi':(i+1)*sz<=len*sz:=agT _ hi;rw[asM]at hi';have hps:=l9 (st*sz+sub+i*sz) sz h5 (by omega);refine⟨by simp;omega,?_⟩;refine kg (E:=E.fz) (DV E) (gX (dV (Ar hps (Gw hno))) λ r hr=>?_)
    have hr:r<sz:=by
     have:((l.drop (st*sz+sub+i*sz)).take sz).length<=sz:=by simp;omega
     omega
    rw[axq,if_pos hr]
  .cases hb
 |.agg l,E,mem,u,hm,hb,hr=>by
  rw[BI]at hb;rw[pW];rw[bN]at hr ⊢;obtain⟨vs,h1,h2⟩:=hr;exact⟨vs,h1,Fq l hm hb h2⟩
 |.x _,_,_,_,_,_,hr=>by simp only[pW];unfold bN at *;exact hr
 |.f _,_,_,_,_,_,hr=>by simp only[pW];unfold bN at *;exact hr
 |.cx _ _,_,_,_,_,_,hr=>by simp only[pW];unfold bN at *;exact hr
 |.any,_,_,_,_,_,_=>by simp only[pW];unfold bN;trivial
 |.sl sz n el,E,_,u,_,_,hr=>by
  simp only[pW];unfold bN at *;obtain⟨a,c,h1,h2,h3⟩:=hr;refine⟨a,c,h1,h2,?_⟩;rcases h3 with h3 | ⟨b,o,cs,e,fz,h4,_,h6,h7⟩
  .exact ER h3
  .exact aaH ⟨b,o,cs,e,fz,h4,id,h6,λ i hi=>⟨(h7 i hi).1,o9 (el i) (DV E) _ (h7 i hi).2⟩⟩
 |.ref l off,E,_,u,_,_,hr=>by
  simp only[pW];unfold bN at *;obtain⟨b,o,cs,e,fz,h1,_,h3,h4⟩:=hr;exact⟨b,o,cs,e,fz,h1,id,h3,o9 l (DV E) _ h4⟩
 |.own _ _,_,_,_,_,hb,_=>by simp[BI]at hb
 |.pR _ _ _ _,_,_,_,_,hb,_=>by simp[BI]at hb
 |.aN _,_,_,_,_,hb,_=>by simp[BI]at hb
 |.sW _ _,_,_,_,_,hb,_=>by simp[BI]at hb
 |.fn _ _ _,_,_,_,_,hb,_=>by simp[BI]at hb
theorem Fq:∀(xs:List AV) {E:Env} {mem:List Row} {us:List Value},uM E mem->Jl mem xs=true->gU xs E us->gU (Jm mem xs) E.shut us
 | [],_,_,us,_,_,hr=>by rw[Jm];cases us<;>simp[gU]at hr ⊢
 |x::xs,E,mem,u::us,hm,hb,hr=>by
  rw[Jl]at hb;simp only[J8]at hb;rw[Jm];rw[gU]at hr ⊢;exact⟨adT x hm hb.1 hr.1,Fq xs hm hb.2 hr.2⟩
 |_::_,_,_,[],_,_,hr=>by simp[gU]at hr
end
mutual
def lC:AV->Bool
 |.x _=>true
 |.f _=>true
 |.cx _ _=>true
 |.agg l=>JC l
 |.aN l=>JC l
 |_=>false
def JC:List AV->Bool
 | []=>true
 |x::xs=>lC x&&JC xs
end
mutual
theorem Fu:∀(x:AV) {E E':Env} {u:Value},lC x=true->bN x E u->bN x E' u
 |.x _,_,_,_,_,hr=>by unfold bN at *;exact hr
 |.f _,_,_,_,_,hr=>by unfold bN at *;exact hr
 |.cx _ _,_,_,_,_,hr=>by unfold bN at *;exact hr
 |.agg l,_,_,_,hp,hr=>by
  rw[lC]at hp;rw[bN]at hr ⊢;obtain⟨vs,h1,h2⟩:=hr;exact⟨vs,h1,Cn l hp h2⟩
 |.aN l,_,_,_,hp,hr=>by
  rw[lC]at hp;rw[bN]at hr ⊢;obtain⟨vs,h1,h2⟩:=hr;exact⟨vs,h1,Cn l hp h2⟩
 |.own _ _,_,_,_,hp,_=>by simp[lC]at hp
 |.pR _ _ _ _,_,_,_,hp,_=>by simp[lC]at hp
 |.fJ _ _ _ _,_,_,_,hp,_=>by simp[lC]at hp
 |.view _ _ _ _ _,_,_,_,hp,_=>by simp[lC]at hp
 |.ref _ _,_,_,_,hp,_=>by simp[lC]at hp
 |.sl _ _ _,_,_,_,hp,_=>by simp[lC]at hp
 |.sW _ _,_,_,_,hp,_=>by simp[lC]at hp
 |.fn _ _ _,_,_,_,hp,_=>by simp[lC]at hp
 |.any,_,_,_,hp,_=>by simp[lC]at hp
theorem Cn:∀(xs:List AV) {E E':Env} {us:List Value},JC xs=true->gU xs E us->gU xs E' us
 | [],_,_,us,_,hr=>by cases us<;>simp[gU]at hr ⊢
 |x::xs,_,_,u::us,hp,hr=>by
  rw[JC]at hp;simp only[J8]at hp;rw[gU]at hr ⊢;exact⟨Fu x hp.1 hr.1,Cn xs hp.2 hr.2⟩
 |_::_,_,_,[],_,hr=>by simp[gU]at hr
end
def iY(p:Prop):Bool:=@decide p (aAD p)
theorem fH{p:Prop}(h:p):iY p=true:=by unfold iY;exact @decide_eq_true p (aAD p) h
theorem adU{p:Prop}(h:iY p=true):p:=by unfold iY at h;exact @of_decide_eq_true p (aAD p) h
end
end Go.Gv
