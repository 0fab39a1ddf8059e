/- Texts, one behind the other. -/
import Derived.Test.YtdlhemnconimnaaGreatC2
import Derived.Laws.RangeString
import Derived.LoopN
import Derived.Scope
open Array renaming append_empty->aHH,empty_append->aHa,getD_eq_getD_getElem?->aGZ,getElem?_eq_getElem->ayT,getElem?_eq_some_iff->aHP,getElem?_modify->aJG,getElem?_toList->aIh,length_toList->aJ4,range->aL7,replicate->aHB,size_append->aMB,toList_append->aI7,toList_eq_nil_iff->aIG
open Bool renaming and_eq_true->CX,false_eq_true->aFs
open Classical renaming byContradiction->aOB,propDecidable->aI9
open Go.Builtin renaming append_->aIT
open Go.Call renaming operands->apS
open Go.Code renaming rounds->aOd,wp_mono->aza
open Go.Deferred renaming ofValue->aHu
open Go.Instr renaming alloc->aNU,buildSlice->aIo,storeAt->aNu,sureAddr->aJp
open Go.Op renaming operands->Uh
open Go.Oper renaming upon_value->aIb,wp->aIl
open Go.Region renaming wanted->aHE
open Go.Result renaming andThen_ok->uT,ok->aOe
open Go.Sem renaming run_bind->QJ,run_ite->aLq,run_pure->aax
open Go.World renaming freeze->aIL,grownBy_alloc->aIw,ownsRow_nil->aMC,setRow->aJF,shape?->aNI
open List renaming all_cons->aIk,all_eq_true->ab3,append_assoc->aHN,getD_eq_getElem?_getD->Gd,getElem?_append_left->aiK,getElem?_append_right->aqb,getElem?_drop->anb,getElem?_eq_getElem->Ga,getElem?_eq_none->apa,getElem?_eq_some_iff->abK,getElem?_map->aG1,getElem?_set->aKM,getElem?_take->aCo,getElem_mem->aJk,length_append->aiR,length_drop->aIv,length_take->aFk,map_cons->aKE,map_nil->aK0,map_toArray->aJW,mem_iff_getElem?->aG7,mem_of_getElem?->ajw,size_toArray->aIJ,take_left->aK7
open Nat renaming add_assoc->aIW,add_mul->auK,add_zero->aIA,beq->amH,ble->apB,ble_eq_true_of_le->agl,blt->Tv,div_add_mod->aEO,div_lt_iff_lt_mul->aHr,eq_of_beq_eq_true->aiL,le_of_ble_eq_true->Ou,le_of_not_lt->aIE,le_refl->ND,le_trans->aa2,lt_irrefl->aJj,lt_of_lt_of_le->anS,mod_lt->aHY,mul_comm->aEw,mul_le_mul_left->apL,mul_le_mul_right->ahL,pos_of_ne_zero->aJi,zero_add->ZO
open Option renaming isNone_iff_eq_none->aKN,map_some->aaF
open Option.some renaming injEq->gU
open Or renaming inl->wV,inr->Gc
open Prod.mk renaming injEq->Ew
namespace Go.Gv
open Go.RowKit Go.Ev
noncomputable section
theorem Ic{E:Env}{b:Bool}{v:Value}(h:rel E (.x (.bool b)) v):v=.bool b:=cB.1 h
def trp(F:List (AV × Chain))(p:Nat × Bool):Bool :=
 match(F.getD p.1 dflt).1 with
 |.x (.bool b)=>b==p.2
 |_=>false
def tF(F:List (AV × Chain))(c:Chain):Bool:=c.all (trp F)
def AB(E:Env)(F s:List (AV × Chain))(d:Array Value):Prop :=(d.size=s.length/\xk E)/\∀t,(tF F (s.getD t dflt).2=true->rel E (s.getD t dflt).1 (d.getD t undef))/\(tF F (s.getD t dflt).2=false->d.getD t undef=undef)
def je (ops:List Oper) (slots:List (AV × Chain)) (o:Oper):Option Chain :=
  match o.guard with
  |none=>some []
  |some (j,want)=>match ops[j]? with
    |some e=>match e.dst with
      |some d=>match(slots.getD d dflt).1 with
        |.x (.bool _)=>some ((d,want)::(slots.getD d dflt).2)
        |_=>none
      |none=>none
    |none=>none
def jB(slots:List (AV × Chain))(c:Chain):Operand->Bool
 |.tmp t=>(slots.getD t dflt).2.all (λ p=>c.contains p)
 |_=>true
def yH (P:Program) (T:Tab) (ops:List Oper) (s:St) (o:Oper):Option (Bool × Chain × AV) :=
  match je ops s.slots o with
  |none=>none
  |some c=>match o.op with
    |.pick (.tmp g) x y =>
      cond (jB s.slots c (.tmp g)&&(jB s.slots ((g,true)::c) x&&jB s.slots ((g,false)::c) y))
        (match aI s (.tmp g),aI s x,aI s y with
        |.x (.bool b),.x (.bool p),.x (.bool q)=>some (true,c,.x (.bool (cond b p q)))
        |_,_,_=>none) none
    |_=>cond (o.op.operands.toList.all (jB s.slots c)) (match QO P T s o with
        |some (b,v)=>some (b,c,v)
        |none=>none) none
def mU(ops:List Oper)(o:Oper):List Nat :=
 (match o.guard with
 |none=>[]
 |some (j,_)=>match ops[j]? with
  |some d=>d.dst.toList
  |none=>[]) ++
 (match o.op with
 |.pick (.tmp g) _ _=>[g]
 |_=>[])
theorem PE(F:List (AV × Chain))(p:Nat × Bool)(c:Chain):tF F (p::c)=(trp F p&&tF F c):=by simp[tF]
theorem asZ{F:List (AV × Chain)}{c d:Chain}(h:(c.all λ p=>d.contains p)=true)(f:tF F d=true):tF F c=true:=by unfold tF at *;rw[ab3]at *;intro p e;exact f p (by have:=h p e;simpa using this)
theorem jF{E:Env}{F:List (AV × Chain)}{s:St}{a:Act}{c:Chain}(d:AB E F s.slots a.tmps)(i:tF F c=true)(y:Operand)(e:jB s.slots c y=true):rel E (aI s y) (a.eval y):=by
 cases y with
 |tmp t=>exact(d.2 t).1 (asZ e i)
 |const v=>exact X7 E v
 |global g =>
  show rel E (match known g with |some l=>AV.ref l 0 |none=>.any) _
  cases h:known g with
  |none=>exact tQ
  |some l=>exact(d.1.2 g l h).1
 |func f=>exact Ot.2 ⟨#[],#[],rfl,bR.2 rfl,bR.2 rfl⟩
theorem ah8{e:Array Value}{d:Nat}{b:Bool}(h:e.getD d undef=.bool b):e[d]?=some (.bool b):=by
 rw[aGZ]at h;cases f:e[d]? with
 |none=>rw[f]at h;simp[undef]at h
 |some v=>rw[f]at h;simp at h;rw[h]
theorem adg{e:Array Value}{d:Nat}(h:e.getD d undef=undef):e[d]?=none\/e[d]?=some undef:=by
 rw[aGZ]at h;cases f:e[d]? with
 |none=>exact wV rfl
 |some v=>rw[f]at h;simp at h;rw[h];exact Gc rfl
theorem j6{E:Env}{F s:List (AV × Chain)}{a:Act}{ops:Array Oper}{o:Oper}{c:Chain}(i:AB E F s a.tmps)
  (r:∀t,t∈mU ops.toList o->(F.getD t dflt).1=(s.getD t dflt).1) (h:je ops.toList s o=some c):aHE o (yielded ops a.tmps)=tF F c:=by
 unfold je at h;unfold aHE;cases q:o.guard with
 |none=>simp only[q,gU]at h;subst h;rfl
 |some gw =>
  obtain⟨j,f⟩:=gw;simp only[q]at h ⊢;cases p:ops.toList[j]? with
  |none=>simp[p]at h
  |some oj =>
   simp only[p]at h;cases l:oj.dst with
   |none=>simp[l]at h
   |some d =>
    simp only[l]at h;have g:ops[j]?=some oj:=by simpa using p
    have k:=r d (by simp[mU,q,g,l]);split at h
    .rename_i b w;simp only[gU]at h;subst h;rw[PE]
     have x:yielded ops a.tmps j=match a.tmps[d]? with |some (.bool b)=>some b |_=>none:=by unfold yielded;simp[g,l];rfl
     rw[x];cases u:tF F (s.getD d dflt).2
     .have:=(i.2 d).2 u;rcases adg this with e |e<;>rw[e]<;>simp[undef]
     .have:=(i.2 d).1 u;rw[w]at this;rw[ah8 (Ic this)];have n:trp F (d,f)=(b==f):=by unfold trp;simp only[k,w]
      rw[n];cases b<;>cases f<;>rfl
    .cases h
theorem OH{P:Program}{T:Tab}{E:Env}{F:List (AV × Chain)}{s:St}{a:Act}{ops:Array Oper}{o:Oper}{c:Chain}{b:Bool}{v:AV}(W:akV P T)
  (d:AB E F s.slots a.tmps) (O:uN E s.mem) (hA:∀b,E.A b->b<E.w.heap.size) (G:∀t,t∈mU ops.toList o->(F.getD t dflt).1=(s.slots.getD t dflt).1)
  (h:yH P T ops.toList s o=some (b,c,v)) (U:tF F c=true->b=true) :
  aHE o (yielded ops a.tmps)=tF F c/\(tF F c=true->tT P E v ((execOp a.eval o).run P E.w)):=by
 unfold yH at h;split at h
 .cases h
 .rename_i i S
  have j:∀l,l=i->l=c->(tF F c=true->tT P E v ((execOp a.eval o).run P E.w))->aHE o (yielded ops a.tmps)=tF F c/\(tF F c=true->tT P E v ((execOp a.eval o).run P E.w)) :=λ l e1 e2 X=>⟨by rw[<-e2,e1];exact j6 d G S,X⟩
  split at h
  .rename_i g x y z;cases e:(jB s.slots i (.tmp g)&&(jB s.slots ((g,true)::i) x&&jB s.slots ((g,false)::i) y))
   .rw[e]at h;cases h
   .rw[e]at h;simp only[aY]at h;simp only[CX]at e;split at h
    .rename_i H p q C N hq;simp only[gU,Ew]at h;obtain⟨_,e1,e2⟩:=h;refine j i rfl e1 λ n=>?_;subst e1 e2;have B:=jF d n (.tmp g) e.1;rw[C]at B;have J:a.eval (.tmp g)=.bool H:=Ic B
     have k:(F.getD g dflt).1=.x (.bool H):=by rw[G g (by simp[mU,z])];exact C
     have r:(execOp a.eval o).run P E.w=.ok (.value (if H then a.eval x else a.eval y)) E.w:=by unfold execOp;simp only[z,J,asBool,QJ,aax,uT]
     rw[r];refine⟨?_,wV rfl⟩;cases H
     .have I:=jF d (c:=(g,false)::i) (by rw[PE,n];simp only[trp,k];rfl) y e.2.2;rw[hq]at I;exact I
     .have M:=jF d (c:=(g,true)::i) (by rw[PE,n];simp only[trp,k];rfl) x e.2.1;rw[N]at M;exact M
    .cases h
  .cases e:(o.op.operands.toList.all (jB s.slots i))
   .rw[e]at h;cases h
   .rw[e]at h;simp only[aY]at h;split at h
    .rename_i H u hv;simp only[gU,Ew]at h;obtain⟨e0,e1,e2⟩:=h;refine j i rfl e1 λ n=>?_;subst e0 e1 e2;rw[U n]at hv;rw[ab3]at e;exact ahd W O hA d.1.2 (λ f=>rfl) (λ y I=>jF d n y (e y I)) hv
    .cases h
theorem Vh{P:Program}{E:Env}{o:Oper}{a:Act}{v:AV}{K:Act->World->Prop}{Q:Exit->Act->World->Prop}(d:tT P E v ((execOp a.eval o).run P E.w))
  (j:∀u w',rel { E with w:=w' } v u->Below E.w.heap.size E.w w'->K (a.put o.dst u) w'):o.wp P a E.w K Q:=by
 unfold aIl;generalize(execOp a.eval o).run P E.w=r at d;cases r with
 |ok n w' =>
  cases n<;>simp only[tT]at d<;>first |exact d.elim |skip
  case value u =>
   rcases d.2 with rfl | ⟨k,rfl⟩
   .exact j u _ d.1 (Below.refl _ _)
   .exact j u _ (lS (E:=E) (E':={ E with w:={ E.w with drawn:=E.w.drawn+k } }) ⟨λ b t y q=>⟨t,q⟩,λ k b i=>i⟩ d.1) ⟨rfl,rfl,rfl,ND _,λ _ _=>rfl⟩
  case enter f args =>
   obtain⟨h,p⟩:=d;subst h;exact p.mono λ e g ⟨u,h,l,i⟩=>by subst h;exact j u g l i
 |halt x w'=>exact d.elim
def uR(slots:List (AV × Chain))(dst:Option Nat)(p:AV × Chain):List (AV × Chain) :=
 match dst with
 |some d=>slots.set d p
 |none=>slots
def nD(slots:List (AV × Chain))(c:Chain):Option Nat->Bool
 |some d=>c.all (λ p=>p.1 !=d)&&slots.all (λ q=>q.2.all (λ p=>p.1 !=d))
 |none=>true
theorem JA(l:List (AV × Chain))(d t:Nat)(p:AV × Chain):(l.set d p).getD t dflt=if d=t/\d<l.length then p else l.getD t dflt:=by
 simp only[Gd,aKM];by_cases h:d=t
 .subst h;by_cases e:d<l.length
  .simp[e]
  .simp[e]
 .simp[h]
theorem Zo(l:Array Value)(d t:Nat)(v:Value):(l.setIfInBounds d v).getD t undef=if d=t/\d<l.size then v else l.getD t undef:=by
 simp only[aGZ,Array.getElem?_setIfInBounds];by_cases h:d=t
 .subst h;by_cases e:d<l.size
  .simp[e]
  .simp[e]
 .simp[h]
theorem ah9{F:List (AV × Chain)}{d:Nat}{p:Nat × Bool}(v:AV × Chain)(h:p.1≠d):trp (F.set d v) p=trp F p:=by unfold trp;rw[JA,fP (λ e=>h e.1.symm)]
theorem SQ{F:List (AV × Chain)}{d:Nat}{c:Chain}(v:AV × Chain)(h:(c.all λ p=>p.1 !=d)=true):tF (F.set d v) c=tF F c:=by
 unfold tF
 induction c with
 |nil=>rfl
 |cons p c ih =>
  simp only[aIk,CX]at h ⊢;rw[ah9 v (by simpa using h.1),ih h.2]
theorem oD{E:Env}{s:List (AV × Chain)}{a:Act}{c:Chain}{dst:Option Nat}{v:AV}{u:Value}(e:AB E s s a.tmps)(j:nD s c dst=true)
  (n:tF s c=true->rel E v u) (l:tF s c=false->u=undef):AB E (uR s dst (v,c)) (uR s dst (v,c)) (a.put dst u).tmps:=by
 cases dst with
 |none=>exact e
 |some d =>
  simp only[nD,CX]at j;obtain⟨g,f⟩:=j;rw[ab3]at f;refine⟨⟨by simp[uR,Act.put,e.1.1],e.1.2⟩,λ t=>?_⟩
  have i:((s.getD t dflt).2.all λ p=>p.1 !=d)=true:=by
   simp only[Gd];cases k:s[t]? with
   |none=>rfl
   |some q=>exact f q (ajw k)
  simp only[uR,Act.put];rw[JA,Zo,e.1.1];by_cases h:d=t/\d<s.length
  .rw[gH h,gH h];simp only[SQ _ g];exact⟨n,l⟩
  .rw[fP h,fP h,SQ _ i];exact e.2 t
end
noncomputable section
mutual
def kZ(b:Bool):AV->AV->AV
 |.f x,.f y=>.f (cond b x y)
 |.cx x z,.cx y v=>.cx (cond b x y) (cond b z v)
 |.x (.int k x),.x (.int k' y)=>cond (decide (k=k')) (.x (.int k (cond b x y))) .any
 |.x (.bool x),.x (.bool y)=>.x (.bool (cond b x y))
 |.x (.string x),.x (.string y)=>.x (.string (cond b x y))
 |.sl sz n el,.sl sz' n' uL=>cond (amH sz sz') (.sl sz (cond b n n') (λ i=>bM b (el i) (uL i))) .any
 |.jd t x,.jd t' y=>cond b (.jd t x) (.jd t' y)
 |_,_=>.any
def bM(b:Bool):List AV->List AV->List AV
 |x::xs,y::ys=>kZ b x y::bM b xs ys
 | [],[]=>[]
 |x::xs,[]=>cond b (x::xs) []
 | [],y::ys=>cond b [] (y::ys)
end
theorem G6:∀(xs ys:List AV),(bM true xs ys).length=xs.length
 |x::xs,y::ys=>by rw[bM];simp[G6 xs ys]
 | [],[]=>by rw[bM]
 |x::xs,[]=>by rw[bM];rfl
 | [],y::ys=>by rw[bM];rfl
theorem G7:∀(xs ys:List AV),(bM false xs ys).length=ys.length
 |x::xs,y::ys=>by rw[bM];simp[G7 xs ys]
 | [],[]=>by rw[bM]
 |x::xs,[]=>by rw[bM];rfl
 | [],y::ys=>by rw[bM];rfl
theorem dK{E:Env}{u:Value}:bY .any E u:=tQ
mutual
theorem azI:∀(x y:AV) {E:Env} {u:Value},bY x E u->bY (kZ true x y) E u
 |.f a,y,E,u,h=>by cases y<;>simp only[kZ]<;>first |exact h |exact dK
 |.x v,y,E,u,h=>by
  cases y<;>try (cases v<;>simp only[kZ]<;>exact dK)
  rename_i q;cases v<;>cases q<;>simp only[kZ]<;>first |exact h |exact dK |skip
  rename_i k a t b;by_cases j:k=t
  .simp only[j,decide_true,aY]at h ⊢;exact h
  .simp only[j,decide_false,eU];exact dK
 |.sl sz n el,y,E,u,h=>by
  cases y<;>simp only[kZ]<;>first |exact dK |skip
  rename_i d n' r;cases hs:amH sz d
  .exact dK
  .simp only[aY];unfold bY at h ⊢;obtain⟨a,c,C,B,g⟩:=h;refine⟨a,c,C,B,?_⟩;rcases g with g | ⟨b,o,F,e,fz,A,z,w,p⟩
   .exact wV g
   .exact Gc ⟨b,o,F,e,fz,A,z,w,λ i l=>⟨by rw[G6];exact(p i l).1,adh (el i) (r i) (p i l).2⟩⟩
 |.cx _ _,y,E,u,h=>by cases y<;>simp only[kZ]<;>first |exact h |exact dK
 |.agg _,y,_,_,_=>by cases y<;>simp only[kZ]<;>exact dK
 |.bK _,y,_,_,_=>by cases y<;>simp only[kZ]<;>exact dK
 |.own _ _,y,_,_,_=>by cases y<;>simp only[kZ]<;>exact dK
 |.qX _ _ _ _,y,_,_,_=>by cases y<;>simp only[kZ]<;>exact dK
 |.bQ _ _ _ _,y,_,_,_=>by cases y<;>simp only[kZ]<;>exact dK
 |.view _ _ _ _ _,y,_,_,_=>by cases y<;>simp only[kZ]<;>exact dK
 |.ref _ _,y,_,_,_=>by cases y<;>simp only[kZ]<;>exact dK
 |.iN _ _,y,_,_,_=>by cases y<;>simp only[kZ]<;>exact dK
 |.jd _ _,y,_,_,h=>by cases y<;>simp only[kZ,aY]<;>first |exact h |exact dK
 |.fn _ _ _,y,_,_,_=>by cases y<;>simp only[kZ]<;>exact dK
 |.any,y,_,_,_=>by cases y<;>simp only[kZ]<;>exact dK
theorem adh:∀(xs ys:List AV) {E:Env} {us:List Value},lu xs E us->lu (bM true xs ys) E us
 |x::xs,y::ys,E,u::us,h=>by unfold lu at h;rw[bM];unfold lu;exact⟨azI x y h.1,adh xs ys h.2⟩
 |x::xs,y::ys,E,[],h=>by unfold lu at h;exact h.elim
 | [],[],E,us,h=>by rw[bM];exact h
 |x::xs,[],E,us,h=>by rw[bM];exact h
 | [],y::ys,E,us,h=>by rw[bM];exact h
end
mutual
theorem azJ:∀(x y:AV) {E:Env} {u:Value},bY y E u->bY (kZ false x y) E u
 |.f a,y,E,u,h=>by cases y<;>simp only[kZ]<;>first |exact h |exact dK
 |.x v,y,E,u,h=>by
  cases y<;>try (cases v<;>simp only[kZ]<;>exact dK)
  rename_i q;cases v<;>cases q<;>simp only[kZ]<;>first |exact h |exact dK |skip
  rename_i k a t b;by_cases j:k=t
  .simp only[j,decide_true,aY,eU]at h ⊢;exact h
  .simp only[j,decide_false,eU];exact dK
 |.sl sz n el,y,E,u,h=>by
  cases y<;>simp only[kZ]<;>first |exact dK |skip
  rename_i d n' r;cases hs:amH sz d
  .exact dK
  .have e1:=aiL hs;subst e1;simp only[aY,eU];unfold bY at h ⊢;obtain⟨a,c,C,B,g⟩:=h;refine⟨a,c,C,B,?_⟩;rcases g with g | ⟨b,o,F,e,fz,A,z,w,p⟩
   .exact wV g
   .exact Gc ⟨b,o,F,e,fz,A,z,w,λ i l=>⟨by rw[G7];exact(p i l).1,adi (el i) (r i) (p i l).2⟩⟩
 |.cx _ _,y,E,u,h=>by cases y<;>simp only[kZ]<;>first |exact h |exact dK
 |.agg _,y,_,_,_=>by cases y<;>simp only[kZ]<;>exact dK
 |.bK _,y,_,_,_=>by cases y<;>simp only[kZ]<;>exact dK
 |.own _ _,y,_,_,_=>by cases y<;>simp only[kZ]<;>exact dK
 |.qX _ _ _ _,y,_,_,_=>by cases y<;>simp only[kZ]<;>exact dK
 |.bQ _ _ _ _,y,_,_,_=>by cases y<;>simp only[kZ]<;>exact dK
 |.view _ _ _ _ _,y,_,_,_=>by cases y<;>simp only[kZ]<;>exact dK
 |.ref _ _,y,_,_,_=>by cases y<;>simp only[kZ]<;>exact dK
 |.iN _ _,y,_,_,_=>by cases y<;>simp only[kZ]<;>exact dK
 |.jd _ _,y,_,_,h=>by cases y<;>simp only[kZ,eU]<;>first |exact h |exact dK
 |.fn _ _ _,y,_,_,_=>by cases y<;>simp only[kZ]<;>exact dK
 |.any,y,_,_,_=>by cases y<;>simp only[kZ]<;>exact dK
theorem adi:∀(xs ys:List AV) {E:Env} {us:List Value},lu ys E us->lu (bM false xs ys) E us
 |x::xs,y::ys,E,u::us,h=>by unfold lu at h;rw[bM];unfold lu;exact⟨azJ x y h.1,adi xs ys h.2⟩
 |x::xs,y::ys,E,[],h=>by unfold lu at h;exact h.elim
 | [],[],E,us,h=>by rw[bM];exact h
 |x::xs,[],E,us,h=>by rw[bM];exact h
 | [],y::ys,E,us,h=>by rw[bM];exact h
end
theorem JB{E:Env}{b:Bool}{xs ys:List AV}{us:List Value}(e:b=true->pre E xs us)(d:b=false->pre E ys us):pre E (bM b xs ys) us:=by
 cases b
 .exact adi xs ys (d rfl)
 .exact adh xs ys (e rfl)
theorem JC{b:Bool}{xs ys:List AV}{n:Nat}(e:b=true->xs.length=n)(d:b=false->ys.length=n):(bM b xs ys).length=n:=by
 cases b
 .rw[G7];exact d rfl
 .rw[G6];exact e rfl
def Row.live:Row->Bool
 |.dead=>false
 |_=>true
def aN(mem:List Row)(k:Nat):Bool:=match mem[k]? with
 |some r=>r.live
 |none=>false
structure qz(R:Nat->Prop)(w w':World):Prop where
 os:w'.os=w.os
 tape:w'.tape=w.tape
 output:w'.output=w.output
 size:w.heap.size<=w'.heap.size
 block:∀k,k<w.heap.size->¬R k->w'.heap[k]?=w.heap[k]?
theorem qz.refl(R:Nat->Prop)(w:World):qz R w w:=⟨rfl,rfl,rfl,ND _,λ _ _ _=>rfl⟩
theorem qz.grown{R:Nat->Prop}{w0 w w':World}{b:Nat}(h:qz R w0 w)(d:w.grownBy w' (some b))(f:R b\/w0.heap.size<=b):qz R w0 w' :=
 ⟨d.os.trans h.os,d.tape.trans h.tape,d.output.trans h.output,aa2 h.size d.size,λ k i g=>(d.block k (anS i h.size) (λ e=>by
  cases e;rcases f with f |f
  .exact g f
  .omega)).trans (h.block k i g)⟩
theorem qz.on{R:Nat->Prop}{w0 w w':World}(h:qz R w0 w)(d:Below w.heap.size w w'):qz R w0 w' :=⟨d.os.trans h.os,d.tape.trans h.tape,d.output.trans h.output,aa2 h.size d.size,λ k e f=>(d.block k (anS e h.size)).trans (h.block k e f)⟩
structure Wd(A0 R:Nat->Prop)(w0:Env)(E:Env)(mem:List Row):Prop where
 rows:uN E mem
 small:∀b,E.A b->b<E.w.heap.size
 old:∀b,A0 b->E.A b
 own:∀k b c,E.O k=some (b,c)->aN mem k=true->E.A b/\(R b\/w0.w.heap.size<=b)
 one:∀k k' b c c',E.O k=some (b,c)->E.O k'=some (b,c')->aN mem k=true->aN mem k'=true->k=k'
 below:qz R w0.w E.w
 zA:w0.le E
theorem iT{E E':Env}(d:E.le E'){b:Nat}{c:Nat × Nat}{row:Row}(h:lQ E b c row)(r:row.live=true->E'.w.heap[b]?=E.w.heap[b]?):lQ E' b c row:=by
 cases row with
 |c l =>
  obtain⟨j,e,g,f⟩:=h;exact⟨j,e,by rw[r rfl];exact g,lT d f⟩
 |a e sz n el =>
  obtain⟨j,g,f,k,B,A,u⟩:=h;exact⟨j,by rw[r rfl];exact g,f,k,B,A,λ i q=>⟨(u i q).1,lT d.fz (u i q).2⟩⟩
 |dead=>trivial
 |i s p e=>exact⟨by rw[r rfl];exact h.1,h.2⟩
 |t e l =>
  obtain⟨j,g,f,k⟩:=h;exact⟨j,by rw[r rfl];exact g,lT d f,k⟩
 |z x e sz n el =>
  obtain⟨j,fz,g,f,y,k⟩:=h;exact⟨j,fz,by rw[r rfl];exact g,f,y,λ i q=>⟨(k i q).1,lT d.fz (k i q).2⟩⟩
def Env.row(E:Env)(w':World)(e d:Nat)(f:Nat × Nat):Env:=⟨w',λ b=>E.A b\/b=d,λ k=>if k=e then some (d,f)else E.O k⟩
theorem Env.sV{E:Env}{w':World}{g f:Nat}{l:Nat × Nat}(q:E.w.grownBy w' (some f))(hA:E.A f\/E.w.heap.size<=f)(r:E.O g=none\/E.O g=some (f,l)):E.le (E.row w' g f l) where
 keep:=λ b d t n=>by
  have j:=(aHP.1 n).1
  have i:b≠f:=λ e=>by
   subst e;rcases hA with h |h
   .exact d h
   .omega
  refine⟨λ h=>h.elim d i,?_⟩;show w'.heap[b]?=_;rw[q.block b j (λ e=>i (by cases e;rfl))];exact n
 own:=λ k b d=>by
  show(if k=g then some (f,l)else E.O k)=some b
  by_cases p:k=g
  .subst p;rw[gH rfl];rcases r with h |h
   .rw[h]at d;cases d
   .rw[<-h];exact d
  .rw[fP p];exact d
theorem Wd.row{A0 R:Nat->Prop}{w0:Env}{E:Env}{mem mem':List Row}(h:Wd A0 R w0 E mem){w':World}{l f:Nat}{q:Nat × Nat}{anp:Row}(C:E.w.grownBy w' (some f))(H:f<w'.heap.size)
  (M:R f\/w0.w.heap.size<=f) (hA:E.A f\/E.w.heap.size<=f) (N:E.O l=none\/E.O l=some (f,q)) (G:mem'[l]?=some anp)
  (J:∀k,k≠l->∀b c,E.O k=some (b,c)->(mem'[k]?=mem[k]?/\(aN mem k=true->b≠f))\/mem'[k]?=some .dead)
  (u:lQ (E.row w' l f q) f q anp):Wd A0 R w0 (E.row w' l f q) mem':=by
 have y:E.le (E.row w' l f q):=Env.sV C hA N
 have other:∀k,k≠l->∀b c,E.O k=some (b,c)->aN mem' k=true->aN mem k=true/\b≠f:=λ k j b c g n=>by
  rcases J k j b c g with⟨p,B⟩ |p
  .have:aN mem k=true:=by unfold aN at n ⊢;rw[<-p];exact n
   exact⟨this,B this⟩
  .unfold aN at n;rw[p]at n;cases n
 refine⟨?_,?_,λ b g=>wV (h.old b g),?_,?_,h.below.grown C M,h.zA.trans y⟩
 .intro k b c g;by_cases j:k=l
  .subst j;have d:(f,q)=(b,c):=by simpa[Env.row]using g
   cases d;exact⟨anp,G,u⟩
  .have d:E.O k=some (b,c):=by simpa[Env.row,j]using g
   rcases J k j b c d with⟨p,B⟩ |p
   .obtain⟨row,I,F⟩:=h.rows k b c d;refine⟨row,by rw[p];exact I,iT y F λ n=>?_⟩;have x:aN mem k=true:=by unfold aN;rw[I];exact n
    show w'.heap[b]?=_;exact C.block b (h.small b (h.own k b c d x).1) (λ e=>B x (by cases e;rfl))
   .exact⟨.dead,p,trivial⟩
 .intro b g;rcases g with g |rfl
  .exact anS (h.small b g) C.size
  .exact H
 .intro k b c g n;by_cases j:k=l
  .subst j;have d:(f,q)=(b,c):=by simpa[Env.row]using g
   cases d;exact⟨Gc rfl,M⟩
  .have d:E.O k=some (b,c):=by simpa[Env.row,j]using g
   obtain⟨p,B⟩:=h.own k b c d (other k j b c d n).1;exact⟨wV p,B⟩
 .intro k r b c t g d n z;by_cases j:k=l
  .subst j;have e1:(f,q)=(b,c):=by simpa[Env.row]using g
   cases e1;by_cases i:r=k
   .exact i.symm
   .have e2:E.O r=some (f,t):=by simpa[Env.row,i]using d
    exact absurd rfl (other r i f t e2 z).2
  .have e1:E.O k=some (b,c):=by simpa[Env.row,j]using g
   obtain⟨S,g2⟩:=other k j b c e1 n;by_cases i:r=l
   .subst i;have e2:(f,q)=(b,t):=by simpa[Env.row]using d
    cases e2;exact absurd rfl g2
   .have e2:E.O r=some (b,t):=by simpa[Env.row,i]using d
    exact h.one k r b c t e1 e2 S (other r i b t e2 z).1
theorem Wd.on{A0 R:Nat->Prop}{w0:Env}{E:Env}{mem:List Row}(h:Wd A0 R w0 E mem){w':World}(f:Below E.w.heap.size E.w w'):Wd A0 R w0 { E with w:=w' } mem/\E.le { E with w:=w' }:=by
 have d:E.le { E with w:=w' }:=⟨λ b n r j=>⟨n,by rw[<-j];exact f.block b (aHP.1 j).1⟩,λ k b e=>e⟩
 refine⟨⟨?_,λ b q=>anS (h.small b q) f.size,h.old,h.own,h.one,h.below.on f,h.zA.trans d⟩,d⟩;intro k b c e;obtain⟨row,l,g⟩:=h.rows k b c e;refine⟨row,l,iT d g λ p=>?_⟩;have i:aN mem k=true:=by unfold aN;rw[l];exact p
 exact f.block b (h.small b (h.own k b c e i).1)
end
noncomputable section
theorem adj{P:Program}{w:World}(t B e:TypeId)(i:TypeInfo)(z:Value)(N:P.underlying t=some (.slice e))(hi:P.info? e=some i)(W:i.zero=some z)(M:z.cells.size=i.size)
  (v:Value) (n:Nat) (xs:List Value) (f:w.ownsRow 0 e i.size v n xs) (a:Addr) (m c:Nat) (news:List Value) (q:news.length=m*i.size) (hnews:∀j u,news[j]?=some u->w.cell? (a.add j)=some u)
  (h1:∀u∈news,u.oneCell'=true) (hm:0<m) (y:n+m<=maxLen) (hbytes:(n+m)*i.bytes<=140737488355328) :
  ∃g cap d w',(aIT #[t,t] B #[v,.slice (some a) m c]).run P w=.ok (.slice (some ⟨g,0,none⟩) (n+m) cap) w'/\(v.ownBlock=some g\/g=w.heap.size)/\w'.heap[g]?=some (.cells d e (0,0)) /\
   d.size=cap*i.size/\n+m<=cap/\cap<=maxLen/\d.toList.take ((n+m)*i.size)=xs++news/\w.grownBy w' (some g):=by
 have hsmall:n+m<=9223372036854775807:=by simp only[maxLen]at y;omega
 have l:(xs++news).length=(n+m)*i.size:=by rw[aiR,f.1,q,auK]
 have grown:∀(h:Nat),h<n+m->∃d w',w'=(w.drew.alloc (.cells (xs.toArray++news.toArray++Builtin.zeroCells z.cells (grownCap w (n+m) h e - (n+m))) e))/\w'.heap[w.heap.size]?=some (.cells d e (0,0)) /\
   d.size=grownCap w (n+m) h e*i.size/\n+m<=grownCap w (n+m) h e/\grownCap w (n+m) h e<=maxLen/\d.toList.take ((n+m)*i.size)=xs++news/\w.grownBy w' (some w.heap.size):=by
  intro h ho;have S:=grownCap_ge w (n+m) h e;have p:grownCap w (n+m) h e<=maxLen:=grownCap_le_maxLen w (n+m) h e y;refine⟨_,_,rfl,heap_alloc_new w.drew _,?_,S,p,?_,⟨rfl,rfl,rfl,by simp,λ k O _=>heap_alloc_old w.drew _ O⟩⟩
  .simp only[aMB,aIJ,size_zeroCells,M,f.1,q,<-auK];congr 1;omega
  .simp only[aI7,aHN];rw[<-aHN,<-l];exact aK7
 rcases f.2 with⟨rfl,rfl⟩ | ⟨g,cap,d,rfl,_,X,Z,p,U,htake⟩
 .have Y:xs=[]:=List.eq_nil_of_length_eq_zero (by simpa using f.1);subst Y;have r:=run_append_nil (P:=P) w t B e i z N hi W a m c news q hnews hm (by omega) (by have hb:=hbytes;simp only[ZO]at hb;omega);obtain⟨d,w',e1,J,I,H,G,F,C⟩:=grown 0 (by omega);simp only[ZO,List.nil_append,aHa]at e1 J I H G F C ⊢;exact⟨w.heap.size,_,d,w',by rw[r,e1],Gc rfl,J,I,H,G,F,C⟩
 .by_cases hroom:n+m<=cap
  .have x:n*i.size+news.length<=d.size:=by rw[q,U,<-auK];exact ahL _ hroom
   have r:=run_append_room (P:=P) w t B e i N hi g n cap d X a m c news q hnews h1 hroom x;refine⟨g,cap,_,_,r,wV rfl,setRow_heap w g d _ e _ X,?_,hroom,p,?_,⟨rfl,rfl,rfl,by simp,λ k _ O=>setRow_other w g k _ (λ e=>O (by rw[e]))⟩⟩
   .simp only[aIJ,aiR,aFk,aIv,aJ4];omega
   .rw[htake,<-l];exact aK7
  .have holds:∀j u,xs[j]?=some u->w.cell? ((⟨g,0,none⟩:Addr).add j)=some u:=f.cells (g:=g) rfl;have r:=run_append_grow (P:=P) w t B e i z N hi W ⟨g,0,none⟩ n cap xs f.1 holds a m c news q hnews (by omega) (by omega) (growslice_fits (by omega) hbytes);obtain⟨A,w',e1,J,I,H,G,F,C⟩:=grown cap (by omega);exact⟨w.heap.size,_,A,w',by rw[r,e1],Gc rfl,J,I,H,G,F,C⟩
def DV(cells:List AV)(d:Nat)(xs:List AV):List AV:=cells.take d++(xs++cells.drop (d+xs.length))
def F6(mem:List Row)(e:TypeId)(d:Nat):AV->Option (Bool × Option Nat × Nat × (Nat->List AV))
 |.x (.slice none 0 0)=>some (true,none,0,λ _=>[])
 |.bQ k sz 0 len=>match mem[k]? with
  |some (.a e' sz' n el)=>cond ((e==e')&&((sz==d)&&(sz'==d))) (some (cond (aqz e) (apB len n) (len==n),some k,len,el)) none
  |_=>none
 |_=>none
def LV(mem:List Row)(d:Nat):AV->Option (Nat × Nat × List (List AV))
 |.bQ k sz 0 m=>match mem[k]? with
  |some (.a _ sz' _ el)=>cond ((sz==d)&&((sz'==d)&&Tv 0 m)) (some (k,m,(List.range m).map el)) none
  |_=>none
 |_=>none
def spread(n:Nat):List (List AV)->Nat->List AV
 | [],_=>[]
 | [x],_=>x
 |x::y::xs,q=>bM (Tv q (n+1)) x (spread (n+1) (y::xs) q)
theorem KW{q:Nat}(Q:List AV->Prop)(e:∀b xs ys,(b=true->Q xs)->(b=false->Q ys)->Q (bM b xs ys)):∀(g:List (List AV)) (n:Nat),n<=q->q<n+g.length->(∀p d,g[p]?=some d->q=n+p->Q d)->Q (spread n g q)
 | [],n,h1,h2,_=>by simp at h2;omega
 | [x],n,h1,h2,h=>by simp at h2;rw[spread];exact h 0 x rfl (by omega)
 |x::y::xs,n,h1,h2,h=>by
  rw[spread];refine e _ _ _ (λ f=>?_) (λ f=>?_)
  .have:q<n+1:=Ou f;exact h 0 x rfl (by omega)
  .have i:n+1<=q:=aIE λ k=>by have:Tv q (n+1)=true:=agl k;rw[this]at f;cases f
   refine KW Q e (y::xs) (n+1) i (by simp at h2 ⊢;omega) λ p d j hq=>?_;exact h (p+1) d (by simpa using j) (by omega)
def vQ (P:Program) (s:St) (nk:Nat) (t:TypeId) (x y:AV):Option (Bool × Eff) :=
  match P.underlying t with
  |some (.slice e)=>match P.info? e with
    |some i=>match i.zero with
      |some z=>match F6 s.mem e i.size x,LV s.mem i.size y with
        |some (b,k,n,el),some (j,m,ns)=>cond ((z.cells.size==i.size)&&(Tv 0 i.bytes&&((ns.all λ d=>d.all lZ)&&((ns.all cK)&&!(k==some j)))))
            (some (b&&apB ((n+m)*i.bytes) 140737488355328,⟨.bQ nk i.size 0 (n+m),k.toList++[j],k.map (λ k=>(k,Row.dead)),some (.a e i.size (n+m) (λ q=>bM (Tv q n) (el q) (spread n ns q)))⟩)) none
        |_,_=>none
      |none=>none
    |none=>none
  |_=>none
def xM (P:Program) (s:St) (nk:Nat) (t:TypeId) (x:AV) (sz m:Nat) (d:Nat->List AV):Option (Bool × Eff) :=
  match P.underlying t with
  |some (.slice e)=>match P.info? e with
    |some i=>match i.zero with
      |some z=>match F6 s.mem e i.size x with
        |some (b,k,n,el)=>cond ((z.cells.size==i.size)&&(Tv 0 i.bytes&&(sz==i.size)))
            (some (b&&(Tv 0 m&&(TL m (λ q=>(d q).all lZ)&&apB ((n+m)*i.bytes) 140737488355328)),⟨.bQ nk i.size 0 (n+m),k.toList,k.map (λ k=>(k,Row.dead)),some (.a e i.size (n+m) (λ q=>bM (Tv q n) (el q) (d (q - n))))⟩)) none
        |none=>none
      |none=>none
    |none=>none
  |_=>none
def JD(P:Program)(t:TypeId)(x:AV):Option (Bool × Eff) :=
 match P.underlying t with
 |some (.slice e)=>match P.info? e with
  |some _=>match x with
   |.bQ k sz st len=>some (true,⟨.bQ k sz st len,[],none,none⟩)
   |.x (.slice none 0 0)=>some (true,⟨.x (.slice none 0 0),[],none,none⟩)
   |_=>none
  |none=>none
 |_=>none
def Zp(mem:List Row)(e:TypeId)(d:Nat):AV->Option (Nat × Nat × (Nat->List AV))
 |.bQ k sz 0 len=>match mem[k]? with
  |some (.z true e' sz' n el)=>cond ((e==e')&&((sz==d)&&((sz'==d)&&((len==n)&&Tv 0 n)))) (some (k,n,el)) none
  |_=>none
 |_=>none
def isZ(mem:List Row):AV->Bool
 |.bQ k _ _ _=>match mem[k]? with
  |some (.z _ _ _ _ _)=>true
  |_=>false
 |_=>false
def rQ (P:Program) (s:St) (nk:Nat) (t:TypeId) (x y:AV):Option (Bool × Eff) :=
  match P.underlying t with
  |some (.slice e)=>match P.info? e with
    |some i=>match i.zero with
      |some z=>match Zp s.mem e i.size x,LV s.mem i.size y with
        |some (k,n,el),some (j,m,ns)=>cond ((z.cells.size==i.size)&&(Tv 0 i.bytes&&((ns.all λ d=>d.all lZ)&&((ns.all cK)&&!(k==j)))))
            (some (apB ((n+m)*i.bytes) 140737488355328,⟨.bQ nk i.size 0 (n+m),[k,j],none,some (.a e i.size (n+m) (λ q=>bM (Tv q n) (el q) (spread n ns q)))⟩)) none
        |_,_=>none
      |none=>none
    |none=>none
  |_=>none
def xO(P:Program)(s:St)(nk:Nat)(t:TypeId)(x y:AV):Option (Bool × Eff) :=
 match y with
 |.x (.slice _ 0 _)=>JD P t x
 |.sl sz m el2=>xM P s nk t x sz m el2
 |y=>cond (isZ s.mem x) (rQ P s nk t x y) (vQ P s nk t x y)
def DW(_P:Program)(_s:St)(_nk:Nat)(_t _t':TypeId)(_x _y:AV):Option (Bool × Eff):=none
def Al(P:Program)(s:St)(nk:Nat)(t t':TypeId)(x y:AV):Option (Bool × Eff):=cond (t==t') (xO P s nk t x y) (DW P s nk t t' x y)
def KX(P:Program)(s:St)(t:TypeId)(p x:AV):Option (Bool × Eff) :=
 match P.info? t with
 |some d=>cond (xg x&&(x.cells.length==d.size)) (match p with
  |.own k off=>match s.mem[k]? with
   |some (.c l)=>cond (apB (off+d.size) l.length) (some (true,⟨.any,[k],some (k,.c (DV l off x.cells)),none⟩)) none
   |some (.t e l)=>cond (apB (off+d.size) l.length) (some (true,⟨.any,[k],some (k,.t e (DV l off x.cells)),none⟩)) none
   |_=>none
  |.qX k sz q sub=>match s.mem[k]? with
   |some (.a e sz' n el)=>cond ((sz==sz')&&(cK x.cells&&apB (sub+d.size) (el q).length)) (some (Tv q n,⟨.any,[k],some (k,.a e sz n (λ j=>bM (j==q) (DV (el q) sub x.cells) (el j))),none⟩)) none
   |_=>none
  |_=>none) none
 |none=>none
def chunk(cells:List AV)(d i:Nat):List AV:=(cells.drop (i*d)).take d
def au2(z:Bool)(e:TypeId)(sz n:Nat)(el:Nat->List AV):Row:=cond z (.z true e sz n el) (.a e sz n el)
def JE (P:Program) (nk:Nat) (t:TypeId) (len:Nat) (f:List (Nat × AV)) (e:Bool):Option (Bool × Eff) :=
  match P.underlying t with
  |some (.slice elem)=>match jP P (sizeOf elem),jP P (zeroValue elem)with
    |some d,some z=>cond (Tv 0 (len*d)&&apB (len*d) 16777216)
        (match Aa (λ i=>some (i*d,d)) (((aL7 (len*d)).map (z.cells[· % z.cells.size]!)).toList.map Dm) f with
        |some cells=>cond (cK cells) (some (true,⟨.bQ nk d 0 len,[],none,some (au2 e elem d len (chunk cells d))⟩)) none
        |none=>none) none
    |_,_=>none
  |_=>none
def VK(P:Program)(nk:Nat)(t:TypeId):Option (Bool × Eff) :=
 match P.underlying t with
 |some (.slice elem)=>match jP P (sizeOf elem)with
  |some d=>some (true,⟨.bQ nk d 0 0,[],none,some (.a elem d 0 (λ _=>[]))⟩)
  |none=>none
 |_=>none
def MX(P:Program)(nk:Nat)(t:TypeId)(len:Nat)(d:List (Nat × AV))(e:Bool):Option (Bool × Eff) :=
 match len,d with
 | 0,[]=>VK P nk t
 |len,d=>JE P nk t len d e
def VL (P:Program) (t:TypeId) (len:Nat) (e:List (Nat × AV)):Option (Bool × Eff) :=
  match P.underlying t with
  |some (.slice elem)=>match jP P (sizeOf elem),jP P (zeroValue elem)with
    |some d,some z=>cond (Tv 0 (len*d)&&apB (len*d) 16777216)
        (match Aa (λ i=>some (i*d,d)) (((aL7 (len*d)).map (z.cells[· % z.cells.size]!)).toList.map Dm) e with
        |some cells=>cond (cK cells) (some (true,⟨.sl d len (chunk cells d),[],none,none⟩)) none
        |none=>none) none
    |_,_=>none
  |_=>none
def aeb(t:Nat):Nat:=1000000+t
def aEl(t:Nat):Nat:=3000000+t
def aEm(t len:Nat):Nat:=2000000+1000*t+len
def afN(P:Program)(nk:Nat)(t:TypeId)(l c:AV):Option (Bool × Eff) :=
 match l,c,P.underlying t with
 |.x (.int _ l),.x (.int _ c),some (.slice e)=>match P.info? e with
  |some i=>match i.zero with
   |some z=>cond (((z.cells.size==i.size)&&Tv 0 i.bytes)&&cK (z.cells.toList.map Dm))
     (some (decide (0<=l)&&(decide (l<=c)&&decide ((i.bytes:Int)*c<=281474976710656)),⟨.bQ nk i.size 0 l.toNat,[],none,some (.a e i.size l.toNat (λ _=>z.cells.toList.map Dm))⟩)) none
   |none=>none
  |none=>none
 |_,_,_=>none
def anq(_P:Program)(_s:St)(_t:TypeId)(_x _y:AV):Option (Bool × Eff):=none
theorem Zq{l:List AV}(h:cK l=true){a n:Nat}:cK ((l.drop a).take n)=true:=by
 have all:∀(l:List AV),cK l=true↔∀x,x∈l->iq x=true:=λ l=>by
  induction l with
  |nil=>simp[cK]
  |cons x xs ih=>rw[cK];simp[ih]
 exact(all _).2 λ x d=>(all l).1 h x (List.mem_of_mem_drop (List.mem_of_mem_take d))
def SS (P:Program) (s:St) (d dst:TypeId) (x:AV):Option (Bool × Eff) :=
  match P.underlying d with
  |some (.slice e)=>match P.underlying e with
    |some (.int .u8)=>cond (d==dst) (match x with
      |.bQ k sz st n=>match s.mem[k]? with
        |some (.a e2 sz2 m el)=>some (Tv 0 n,⟨.bQ k sz st n,[k],some (k,.z false e2 sz2 m el),none⟩)
        |some (.z x e2 sz2 m el)=>some (Tv 0 n,⟨.bQ k sz st n,[k],some (k,.z x e2 sz2 m el),none⟩)
        |_=>none
      |_=>none) none
    |_=>none
  |_=>none
def VN(T:Tab)(s:St)(nk f:Nat)(args:List AV):Option (Bool × Eff) :=
 match T.m f with
 |some g=>match g args ((aT args).map λ k=>s.mem[k]?) nk with
  |some (b,bT)=>cond (bT.rd==aT args) (some (b,bT)) none
  |none=>none
 |none=>none
def KY(g:abd)(s:St)(args:List AV):Option (Bool × Eff) :=
 match g args λ k=>s.mem[k]? with
 |some (b,v,rd)=>cond (iq v) (some (b,⟨v,rd,none,none⟩)) none
 |none=>none
def VO(_P:Program)(_nk:Nat)(_t:TypeId)(_x:AV):Option (Bool × Eff):=none
def anr(_s:St)(_it:AV):Option (Bool × Eff):=none
def adk(T:Tab)(s:St)(x:AV)(args:List AV):Option (Bool × Eff):=match x with
 |.fn (.func f) [] b=>match T.r f with
  |some g=>KY g s (args++b)
  |none=>none
 |_=>none
def awr(P:Program)(T:Tab)(s:St)(nk:Nat)(o:Oper):Option (Bool × Eff) :=
 match o.op with
 |.box _ x=>cond (xg (aI s x)) (some (true,⟨.own nk 0,[],none,some (.c (aI s x).cells)⟩)) none
 |.alloc t=>match jP P (zeroValue t)with
  |some z=>match T.m (aEl t)with
   |some _=>some (true,⟨.own nk 0,[],none,some (.t t (z.cells.toList.map Dm))⟩)
   |none=>some (true,⟨.own nk 0,[],none,some (.c (z.cells.toList.map Dm))⟩)
  |none=>none
 |.buildSlice t len ps=>match T.m (aeb t)with
  |some _=>VL P t len (ps.toList.map λ p=>(p.1,aI s p.2))
  |none=>MX P nk t len (ps.toList.map λ p=>(p.1,aI s p.2)) (T.m (aEm t len)).isSome
 |.makeSlice t l c=>afN P nk t (aI s l) (aI s c)
 |.store t p x=>cond o.dst.isNone (KX P s t (aI s p) (aI s x)) none
 |.convert src dst x=>SS P s src dst (aI s x)
 |.range t x=>VO P nk t (aI s x)
 |.next d b=>cond b (anr s (aI s d)) none
 |.call c=>match c.callee with
  |.builtin .append=>match c.args.toList.map (aI s),c.argTypes.toList with
   | [x,y],[t,t']=>Al P s nk t t' x y
   |_,_=>none
  |.builtin .copy=>match c.args.toList.map (aI s),c.argTypes.toList with
   | [x,y],[t,t']=>cond (t==t') (anq P s t x y) none
   |_,_=>none
  |.value (.func f)=>match T.r f with
   |some g=>KY g s (c.args.toList.map (aI s))
   |none=>VN T s nk f (c.args.toList.map (aI s))
  |.value (.tmp t)=>adk T s (aI s (.tmp t)) (c.args.toList.map (aI s))
  |_=>none
 |_=>none
def kN(E:Env)(mem mem':List Row)(nk:Nat)(d:Eff):Prop :=
 (∀k,k≠nk->∀b c,E.O k=some (b,c)->mem'[k]?=(match d.wr with
  |some (k',row)=>if k=k' then some row else mem[k]?
  |none=>mem[k]?))/\∀row,d.nw=some row->mem'[nk]?=some row
def aEn(P:Program)(f:Nat)(args:List AV)(mem:List Row)(nk:Nat)(g:Eff):Prop :=
 vJ P f/\∀(A0 R:Nat->Prop) (w0 E:Env) (mem':List Row) (h:Array Value),Wd A0 R w0 E mem->E.O nk=none->xk E->dW E args h.toList->kN E mem mem' nk g ->
  Calls P f h E.w λ e i=>∃u d,e=.returned u/\d.w=i/\E.le d/\(∀k p,d.O k=some p->E.O k=some p\/k=nk)/\Wd A0 R w0 d mem'/\rel d g.v u
def MOk(P:Program)(f:Nat)(g:abw):Prop:=(∀d mem nk h,g d ((aT d).map λ k=>mem[k]?) nk=some (true,h)->h.rd=aT d->aEn P f d mem nk h) /\
 ∀d e nk i b h,g d e nk=some (b,h)->h.nw=none->g d e i=some (b,h)
def ax7(E:Env)(mem mem':List Row)(nk:Nat)(d:List Row):Prop:=(∀k,(k<nk\/nk+d.length<=k)->∀b c,E.O k=some (b,c)->mem'[k]?=mem[k]?)/\∀(i:Nat) (row:Row),d[i]?=some row->mem'[nk+i]?=some row
def aEo(P:Program)(f:Nat)(args:List AV)(nk:Nat)(v:AV)(mem1:List Row):Prop :=
 vJ P f/\∀(A0 R:Nat->Prop) (w0 E:Env) (mem mem':List Row) (g:Array Value),Wd A0 R w0 E mem->(∀i,i<mem1.length->E.O (nk+i)=none)->xk E->dW E args g.toList->ax7 E mem mem' nk mem1 ->
  Calls P f g E.w λ e h=>∃u d,e=.returned u/\d.w=h/\E.le d/\(∀k p,d.O k=some p->E.O k=some p\/(nk<=k/\k<nk+mem1.length))/\Wd A0 R w0 d mem'/\rel d v u
def NOk(P:Program)(f:Nat)(g:akT):Prop:=∀e nk v d,g e nk=some (true,v,d)->aEo P f e nk v d
def rW(P:Program)(f:Nat)(args:List AV)(mem:List Row)(v:AV)(mem1:List Row):Prop :=
 vJ P f/\∀(A0 R:Nat->Prop) (w0 E:Env) (g:Array Value),Wd A0 R w0 E mem->xk E->dW E args g.toList ->
  Calls P f g E.w λ e h=>∃u d,e=.returned u/\d.w=h/\E.le d/\Wd A0 R w0 d mem1/\rel d v u
def WOk(P:Program)(f:Nat)(g:agV):Prop:=∀e mem v d,g e mem=some (true,v,d)->rW P f e mem v d
def aEp(P:Program)(f:Nat)(args:List AV)(d:Nat->Option Row)(v:AV)(i:List Nat):Prop :=
 vJ P f/\∀(A0 R:Nat->Prop) (w0 E:Env) (mem:List Row) (h:Array Value),Wd A0 R w0 E mem->(∀k,k∈i->mem[k]?=d k)->xk E->dW E args h.toList ->
  Calls P f h E.w λ e g=>∃u,e=.returned u/\rel { E with w:=g } v u/\Below E.w.heap.size E.w g
def ROk(P:Program)(f:Nat)(g:abd):Prop:=(∀e d i b v h,g e d=some (b,v,h)->(∀k,k∈h->d k=i k)->g e i=some (b,v,h))/\∀e d v h,g e d=some (true,v,h)->aEp P f e d v h
def BR(P:Program)(T:Tab):Prop:=akV P T/\(∀f g,T.m f=some g->MOk P f g)/\(∀f g,T.n f=some g->NOk P f g)/\(∀f g,T.w f=some g->WOk P f g)/\∀f g,T.r f=some g->ROk P f g
section
variable{P:Program}{A0 R:Nat->Prop}{w0:Env}{E:Env}{mem mem':List Row}{nk:Nat}
theorem Wd.made(h:Wd A0 R w0 E mem)(g:E.O nk=none){v:AV}{n:List Nat}{row:Row}(d:kN E mem mem' nk ⟨v,n,none,some row⟩)(cs:Array Value)(e:TypeId)(i:Nat × Nat)
  (f:lQ (E.row (E.w.alloc (.cells cs e)) nk E.w.heap.size i) E.w.heap.size i row) :
  E.le (E.row (E.w.alloc (.cells cs e)) nk E.w.heap.size i)/\Wd A0 R w0 (E.row (E.w.alloc (.cells cs e)) nk E.w.heap.size i) mem':=by
 have j:E.w.grownBy (E.w.alloc (.cells cs e)) (some E.w.heap.size):=aIw _ _ _;refine⟨Env.sV j (Gc (ND _)) (wV g),?_⟩;refine h.row j (by simp) (Gc h.below.size) (Gc (ND _)) (wV g) (d.2 row rfl) ?_ f;intro k q b c l;refine wV ⟨d.1 k q b c l,λ p=>?_⟩;have:=h.small b (h.own k b c l p).1;omega
theorem Wd.written(h:Wd A0 R w0 E mem)(n:E.O nk=none){v:AV}{C:List Nat}{k b:Nat}{c:Nat × Nat}{row f:Row}(g:kN E mem mem' nk ⟨v,C,some (k,f),none⟩)(i:E.O k=some (b,c))(F:mem[k]?=some row)(r:row.live=true)
  (cs:Array Value) (l:lQ (E.row (E.w.setRow b cs) k b c) b c f) :
  E.le (E.row (E.w.setRow b cs) k b c)/\Wd A0 R w0 (E.row (E.w.setRow b cs) k b c) mem':=by
 have z:E.w.grownBy (E.w.setRow b cs) (some b):=⟨rfl,rfl,rfl,by simp[aJF],λ j _ p=>setRow_other _ _ _ _ (λ e=>p (by rw[e]))⟩;have y:aN mem k=true:=by unfold aN;rw[F];exact r
 obtain⟨x,G⟩:=h.own k b c i y;have q:k≠nk:=λ e=>by rw[e,n]at i;cases i
 refine⟨Env.sV z (wV x) (Gc i),?_⟩;refine h.row z (by simpa[aJF]using h.small b x) G (wV x) (Gc i) (by rw[g.1 k q b c i];simp) ?_ l;intro j p B A d;have u:j≠nk:=λ e=>by rw[e,n]at d;cases d
 refine wV ⟨by rw[g.1 j u B A d];simp[p],λ t e=>p ?_⟩;subst e;exact h.one j k B A c d i t y
end
end
noncomputable section
theorem jY{E:Env}:∀{xs:List AV} {us d:List Value},pre E xs us->(∀i,i<xs.length->d[i]?=us[i]?)->pre E xs d
 | [],_,_,_,_=>pre_nil
 |x::xs,us,d,h,hc=>by
  obtain⟨u,f,rfl,k,j⟩:=bF.1 h;have e:=hc 0 (by simp);cases d with
  |nil=>simp at e
  |cons u' us2 =>
   simp at e;subst e;exact bF.2 ⟨u',us2,rfl,k,jY j λ i g=>by have:=hc (i+1) (by simpa using g);simpa using this⟩
theorem G8(l us:List Value)(o:Nat)(h:o+us.length<=l.length)(i:Nat):(l.take o++us++l.drop (o+us.length))[i]?=if i<o then l[i]? else if i<o+us.length then us[i - o]? else l[i]?:=by
 have g:(l.take o).length=o:=by simp;omega
 have f:(l.take o++us).length=o+us.length:=by simp;omega
 by_cases e:i<o
 .rw[gH e,aiK (by omega),aiK (by omega),aCo,gH e]
 .rw[fP e];by_cases d:i<o+us.length
  .rw[gH d,aiK (by omega),aqb (by omega),g]
  .rw[fP d,aqb (by omega),f,anb];congr 1;omega
theorem Zt(l us:List Value)(a o:Nat)(h:a+o+us.length<=l.length):(l.take (a+o)++us++l.drop (a+o+us.length)).drop a=(l.drop a).take o++us++(l.drop a).drop (o+us.length):=by
 apply List.ext_getElem?;intro i;rw[anb,G8 l us (a+o) h,G8 (l.drop a) us o (by simp;omega)];simp only[anb];by_cases e:i<o
 .rw[gH e,gH (by omega)]
 .rw[fP e,fP (by omega)];by_cases d:i<o+us.length
  .rw[gH d,gH (by omega)];congr 1;omega
  .rw[fP d,fP (by omega)]
theorem JF{E:Env}{xs:List AV}{us:List Value}(h:dW E xs us)(d:cK xs=true):dW E.fz xs us:=GJ h d (λ _ f _ e=>⟨f,e⟩)
section
variable{P:Program}{A0 R:Nat->Prop}{w0:Env}{E:Env}{s:St}{mem':List Row}{nk:Nat}{a:Act}{o:Oper}{K:Act->World->Prop}{Q:Exit->Act->World->Prop}
theorem Env.Zu{E:Env}{w':World}{d g:Nat}{f:Nat × Nat}:∀k p,(E.row w' d g f).O k=some p->E.O k=some p\/k=d:=λ k p h=>by
 by_cases e:k=d
 .exact Gc e
 .exact wV (by simpa[Env.row,e]using h)
theorem Env.DX{E:Env}{w':World}{d g nk:Nat}{f:Nat × Nat}(i:E.O d=some (g,f)):∀k p,(E.row w' d g f).O k=some p->E.O k=some p\/k=nk:=λ k p h=>by
 by_cases e:k=d
 .subst e;exact wV (by rw[i];simpa[Env.row]using h)
 .exact wV (by simpa[Env.row,e]using h)
theorem ant(l:Wd A0 R w0 E s.mem)(d:E.O nk=none){h:List Nat}{cells:List AV}(f:kN E s.mem mem' nk ⟨.own nk 0,h,none,some (.c cells)⟩){cs:Array Value}(e:TypeId)(i:dW E cells cs.toList) :
  ∃E',E'.w=E.w.alloc (.cells cs e)/\E.le E'/\(∀k p,E'.O k=some p->E.O k=some p\/k=nk)/\Wd A0 R w0 E' mem'/\rel E' (.own nk 0) (.pointer (some ⟨E.w.heap.size,0,none⟩)):=by
 have j:E.w.grownBy (E.w.alloc (.cells cs e)) (some E.w.heap.size):=aIw _ _ _;have g:E.le (E.row (E.w.alloc (.cells cs e)) nk E.w.heap.size (0,0)):=Env.sV j (Gc (ND _)) (wV d);obtain⟨q,n⟩:=l.made d f cs e (0,0) ⟨cs,e,heap_alloc_new _ _,iV (Bc g i)⟩;exact⟨_,rfl,q,Env.Zu,n,mP.2 ⟨E.w.heap.size,(0,0),by simp[Env.row],rfl⟩⟩
theorem azK(n:Wd A0 R w0 E s.mem)(d:E.O nk=none){i:List Nat}{cells:List AV}(e:TypeId)(f:kN E s.mem mem' nk ⟨.own nk 0,i,none,some (.t e cells)⟩){cs:Array Value}(h:dW E cells cs.toList) :
  ∃E',E'.w=E.w.alloc (.cells cs e)/\E.le E'/\(∀k p,E'.O k=some p->E.O k=some p\/k=nk)/\Wd A0 R w0 E' mem'/\rel E' (.own nk 0) (.pointer (some ⟨E.w.heap.size,0,none⟩)):=by
 have l:E.w.grownBy (E.w.alloc (.cells cs e)) (some E.w.heap.size):=aIw _ _ _;have g:E.le (E.row (E.w.alloc (.cells cs e)) nk E.w.heap.size (0,0)):=Env.sV l (Gc (ND _)) (wV d);have j:=fO h;obtain⟨r,q⟩:=n.made d f cs e (0,0) ⟨cs,heap_alloc_new _ _,iV (Bc g h),by simp at j;omega⟩;exact⟨_,rfl,r,Env.Zu,q,mP.2 ⟨E.w.heap.size,(0,0),by simp[Env.row],rfl⟩⟩
theorem aia{t:TypeId}{p x:Operand}{bT:Eff}(J:Wd A0 R w0 E s.mem)(X:E.O nk=none)(hop:o.op=.store t p x)(hd:o.dst=none)(hp:rel E (aI s p) (a.eval p))(hx:rel E (aI s x) (a.eval x))
  (h:KX P s t (aI s p) (aI s x)=some (true,bT)) (I:kN E s.mem mem' nk bT) (hK:∀E' u,E.le E'->(∀k p,E'.O k=some p->E.O k=some p\/k=nk)->Wd A0 R w0 E' mem'->rel E' bT.v u->K (a.put o.dst u) E'.w):o.wp P a E.w K Q:=by
 unfold KX at h;split at h
 .rename_i C qC;cases hk:(xg (aI s x)&&((aI s x).cells.length==C.size))
  .rw[hk]at h;cases h
  .rw[hk]at h;simp only[aY]at h;simp only[CX,WO]at hk;obtain⟨hpx,hsz⟩:=hk;have hc:=KA hx hpx;have hlc:=fO hc;have hone:=cells_one hc (UH hpx)
   have N:∀(b d:Nat) (f:Array Value) (e:TypeId),a.eval p=.pointer (some ⟨b,d,none⟩)->E.w.heap[b]?=some (.cells f e (0,0))->d+C.size<=f.size ->
     (∃E' u,E'.w=E.w.setRow b (f.toList.take d++(a.eval x).cells.toList++f.toList.drop (d+(a.eval x).cells.toList.length)).toArray/\E.le E'/\(∀k p,E'.O k=some p->E.O k=some p\/k=nk)/\Wd A0 R w0 E' mem'/\rel E' bT.v u)->o.wp P a E.w K Q:=by
    intro b d f e G y r ⟨E',u,hw,h1,hO,h2,h3⟩;have hsz':(a.eval x).cells.size=C.size:=by simp at hlc;omega
    have S:=run_storeCells_at (P:=P) b d e (a.eval x).cells.toList 0 f E.w y (by simp;omega) hone
    have hrun:(aNu t (.pointer (some ⟨b,d,none⟩)) (a.eval x)).run P E.w=.ok () (E.w.setRow b (f.toList.take d++(a.eval x).cells.toList++f.toList.drop (d+(a.eval x).cells.toList.length)).toArray):=by simp only[aIA]at S;simp[aNu,aJp,storeVar,sizeOf,typeInfo,qC,hsz']at S ⊢;exact S
    unfold aIl execOp;simp only[hop,G,QJ,hrun,uT,aax,Oper.upon_skip,hd,Act.put];have:=hK E' u h1 hO h2 h3;rw[hw,hd]at this;exact this
   split at h
   .rename_i k d U;rw[U]at hp;obtain⟨b,c,B,G⟩:=mP.1 hp;split at h
    .rename_i l g;cases F:apB (d+C.size) l.length
     .rw[F]at h;cases h
     .rw[F]at h;simp only[aY,gU,Ew,true_and]at h;subst h;have hl':=Ou F;obtain⟨row,M,H⟩:=J.rows k b c B;rw[g]at M;cases M;obtain⟨f,e,y,z⟩:=H;have W:=GD z;refine N b d f e G y (by simp at W;omega) ?_
      have r:E.le (E.row (E.w.setRow b (f.toList.take d++(a.eval x).cells.toList++f.toList.drop (d+(a.eval x).cells.toList.length)).toArray) k b c):=Env.sV ⟨rfl,rfl,rfl,by simp[aJF],λ j _ Z=>setRow_other _ _ _ _ (λ e=>Z (by rw[e]))⟩
       (wV (J.own k b c B (by unfold aN;rw[g];rfl)).1) (Gc B)
      obtain⟨h1,h2⟩:=J.written X I B g rfl (f.toList.take d++(a.eval x).cells.toList++f.toList.drop (d+(a.eval x).cells.toList.length)).toArray ⟨_,e,setRow_heap E.w b f _ e (0,0) y,by have:=zW d (lT r z) (Bc r hc) (by omega);simpa[DV]using this⟩
      exact⟨_,undef,rfl,h1,Env.DX B,h2,tQ⟩
    .rename_i e l g;cases F:apB (d+C.size) l.length
     .rw[F]at h;cases h
     .rw[F]at h;simp only[aY,gU,Ew,true_and]at h;subst h;have hl':=Ou F;obtain⟨row,M,H⟩:=J.rows k b c B;rw[g]at M;cases M;obtain⟨f,y,z,aHg⟩:=H;have W:=GD z;refine N b d f e G y (by simp at W;omega) ?_
      have r:E.le (E.row (E.w.setRow b (f.toList.take d++(a.eval x).cells.toList++f.toList.drop (d+(a.eval x).cells.toList.length)).toArray) k b c):=Env.sV ⟨rfl,rfl,rfl,by simp[aJF],λ j _ Z=>setRow_other _ _ _ _ (λ e=>Z (by rw[e]))⟩
       (wV (J.own k b c B (by unfold aN;rw[g];rfl)).1) (Gc B)
      obtain⟨h1,h2⟩:=J.written X I B g rfl (f.toList.take d++(a.eval x).cells.toList++f.toList.drop (d+(a.eval x).cells.toList.length)).toArray ⟨_,setRow_heap E.w b f _ e (0,0) y,by
       have:=zW d (lT r z) (Bc r hc) (by omega);simpa[DV]using this,by
       have hcl:=fO hc;simp only[aJ4]at hcl;simp only[aIJ,aiR,aFk,aIv,aJ4,DV];omega⟩
      exact⟨_,undef,rfl,h1,Env.DX B,h2,tQ⟩
    .cases h
   .rename_i k A q sub U;rw[U]at hp;obtain⟨b,c,B,G⟩:=wZ.1 hp;split at h
    .rename_i e0 sz' n el g;cases F:((A==sz')&&(cK (aI s x).cells&&apB (sub+C.size) (el q).length))
     .rw[F]at h;cases h
     .rw[F]at h;simp only[aY,gU,Ew]at h;obtain⟨hq,h⟩:=h;subst h;simp only[CX,WO]at F;obtain⟨e1,hno,F⟩:=F;subst e1;have hl':=Ou F;have hqn:q<n:=Ou hq;obtain⟨row,M,H⟩:=J.rows k b c B;rw[g]at M;cases M;obtain⟨f,y,hsize,hn,hnc,hcm,hel⟩:=H;obtain⟨hlq,hpq⟩:=hel q hqn
      have hbig:q*A+A<=f.size:=by rw[hsize];have:(q+1)*A<=c.1*A:=ahL _ (by omega);rw[auK]at this;omega
      refine N b (q*A+sub) f e0 G y (by omega) ?_
      have r:E.le (E.row (E.w.setRow b (f.toList.take (q*A+sub)++(a.eval x).cells.toList++f.toList.drop (q*A+sub+(a.eval x).cells.toList.length)).toArray) k b c):=Env.sV ⟨rfl,rfl,rfl,by simp[aJF],λ j _ Z=>setRow_other _ _ _ _ (λ e=>Z (by rw[e]))⟩
       (wV (J.own k b c B (by unfold aN;rw[g];rfl)).1) (Gc B)
      have hlen:(a.eval x).cells.toList.length=C.size:=by omega
      have Jr:q*A+sub+(a.eval x).cells.toList.length<=f.toList.length:=by rw[hlen];simp;omega
      obtain⟨h1,h2⟩:=J.written X I B g rfl (f.toList.take (q*A+sub)++(a.eval x).cells.toList++f.toList.drop (q*A+sub+(a.eval x).cells.toList.length)).toArray ⟨_,setRow_heap E.w b f _ e0 (0,0) y,by rw[<-hsize];simp only[aIJ,aiR,aFk,aIv];simp at Jr ⊢;omega,hn,hnc,hcm,by
       intro j Z;obtain⟨hlj,hpj⟩:=hel j Z;refine⟨JC (λ _=>by simp only[DV,aiR,aFk,aIv];omega) (λ _=>hlj),JB (λ Y=>?_) (λ Y=>?_)⟩
       .have e2:=Aw Y;subst e2;have:=zW sub (lT r.fz hpq) (JF (Bc r hc) hno) (by omega);rw[Zt f.toList _ (j*A) sub Jr];simpa[DV]using this
       .refine jY (lT r.fz hpj) λ i hi=>?_;rw[anb,anb,G8 _ _ _ Jr];have hne:j≠q:=λ e=>by simp[e]at Y
        rw[hlj]at hi;rcases Nat.lt_or_gt_of_ne hne with hlt |hgt
        .have:(j+1)*A<=q*A:=ahL _ hlt;rw[auK]at this;rw[gH (by omega)]
        .have:(q+1)*A<=j*A:=ahL _ hgt;rw[auK]at this;rw[fP (by omega),fP (by omega)]⟩
      exact⟨_,undef,rfl,h1,Env.DX B,h2,tQ⟩
    .cases h
   .cases h
 .cases h
end
end
noncomputable section
theorem JG(d:Nat):∀(l:List (AV × Nat)) (xs:List AV),(l.foldl (λ cs (p:AV × Nat)=>cs.set (d+p.2) p.1) xs).length=xs.length
 | [],_=>rfl
 |p::l,xs=>by rw[List.foldl_cons,JG d l];simp
theorem KZ{place:Nat->Option (Nat × Nat)}:∀{f:List (Nat × AV)} {xs rs:List AV},Aa place xs f=some rs->rs.length=xs.length
 | [],xs,rs,h=>by simp only[Aa,gU]at h;rw[h]
 | (i,x)::f,xs,rs,h=>by
  unfold Aa at h;split at h
  .rename_i e d j;cases g:(xg x&&((x.cells.length==d)&&apB (e+d) xs.length))
   .rw[g]at h;cases h
   .rw[g]at h;simp only[aY]at h;rw[KZ h,JG]
  .cases h
theorem anu(z:Array Value)(n q j:Nat)(d:j<z.size)(hq:q*z.size+z.size<=n):((madeCells z n).toList.drop (q*z.size))[j]?=z.toList[j]?:=by
 rw[anb];have f:q*z.size+j<(madeCells z n).size:=by rw[size_madeCells];omega
 have e:(q*z.size+j) % z.size=j:=by rw[aEw,Nat.mul_add_mod];exact Nat.mod_eq_of_lt d
 rw[aIh,aIh,ayT f,ayT d];simp[madeCells,e,d]
section
variable{P:Program}{A0 R:Nat->Prop}{w0:Env}{E:Env}{s:St}{mem':List Row}{nk:Nat}{a:Act}{o:Oper}{K:Act->World->Prop}{Q:Exit->Act->World->Prop}
theorem adl(t:Wd A0 R w0 E s.mem)(f:E.O nk=none){e:TypeId}{d n cap:Nat}{el:Nat->List AV}(g:kN E s.mem mem' nk ⟨.bQ nk d 0 n,[],none,some (.a e d n el)⟩){cs:Array Value}
  (hs:cs.size=cap*d) (j:n<=cap) (r:cap<=maxLen) (l:∀E',E.le E'->∀i,i<n->(el i).length=d/\pre E'.fz (el i) (cs.toList.drop (i*d))) :
  ∃E',E'.w=E.w.alloc (.cells cs e)/\E.le E'/\(∀k p,E'.O k=some p->E.O k=some p\/k=nk)/\Wd A0 R w0 E' mem'/\rel E' (.bQ nk d 0 n) (.slice (some ⟨E.w.heap.size,0,none⟩) n cap):=by
 have q:E.w.grownBy (E.w.alloc (.cells cs e)) (some E.w.heap.size):=aIw _ _ _;have h:E.le (E.row (E.w.alloc (.cells cs e)) nk E.w.heap.size (cap,n)):=Env.sV q (Gc (ND _)) (wV f);obtain⟨x,u⟩:=t.made f g cs e (cap,n) ⟨cs,heap_alloc_new _ _,hs,rfl,j,r,l _ h⟩;exact⟨_,rfl,x,Env.Zu,u,dV.2 (Gc ⟨E.w.heap.size,cap,n,by simp[Env.row],by omega,j,by simp⟩)⟩
theorem azL(j:Bool)(q:Wd A0 R w0 E s.mem)(g:E.O nk=none){e:TypeId}{d n:Nat}{el:Nat->List AV}(f:kN E s.mem mem' nk ⟨.bQ nk d 0 n,[],none,some (au2 j e d n el)⟩){cs:Array Value}
  (hs:cs.size=n*d) (t:n<=maxLen) (l:∀E',E.le E'->∀i,i<n->(el i).length=d/\pre E'.fz (el i) (cs.toList.drop (i*d))) :
  ∃E',E'.w=E.w.alloc (.cells cs e)/\E.le E'/\(∀k p,E'.O k=some p->E.O k=some p\/k=nk)/\Wd A0 R w0 E' mem'/\rel E' (.bQ nk d 0 n) (.slice (some ⟨E.w.heap.size,0,none⟩) n n):=by
 cases j with
 |false=>exact adl q g f hs (ND _) t l
 |true =>
  have r:E.w.grownBy (E.w.alloc (.cells cs e)) (some E.w.heap.size):=aIw _ _ _;have h:E.le (E.row (E.w.alloc (.cells cs e)) nk E.w.heap.size (n,n)):=Env.sV r (Gc (ND _)) (wV g);obtain⟨x,u⟩:=q.made g f cs e (n,n) ⟨cs,_,heap_alloc_new _ _,rfl,λ _=>⟨rfl,hs⟩,l _ h⟩;exact⟨_,rfl,x,Env.Zu,u,dV.2 (Gc ⟨E.w.heap.size,n,n,by simp[Env.row],by omega,ND _,by simp⟩)⟩
theorem Zv{zz:Bool}{t:TypeId}{len:Nat}{f:Array (Nat × Operand)}{bT:Eff}(hW:Wd A0 R w0 E s.mem)(U:E.O nk=none)(S:o.op=.buildSlice t len f)(hρ:∀y,y∈f.toList.map (·.2)->rel E (aI s y) (a.eval y))
  (h:JE P nk t len (f.toList.map λ p=>(p.1,aI s p.2)) zz=some (true,bT)) (C:kN E s.mem mem' nk bT) (hK:∀E' u,E.le E'->(∀k p,E'.O k=some p->E.O k=some p\/k=nk)->Wd A0 R w0 E' mem'->rel E' bT.v u->K (a.put o.dst u) E'.w):o.wp P a E.w K Q:=by
 unfold JE at h;split at h
 .rename_i F G;split at h
  .rename_i d z H hz;cases B:(Tv 0 (len*d)&&apB (len*d) 16777216)
   .rw[B]at h;cases h
   .rw[B]at h;simp only[aY]at h;simp only[CX]at B;have g:0<len*d:=Ou B.1;have hbig:len*d<=16777216:=Ou B.2;split at h
    .rename_i cells Zx;cases n:cK cells
     .rw[n]at h;cases h
     .rw[n]at h;simp only[aY,gU,Ew,true_and]at h;subst h;have M:ahc E (f.toList.map λ p=>(p.1,aI s p.2)) (f.toList.map λ p=>(p.1,a.eval p.2)):=ML hρ;have J:(f.map λ(i,y)=>(i,a.eval y)).toList=f.toList.map λ p=>(p.1,a.eval p.2):=by simp
      obtain⟨r,h1,h2⟩:=Dn _ M (sM E _) Zx
      have A:r.size=len*d:=by have e1:=fO h2;rw[KZ Zx]at e1;simp at e1;omega
      have azM:=fJ E.w H;have azN:=fJ E.w hz;have l:¬len*d=0:=by omega
      have q:¬len*d>2 ^ 24:=by omega
      have x:(aIo t len (f.map λ(i,y)=>(i,a.eval y))).run P E.w=.ok (.slice (some ⟨E.w.heap.size,0,none⟩) len len) (E.w.alloc (.cells r F)):=by simp only[aIo,QJ,run_underlying G,uT,azM,aLq,q,l,if_false,azN,aax,J,h1,newRow,run_newObj];rfl
      have I:0<d:=aJi λ e=>by rw[e]at g;simp at g
      have W:len<=maxLen:=by have:len*1<=len*d:=apL _ I;simp only[maxLen];omega
      have hcl:cells.length=len*d:=by have:=fO h2;simp at this;omega
      obtain⟨E',e1,e2,eO,e3,e4⟩:=azL zz hW U C A W (λ E' X i hi=>by
       have hi2:i*d+d<=len*d:=by have:(i+1)*d<=len*d:=ahL _ hi;rw[auK]at this;omega
       have Z:=JF (Bc X h2) n;refine⟨by simp only[chunk,aFk,aIv];omega,?_⟩;have N:=iV (w9 (i*d) d (iV Z) (by omega));refine jY N λ j hj=>?_;have Y:j<d:=anS hj (by simp only[chunk,aFk];omega);rw[aCo,gH Y])
      unfold aIl execOp;simp only[S,QJ,x,uT,aax,aIb];have:=hK E' _ e2 eO e3 e4;rw[e1]at this;exact this
    .cases h
  .cases h
 .cases h
theorem adn{t:TypeId}{len:Nat}{q:Array (Nat × Operand)}{bT:Eff}(hW:Wd A0 R w0 E s.mem)(Z:E.O nk=none)(Y:o.op=.buildSlice t len q)(hρ:∀y,y∈q.toList.map (·.2)->rel E (aI s y) (a.eval y))
  (h:VL P t len (q.toList.map λ p=>(p.1,aI s p.2))=some (true,bT)) (J:kN E s.mem mem' nk bT) (hK:∀E' u,E.le E'->(∀k p,E'.O k=some p->E.O k=some p\/k=nk)->Wd A0 R w0 E' mem'->rel E' bT.v u->K (a.put o.dst u) E'.w):o.wp P a E.w K Q:=by
 unfold VL at h;split at h
 .rename_i f M;split at h
  .rename_i d z N hz;cases H:(Tv 0 (len*d)&&apB (len*d) 16777216)
   .rw[H]at h;cases h
   .rw[H]at h;simp only[aY]at h;simp only[CX]at H;have r:0<len*d:=Ou H.1;have hbig:len*d<=16777216:=Ou H.2;split at h
    .rename_i cells Zx;cases A:cK cells
     .rw[A]at h;cases h
     .rw[A]at h;simp only[aY,gU,Ew,true_and]at h;subst h;have W:ahc E (q.toList.map λ p=>(p.1,aI s p.2)) (q.toList.map λ p=>(p.1,a.eval p.2)):=ML hρ;have U:(q.map λ(i,y)=>(i,a.eval y)).toList=q.toList.map λ p=>(p.1,a.eval p.2):=by simp
      obtain⟨n,h1,h2⟩:=Dn _ W (sM E _) Zx
      have hlen:n.size=len*d:=by have e1:=fO h2;rw[KZ Zx]at e1;simp at e1;omega
      have azM:=fJ E.w N;have azN:=fJ E.w hz;have x:¬len*d=0:=by omega
      have B:¬len*d>2 ^ 24:=by omega
      have F:(aIo t len (q.map λ(i,y)=>(i,a.eval y))).run P E.w=.ok (.slice (some ⟨E.w.heap.size,0,none⟩) len len) (E.w.alloc (.cells n f)):=by simp only[aIo,QJ,run_underlying M,uT,azM,aLq,B,x,if_false,azN,aax,U,h1,newRow,run_newObj];rfl
      have S:0<d:=aJi λ e=>by rw[e]at r;simp at r
      have hlm:len<=maxLen:=by have:len*1<=len*d:=apL _ S;simp only[maxLen];omega
      have hcl:cells.length=len*d:=by have:=fO h2;simp at this;omega
      obtain⟨g,C⟩:=hW.on (w':=E.w.alloc (.cells n f)) ((Below.refl _ _).alloc (ND _) _);have same:∀k b c,E.O k=some (b,c)->mem'[k]?=s.mem[k]?:=λ k b c l=>J.1 k (λ e=>by rw[e,Z]at l;cases l) b c l;have live:∀k b c,E.O k=some (b,c)->aN mem' k=aN s.mem k:=λ k b c l=>by unfold aN;rw[same k b c l]
      have G:rel { E with w:=E.w.alloc (.cells n f) } (.sl d len (chunk cells d)) (.slice (some ⟨E.w.heap.size,0,none⟩) len len):=by
       refine iZ.2 ⟨_,_,rfl,ND _,Gc ⟨E.w.heap.size,0,n,f,_,rfl,λ hA=>aJj _ (hW.small _ hA),heap_alloc_new _ _,λ i hi=>?_⟩⟩
       have hi2:i*d+d<=len*d:=by have:(i+1)*d<=len*d:=ahL _ hi;rw[auK]at this;omega
       have hfz:=JF (Bc C h2) A;refine⟨by simp only[chunk,aFk,aIv];omega,?_⟩;rw[ZO];have X:=iV (w9 (i*d) d (iV hfz) (by omega));refine jY X λ j hj=>?_;have hj':j<d:=anS hj (by simp only[chunk,aFk];omega);rw[aCo,gH hj']
      unfold aIl execOp;simp only[Y,QJ,F,uT,aax,aIb];exact hK { E with w:=E.w.alloc (.cells n f) } _ C (λ _ _ h=>wV h) ⟨λ k b c l=>by rw[same k b c l];exact g.rows k b c l,g.small,g.old,λ k b c l hl=>g.own k b c l (by rw[<-live k b c l];exact hl),λ k k' b c c' l I hl hl'=>g.one k k' b c c' l I (by rw[<-live k b c l];exact hl) (by rw[<-live k' b c' I];exact hl'),g.below,g.zA⟩ G
    .cases h
  .cases h
 .cases h
theorem ado{G:Bool}{t:TypeId}{len:Nat}{e:Array (Nat × Operand)}{A:Eff}(C:Wd A0 R w0 E s.mem)(n:E.O nk=none)(j:o.op=.buildSlice t len e)(hρ:∀y,y∈e.toList.map (·.2)->rel E (aI s y) (a.eval y))
  (h:MX P nk t len (e.toList.map λ p=>(p.1,aI s p.2)) G=some (true,A)) (d:kN E s.mem mem' nk A) (F:∀E' u,E.le E'->(∀k p,E'.O k=some p->E.O k=some p\/k=nk)->Wd A0 R w0 E' mem'->rel E' A.v u->K (a.put o.dst u) E'.w):o.wp P a E.w K Q:=by
 unfold MX at h;split at h
 .rename_i g
  have z:e=#[]:=by obtain⟨l⟩:=e;simp only[List.map_eq_nil_iff]at g;rw[g]
  subst z;unfold VK at h;split at h
  .rename_i q r;split at h
   .rename_i B x;simp only[gU,Ew,true_and]at h;subst h
    have f:(aIo t 0 #[]).run P E.w=.ok (.slice (some ⟨E.w.heap.size,0,none⟩) 0 0) (E.w.alloc (.cells #[] q)):=by
     have I:¬(0:Nat)>2 ^ 24:=by omega
     simp only[aIo,QJ,run_underlying r,uT,fJ E.w x,Nat.zero_mul,I,if_false,if_true,newRow,run_newObj,aax,Instr.fill];simp[show aL7 0=#[] from rfl]
    obtain⟨E',e1,e2,J,e3,e4⟩:=adl C n d (cs:=#[]) (cap:=0) (by simp) (ND _) (by simp[maxLen]) (λ E' H i M=>by omega);unfold aIl execOp;simp only[j,aJW,aK0,QJ,f,uT,aax,aIb];have:=F E' _ e2 J e3 e4;rw[e1]at this;exact this
   .cases h
  .cases h
 .exact Zv C n j hρ h d F
theorem anv{t:TypeId}{l c:Operand}{S:Eff}(hW:Wd A0 R w0 E s.mem)(H:E.O nk=none)(F:o.op=.makeSlice t l c)(y:rel E (aI s l) (a.eval l))(B:rel E (aI s c) (a.eval c))
  (h:afN P nk t (aI s l) (aI s c)=some (true,S)) (x:kN E s.mem mem' nk S) (hK:∀E' u,E.le E'->(∀k p,E'.O k=some p->E.O k=some p\/k=nk)->Wd A0 R w0 E' mem'->rel E' S.v u->K (a.put o.dst u) E'.w):o.wp P a E.w K Q:=by
 unfold afN at h;split at h
 .rename_i X W Y d e n M C;rw[n]at y;rw[M]at B;have y:=cB.1 y;have B:=cB.1 B;split at h
  .rename_i i hi;split at h
   .rename_i z Z;cases A:(((z.cells.size==i.size)&&Tv 0 i.bytes)&&cK (z.cells.toList.map Dm))
    .rw[A]at h;cases h
    .rw[A]at h;simp only[aY,gU,Ew]at h;obtain⟨U,rfl⟩:=h;simp only[CX,WO]at A;simp only[CX,UM]at U;obtain⟨⟨f,r⟩,G⟩:=A;obtain⟨h0,I,N⟩:=U;have r:0<i.bytes:=Ou r
     have aHh:d<=281474976710656:=by have:(1:Int)*d<=(i.bytes:Int)*d:=Int.mul_le_mul_of_nonneg_right (by omega) (by omega);omega
     have g:=run_make (P:=P) E.w t e i z C hi Z X Y W d h0 I N (by omega)
     obtain⟨E',e1,e2,eO,e3,e4⟩:=adl hW H x (cs:=madeCells z.cells (d.toNat*i.size)) (cap:=d.toNat) (by rw[size_madeCells]) (by omega) (by simp only[maxLen];omega) (λ E' n q hq=>by
      refine⟨by simp[f],?_⟩;refine jY (iV (JF (E:=E') (sM E' z.cells.toList) G)) λ j hj=>?_;have J:j<z.cells.size:=by simpa using hj
      rw[<-f];refine anu z.cells _ q j J ?_;have:(q+1)*z.cells.size<=d.toNat*z.cells.size:=ahL _ (by omega);rw[auK]at this;omega)
     unfold aIl execOp;simp only[F,y,B,QJ,g,uT,aax,aIb];have:=hK E' _ e2 eO e3 e4;rw[e1]at this;exact this
   .cases h
  .cases h
 .cases h
end
end
noncomputable section
theorem anw{P:Program}{A0 R:Nat->Prop}{w0:Env}{E:Env}{s:St}{mem':List Row}{nk:Nat}{a:Act}{o:Oper}{K:Act->World->Prop}{Q:Exit->Act->World->Prop}{t:TypeId}{x y:Operand}{e:Eff}(_hW:Wd A0 R w0 E s.mem)(_:E.O nk=none)
  (_:o.op=.call { callee:=.builtin .copy,args:=#[x,y],argTypes:=#[t,t] }) (_hx:rel E (aI s x) (a.eval x)) (_hy:rel E (aI s y) (a.eval y))
  (h:anq P s t (aI s x) (aI s y)=some (true,e)) (_:kN E s.mem mem' nk e) (_hK:∀d u,E.le d->(∀k p,d.O k=some p->E.O k=some p\/k=nk)->Wd A0 R w0 d mem'->rel d e.v u->K (a.put o.dst u) d.w):o.wp P a E.w K Q:=by
 unfold anq at h;cases h
theorem Zy{w:World}{b n:Nat}{cs:Array Value}{e:TypeId}(h:w.heap[b]?=some (.cells cs e (0,0))):(w.freeze ⟨b,n,none⟩ 1).heap[b]?=some (.cells cs e (n,n+1)):=by unfold aIL;rw[fP (by decide)];simp[aJG,h]
theorem VP{w:World}{b n:Nat}{cs:Array Value}{e:TypeId}{fz:Nat × Nat}(h:w.heap[b]?=some (.cells cs e fz)):∃d,(w.freeze ⟨b,n,none⟩ 1).heap[b]?=some (.cells cs e d):=by unfold aIL;rw[fP (by decide)];simp[aJG,h]
theorem JH(w:World)(b n:Nat):w.grownBy (w.freeze ⟨b,n,none⟩ 1) (some b):=by
 refine⟨?_,?_,?_,?_,λ j _ f=>?_⟩
 .unfold aIL;rw[fP (by decide)]
 .unfold aIL;rw[fP (by decide)]
 .unfold aIL;rw[fP (by decide)]
 .unfold aIL;rw[fP (by decide)];simp
 .unfold aIL;rw[fP (by decide)];have d:b≠j:=λ e=>f (by rw[e]);simp[aJG,d]
theorem anz{P:Program}{A0 R:Nat->Prop}{w0:Env}{E:Env}{s:St}{mem':List Row}{nk:Nat}{a:Act}{o:Oper}{K:Act->World->Prop}{Q:Exit->Act->World->Prop}{g dst:TypeId}{x:Operand}{bT:Eff}(F:Wd A0 R w0 E s.mem)(G:E.O nk=none)
  (hop:o.op=.convert g dst x) (Z:rel E (aI s x) (a.eval x))
  (h:SS P s g dst (aI s x)=some (true,bT)) (q:kN E s.mem mem' nk bT) (hK:∀E' u,E.le E'->(∀k p,E'.O k=some p->E.O k=some p\/k=nk)->Wd A0 R w0 E' mem'->rel E' bT.v u->K (a.put o.dst u) E'.w):o.wp P a E.w K Q:=by
 unfold SS at h;split at h
 .rename_i e hun;split at h
  .rename_i he;cases I:g==dst
   .rw[I]at h;cases h
   .rw[I]at h;simp only[aY]at h;have e1:=Aw I;subst e1;split at h
    .rename_i k sz st n hxe;split at h
     .rename_i e2 H m el y;simp only[gU,Ew]at h;obtain⟨hn,rfl⟩:=h;have hn:0<n:=Ou hn;rw[hxe]at Z;rcases dV.1 Z with⟨_,h2,_⟩ | ⟨b,c,r,f,h1,h2,hv⟩
      .omega
      .obtain⟨row,hr,J⟩:=F.rows k b (c,r) f;rw[y]at hr;cases hr;obtain⟨C,B,hsize,W,hnc,hcm,A⟩:=J;have U:=JH E.w b C.size;have hl:aN s.mem k=true:=by unfold aN;rw[y];rfl
       obtain⟨Y,hR⟩:=F.own k b (c,r) f hl;have M:k≠nk:=λ e=>by rw[e,G]at f;cases f
       have l:E.le (E.row (E.w.freeze ⟨b,C.size,none⟩ 1) k b (c,r)):=Env.sV U (wV Y) (Gc f)
       have X:Wd A0 R w0 (E.row (E.w.freeze ⟨b,C.size,none⟩ 1) k b (c,r)) mem':=by
        refine F.row U (anS (F.small b Y) U.size) hR (wV Y) (Gc f) (anp:=.z false e2 H m el) (by rw[q.1 k M b (c,r) f];simp) ?_ ⟨C,_,Zy B,W,λ h=>(Bool.false_ne_true h).elim,λ i hi=>⟨(A i hi).1,lT l.fz (A i hi).2⟩⟩;intro j hj b' c' d;have S:j≠nk:=λ e=>by rw[e,G]at d;cases d
        refine wV ⟨by rw[q.1 j S b' c' d];simp[hj],λ N e=>hj ?_⟩;subst e;exact F.one j k b' c' (c,r) d f N hl
       have t:(convert g g (a.eval x)).run P E.w=.ok (a.eval x) (E.w.freeze ⟨b,C.size,none⟩ 1):=by rw[hv];simp[convert,run_underlying hun,run_underlying he,markStringish,aNI,B]
       unfold aIl execOp;simp only[hop,QJ,t,uT,aax];exact hK _ _ l (Env.DX f) X (lS l Z)
     .rename_i xx e2 H m el y;simp only[gU,Ew]at h;obtain⟨hn,rfl⟩:=h;have hn:0<n:=Ou hn;rw[hxe]at Z;rcases dV.1 Z with⟨_,h2,_⟩ | ⟨b,c,r,f,h1,h2,hv⟩
      .omega
      .obtain⟨row,hr,J⟩:=F.rows k b (c,r) f;rw[y]at hr;cases hr;obtain⟨C,fz0,B,W,hxx,A⟩:=J;have U:=JH E.w b C.size;have hl:aN s.mem k=true:=by unfold aN;rw[y];rfl
       obtain⟨Y,hR⟩:=F.own k b (c,r) f hl;have M:k≠nk:=λ e=>by rw[e,G]at f;cases f
       have l:E.le (E.row (E.w.freeze ⟨b,C.size,none⟩ 1) k b (c,r)):=Env.sV U (wV Y) (Gc f)
       have X:Wd A0 R w0 (E.row (E.w.freeze ⟨b,C.size,none⟩ 1) k b (c,r)) mem':=by
        refine F.row U (anS (F.small b Y) U.size) hR (wV Y) (Gc f) (anp:=.z xx e2 H m el) (by rw[q.1 k M b (c,r) f];simp) ?_ ⟨C,_,(VP B).choose_spec,W,hxx,λ i hi=>⟨(A i hi).1,lT l.fz (A i hi).2⟩⟩;intro j hj b' c' d;have S:j≠nk:=λ e=>by rw[e,G]at d;cases d
        refine wV ⟨by rw[q.1 j S b' c' d];simp[hj],λ N e=>hj ?_⟩;subst e;exact F.one j k b' c' (c,r) d f N hl
       have t:(convert g g (a.eval x)).run P E.w=.ok (a.eval x) (E.w.freeze ⟨b,C.size,none⟩ 1):=by rw[hv];simp[convert,run_underlying hun,run_underlying he,markStringish,aNI,B]
       unfold aIl execOp;simp only[hop,QJ,t,uT,aax];exact hK _ _ l (Env.DX f) X (lS l Z)
     .cases h
    .cases h
  .cases h
 .cases h
end
noncomputable section
section
variable{P:Program}{A0 R:Nat->Prop}{w0:Env}{E:Env}{s:St}{mem':List Row}{nk:Nat}{a:Act}{o:Oper}{K:Act->World->Prop}{Q:Exit->Act->World->Prop}
theorem PG{f j m:Nat}{y:AV}{J:List (List AV)}{v:Value}(hW:Wd A0 R w0 E s.mem)(hv:rel E y v)(h:LV s.mem f y=some (j,m,J))(H:(J.all λ g=>g.all lZ)=true) :
  ∃(ad:Addr) (c:Nat) (news:List Value),v=.slice (some ad) m c/\news.length=m*f/\(∀j u,news[j]?=some u->E.w.cell? (ad.add j)=some u)/\(∀u∈news,u.oneCell'=true)/\0<m/\J.length=m/\∀p g,J[p]?=some g->g.length=f/\pre E.fz g (news.drop (p*f)):=by
 unfold LV at h;split at h
 .rename_i k sz l;split at h
  .rename_i e' d n el Y;cases M:((sz==f)&&((d==f)&&Tv 0 l))
   .rw[M]at h;cases h
   .rw[M]at h;simp only[aY,gU,Ew]at h;simp only[CX,WO]at M;obtain⟨rfl,rfl,r⟩:=M;have r:0<l:=Ou r;obtain⟨_,rfl,rfl⟩:=h;obtain⟨b,c,n',hb,h1,h2,rfl⟩:=(dV.1 hv).resolve_left (λ hz=>by have:=hz.2.1;omega);obtain⟨row,hr,U⟩:=hW.rows k b _ hb;rw[Y]at hr;cases hr;obtain⟨O,hcs,hsize,hn,X,hcm,hel⟩:=U;simp only at hn hsize X;have hbig:l*d<=O.size:=by rw[hsize];exact ahL _ (by omega)
    have q:∀p,p<l->(el p).length=d/\pre E.fz (el p) ((O.toList.take (l*d)).drop (p*d)):=λ p F=>by obtain⟨G,W⟩:=hel p (by omega);refine⟨G,jY W λ i N=>?_⟩;rw[G]at N;have:(p+1)*d<=l*d:=ahL _ F;rw[auK]at this;rw[anb,anb,aCo,gH (by omega)]
    refine⟨_,_,O.toList.take (l*d),rfl,by simp;omega,λ i u z=>?_,λ u z=>?_,r,by simp,λ p g F=>?_⟩
    .have I:(⟨b,0*d,none⟩:Addr).add i=⟨b,i,none⟩:=by unfold Addr.add;split<;>simp_all
     rw[I,cell_of_row E.w b i O _ (0,0) hcs];rw[aCo]at z;split at z
     .simpa using z
     .cases z
    .obtain⟨i,N⟩:=aG7.1 z
     have x:i<l*d:=by have h3:=(abK.1 N).1;rw[aFk]at h3;omega
     have B:0<d:=aJi λ e=>by rw[e]at x;simp at x
     have C:i / d<l:=(aHr B).2 x;obtain⟨g1,g2⟩:=q (i / d) C;have Z:i / d*d+i % d=i:=by rw[aEw];exact aEO i d
     have hmod:=aHY i B;have hx:(el (i / d))[i % d]?=some ((el (i / d))[i % d]'(by omega)):=Ga (by omega);obtain⟨v,A,S⟩:=EC g2 hx;rw[anb,Z,N]at A;cases A;refine yE S ?_;have h5:=ab3.1 H (el (i / d)) (List.mem_map.2 ⟨_,List.mem_range.2 C,rfl⟩);exact ab3.1 h5 _ (aJk _)
    .have t:=(abK.1 F).1;simp at t;simp[t]at F;rw[<-F];exact q p t
  .cases h
 .cases h
theorem LW{t t' e:TypeId}{i:TypeInfo}{x y:Operand}{k:Option Nat}{n m:Nat}{el tl:Nat->List AV}{rd:List Nat}{news:List Value}(S:Wd A0 R w0 E s.mem)(hnk:E.O nk=none)(hop:o.op=.call { callee:=.builtin .append,args:=#[x,y],argTypes:=#[t,t'] })
  (htl:∀q,n<=q->q<n+m->(tl q).length=i.size/\pre E.fz (tl q) (news.drop ((q - n)*i.size)))
  (H:kN E s.mem mem' nk ⟨.bQ nk i.size 0 (n+m),rd,k.map (λ k=>(k,Row.dead)),some (.a e i.size (n+m) (λ q=>bM (Tv q n) (el q) (tl q)))⟩) (hK:∀I u,E.le I->(∀k p,I.O k=some p->E.O k=some p\/k=nk)->Wd A0 R w0 I mem'->rel I (.bQ nk i.size 0 (n+m)) u->K (a.put o.dst u) I.w)
  (xs:List Value) (J:xs.length=n*i.size) (hel:∀q,q<n->(el q).length=i.size/\∀I,E.le I->pre I.fz (el q) (xs.drop (q*i.size)))
  (hR1:∃g d j z,(aIT #[t,t'] o.type #[a.eval x,a.eval y]).run P E.w=.ok (.slice (some ⟨g,0,none⟩) (n+m) d) z/\((∃k0 U h,k=some k0/\E.O k0=some (g,U)/\s.mem[k0]?=some h/\h.live=true)\/g=E.w.heap.size)/\z.heap[g]?=some (.cells j e (0,0)) /\
   j.size=d*i.size/\n+m<=d/\d<=maxLen/\j.toList.take ((n+m)*i.size)=xs++news/\E.w.grownBy z (some g)):o.wp P a E.w K Q:=by
 obtain⟨g,d,j,z,Y,l,F,hsize,G,hcm,htake,hgr⟩:=hR1
 have hA:E.A g\/E.w.heap.size<=g:=by
  rcases l with l |l
  .obtain⟨k0,U,h,_,h2,h3,h4⟩:=l;exact wV (S.own k0 g U h2 (by unfold aN;rw[h3];exact h4)).1
  .exact Gc (by omega)
 have hR:R g\/w0.w.heap.size<=g:=by
  rcases l with l |l
  .obtain⟨k0,U,h,_,h2,h3,h4⟩:=l;exact(S.own k0 g U h2 (by unfold aN;rw[h3];exact h4)).2
  .have:=S.below.size;exact Gc (by omega)
 have M:E.le (E.row z nk g (d,n+m)):=Env.sV hgr hA (wV hnk)
 have Z:lQ (E.row z nk g (d,n+m)) g (d,n+m) (.a e i.size (n+m) (λ q=>bM (Tv q n) (el q) (tl q))):=by
  refine⟨j,F,hsize,rfl,G,hcm,λ q hq=>?_⟩;have afO:∀p,p<(n+m)*i.size->j.toList[p]?=(xs++news)[p]?:=λ p hp=>by rw[<-htake,aCo,gH hp]
  have hq2:q*i.size+i.size<=(n+m)*i.size:=by have:(q+1)*i.size<=(n+m)*i.size:=ahL _ hq;rw[auK]at this;omega
  have C:Tv q n=false->(tl q).length=i.size/\pre (E.row z nk g (d,n+m)).fz (tl q) (j.toList.drop (q*i.size)):=λ f=>by
   have B:n<=q:=aIE λ hc=>by have:Tv q n=true:=agl hc;rw[this]at f;cases f
   obtain⟨g1,g2⟩:=htl q B hq;refine⟨g1,jY (lT M.fz g2) λ r hr=>?_⟩;rw[g1]at hr;have e5:q*i.size=n*i.size+(q - n)*i.size:=by rw[<-auK];congr 1;omega
   rw[anb,anb,afO _ (by omega),aqb (by rw[J];omega),J];congr 1;omega
  refine⟨JC (λ f=>(hel q (Ou f)).1) (λ f=>(C f).1),JB (λ f=>?_) (λ f=>(C f).2)⟩;have B:q<n:=Ou f;obtain⟨hlq,hpq⟩:=hel q B;refine jY (hpq _ M) λ p hp=>?_;rw[hlq]at hp;rw[anb,anb,afO _ (by omega),aiK];rw[J];have:(q+1)*i.size<=n*i.size:=ahL _ B;rw[auK]at this;omega
 have hWd:Wd A0 R w0 (E.row z nk g (d,n+m)) mem':=by
  refine S.row hgr (aHP.1 F).1 hR hA (wV hnk) (H.2 _ rfl) ?_ Z;intro X hk' b' c' N;have e1:=H.1 X hk' b' c' N;by_cases W:k=some X
  .subst W;simp only[aaF,if_true]at e1;exact Gc e1
  .have e2:mem'[X]?=s.mem[X]?:=by
    rw[e1];cases k with
    |none=>rfl
    |some k0 =>
     simp only[aaF];rw[fP (λ e=>W (by rw[e]))]
   refine wV ⟨e2,λ hlv e3=>?_⟩;subst e3;rcases l with l |l
   .obtain⟨k0,U,h,e4,h2,h3,h4⟩:=l;have:=S.one X k0 b' c' U N h2 hlv (by unfold aN;rw[h3];exact h4);exact W (by rw[e4,this])
   .have:=S.small b' (S.own X b' c' N hlv).1;omega
 have hrel:rel (E.row z nk g (d,n+m)) (.bQ nk i.size 0 (n+m)) (.slice (some ⟨g,0,none⟩) (n+m) d):=dV.2 (Gc ⟨g,d,n+m,by simp[Env.row],by omega,G,by simp⟩);unfold aIl execOp;simp only[hop,resolve,invoke,builtin,QJ,aax,uT,aJW,aKE,aK0,Y];exact hK _ _ M Env.Zu hWd hrel
theorem VQ{t t' e:TypeId}{i:TypeInfo}{x y:Operand}{k:Option Nat}{n m:Nat}{b:Bool}{el tl:Nat->List AV}{rd:List Nat}{news:List Value}(hW:Wd A0 R w0 E s.mem)(hnk:E.O nk=none)(hop:o.op=.call { callee:=.builtin .append,args:=#[x,y],argTypes:=#[t,t'] })(Y:rel E (aI s x) (a.eval x))
  (j:F6 s.mem e i.size (aI s x)=some (b,k,n,el)) (hb:b=true)
  (hR0:∀xs,E.w.ownsRow 0 e i.size (a.eval x) n xs->∃g h A J,(aIT #[t,t'] o.type #[a.eval x,a.eval y]).run P E.w=.ok (.slice (some ⟨g,0,none⟩) (n+m) h) J/\((a.eval x).ownBlock=some g\/g=E.w.heap.size)/\J.heap[g]?=some (.cells A e (0,0)) /\
   A.size=h*i.size/\n+m<=h/\h<=maxLen/\A.toList.take ((n+m)*i.size)=xs++news/\E.w.grownBy J (some g))
  (htl:∀q,n<=q->q<n+m->(tl q).length=i.size/\pre E.fz (tl q) (news.drop ((q - n)*i.size)))
  (X:kN E s.mem mem' nk ⟨.bQ nk i.size 0 (n+m),rd,k.map (λ k=>(k,Row.dead)),some (.a e i.size (n+m) (λ q=>bM (Tv q n) (el q) (tl q)))⟩) (hK:∀C u,E.le C->(∀k p,C.O k=some p->E.O k=some p\/k=nk)->Wd A0 R w0 C mem'->rel C (.bQ nk i.size 0 (n+m)) u->K (a.put o.dst u) C.w):o.wp P a E.w K Q:=by
 have z:∀(xs:List Value),E.w.ownsRow 0 e i.size (a.eval x) n xs->(∀q,q<n->(el q).length=i.size/\∀C,E.le C->pre C.fz (el q) (xs.drop (q*i.size))) ->
   (∀g,(a.eval x).ownBlock=some g->∃k0 c0 F,k=some k0/\E.O k0=some (g,c0)/\s.mem[k0]?=some F/\F.live=true)->o.wp P a E.w K Q:=by
  intro xs G r U;obtain⟨g,h,A,J,M,l,hrest⟩:=hR0 xs G;exact LW hW hnk hop htl X hK xs G.1 r ⟨g,h,A,J,M,l.imp (U g) id,hrest⟩
 unfold F6 at j;split at j
 .rename_i I;simp only[gU,Ew]at j;obtain⟨_,rfl,rfl,rfl⟩:=j;rw[I]at Y;have d:=cB.1 Y;refine z [] (by rw[d];exact aMC _ _ _ _) (λ q hq=>by omega) (λ g l=>by rw[d]at l;cases l)
 .rename_i k1 sz len I;split at j
  .rename_i e' Z n' uL N;cases B:((e==e')&&((sz==i.size)&&(Z==i.size)))
   .rw[B]at j;cases j
   .rw[B]at j;simp only[aY,gU,Ew]at j;obtain⟨f,rfl,rfl,rfl⟩:=j;simp only[CX,WO]at B;obtain⟨rfl,rfl,hs2⟩:=B;subst hs2;rw[hb]at f
    have f:len<=n':=by
     cases H:aqz e
     .rw[H,eU]at f;exact Nat.le_of_eq (Aw f)
     .rw[H,aY]at f;exact Ou f
    rw[I]at Y;rcases dV.1 Y with⟨_,h0,d⟩ | ⟨b',c',n2,W,hle1,hle2,d⟩
    .subst h0;exact z [] (by rw[d];exact aMC _ _ _ _) (λ q hq=>by omega) (λ g l=>by rw[d]at l;cases l)
    .obtain⟨row,hr,hrr⟩:=hW.rows k1 b' _ W;rw[N]at hr;cases hr;obtain⟨cs,hcs,hsize,hn,hnc,S,r⟩:=hrr;simp only at hn hsize hnc S;subst hn
     refine z (cs.toList.take (len*i.size)) (by rw[d];refine⟨?_,Gc ⟨b',c',cs,by simp,Nat.zero_le _,hcs,by omega,S,hsize,rfl⟩⟩;have:len*i.size<=c'*i.size:=ahL _ (by omega);simp;omega) (λ q hq=>⟨(r q (by omega)).1,λ C hle=>?_⟩) (λ g l=>?_)
     .refine jY (lT hle.fz (r q (by omega)).2) λ p hp=>?_;rw[(r q (by omega)).1]at hp;have:(q+1)*i.size<=len*i.size:=ahL _ hq;rw[auK]at this;rw[anb,anb,aCo,gH (by omega)]
     .rw[d]at l;simp only[Value.ownBlock,gU]at l;subst l;exact⟨k1,_,_,rfl,W,N,rfl⟩
  .cases j
 .cases j
theorem LX{t e:TypeId}{i:TypeInfo}{z:Value}{x y:Operand}{k:Option Nat}{n m c:Nat}{b:Bool}{el tl:Nat->List AV}{M:List Nat}{J:Addr}{news:List Value}(X:Wd A0 R w0 E s.mem)(G:E.O nk=none)(C:o.op=.call { callee:=.builtin .append,args:=#[x,y],argTypes:=#[t,t] })(S:rel E (aI s x) (a.eval x))
  (A:P.underlying t=some (.slice e)) (U:P.info? e=some i) (N:i.zero=some z) (l:z.cells.size=i.size) (I:n+m<=maxLen) (hbytes:(n+m)*i.bytes<=140737488355328) (Z:F6 s.mem e i.size (aI s x)=some (b,k,n,el)) (W:b=true)
  (r:a.eval y=.slice (some J) m c) (F:news.length=m*i.size) (hcell:∀j u,news[j]?=some u->E.w.cell? (J.add j)=some u) (f:∀u∈news,u.oneCell'=true) (H:0<m) (B:∀q,n<=q->q<n+m->(tl q).length=i.size/\pre E.fz (tl q) (news.drop ((q - n)*i.size)))
  (g:kN E s.mem mem' nk ⟨.bQ nk i.size 0 (n+m),M,k.map (λ k=>(k,Row.dead)),some (.a e i.size (n+m) (λ q=>bM (Tv q n) (el q) (tl q)))⟩) (Y:∀h u,E.le h->(∀k p,h.O k=some p->E.O k=some p\/k=nk)->Wd A0 R w0 h mem'->rel h (.bQ nk i.size 0 (n+m)) u->K (a.put o.dst u) h.w):o.wp P a E.w K Q :=
 VQ (t':=t) (news:=news) X G C S Z W (λ xs d=>by rw[r];exact adj (P:=P) t o.type e i z A U N l (a.eval x) n xs d J m c news F hcell f H I hbytes) B g Y
theorem adp{t:TypeId}{x y:Operand}{bT:Eff}(hW:Wd A0 R w0 E s.mem)(X:E.O nk=none)(U:o.op=.call { callee:=.builtin .append,args:=#[x,y],argTypes:=#[t,t] })(hx:rel E (aI s x) (a.eval x))(hy:rel E (aI s y) (a.eval y))
  (h:vQ P s nk t (aI s x) (aI s y)=some (true,bT)) (B:kN E s.mem mem' nk bT) (hK:∀F u,E.le F->(∀k p,F.O k=some p->E.O k=some p\/k=nk)->Wd A0 R w0 F mem'->rel F bT.v u->K (a.put o.dst u) F.w):o.wp P a E.w K Q:=by
 unfold vQ at h;split at h
 .rename_i e M;split at h
  .rename_i i hi;split at h
   .rename_i z hz;split at h
    .rename_i b k n el j m H hH K3;cases G:((z.cells.size==i.size)&&(Tv 0 i.bytes&&((H.all λ f=>f.all lZ)&&((H.all cK)&&!(k==some j)))))
     .rw[G]at h;cases h
     .rw[G]at h;simp only[aY,gU,Ew]at h;obtain⟨d,rfl⟩:=h;simp only[CX,WO]at G d;obtain⟨I,g,C,hno,hkj⟩:=G;obtain⟨d,hbytes⟩:=d;have g:0<i.bytes:=Ou g;have hbytes:(n+m)*i.bytes<=140737488355328:=Ou hbytes
      have Z:n+m<=maxLen:=by have:(n+m)*1<=(n+m)*i.bytes:=apL _ g;simp only[maxLen];omega
      obtain⟨ad,c,r,J,W,hcell,A,Y,aGm,N⟩:=PG hW hy K3 C;refine LX hW X U hx M hi hz I Z hbytes hH d J W hcell A Y (λ q S hq2=>?_) B hK;refine KW (λ l=>l.length=i.size/\pre E.fz l (r.drop ((q - n)*i.size))) (λ bb xs ys g1 g2=>⟨JC (λ d=>(g1 d).1) (λ d=>(g2 d).1),JB (λ d=>(g1 d).2) (λ d=>(g2 d).2)⟩) H n S (by omega) λ p f hp hqp=>?_;have e5:q - n=p:=by omega
      rw[e5];exact N p f hp
    .cases h
   .cases h
  .cases h
 .cases h
theorem Zz{t:TypeId}{x y:Operand}{bT:Eff}{sz m:Nat}{f:Nat->List AV}(hW:Wd A0 R w0 E s.mem)(hnk:E.O nk=none)(hop:o.op=.call { callee:=.builtin .append,args:=#[x,y],argTypes:=#[t,t] })(hx:rel E (aI s x) (a.eval x))(hy:rel E (.sl sz m f) (a.eval y))
  (h:xM P s nk t (aI s x) sz m f=some (true,bT)) (M:kN E s.mem mem' nk bT) (hK:∀U u,E.le U->(∀k p,U.O k=some p->E.O k=some p\/k=nk)->Wd A0 R w0 U mem'->rel U bT.v u->K (a.put o.dst u) U.w):o.wp P a E.w K Q:=by
 unfold xM at h;split at h
 .rename_i e hun;split at h
  .rename_i i hi;split at h
   .rename_i z hz;split at h
    .rename_i b k n el hH;cases W:((z.cells.size==i.size)&&(Tv 0 i.bytes&&(sz==i.size)))
     .rw[W]at h;cases h
     .rw[W]at h;simp only[aY,gU,Ew]at h;obtain⟨X,rfl⟩:=h;simp only[CX,WO]at W X;obtain⟨hzs,G,rfl⟩:=W;obtain⟨X,B,N,hbytes⟩:=X;have G:0<i.bytes:=Ou G;have B:0<m:=Ou B;have hbytes:(n+m)*i.bytes<=140737488355328:=Ou hbytes
      have h63:n+m<=maxLen:=by have:(n+m)*1<=(n+m)*i.bytes:=apL _ G;simp only[maxLen];omega
      obtain⟨ad0,c,hve,hnc,F⟩:=iZ.1 hy;obtain⟨bk,H,cs,e0,fz0,rfl,hA,F,C⟩:=F.resolve_left (by omega);have d:0<i.size\/i.size=0:=by omega
      have hin:H+m*i.size<=cs.size\/i.size=0:=by
       rcases d with d |d
       .refine wV (aIE λ hlt=>?_);obtain⟨Z,g2⟩:=C (m - 1) (by omega);have hl:(f (m - 1))[i.size - 1]?=some ((f (m - 1))[i.size - 1]'(by omega)):=Ga (by omega);obtain⟨v,g,_⟩:=EC g2 hl;rw[anb]at g;have Y:=(abK.1 g).1;have e6:(m - 1)*i.size+i.size=m*i.size:=by rw[<-Nat.succ_mul];congr 1;omega
        simp at Y;omega
       .exact Gc d
      have J:((cs.toList.drop H).take (m*i.size)).length=m*i.size:=by
       rcases hin with Y |Y
       .simp;omega
       .rw[Y];simp
      refine LX (news:=(cs.toList.drop H).take (m*i.size)) hW hnk hop hx hun hi hz hzs h63 hbytes hH X hve J (λ j u A=>?_) (λ u A=>?_) B (λ q hq1 hq2=>?_) M hK
      .have S:(⟨bk,H,none⟩:Addr).add j=⟨bk,H+j,none⟩:=by unfold Addr.add;split<;>simp_all
       rw[S,cell_of_row E.w bk (H+j) cs _ _ F];rw[aCo]at A;split at A
       .rw[anb]at A;simpa using A
       .cases A
      .obtain⟨j,hj⟩:=aG7.1 A
       have l:j<m*i.size:=by have h3:=(abK.1 hj).1;rw[J]at h3;exact h3
       have d:0<i.size:=aJi λ e=>by rw[e]at l;simp at l
       have I:j / i.size<m:=(aHr d).2 l;obtain⟨Z,g2⟩:=C (j / i.size) I;have hiq:j / i.size*i.size+j % i.size=j:=by rw[aEw];exact aEO j i.size
       have hmod:=aHY j d;have hx2:(f (j / i.size))[j % i.size]?=some ((f (j / i.size))[j % i.size]'(by omega)):=Ga (by omega);obtain⟨v,g,hv2⟩:=EC g2 hx2;rw[aCo,gH l,anb]at hj;rw[anb,aIW,hiq,hj]at g;cases g;refine yE hv2 ?_;exact ab3.1 (Yb N _ I) _ (aJk _)
      .obtain⟨Z,g2⟩:=C (q - n) (by omega);refine⟨Z,jY g2 λ r hr=>?_⟩;rw[Z]at hr;have:(q - n+1)*i.size<=m*i.size:=ahL _ (by omega);rw[auK]at this;rw[anb,anb,aCo,gH (by omega),anb,aIW]
    .cases h
   .cases h
  .cases h
 .cases h
theorem run_append_nothing{P:Program}(w:World)(t f e:TypeId)(i:TypeInfo)(g:P.underlying t=some (.slice e))(hi:P.info? e=some i)(d a:Option Addr)(l c j:Nat)(h:l<=c) :
  (aIT #[t,t] f #[.slice d l c,.slice a 0 j]).run P w=.ok (.slice d l c) w:=by
 cases d<;>cases a<;>simp[aIT,run_underlying g,sizeOf,typeInfo,hi,Builtin.lenOf,h,Builtin.firstCells,storeCells,loadCells,loadCellsFrom,aax]
theorem ZA{t:TypeId}{x y:Operand}{ad:Option Addr}{Z:Nat}{H:Eff}(q:Wd A0 R w0 E s.mem)(M:E.O nk=none)(J:o.op=.call { callee:=.builtin .append,args:=#[x,y],argTypes:=#[t,t] })(r:rel E (aI s x) (a.eval x))(hy:a.eval y=.slice ad 0 Z)
  (h:JD P t (aI s x)=some (true,H)) (F:kN E s.mem mem' nk H) (hK:∀G u,E.le G->(∀k p,G.O k=some p->E.O k=some p\/k=nk)->Wd A0 R w0 G mem'->rel G H.v u->K (a.put o.dst u) G.w):o.wp P a E.w K Q:=by
 have fin:∀(e:TypeId) (i:TypeInfo) (g:Option Addr) (l c:Nat),P.underlying t=some (.slice e)->P.info? e=some i->a.eval x=.slice g l c->l<=c->H=⟨aI s x,[],none,none⟩->o.wp P a E.w K Q:=by
  intro e i g l c z B d N j
  have W:Wd A0 R w0 E mem':=by
   have same:∀k b c,E.O k=some (b,c)->mem'[k]?=s.mem[k]?:=λ k b c f=>by have:=F.1 k (λ e=>by rw[e,M]at f;cases f) b c f;rw[j]at this;exact this
   have live:∀k b c,E.O k=some (b,c)->aN mem' k=aN s.mem k:=λ k b c f=>by unfold aN;rw[same k b c f]
   exact⟨λ k b c f=>by rw[same k b c f];exact q.rows k b c f,q.small,q.old,λ k b c f U=>q.own k b c f (by rw[<-live k b c f];exact U),λ k X b c c' f C U S=>q.one k X b c c' f C (by rw[<-live k b c f];exact U) (by rw[<-live X b c' C];exact S),q.below,q.zA⟩
  have A:(execOp a.eval o).run P E.w=.ok (.value (a.eval x)) E.w:=by unfold execOp;have I:=run_append_nothing E.w t o.type e i z B g ad l c Z N;simp only[J,resolve,invoke,builtin,QJ,aax,uT,aJW,aKE,aK0,d,hy,I]
  unfold aIl;rw[A];exact hK E _ (Env.le.refl _) (λ _ _ h=>wV h) W (by rw[j];exact r)
 unfold JD at h;split at h
 .rename_i e z;split at h
  .rename_i i B;split at h
   .rename_i k sz st len d;simp only[gU,Ew,true_and]at h;rw[d]at r;rcases dV.1 r with⟨h1,h2,Y⟩ | ⟨b,c,n,h1,h2,Y,h4⟩
    .exact fin e i none 0 0 z B Y (ND _) (by rw[<-h,d])
    .exact fin e i _ len (c - st) z B h4 (by omega) (by rw[<-h,d])
   .rename_i d;simp only[gU,Ew,true_and]at h;rw[d]at r;exact fin e i none 0 0 z B (cB.1 r) (ND _) (by rw[<-h,d])
   .cases h
  .cases h
 .cases h
theorem ZB{t:TypeId}{x y:Operand}{bT:Eff}(hW:Wd A0 R w0 E s.mem)(hnk:E.O nk=none)(hop:o.op=.call { callee:=.builtin .append,args:=#[x,y],argTypes:=#[t,t] })(hx:rel E (aI s x) (a.eval x))(hy:rel E (aI s y) (a.eval y))
  (h:rQ P s nk t (aI s x) (aI s y)=some (true,bT)) (U:kN E s.mem mem' nk bT) (hK:∀J u,E.le J->(∀k p,J.O k=some p->E.O k=some p\/k=nk)->Wd A0 R w0 J mem'->rel J bT.v u->K (a.put o.dst u) J.w):o.wp P a E.w K Q:=by
 unfold rQ at h;split at h
 .rename_i e hun;split at h
  .rename_i i hi;split at h
   .rename_i z hz;split at h
    .rename_i k n el j m ns r K3;cases I:((z.cells.size==i.size)&&(Tv 0 i.bytes&&((ns.all λ B=>B.all lZ)&&((ns.all cK)&&!(k==j)))))
     .rw[I]at h;cases h
     .rw[I]at h;simp only[aY,gU,Ew]at h;obtain⟨hbytes,rfl⟩:=h;simp only[CX,WO]at I;obtain⟨hzs,G,W,hno,hkj⟩:=I;have G:0<i.bytes:=Ou G;have hbytes:(n+m)*i.bytes<=140737488355328:=Ou hbytes
      have X:n+m<=maxLen:=by have:(n+m)*1<=(n+m)*i.bytes:=apL _ G;simp only[maxLen];omega
      have hsmall:n+m<=9223372036854775807:=by simp only[maxLen]at X;omega
      obtain⟨ad,c,news,hve,C,hcell,hone,hm0,aGm,hrn⟩:=PG hW hy K3 W;unfold Zp at r;split at r
      .rename_i k1 sz len hxe;split at r
       .rename_i e' sz' n' uL hmk;cases A:((e==e')&&((sz==i.size)&&((sz'==i.size)&&((len==n')&&Tv 0 n'))))
        .rw[A]at r;cases r
        .rw[A]at r;simp only[aY,gU,Ew]at r;obtain⟨rfl,rfl,rfl⟩:=r;simp only[CX,WO]at A;obtain⟨rfl,rfl,hs2,rfl,N⟩:=A;subst hs2;have N:0<len:=Ou N;rw[hxe]at hx;rcases dV.1 hx with⟨_,h0,M⟩ | ⟨b',d,n2,hb',hle1,hle2,M⟩
         .omega
         .obtain⟨row,Z,hrr⟩:=hW.rows k1 b' _ hb';rw[hmk]at Z;cases Z;obtain⟨Y,fz,hcs,hn,f,F⟩:=hrr;simp only at hn f;obtain⟨f,hcz⟩:=f trivial;subst hn f;have g:(Y.toList.take (d*i.size)).length=d*i.size:=by simp;omega
          have holds:∀j u,(Y.toList.take (d*i.size))[j]?=some u->E.w.cell? ((⟨b',0,none⟩:Addr).add j)=some u:=λ j u hj=>by
           rw[add_plain,ZO]
           have hj2:j<d*i.size:=by have:=(abK.1 hj).1;rw[g]at this;exact this
           rw[aCo,gH hj2]at hj;simp only[World.cell?,hcs];simpa using hj
          have Z:=run_append_grow (P:=P) E.w t o.type e i z hun hi hz ⟨b',0,none⟩ d d (Y.toList.take (d*i.size)) g holds ad m c news C hcell (by omega) (by omega) (growslice_fits (by omega) hbytes);have aGn:a.eval x=.slice (some ⟨b',0,none⟩) d d:=by rw[M];simp
          refine LW (k:=none) (t':=t) (news:=news) hW hnk hop (λ q hq1 hq2=>?_) U hK (Y.toList.take (d*i.size)) g (λ q hq=>⟨(F q hq).1,λ J hle=>?_⟩) ?_
          .refine KW (λ l=>l.length=i.size/\pre E.fz l (news.drop ((q - d)*i.size))) (λ bb xs ys g1 g2=>⟨JC (λ H=>(g1 H).1) (λ H=>(g2 H).1),JB (λ H=>(g1 H).2) (λ H=>(g2 H).2)⟩) ns d hq1 (by omega) λ p B hp hqp=>?_;have e5:q - d=p:=by omega
           rw[e5];exact hrn p B hp
          .refine jY (lT hle.fz (F q hq).2) λ p hp=>?_;rw[(F q hq).1]at hp;have:(q+1)*i.size<=d*i.size:=ahL _ hq;rw[auK]at this;rw[anb,anb,aCo,gH (by omega)]
          .have hge:=grownCap_ge E.w (d+m) d e;have hcm:grownCap E.w (d+m) d e<=maxLen:=grownCap_le_maxLen E.w (d+m) d e X;have S:(Y.toList.take (d*i.size)++news).length=(d+m)*i.size:=by rw[aiR,g,C,auK]
           rw[aGn,hve];refine⟨_,_,_,_,Z,Gc rfl,heap_alloc_new E.w.drew _,?_,hge,hcm,?_,⟨rfl,rfl,rfl,by simp,λ k I _=>heap_alloc_old E.w.drew _ I⟩⟩
           .simp only[aMB,aIJ,size_zeroCells,hzs,g,C,<-auK];congr 1;omega
           .simp only[aI7,aHN];rw[<-aHN,<-S];exact aK7
       .cases r
      .cases r
    .cases h
   .cases h
  .cases h
 .cases h
theorem ZC{t:TypeId}{x y:Operand}{r:Eff}(n:Wd A0 R w0 E s.mem)(f:E.O nk=none)(e:o.op=.call { callee:=.builtin .append,args:=#[x,y],argTypes:=#[t,t] })(l:rel E (aI s x) (a.eval x))(i:rel E (aI s y) (a.eval y))
  (h:xO P s nk t (aI s x) (aI s y)=some (true,r)) (d:kN E s.mem mem' nk r) (q:∀j u,E.le j->(∀k p,j.O k=some p->E.O k=some p\/k=nk)->Wd A0 R w0 j mem'->rel j r.v u->K (a.put o.dst u) j.w):o.wp P a E.w K Q:=by
 unfold xO at h;split at h
 .rename_i F C g;rw[g]at i;exact ZA n f e l (cB.1 i) h d q
 .rename_i B m A g;rw[g]at i;exact Zz n f e l i h d q
 .cases z:isZ s.mem (aI s x)
  .rw[z]at h;exact adp n f e l i h d q
  .rw[z]at h;exact ZB n f e l i h d q
theorem ZE{t t':TypeId}{x y:Operand}{e:Eff}(_hW:Wd A0 R w0 E s.mem)(_:E.O nk=none)(_:o.op=.call { callee:=.builtin .append,args:=#[x,y],argTypes:=#[t,t'] })(_hx:rel E (aI s x) (a.eval x))(_hy:rel E (aI s y) (a.eval y))
  (h:DW P s nk t t' (aI s x) (aI s y)=some (true,e)) (_:kN E s.mem mem' nk e) (_hK:∀d u,E.le d->(∀k p,d.O k=some p->E.O k=some p\/k=nk)->Wd A0 R w0 d mem'->rel d e.v u->K (a.put o.dst u) d.w):o.wp P a E.w K Q:=by
 unfold DW at h;cases h
theorem anB{t t':TypeId}{x y:Operand}{j:Eff}(q:Wd A0 R w0 E s.mem)(f:E.O nk=none)(e:o.op=.call { callee:=.builtin .append,args:=#[x,y],argTypes:=#[t,t'] })(n:rel E (aI s x) (a.eval x))(l:rel E (aI s y) (a.eval y))
  (h:Al P s nk t t' (aI s x) (aI s y)=some (true,j)) (d:kN E s.mem mem' nk j) (r:∀g u,E.le g->(∀k p,g.O k=some p->E.O k=some p\/k=nk)->Wd A0 R w0 g mem'->rel g j.v u->K (a.put o.dst u) g.w):o.wp P a E.w K Q:=by
 unfold Al at h;cases i:t==t'
 .rw[i]at h;exact ZE q f e n l h d r
 .rw[i]at h;have e1:=Aw i;subst e1;exact ZC q f e n l h d r
theorem aib{t:TypeId}{x:Operand}{d:Eff}(_hW:Wd A0 R w0 E s.mem)(_:E.O nk=none)(_:o.op=.range t x)(_hx:rel E (aI s x) (a.eval x))
  (h:VO P nk t (aI s x)=some (true,d)) (_:kN E s.mem mem' nk d) (_hK:∀E' u,E.le E'->(∀k p,E'.O k=some p->E.O k=some p\/k=nk)->Wd A0 R w0 E' mem'->rel E' d.v u->K (a.put o.dst u) E'.w):o.wp P a E.w K Q:=by
 unfold VO at h;cases h
theorem anC{d:Operand}{e:Eff}(_hW:Wd A0 R w0 E s.mem)(_:E.O nk=none)(_:o.op=.next d true)(_hx:rel E (aI s d) (a.eval d))
  (h:anr s (aI s d)=some (true,e)) (_:kN E s.mem mem' nk e) (_hK:∀E' u,E.le E'->(∀k p,E'.O k=some p->E.O k=some p\/k=nk)->Wd A0 R w0 E' mem'->rel E' e.v u->K (a.put o.dst u) E'.w):o.wp P a E.w K Q:=by
 unfold anr at h;cases h
theorem SV{E:Env}:∀{xs ys:List AV} {us d:List Value},dW E xs us->dW E ys d->dW E (xs++ys) (us++d)
 | [],_,us,_,h,g=>by rw[bR.1 h];exact g
 |x::xs,_,us,_,h,g=>by obtain⟨u,e,rfl,i,f⟩:=aD.1 h;exact aD.2 ⟨u,_,rfl,i,SV f g⟩
theorem OI{T:Tab}{bT:Eff}(hT:BR P T)(hg:xk E)(F:Wd A0 R w0 E s.mem)(A:E.O nk=none)(hρ:∀y,y∈o.op.operands->rel E (aI s y) (a.eval y))
  (h:awr P T s nk o=some (true,bT)) (n:kN E s.mem mem' nk bT) (H:∀E' u,E.le E'->(∀k p,E'.O k=some p->E.O k=some p\/k=nk)->Wd A0 R w0 E' mem'->rel E' bT.v u->K (a.put o.dst u) E'.w):o.wp P a E.w K Q:=by
 unfold awr at h;split at h
 .rename_i t x i;cases hk:xg (aI s x)
  .rw[hk]at h;cases h
  .rw[hk]at h;simp only[aY,gU,Ew,true_and]at h;subst h;have hx:=hρ x (by rw[i];simp[Uh]);obtain⟨E',e1,e2,eO,e3,e4⟩:=ant F A n t (KA hx hk);unfold aIl execOp;simp only[i,Instr.box,newVar,newRow,QJ,run_newObj,uT,aax,aIb];have:=H E' _ e2 eO e3 e4;rw[e1]at this;exact this
 .rename_i t i;split at h
  .rename_i z hz;split at h
   .simp only[gU,Ew,true_and]at h;subst h;obtain⟨E',e1,e2,eO,e3,e4⟩:=azK F A t n (sM E z.cells.toList);have Y:=fJ E.w hz;unfold aIl execOp;simp only[i,aNU,newVar,newRow,QJ,Y,run_newObj,uT,aax,aIb];have:=H E' _ e2 eO e3 e4;rw[e1]at this;exact this
   .simp only[gU,Ew,true_and]at h;subst h;obtain⟨E',e1,e2,eO,e3,e4⟩:=ant F A n t (sM E z.cells.toList);have Y:=fJ E.w hz;unfold aIl execOp;simp only[i,aNU,newVar,newRow,QJ,Y,run_newObj,uT,aax,aIb];have:=H E' _ e2 eO e3 e4;rw[e1]at this;exact this
  .cases h
 .rename_i t len ps i;split at h
  .exact adn F A i (λ y X=>hρ y (by rw[i];simpa[Uh]using X)) h n H
  .exact ado F A i (λ y X=>hρ y (by rw[i];simpa[Uh]using X)) h n H
 .rename_i t l c i;exact anv F A i (hρ l (by rw[i];simp[Uh])) (hρ c (by rw[i];simp[Uh])) h n H
 .rename_i t p x i;cases hd:o.dst with
  |some d=>rw[hd]at h;cases h
  |none =>
   rw[hd]at h;exact aia F A i hd (hρ p (by rw[i];simp[Uh])) (hρ x (by rw[i];simp[Uh])) h n H
 .rename_i src dst x i;exact anz F A i (hρ x (by rw[i];simp[Uh])) h n H
 .rename_i t x i;exact aib F A i (hρ x (by rw[i];simp[Uh])) h n H
 .rename_i it bb i;cases bb with
  |false=>cases h
  |true=>exact anC F A i (hρ it (by rw[i];simp[Uh])) h n H
 .rename_i c i;obtain⟨callee,j,argTypes⟩:=c;simp only at h;split at h
  .split at h
   .rename_i x y t t' hargs hty
    have ha:∃J I,j=#[J,I]/\aI s J=x/\aI s I=y:=by
     obtain⟨l⟩:=j;simp only at hargs
     match l,hargs with
     | [J,I],hargs=>simp at hargs;exact⟨J,I,rfl,hargs.1,hargs.2⟩
    obtain⟨J,I,rfl,rfl,rfl⟩:=ha;have ht:argTypes=#[t,t']:=by cases argTypes;simpa using hty
    subst ht;exact anB F A i (hρ J (by rw[i];simp[Uh,apS])) (hρ I (by rw[i];simp[Uh,apS])) h n H
   .cases h
  .split at h
   .rename_i x y t t' hargs hty;cases hk:t==t'
    .rw[hk]at h;cases h
    .rw[hk]at h;have e1:=Aw hk;subst e1;simp only[aY]at h
     have ha:∃J I,j=#[J,I]/\aI s J=x/\aI s I=y:=by
      obtain⟨l⟩:=j;simp only at hargs
      match l,hargs with
      | [J,I],hargs=>simp at hargs;exact⟨J,I,rfl,hargs.1,hargs.2⟩
     obtain⟨J,I,rfl,rfl,rfl⟩:=ha;have ht:argTypes=#[t,t]:=by cases argTypes;simpa using hty
     subst ht;exact anw F A i (hρ J (by rw[i];simp[Uh,apS])) (hρ I (by rw[i];simp[Uh,apS])) h n H
   .cases h
  .rename_i f;cases G:T.r f with
   |some g =>
    simp only[G]at h;unfold KY at h;split at h
    .rename_i b v rd N;cases M:iq v
     .rw[M]at h;cases h
     .rw[M]at h;simp only[aY,gU,Ew]at h;obtain⟨rfl,rfl⟩:=h;obtain⟨⟨fn,h1,h2,h3⟩,hs⟩:=(hT.2.2.2.2 f g G).2 _ _ _ _ N
      have hr:dW E (j.toList.map (aI s)) (j.map a.eval).toList:=by have:=lK (E:=E) (s:=s) (ρ:=a.eval) (ys:=j.toList) (λ y X=>hρ y (by rw[i];simp[Uh,apS];exact Gc (by simpa using X)));simpa using this
      have hc:=hs A0 R w0 E s.mem (j.map a.eval) F (λ _ _=>rfl) hg hr;unfold aIl;have hf:a.eval (.func f)=.func (.func f) #[] #[]:=rfl
      have C:(execOp a.eval o).run P E.w=.ok (.enter f (j.map a.eval)) E.w:=by unfold execOp;simp only[i,resolve,hf,aHu,QJ,aax,uT,invoke,callFunc,run_program,h1,h2,h3,aHH,aHa,aFs,if_false]
      rw[C]
      exact hc.mono λ e W ⟨u,he,hu,S⟩=>by
       subst he;obtain⟨q,Z⟩:=F.on S;have same:∀k b c,E.O k=some (b,c)->mem'[k]?=s.mem[k]?:=λ k b c B=>n.1 k (λ e=>by rw[e,A]at B;cases B) b c B;have live:∀k b c,E.O k=some (b,c)->aN mem' k=aN s.mem k:=λ k b c B=>by unfold aN;rw[same k b c B]
       exact H { E with w:=W } u Z (λ _ _ h=>wV h) ⟨λ k b c B=>by rw[same k b c B];exact q.rows k b c B,q.small,q.old,λ k b c B hl=>q.own k b c B (by rw[<-live k b c B];exact hl),λ k k' b c c' B U hl hl'=>q.one k k' b c c' B U (by rw[<-live k b c B];exact hl) (by rw[<-live k' b c' U];exact hl'),q.below,q.zA⟩ hu
    .cases h
   |none =>
   simp only[G]at h;unfold VN at h;split at h
   .rename_i g hgm;split at h
    .rename_i b Vi N;cases hrd:Vi.rd==aT (j.toList.map (aI s))
     .rw[hrd]at h;cases h
     .rw[hrd]at h;simp only[aY,gU,Ew]at h;obtain⟨rfl,rfl⟩:=h;obtain⟨⟨fn,h1,h2,h3⟩,hs⟩:=(hT.2.1 f g hgm).1 _ _ _ _ N (Aw hrd)
      have hr:dW E (j.toList.map (aI s)) (j.map a.eval).toList:=by have:=lK (E:=E) (s:=s) (ρ:=a.eval) (ys:=j.toList) (λ y X=>hρ y (by rw[i];simp[Uh,apS];exact Gc (by simpa using X)));simpa using this
      have hc:=hs A0 R w0 E mem' (j.map a.eval) F A hg hr n;unfold aIl;have hf:a.eval (.func f)=.func (.func f) #[] #[]:=rfl
      have C:(execOp a.eval o).run P E.w=.ok (.enter f (j.map a.eval)) E.w:=by unfold execOp;simp only[i,resolve,hf,aHu,QJ,aax,uT,invoke,callFunc,run_program,h1,h2,h3,aHH,aHa,aFs,if_false]
      rw[C]
      exact hc.mono λ e W ⟨u,E',he,hw,hle,hO,hWd,hu⟩=>by subst he;have:=H E' u hle hO hWd hu;rw[hw]at this;exact this
    .cases h
   .cases h
  .rename_i t;unfold adk at h;split at h
   .rename_i f bs hfo;cases G:T.r f with
    |none=>simp only[G]at h;cases h
    |some g =>
     simp only[G]at h;unfold KY at h;split at h
     .rename_i b v rd N;cases M:iq v
      .rw[M]at h;cases h
      .rw[M]at h;simp only[aY,gU,Ew]at h;obtain⟨rfl,rfl⟩:=h;obtain⟨⟨fn,h1,h2,h3⟩,hs⟩:=(hT.2.2.2.2 f g G).2 _ _ _ _ N
       have hr:dW E (j.toList.map (aI s)) (j.map a.eval).toList:=by have:=lK (E:=E) (s:=s) (ρ:=a.eval) (ys:=j.toList) (λ y X=>hρ y (by rw[i];simp[Uh,apS];exact Gc (by simpa using X)));simpa using this
       obtain⟨va,vb,hf,g2,g3⟩:=Ot.1 (by have g1:=hρ (.tmp t) (by rw[i];simp[Uh,apS]);rw[hfo]at g1;exact g1);have e1:va=#[]:=aIG.1 (bR.1 g2);rw[e1]at hf
       have hr2:dW E (j.toList.map (aI s)++bs) (j.map a.eval++vb).toList:=by rw[aI7];exact SV hr g3
       have hc:=hs A0 R w0 E s.mem (j.map a.eval++vb) F (λ _ _=>rfl) hg hr2;unfold aIl
       have C:(execOp a.eval o).run P E.w=.ok (.enter f (j.map a.eval++vb)) E.w:=by unfold execOp;simp only[i,resolve,hf,aHu,QJ,aax,uT,invoke,callFunc,run_program,h1,h2,h3,aHa,aFs,if_false]
       rw[C]
       exact hc.mono λ e W ⟨u,he,hu,S⟩=>by
        subst he;obtain⟨q,Z⟩:=F.on S;have same:∀k b c,E.O k=some (b,c)->mem'[k]?=s.mem[k]?:=λ k b c B=>n.1 k (λ e=>by rw[e,A]at B;cases B) b c B;have live:∀k b c,E.O k=some (b,c)->aN mem' k=aN s.mem k:=λ k b c B=>by unfold aN;rw[same k b c B]
        exact H { E with w:=W } u Z (λ _ _ h=>wV h) ⟨λ k b c B=>by rw[same k b c B];exact q.rows k b c B,q.small,q.old,λ k b c B hl=>q.own k b c B (by rw[<-live k b c B];exact hl),λ k k' b c c' B U hl hl'=>q.one k k' b c c' B U (by rw[<-live k b c B];exact hl) (by rw[<-live k' b c' U];exact hl'),q.below,q.zA⟩ hu
     .cases h
   .cases h
  .cases h
 .cases h
end
end
noncomputable section
def anD:Option Row->Nat->List AV
 |some (.a _ _ _ el)=>el
 |some (.z _ _ _ _ el)=>el
 |_=>λ _=>[]
mutual
def uH(mem:List Row):AV->AV
 |.bQ k sz st len=>.sl sz len λ i=>anD mem[k]? (st+i)
 |.view k sz st sub len=>match mem[k]? with
  |some (.c l)=>.sl sz len λ i=>(l.drop (st*sz+sub+i*sz)).take sz
  |r=>.sl sz len λ i=>anD r (st+i)
 |.agg l=>.agg (OM mem l)
 |x=>x
def OM(mem:List Row):List AV->List AV
 | []=>[]
 |x::xs=>uH mem x::OM mem xs
end
mutual
def DY(mem:List Row):AV->Bool
 |.bQ k sz st len=>match mem[k]? with
  |some (.a _ sz' n _)=>amH sz sz'&&apB (st+len) n
  |some (.z _ _ sz' n _)=>amH sz sz'&&apB (st+len) n
  |_=>false
 |.view k sz st sub len=>match mem[k]? with
  |some (.a _ sz' n _)=>amH sz sz'&&(amH sub 0&&apB (st+len) n)
  |some (.c l)=>cK l&&apB (st*sz+sub+len*sz) l.length
  |_=>false
 |.agg l=>OJ mem l
 |.x _=>true
 |.f _=>true
 |.cx _ _=>true
 |.sl _ _ _=>true
 |.ref _ _=>true
 |.any=>true
 |_=>false
def OJ(mem:List Row):List AV->Bool
 | []=>true
 |x::xs=>DY mem x&&OJ mem xs
end
def Env.shut(E:Env):Env:=⟨E.w,λ _=>False,λ _=>none⟩
theorem JI(E:Env):E.fz.le E.shut.fz:=⟨λ _ _ _ d=>⟨id,d⟩,λ _ _ h=>by cases h⟩
theorem ZF{E:Env}{mem:List Row}(h:uN E mem){k b:Nat}{c n:Nat}(l:E.O k=some (b,c,n)){e:TypeId}{sz n':Nat}{el:Nat->List AV}(j:mem[k]?=some (.a e sz n' el)) :
  ∃cs,E.w.heap[b]?=some (.cells cs e (0,0))/\n=n'/\∀i,i<n'->(el i).length=sz/\pre E.shut.fz (el i) (cs.toList.drop (i*sz)):=by
 obtain⟨row,g,g2⟩:=h k b (c,n) l;rw[j]at g;cases g;obtain⟨cs,q,_,p,_,_,f⟩:=g2;exact⟨cs,q,p,λ i d=>⟨(f i d).1,oZ (el i) (JI E) _ (f i d).2⟩⟩
mutual
theorem anE:∀(x:AV) {E:Env} {mem:List Row} {u:Value},uN E mem->DY mem x=true->bY x E u->bY (uH mem x) E.shut u
 |.bQ k sz st len,E,mem,u,hm,hb,d=>by
  rw[DY]at hb;split at hb
  .rename_i e G n' el q;simp only[CX]at hb;have j:=aiL hb.1;have p:=Ou hb.2;subst j;have e1:uH mem (.bQ k sz st len)=.sl sz len λ i=>el (st+i):=by simp only[uH,q,anD]
   rw[e1];rcases dV.1 d with⟨_,h,rfl⟩ | ⟨b,c,n,A,F,h,rfl⟩
   .exact iZ.2 ⟨none,0,by rw[h],by omega,wV h⟩
   .obtain⟨t,g,y,C⟩:=ZF hm A q;refine iZ.2 ⟨_,_,rfl,by omega,Gc ⟨b,st*sz,t,e,(0,0),rfl,id,g,λ i z=>?_⟩⟩;obtain⟨B,w⟩:=C (st+i) (by omega);refine⟨B,?_⟩;rw[<-auK];exact w
  .rename_i e G n' el q;simp only[CX]at hb;have j:=aiL hb.1;have p:=Ou hb.2;subst j;have e1:uH mem (.bQ k sz st len)=.sl sz len λ i=>el (st+i):=by simp only[uH,q,anD]
   rw[e1];rcases dV.1 d with⟨_,h,rfl⟩ | ⟨b,c,n,A,F,h,rfl⟩
   .exact iZ.2 ⟨none,0,by rw[h],by omega,wV h⟩
   .obtain⟨row,I,g2⟩:=hm k b (c,n) A;rw[q]at I;cases I;obtain⟨t,fz,g,y,_,C⟩:=g2;refine iZ.2 ⟨_,_,rfl,by omega,Gc ⟨b,st*sz,t,e,fz,rfl,id,g,λ i z=>?_⟩⟩;obtain⟨B,w⟩:=C (st+i) (by omega);refine⟨B,?_⟩;rw[<-auK];exact oZ (el (st+i)) (JI E) _ w
  .cases hb
 |.view k sz st sub len,E,mem,u,hm,hb,d=>by
  rw[DY]at hb;split at hb
  .rename_i e G n' el q;simp only[CX]at hb;have j:=aiL hb.1;have H:=aiL hb.2.1;have p:=Ou hb.2.2;subst j;subst H;have e1:uH mem (.view k sz st 0 len)=.sl sz len λ i=>el (st+i):=by simp only[uH,q,anD]
   rw[e1];unfold bY at d;obtain⟨a,c,rfl,h,g⟩:=d;rcases g with g | ⟨b,⟨O,n⟩,A,rfl⟩
   .exact iZ.2 ⟨_,_,rfl,h,wV g⟩
   .obtain⟨t,g,y,C⟩:=ZF hm A q;refine iZ.2 ⟨_,_,rfl,h,Gc ⟨b,st*sz+0,t,e,(0,0),rfl,id,g,λ i z=>?_⟩⟩;obtain⟨B,w⟩:=C (st+i) (by omega);refine⟨B,?_⟩;rw[aIA,<-auK];exact w
  .rename_i l q;simp only[CX]at hb;obtain⟨M,p⟩:=hb;have p:=Ou p;have e1:uH mem (.view k sz st sub len)=.sl sz len λ i=>(l.drop (st*sz+sub+i*sz)).take sz:=by simp only[uH,q]
   rw[e1];unfold bY at d;obtain⟨a,c,rfl,h,g⟩:=d;rcases g with g | ⟨b,⟨O,n⟩,A,rfl⟩
   .exact iZ.2 ⟨_,_,rfl,h,wV g⟩
   .obtain⟨row,I,g2⟩:=hm k b (O,n) A;rw[q]at I;cases I;obtain⟨t,e,y,C⟩:=g2;refine iZ.2 ⟨_,_,rfl,h,Gc ⟨b,st*sz+sub,t,e,(0,0),rfl,id,y,λ i z=>?_⟩⟩;have N:(i+1)*sz<=len*sz:=ahL _ z;rw[auK]at N;have J:=w9 (st*sz+sub+i*sz) sz C (by omega);refine⟨by simp;omega,?_⟩;refine lT (E:=E.fz) (JI E) (jY (iV (JF J (Zq M))) λ r d=>?_)
    have d:r<sz:=by
     have:((l.drop (st*sz+sub+i*sz)).take sz).length<=sz:=by simp;omega
     omega
    rw[aCo,gH d]
  .cases hb
 |.agg l,E,mem,u,hm,hb,d=>by rw[DY]at hb;rw[uH];rw[bY]at d ⊢;obtain⟨S,F,h⟩:=d;exact⟨S,F,KJ l hm hb h⟩
 |.x _,_,_,_,_,_,d=>by simp only[uH];unfold bY at *;exact d
 |.f _,_,_,_,_,_,d=>by simp only[uH];unfold bY at *;exact d
 |.cx _ _,_,_,_,_,_,d=>by simp only[uH];unfold bY at *;exact d
 |.any,_,_,_,_,_,_=>by simp only[uH];unfold bY;trivial
 |.sl sz n el,E,_,u,_,_,d=>by
  simp only[uH];unfold bY at *;obtain⟨a,c,F,h,g⟩:=d;refine⟨a,c,F,h,?_⟩;rcases g with g | ⟨b,o,t,e,fz,y,_,B,w⟩
  .exact wV g
  .exact Gc ⟨b,o,t,e,fz,y,id,B,λ i z=>⟨(w i z).1,oZ (el i) (JI E) _ (w i z).2⟩⟩
 |.ref l off,E,_,u,_,_,d=>by simp only[uH];unfold bY at *;obtain⟨b,o,t,e,fz,F,_,g,y⟩:=d;exact⟨b,o,t,e,fz,F,id,g,oZ l (JI E) _ y⟩
 |.own _ _,_,_,_,_,hb,_=>by simp[DY]at hb
 |.iN _ _,_,_,_,_,hb,_=>by simp[DY]at hb
 |.qX _ _ _ _,_,_,_,_,hb,_=>by simp[DY]at hb
 |.bK _,_,_,_,_,hb,_=>by simp[DY]at hb
 |.jd _ _,_,_,_,_,hb,_=>by simp[DY]at hb
 |.fn _ _ _,_,_,_,_,hb,_=>by simp[DY]at hb
theorem KJ:∀(xs:List AV) {E:Env} {mem:List Row} {us:List Value},uN E mem->OJ mem xs=true->jg xs E us->jg (OM mem xs) E.shut us
 | [],_,_,us,_,_,hr=>by rw[OM];cases us<;>simp[jg]at hr ⊢
 |x::xs,E,mem,u::us,hm,hb,hr=>by rw[OJ]at hb;simp only[CX]at hb;rw[OM];rw[jg]at hr ⊢;exact⟨anE x hm hb.1 hr.1,KJ xs hm hb.2 hr.2⟩
 |_::_,_,_,[],_,_,hr=>by simp[jg]at hr
end
mutual
def mV:AV->Bool
 |.x _=>true
 |.f _=>true
 |.cx _ _=>true
 |.agg l=>PI l
 |.bK l=>PI l
 |_=>false
def PI:List AV->Bool
 | []=>true
 |x::xs=>mV x&&PI xs
end
mutual
theorem EJ:∀(x:AV) {E E':Env} {u:Value},mV x=true->bY x E u->bY x E' u
 |.x _,_,_,_,_,hr=>by unfold bY at *;exact hr
 |.f _,_,_,_,_,hr=>by unfold bY at *;exact hr
 |.cx _ _,_,_,_,_,hr=>by unfold bY at *;exact hr
 |.agg l,_,_,_,hp,hr=>by rw[mV]at hp;rw[bY]at hr ⊢;obtain⟨d,g,e⟩:=hr;exact⟨d,g,G9 l hp e⟩
 |.bK l,_,_,_,hp,hr=>by rw[mV]at hp;rw[bY]at hr ⊢;obtain⟨d,g,e⟩:=hr;exact⟨d,g,G9 l hp e⟩
 |.own _ _,_,_,_,hp,_=>by simp[mV]at hp
 |.qX _ _ _ _,_,_,_,hp,_=>by simp[mV]at hp
 |.bQ _ _ _ _,_,_,_,hp,_=>by simp[mV]at hp
 |.view _ _ _ _ _,_,_,_,hp,_=>by simp[mV]at hp
 |.ref _ _,_,_,_,hp,_=>by simp[mV]at hp
 |.iN _ _,_,_,_,hp,_=>by simp[mV]at hp
 |.sl _ _ _,_,_,_,hp,_=>by simp[mV]at hp
 |.jd _ _,_,_,_,hp,_=>by simp[mV]at hp
 |.fn _ _ _,_,_,_,hp,_=>by simp[mV]at hp
 |.any,_,_,_,hp,_=>by simp[mV]at hp
theorem G9:∀(xs:List AV) {E E':Env} {us:List Value},PI xs=true->jg xs E us->jg xs E' us
 | [],_,_,us,_,hr=>by cases us<;>simp[jg]at hr ⊢
 |x::xs,_,_,u::us,hp,hr=>by rw[PI]at hp;simp only[CX]at hp;rw[jg]at hr ⊢;exact⟨EJ x hp.1 hr.1,G9 xs hp.2 hr.2⟩
 |_::_,_,_,[],_,hr=>by simp[jg]at hr
end
def jv(p:Prop):Bool:=@decide p (aI9 p)
theorem jl{p:Prop}(h:p):jv p=true:=by unfold jv;exact @gG p (aI9 p) h
theorem qU{p:Prop}(h:jv p=true):p:=by unfold jv at h;exact @Qx p (aI9 p) h
end
noncomputable section
def Out.of(v:AV):Out:=⟨.normal,⟨[],[]⟩,v⟩
def Tab.flat(T:Tab):Tab where
 f:=λ f d=>match T.k f with
  |some g=>(g d λ v=>some (Out.of v)).map Out.v
  |none=>T.f f d
 k:=λ _=>none
 m:=T.m
 n:=T.n
 w:=T.w
 r:=T.r
 i:=T.i
theorem BR.flat{P:Program}{T:Tab}(h:BR P T):BR P T.flat:=by
 refine⟨⟨λ f d r e=>?_,λ f g i=>(by cases i),h.1.2.2⟩,h.2⟩;simp only[Tab.flat]at e;split at e
 .rename_i g i;cases j:g d λ v=>some (Out.of v)with
  |none=>rw[j]at e;cases e
  |some x =>
   rw[j]at e;obtain⟨v,l,k⟩:=(h.1.2.1 f g i).1 d _ x j;simp only[gU]at l;simp only[aaF,gU]at e;subst l;rw[show v=r from e]at k;exact(h.1.2.1 f g i).2 d r k
 .exact h.1.1 f d r e
def QV(T:Tab):Prop:=∀f g,T.k f=some g->aqH g
theorem BR.par{P:Program}{T:Tab}(h:BR P T):QV T:=λ f g d=>(h.1.2.1 f g d).1
def rowsOf:AV->List Nat
 |.own k _=>[k]
 |.qX k _ _ _=>[k]
 |.bQ k _ _ _=>[k]
 |.view k _ _ _ _=>[k]
 |_=>[]
def Vf(s:St)(o:Oper):List Nat:=match o.op with
 |.load _ x=>rowsOf (aI s x)
 |.convert _ _ x=>rowsOf (aI s x)
 |_=>[]
def Vg:Chain->Bool
 | []=>true
 | [_]=>true
 |_=>false
def ab6(slots:List (AV × Chain)):Chain->Bool->Bool
 | [],b=>b
 |p::_,b=>b&&trp slots p
theorem LG{slots F:List (AV × Chain)}{ops:List Oper}{o:Oper}{c:Chain}{b:Bool}(e:je ops slots o=some c)(hs:Vg c=true)(f:ab6 slots c b=true)(q:∀t,t∈mU ops o->(F.getD t dflt).1=(slots.getD t dflt).1):b=true/\tF F c=true:=by
 match c,hs with
 | [],_=>exact⟨f,rfl⟩
 | [p],_ =>
  simp only[ab6,CX]at f;refine⟨f.1,?_⟩
  have n:p.1∈mU ops o:=by
   unfold je at e;cases h:o.guard with
   |none=>rw[h]at e;cases e
   |some gw =>
    obtain⟨j,k⟩:=gw;rw[h]at e;simp only at e;cases g:ops[j]? with
    |none=>rw[g]at e;cases e
    |some oj =>
     rw[g]at e;simp only at e;cases i:oj.dst with
     |none=>rw[i]at e;cases e
     |some d =>
      rw[i]at e;simp only at e;split at e
      .simp only[gU,List.cons.injEq]at e;rw[<-e.1];simp[mU,h,g,i]
      .cases e
  unfold tF;simp only[aIk,List.all_nil,Bool.and_true];have l:=f.2;unfold trp at l ⊢;rw[q _ n];exact l
def YF(o:Oper)(d:Eff):Bool:=match o.op with
 |.buildSlice _ _ _=>d.nw.isNone&&d.wr.isNone
 |.call c=>match c.callee with
  |.value (.tmp _)=>d.nw.isNone&&d.wr.isNone
  |_=>false
 |_=>false
theorem R7{o:Oper}{d:Eff}(h:YF o d=true):d.nw=none/\d.wr=none:=by
 unfold YF at h;split at h
 .simp only[CX,aKN]at h;exact h
 .split at h
  .simp only[CX,aKN]at h;exact h
  .cases h
 .cases h
def Ae(P:Program)(T:Tab)(ops:List Oper)(s:St)(nk:Nat)(o:Oper):Option (Bool × Chain × Eff) :=
 match yH P T ops s o with
 |some (b,c,v)=>some (b,c,⟨v,Vf s o,none,none⟩)
 |none=>match je ops s.slots o with
  |some c=>cond (Vg c&&o.op.operands.toList.all (jB s.slots c)) (match awr P T s nk o with
   |some (b,bT)=>cond (YF o bT) (some (b,c,bT)) (some (ab6 s.slots c b,[],bT))
   |none=>none) none
  |none=>none
def Eff.mem(d:Eff)(mem:List Row):List Row:=(match d.wr with
 |some (k,row)=>mem.set k row
 |none=>mem)++d.nw.toList
def Du(s:St)(dst:Option Nat)(c:Chain)(d:Eff):St:=⟨uR s.slots dst (d.v,c),d.mem s.mem⟩
structure Inv(A0 R:Nat->Prop)(w0:Env)(E:Env)(s:St)(a:Act):Prop where
 defers:a.defers=[]
 frame:AB E s.slots s.slots a.tmps
 wd:Wd A0 R w0 E s.mem
theorem Wd.dom{A0 R:Nat->Prop}{w0:Env}{E:Env}{mem:List Row}(h:Wd A0 R w0 E mem):∀k b c,E.O k=some (b,c)->k<mem.length:=λ k b c e=>by obtain⟨row,d,_⟩:=h.rows k b c e;exact(abK.1 d).1
theorem qx{E E':Env}(h:E.le E'){F s:List (AV × Chain)}{d:Array Value}(hf:AB E F s d):AB E' F s d :=⟨⟨hf.1.1,vo h hf.1.2⟩,λ t=>⟨λ e=>lS h ((hf.2 t).1 e),(hf.2 t).2⟩⟩
theorem put_defers(a:Act)(dst:Option Nat)(v:Value):(a.put dst v).defers=a.defers:=by cases dst<;>rfl
section
variable{P:Program}{T:Tab}{A0 R:Nat->Prop}{w0:Env}{E:Env}{s:St}{a:Act}{ops:Array Oper}{o:Oper}{Q:Exit->Act->World->Prop}
theorem Dv(h:o.guard.isNone=true):aHE o (yielded ops a.tmps)=true:=by
 unfold aHE;cases d:o.guard with
 |none=>rfl
 |some g=>rw[d]at h;cases h
theorem GQ{g:Eff}(f:∀k b c,E.O k=some (b,c)->k<s.mem.length):kN E s.mem (g.mem s.mem) s.mem.length g:=by
 refine⟨λ k _ b c q=>?_,λ row n=>?_⟩
 .have h:=f k b c q;unfold Eff.mem;cases l:g.wr with
  |none=>simp only[aiK h]
  |some p =>
   obtain⟨j,row⟩:=p;simp only;rw[aiK (by simpa using h),aKM];by_cases d:j=k
   .subst d;simp[h]
   .rw[fP d,fP (λ e=>d e.symm)]
 .unfold Eff.mem;rw[n];cases l:g.wr with
  |none=>simp
  |some p =>
   obtain⟨j,i⟩:=p;simp
theorem Nw (S:BR P T) (d:Inv A0 R w0 E s a) {b:Bool} {c:Chain} {U:Eff} (h:Ae P T ops.toList s s.mem.length o=some (b,c,U)) (x:nD s.slots c o.dst=true) (N:tF s.slots c=true->b=true)
    (K:Act->World->Prop) (z:∀E' W,Inv A0 R w0 E' (Du s o.dst c U) W->K W E'.w):if aHE o (yielded ops a.tmps)then o.wp P a E.w K Q else K (a.put o.dst undef) E.w:=by
  unfold Ae at h;cases J:yH P T ops.toList s o with
  |some r =>
    obtain⟨b',c',v⟩:=r;rw[J]at h;simp only[gU,Ew]at h;obtain⟨rfl,rfl,rfl⟩:=h;have f:(Eff.mem ⟨v,Vf s o,none,none⟩ s.mem)=s.mem:=by simp[Eff.mem]
    obtain⟨h1,h2⟩:=OH S.1 d.frame d.wd.rows d.wd.small (λ _ _=>rfl) J N;rw[h1];cases i:tF s.slots c'
    . rw[fP (by simp)];refine z E _ ⟨by rw[put_defers];exact d.defers,oD d.frame x (λ h=>by rw[i]at h;cases h) (λ _=>rfl),?_⟩;simp only[Du,f];exact d.wd
    . rw[gH rfl];refine Vh (h2 i) λ u Y hu M=>?_;obtain⟨H,G⟩:=d.wd.on M;refine z { E with w:=Y } _ ⟨by rw[put_defers];exact d.defers,oD (qx G d.frame) x (λ _=>hu) (λ h=>by rw[i]at h;cases h),?_⟩
      simp only[Du,f];exact H
  |none =>
    rw[J]at h;simp only at h;cases g:je ops.toList s.slots o with
    |none=>rw[g]at h;cases h
    |some c0 =>
    rw[g]at h;simp only at h;cases n:(Vg c0&&o.op.operands.toList.all (jB s.slots c0))
    . rw[n]at h;cases h
    . rw[n]at h;simp only[aY]at h;simp only[CX]at n;cases A:awr P T s s.mem.length o with
      |none=>rw[A]at h;cases h
      |some r =>
        obtain⟨b',X⟩:=r;rw[A]at h;simp only at h
        have t:E.O s.mem.length=none:=by
          cases Z:E.O s.mem.length with
          |none=>rfl
          |some p=>exact absurd (d.wd.dom _ p.1 p.2 Z) (aJj _)
        cases hbare:YF o X
        case true =>
          rw[hbare]at h;simp only[aY,gU,Ew]at h;obtain⟨rfl,rfl,rfl⟩:=h;obtain⟨hn,C⟩:=R7 hbare;have f:Eff.mem X s.mem=s.mem:=by unfold Eff.mem;rw[hn,C];simp
          rw[j6 d.frame (λ _ _=>rfl) g];cases i:tF s.slots c0
          . rw[fP (by simp)];refine z E _ ⟨by rw[put_defers];exact d.defers,oD d.frame x (λ h=>by rw[i]at h;cases h) (λ _=>rfl),?_⟩;simp only[Du,f];exact d.wd
          . rw[gH rfl];have k:=N i;subst k;have e:=n.2;rw[ab3]at e;refine OI S d.frame.1.2 d.wd t (λ y B=>jF d.frame i y (e y (by simpa using B))) A (GQ d.wd.dom) λ E' u j _ l I=>?_;exact z E' _ ⟨by rw[put_defers];exact d.defers,oD (qx j d.frame) x (λ _=>I) (λ h=>by rw[i]at h;cases h),l⟩
        case false =>
        rw[hbare]at h;simp only[eU,gU,Ew]at h;obtain⟨rfl,rfl,rfl⟩:=h;obtain⟨k,q⟩:=LG (F:=s.slots) g n.1 (N rfl) λ _ _=>rfl;subst k;rw[gH ((j6 d.frame (λ _ _=>rfl) g).trans q)];have e:=n.2;rw[ab3]at e;refine OI S d.frame.1.2 d.wd t (λ y B=>jF d.frame q y (e y (by simpa using B))) A (GQ d.wd.dom) λ E' u j _ l I=>?_;exact z E' _ ⟨by rw[put_defers];exact d.defers,oD (qx j d.frame) x (λ _=>I) (λ h=>by cases h),l⟩
end
end
noncomputable section
abbrev SK:=St->Option Out
abbrev jL:=Exit->St->Option Out
def ab7(P:Program)(T:Tab)(s:St)(o:Oper):Option ((AV->Option Out)->Option Out) :=
 match o.op with
 |.call c=>match c.callee with
  |.builtin _=>none
  |_=>match Lv T s c with
  |some _=>none
  |none=>match tV P s c with
   |some (f,args)=>match T.k f with
    |some g=>cond (cK args) (some (g args)) none
    |none=>none
   |none=>none
 |_=>none
def Fj(T:Tab)(s:St)(nk:Nat)(o:Oper):Option (Bool × AV × List Row) :=
 match o.op with
 |.call c=>match c.callee with
  |.value (.func f)=>match T.n f with
   |some g=>g (c.args.toList.map (aI s)) nk
   |none=>none
  |_=>none
 |_=>none
def nOk(s:St)(o:Oper):Bool:=o.guard.isNone&&(o.op.operands.toList.all (jB s.slots [])&&nD s.slots [] o.dst)
def ab8(T:Tab)(s:St)(o:Oper):Option (Bool × ((AV->Option Out)->Option Out)) :=
 match o.op with
 |.call c=>match c.callee with
  |.value (.func f)=>match T.k f with
   |some g=>match T.m f with
    |some _=>none
    |none=>cond (cK (c.args.toList.map (aI s))) none (some (OJ s.mem (c.args.toList.map (aI s)),λ k=>g (OM s.mem (c.args.toList.map (aI s))) λ v=>cond (mV v) (k v) none))
   |none=>none
  |_=>none
 |_=>none
def alF(T:Tab)(s:St)(o:Oper):Option (Bool × AV × List Row) :=
 match o.op with
 |.call c=>match c.callee with
  |.value x=>match aI s x with
   |.fn (.func f) [] []=>match T.w f with
    |some g=>g (c.args.toList.map (aI s)) s.mem
    |none=>none
   |_=>none
  |_=>none
 |_=>none
def Jj(P:Program)(T:Tab)(ops:List Oper)(s:St)(o:Oper)(k:SK):Option Out :=
 match alF T s o with
 |some (b,v,mem1)=>cond (nOk s o) (cond b (k ⟨uR s.slots o.dst (v,[]),mem1⟩) none) none
 |none=>match Fj T s s.mem.length o with
 |some (b,v,rows)=>cond (nOk s o) (cond b (k ⟨uR s.slots o.dst (v,[]),s.mem++rows⟩) none) none
 |none=>match ab8 T s o with
 |some (b,g)=>match je ops s.slots o with
  |some c=>cond (o.op.operands.toList.all (jB s.slots c)&&nD s.slots c o.dst) (cond b (g λ v=>k { s with slots:=uR s.slots o.dst (v,c) }) none) none
  |none=>none
 |none=>match ab7 P T s o with
 |some g=>match je ops s.slots o with
  |some c=>cond (o.op.operands.toList.all (jB s.slots c)&&nD s.slots c o.dst) (g λ v=>k { s with slots:=uR s.slots o.dst (v,c) }) none
  |none=>none
 |none=>match Ae P T.flat ops s s.mem.length o with
  |some (b,c,bT)=>cond (nD s.slots c o.dst) (cond (b||!tF s.slots c) (k (Du s o.dst c bT)) none) none
  |none=>none
def auJ:Nat:=2000000
def alG(P:Program)(T:Tab)(ops:List Oper)(s:St)(o:Oper):Option (Bool × Chain × Eff) :=
 match T.m auJ with
 |none=>none
 |some _=>match yH P T.flat ops s o with
  |some _=>none
  |none=>match je ops s.slots o with
   |some (p::ps)=>cond (o.op.operands.toList.all (jB s.slots (p::ps))) (match awr P T.flat s s.mem.length o with
    |some (b,bT)=>some (b,p::ps,bT)
    |none=>none) none
   |_=>none
def Xf(P:Program)(T:Tab)(ops:List Oper)(s:St)(o:Oper)(k:SK):Option Out :=
 match alG P T ops s o with
 |some (b,c,bT)=>cond (nD s.slots c o.dst) (cond (tF s.slots c) (cond b (k (Du s o.dst c bT)) none) (k ⟨uR s.slots o.dst (bT.v,c),s.mem⟩)) none
 |none=>Jj P T ops s o k
def Jk(P:Program)(T:Tab)(ops:List Oper):List Oper->St->SK->Option Out
 | [],s,k=>k s
 |o::rest,s,k=>Xf P T ops s o λ s'=>Jk P T ops rest s' k
def alH(P:Program)(T:Tab)(ops:List Oper)(s:St)(o:Oper)(s':St):Prop :=
 (∃v e,alF T s o=some (true,v,e)/\nOk s o=true/\s'=⟨uR s.slots o.dst (v,[]),e⟩) \/
 (∃v d,Fj T s s.mem.length o=some (true,v,d)/\nOk s o=true/\s'=⟨uR s.slots o.dst (v,[]),s.mem++d⟩) \/
 (∃g c v,ab8 T s o=some (true,g)/\(∀f,g f=f v)/\je ops s.slots o=some c/\(o.op.operands.toList.all (jB s.slots c)&&nD s.slots c o.dst)=true/\s'={ s with slots:=uR s.slots o.dst (v,c) })\/∃b c h,Ae P T.flat ops s s.mem.length o=some (b,c,h)/\nD s.slots c o.dst=true/\(tF s.slots c=true->b=true)/\s'=Du s o.dst c h
def LH(P:Program)(T:Tab)(ops:List Oper)(s:St)(o:Oper)(s':St):Prop :=alH P T ops s o s'\/∃b c d,alG P T ops s o=some (b,c,d)/\nD s.slots c o.dst=true/\((tF s.slots c=true/\b=true/\s'=Du s o.dst c d)\/(tF s.slots c=false/\s'=⟨uR s.slots o.dst (d.v,c),s.mem⟩))
def ab9(P:Program)(T:Tab)(ops:List Oper):List Oper->St->St->Prop
 | [],s,s'=>s=s'
 |o::rest,s,s'=>∃s1,LH P T ops s o s1/\ab9 P T ops rest s1 s'
theorem alI{T:Tab}{s:St}{o:Oper}{b:Bool}{g:(AV->Option Out)->Option Out}{k:AV->Option Out}{r:Out}(q:QV T)(d:ab8 T s o=some (b,g))(h:g k=some r):∃v,k v=some r/\∀j,g j=j v:=by
 unfold ab8 at d;split at d
 .rename_i c n;split at d
  .rename_i f w;split at d
   .rename_i u p;split at d
    .cases d
    .cases e:cK (c.args.toList.map (aI s))
     .rw[e]at d;simp only[eU,gU,Ew]at d;obtain⟨_,rfl⟩:=d;obtain⟨v,i,t⟩:=q f u p _ _ r h;cases l:mV v
      .rw[l]at i;cases i
      .rw[l]at i;exact⟨v,i,λ j=>(t _).trans (by simp only[l,aY])⟩
     .rw[e]at d;cases d
   .cases d
  .cases d
 .cases d
theorem acd{P:Program}{T:Tab}{ops:List Oper}{s:St}{o:Oper}{k:SK}{r:Out}(hT:QV T)(h:Jj P T ops s o k=some r):∃s',alH P T ops s o s'/\k s'=some r/\∀z,Jj P T ops s o z=z s':=by
 unfold Jj at h;cases l:alF T s o with
 |some q =>
  obtain⟨b,v,G⟩:=q;rw[l]at h;simp only at h;cases i:nOk s o
  .rw[i]at h;cases h
  .rw[i]at h;simp only[aY]at h;cases b
   .cases h
   .simp only[aY]at h;refine⟨_,wV ⟨v,G,l,i,rfl⟩,h,λ z=>?_⟩;unfold Jj;simp only[l,i,aY]
 |none =>
 rw[l]at h;simp only at h;cases B:Fj T s s.mem.length o with
 |some q =>
  obtain⟨b,v,F⟩:=q;rw[B]at h;simp only at h;cases i:nOk s o
  .rw[i]at h;cases h
  .rw[i]at h;simp only[aY]at h;cases b
   .cases h
   .simp only[aY]at h;refine⟨_,Gc (wV ⟨v,F,B,i,rfl⟩),h,λ z=>?_⟩;unfold Jj;simp only[l,B,i,aY]
 |none =>
 rw[B]at h;simp only at h;cases C:ab8 T s o with
 |some q =>
  obtain⟨b,g⟩:=q;rw[C]at h;simp only at h;cases j:je ops s.slots o with
  |none=>rw[j]at h;cases h
  |some c =>
  rw[j]at h;simp only at h;cases i:(o.op.operands.toList.all (jB s.slots c)&&nD s.slots c o.dst)
  .rw[i]at h;cases h
  .rw[i]at h;simp only[aY]at h;cases b
   .cases h
   .simp only[aY]at h;have I:=alI hT C h;obtain⟨v,h1,O⟩:=I;refine⟨_,Gc (Gc (wV ⟨g,c,v,C,O,j,i,rfl⟩)),h1,λ z=>?_⟩;unfold Jj;simp only[l,B,C,j,i,aY,O]
 |none =>
 rw[C]at h;simp only at h;cases e:ab7 P T s o with
 |none =>
  rw[e]at h;simp only at h;cases S:Ae P T.flat ops s s.mem.length o with
  |none=>rw[S]at h;cases h
  |some p =>
   obtain⟨b,c,bT⟩:=p;rw[S]at h;simp only at h;cases i:nD s.slots c o.dst
   .rw[i]at h;cases h
   .rw[i]at h;simp only[aY]at h;cases N:(b||!tF s.slots c)
    .rw[N]at h;cases h
    .rw[N]at h;simp only[aY]at h;refine⟨_,Gc (Gc (Gc ⟨b,c,bT,S,i,λ ht=>?_,rfl⟩)),h,λ z=>?_⟩
     .rw[ht]at N;simpa using N
     .unfold Jj;simp only[l,B,C,e,S,i,N,aY]
 |some g =>
  rw[e]at h;simp only at h;cases j:je ops s.slots o with
  |none=>rw[j]at h;cases h
  |some c =>
  rw[j]at h;simp only at h;cases M:(o.op.operands.toList.all (jB s.slots c)&&nD s.slots c o.dst)
  .rw[M]at h;cases h
  .rw[M]at h;simp only[aY]at h;have Z:=e;unfold ab7 at e;split at e
   .rename_i cl u;split at e
    .cases e
    .rename_i n;split at e
     .cases e
     rename_i hI;split at e
     .rename_i f t Fp;split at e
      .rename_i g' hg;cases A:cK t
       .rw[A]at e;cases e
       .rw[A]at e;simp only[aY,gU]at e;subst e;obtain⟨v,h1,O⟩:=hT f g' hg t _ r h;have W:=M;simp only[CX]at M;obtain⟨J,U⟩:=M;refine⟨_,Gc (Gc (Gc ⟨true,c,⟨v,[],none,none⟩,?_,U,λ _=>rfl,rfl⟩)),?_,λ z=>?_⟩
        .have X:T.flat.f f t=some v:=by simp only[Tab.flat,hg];rw[O];rfl
         have H:QO P T.flat s o=some (true,v):=by
          have Y:Lv T.flat s cl=none:=hI;unfold QO;rw[u];simp only[Y];unfold FQ;rw[u];simp only;split
          .rename_i d;exact absurd d (n _)
          .rename_i d;exact absurd d (n _)
          .rename_i d;exact absurd d (n _)
          .rename_i d;exact absurd d (n _)
          .rename_i d;exact absurd d (n _)
          .rename_i d;exact absurd d (n _)
          .rw[Fp];simp only[A,aY,X,aaF]
         have alJ:yH P T.flat ops s o=some (true,c,v):=by
          unfold yH;simp only[j];split
          .rename_i g x y w;rw[u]at w;cases w
          .rw[J,H];rfl
         unfold Ae;rw[alJ];simp only[Vf,u]
        .simpa[Du,Eff.mem]using h1
        .unfold Jj;rw[l];simp only;rw[B];simp only;rw[C];simp only;rw[Z];simp only[j];rw[W];simp only[aY];rw[O];simp[Du,Eff.mem]
      .cases e
     .cases e
   .cases e
theorem Rk{P:Program}{T:Tab}{ops:List Oper}{s:St}{o:Oper}{k:SK}{r:Out}(j:QV T)(h:Xf P T ops s o k=some r):∃s',LH P T ops s o s'/\k s'=some r/\∀e,Xf P T ops s o e=e s':=by
 unfold Xf at h;cases d:alG P T ops s o with
 |none =>
  rw[d]at h;obtain⟨s',p,n,l⟩:=acd j h;exact⟨s',wV p,n,λ e=>by unfold Xf;rw[d];exact l e⟩
 |some q =>
  obtain⟨b,c,i⟩:=q;rw[d]at h;simp only at h;cases g:nD s.slots c o.dst
  .rw[g]at h;cases h
  .rw[g]at h;simp only[aY]at h;cases f:tF s.slots c
   .rw[f]at h;simp only[eU]at h;refine⟨_,Gc ⟨b,c,i,d,g,Gc ⟨f,rfl⟩⟩,h,λ e=>?_⟩;unfold Xf;simp only[d,g,f,aY,eU]
   .rw[f]at h;simp only[aY]at h;cases b
    .cases h
    .simp only[aY]at h;refine⟨_,Gc ⟨true,c,i,d,g,wV ⟨f,rfl,rfl⟩⟩,h,λ e=>?_⟩;unfold Xf;simp only[d,g,f,aY]
theorem Br{P:Program}{T:Tab}{ops:List Oper}{r:Out}(e:QV T):∀{l:List Oper} {s:St} {k:SK},Jk P T ops l s k=some r->∃s',ab9 P T ops l s s'/\k s'=some r/\∀d,Jk P T ops l s d=d s'
 | [],s,k,h=>⟨s,rfl,h,λ _=>rfl⟩
 |o::rest,s,k,h=>by simp only[Jk]at h;obtain⟨s1,p,n,j⟩:=Rk e h;obtain⟨s2,i,g,f⟩:=Br e n;exact⟨s2,⟨s1,p,i⟩,g,λ d=>by simp only[Jk];rw[j];exact f d⟩
section
variable{P:Program}{T:Tab}{A0 R:Nat->Prop}{w0:Env}{ops:Array Oper}{Q:Exit->Act->World->Prop}
theorem YG(U:BR P T){E:Env}{s:St}{mem':List Row}{nk:Nat}{a:Act}{o:Oper}{v:AV}{h:List Row}(J:xk E)(S:Wd A0 R w0 E s.mem)(r:∀i,i<h.length->E.O (nk+i)=none)(hρ:∀y,y∈o.op.operands->rel E (aI s y) (a.eval y))(j:Fj T s nk o=some (true,v,h))(q:ax7 E s.mem mem' nk h)
  {K:Act->World->Prop} (X:∀E' u,E.le E'->(∀k p,E'.O k=some p->E.O k=some p\/(nk<=k/\k<nk+h.length))->Wd A0 R w0 E' mem'->rel E' v u->K (a.put o.dst u) E'.w):o.wp P a E.w K Q:=by
 unfold Fj at j;split at j
 .rename_i c n;split at j
  .rename_i f A;split at j
   .rename_i g x;obtain⟨⟨fn,h1,Z,Y⟩,H⟩:=U.2.2.1 f g x _ _ _ _ j;obtain⟨callee,d,argTypes⟩:=c;simp only at A;subst A
    have I:dW E (d.toList.map (aI s)) (d.map a.eval).toList:=by have:=lK (E:=E) (s:=s) (ρ:=a.eval) (ys:=d.toList) (λ y C=>hρ y (by rw[n];simp[Uh,apS];exact Gc (by simpa using C)));simpa using this
    have N:=H A0 R w0 E s.mem mem' (d.map a.eval) S r J I q;unfold aIl;have hf:a.eval (.func f)=.func (.func f) #[] #[]:=rfl
    have l:(execOp a.eval o).run P E.w=.ok (.enter f (d.map a.eval)) E.w:=by unfold execOp;simp only[n,resolve,hf,aHu,QJ,aax,uT,invoke,callFunc,run_program,h1,Z,Y,aHH,aHa,aFs,if_false]
    rw[l]
    exact N.mono λ e B ⟨u,E',M,F,t,W,z,G⟩=>by subst M;have:=X E' u t W z G;rw[F]at this;exact this
   .cases j
  .cases j
 .cases j
theorem Nu(C:BR P T){E:Env}{s:St}{a:Act}{o:Oper}{v:AV}{d:List Row}(f:Inv A0 R w0 E s a)(F:Fj T s s.mem.length o=some (true,v,d))(g:nOk s o=true)(K:Act->World->Prop)(G:∀E' n,Inv A0 R w0 E' ⟨uR s.slots o.dst (v,[]),s.mem++d⟩ n->K n E'.w) :
  if aHE o (yielded ops a.tmps)then o.wp P a E.w K Q else K (a.put o.dst undef) E.w:=by
 unfold nOk at g;simp only[CX]at g;obtain⟨z,e,A⟩:=g;rw[gH (Dv z)];rw[ab3]at e;refine YG C f.frame.1.2 f.wd (λ i _=>?_) (λ y q=>jF f.frame rfl y (e y (by simpa using q))) F (mem':=s.mem++d) ⟨λ k g b c B=>?_,λ i row x=>?_⟩ λ E' u j _ l t=>?_
 .cases r:E.O (s.mem.length+i)with
  |none=>rfl
  |some p =>
   have:=f.wd.dom _ p.1 p.2 r;omega
 .rw[aiK (f.wd.dom k b c B)]
 .rw[aqb (by omega),Nat.add_sub_cancel_left];exact x
 .exact G E' _ ⟨by rw[put_defers];exact f.defers,oD (qx j f.frame) A (λ _=>t) (λ h=>by cases h),l⟩
theorem Nt (Y:BR P T) {E:Env} {s:St} {a:Act} {o:Oper} {v:AV} {mem1:List Row} (n:Inv A0 R w0 E s a) (i:alF T s o=some (true,v,mem1)) (r:nOk s o=true) (K:Act->World->Prop) (Z:∀E' C,Inv A0 R w0 E' ⟨uR s.slots o.dst (v,[]),mem1⟩ C->K C E'.w) :
    if aHE o (yielded ops a.tmps)then o.wp P a E.w K Q else K (a.put o.dst undef) E.w:=by
  unfold nOk at r;simp only[CX]at r;obtain⟨S,j,W⟩:=r;rw[gH (Dv S)];rw[ab3]at j;have hρ:∀y,y∈o.op.operands->rel E (aI s y) (a.eval y):=λ y p=>jF n.frame rfl y (j y (by simpa using p));unfold alF at i;split at i
  . rename_i c k;split at i
    . rename_i x F;split at i
      . rename_i f z;split at i
        . rename_i g t;obtain⟨⟨fn,h1,h2,h3⟩,N⟩:=Y.2.2.2.1 f g t _ _ _ _ i;obtain⟨callee,d,argTypes⟩:=c;simp only at F;subst F
          have O:dW E (d.toList.map (aI s)) (d.map a.eval).toList:=by have:=lK (E:=E) (s:=s) (ρ:=a.eval) (ys:=d.toList) (λ y p=>hρ y (by rw[k];simp[Uh,apS];exact Gc (by simpa using p)));simpa using this
          have X:=N A0 R w0 E (d.map a.eval) n.wd n.frame.1.2 O;unfold aIl
          have hf:a.eval x=.func (.func f) #[] #[]:=by have B:=hρ x (by rw[k];simp[Uh,apS]);rw[z]at B;obtain⟨I,H,e,g2,g3⟩:=Ot.1 B;have e1:I=#[]:=aIG.1 (bR.1 g2);have e2:H=#[]:=aIG.1 (bR.1 g3);rw[e,e1,e2]
          have l:(execOp a.eval o).run P E.w=.ok (.enter f (d.map a.eval)) E.w:=by unfold execOp;simp only[k,resolve,hf,aHu,QJ,aax,uT,invoke,callFunc,run_program,h1,h2,h3,aHH,aHa,aFs,if_false]
          rw[l]
          exact X.mono λ e G ⟨u,E',U,J,q,A,M⟩=>by subst U;have:=Z E' _ ⟨by rw[put_defers];exact n.defers,oD (qx q n.frame) W (λ _=>M) (λ h=>by cases h),A⟩;rw[J]at this;exact this
        . cases i
      . cases i
    . cases i
  . cases i
theorem Nv (      hT:BR P T) {E:Env} {s:St} {a:Act} {o:Oper} {g:(AV->Option Out)->Option Out} {c:Chain} {v:AV} (k:Inv A0 R w0 E s a) (i:ab8 T s o=some (true,g)) (hv:∀q,g q=q v) (N:je ops.toList s.slots o=some c) (Y:(o.op.operands.toList.all (jB s.slots c)&&nD s.slots c o.dst)=true) (K:Act->World->Prop) (hK:∀E' a',Inv A0 R w0 E' { s with slots:=uR s.slots o.dst (v,c) } a'->K a' E'.w) :
    if aHE o (yielded ops a.tmps)then o.wp P a E.w K Q else K (a.put o.dst undef) E.w:=by
  simp only[CX]at Y;obtain⟨l,hd⟩:=Y;rw[ab3]at l;rw[j6 k.frame (λ _ _=>rfl) N];cases G:tF s.slots c
  . rw[fP (by simp)];exact hK E _ ⟨by rw[put_defers];exact k.defers,oD k.frame hd (λ h=>by rw[G]at h;cases h) (λ _=>rfl),k.wd⟩
  . rw[gH rfl];unfold ab8 at i;split at i
    . rename_i cl n;obtain⟨callee,d,argTypes⟩:=cl;split at i
      . rename_i f Fp;simp only at Fp;subst Fp;split at i
        . rename_i W Z;split at i
          . cases i
          . cases t:cK (d.toList.map (aI s))
            . simp only[t,eU,gU,Ew]at i;obtain⟨X,rfl⟩:=i
              have I:mV v=true/\∀q,W (OM s.mem (d.toList.map (aI s))) q=q v:=by
                have h0:=hv λ x=>some (Out.of x);obtain⟨u,j,z⟩:=(hT.1.2.1 f W Z).1 _ _ _ h0;cases p:mV u
                . rw[p]at j;cases j
                . rw[p]at j;simp only[aY,gU,Out.of,Out.mk.injEq,true_and]at j;subst j;exact⟨p,z⟩
              obtain⟨p,J⟩:=I
              have hr:dW E (d.toList.map (aI s)) (d.map a.eval).toList:=by have:=lK (E:=E) (s:=s) (ρ:=a.eval) (ys:=d.toList) (λ y hy=>jF k.frame G y (l y (by rw[n];simp[Uh,apS];exact Gc (by simpa using hy))));simpa using this
              have r:=KJ _ k.wd.rows X hr;have M:xk (Env.shut E):=Db (vo (E:=E) (E':=⟨E.w,λ _=>False,E.O⟩) ⟨λ _ _ _ yS=>⟨id,yS⟩,λ _ _ h=>h⟩ k.frame.1.2) _;have hf:a.eval (.func f)=.func (.func f) #[] #[]:=rfl
              have A:tT P E v ((execOp a.eval o).run P E.w):=by
                rcases(hT.1.2.1 f W Z).2 _ v J with⟨⟨fn,j,z,U⟩,H⟩ |H
                . have hc:=H (λ _=>False) E.w (d.map a.eval) (λ _ h=>h.elim) r M;unfold execOp;simp only[n,resolve,hf,aHu,QJ,aax,uT,invoke,callFunc,run_program,j,z,U,aHH,aHa,aFs,if_false];exact⟨rfl,hc.mono λ e B ⟨u,g1,g2,g3⟩=>⟨u,g1,EJ v p g2,g3⟩⟩
                . obtain⟨u,B,j,z,U⟩:=H (Env.shut E) (d.map a.eval) r;have j:(callFunc f (d.map a.eval)).run P E.w=.ok (.value u) B:=j;unfold execOp;simp only[n,resolve,hf,aHu,QJ,aax,uT,invoke,aHH,aHa,j];exact⟨EJ v p U,aeX z⟩
              refine Vh A λ u B hu S=>?_;obtain⟨F,C⟩:=k.wd.on S;exact hK { E with w:=B } _ ⟨by rw[put_defers];exact k.defers,oD (qx C k.frame) hd (λ _=>hu) (λ h=>by rw[G]at h;cases h),F⟩
            . simp only[t,aY]at i;cases i
        . cases i
      . cases i
    . cases i
theorem Ny(F:BR P T){E:Env}{s s':St}{a:Act}{o:Oper}{b:Bool}{c:Chain}{n:Eff}(f:Inv A0 R w0 E s a)(d:alG P T ops.toList s o=some (b,c,n))(q:nD s.slots c o.dst=true)
  (hs:(tF s.slots c=true/\b=true/\s'=Du s o.dst c n)\/(tF s.slots c=false/\s'=⟨uR s.slots o.dst (n.v,c),s.mem⟩)) (K:Act->World->Prop) (r:∀E' t,Inv A0 R w0 E' s' t->K t E'.w) :
  if aHE o (yielded ops a.tmps)then o.wp P a E.w K Q else K (a.put o.dst undef) E.w:=by
 unfold alG at d;split at d
 .cases d
 split at d
 .cases d
 split at d
 .rename_i p x k;cases e:o.op.operands.toList.all (jB s.slots (p::x))
  .rw[e]at d;cases d
  rw[e]at d;simp only[aY]at d;split at d
  .rename_i G H B;simp only[gU,Ew]at d;obtain⟨rfl,rfl,rfl⟩:=d
   have i:E.O s.mem.length=none:=by
    cases A:E.O s.mem.length with
    |none=>rfl
    |some p=>exact absurd (f.wd.dom _ p.1 p.2 A) (aJj _)
   rw[j6 f.frame (λ _ _=>rfl) k];rcases hs with⟨g,rfl,rfl⟩ | ⟨g,rfl⟩
   .rw[gH g];rw[ab3]at e;refine OI F.flat f.frame.1.2 f.wd i (λ y z=>jF f.frame g y (e y (by simpa using z))) B (GQ f.wd.dom) λ E' u j _ l C=>?_;exact r E' _ ⟨by rw[put_defers];exact f.defers,oD (qx j f.frame) q (λ _=>C) (λ h=>by rw[g]at h;cases h),l⟩
   .rw[fP (by rw[g];simp)];exact r E _ ⟨by rw[put_defers];exact f.defers,oD f.frame q (λ h=>by rw[g]at h;cases h) (λ _=>rfl),f.wd⟩
  .cases d
 .cases d
theorem vX(f:BR P T):∀(l:List Oper) {E:Env} {s s':St} {a:Act},Inv A0 R w0 E s a->ab9 P T ops.toList l s s'->(∀E' j,Inv A0 R w0 E' s' j->Q .normal j E'.w)->wpList P ops Q l a E.w
 | [],E,s,s',a,hI,h,hQ=>by have e:s=s':=h;subst e;exact hQ E a hI
 |o::rest,E,s,s',a,hI,h,hQ=>by
  obtain⟨p,n,k⟩:=h;rcases n with(⟨v,mem1,h1,h2,rfl⟩ | ⟨v,rows,h1,h2,rfl⟩ | ⟨g,c,v,h1,h2,h3,h5,rfl⟩ | ⟨b,c,bT,h1,h2,h3,rfl⟩) | ⟨b,c,bT,h1,h2,h3⟩
  .exact wpList_step λ K i=>Nt f hI h1 h2 K λ E' j d=>i _ _ (vX f rest d k hQ)
  .exact wpList_step λ K i=>Nu f hI h1 h2 K λ E' j d=>i _ _ (vX f rest d k hQ)
  .exact wpList_step λ K i=>Nv f hI h1 h2 h3 h5 K λ E' j d=>i _ _ (vX f rest d k hQ)
  .exact wpList_step λ K i=>Nw f.flat hI h1 h2 h3 K λ E' j d=>i _ _ (vX f rest d k hQ)
  .exact wpList_step λ K i=>Ny f hI h1 h2 h3 K λ E' j d=>i _ _ (vX f rest d k hQ)
end
def OO(slots:List (AV × Chain)):List (AV × Chain):=slots.map λ q=>(match q.2 with | []=>q.1 |_::_=>.any,[])
def WL(s:St):St:={ s with slots:=OO s.slots }
theorem OP{E:Env}{F s:List (AV × Chain)}{d:Array Value}(h:AB E F s d)(i:List (AV × Chain)):AB E i (OO s) d:=by
 refine⟨⟨by rw[h.1.1];simp[OO],h.1.2⟩,λ t=>?_⟩
 have e:(OO s).getD t dflt=(match(s.getD t dflt).2 with | []=>(s.getD t dflt).1 |_::_=>.any,[]):=by
  simp only[OO,Gd,aG1];cases s[t]? with
  |none=>rfl
  |some q=>rfl
 rw[e];refine⟨λ _=>?_,λ g=>by cases g⟩;simp only;cases f:(s.getD t dflt).2 with
 |nil=>exact(h.2 t).1 (by rw[f];rfl)
 |cons p c=>exact tQ
theorem Inv.clear{A0 R:Nat->Prop}{w0:Env}{E:Env}{s:St}{a:Act}(d:Inv A0 R w0 E s a):Inv A0 R w0 E (WL s) a:=⟨d.defers,OP d.frame _,d.wd⟩
def jI:Code->Option Nat
 |.region id _ _=>some id
 |.seq x y=>match jI x with
  |some i=>some i
  |none=>jI y
 |.block _ c=>jI c
 |.loop c=>jI c
 |.scope c=>jI c
 |.cond _ x y=>match jI x with
  |some i=>some i
  |none=>jI y
 |_=>none
def bL:Code->List Code
 |.seq x y=>bL x++bL y
 |.block _ c=>bL c
 |.loop c=>c::bL c
 |.scope c=>bL c
 |.cond _ x y=>bL x++bL y
 |_=>[]
abbrev dY:=St->jL->Option Out
def rounds(body:St->jL->Option Out)(k:jL):Nat->St->Option Out
 | 0,_=>none
 |n+1,s=>body s λ e s'=>match e with
  |.normal=>rounds body k n s'
  |e=>k e s'
def jw(P:Program)(T:Tab)(D:List Oper->St->SK->Option Out)(L:Nat->Option dY)(N:Nat):Code->St->jL->Option Out
 |.skip,s,k=>k .normal s
 |.region _ ops draw,s,k=>cond draw (D ops.toList s λ s'=>k .normal (WL s')) (Jk P T ops.toList ops.toList s λ s'=>k .normal (WL s'))
 |.seq x y,s,k=>jw P T D L N x s λ e s'=>match e with
  |.normal=>jw P T D L N y s' k
  |e=>k e s'
 |.cond c x y,s,k=>cond (jB s.slots [] c) (match aI s c with
  |.x (.bool b)=>cond b (jw P T D L N x s k) (jw P T D L N y s k)
  |_=>none) none
 |.block id c,s,k=>jw P T D L N c s λ e s'=>match e with
  |.exit id'=>cond (id'==id) (k .normal s') (k (.exit id') s')
  |e=>k e s'
 |.loop c,s,k=>match jI c with
  |some i=>match L i with
   |some g=>g s k
   |none=>rounds (λ s k=>jw P T D L N c s k) k N s
  |none=>none
 |.exit id,s,k=>k (.exit id) s
 |.scope c,s,k=>jw P T D L N c s λ e s'=>match e with
  |.goto _=>none
  |e=>k e s'
 |.label _,s,k=>k .normal s
 |.ret,s,k=>k .ret s
 |.goto l,s,k=>k (.goto l) s
 |_,_,_=>none
def aCN(D:List Oper->St->SK->Option Out):Prop:=∀ops s k r,D ops s k=some r->∃d,k d=some r/\∀e,D ops s e=e d
def DOk(P:Program)(D:List Oper->St->SK->Option Out):Prop:=aCN D /\
 ∀(A0 R:Nat->Prop) (w0:Env) (E:Env) (s d:St) (a:Act) (id:Nat) (ops:Array Oper) (Q:Exit->Act->World->Prop),Inv A0 R w0 E s a->(∀e,D ops.toList s e=e d) ->
  (∀g f,Inv A0 R w0 g (WL d) f->Q .normal f g.w)->(Code.region id ops true).wp P Q a E.w
def aFJ(g:dY):Prop:=∀s k r,g s k=some r->∃e d,k e d=some r/\∀f,g s f=f e d
def Ib(np:Nat)(A0 R:Nat->Prop)(w0:Env):Prop:=(∀k,np<=k->w0.O k=none)/\(∀b,R b->∃k c,k<np/\w0.O k=some (b,c))/\∀b,A0 b->b<w0.w.heap.size
def o7(np:Nat)(P:Program)(c:Code)(g:dY):Prop:=aFJ g /\
 ∀(s d:St) (e:Exit),(∀f,g s f=f e d)->∀(A0 R:Nat->Prop) (w0:Env) (E:Env) (a:Act),Ib np A0 R w0->Inv A0 R w0 E s a->(Code.loop c).wp P (λ j k i=>j=e/\∃h,h.w=i/\Inv A0 R w0 h d k) a E.w
def nT(np:Nat)(P:Program)(L:Nat->Option dY)(c:Code):Prop:=∀d,d∈bL c->∀i g,jI d=some i->L i=some g->o7 np P d g
abbrev Dw(P:Program)(c:Code)(g:dY):Prop:=o7 0 P c g
abbrev yx(P:Program)(L:Nat->Option dY)(c:Code):Prop:=nT 0 P L c
section
variable{P:Program}{T:Tab}{D:List Oper->St->SK->Option Out}{L:Nat->Option dY}{A0 R:Nat->Prop}{w0:Env}
def Post(A0 R:Nat->Prop)(w0:Env)(k:jL)(r:Out):Exit->Act->World->Prop :=λ e h g=>∃f d,f.w=g/\Inv A0 R w0 f d h/\k e d=some r
theorem Io{np:Nat}(O:Ib np A0 R w0)(X:BR P T)(Y:DOk P D)(N:Nat)(c:Code):nT np P L c->∀{E:Env} {s:St} {k:jL} {r:Out} {a:Act},Inv A0 R w0 E s a->jw P T D L N c s k=some r->c.wp P (Post A0 R w0 k r) a E.w:=by
 induction c with
 |skip=>intro _ E s k r a j h;exact wp_skip ⟨E,s,rfl,j,h⟩
 |label l=>intro _ E s k r a j h;exact wp_label ⟨E,s,rfl,j,h⟩
 |ret=>intro _ E s k r a j h;exact wp_ret ⟨E,s,rfl,j,h⟩
 |exit id=>intro _ E s k r a j h;exact wp_exit ⟨E,s,rfl,j,h⟩
 |goto l=>intro _ E s k r a j h;exact wp_goto ⟨E,s,rfl,j,h⟩
 |refuse y=>intro _ E s k r a j h;simp[jw]at h
 |rangeFunc f ps x y ihx ihy=>intro _ E s k r a j h;simp[jw]at h
 |region id ops draw =>
  intro _ E s k r a j h;simp only[jw]at h;cases draw with
  |true =>
   simp only[aY]at h;obtain⟨W,J,I⟩:=Y.1 _ _ _ _ h;exact Y.2 A0 R w0 E s W a id ops _ j I λ u H d=>⟨u,_,rfl,d,J⟩
  |false =>
   simp only[eU]at h;obtain⟨W,J,I,_⟩:=Br X.par h;exact wp_region_list (vX X ops.toList j J λ u H d=>⟨u,_,rfl,d.clear,I⟩)
 |seq x y ihx ihy =>
  intro B E s k r a j h;simp only[jw]at h;have G:nT np P L x:=λ z p=>B z (by simp[bL,p]);have F:nT np P L y:=λ z p=>B z (by simp[bL,p]);refine wp_seq (aza ?_ (ihx G j h));rintro e H M ⟨u,A,rfl,d,q⟩;cases e<;>simp only[Exit.then]at q ⊢
  case normal=>exact ihy F d q
  all_goals exact⟨u,A,rfl,d,q⟩
 |cond c x y ihx ihy =>
  intro B E s k r a j h;simp only[jw]at h;have G:nT np P L x:=λ z p=>B z (by simp[bL,p]);have F:nT np P L y:=λ z p=>B z (by simp[bL,p]);cases S:jB s.slots [] c
  .rw[S]at h;cases h
  .rw[S]at h;simp only[aY]at h;split at h
   .rename_i b hb;have hv:=jF j.frame (c:=[]) rfl c S;rw[hb]at hv;refine wp_cond (t:=b) (Ic hv) ?_;cases b
    .exact ihy F j h
    .exact ihx G j h
   .cases h
 |block id c ih =>
  intro B E s k r a j h;simp only[jw]at h;refine wp_block (aza ?_ (ih (λ z p=>B z (by simpa[bL]using p)) j h));rintro e H M ⟨u,A,rfl,d,q⟩;cases e<;>simp only[Exit.inBlock]at q ⊢
  case exit id' =>
   by_cases C:id'=id
   .rw[gH C];have:(id'==id)=true:=by simpa using C
    rw[this]at q;exact⟨u,A,rfl,d,q⟩
   .rw[fP C];have:(id'==id)=false:=by simpa using C
    rw[this]at q;exact⟨u,A,rfl,d,q⟩
  all_goals exact⟨u,A,rfl,d,q⟩
 |loop c ih =>
  intro B E s k r a j h;simp only[jw]at h;split at h
  .rename_i i hi;split at h
   .rename_i g hg;obtain⟨hp,hs⟩:=B c (by simp[bL]) i g hi hg;obtain⟨e,A,J,I⟩:=hp s k r h;refine aza ?_ (hs s A e I A0 R w0 E a O j);rintro e' H M ⟨rfl,u,Z,d⟩;exact⟨u,A,Z,d,J⟩
   .refine wp_loop_rounds N ?_;have U:nT np P L c:=λ z p=>B z (by simp[bL,p])
    have key:∀(n:Nat) {E:Env} {s:St} {a:Act},Inv A0 R w0 E s a->rounds (λ s k=>jw P T D L N c s k) k n s=some r->aOd P c (Post A0 R w0 k r) n a E.w:=by
     intro n
     induction n with
     |zero=>intro E s a j h;simp[rounds]at h
     |succ n ihn =>
      intro E s a j h;simp only[rounds]at h;rw[rounds_succ];refine aza ?_ (ih U j h);rintro e H M ⟨u,A,rfl,d,q⟩;cases e<;>simp only[Exit.then]at q ⊢
      case normal=>exact ihn d q
      all_goals exact⟨u,A,rfl,d,q⟩
    exact key N j h
  .cases h
 |scope c ih =>
  intro B E s k r a j h;simp only[jw]at h;refine wp_scope_straight (aza ?_ (ih (λ z p=>B z (by simpa[bL]using p)) j h));rintro e H M ⟨u,A,rfl,d,q⟩;cases e<;>simp only[Exit.noGoto]at q ⊢
  case goto l=>cases q
  all_goals exact⟨u,A,rfl,d,q⟩
end
theorem OQ{body:St->jL->Option Out}(i:∀s k r,body s k=some r->∃e s',k e s'=some r/\∀d,body s d=d e s'):∀(n:Nat) (s:St) (k:jL) (r:Out),rounds body k n s=some r->∃e s',k e s'=some r/\∀d,rounds body d n s=d e s'
 | 0,s,k,r,h=>by simp[rounds]at h
 |n+1,s,k,r,h=>by
  simp only[rounds]at h;obtain⟨e,s1,g,j⟩:=i _ _ _ h;by_cases f:e=.normal
  .subst f;simp only at g;obtain⟨e2,s2,p,l⟩:=OQ i n s1 k r g;exact⟨e2,s2,p,λ d=>by simp only[rounds];rw[j];exact l d⟩
  .refine⟨e,s1,?_,λ d=>?_⟩
   .cases e<;>first |exact absurd rfl f |exact g
   .simp only[rounds];rw[j];cases e<;>first |exact absurd rfl f |rfl
theorem ahs{np:Nat}{P:Program}{T:Tab}{D:List Oper->St->SK->Option Out}{L:Nat->Option dY}(H:QV T)(I:aCN D)(N:Nat)(c:Code):nT np P L c->∀(s:St) (k:jL) (r:Out),jw P T D L N c s k=some r->∃e s',k e s'=some r/\∀w,jw P T D L N c s w=w e s':=by
 induction c with
 |skip=>intro _ s k r h;exact⟨_,_,h,λ _=>rfl⟩
 |label l=>intro _ s k r h;exact⟨_,_,h,λ _=>rfl⟩
 |ret=>intro _ s k r h;exact⟨_,_,h,λ _=>rfl⟩
 |exit id=>intro _ s k r h;exact⟨_,_,h,λ _=>rfl⟩
 |goto l=>intro _ s k r h;exact⟨_,_,h,λ _=>rfl⟩
 |refuse y=>intro _ s k r h;simp[jw]at h
 |rangeFunc f ps x y ihx ihy=>intro _ s k r h;simp[jw]at h
 |region id ops draw =>
  intro _ s k r h;simp only[jw]at h ⊢;cases draw with
  |true =>
   simp only[aY]at h ⊢;obtain⟨t,j,n⟩:=I _ _ _ _ h;exact⟨_,_,j,λ w=>n _⟩
  |false =>
   simp only[eU]at h ⊢;obtain⟨t,_,n,B⟩:=Br H h;exact⟨_,_,n,λ w=>B _⟩
 |seq x y ihx ihy =>
  intro q s k r h;simp only[jw]at h ⊢;obtain⟨e,t,j,n⟩:=ihx (λ p d=>q p (by simp[bL,d])) _ _ _ h;by_cases z:e=.normal
  .subst z;simp only at j;obtain⟨e2,s2,B,J⟩:=ihy (λ p d=>q p (by simp[bL,d])) _ _ _ j;exact⟨e2,s2,B,λ w=>by rw[n];exact J w⟩
  .refine⟨e,t,?_,λ w=>?_⟩
   .cases e<;>first |exact absurd rfl z |exact j
   .rw[n];cases e<;>first |exact absurd rfl z |rfl
 |cond c x y ihx ihy =>
  intro q s k r h;simp only[jw]at h ⊢;cases C:jB s.slots [] c
  .rw[C]at h;cases h
  .rw[C]at h;simp only[aY]at h ⊢;split at h
   .rename_i b M;cases b
    .obtain⟨e,t,j,n⟩:=ihy (λ p d=>q p (by simp[bL,d])) _ _ _ h;exact⟨e,t,j,n⟩
    .obtain⟨e,t,j,n⟩:=ihx (λ p d=>q p (by simp[bL,d])) _ _ _ h;exact⟨e,t,j,n⟩
   .cases h
 |block id c ih =>
  intro q s k r h;simp only[jw]at h ⊢;obtain⟨e,t,j,n⟩:=ih (λ p d=>q p (by simpa[bL]using d)) _ _ _ h;by_cases z:e=.exit id
  .subst z;simp only[BEq.rfl,aY]at j;exact⟨_,_,j,λ w=>by rw[n];simp⟩
  .refine⟨e,t,?_,λ w=>?_⟩
   .cases e<;>first |exact j |skip
    rename_i u
    have:(u==id)=false:=by
     cases A:u==id
     .rfl
     .exact absurd (by rw[Aw A]) z
    simp only[this,eU]at j;exact j
   .rw[n];cases e<;>first |rfl |skip
    rename_i u
    have:(u==id)=false:=by
     cases A:u==id
     .rfl
     .exact absurd (by rw[Aw A]) z
    simp only[this,eU]
 |loop c ih =>
  intro q s k r h;simp only[jw]at h ⊢;split at h
  .rename_i i F;split at h
   .rename_i g G;exact(q c (by simp[bL]) i g F G).1 s k r h
   .exact OQ (body:=λ s k=>jw P T D L N c s k) (ih λ p d=>q p (by simp[bL,d])) N s k r h
  .cases h
 |scope c ih =>
  intro q s k r h;simp only[jw]at h ⊢;obtain⟨e,t,j,n⟩:=ih (λ p d=>q p (by simpa[bL]using d)) _ _ _ h;refine⟨e,t,?_,λ w=>?_⟩
  .cases e<;>first |exact j |cases j
  .rw[n];cases e<;>first |rfl |cases j
end
noncomputable section
mutual
def kG(σ:Nat->Option Nat):AV->AV
 |.own k off=>match σ k with
  |some d=>.own d off
  |none=>.any
 |.qX k sz i sub=>match σ k with
  |some d=>.qX d sz i sub
  |none=>.any
 |.bQ k sz st len=>match σ k with
  |some d=>.bQ d sz st len
  |none=>.any
 |.view k sz st sub n=>match σ k with
  |some d=>.view d sz st sub n
  |none=>.any
 |.agg l=>.agg (jo σ l)
 |.bK l=>.bK (jo σ l)
 |.jd t x=>.jd t (kG σ x)
 |.fn g a b=>.fn g (jo σ a) (jo σ b)
 |.x v=>.x v
 |.f w=>.f w
 |.cx a b=>.cx a b
 |.ref l o=>.ref l o
 |.iN l o=>.iN (jo σ l) o
 |.sl sz n el=>.sl sz n el
 |.any=>.any
def jo(σ:Nat->Option Nat):List AV->List AV
 | []=>[]
 |x::xs=>kG σ x::jo σ xs
end
mutual
theorem rF:∀(x:AV) {σ:Nat->Option Nat} {E:Env} {r:Nat->Option (Nat × Nat × Nat)} (_:∀k w p,σ k=some w->E.O k=some p->r w=some p) (u:Value),bY x E u->bY (kG σ x) { E with O:=r } u
 |.x v,σ,E,r,_,u,d=>by rw[kG];unfold bY at *;exact d
 |.f a,σ,E,r,_,u,d=>by rw[kG];unfold bY at *;exact d
 |.cx a c,σ,E,r,_,u,d=>by rw[kG];unfold bY at *;exact d
 |.agg l,σ,E,r,h,u,d=>by rw[kG];unfold bY at *;obtain⟨B,q,j⟩:=d;exact⟨B,q,oU l h _ j⟩
 |.bK l,σ,E,r,h,u,d=>by rw[kG];unfold bY at *;obtain⟨B,q,j⟩:=d;exact⟨B,q,oU l h _ j⟩
 |.own k off,σ,E,r,h,u,d=>by
  rw[kG];split
  .rename_i w z;unfold bY at *;obtain⟨b,c,q,j⟩:=d;exact⟨b,c,h k w _ z q,j⟩
  .exact dK
 |.qX k sz i sub,σ,E,r,h,u,d=>by
  rw[kG];split
  .rename_i w z;unfold bY at *;obtain⟨b,c,q,j⟩:=d;exact⟨b,c,h k w _ z q,j⟩
  .exact dK
 |.view k sz st sub n,σ,E,r,h,u,d=>by
  rw[kG];split
  .rename_i w z;unfold bY at *;obtain⟨a,c,q,j,A⟩:=d;refine⟨a,c,q,j,?_⟩;rcases A with A | ⟨b,J,C,H⟩
   .exact wV A
   .exact Gc ⟨b,J,h k w _ z C,H⟩
  .exact dK
 |.bQ k sz st len,σ,E,r,h,u,d=>by
  rw[kG];split
  .rename_i w z;unfold bY at *;rcases d with d | ⟨b,c,n,q,j⟩
   .exact wV d
   .exact Gc ⟨b,c,n,h k w _ z q,j⟩
  .exact dK
 |.ref l off,σ,E,r,h,u,d=>by rw[kG];unfold bY at *;exact d
 |.iN l off,σ,E,r,h,u,d=>by rw[kG];unfold bY at *;obtain⟨b,o,I,e,fz,q,j,A,C⟩:=d;exact⟨b,o,I,e,fz,q,j,A,YH l h _ C⟩
 |.sl sz n el,σ,E,r,h,u,d=>by rw[kG];unfold bY at *;exact d
 |.jd t x,σ,E,r,h,u,d=>by rw[kG];unfold bY at *;obtain⟨y,q,j⟩:=d;exact⟨y,q,rF x h y j⟩
 |.fn g a b,σ,E,r,h,u,d=>by rw[kG];unfold bY at *;obtain⟨G,F,q,j,A⟩:=d;exact⟨G,F,q,oU a h _ j,oU b h _ A⟩
 |.any,σ,E,r,_,_,_=>by rw[kG];exact dK
theorem oU:∀(xs:List AV) {σ:Nat->Option Nat} {E:Env} {d:Nat->Option (Nat × Nat × Nat)} (_:∀k e p,σ k=some e->E.O k=some p->d e=some p) (us:List Value),jg xs E us->jg (jo σ xs) { E with O:=d } us
 | [],σ,E,d,_,us,hr=>by rw[jo];cases us<;>(unfold jg at *;exact hr)
 |x::xs,σ,E,d,h,u::us,hr=>by rw[jo];unfold jg at *;exact⟨rF x h u hr.1,oU xs h us hr.2⟩
 |x::xs,σ,E,d,h,[],hr=>by unfold jg at hr;exact hr.elim
theorem YH:∀(xs:List AV) {σ:Nat->Option Nat} {E:Env} {d:Nat->Option (Nat × Nat × Nat)} (_:∀k e p,σ k=some e->E.O k=some p->d e=some p) (us:List Value),lu xs E us->lu (jo σ xs) { E with O:=d } us
 | [],σ,E,d,_,us,hr=>by rw[jo];unfold lu;trivial
 |x::xs,σ,E,d,h,u::us,hr=>by rw[jo];unfold lu at *;exact⟨rF x h u hr.1,YH xs h us hr.2⟩
 |x::xs,σ,E,d,h,[],hr=>by unfold lu at hr;exact hr.elim
end
def R8(σ:Nat->Option Nat)(x d:AV):Prop:=d=.any\/d=kG σ x\/(x=.x (.slice none 0 0)/\∃k e,d=.bQ k e 0 0)
theorem R8.rel{σ:Nat->Option Nat}{x d:AV}(h:R8 σ x d){E:Env}{g:Nat->Option (Nat × Nat × Nat)}(i:∀k e p,σ k=some e->E.O k=some p->g e=some p){u:Value}(f:rel E x u):rel { E with O:=g } d u:=by
 rcases h with rfl |rfl | ⟨rfl,k,j,rfl⟩
 .exact tQ
 .exact rF x i u f
 .exact dV.2 (wV ⟨rfl,rfl,cB.1 f⟩)
def LJ(σ:Nat->Option Nat):List (AV × Chain)->List (AV × Chain)->Prop
 | [],[]=>True
 |x::xs,y::ys=>(y.2=[]/\(y.1=.any\/(x.2=[]/\R8 σ x.1 y.1)))/\LJ σ xs ys
 |_,_=>False
def yJ(σ:Nat->Option Nat):List AV->List AV->Prop
 |_,[]=>True
 |x::xs,y::ys=>R8 σ x y/\yJ σ xs ys
 | [],_::_=>False
def KL(σ:Nat->Option Nat)(row d:Row):Prop :=d=.dead\/(∃l f,row=.c l/\d=.c f/\yJ σ l f)\/(∃e h n el g,row=.a e h n el/\d=.a e h n g/\∀i,i<n->g i=el i)\/(∃e l f,row=.t e l/\d=.t e f/\yJ σ l f/\f.length=l.length)\/(∃s p e,row=.i s p e/\d=.i s p e)
def jC(τ:List (Option Nat))(k:Nat):Option Nat:=τ.findIdx? (·==some k)
def tN(τ:List (Option Nat))(mem:List Row):List (Option Nat)->List Row->Prop
 | [],[]=>True
 |o::os,row'::rows=>(match o with
  |some k=>∃row,mem[k]?=some row/\KL (jC τ) row row'
  |none=>True)/\tN τ mem os rows
 |_,_=>False
def fQ(np:Nat)(s s':St):Prop:=∀(A0 R:Nat->Prop) (w0:Env) (E:Env) (a:Act),Ib np A0 R w0->Inv A0 R w0 E s a->∃d,d.w=E.w/\Inv A0 R w0 d s' a
abbrev Sub(s s':St):Prop:=fQ 0 s s'
theorem fQ.refl{np:Nat}(s:St):fQ np s s:=λ _ _ _ E _ _ h=>⟨E,rfl,h⟩
theorem Sub.refl(s:St):Sub s s:=fQ.refl s
theorem fQ.trans{np:Nat}{s s' d:St}(h:fQ np s s')(g:fQ np s' d):fQ np s d:=λ A0 R w0 E a e f=>by obtain⟨l,e1,j⟩:=h A0 R w0 E a e f;obtain⟨k,e2,i⟩:=g A0 R w0 l a e j;exact⟨k,e2.trans e1,i⟩
theorem NW{τ:List (Option Nat)}{k d:Nat}(h:jC τ k=some d):τ[d]?=some (some k):=by unfold jC at h;rw[List.findIdx?_eq_some_iff_getElem]at h;obtain⟨f,e,_⟩:=h;rw[Ga f];simpa using e
theorem LJ.get{σ:Nat->Option Nat}:∀{xs ys:List (AV × Chain)},LJ σ xs ys->xs.length=ys.length/\∀t,(ys.getD t dflt).2=[]/\((ys.getD t dflt).1=.any\/((xs.getD t dflt).2=[]/\R8 σ (xs.getD t dflt).1 (ys.getD t dflt).1))
 | [],[],_=>⟨rfl,λ t=>⟨rfl,Gc ⟨rfl,Gc (wV rfl)⟩⟩⟩
 |x::xs,y::ys,h=>by
  obtain⟨e,d⟩:=LJ.get h.2;refine⟨by simp[e],λ t=>?_⟩;cases t with
  |zero=>exact h.1
  |succ t=>simpa using d t
 | [],_::_,h=>h.elim
 |_::_,[],h=>h.elim
theorem yJ.pre{σ:Nat->Option Nat}{E:Env}{i:Nat->Option (Nat × Nat × Nat)}(g:∀k f p,σ k=some f->E.O k=some p->i f=some p):∀{l e:List AV} {us:List Value},yJ σ l e->pre E l us->pre { E with O:=i } e us
 |_,[],_,_,_=>pre_nil
 |x::xs,y::ys,us,h,hp=>by obtain⟨u,d,rfl,n,j⟩:=bF.1 hp;exact bF.2 ⟨u,d,rfl,h.1.rel g n,yJ.pre g h.2 j⟩
 | [],_::_,_,h,_=>h.elim
theorem KL.rel{σ:Nat->Option Nat}{row d:Row}(h:KL σ row d){E:Env}{x:Nat->Option (Nat × Nat × Nat)}(w:∀k t p,σ k=some t->E.O k=some p->x t=some p){b:Nat}{c:Nat × Nat}(q:lQ E b c row):lQ { E with O:=x } b c d:=by
 rcases h with rfl | ⟨l,y,rfl,rfl,h⟩ | ⟨e,G,n,el,F,rfl,rfl,h⟩ | ⟨e,l,y,rfl,rfl,h,z⟩ | ⟨s,p,e,rfl,rfl⟩
 .trivial
 .obtain⟨j,e,g,f⟩:=q;exact⟨j,e,g,h.pre w f⟩
 .obtain⟨j,g,f,r,C,B,A⟩:=q;exact⟨j,g,f,r,C,B,λ i u=>by rw[h i u];exact A i u⟩
 .obtain⟨j,g,f,r⟩:=q;exact⟨j,g,h.pre w f,by rw[z];exact r⟩
 .exact q
theorem KL.live{σ:Nat->Option Nat}{row d:Row}(h:KL σ row d)(g:d.live=true):row.live=true:=by
 rcases h with rfl | ⟨l,f,rfl,rfl,h⟩ | ⟨e,j,n,el,i,rfl,rfl,h⟩ | ⟨e,l,f,rfl,rfl,h,_⟩ | ⟨s,p,e,rfl,rfl⟩
 .cases g
 .rfl
 .rfl
 .rfl
 .rfl
theorem tN.get{τ:List (Option Nat)}{mem:List Row}:∀{os:List (Option Nat)} {e:List Row},tN τ mem os e->∀(f k:Nat),os[f]?=some (some k)->∃row d,mem[k]?=some row/\e[f]?=some d/\KL (jC τ) row d
 | [],[],_,f,k,h=>by simp at h
 |o::os,d::e,h,f,k,hk=>by
  cases f with
  |zero =>
   simp at hk;subst hk;obtain⟨row,i,g⟩:=h.1;exact⟨row,d,i,rfl,g⟩
  |succ f=>simpa using tN.get h.2 f k (by simpa using hk)
 | [],_::_,h,_,_,_=>h.elim
 |_::_,[],h,_,_,_=>h.elim
def distinct:List (Option Nat)->Bool
 | []=>true
 |none::os=>distinct os
 |some k::os=>!(os.contains (some k))&&distinct os
theorem vE:∀{os:List (Option Nat)},distinct os=true->∀(i j k:Nat),os[i]?=some (some k)->os[j]?=some (some k)->i=j
 | [],_,i,j,k,h,_=>by simp at h
 |none::os,hd,i,j,k,hi,hj=>by
  cases i with
  |zero=>simp at hi
  |succ i =>
   cases j with
   |zero=>simp at hj
   |succ j=>rw[vE (os:=os) hd i j k (by simpa using hi) (by simpa using hj)]
 |some k0::os,hd,i,j,k,hi,hj=>by
  simp only[distinct,CX,Bool.not_eq_true']at hd
  have d:∀n,os[n]?≠some (some k0):=λ n e=>by have:os.contains (some k0)=true:=List.contains_iff_mem.2 (ajw e);rw[hd.1]at this;cases this
  cases i with
  |zero =>
   simp at hi;subst hi;cases j with
   |zero=>rfl
   |succ j=>exact absurd (by simpa using hj) (d j)
  |succ i =>
   cases j with
   |zero =>
    simp at hj;subst hj;exact absurd (by simpa using hi) (d i)
   |succ j=>rw[vE hd.2 i j k (by simpa using hi) (by simpa using hj)]
theorem ae9{np:Nat}{s s':St}(τ:List (Option Nat))(CP:∀k,k<np->τ[k]?=some (some k))(U:distinct τ=true)(X:LJ (jC τ) s.slots s'.slots)(N:tN τ s.mem τ s'.mem):fQ np s s':=by
 intro A0 R w0 E a A g
 let H:Nat->Option (Nat × Nat × Nat):=λ d=>match τ[d]? with
  |some (some k)=>E.O k
  |_=>none
 have M:∀k d p,jC τ k=some d->E.O k=some p->H d=some p:=λ k d p e B=>by
  show(match τ[d]? with |some (some k)=>E.O k |_=>none)=some p
  rw[NW e];exact B
 have f:∀d p,H d=some p->∃k,τ[d]?=some (some k)/\E.O k=some p:=λ d p B=>by
  have n:(match τ[d]? with |some (some k)=>E.O k |_=>none)=some p:=B
  split at n
  .rename_i k e;exact⟨k,e,n⟩
  .cases n
 obtain⟨r,w⟩:=X.get
 have lives:∀d k,τ[d]?=some (some k)->aN s'.mem d=true->aN s.mem k=true:=λ d k e q=>by obtain⟨row,j,z,g2,g3⟩:=N.get d k e;unfold aN at q ⊢;rw[g2]at q;rw[z];exact g3.live q
 refine⟨{ E with O:=H },rfl,g.defers,⟨⟨by rw[g.frame.1.1,r],Db g.frame.1.2 _⟩,λ t=>?_⟩,⟨?_,g.wd.small,g.wd.old,?_,?_,g.wd.below,⟨g.wd.zA.keep,λ k p e=>?_⟩⟩⟩
 .obtain⟨z,g2⟩:=w t;rw[z];refine⟨λ _=>?_,λ h=>by cases h⟩;rcases g2 with g2 | ⟨g2,g3⟩
  .rw[g2];exact tQ
  .exact g3.rel M ((g.frame.2 t).1 (by rw[g2];rfl))
 .intro d b c y;obtain⟨k,e,i⟩:=f d _ y;obtain⟨row,j,z,g2,g3⟩:=N.get d k e;obtain⟨I,S,Y⟩:=g.wd.rows k b c i;rw[z]at S;cases S;exact⟨j,g2,g3.rel M Y⟩
 .intro d b c y q;obtain⟨k,e,i⟩:=f d _ y;exact g.wd.own k b c i (lives d k e q)
 .intro d l b c Z y i q F;obtain⟨k,e,G⟩:=f d _ y;obtain⟨J,u,x⟩:=f l _ i;have:=g.wd.one k J b c Z G x (lives d k e q) (lives l J u F);subst this;exact vE U d l k e u
 .have C:k<np:=Nat.lt_of_not_le λ W=>by rw[A.1 k W]at e;cases e
  show(match τ[k]? with |some (some k)=>E.O k |_=>none)=some p
  rw[CP k C];exact g.wd.zA.own k p e
theorem ace{s s':St}(τ:List (Option Nat))(e:distinct τ=true)(g:LJ (jC τ) s.slots s'.slots)(f:tN τ s.mem τ s'.mem):Sub s s':=ae9 τ (λ k d=>absurd d (Nat.not_lt_zero k)) e g f
theorem Sub.trans{s s' d:St}(h:Sub s s')(g:Sub s' d):Sub s d:=fQ.trans h g
def fM(np:Nat)(P:Program)(c:Code)(s:St)(e:Exit)(s':St):Prop :=∀(A0 R:Nat->Prop) (w0:Env) (E:Env) (a:Act),Ib np A0 R w0->Inv A0 R w0 E s a->c.wp P (λ g h f=>g=e/\∃d,d.w=f/\Inv A0 R w0 d s' h) a E.w
abbrev bH(P:Program)(c:Code)(s:St)(e:Exit)(s':St):Prop:=fM 0 P c s e s'
theorem fM.sub{np:Nat}{P:Program}{c:Code}{s s1 s2 g:St}{e:Exit}(h:fM np P c s1 e s2)(l:fQ np s s1)(g2:fQ np s2 g):fM np P c s e g:=λ A0 R w0 E a d i=>by obtain⟨q,e1,k⟩:=l A0 R w0 E a d i;rw[<-e1];refine aza ?_ (h A0 R w0 q a d k);rintro u n t ⟨rfl,r,rfl,f⟩;obtain⟨p,e2,j⟩:=g2 A0 R w0 r n d f;exact⟨rfl,p,e2,j⟩
theorem bH.sub{P:Program}{c:Code}{s s1 s2 d:St}{e:Exit}(h:bH P c s1 e s2)(f:Sub s s1)(g2:Sub s2 d):bH P c s e d:=fM.sub h f g2
def fin:jL:=λ e s=>some ⟨e,s,.any⟩
theorem aP{np:Nat}{P:Program}{c:Code}(S:Nat->St)(n:Nat)(e:Exit)(l:St)(t:e≠.normal)(hstep:∀j,j<n->fM np P c (S j) .normal (S (j+1)))(g:fM np P c (S n) e l):fM np P (.loop c) (S 0) e l:=λ A0 R w0 E a q h=>by
 refine wp_loop_rounds (n+1) ?_
 have key:∀(m j:Nat) {E:Env} {a:Act},j+m=n->Inv A0 R w0 E (S j) a->aOd P c (λ i p k=>i=e/\∃f,f.w=k/\Inv A0 R w0 f l p) (m+1) a E.w:=by
  intro m
  induction m with
  |zero =>
   intro j E a r h;have:j=n:=by omega
   subst this;rw[rounds_succ];refine aza ?_ (g A0 R w0 E a q h);rintro i p k ⟨rfl,f,rfl,d⟩;cases i<;>simp only[Exit.then]<;>first |exact absurd rfl t |exact⟨trivial,f,rfl,d⟩ |exact⟨rfl,f,rfl,d⟩
  |succ m ih =>
   intro j E a r h;rw[rounds_succ];refine aza ?_ (hstep j (by omega) A0 R w0 E a q h);rintro i p k ⟨rfl,f,rfl,d⟩;simp only[Exit.then];exact ih (j+1) (by omega) d
 exact key n 0 (by omega) h
noncomputable def told(f:St)(e:Exit)(d:St):dY:=λ s k=>open Classical in if Sub s f then k e d else none
theorem GR{P:Program}{c:Code}{g j:St}{e:Exit}(h:bH P (.loop c) g e j):Dw P c (told g e j):=by
 classical
 constructor
 .intro s k r f;unfold told at f ⊢;by_cases d:Sub s g
  .rw[gH d]at f;exact⟨e,j,f,λ u=>by rw[gH d]⟩
  .rw[fP d]at f;cases f
 .intro s t w l A0 R w0 E a n q
  have d:Sub s g:=aOB λ p=>by have:=l fin;unfold told at this;rw[fP p]at this;cases this
  have i:=l fin;unfold told at i;rw[gH d]at i;simp only[fin,gU,Out.mk.injEq,and_true]at i;obtain⟨rfl,rfl⟩:=i;exact h.sub d (Sub.refl _) A0 R w0 E a n q
end
noncomputable section
def Fq(f:AV->Option AV):List AV->Option (List AV)
 | []=>some []
 |x::xs=>match f x,Fq f xs with
  |some y,some ys=>some (y::ys)
  |_,_=>none
def zf(mem:List Row):Nat->AV->Option AV
 | 0,_=>none
 |n+1,v=>match v with
  |.own k off=>match mem[k]? with
   |some (.c l)=>(Fq (zf mem n) l).map (.ref · off)
   |_=>none
  |.qX _ _ _ _=>none
  |.view _ _ _ _ _=>none
  |.bQ k sz st len=>match mem[k]? with
   |some (.a _ sz' _ el)=>cond (sz==sz') (some (.sl sz len (λ i=>el (st+i)))) none
   |_=>none
  |.agg l=>(Fq (zf mem n) l).map .agg
  |.bK l=>(Fq (zf mem n) l).map .bK
  |.jd t x=>(zf mem n x).map (.jd t)
  |v=>cond (iq v) (some v) none
theorem EK{E E1:Env}{f:AV->Option AV}(h:∀x y u,f x=some y->rel E x u->rel E1 y u):∀{xs ys:List AV} {us:List Value},Fq f xs=some ys->dW E xs us->dW E1 ys us
 | [],ys,us,hm,hr=>by simp only[Fq,gU]at hm;subst hm;rw[bR.1 hr];exact bR.2 rfl
 |x::xs,ys,us,hm,hr=>by
  simp only[Fq]at hm;split at hm
  .rename_i y e k j;simp only[gU]at hm;subst hm;obtain⟨u,d,rfl,i,g⟩:=aD.1 hr;exact aD.2 ⟨u,d,rfl,h x y u k i,EK h j g⟩
  .cases hm
theorem YI{E E1:Env}{f:AV->Option AV}(h:∀x y u,f x=some y->rel E x u->rel E1 y u):∀{xs ys:List AV} {us:List Value},Fq f xs=some ys->pre E xs us->pre E1 ys us
 | [],ys,us,hm,hr=>by simp only[Fq,gU]at hm;subst hm;exact pre_nil
 |x::xs,ys,us,hm,hr=>by
  simp only[Fq]at hm;split at hm
  .rename_i y e k j;simp only[gU]at hm;subst hm;obtain⟨u,d,rfl,i,g⟩:=bF.1 hr;exact bF.2 ⟨u,d,rfl,h x y u k i,YI h j g⟩
  .cases hm
theorem arj{E:Env}{mem:List Row}{A':Nat->Prop}(N:uN E mem)(hA:∀b,A' b->E.A b)(p:∀k b c,E.O k=some (b,c)->aN mem k=true->¬A' b):∀(n:Nat) (x y:AV) (u:Value),zf mem n x=some y->rel E x u->rel ⟨E.w,A',λ _=>none⟩ y u:=by
 intro n
 induction n with
 |zero=>intro x y u h;cases h
 |succ n ih =>
  intro x y u h j
  have plain:∀{v:AV},cond (iq v) (some v) none=some y->rel E v u->rel ⟨E.w,A',λ _=>none⟩ y u:=by
   intro v h j;cases I:iq v
   .rw[I]at h;cases h
   .rw[I]at h;simp only[aY,gU]at h;subst h;exact ag9 j I λ b B Y C=>⟨λ J=>B (hA b J),C⟩
  cases x with
  |own k X =>
   simp only[zf]at h;obtain⟨b,c,B,rfl⟩:=mP.1 j;obtain⟨row,d,r⟩:=N k b c B;rw[d]at h;cases row<;>simp only at h<;>first | (cases h;done) |skip
   rename_i l;cases f:Fq (zf mem n) l with
   |none=>rw[f]at h;cases h
   |some l' =>
    rw[f]at h;simp only[aaF,gU]at h;subst h;obtain⟨M,e,U,q⟩:=r;exact nR.2 ⟨b,0,M,e,(0,0),by rw[ZO],p k b c B (by unfold aN;rw[d];rfl),U,by rw[List.drop_zero];exact YI (E1:=⟨E.w,A',λ _=>none⟩) ih f q⟩
  |qX k sz i sub=>simp[zf]at h
  |view k sz st sub n=>simp[zf]at h
  |bQ k sz st len =>
   simp only[zf]at h;split at h
   .rename_i e G n' el d;cases H:sz==G
    .rw[H]at h;cases h
    .rw[H]at h;simp only[aY,gU]at h;subst h;have e1:=Aw H;subst e1;rcases dV.1 j with⟨_,rfl,rfl⟩ | ⟨b,c,n0,B,U,q,rfl⟩
     .exact iZ.2 ⟨none,0,rfl,ND _,wV rfl⟩
     .obtain⟨row,g,r⟩:=N k b _ B;rw[d]at g;cases g;obtain⟨M,h3,h4,S,h6,h7,Z⟩:=r;simp only at S;subst S;refine iZ.2 ⟨_,_,rfl,by omega,Gc ⟨b,st*sz,M,e,(0,0),rfl,p k b _ B (by unfold aN;rw[d];rfl),h3,λ i hi=>?_⟩⟩;obtain⟨g1,g2⟩:=Z (st+i) (by omega);refine⟨g1,?_⟩;rw[<-auK];exact lT (E:=E.fz) (E':=⟨E.w,A',λ _=>none⟩) ⟨λ W z Y C=>⟨λ J=>z (hA W J),C⟩,λ k' W z=>by cases z⟩ g2
   .cases h
  |agg l =>
   simp only[zf]at h;cases f:Fq (zf mem n) l with
   |none=>rw[f]at h;cases h
   |some l' =>
    rw[f]at h;simp only[aaF,gU]at h;subst h;obtain⟨F,rfl,q⟩:=ku.1 j;exact ku.2 ⟨F,rfl,EK ih f q⟩
  |bK l =>
   simp only[zf]at h;cases f:Fq (zf mem n) l with
   |none=>rw[f]at h;cases h
   |some l' =>
    rw[f]at h;simp only[aaF,gU]at h;subst h;obtain⟨F,rfl,q⟩:=rE.1 j;exact rE.2 ⟨F,rfl,EK ih f q⟩
  |jd t x =>
   simp only[zf]at h;cases f:zf mem n x with
   |none=>rw[f]at h;cases h
   |some x' =>
    rw[f]at h;simp only[aaF,gU]at h;subst h;obtain⟨v,rfl,q⟩:=vI.1 j;exact vI.2 ⟨v,rfl,ih x x' v f q⟩
  |_=>simp only[zf]at h;exact plain h j
def MS(P:Program)(s:St):ResultVar->Option AV
 |.tmp t=>cond (jB s.slots [] (.tmp t)) (some (aI s (.tmp t))) none
 |.cell p t=>cond (jB s.slots [] (.tmp p)) (match aat s.mem (aI s (.tmp p))with
  |some (true,l,off)=>I9 P t l off
  |_=>none) none
def qH(P:Program)(s:St):List ResultVar->Option (List AV)
 | []=>some []
 |r::rs=>match MS P s r,qH P s rs with
  |some v,some d=>some (v::d)
  |_,_=>none
def Jl(P:Program)(fn:Func)(s:St):Option AV :=
 match qH P s fn.results.toList with
 |some [v]=>zf s.mem 8 v
 |some vs=>(Fq (zf s.mem 8) vs).map .bK
 |none=>none
def start(fn:Func)(mem:List Row)(args:List AV):St:=⟨(args.map λ v=>(v,[]))++List.replicate (fn.ntmps - args.length) dflt,mem⟩
def agr(P:Program)(fn:Func)(k:AV->Option Out):jL:=λ e s=>match e with
 |.normal=>match Jl P fn s with
  |some v=>k v
  |none=>none
 |.ret=>match Jl P fn s with
  |some v=>k v
  |none=>none
 |_=>none
def abody(P:Program)(T:Tab)(D:List Oper->St->SK->Option Out)(L:Nat->Option dY)(N:Nat)(fn:Func)(args:List AV)(k:AV->Option Out):Option Out :=
 match fn.body with
 |some c=>jw P T D L N c (start fn [] args) (agr P fn k)
 |none=>none
def R9(d:Array Value):ResultVar->Sem Value
 |.tmp t=>pure (d.getD t undef)
 |.cell p t=>do loadVar t (<-asAddr (d.getD p undef))
theorem Gx(fn:Func)(d:Array Value):results fn d=(do
  let e <-List.toArray <$> fn.results.toList.mapM (R9 d)
  pure (if h:e.size=1 then e[0]else .tuple e)):=by
 unfold results;rw[<-Array.mapM_eq_mapM_toList]
 have:(λ x:ResultVar=>(match x with |.tmp t=>pure (d.getD t undef) |.cell a t=>do loadVar t (<-asAddr (d.getD a undef)):Sem Value))=R9 d:=by funext r;cases r<;>rfl
 rw[<-this];rfl
section
variable{P:Program}{A0 R:Nat->Prop}{w0:Env}{E:Env}{s:St}{a:Act}
theorem YJ(e:Inv A0 R w0 E s a){r:ResultVar}{x:AV}(h:MS P s r=some x):∃v,(R9 a.tmps r).run P E.w=.ok v E.w/\rel E x v:=by
 cases r with
 |tmp t =>
  simp only[MS]at h;cases d:jB s.slots [] (.tmp t)
  .rw[d]at h;cases h
  .rw[d]at h;simp only[aY,gU]at h;subst h;exact⟨_,rfl,jF e.frame (c:=[]) rfl (.tmp t) d⟩
 |cell p t =>
  simp only[MS]at h;cases d:jB s.slots [] (.tmp p)
  .rw[d]at h;cases h
  .rw[d]at h;simp only[aY]at h;split at h
   .rename_i l f j;have hv:=jF e.frame (c:=[]) rfl (.tmp p) d;obtain⟨b,n,_,_,_,k,_,_⟩:=X9 e.wd.rows hv j;obtain⟨v,i,q⟩:=RI (P:=P) e.wd.rows j h hv;refine⟨v,?_,q⟩;have g:a.tmps.getD p undef=.pointer (some ⟨b,n+f,none⟩):=k;rw[k]at i;simp only[Instr.loadAt,aJp,QJ,aax,uT]at i;simp only[R9,g,asAddr,QJ,aax,uT,i]
   .cases h
theorem yV(e:Inv A0 R w0 E s a):∀{rs:List ResultVar} {xs:List AV},qH P s rs=some xs->∃d:List Value,(rs.mapM (R9 a.tmps)).run P E.w=.ok d E.w/\dW E xs d
 | [],xs,h=>by simp[qH]at h;subst h;exact⟨[],rfl,bR.2 rfl⟩
 |r::rs,xs,h=>by
  simp only[qH]at h;split at h
  .rename_i x f n l;simp only[gU]at h;subst h;obtain⟨v,k,j⟩:=YJ e n;obtain⟨d,i,g⟩:=yV e l;refine⟨v::d,?_,aD.2 ⟨v,d,rfl,j,g⟩⟩;simp only[List.mapM_cons,QJ];rw[k];simp only[uT];rw[i];rfl
  .cases h
theorem Ie{fn:Func}(n:Inv A0 (λ _=>False) w0 E s a)(r:∀b,A0 b->b<w0.w.heap.size){x:AV}(h:Jl P fn s=some x):∃v,(results fn a.tmps).run P E.w=.ok v E.w/\rel ⟨E.w,A0,λ _=>none⟩ x v:=by
 have f:∀k b c,E.O k=some (b,c)->aN s.mem k=true->¬A0 b:=λ k b c t i u=>by
  rcases(n.wd.own k b c t i).2 with hf |hf
  .exact hf
  .have:=r b u;omega
 have l:=arj n.wd.rows (A':=A0) n.wd.old f 8;unfold Jl at h;cases i:qH P s fn.results.toList with
 |none=>simp[i]at h
 |some xs =>
  obtain⟨d,A,j⟩:=yV n i;have g:=fO j
  have e:(results fn a.tmps).run P E.w=.ok (if h:d.toArray.size=1 then d.toArray[0]else .tuple d.toArray) E.w:=by rw[Gx];simp only[QJ,Sem.run_map,A,uT,aax]
  rw[e];rw[i]at h
  have key:∀(_:d.length≠1) (_:(Fq (zf s.mem 8) xs).map AV.bK=some x),∃v,aOe (if h:d.toArray.size=1 then d.toArray[0]else .tuple d.toArray) E.w=aOe v E.w/\rel ⟨E.w,A0,λ _=>none⟩ x v:=by
   intro p h;cases q:Fq (zf s.mem 8) xs with
   |none=>rw[q]at h;cases h
   |some ys =>
    rw[q]at h;simp only[aaF,gU]at h;subst h;refine⟨_,rfl,?_⟩;rw[dif_neg (by simpa using p)];exact rE.2 ⟨d.toArray,rfl,by simpa using EK l q j⟩
  match xs,d,g,j,h,key with
  | [y],[v],_,j,h,_ =>
   obtain⟨B,_,e1,z,_⟩:=aD.1 j;cases e1;exact⟨v,by simp,l y x v h z⟩
  | [],[],_,_,h,key=>exact key (by simp) h
  |_::_::_,_::_::_,_,_,h,key=>exact key (by simp) h
end
theorem Sb{E:Env}:∀{xs:List AV} {d:List Value} (t:Nat),dW E xs d->t<xs.length->rel E (xs.getD t (.x undef)) (d.getD t undef)
 | [],_,_,_,hl=>by simp at hl
 |x::xs,d,t,h,hl=>by
  obtain⟨u,us,rfl,f,e⟩:=aD.1 h;cases t with
  |zero=>exact f
  |succ t=>simpa using Sb t e (by simpa using hl)
theorem AJ{E:Env}{fn:Func}{mem:List Row}{args:List AV}{d:Array Value}(j:xk E)(hv:dW E args d.toList)(g:args.length<=fn.ntmps) :
  AB E (start fn mem args).slots (start fn mem args).slots (d++aHB (fn.ntmps - d.size) undef):=by
 have i:=fO hv;simp at i;refine⟨⟨by simp[start];omega,j⟩,λ t=>?_⟩
 have h:(start fn mem args).slots.getD t dflt=(args.getD t (.x undef),[]):=by
  simp only[start,Gd,List.getElem?_append,aG1,List.length_map,List.getElem?_replicate];by_cases f:t<args.length
  .simp[f]
  .simp only[f,if_false,apa (aIE f),Option.getD_none];split<;>rfl
 rw[h];refine⟨λ _=>?_,λ k=>by cases k⟩;by_cases f:t<args.length
 .have:=Sb t hv f
  have e:(d++aHB (fn.ntmps - d.size) undef).getD t undef=d.toList.getD t undef:=by simp only[aGZ,Gd];rw[Array.getElem?_append_left (by omega)];simp
  rw[e];exact this
 .have e:(d++aHB (fn.ntmps - d.size) undef).getD t undef=undef:=by simp only[aGZ];rw[Array.getElem?_append_right (by omega),Array.getElem?_replicate];split<;>rfl
  rw[e,Gd,apa (aIE f)];exact cB.2 rfl
theorem vG {P : Program} {T : Tab} {D : List Oper -> St -> SK -> Option Out} {L : Nat -> Option dY} (z : BR P T) (F : DOk P D) (N : Nat) {f : Nat} {fn : Func} (hf : P.funcs[f]? = some fn) (n : (fn.name == "runtime.NumGoroutine") = false) {c : Code} (g : fn.body = some c) (B : yx P L c)
  {args:List AV} (l:apB args.length fn.ntmps=true) {r:AV} (h:abody P T D L N fn args (λ v=>some (Out.of v))=some (Out.of r)):aj P f args r:=by
 unfold abody at h;rw[g]at h;simp only at h;refine⟨⟨fn,hf,n,by rw[g];rfl⟩,λ A w q p hv y=>?_⟩;have i:args.length<=fn.ntmps:=Ou l;refine calls_of_wp hf g ?_
 have C:Inv A (λ _=>False) ⟨w,A,λ _=>none⟩ ⟨w,A,λ _=>none⟩ (start fn [] args) { tmps:=q++aHB (fn.ntmps - q.size) undef,defers:=[] } :=⟨rfl,AJ y hv i,⟨λ _ _ _ g=>(by cases g),p,λ _ g=>g,λ _ _ _ g=>(by cases g),λ _ _ _ _ _ g=>(by cases g),qz.refl _ _,Env.le.refl _⟩⟩
 refine aza ?_ (Io (np:=0) ⟨λ _ _=>rfl,λ _ h=>h.elim,p⟩ z F N c B C h);rintro e M I ⟨O,J,rfl,d,j⟩;cases e<;>simp only[agr]at j<;>first | (cases j;done) |skip
 all_goals
  split at j
  .rename_i x t;simp only[Out.of,gU,Out.mk.injEq,true_and]at j;subst j;obtain⟨v,H,G⟩:=Ie d p t;exact⟨d.defers,v,H,v,rfl,G,d.wd.below.os,d.wd.below.tape,d.wd.below.output,d.wd.below.size,λ k u=>d.wd.below.block k u (λ e=>e)⟩
  .cases j
end
end Go.Gv
