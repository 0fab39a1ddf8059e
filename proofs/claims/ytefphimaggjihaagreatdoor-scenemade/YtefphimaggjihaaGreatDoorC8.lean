/-
  The second evaluator, part Ge.
-/
import Derived.Test.YtefphimaggjihaaGreatDoorC7
open Array renaming getD_eq_getD_getElem?->ay0,getElem?_eq_some_iff->ayR,replicate->ayH
open Bool renaming and_eq_true->J8,and_self->aEn,false_or->aBC,not_eq_true'->az0,not_true->aEm,or_eq_false_iff->ahD,or_eq_true->aAN
open Go.Call renaming operands->ayu
open Go.Op renaming operands->aeG
open Go.Region renaming binds->ax3,ready->ayZ
open List renaming all_cons->aB0,all_eq_true->apB,any_eq_true->aCl,countP_cons->aDz,find?_eq_none->aDg,getD_eq_getElem?_getD->amh,getElem?_append_left->apR,getElem?_append_right->axY,getElem?_eq_getElem->adv,getElem?_eq_none->ayE,getElem?_eq_some_iff->aj8,getElem?_map->azh,getElem?_range->aCZ,getElem?_set->aDr,length->aDM,length_cons->anE,length_map->aAL,map_congr_left->ayT,mem_append_left->aCS,mem_append_right->aBd,mem_map_of_mem->aCX,mem_of_getElem?->ayK,mem_range->ayA,mem_zipIdx_iff_getElem?->ayG,range->av2
open Nat renaming add_sub_cancel_left->aCx,beq->ax0,ble->aqE,ble_eq_true_of_le->ah4,blt->afC,eq_of_beq_eq_true->axO,le_of_ble_eq_true->Sr,le_of_lt->azO,le_refl->ao5,lor->aD7,lt_irrefl->aBm,lt_of_lt_of_le->ayB,strongRecOn->aD8,testBit->aAg,testBit_or->aCY,zero_add->avB,zero_le->aAv
open Option.some renaming injEq->jN
open Or renaming inl->ER,inr->aaH
open Prod.mk renaming injEq->EU
namespace Go.Gv
open Go.RowKit Go.Ev
noncomputable section
theorem lI{s1 s2:St}{y:Operand}(h:∀t,y=.tmp t->s1.slots.getD t dflt=s2.slots.getD t dflt):aG s1 y=aG s2 y:=by
 cases y<;>first |rfl | (simp only[aG];rw[h _ rfl])
theorem lJ{s1 s2:St}{c:Chain}{y:Operand}(h:∀t,y=.tmp t->s1.slots.getD t dflt=s2.slots.getD t dflt):iB s1.slots c y=iB s2.slots c y:=by
 cases y<;>first |rfl | (simp only[iB];rw[h _ rfl])
def tmpsOf(xs:List Operand):List Nat:=xs.filterMap λ |.tmp t=>some t |_=>none
def looks(ops:List Oper)(o:Oper):List Nat:=tmpsOf o.op.operands.toList++jY ops o
theorem KS{xs:List Operand}{y:Operand}{t:Nat}(hy:y∈xs)(ht:y=.tmp t):t∈tmpsOf xs:=by
 unfold tmpsOf;exact List.mem_filterMap.2 ⟨y,hy,by rw[ht]⟩
theorem uU{ops:List Oper}{s1 s2:St}{o:Oper}(h:∀t,t∈jY ops o->s1.slots.getD t dflt=s2.slots.getD t dflt):fV ops s1.slots o=fV ops s2.slots o:=by
 unfold fV;cases hg:o.guard with
 |none=>rfl
 |some gw =>
  obtain⟨j,want⟩:=gw;simp only;cases hj:ops[j]? with
  |none=>rfl
  |some oj =>
   simp only;cases hd:oj.dst with
   |none=>rfl
   |some d=>simp only;rw[h d (by simp[jY,hg,hj,hd])]
theorem abT{m1 m2:List Row}{x:AV}(h:∀k,k∈rowsOf x->m1[k]?=m2[k]?):aat m1 x=aat m2 x:=by
 cases x<;>simp only[aat]<;>first |rfl | (rw[h _ (by simp[rowsOf])])
theorem Mg{P:Program}{s1 s2:St}{c:Call}(h:∀y,y∈(Op.call c).operands.toList->aG s1 y=aG s2 y):qJ P s1 c=qJ P s2 c:=by
 have hr:∀r m,c.callee=.invoke r m->aG s1 r=aG s2 r:=λ r m e=>h r (by simp[aeG,ayu,e]);have hargs:c.args.toList.map (aG s1)=c.args.toList.map (aG s2):=ayT λ y hy=>h y (by simp[aeG,ayu];exact aaH (by simpa using hy));unfold qJ;rw[hargs];cases Br:c.callee with
 |invoke r m=>simp only;rw[hr r m Br]
 |value f=>simp only;rw[h f (by simp[aeG,ayu,Br])]
 |builtin b=>rfl
theorem XV{P:Program}{T:Tab}{s1 s2:St}{o:Oper}(h:∀y,y∈o.op.operands.toList->aG s1 y=aG s2 y)(hm:∀k,k∈Rx s1 o->s1.mem[k]?=s2.mem[k]?):LH P T s1 o=LH P T s2 o:=by
 obtain⟨dst,op,type,pos,after,guard⟩:=o;cases op<;>simp only[LH]<;>first |rfl |skip
 case move y=>rw[h y (by simp[aeG])]
 case assign y=>rw[h y (by simp[aeG])]
 case load t y =>
  rw[<-h y (by simp[aeG])];rw[abT (m1:=s1.mem) (m2:=s2.mem) hm]
 case fieldAddr t y f=>rw[h y (by simp[aeG])]
 case nilCheck y=>rw[h y (by simp[aeG])]
 case indexAddr t y z=>rw[h y (by simp[aeG]),h z (by simp[aeG])]
 case index t y z=>rw[h y (by simp[aeG]),h z (by simp[aeG])]
 case field t y f=>rw[h y (by simp[aeG])]
 case binOp op t y z t2=>rw[h y (by simp[aeG]),h z (by simp[aeG])]
 case unOp op t y=>rw[h y (by simp[aeG])]
 case convert a b y =>
  rw[<-h y (by simp[aeG])];split
  .rfl
  .exact XW λ k sz st sub n hk=>hm k (by simp[Rx,hk,rowsOf])
 case slice t y lo hi mx =>
  have e:∀z:Option Operand,(∀q,z=some q->q∈(Op.slice t y lo hi mx).operands.toList)->z.map (aG s1)=z.map (aG s2):=λ z hz=>by
   cases z with
   |none=>rfl
   |some q=>simp only[Option.map_some];rw[h q (hz q rfl)]
  rw[h y (by simp[aeG]),e lo (λ q hq=>by simp[aeG,hq]),e hi (λ q hq=>by simp[aeG,hq]),e mx (λ q hq=>by simp[aeG,hq])]
 case build t ps =>
  congr 2;refine ayT λ p hp=>?_;rw[h p.2 (by simp only[aeG];exact aCX hp)]
 case extract y i=>rw[h y (by simp[aeG])]
 case makeInterface t y=>rw[h y (by simp[aeG])]
 case typeAssert y a b ok=>rw[h y (by simp[aeG])]
 case call c =>
  have hargs:c.args.toList.map (aG s1)=c.args.toList.map (aG s2):=ayT λ y hy=>h y (by simp[aeG,ayu];exact aaH (by simpa using hy));rw[Mg (s1:=s1) (s2:=s2) h,hargs]
theorem KT{α:Type}{p q:α->Bool}:∀{l:List α},(∀x,x∈l->p x=q x)->l.all p=l.all q
 | [],_=>rfl
 |x::l,h=>by simp only[aB0];rw[h x (by simp),KT (λ y hy=>h y (by simp[hy]))]
theorem Uk{P:Program}{T:Tab}{ops:List Oper}{s1 s2:St}{o:Oper}(h:∀t,t∈looks ops o->s1.slots.getD t dflt=s2.slots.getD t dflt)(hm:∀k,k∈Rx s1 o->s1.mem[k]?=s2.mem[k]?) :
  tZ P T ops s1 o=tZ P T ops s2 o:=by
 have hop:∀y,y∈o.op.operands.toList->∀t,y=.tmp t->s1.slots.getD t dflt=s2.slots.getD t dflt:=λ y hy t ht=>h t (aCS _ (KS hy ht));have hte:∀t,t∈jY ops o->s1.slots.getD t dflt=s2.slots.getD t dflt:=λ t ht=>h t (aBd _ ht);unfold tZ;rw[uU hte];cases hc:fV ops s2.slots o with
 |none=>rfl
 |some c =>
  simp only;split
  .rename_i g x y apw
   have h1:=hop (.tmp g) (by rw[apw];simp[aeG]);have h2:=hop x (by rw[apw];simp[aeG]);have h3:=hop y (by rw[apw];simp[aeG]);rw[lJ h1,lJ h2,lJ h3,lI h1,lI h2,lI h3]
  .rw[KT (λ y hy=>lJ (hop y hy)),XV (λ y hy=>lI (hop y hy)) hm]
theorem Ql{P:Program}{s1 s2:St}{t:TypeId}{p x:AV}{b:Bool}{bg:Eff}(h:Fw P s1 t p x=some (b,bg))(hm:∀k,k∈bg.rd->s1.mem[k]?=s2.mem[k]?):Fw P s2 t p x=some (b,bg):=by
 unfold Fw at h ⊢;split at h
 .rename_i inf mR
  cases hk:(rV x&&(x.cells.length==inf.size))
  .rw[hk]at h;cases h
  .rw[hk]at h
   simp only[cond_true]at h ⊢;split at h
   .rename_i k off
    split at h
    .rename_i l hmk
     cases hl:aqE (off+inf.size) l.length
     .rw[hl]at h;cases h
     .rw[hl]at h
      have h0:=h;simp only[cond_true,jN,EU]at h;have e:=hm k (by rw[<-h.2];simp);rw[<-e,hmk];simp only[hl];exact h0
    .rename_i e1 l hmk
     cases hl:aqE (off+inf.size) l.length
     .rw[hl]at h;cases h
     .rw[hl]at h
      have h0:=h;simp only[cond_true,jN,EU]at h;have e:=hm k (by rw[<-h.2];simp);rw[<-e,hmk];simp only[hl];exact h0
    .cases h
   .rename_i k sz q sub
    split at h
    .rename_i e0 sz' n el hmk
     cases hl:((sz==sz')&&(bZ x.cells&&aqE (sub+inf.size) (el q).length))
     .rw[hl]at h;cases h
     .rw[hl]at h
      have h0:=h;simp only[cond_true,jN,EU]at h;have e:=hm k (by rw[<-h.2];simp);rw[<-e,hmk];simp only[hl];exact h0
    .cases h
   .cases h
 .cases h
theorem Mh{P:Program}{s1 s2:St}{nk:Nat}{t:TypeId}{x y:AV}{b:Bool}{bg:Eff}(h:qM P s1 nk t x y=some (b,bg))(hm:∀k,k∈bg.rd->s1.mem[k]?=s2.mem[k]?):qM P s2 nk t x y=some (b,bg):=by
 have h0:=h;unfold qM at h ⊢;split at h
 .rename_i e hun
  split at h
  .rename_i i hi
   split at h
   .rename_i z hz
    split at h
    .rename_i bb k n el j m ns hH Fz
     cases hk:((z.cells.size==i.size)&&(afC 0 i.bytes&&((ns.all λ new=>new.all je)&&((ns.all bZ)&&!(k==some j)))))
     .rw[hk]at h;cases h
     .have h':=h
      rw[hk]at h';simp only[cond_true,jN,EU]at h';have hrd:bg.rd=k.toList++[j]:=by rw[<-h'.2]
      have hH2:vM s2.mem e i.size x=some (bb,k,n,el):=by
       rw[<-hH];unfold vM at hH ⊢;split at hH
       .rfl
       .rename_i k1 sz len
        split at hH
        .rename_i e' sz' n' sZ hmk
         cases hk2:((e==e')&&((sz==i.size)&&(sz'==i.size)))
         .rw[hk2]at hH;cases hH
         .rw[hk2]at hH
          simp only[cond_true,jN,EU]at hH;have:=hm k1 (by rw[hrd,<-hH.2.1];simp);rw[<-this,hmk];simp only[hk2]
        .cases hH
       .cases hH
      have hT2:Gu s2.mem i.size y=some (j,m,ns):=by
       rw[<-Fz];unfold Gu at Fz ⊢;split at Fz
       .rename_i k1 sz m'
        split at Fz
        .rename_i e' sz' n' sZ hmk
         cases hk2:((sz==i.size)&&((sz'==i.size)&&afC 0 m'))
         .rw[hk2]at Fz;cases Fz
         .rw[hk2]at Fz
          simp only[cond_true,jN,EU]at Fz;have:=hm k1 (by rw[hrd,<-Fz.1];simp);rw[<-this,hmk];simp only[hk2]
        .cases Fz
       .cases Fz
      simp only[hH2,hT2];exact h
    .cases h
   .cases h
  .cases h
 .cases h
theorem KU{P:Program}{s1 s2:St}{nk:Nat}{t:TypeId}{x y:AV}{b:Bool}{bg:Eff}(h:nM P s1 nk t x y=some (b,bg))(hm:∀k,k∈bg.rd->s1.mem[k]?=s2.mem[k]?):nM P s2 nk t x y=some (b,bg):=by
 have h0:=h;unfold nM at h ⊢;split at h
 .rename_i e hun
  split at h
  .rename_i i hi
   split at h
   .rename_i z hz
    split at h
    .rename_i k n el j m ns hH Fz
     cases hk:((z.cells.size==i.size)&&(afC 0 i.bytes&&((ns.all λ new=>new.all je)&&((ns.all bZ)&&!(k==j)))))
     .rw[hk]at h;cases h
     .have h':=h
      rw[hk]at h';simp only[cond_true,jN,EU]at h';have hrd:bg.rd=[k,j]:=by rw[<-h'.2]
      have hH2:RN s2.mem e i.size x=some (k,n,el):=by
       rw[<-hH];unfold RN at hH ⊢;split at hH
       .rename_i k1 sz len
        split at hH
        .rename_i e' sz' n' sZ hmk
         cases hk2:((e==e')&&((sz==i.size)&&((sz'==i.size)&&((len==n')&&afC 0 n'))))
         .rw[hk2]at hH;cases hH
         .rw[hk2]at hH
          simp only[cond_true,jN,EU]at hH;have:=hm k1 (by rw[hrd,<-hH.1];simp);rw[<-this,hmk];simp only[hk2]
        .cases hH
       .cases hH
      have hT2:Gu s2.mem i.size y=some (j,m,ns):=by
       rw[<-Fz];unfold Gu at Fz ⊢;split at Fz
       .rename_i k1 sz m'
        split at Fz
        .rename_i e' sz' n' sZ hmk
         cases hk2:((sz==i.size)&&((sz'==i.size)&&afC 0 m'))
         .rw[hk2]at Fz;cases Fz
         .rw[hk2]at Fz
          simp only[cond_true,jN,EU]at Fz;have:=hm k1 (by rw[hrd,<-Fz.1];simp);rw[<-this,hmk];simp only[hk2]
        .cases Fz
       .cases Fz
      simp only[hH2,hT2];exact h
    .cases h
   .cases h
  .cases h
 .cases h
theorem KV{P:Program}{s1 s2:St}{nk:Nat}{t:TypeId}{x:AV}{sz m:Nat}{el2:Nat->List AV}{b:Bool}{bg:Eff}(h:rM P s1 nk t x sz m el2=some (b,bg))(hm:∀k,k∈bg.rd->s1.mem[k]?=s2.mem[k]?):rM P s2 nk t x sz m el2=some (b,bg):=by
 have h0:=h;unfold rM at h ⊢;split at h
 .rename_i e hun
  split at h
  .rename_i i hi
   split at h
   .rename_i z hz
    split at h
    .rename_i bb k n el hH
     cases hk:((z.cells.size==i.size)&&(afC 0 i.bytes&&(sz==i.size)))
     .rw[hk]at h;cases h
     .have h':=h
      rw[hk]at h';simp only[cond_true,jN,EU]at h';have hrd:bg.rd=k.toList:=by rw[<-h'.2]
      have hH2:vM s2.mem e i.size x=some (bb,k,n,el):=by
       rw[<-hH];unfold vM at hH ⊢;split at hH
       .rfl
       .rename_i k1 sz len
        split at hH
        .rename_i e' sz' n' sZ hmk
         cases hk2:((e==e')&&((sz==i.size)&&(sz'==i.size)))
         .rw[hk2]at hH;cases hH
         .rw[hk2]at hH
          simp only[cond_true,jN,EU]at hH;have:=hm k1 (by rw[hrd,<-hH.2.1];simp);rw[<-this,hmk];simp only[hk2]
        .cases hH
       .cases hH
      rw[hk]at h;simp only[hH2];exact h
    .cases h
   .cases h
  .cases h
 .cases h
theorem abU{P:Program}{s1 s2:St}{nk:Nat}{t:TypeId}{x y:AV}{b:Bool}{bg:Eff}(h:cond (isZ s1.mem x) (nM P s1 nk t x y) (qM P s1 nk t x y)=some (b,bg))(hm:∀k,k∈bg.rd->s1.mem[k]?=s2.mem[k]?):isZ s2.mem x=isZ s1.mem x:=by
 have key:∀k1 sz st len,x=.fJ k1 sz st len->s1.mem[k1]?=s2.mem[k1]?:=λ k1 sz st len hx=>by
  subst hx;cases hz:isZ s1.mem (.fJ k1 sz st len)
  .rw[hz]at h
   simp only[cond_false]at h;unfold qM at h;split at h
   .split at h
    .rename_i i _
     split at h
     .rename_i z _
      split at h
      .rename_i bb k n el j m ns hH _
       cases hk:((z.cells.size==i.size)&&(afC 0 i.bytes&&((ns.all λ new=>new.all je)&&((ns.all bZ)&&!(k==some j)))))
       .rw[hk]at h;cases h
       .rw[hk]at h
        simp only[cond_true,jN,EU]at h;have hrd:bg.rd=k.toList++[j]:=by rw[<-h.2]
        unfold vM at hH;split at hH
        .rename_i hx;cases hx
        .rename_i k2 LK len2 hx
         cases hx;split at hH
         .rename_i e' sz' n' sZ hmk
          cases hk2:((_==e')&&((sz==i.size)&&(sz'==i.size)))
          .rw[hk2]at hH;cases hH
          .rw[hk2]at hH
           simp only[cond_true,jN,EU]at hH;exact hm k1 (by rw[hrd,<-hH.2.1];simp)
         .cases hH
        .cases hH
      .cases h
     .cases h
    .cases h
   .cases h
  .rw[hz]at h
   simp only[cond_true]at h;unfold nM at h;split at h
   .split at h
    .rename_i i _
     split at h
     .rename_i z _
      split at h
      .rename_i k n el j m ns hH _
       cases hk:((z.cells.size==i.size)&&(afC 0 i.bytes&&((ns.all λ new=>new.all je)&&((ns.all bZ)&&!(k==j)))))
       .rw[hk]at h;cases h
       .rw[hk]at h
        simp only[cond_true,jN,EU]at h;have hrd:bg.rd=[k,j]:=by rw[<-h.2]
        unfold RN at hH;split at hH
        .rename_i k2 LK len2 hx
         cases hx;split at hH
         .rename_i e' sz' n' sZ hmk
          cases hk2:((_==e')&&((sz==i.size)&&((sz'==i.size)&&((len==n')&&afC 0 n'))))
          .rw[hk2]at hH;cases hH
          .rw[hk2]at hH
           simp only[cond_true,jN,EU]at hH;exact hm k1 (by rw[hrd,<-hH.1];simp)
         .cases hH
        .cases hH
      .cases h
     .cases h
    .cases h
   .cases h
 unfold isZ;cases x<;>try rfl
 rename_i k1 sz st len;simp only;rw[key k1 sz st len rfl]
theorem KW{P:Program}{s1 s2:St}{nk:Nat}{t:TypeId}{x y:AV}{b:Bool}{bg:Eff}(h:rQ P s1 nk t x y=some (b,bg))(hm:∀k,k∈bg.rd->s1.mem[k]?=s2.mem[k]?):rQ P s2 nk t x y=some (b,bg):=by
 unfold rQ at h ⊢;split at h
 .exact h
 .exact KV h hm
 .have hz2:isZ s2.mem x=isZ s1.mem x:=abU h hm
  rw[hz2];cases hz:isZ s1.mem x
  .rw[hz]at h
   exact Mh h hm
  .rw[hz]at h
   exact KU h hm
theorem KX{P:Program}{s1 s2:St}{nk:Nat}{t t':TypeId}{x y:AV}{b:Bool}{bg:Eff}(h:rU P s1 nk t t' x y=some (b,bg))(hm:∀k,k∈bg.rd->s1.mem[k]?=s2.mem[k]?):rU P s2 nk t t' x y=some (b,bg):=by
 unfold rU at h ⊢;split at h
 .split at h
  .split at h
   .rename_i e hun
    split at h
    .rename_i i hi
     split at h
     .rename_i z hz
      split at h
      .rename_i bb k n el hH
       cases hk:((z.cells.size==i.size)&&(afC 0 i.bytes&&(i.size==1)))
       .rw[hk]at h;cases h
       .have h':=h
        rw[hk]at h';simp only[cond_true,jN,EU]at h';have hrd:bg.rd=k.toList:=by rw[<-h'.2]
        have hH2:vM s2.mem e i.size x=some (bb,k,n,el):=by
         rw[<-hH];unfold vM at hH ⊢;split at hH
         .rfl
         .rename_i k1 sz len
          split at hH
          .rename_i e' sz' n' sZ hmk
           cases hk2:((e==e')&&((sz==i.size)&&(sz'==i.size)))
           .rw[hk2]at hH;cases hH
           .rw[hk2]at hH
            simp only[cond_true,jN,EU]at hH;have:=hm k1 (by rw[hrd,<-hH.2.1];simp);rw[<-this,hmk];simp only[hk2]
          .cases hH
         .cases hH
        rw[hk]at h;simp only[hH2];exact h
      .cases h
     .cases h
    .cases h
   .cases h
  .cases h
 .cases h
theorem Ul{P:Program}{s1 s2:St}{nk:Nat}{t t':TypeId}{x y:AV}{b:Bool}{bg:Eff}(h:vN P s1 nk t t' x y=some (b,bg))(hm:∀k,k∈bg.rd->s1.mem[k]?=s2.mem[k]?):vN P s2 nk t t' x y=some (b,bg):=by
 unfold vN at h ⊢;cases hk:t==t'
 .rw[hk]at h
  exact KX h hm
 .rw[hk]at h
  exact KW h hm
theorem Um{P:Program}{s1 s2:St}{t:TypeId}{x y:AV}{b:Bool}{bg:Eff}(h:MG P s1 t x y=some (b,bg))(hm:∀k,k∈bg.rd->s1.mem[k]?=s2.mem[k]?):MG P s2 t x y=some (b,bg):=by
 unfold MG at h ⊢;split at h
 .rename_i e hun
  split at h
  .rename_i i hi
   split at h
   .rename_i k sz st sub n j LK st2 kE n2
    split at h
    .rename_i e' sz3 m el l hmk hmj
     have h0:=h;cases hk:((sz==i.size)&&((LK==i.size)&&((sz3==i.size)&&((sub==0)&&(afC 0 n2&&(aqE (st2*LK+kE+n2*i.size) l.length&&(bZ l&&(l.all je&&!(k==j)))))))))
     .rw[hk]at h;cases h
     .rw[hk]at h
      simp only[cond_true,jN,EU]at h;have e1:s2.mem[k]?=some (.a e' sz3 m el):=by rw[<-hm k (by rw[<-h.2];simp)];exact hmk
      have e2:s2.mem[j]?=some (.c l):=by rw[<-hm j (by rw[<-h.2];simp)];exact hmj
      simp only[e1,e2];exact h0
    .cases h
   .cases h
  .cases h
 .cases h
theorem Un{P:Program}{s1 s2:St}{src dst:TypeId}{x:AV}{b:Bool}{bg:Eff}(h:MH P s1 src dst x=some (b,bg))(hm:∀k,k∈bg.rd->s1.mem[k]?=s2.mem[k]?):MH P s2 src dst x=some (b,bg):=by
 unfold MH at h ⊢;split at h
 .split at h
  .cases hsd:src==dst
   .rw[hsd]at h;cases h
   .rw[hsd]at h
    simp only[cond_true]at h ⊢;split at h
    .rename_i k sz st n
     split at h
     .rename_i e2 LK m el hmk
      have e:bg.rd=[k]:=by simp only[jN,EU]at h;rw[<-h.2]
      rw[<-hm k (by rw[e];simp),hmk];exact h
     .rename_i xx e2 LK m el hmk
      have e:bg.rd=[k]:=by simp only[jN,EU]at h;rw[<-h.2]
      rw[<-hm k (by rw[e];simp),hmk];exact h
     .cases h
    .cases h
  .cases h
 .cases h
theorem Uo{s1 s2:St}{x:AV}{b:Bool}{bg:Eff}(h:MI s1 x=some (b,bg))(hm:∀k,k∈bg.rd->s1.mem[k]?=s2.mem[k]?):MI s2 x=some (b,bg):=by
 unfold MI at h ⊢;split at h
 .rename_i k
  split at h
  .rename_i st p hmk
   have e:bg.rd=[k]:=by simp only[jN,EU]at h;rw[<-h.2]
   rw[<-hm k (by rw[e];simp),hmk];exact h
  .rename_i st p hmk
   have e:bg.rd=[k]:=by simp only[jN,EU]at h;rw[<-h.2]
   rw[<-hm k (by rw[e];simp),hmk];exact h
  .cases h
 .cases h
theorem NJ{P:Program}{T:Tab}(hR:∀f g,T.r f=some g->∀args look RO b v rd,g args look=some (b,v,rd)->(∀k,k∈rd->look k=RO k)->g args RO=some (b,v,rd)){s1 s2:St}{nk:Nat}{o:Oper}{b:Bool}{bg:Eff}(h:∀y,y∈o.op.operands.toList->aG s1 y=aG s2 y)(hw:VH P T s1 nk o=some (b,bg))(hm:∀k,k∈bg.rd->s1.mem[k]?=s2.mem[k]?):VH P T s2 nk o=some (b,bg):=by
 obtain⟨dst,op,type,pos,after,guard⟩:=o;cases op<;>simp only[VH]at hw ⊢<;>first | (cases hw;done) |skip
 case box t y=>rw[<-h y (by simp[aeG])];exact hw
 case alloc t=>exact hw
 case buildSlice t len ps =>
  have e:(ps.toList.map λ p=>(p.1,aG s1 p.2))=ps.toList.map λ p=>(p.1,aG s2 p.2):=ayT λ p hp=>by
   rw[h p.2 (by simp only[aeG];exact aCX hp)]
  rw[<-e];exact hw
 case makeSlice t l c=>rw[<-h l (by simp[aeG]),<-h c (by simp[aeG])];exact hw
 case store t p y =>
  cases hd:dst with
  |some d=>rw[hd]at hw;cases hw
  |none =>
   rw[hd]at hw;rw[<-h p (by simp[aeG]),<-h y (by simp[aeG])];exact Ql hw hm
 case convert src dst y =>
  rw[<-h y (by simp[aeG])];exact Un hw hm
 case range t y=>rw[<-h y (by simp[aeG])];exact hw
 case next it bb =>
  cases bb with
  |false=>cases hw
  |true=>rw[<-h it (by simp[aeG])];exact Uo hw hm
 case call c =>
  have hargs:c.args.toList.map (aG s1)=c.args.toList.map (aG s2):=ayT λ y hy=>h y (by simp[aeG,ayu];exact aaH (by simpa using hy));rw[<-hargs];split at hw
  .rename_i hb
   split at hw
   .rename_i x y t t' ha ht
    exact Ul hw hm
   .cases hw
  .rename_i hb
   split at hw
   .rename_i x y t t' ha ht
    cases hk:t==t'
    .rw[hk]at hw;cases hw
    .rw[hk]at hw
     exact Um hw hm
   .cases hw
  .rename_i f hb
   cases hTr:T.r f with
   |some g =>
    simp only[hTr]at hw ⊢;unfold VX at hw ⊢;split at hw
    .rename_i b' v rd hge
     cases hno:nH v
     .rw[hno]at hw;cases hw
     .rw[hno]at hw
      simp only[cond_true,jN,EU]at hw;obtain⟨rfl,rfl⟩:=hw;rw[hR f g hTr _ _ _ _ _ _ hge hm];simp only[hno,cond_true]
    .cases hw
   |none =>
   simp only[hTr]at hw ⊢;unfold OV at hw ⊢;split at hw
   .rename_i g hg
    split at hw
    .rename_i b' OO hge
     cases hrd:OO.rd==uh (c.args.toList.map (aG s1))
     .rw[hrd]at hw;cases hw
     .rw[hrd]at hw
      simp only[cond_true,jN,EU]at hw;obtain⟨rfl,rfl⟩:=hw;have e1:((uh (c.args.toList.map (aG s1))).map λ k=>s2.mem[k]?)=(uh (c.args.toList.map (aG s1))).map λ k=>s1.mem[k]?:=ayT λ k hk=>(hm k (by rw[eq_of_beq hrd];exact hk)).symm;simp only[e1,hge,hrd,cond_true]
    .cases hw
   .cases hw
  .cases hw
theorem XY{T:Tab}{s1 s2:St}{nk:Nat}{o:Oper}(h:∀y,y∈o.op.operands.toList->aG s1 y=aG s2 y):Bp T s1 nk o=Bp T s2 nk o:=by
 unfold Bp;split
 .rename_i c hop
  have e:c.args.toList.map (aG s1)=c.args.toList.map (aG s2):=ayT λ y hy=>h y (by rw[hop];cases hc:c.callee<;>simp[aeG,ayu,hc]<;>(try right)<;>simpa using hy)
  rw[e]
 .rfl
theorem agp{P:Program}{s:St}{nk nk':Nat}{t t':TypeId}{x y:AV}{b:Bool}{bg:Eff}(h:vN P s nk t t' x y=some (b,bg))(hn:bg.nw=none):vN P s nk' t t' x y=some (b,bg):=by
 unfold vN at h;cases hk:t==t'
 .rw[hk]at h
  simp only[cond_false]at h;unfold rU at h;split at h
  .split at h
   .split at h
    .split at h
     .rename_i i _
      split at h
      .rename_i z _
       split at h
       .rename_i b' k n el _
        cases hk:((z.cells.size==i.size)&&(afC 0 i.bytes&&(i.size==1)))
        .rw[hk]at h;cases h
        .rw[hk]at h
         simp only[cond_true,jN,EU]at h;rw[<-h.2]at hn;cases hn
       .cases h
      .cases h
     .cases h
    .cases h
   .cases h
  .cases h
 .rw[hk]at h
  simp only[cond_true]at h;unfold rQ at h;split at h
  .rename_i ad cp
   have e:vN P s nk' t t' x (.x (.slice ad 0 cp))=DJ P t x:=by unfold vN;rw[hk];rfl
   rw[e];exact h
  .unfold rM at h
   split at h
   .split at h
    .rename_i i _
     split at h
     .rename_i z _
      split at h
      .rename_i b' k n el _
       cases hk:((z.cells.size==i.size)&&(afC 0 i.bytes&&(_==i.size)))
       .rw[hk]at h;cases h
       .rw[hk]at h
        simp only[cond_true,jN,EU]at h;rw[<-h.2]at hn;cases hn
      .cases h
     .cases h
    .cases h
   .cases h
  .rename_i x' _ _
   cases hz:isZ s.mem x
   .rw[hz]at h
    simp only[cond_false]at h;unfold qM at h;split at h
    .split at h
     .rename_i i _
      split at h
      .rename_i z _
       split at h
       .rename_i b' k n el j m ns _ _
        cases hk:((z.cells.size==i.size)&&(afC 0 i.bytes&&((ns.all λ new=>new.all je)&&((ns.all bZ)&&!(k==some j)))))
        .rw[hk]at h;cases h
        .rw[hk]at h
         simp only[cond_true,jN,EU]at h;rw[<-h.2]at hn;cases hn
       .cases h
      .cases h
     .cases h
    .cases h
   .rw[hz]at h
    simp only[cond_true]at h;unfold nM at h;split at h
    .split at h
     .rename_i i _
      split at h
      .rename_i z _
       split at h
       .rename_i k n el j m ns _ _
        cases hk:((z.cells.size==i.size)&&(afC 0 i.bytes&&((ns.all λ new=>new.all je)&&((ns.all bZ)&&!(k==j)))))
        .rw[hk]at h;cases h
        .rw[hk]at h
         simp only[cond_true,jN,EU]at h;rw[<-h.2]at hn;cases hn
       .cases h
      .cases h
     .cases h
    .cases h
theorem agq{P:Program}{T:Tab}(hM:∀f g,T.m f=some g->∀args rows nk nk' b bg,g args rows nk=some (b,bg)->bg.nw=none->g args rows nk'=some (b,bg)){s:St}{nk nk':Nat}{o:Oper}{b:Bool}{bg:Eff}(h:VH P T s nk o=some (b,bg))(hn:bg.nw=none):VH P T s nk' o=some (b,bg):=by
 unfold VH at h ⊢;split at h
 .rename_i t x hop
  cases hk:rV (aG s x)
  .rw[hk]at h;cases h
  .rw[hk]at h
   simp only[cond_true,jN,EU]at h;rw[<-h.2]at hn;cases hn
 .split at h
  .split at h
   .simp only[jN,EU]at h
    rw[<-h.2]at hn;cases hn
   .simp only[jN,EU]at h
    rw[<-h.2]at hn;cases hn
  .cases h
 .rename_i t len ps hop
  cases hb:T.m (adG t)with
  |some g=>simp only[hb]at h ⊢;exact h
  |none =>
   simp only[hb]at h;unfold H8 at h;split at h
   .unfold OT at h
    split at h
    .split at h
     .simp only[jN,EU]at h
      rw[<-h.2]at hn;cases hn
     .cases h
    .cases h
   .rename_i len _ _ _
    unfold DK at h;split at h
    .split at h
     .rename_i size z _ _
      cases hk:(afC 0 (len*size)&&aqE (len*size) 16777216)
      .rw[hk]at h;cases h
      .rw[hk]at h
       simp only[cond_true]at h;split at h
       .rename_i cells _
        cases hno:bZ cells
        .rw[hno]at h;cases h
        .rw[hno]at h
         simp only[cond_true,jN,EU]at h;rw[<-h.2]at hn;cases hn
       .cases h
     .cases h
    .cases h
 .rename_i t l c hop
  unfold Zi at h;split at h
  .split at h
   .rename_i i _
    split at h
    .rename_i z _
     cases hk:(((z.cells.size==i.size)&&afC 0 i.bytes)&&bZ (z.cells.toList.map zq))
     .rw[hk]at h;cases h
     .rw[hk]at h
      simp only[cond_true,jN,EU]at h;rw[<-h.2]at hn;cases hn
    .cases h
   .cases h
  .cases h
 .exact h
 .exact h
 .unfold OW at h
  split at h
  .split at h
   .simp only[jN,EU]at h
    rw[<-h.2]at hn;cases hn
   .cases h
  .cases h
 .exact h
 .rename_i c hop
  split at h
  .have:∀(l:List AV) (ts:List TypeId),(match l,ts with
     | [x,y],[t,t']=>vN P s nk t t' x y
     |_,_=>none)=some (b,bg)->(match l,ts with
     | [x,y],[t,t']=>vN P s nk' t t' x y
     |_,_=>none)=some (b,bg):=by
    intro l ts h;split at h
    .exact agp h hn
    .cases h
   exact this _ _ h
  .exact h
  .rename_i f _
   cases hTr:T.r f with
   |some g =>
    simp only[hTr]at h ⊢;exact h
   |none =>
   simp only[hTr]at h ⊢;unfold OV at h ⊢;split at h
   .rename_i g hg
    split at h
    .rename_i b' OO hge
     cases hrd:OO.rd==uh (c.args.toList.map (aG s))
     .rw[hrd]at h;cases h
     .rw[hrd]at h
      simp only[cond_true,jN,EU]at h;obtain⟨rfl,rfl⟩:=h;simp only[hM f g hg _ _ _ nk' _ _ hge hn,hrd,cond_true]
    .cases h
   .cases h
  .cases h
 .cases h
end
noncomputable section
def AR(o:Oper)(i:Nat):Bool:=o.after.toList.any λ e=>e.on==i&&ax3 .any e
def writes(o:Oper)(t:Nat):Bool:=o.dst==some t
def XZ(M:List Nat)(o:Oper):Nat:=o.after.toList.foldr (λ e m=>cond (ax3 .any e) (aD7 (aD7 (2 ^ e.on) (M.getD e.on 0)) m) m) 0
def jH:List Oper->List Nat->List Nat
 | [],M=>M
 |o::rest,M=>jH rest (M++[XZ M o])
structure Rec where
 nk:Nat
 b:Bool
 c:Chain
 bg:Eff
 ex:List Row
def Rec.touch(p:Rec)(r:Nat):Bool:=p.bg.rd.contains r||(p.bg.nw.isSome&&(aqE p.nk r&&aqE r (p.nk+p.ex.length)))
def Rec.C8(p:Rec)(r:Nat):Bool:=match p.bg.wr with
 |some (r',_)=>r'==r
 |none=>false
def uF(ops:List Oper)(len:Nat):Bool :=
 ops.zipIdx.all λ q =>
  (q.1.after.toList.all λ e=>!Region.binds .any e||afC e.on q.2) &&
  ((match q.1.dst with |some d=>afC d len&&ops.zipIdx.all (λ p=>!writes p.1 d||p.2==q.2) |none=>true) &&
  ((looks ops q.1).all (λ t=>ops.zipIdx.all λ p=>!writes p.1 t||((afC p.2 q.2&&AR q.1 p.2)||(afC q.2 p.2&&AR p.1 q.2))) &&
  (jY ops q.1).all (λ t=>ops.zipIdx.all λ p=>!writes p.1 t||afC p.2 q.2)))
def AU(ops:List Oper)(M:List Nat):Bool:=ops.zipIdx.all λ q=>M.getD q.2 0==XZ M q.1
def KY(M:List Nat)(recs:List Rec):Bool :=
 recs.zipIdx.all λ q=>match q.1.bg.wr with
  |none=>true
  |some (r,_)=>q.1.bg.rd.contains r&&recs.zipIdx.all λ p=>p.2==q.2||(!p.1.touch r||((afC p.2 q.2&&aAg (M.getD q.2 0) p.2)||(afC q.2 p.2&&aAg (M.getD p.2 0) q.2)))
def Ht(s:St)(dst:Option Nat)(c:Chain)(bg:Eff)(ex:List Row):St:=⟨ow s.slots dst (bg.v,c),bg.mem s.mem++ex⟩
theorem agr(s:St)(dst:Option Nat)(c:Chain)(bg:Eff):Ht s dst c bg []=zm s dst c bg:=by unfold Ht zm;rw[List.append_nil]
def Qm(P:Program)(T:Tab)(L:List Oper)(s:St)(o:Oper)(q:Rec):Prop :=
 (vI P T L s s.mem.length o=some (q.b,q.c,q.bg)/\q.ex=[])\/(∃r0,Bp T s s.mem.length o=some (q.b,q.bg.v,r0::q.ex)/\UQ s o=true/\q.c=[]/\q.bg=⟨q.bg.v,[],none,some r0⟩)
def KZ(P:Program)(T:Tab)(ops:List Oper):List Oper->St->Option (St × List Rec)
 | [],s=>some (s,[])
 |o::rest,s=>match Bp T s s.mem.length o with
  |some (b,v,r0::ex)=>cond (UQ s o) (match KZ P T ops rest (Ht s o.dst [] ⟨v,[],none,some r0⟩ ex)with
   |some (s',recs)=>some (s',⟨s.mem.length,b,[],⟨v,[],none,some r0⟩,ex⟩::recs)
   |none=>none) none
  |some (_,_,[])=>none
  |none=>match vI P T ops s s.mem.length o with
  |some (b,c,bg)=>cond (jQ s.slots c o.dst&&bg.rd.all (λ r=>afC r s.mem.length)) (match KZ P T ops rest (zm s o.dst c bg)with
   |some (s',recs)=>some (s',⟨s.mem.length,b,c,bg,[]⟩::recs)
   |none=>none) none
  |none=>none
def drawn(P:Program)(T:Tab)(ops:List Oper)(s:St):Option St :=
 cond (uF ops s.slots.length&&(AU ops (jH ops [])&&s.slots.all (λ q=>q.2.isEmpty))) (match KZ P T ops ops s with
  |some (sf,recs)=>cond (KY (jH ops []) recs&&recs.all (λ r=>r.b||!qo sf.slots r.c)) (some sf) none
  |none=>none) none
structure Lex(P:Program)(T:Tab)(L:List Oper)(s0 sf:St)(S:Nat->St)(rec:Nat->Rec):Prop where
 ok:uF L s0.slots.length=true
 masks:AU L (jH L [])=true
 first:S 0=s0
 last:S L.length=sf
 step:∀k o,L[k]?=some o->Qm P T L (S k) o (rec k)/\(rec k).nk=(S k).mem.length/\(∀r,r∈(rec k).bg.rd->r<(S k).mem.length)/\S (k+1)=Ht (S k) o.dst (rec k).c (rec k).bg (rec k).ex
 clear:∀t,(s0.slots.getD t dflt).2=[]
 conds:∀k,k<L.length->qo sf.slots (rec k).c=true->(rec k).b=true
 rows:∀k,k<L.length->∀r row,(rec k).bg.wr=some (r,row)->r∈(rec k).bg.rd/\∀i,i<L.length->i≠k->((rec i).touch r=true->(i<k/\aAg ((jH L []).getD k 0) i=true)\/(k<i/\aAg ((jH L []).getD i 0) k=true))
theorem GR{P:Program}{T:Tab}{L:List Oper}:∀{l:List Oper} {s sf:St} {recs:List Rec},KZ P T L l s=some (sf,recs)->recs.length=l.length/\∃S:Nat->St,S 0=s/\S l.length=sf /\
  ∀k o,l[k]?=some o->∃q,recs[k]?=some q/\Qm P T L (S k) o q/\q.nk=(S k).mem.length/\(∀r,r∈q.bg.rd->r<(S k).mem.length)/\S (k+1)=Ht (S k) o.dst q.c q.bg q.ex
 | [],s,sf,recs,h=>by
  simp only[KZ,jN,EU]at h;obtain⟨rfl,rfl⟩:=h;exact⟨rfl,λ _=>s,rfl,rfl,λ k o hk=>by simp at hk⟩
 |o::l,s,sf,recs,h=>by
  simp only[KZ]at h
  have fin:∀(q:Rec) (s1:St),Qm P T L s o q->q.nk=s.mem.length->(∀r,r∈q.bg.rd->r<s.mem.length)->s1=Ht s o.dst q.c q.bg q.ex->(match KZ P T L l s1 with
    |some (s',recs)=>some (s',q::recs)
    |none=>none)=some (sf,recs)->recs.length=(o::l).length/\∃S:Nat->St,S 0=s/\S (o::l).length=sf /\
  ∀k o',(o::l)[k]?=some o'->∃q,recs[k]?=some q/\Qm P T L (S k) o' q/\q.nk=(S k).mem.length/\(∀r,r∈q.bg.rd->r<(S k).mem.length)/\S (k+1)=Ht (S k) o'.dst q.c q.bg q.ex:=by
   intro q s1 hq hn hrd hs1 h;split at h
   .rename_i s' ax4 h2
    simp only[jN,EU]at h;obtain⟨rfl,rfl⟩:=h;obtain⟨hl,S,h3,h4,h5⟩:=GR h2;refine⟨by simp[hl],λ k=>match k with | 0=>s |k+1=>S k,rfl,h4,λ k o' hk'=>?_⟩
    cases k with
    |zero =>
     simp at hk';subst hk';exact⟨q,rfl,hq,hn,hrd,h3.trans hs1⟩
    |succ k=>exact h5 k o' (by simpa using hk')
   .cases h
  split at h
  .rename_i b v r0 ex hN
   cases hk:UQ s o
   .rw[hk]at h;cases h
   .rw[hk]at h
    simp only[cond_true]at h;exact fin ⟨s.mem.length,b,[],⟨v,[],none,some r0⟩,ex⟩ _ (aaH ⟨r0,hN,hk,rfl,rfl⟩) rfl (λ r hr=>by cases hr) rfl h
  .cases h
  .split at h
   .rename_i b c bg h1
    cases hk:(jQ s.slots c o.dst&&bg.rd.all (λ r=>afC r s.mem.length))
    .rw[hk]at h;cases h
    .rw[hk]at h
     simp only[cond_true]at h;simp only[J8]at hk;exact fin ⟨s.mem.length,b,c,bg,[]⟩ _ (ER ⟨h1,rfl⟩) rfl (λ r hr=>Sr ((apB.1 hk.2) r hr)) (agr s o.dst c bg).symm h
   .cases h
theorem kJ{x y:Nat}(h:afC x y=true):x<y:=Sr h
theorem apx{P:Program}{T:Tab}{L:List Oper}{s sf:St}(h:drawn P T L s=some sf):∃S rec,Lex P T L s sf S rec:=by
 unfold drawn at h;cases hk:(uF L s.slots.length&&(AU L (jH L [])&&s.slots.all (λ q=>q.2.isEmpty)))
 .rw[hk]at h;cases h
 .rw[hk]at h
  simp only[cond_true]at h;simp only[J8]at hk;split at h
  .rename_i sf' recs hd
   cases hr:(KY (jH L []) recs&&recs.all (λ r=>r.b||!qo sf'.slots r.c))
   .rw[hr]at h;cases h
   .rw[hr]at h
    simp only[cond_true,jN]at h;subst h;simp only[J8]at hr;obtain⟨hl,S,h1,h2,h3⟩:=GR hd;let dfl:Rec:=⟨0,false,[],⟨.any,[],none,none⟩,[]⟩
    have hget:∀k,k<L.length->recs[k]?=some (recs.getD k dfl):=λ k hk=>by
     rw[amh,adv (by omega)];rfl
    refine⟨S,λ k=>recs.getD k dfl,hk.1,hk.2.1,h1,h2,λ k o ho=>?_,λ t=>?_,λ k hk' ht=>?_,λ k hk' r row hw=>?_⟩
    .obtain⟨q,g1,g2,g3,g4,g5⟩:=h3 k o ho
     have e:recs.getD k dfl=q:=by rw[amh,g1];rfl
     rw[e];exact⟨g2,g3,g4,g5⟩
    .rw[amh]
     cases hq:s.slots[t]? with
     |none=>rfl
     |some q =>
      have:=(apB.1 hk.2.2) q (ayK hq);simpa using this
    .have:=(apB.1 hr.2) _ (ayK (hget k hk'))
     have ht':qo sf'.slots (recs.getD k dfl).c=true:=ht;rw[ht']at this;simpa using this
    .have hrow:=hr.1
     unfold KY at hrow;have h4:=(apB.1 hrow) (recs.getD k dfl,k) (ayG.2 (hget k hk'));have hw':(recs.getD k dfl).bg.wr=some (r,row):=hw;simp only[hw',J8]at h4;refine⟨by simpa using h4.1,λ i hi hne=>?_⟩;have h5:=(apB.1 h4.2) (recs.getD i dfl,i) (ayG.2 (hget i hi));have hne':(i==k)=false:=by simpa using hne
     simp only[hne',aBC,J8,az0,aAN]at h5;intro ht;rcases h5 with h6 |h6
     .rw[h6]at ht;cases ht
     .rcases h6 with⟨g1,g2⟩ | ⟨g1,g2⟩
      .exact ER ⟨kJ g1,g2⟩
      .exact aaH ⟨kJ g1,g2⟩
  .cases h
theorem kC{L:List Oper}{len:Nat}(h:uF L len=true){j:Nat}{oj:Oper}(hj:L[j]?=some oj) :
  (∀e,e∈oj.after->ax3 .any e=true->e.on<j)/\(∀d,oj.dst=some d->d<len/\∀(i:Nat) (oi:Oper),L[i]?=some oi->writes oi d=true->i=j) /\
  (∀t,t∈looks L oj->∀(i:Nat) (oi:Oper),L[i]?=some oi->writes oi t=true->(i<j/\AR oj i=true)\/(j<i/\AR oi j=true)) /\
  (∀t,t∈jY L oj->∀(i:Nat) (oi:Oper),L[i]?=some oi->writes oi t=true->i<j):=by
 unfold uF at h;rw[apB]at h;have hq:=h (oj,j) (ayG.2 hj);simp only[J8]at hq;obtain⟨h2,h3,h4,h5⟩:=hq;have mem:∀{i:Nat} {oi:Oper},L[i]?=some oi->(oi,i)∈L.zipIdx:=λ hi=>ayG.2 hi;refine⟨λ e he hb=>?_,λ d hd=>?_,λ t ht i oi hi hw=>?_,λ t ht i oi hi hw=>?_⟩
 .rw[apB]at h2
  have:=h2 e (by simpa using he);rw[hb]at this;exact kJ (by simpa using this)
 .rw[hd]at h3
  simp only[J8]at h3;refine⟨kJ h3.1,λ i oi hi hw=>?_⟩;have h32:=h3.2;rw[apB]at h32;have:=h32 (oi,i) (mem hi);simp only[hw]at this;simpa using this
 .rw[apB]at h4
  have h41:=h4 t ht;rw[apB]at h41;have:=h41 (oi,i) (mem hi);simp only[hw,aEm,aBC,aAN,J8]at this;rcases this with⟨h,h'⟩ | ⟨h,h'⟩
  .exact ER ⟨kJ h,h'⟩
  .exact aaH ⟨kJ h,h'⟩
 .rw[apB]at h5
  have h51:=h5 t ht;rw[apB]at h51;have:=h51 (oi,i) (mem hi);simp only[hw,aEm,aBC]at this;exact kJ this
theorem sM{o:Oper}{i:Nat}{listed:Array Bool}(h:AR o i=true)(ha:∀e,e∈o.after->ax3 .any e=true->listed.getD e.on false=true):listed.getD i false=true:=by
 unfold AR at h;rw[aCl]at h;obtain⟨e,he,h2⟩:=h;simp only[J8]at h2;have:e.on=i:=by simpa using h2.1
 rw[<-this];exact ha e (by simpa using he) h2.2
theorem K3{M:List Nat}{i:Nat}:∀(l:List Edge),aAg (l.foldr (λ e m=>cond (ax3 .any e) (aD7 (aD7 (2 ^ e.on) (M.getD e.on 0)) m) m) 0) i=true->∃e,e∈l/\ax3 .any e=true/\(e.on=i\/aAg (M.getD e.on 0) i=true)
 | [],h=>by simp at h
 |e::l,h=>by
  simp only[List.foldr_cons]at h;cases hb:ax3 .any e
  .rw[hb]at h
   obtain⟨e',h1,h2⟩:=K3 l h;exact⟨e',by simp[h1],h2⟩
  .rw[hb]at h
   simp only[cond_true]at h;have h':aAg ((2 ^ e.on |||M.getD e.on 0) |||_) i=true:=h;rw[aCY,aCY,Nat.testBit_two_pow]at h';simp only[aAN,decide_eq_true_eq]at h';rcases h' with(h' |h') |h'
   .exact⟨e,by simp,hb,ER h'⟩
   .exact⟨e,by simp,hb,aaH h'⟩
   .obtain⟨e',h1,h2⟩:=K3 l h'
    exact⟨e',by simp[h1],h2⟩
theorem zW{L:List Oper}{len:Nat}(hs:uF L len=true)(hm:AU L (jH L [])=true){listed:Array Bool}
  (kG:∀(j:Nat) (oj:Oper),L[j]?=some oj->listed.getD j false=true->∀e,e∈oj.after->ax3 .any e=true->listed.getD e.on false=true) :
  ∀(k:Nat) (o:Oper),L[k]?=some o->(∀e,e∈o.after->ax3 .any e=true->listed.getD e.on false=true)->∀i,aAg ((jH L []).getD k 0) i=true->listed.getD i false=true:=by
 intro k
 induction k using aD8 with
 |_ k ih =>
  intro o ho jm i hi;have h1:=(apB.1 hm) (o,k) (ayG.2 ho);have h2:(jH L []).getD k 0=XZ (jH L []) o:=by simpa using h1
  rw[h2]at hi;obtain⟨e,he,hb,hor⟩:=K3 _ hi;have he':e∈o.after:=by simpa using he
  have hl:=jm e he' hb;rcases hor with rfl |hor
  .exact hl
  .have hlt:=(kC hs ho).1 e he' hb
   have hlt2:e.on<L.length:=Nat.lt_trans hlt (aj8.1 ho).1;exact ih e.on hlt L[e.on] (adv hlt2) (kG e.on _ (adv hlt2) hl) i hor
section
variable{P:Program}{T:Tab}{L:List Oper}{s0 sf:St}{S:Nat->St}{rec:Nat->Rec}
theorem Lex.puts(hx:Lex P T L s0 sf S rec){k:Nat}{o:Oper}(hk:L[k]?=some o):(S (k+1)).slots=ow (S k).slots o.dst ((rec k).bg.v,(rec k).c):=by
 rw[(hx.step k o hk).2.2.2];rfl
theorem Lex.length(hx:Lex P T L s0 sf S rec):∀k,k<=L.length->(S k).slots.length=s0.slots.length
 | 0,_=>by rw[hx.first]
 |k+1,hk=>by
  have ih:=Lex.length hx k (by omega);have ho:L[k]?=some L[k]:=adv (by omega);rw[hx.puts ho];cases hd:L[k].dst<;>simp[ow,ih]
theorem Lex.stays(hx:Lex P T L s0 sf S rec)(t i:Nat):∀n,i+n<=L.length->(∀(k:Nat) (o:Oper),L[k]?=some o->i<=k->k<i+n->writes o t=false)->(S (i+n)).slots.getD t dflt=(S i).slots.getD t dflt
 | 0,_,_=>rfl
 |n+1,hn,hw=>by
  have ih:=Lex.stays hx t i n (by omega) (λ k o hk h1 h2=>hw k o hk h1 (by omega));have hlt:i+n<L.length:=by omega
  have ho:L[i+n]?=some L[i+n]:=adv hlt;have hnw:=hw (i+n) _ ho (by omega) (by omega);rw[<-ih];show(S (i+n+1)).slots.getD t dflt=_;rw[hx.puts ho];cases hd:L[i+n].dst with
  |none=>rfl
  |some d =>
   simp only[ow];rw[DI,if_neg];intro⟨e,_⟩;rw[writes,hd,e]at hnw;simp at hnw
theorem Lex.uniq(hx:Lex P T L s0 sf S rec){i j t:Nat}{oi oj:Oper}(hi:L[i]?=some oi)(hj:L[j]?=some oj)(h1:writes oi t=true)(h2:writes oj t=true):i=j:=by
 have hd:oj.dst=some t:=by simpa[writes]using h2
 exact((kC hx.ok hj).2.1 t hd).2 i oi hi h1
theorem Lex.before(hx:Lex P T L s0 sf S rec){t k:Nat}(hk:k<=L.length)(hw:∀(i:Nat) (o:Oper),L[i]?=some o->i<k->writes o t=false):(S k).slots.getD t dflt=s0.slots.getD t dflt:=by
 have:=hx.stays t 0 k (by omega) (λ i o hi _ h2=>hw i o hi (by omega));rw[avB,hx.first]at this;exact this
theorem Lex.behind(hx:Lex P T L s0 sf S rec){t k i:Nat}{o:Oper}(hk:k<=L.length)(hi:L[i]?=some o)(hw:writes o t=true)(hik:i<k):(S k).slots.getD t dflt=sf.slots.getD t dflt:=by
 have:=hx.stays t k (L.length - k) (by omega) (λ j oj hj h1 _=>by
  cases h:writes oj t
  .rfl
  .have:=hx.uniq hi hj hw h;omega)
 rw[show k+(L.length - k)=L.length by omega,hx.last]at this;exact this.symm
theorem Lex.never(hx:Lex P T L s0 sf S rec){t:Nat}(hw:∀(i:Nat) (o:Oper),L[i]?=some o->writes o t=false):sf.slots.getD t dflt=s0.slots.getD t dflt:=by
 have:=hx.before (ao5 _) (λ i o hi _=>hw i o hi) (t:=t);rw[hx.last]at this;exact this
theorem Lex.sN(hx:Lex P T L s0 sf S rec):sf.slots.length=s0.slots.length:=by
 have:=hx.length L.length (ao5 _)
 rwa [hx.last]at this
theorem Lex.Qn(hx:Lex P T L s0 sf S rec){k:Nat}(hk:k<L.length):(S (k+1)).mem.length=(S k).mem.length+(rec k).bg.nw.toList.length+(rec k).ex.length:=by
 rw[(hx.step k L[k] (adv hk)).2.2.2];simp only[Ht,Eff.mem];cases(rec k).bg.wr with
 |none=>simp;omega
 |some p=>simp;omega
theorem Lex.xZ(hx:Lex P T L s0 sf S rec)(i:Nat):∀n,i+n<=L.length->(S i).mem.length<=(S (i+n)).mem.length
 | 0,_=>ao5 _
 |n+1,hn=>by
  have ih:=Lex.xZ hx i n (by omega);have:=hx.Qn (k:=i+n) (by omega);rw[show i+(n+1)=i+n+1 by omega];omega
theorem Lex.zX(hx:Lex P T L s0 sf S rec)(r i:Nat)(hr:r<(S i).mem.length):∀n,i+n<=L.length->(∀k,i<=k->k<i+n->(rec k).C8 r=false)->(S (i+n)).mem[r]?=(S i).mem[r]?
 | 0,_,_=>rfl
 |n+1,hn,hw=>by
  have ih:=Lex.zX hx r i hr n (by omega) (λ k h1 h2=>hw k h1 (by omega));have hlt:i+n<L.length:=by omega
  have hnw:=hw (i+n) (by omega) (by omega);have hmono:=hx.xZ i n (by omega);rw[<-ih];show(S (i+n+1)).mem[r]?=_;rw[(hx.step (i+n) L[i+n] (adv hlt)).2.2.2];simp only[Ht,Eff.mem];cases he:(rec (i+n)).bg.wr with
  |none=>simp only;rw[apR (by simp;omega),apR (by omega)]
  |some p =>
   obtain⟨r',row⟩:=p;simp only;rw[apR (by simp;omega),apR (by simp;omega),aDr,if_neg];intro e;unfold Rec.C8 at hnw;rw[he,e]at hnw;simp at hnw
end
end
noncomputable section
def wrB(ops:List Oper)(listed:Array Bool)(t:Nat):Bool:=ops.zipIdx.any λ p=>writes p.1 t&&listed.getD p.2 false
def sO(ops:List Oper)(s0 sf:St)(listed:Array Bool):List (AV × Chain):=(av2 s0.slots.length).map λ t=>cond (wrB ops listed t) (sf.slots.getD t dflt) (s0.slots.getD t dflt)
def rowAt(n:Nat)(sf:St)(S:Nat->St)(rec:Nat->Rec)(listed:Array Bool)(r:Nat):Option Row:=match(av2 n).find? (λ k=>(rec k).C8 r&&!listed.getD k false)with
 |some w=>(S w).mem[r]?
 |none=>sf.mem[r]?
def wH(n:Nat)(sf:St)(S:Nat->St)(rec:Nat->Rec)(listed:Array Bool):List Row:=(av2 sf.mem.length).map λ r=>(rowAt n sf S rec listed r).getD .dead
theorem fA{listed:Array Bool}{i j:Nat}(hi:i<listed.size):(listed.setIfInBounds i true).getD j false=(decide (i=j)||listed.getD j false):=by
 simp only[ay0,Array.getElem?_setIfInBounds];by_cases h:i=j
 .subst h;simp[hi]
 .simp[h]
theorem x9{L:List Oper}{listed:Array Bool}{t:Nat}:wrB L listed t=true↔∃(i:Nat) (o:Oper),L[i]?=some o/\writes o t=true/\listed.getD i false=true:=by
 unfold wrB;rw[aCl];constructor
 .rintro⟨⟨o,i⟩,hm,h⟩
  simp only[J8]at h;exact⟨i,o,ayG.1 hm,h⟩
 .rintro⟨i,o,h1,h2,h3⟩
  exact⟨(o,i),ayG.2 h1,by simp only[J8];exact⟨h2,h3⟩⟩
theorem aal{L:List Oper}{listed:Array Bool}{i t:Nat}{o:Oper}(hi:i<listed.size)(ho:L[i]?=some o):wrB L (listed.setIfInBounds i true) t=(writes o t||wrB L listed t):=by
 rw[Bool.eq_iff_iff,aAN,x9,x9];constructor
 .rintro⟨j,oj,hj,hw,hl⟩
  rw[fA hi]at hl;by_cases h:i=j
  .subst h;rw[ho]at hj;cases hj;exact ER hw
  .exact aaH ⟨j,oj,hj,hw,by simpa[h]using hl⟩
 .rintro(h | ⟨j,oj,hj,hw,hl⟩)
  .exact⟨i,o,ho,h,by rw[fA hi];simp⟩
  .exact⟨j,oj,hj,hw,by rw[fA hi,hl];simp⟩
theorem qO{listed:Array Bool}{i:Nat}(h:i<listed.size):listed.getD i true=listed.getD i false:=by
 simp[ay0,h]
section
variable{P:Program}{T:Tab}{L:List Oper}{s0 sf:St}{S:Nat->St}{rec:Nat->Rec}{listed:Array Bool}
theorem wI(hl:sf.slots.length=s0.slots.length)(listed:Array Bool)(t:Nat):(sO L s0 sf listed).getD t dflt=cond (wrB L listed t) (sf.slots.getD t dflt) (s0.slots.getD t dflt):=by
 simp only[sO,amh,azh];by_cases ht:t<s0.slots.length
 .simp[ht]
 .rw[ayE (by simpa using Nat.le_of_not_lt ht),ayE (by omega),ayE (by omega)]
  cases wrB L listed t<;>rfl
theorem Lex.agree(hx:Lex P T L s0 sf S rec){i:Nat}{o:Oper}(hi:L[i]?=some o)(hun:listed.getD i false=false)(jm:∀e,e∈o.after->ax3 .any e=true->listed.getD e.on false=true)
  (kG:∀(j:Nat) (oj:Oper),L[j]?=some oj->listed.getD j false=true->∀e,e∈oj.after->ax3 .any e=true->listed.getD e.on false=true) :
  ∀t,t∈looks L o->(S i).slots.getD t dflt=(sO L s0 sf listed).getD t dflt:=by
 intro t ht;have hlt:i<L.length:=(aj8.1 hi).1;rw[wI hx.sN];have hsp:=(kC hx.ok hi).2.2.1 t ht;cases hwr:wrB L listed t
 .rw[cond_false]
  refine hx.before (azO hlt) λ j oj hj hji=>?_;cases h:writes oj t
  .rfl
  .rcases hsp j oj hj h with⟨_,he⟩ | ⟨hlt2,_⟩
   .have:=x9.2 ⟨j,oj,hj,h,sM he jm⟩
    rw[hwr]at this;cases this
   .omega
 .rw[cond_true]
  obtain⟨j,oj,hj,hw,hl⟩:=x9.1 hwr;rcases hsp j oj hj hw with⟨hji,_⟩ | ⟨_,he⟩
  .exact hx.behind (azO hlt) hj hw hji
  .have:=sM he (kG j oj hj hl)
   rw[hun]at this;cases this
theorem Lex.X3(hx:Lex P T L s0 sf S rec){i:Nat}{o:Oper}(hi:L[i]?=some o)(jm:∀e,e∈o.after->ax3 .any e=true->listed.getD e.on false=true) :
  ∀t,t∈jY L o->(sf.slots.getD t dflt).1=((sO L s0 sf listed).getD t dflt).1:=by
 intro t ht;rw[wI hx.sN];have hsp:=(kC hx.ok hi).2.2.1 t (aBd _ ht);have hte:=(kC hx.ok hi).2.2.2 t ht;cases hwr:wrB L listed t
 .rw[cond_false]
  rw[hx.never λ j oj hj=>?_];cases h:writes oj t
  .rfl
  .rcases hsp j oj hj h with⟨_,he⟩ | ⟨hlt2,_⟩
   .have:=x9.2 ⟨j,oj,hj,h,sM he jm⟩
    rw[hwr]at this;cases this
   .have:=hte j oj hj h;omega
 .rw[cond_true]
theorem zY(hx:Lex P T L s0 sf S rec){E:Env}{a:Act}{i:Nat}{o:Oper}{u:Value}(hi:i<listed.size)(ho:L[i]?=some o)(hfr:Bo E sf.slots (sO L s0 sf listed) a.tmps)
  (h1:qo sf.slots (rec i).c=true->rel E (rec i).bg.v u) (h2:qo sf.slots (rec i).c=false->u=undef):Bo E sf.slots (sO L s0 sf (listed.setIfInBounds i true)) (a.put o.dst u).tmps:=by
 have hlt:i<L.length:=(aj8.1 ho).1;cases hd:o.dst with
 |none =>
  have:sO L s0 sf (listed.setIfInBounds i true)=sO L s0 sf listed:=by
   simp only[sO];refine ayT λ t _=>?_;rw[aal hi ho];simp[writes,hd]
  rw[this];exact hfr
 |some d =>
  have hdl:=((kC hx.ok ho).2.1 d hd).1
  have hsf:sf.slots.getD d dflt=((rec i).bg.v,(rec i).c):=by
   have hb:=hx.behind (k:=i+1) (by omega) ho (show writes o d=true by simp[writes,hd]) (by omega);rw[<-hb,hx.puts ho,hd];simp only[ow];rw[DI,if_pos ⟨rfl,by rw[hx.length i (by omega)];exact hdl⟩]
  refine⟨⟨?_,hfr.1.2⟩,λ t=>?_⟩
  .have:=hfr.1.1
   simp only[Act.put,Array.size_setIfInBounds,this,sO,aAL]
  .rw[wI hx.sN,aal hi ho]
   simp only[Act.put];rw[RI];have hf:=hfr.2 t;rw[wI hx.sN]at hf;by_cases ht:d=t
   .subst ht
    have hsz:d<a.tmps.size:=by rw[hfr.1.1];simp only[sO,aAL,List.length_range];exact hdl
    rw[if_pos ⟨rfl,hsz⟩,show writes o d=true by simp[writes,hd],Bool.true_or,cond_true,hsf];exact⟨h1,h2⟩
   .rw[if_neg (λ e=>ht e.1),show writes o t=false by simp[writes,hd,ht],aBC]
    exact hf
theorem EC{p:Rec}{r:Nat}:p.C8 r=true↔∃row,p.bg.wr=some (r,row):=by
 unfold Rec.C8;cases h:p.bg.wr with
 |none=>simp
 |some q =>
  obtain⟨r',row⟩:=q;simp
theorem AX{n r w:Nat}(h:(av2 n).find? (λ k=>(rec k).C8 r&&!listed.getD k false)=some w):w<n/\(rec w).C8 r=true/\listed.getD w false=false/\∀k,k<w->(rec k).C8 r=true->listed.getD k false=true:=by
 have h1:=List.find?_some h;simp only[J8,az0]at h1;refine⟨ayA.1 (List.mem_of_find?_eq_some h),h1.1,h1.2,λ k hk hw=>?_⟩;obtain⟨as,bs,e,hall⟩:=(List.find?_eq_some_iff_append.1 h).2
 have hlen:as.length=w:=by
  have hlt:as.length<n:=by
   have:=congrArg aDM e;simp at this;omega
  have e2:(av2 n)[as.length]?=some w:=by rw[e];simp
  rw[aCZ hlt]at e2;simpa using e2
 have hmem:k∈as:=by
  have e2:(av2 n)[k]?=some k:=aCZ (by
   have:=congrArg aDM e;simp at this;omega)
  rw[e,apR (by omega)]at e2;exact ayK e2
 have:=hall k hmem;simp only[az0,Bool.and_eq_false_iff,Bool.not_eq_false']at this;rcases this with h |h
 .rw[hw]at h;cases h
 .exact h
theorem FY{n r:Nat}(h:(av2 n).find? (λ k=>(rec k).C8 r&&!listed.getD k false)=none):∀k,k<n->(rec k).C8 r=true->listed.getD k false=true:=λ k hk hw=>by
 have:=aDg.1 h k (ayA.2 hk);simpa[hw]using this
theorem ags{n r:Nat}(h:∀k,k<n->listed.getD k false=true):(av2 n).find? (λ k=>(rec k).C8 r&&!listed.getD k false)=none :=
 aDg.2 λ k hk=>by rw[h k (ayA.1 hk)];simp
theorem Lex.Qo(hx:Lex P T L s0 sf S rec){i:Nat}(hi:i<=L.length):(S i).mem.length<=sf.mem.length:=by
 have:=hx.xZ i (L.length - i) (by omega);rw[show i+(L.length - i)=L.length by omega,hx.last]at this;exact this
theorem Lex.Qp(hx:Lex P T L s0 sf S rec){r i:Nat}(hi:i<=L.length)(hr:r<(S i).mem.length)(hw:∀k,i<=k->k<L.length->(rec k).C8 r=false):sf.mem[r]?=(S i).mem[r]?:=by
 have:=hx.zX r i hr (L.length - i) (by omega) (λ k h1 h2=>hw k h1 (by omega));rw[show i+(L.length - i)=L.length by omega,hx.last]at this;exact this
theorem Lex.apy(hx:Lex P T L s0 sf S rec){i r:Nat}(hi:i<L.length)(hr:r∈(rec i).bg.rd):r<(S i).mem.length:=(hx.step i L[i] (adv hi)).2.2.1 r hr
theorem Lex.auJ(hx:Lex P T L s0 sf S rec){w r:Nat}(hw:w<L.length)(h:(rec w).C8 r=true):r<(S w).mem.length:=by
 obtain⟨row,hrow⟩:=EC.1 h;exact hx.apy hw (hx.rows w hw r row hrow).1
theorem Lex.qc(hx:Lex P T L s0 sf S rec){r:Nat}(hr:r<sf.mem.length):(wH L.length sf S rec listed)[r]?=rowAt L.length sf S rec listed r:=by
 simp only[wH,azh];rw[adv (by simpa using hr)];simp only[List.getElem_range,Option.map_some]
 have:∃row,rowAt L.length sf S rec listed r=some row:=by
  unfold rowAt;split
  .rename_i w hw
   obtain⟨h1,h2,_,_⟩:=AX hw;exact⟨_,adv (hx.auJ h1 h2)⟩
  .exact⟨_,adv hr⟩
 obtain⟨row,h⟩:=this;rw[h];rfl
theorem sP:(wH L.length sf S rec listed).length=sf.mem.length:=by simp[wH]
theorem Lex.agt(hx:Lex P T L s0 sf S rec){i:Nat}(hun:listed.getD i false=false)
  (kG:∀(j:Nat) (oj:Oper),L[j]?=some oj->listed.getD j false=true->∀e,e∈oj.after->ax3 .any e=true->listed.getD e.on false=true)
  {r k:Nat} (hlt:i<L.length) (ht:(rec i).touch r=true) (hk:k<L.length) (hw:(rec k).C8 r=true) (hik:i<=k):listed.getD k false=false:=by
 by_cases e:i=k
 .subst e;exact hun
 .obtain⟨row,hrow⟩:=EC.1 hw
  rcases(hx.rows k hk r row hrow).2 i hlt e ht with⟨_,hbit⟩ | ⟨h,_⟩
  .cases h:listed.getD k false
   .rfl
   .have:=zW hx.ok hx.masks kG k L[k] (adv hk) (kG k _ (adv hk) h) i hbit
    rw[hun]at this;cases this
  .omega
theorem Lex.alD(hx:Lex P T L s0 sf S rec){i:Nat}(hun:listed.getD i false=false)
  (kG:∀(j:Nat) (oj:Oper),L[j]?=some oj->listed.getD j false=true->∀e,e∈oj.after->ax3 .any e=true->listed.getD e.on false=true)
  {r k:Nat} (hlt:i<L.length) (hr:r∈(rec i).bg.rd) (hk:k<L.length) (hw:(rec k).C8 r=true) (hik:i<=k):listed.getD k false=false :=
 hx.agt hun kG hlt (by unfold Rec.touch;simp[hr]) hk hw hik
theorem Lex.abV(hx:Lex P T L s0 sf S rec){i:Nat}{o:Oper}(hi:L[i]?=some o)(hun:listed.getD i false=false)(jm:∀e,e∈o.after->ax3 .any e=true->listed.getD e.on false=true)
  (kG:∀(j:Nat) (oj:Oper),L[j]?=some oj->listed.getD j false=true->∀e,e∈oj.after->ax3 .any e=true->listed.getD e.on false=true) :
  ∀r,r∈(rec i).bg.rd->(S i).mem[r]?=(wH L.length sf S rec listed)[r]?:=by
 intro r hr;have hlt:i<L.length:=(aj8.1 hi).1;have hri:=hx.apy hlt hr;have hrs:=ayB hri (hx.Qo (azO hlt));rw[hx.qc hrs];unfold rowAt;split
 .rename_i w hw
  obtain⟨h1,h2,h3,h4⟩:=AX hw;obtain⟨row,hrow⟩:=EC.1 h2;by_cases hwi:i=w
  .subst hwi;rfl
  .have ht:(rec i).touch r=true:=by unfold Rec.touch;simp[hr]
   rcases(hx.rows w h1 r row hrow).2 i hlt hwi ht with⟨hiw,_⟩ | ⟨ayk,hbit⟩
   .have:=hx.zX r i hri (w - i) (by omega) (λ k g1 g2=>by
     cases hk:(rec k).C8 r
     .rfl
     .exact absurd (h4 k (by omega) hk) (by rw[hx.alD hun kG hlt hr (by omega) hk g1];simp))
    rw[show i+(w - i)=w by omega]at this;exact this.symm
   .have hlw:=zW hx.ok hx.masks kG i o hi jm w hbit
    rw[h3]at hlw;cases hlw
 .rename_i hw
  refine(hx.Qp (azO hlt) hri λ k g1 g2=>?_).symm;cases hk:(rec k).C8 r
  .rfl
  .exact absurd (FY hw k g2 hk) (by rw[hx.alD hun kG hlt hr g2 hk g1];simp)
theorem zZ{i r:Nat}(hil:i<listed.size)(hw:(rec i).C8 r=false):rowAt L.length sf S rec (listed.setIfInBounds i true) r=rowAt L.length sf S rec listed r:=by
 have e:(λ k=>(rec k).C8 r&&!(listed.setIfInBounds i true).getD k false)=λ k=>(rec k).C8 r&&!listed.getD k false:=funext λ k=>by
  rw[fA hil];by_cases h:i=k
  .subst h;rw[hw];rfl
  .simp[h]
 unfold rowAt;rw[e]
theorem Lex.agu(hx:Lex P T L s0 sf S rec){i r:Nat}(hlt:i<L.length)(hil:i<listed.size)(hun:listed.getD i false=false)
  (kG:∀(j:Nat) (oj:Oper),L[j]?=some oj->listed.getD j false=true->∀e,e∈oj.after->ax3 .any e=true->listed.getD e.on false=true)
  (ht:(rec i).touch r=true) (hr:r<(S (i+1)).mem.length) (hpast:∀k,k<i->(rec k).C8 r=true->listed.getD k false=true):rowAt L.length sf S rec (listed.setIfInBounds i true) r=(S (i+1)).mem[r]?:=by
 unfold rowAt;split
 .rename_i w hw
  obtain⟨h1,h2,h3,h4⟩:=AX hw;rw[fA hil]at h3;simp only[ahD,decide_eq_false_iff_not]at h3
  have hiw:i<w:=by
   rcases Nat.lt_or_ge i w with h |h
   .exact h
   .have:=hpast w (by omega) h2
    rw[h3.2]at this;cases this
  have:=hx.zX r (i+1) hr (w - (i+1)) (by omega) (λ k g1 g2=>by
   cases hk:(rec k).C8 r
   .rfl
   .have h5:=h4 k (by omega) hk
    rw[fA hil,hx.agt hun kG hlt ht (by omega) hk (by omega)]at h5;simp at h5;omega)
  rw[show i+1+(w - (i+1))=w by omega]at this;exact this
 .rename_i hw
  refine hx.Qp (by omega) hr λ k g1 g2=>?_;cases hk:(rec k).C8 r
  .rfl
  .have h5:=FY hw k g2 hk
   rw[fA hil,hx.agt hun kG hlt ht g2 hk (by omega)]at h5;simp at h5;omega
theorem Lex.newRow(hx:Lex P T L s0 sf S rec){i:Nat}{o:Oper}(hi:L[i]?=some o)(hil:i<listed.size)(hun:listed.getD i false=false)
  (kG:∀(j:Nat) (oj:Oper),L[j]?=some oj->listed.getD j false=true->∀e,e∈oj.after->ax3 .any e=true->listed.getD e.on false=true)
  {k:Nat} {row:Row} (hk:k<=(rec i).ex.length) (hsome:(rec i).bg.nw.isSome=true) (hrow:((rec i).bg.nw.toList++(rec i).ex)[k]?=some row) :
  (wH L.length sf S rec (listed.setIfInBounds i true))[(rec i).nk+k]?=some row:=by
 have hlt:i<L.length:=(aj8.1 hi).1;obtain⟨_,apz,_,hstep⟩:=hx.step i o hi
 have hone:(rec i).bg.nw.toList.length=1:=by
  cases h:(rec i).bg.nw with
  |none=>rw[h]at hsome;cases hsome
  |some r=>rfl
 have hlen1:(S (i+1)).mem.length=(S i).mem.length+1+(rec i).ex.length:=by have:=hx.Qn hlt;omega
 have hnew:(S (i+1)).mem[(S i).mem.length+k]?=some row:=by
  rw[hstep];simp only[Ht,Eff.mem,List.append_assoc];cases(rec i).bg.wr with
  |none =>
   simp only;rw[axY (by omega),aCx];exact hrow
  |some q =>
   obtain⟨q1,q2⟩:=q;simp only;rw[axY (by simp),List.length_set,aCx];exact hrow
 rw[apz];have hks:(S i).mem.length+k<sf.mem.length:=by have:=hx.Qo (i:=i+1) (by omega);omega
 rw[hx.qc hks,hx.agu hlt hil hun kG (by
  unfold Rec.touch;rw[hsome,apz,ah4 (show(S i).mem.length<=(S i).mem.length+k by omega),ah4 (show(S i).mem.length+k<=(S i).mem.length+(rec i).ex.length by omega)];simp) (by omega) λ w hw h2=>?_]
 .exact hnew
 .have hlw:=hx.auJ (by omega) h2
  have:=hx.xZ w (i - w) (by omega);rw[show w+(i - w)=i by omega]at this;omega
theorem Lex.alE(hx:Lex P T L s0 sf S rec){E:Env}{i:Nat}{o:Oper}(hi:L[i]?=some o)(hil:i<listed.size)(hun:listed.getD i false=false)(jm:∀e,e∈o.after->ax3 .any e=true->listed.getD e.on false=true)
  (kG:∀(j:Nat) (oj:Oper),L[j]?=some oj->listed.getD j false=true->∀e,e∈oj.after->ax3 .any e=true->listed.getD e.on false=true)
  (hdom:∀k b c,E.O k=some (b,c)->k<(wH L.length sf S rec listed).length) {nk:Nat} (hnk:(rec i).bg.nw=none\/nk=(rec i).nk) :
  jk E (wH L.length sf S rec listed) (wH L.length sf S rec (listed.setIfInBounds i true)) nk (rec i).bg:=by
 have hlt:i<L.length:=(aj8.1 hi).1;obtain⟨_,apz,_,hstep⟩:=hx.step i o hi;refine⟨λ k hk b c hb=>?_,λ row hrow=>?_⟩
 .have hks:k<sf.mem.length:=by have:=hdom k b c hb;rwa [sP]at this
  rw[hx.qc hks,hx.qc hks];cases hwk:(rec i).C8 k
  .rw[zZ hil hwk]
   cases he:(rec i).bg.wr with
   |none=>rfl
   |some q =>
    obtain⟨k',row⟩:=q;simp only;rw[if_neg];intro e;unfold Rec.C8 at hwk;rw[he,e]at hwk;simp at hwk
  .obtain⟨row,hrow⟩:=EC.1 hwk
   rw[hrow];simp only[if_true];obtain⟨hrd,hall⟩:=hx.rows i hlt k row hrow;have hki:=hx.apy hlt hrd;have hlen1:k<(S (i+1)).mem.length:=ayB hki (by have:=hx.Qn hlt;omega);rw[hx.agu hlt hil hun kG (by unfold Rec.touch;simp[hrd]) hlen1 λ w hw h2=>?_,hstep]
   rotate_left
   .obtain⟨row',hrow'⟩:=EC.1 h2
    rcases hall w (by omega) (by omega) (by unfold Rec.touch;simp[(hx.rows w (by omega) k row' hrow').1])with⟨_,hbit⟩ | ⟨h,_⟩
    .exact zW hx.ok hx.masks kG i o hi jm w hbit
    .omega
   simp only[Ht,Eff.mem,hrow];rw[apR (by simp;omega),apR (by simpa using hki),aDr];simp[hki]
 .have awX:nk=(rec i).nk:=by
   rcases hnk with h |h
   .rw[h]at hrow;cases hrow
   .exact h
  have:=hx.newRow hi hil hun kG (k:=0) (row:=row) (aAv _) (by rw[hrow];rfl) (by rw[hrow];rfl);rw[awX,<-Nat.add_zero (rec i).nk];exact this
theorem Lex.awY(hx:Lex P T L s0 sf S rec){E:Env}{i:Nat}{o:Oper}{r0:Row}(hi:L[i]?=some o)(hil:i<listed.size)(hun:listed.getD i false=false)
  (kG:∀(j:Nat) (oj:Oper),L[j]?=some oj->listed.getD j false=true->∀e,e∈oj.after->ax3 .any e=true->listed.getD e.on false=true)
  (hdom:∀k b c,E.O k=some (b,c)->k<(wH L.length sf S rec listed).length) (heff:(rec i).bg=⟨(rec i).bg.v,[],none,some r0⟩) :
  amI E (wH L.length sf S rec listed) (wH L.length sf S rec (listed.setIfInBounds i true)) (rec i).nk (r0::(rec i).ex):=by
 have hwr:(rec i).bg.wr=none:=by rw[heff]
 have hnw:(rec i).bg.nw=some r0:=by rw[heff]
 refine⟨λ k _ b c hb=>?_,λ k row hrow=>?_⟩
 .have hks:k<sf.mem.length:=by have:=hdom k b c hb;rwa [sP]at this
  rw[hx.qc hks,hx.qc hks,zZ hil (by unfold Rec.C8;rw[hwr])]
 .refine hx.newRow hi hil hun kG (k:=k) (row:=row) ?_ (by rw[hnw];rfl) (by rw[hnw];exact hrow)
  have:=(aj8.1 hrow).1;simp at this;omega
theorem NK{i:Nat}(hil:i<listed.size)(hw:(rec i).bg.wr=none):wH L.length sf S rec (listed.setIfInBounds i true)=wH L.length sf S rec listed:=by
 unfold wH;refine ayT λ r _=>?_;rw[zZ hil (by unfold Rec.C8;rw[hw])]
end
end
noncomputable section
structure JInv(A0 R:Nat->Prop)(w0:Env)(ops:Array Oper)(s0 sf:St)(S:Nat->St)(rec:Nat->Rec)(E:Env)(listed:Array Bool)(a:Act):Prop where
 defers:a.defers=[]
 frame:Bo E sf.slots (sO ops.toList s0 sf listed) a.tmps
 wd:Wd A0 R w0 E (wH ops.toList.length sf S rec listed)
 made:∀r p,E.O r=some p->s0.mem.length<=r->∃j,j<ops.toList.length/\listed.getD j false=true/\((rec j).nk<=r/\r<=(rec j).nk+(rec j).ex.length)/\(rec j).bg.nw.isSome=true
 size:listed.size=ops.size
 shut:∀(i:Nat) (o:Oper),ops.toList[i]?=some o->listed.getD i false=true->∀e,e∈o.after->ax3 .any e=true->listed.getD e.on false=true
section
variable{P:Program}{T:Tab}{A0 R:Nat->Prop}{w0:Env}{ops:Array Oper}{s0 sf:St}{S:Nat->St}{rec:Nat->Rec}{E:Env}{listed:Array Bool}{a:Act}{Q:Exit->Act->World->Prop}
theorem Lex.aam(hx:Lex P T ops.toList s0 sf S rec)(hJ:JInv A0 R w0 ops s0 sf S rec E listed a){i:Nat}(hi:i<ops.toList.length)(hun:listed.getD i false=false)(hn:(rec i).bg.nw.isSome=true){k:Nat}(hk:k<=(rec i).ex.length):E.O ((rec i).nk+k)=none:=by
 cases hO:E.O ((rec i).nk+k)with
 |none=>rfl
 |some p =>
  have hnk:∀j,j<ops.toList.length->(rec j).nk=(S j).mem.length:=λ j hj=>(hx.step j _ (adv hj)).2.1
  have hgrow:∀j,j<ops.toList.length->(rec j).bg.nw.isSome=true->(S (j+1)).mem.length=(S j).mem.length+1+(rec j).ex.length:=λ j hj hs=>by
   have:=hx.Qn hj;cases hw:(rec j).bg.nw with
   |none=>rw[hw]at hs;cases hs
   |some row=>rw[hw]at this;simpa using this
  have hge:s0.mem.length<=(rec i).nk+k:=by
   rw[hnk i hi,<-hx.first];have:=hx.xZ 0 i (by omega);simp only[avB]at this;omega
  obtain⟨j,hj,hl,he,hs⟩:=hJ.made _ p hO hge;rw[hnk j hj,hnk i hi]at he;have hne:j≠i:=λ e=>by subst e;rw[hun]at hl;cases hl
  rcases Nat.lt_or_gt_of_ne hne with h |h
  .have h1:=hgrow j hj hs
   have h2:=hx.xZ (j+1) (i - (j+1)) (by omega);rw[show j+1+(i - (j+1))=i by omega]at h2;omega
  .have h1:=hgrow i hi hn
   have h2:=hx.xZ (i+1) (j - (i+1)) (by omega);rw[show i+1+(j - (i+1))=j by omega]at h2;omega
theorem z8{i:Nat}{o:Oper}(hi:i<listed.size)(ho:ops.toList[i]?=some o)(jm:∀e,e∈o.after->ax3 .any e=true->listed.getD e.on false=true)
  (kG:∀(j:Nat) (oj:Oper),ops.toList[j]?=some oj->listed.getD j false=true->∀e,e∈oj.after->ax3 .any e=true->listed.getD e.on false=true) :
  ∀(j:Nat) (oj:Oper),ops.toList[j]?=some oj->(listed.setIfInBounds i true).getD j false=true->∀e,e∈oj.after->ax3 .any e=true->(listed.setIfInBounds i true).getD e.on false=true:=by
 intro j oj hj hl e he hb;rw[fA hi]at hl ⊢;by_cases h:i=j
 .subst h
  rw[ho]at hj;cases hj;rw[jm e he hb];simp
 .have hl':listed.getD j false=true:=by simpa[h]using hl
  rw[kG j oj hj hl' e he hb];simp
theorem apA (   hT:Ao P T) (hx:Lex P T ops.toList s0 sf S rec) (hJ:JInv A0 R w0 ops s0 sf S rec E listed a) {i:Nat} (hr:i∈ayZ .any ops listed)
    {K:Act->World->Prop} (hK:∀E' a',JInv A0 R w0 ops s0 sf S rec E' (listed.setIfInBounds i true) a'->K a' E'.w):wpOp P ops Q i K a E.w:=by
  obtain⟨hun,o,ho,jm⟩:=mem_ready.1 hr;have hil:i<ops.size:=(ayR.1 ho).1;have hi:i<listed.size:=by rw[hJ.size];exact hil
  have hun':listed.getD i false=false:=by rw[<-qO hi];exact hun
  have ho':ops.toList[i]?=some o:=by simpa using ho
  have hlt:i<ops.toList.length:=by simpa using hil
  have hag:=hx.agree ho' hun' jm hJ.shut;have hat:=hx.X3 (listed:=listed) ho' jm;have har:=hx.abV ho' hun' jm hJ.shut;obtain⟨hst,hnk,hrd,hnext⟩:=hx.step i o ho';have hcond:=hx.conds i hlt;unfold wpOp;rw[ho];simp only;let m:St:=⟨sO ops.toList s0 sf listed,wH ops.toList.length sf S rec listed⟩;have X4:∀t,t∈looks ops.toList o->(S i).slots.getD t dflt=m.slots.getD t dflt:=hag;have hlk:∀y,y∈o.op.operands.toList->∀t,y=.tmp t->(S i).slots.getD t dflt=m.slots.getD t dflt:=λ y hy t ht=>X4 t (aCS _ (KS hy ht));rcases hst with⟨hst,_⟩ | ⟨r0,hN,hk,hc0,heff⟩
  case inr =>
    unfold UQ at hk;simp only[J8]at hk;obtain⟨hg,hops,_⟩:=hk;rw[apB]at hops;rw[if_pos (uf hg)];refine ER ?_;have hb:(rec i).b=true:=hcond (by rw[hc0];rfl);have hsome:(rec i).bg.nw.isSome=true:=by rw[heff];rfl
    have hρ:∀y,y∈o.op.operands->rel E (aG m y) (a.eval y):=λ y hy=>by
      have hy':y∈o.op.operands.toList:=by simpa using hy
      exact iF (s:=m) (c:=[]) hJ.frame rfl y (by rw[<-lJ (hlk y hy')];exact hops y hy')
    have hNm:Bp T m (rec i).nk o=some (true,(rec i).bg.v,r0::(rec i).ex):=by
      rw[hb]at hN;rw[hnk,<-hN];exact(XY λ y hy=>lI (hlk y hy)).symm
    refine Rz (s:=m) hT hJ.frame.1.2 hJ.wd (λ k hk=>hx.aam hJ hlt hun' hsome (by simp at hk;omega)) hρ hNm (hx.awY ho' hi hun' hJ.shut hJ.wd.dom heff) λ E' u hle hO' hW' hrel=>?_;refine hK E' _ ⟨by rw[put_defers];exact hJ.defers,zY hx hi ho' (mG hle hJ.frame) (λ _=>hrel) (λ h=>by rw[hc0]at h;cases h),hW',λ r p hp hge=>?_,by simpa using hJ.size,z8 hi ho' jm hJ.shut⟩;rcases hO' r p hp with h |h
    . obtain⟨j,g1,g2,g3,g4⟩:=hJ.made r p h hge
      exact⟨j,g1,by rw[fA hi,g2];simp,g3,g4⟩
    . exact⟨i,hlt,by rw[fA hi];simp,⟨h.1,by have:=h.2;simp at this;omega⟩,hsome⟩
  unfold vI at hst;cases hc:tZ P T ops.toList (S i) o with
  |some q =>
    obtain⟨b,c,v⟩:=q;rw[hc]at hst;simp only[jN,EU]at hst;obtain⟨eb,ec,ED⟩:=hst;have hrows:∀k,k∈Rx (S i) o->(S i).mem[k]?=m.mem[k]?:=λ k hk=>har k (by rw[<-ED];exact hk);have hcm:tZ P T ops.toList m o=some (b,c,v):=by rw[<-Uk X4 hrows];exact hc
    obtain⟨h1,h2⟩:=Jj (s:=m) (F:=sf.slots) hT.1 hJ.frame hJ.wd.rows hJ.wd.small hat hcm (λ ht=>by rw[eb];exact hcond (by rw[<-ec];exact ht));have hwr:(rec i).bg.wr=none:=by rw[<-ED]
    have hv:(rec i).bg.v=v:=by rw[<-ED]
    have next:∀(w':World) (u:Value),Below E.w.heap.size E.w w'->(qo sf.slots c=true->rel { E with w:=w' } v u)->(qo sf.slots c=false->u=undef)->K (a.put o.dst u) w':=by
      intro w' u hb h3 h4;obtain⟨hw1,hw2⟩:=hJ.wd.on hb;refine hK { E with w:=w' } _ ⟨by rw[put_defers];exact hJ.defers,zY hx hi ho' (mG hw2 hJ.frame) (by rw[<-ec,hv];exact h3) (by rw[<-ec];exact h4),by rw[NK hi hwr];exact hw1,λ r p hp hge=>?_,by simpa using hJ.size,z8 hi ho' jm hJ.shut⟩
      obtain⟨j,g1,g2,g3,g4⟩:=hJ.made r p hp hge;exact⟨j,g1,by rw[fA hi,g2];simp,g3,g4⟩
    rw[h1];cases ht:qo sf.slots c
    . rw[if_neg (by simp)]
      exact next E.w undef (Below.refl _ _) (λ h=>by rw[ht]at h;cases h) (λ _=>rfl)
    . rw[if_pos rfl]
      exact ER (OM (h2 ht) λ u w' hu hb=>next w' u hb (λ _=>hu) (λ h=>by rw[ht]at h;cases h))
  |none =>
    rw[hc]at hst;simp only at hst;cases hch:fV ops.toList (S i).slots o with
    |none=>rw[hch]at hst;cases hst
    |some c0 =>
    rw[hch]at hst;simp only at hst;cases hk:(OJ c0&&o.op.operands.toList.all (iB (S i).slots c0))
    . rw[hk]at hst;cases hst
    . rw[hk]at hst
      simp only[cond_true]at hst;simp only[J8]at hk;cases hw:VH P T (S i) (S i).mem.length o with
      |none=>rw[hw]at hst;cases hst
      |some q =>
        obtain⟨b,bg⟩:=q;rw[hw]at hst;simp only at hst;have hts:∀t,t∈jY ops.toList o->(S i).slots.getD t dflt=m.slots.getD t dflt:=λ t ht=>X4 t (aBd _ ht);cases hbare:lV o bg
        case true =>
          rw[hbare]at hst;simp only[cond_true,jN,EU]at hst;obtain⟨eb,ec,ED⟩:=hst;obtain⟨hn,awZ⟩:=Mt hbare;have hwr:(rec i).bg.wr=none:=by rw[<-ED];exact awZ
          have hnw:(rec i).bg.nw=none:=by rw[<-ED];exact hn
          have apC:fV ops.toList m.slots o=some c0:=by rw[<-uU hts];exact hch
          rw[jd (s:=m.slots) (F:=sf.slots) hJ.frame hat apC];have hdom:=hJ.wd.dom;cases ht:qo sf.slots c0
          . rw[if_neg (by simp)]
            refine hK E _ ⟨by rw[put_defers];exact hJ.defers,zY hx hi ho' hJ.frame (λ h=>by rw[<-ec,ht]at h;cases h) (λ _=>rfl),by rw[NK hi hwr];exact hJ.wd,λ r p hp hge=>?_,by simpa using hJ.size,z8 hi ho' jm hJ.shut⟩;obtain⟨j,g1,g2,g3,g4⟩:=hJ.made r p hp hge;exact⟨j,g1,by rw[fA hi,g2];simp,g3,g4⟩
          . rw[if_pos rfl]
            refine ER ?_;have hbt:b=true:=by rw[eb];exact hcond (by rw[<-ec];exact ht)
            subst hbt;have hwm:VH P T m (S i).mem.length o=some (true,bg):=NJ (λ f g hg=>(hT.2.2.2.2 f g hg).1) (λ y hy=>lI (hlk y hy)) hw (λ k hk'=>har k (by rw[<-ED];exact hk'));have hops:=hk.2;rw[apB]at hops
            have hρ:∀y,y∈o.op.operands->rel E (aG m y) (a.eval y):=λ y hy=>by
              have hy':y∈o.op.operands.toList:=by simpa using hy
              exact iF (s:=m) hJ.frame ht y (by rw[<-lJ (hlk y hy')];exact hops y hy')
            have hfresh:E.O sf.mem.length=none:=by
              cases hx':E.O sf.mem.length with
              |none=>rfl
              |some p =>
                have:=hdom _ p.1 p.2 hx';rw[sP]at this;exact absurd this (aBm _)
            refine Jk (s:=m) hT hJ.frame.1.2 hJ.wd hfresh hρ (agq (λ f g hg=>(hT.2.1 f g hg).2) hwm hn) (by rw[ED];exact hx.alE ho' hi hun' jm hJ.shut hdom (ER hnw)) λ E' u hle hO' hW' hrel=>?_;refine hK E' _ ⟨by rw[put_defers];exact hJ.defers,zY hx hi ho' (mG hle hJ.frame) (λ _=>by rw[<-ED];exact hrel) (λ h=>by rw[<-ec,ht]at h;cases h),hW',λ r p hp hge=>?_,by simpa using hJ.size,z8 hi ho' jm hJ.shut⟩;rcases hO' r p hp with h |h
            . obtain⟨j,g1,g2,g3,g4⟩:=hJ.made r p h hge
              exact⟨j,g1,by rw[fA hi,g2];simp,g3,g4⟩
            . have:=hW'.dom r p.1 p.2 hp
              rw[sP,h]at this;exact absurd this (aBm _)
        case false =>
        rw[hbare]at hst;simp only[cond_false,jN,EU]at hst;obtain⟨eb,ec,ED⟩:=hst;obtain⟨hbt,htr⟩:=Gs (F:=sf.slots) hch hk.1 (by rw[eb];exact hcond (by rw[<-ec];rfl)) λ t ht=>by rw[hat t ht,hts t ht]
        subst hbt;have apC:fV ops.toList m.slots o=some c0:=by rw[<-uU hts];exact hch
        rw[if_pos ((jd (s:=m.slots) (F:=sf.slots) hJ.frame hat apC).trans htr)];refine ER ?_;have hwm:VH P T m (S i).mem.length o=some (true,bg):=NJ (λ f g hg=>(hT.2.2.2.2 f g hg).1) (λ y hy=>lI (hlk y hy)) hw (λ k hk'=>har k (by rw[<-ED];exact hk'));have hops:=hk.2;rw[apB]at hops
        have hρ:∀y,y∈o.op.operands->rel E (aG m y) (a.eval y):=λ y hy=>by
          have hy':y∈o.op.operands.toList:=by simpa using hy
          exact iF (s:=m) hJ.frame htr y (by rw[<-lJ (hlk y hy')];exact hops y hy')
        have hdom:=hJ.wd.dom
        have finish:∀(nk:Nat),E.O nk=none->VH P T m nk o=some (true,bg)->((rec i).bg.nw=none\/nk=(rec i).nk)->((rec i).bg.nw=none->nk=sf.mem.length)->o.wp P a E.w K Q:=by
          intro nk hfresh haw hor hno;refine Jk (s:=m) hT hJ.frame.1.2 hJ.wd hfresh hρ haw (by rw[ED];exact hx.alE ho' hi hun' jm hJ.shut hdom hor) λ E' u hle hO' hW' hrel=>?_;refine hK E' _ ⟨by rw[put_defers];exact hJ.defers,zY hx hi ho' (mG hle hJ.frame) (λ _=>by rw[<-ED];exact hrel) (λ h=>by rw[<-ec]at h;cases h),hW',λ r p hp hge=>?_,by simpa using hJ.size,z8 hi ho' jm hJ.shut⟩;rcases hO' r p hp with h |h
          . obtain⟨j,g1,g2,g3,g4⟩:=hJ.made r p h hge
            exact⟨j,g1,by rw[fA hi,g2];simp,g3,g4⟩
          . cases hnw:(rec i).bg.nw with
            |none =>
              have:=hW'.dom r p.1 p.2 hp;rw[sP,h,hno hnw]at this;exact absurd this (aBm _)
            |some row =>
              refine⟨i,hlt,by rw[fA hi];simp,?_,by rw[hnw];rfl⟩;rcases hor with h' |h'
              . rw[hnw]at h';cases h'
              . rw[h,h'];exact⟨ao5 _,Nat.le_add_right _ _⟩
        cases hnw:(rec i).bg.nw with
        |none =>
          refine finish sf.mem.length ?_ (agq (λ f g hg=>(hT.2.1 f g hg).2) hwm (by rw[ED];exact hnw)) (ER hnw) (λ _=>rfl);cases hO:E.O sf.mem.length with
          |none=>rfl
          |some p =>
            have:=hdom _ p.1 p.2 hO;rw[sP]at this;exact absurd this (aBm _)
        |some row=>exact finish (rec i).nk (hx.aam hJ hlt hun' (by rw[hnw];rfl) (aAv _)) (by rw[hnk];exact hwm) (aaH rfl) (λ h=>by rw[hnw]at h;cases h)
theorem X5(hx:Lex P T ops.toList s0 sf S rec)(hsz:listed.size=ops.size)(hr:ayZ .any ops listed=[]):∀i,i<ops.size->listed.getD i false=true:=by
 intro i
 induction i using aD8 with
 |_ i ih =>
  intro hi;cases h:listed.getD i false
  .have:i∈ayZ .any ops listed:=mem_ready.2 ⟨by rw[qO (by omega)];exact h,ops[i],Array.getElem?_eq_getElem hi,λ e he hb=>by
    have hlt:=(kC hx.ok (j:=i) (oj:=ops[i]) (by simp[hi])).1 e he hb;exact ih e.on hlt (by omega)⟩
   rw[hr]at this;cases this
  .rfl
theorem NM{α:Type}{p q:α->Bool}:∀{l:List α} {x:α},(∀y,y∈l->q y=true->p y=true)->x∈l->p x=true->q x=false->l.countP q<l.countP p
 | [],_,_,hx,_,_=>by cases hx
 |y::l,x,h,hx,hp,hq=>by
  rw[aDz,aDz];have hle:l.countP q<=l.countP p:=List.countP_mono_left λ z hz=>h z (by simp[hz]);rcases List.mem_cons.1 hx with rfl |hx
  .rw[hp,hq];simp;omega
  .have ih:=NM (λ z hz=>h z (by simp[hz])) hx hp hq
   have hy:=h y (by simp);cases hqy:q y
   .simp;omega
   .rw[hy hqy];simp;omega
theorem auK(hT:Ao P T)(hx:Lex P T ops.toList s0 sf S rec)
  (hQ:∀E listed a,(∀i,i<ops.size->listed.getD i false=true)->JInv A0 R w0 ops s0 sf S rec E listed a->Q .normal a E.w) :
  ∀(fuel:Nat) (E:Env) (listed:Array Bool) (a:Act),JInv A0 R w0 ops s0 sf S rec E listed a->(av2 ops.size).countP (λ i=>!listed.getD i false)<=fuel->wpAny P .any ops Q fuel listed a E.w:=by
 intro fuel
 induction fuel with
 |zero =>
  intro E listed a hJ hc
  have hall:∀i,i<ops.size->listed.getD i false=true:=λ i hi=>by
   have:=List.countP_eq_zero.1 (Nat.le_zero.1 hc) i (ayA.2 hi);simpa using this
  refine⟨?_,hQ E listed a hall hJ⟩;cases hr:ayZ .any ops listed with
  |nil=>rfl
  |cons i l =>
   obtain⟨hun,o,ho,_⟩:=mem_ready.1 (show i∈ayZ .any ops listed by rw[hr];simp);have hi:i<ops.size:=(ayR.1 ho).1;rw[qO (by rw[hJ.size];exact hi),hall i hi]at hun;cases hun
 |succ fuel ih =>
  intro E listed a hJ hc;refine⟨λ hr=>hQ E listed a (X5 hx hJ.size hr) hJ,λ i hr=>apA hT hx hJ hr λ E' a' hJ'=>ih E' _ a' hJ' ?_⟩;obtain⟨hun,o,ho,_⟩:=mem_ready.1 hr;have hi:i<ops.size:=(ayR.1 ho).1;have hil:i<listed.size:=by rw[hJ.size];exact hi
  have hlt:=NM (p:=λ j=>!listed.getD j false) (q:=λ j=>!(listed.setIfInBounds i true).getD j false) (l:=av2 ops.size) (x:=i)
   (λ y _ hy=>by
    rw[fA hil]at hy;simp only[az0,ahD]at hy ⊢;exact hy.2) (ayA.2 hi) (by rw[<-qO hil,hun];rfl) (by rw[fA hil];simp)
  omega
theorem abW(hT:Ao P T)(hm:P.follows .mixedOrders=true){s sf:St}{id:Nat}(hI:Inv A0 R w0 E s a)(hD:drawn P T ops.toList s=some sf)(hQ:∀E' a',Inv A0 R w0 E' (G6 sf) a'->Q .normal a' E'.w):(Code.region id ops true).wp P Q a E.w:=by
 obtain⟨S,rec,hx⟩:=apx hD
 have hno:∀i,(ayH ops.size false).getD i false=false:=λ i=>by
  simp only[ay0,Array.getElem?_replicate];split<;>rfl
 have hw0:∀t,wrB ops.toList (ayH ops.size false) t=false:=λ t=>by
  cases h:wrB ops.toList (ayH ops.size false) t
  .rfl
  .obtain⟨i,o,_,_,hl⟩:=x9.1 h
   rw[hno]at hl;cases hl
 have ax5:s.mem.length<=sf.mem.length:=by
  have:=hx.Qo (i:=0) (by omega)
  rwa [hx.first]at this
 refine wp_region_any hm ?_;obtain⟨hwd,hle⟩:=hI.wd.on (w':=E.w.drew) (Below.refl _ _).drew;refine auK (E:={ E with w:=E.w.drew }) (A0:=A0) (R:=R) (w0:=w0) hT hx ?_ ops.size _ a ?_ ?_
 .intro E' listed a' hall hJ
  refine hQ E' a' ?_
  have hmem:wH ops.toList.length sf S rec listed=sf.mem:=by
   apply List.ext_getElem?;intro r;by_cases hr:r<sf.mem.length
   .rw[hx.qc hr]
    unfold rowAt;rw[ags λ k hk=>hall k (by simpa using hk)]
   .rw[ayE (by rw[sP];omega),ayE (by omega)]
  have hfr:Bo E' sf.slots sf.slots a'.tmps:=by
   refine⟨⟨by rw[hJ.frame.1.1];simp[sO,hx.sN],hJ.frame.1.2⟩,λ t=>?_⟩;have:=hJ.frame.2 t;rw[wI hx.sN]at this;cases h:wrB ops.toList listed t
   .rw[h,cond_false,<-hx.never λ i o hi=>?_]at this
    .exact this
    .cases h':writes o t
     .rfl
     .have hi2:i<ops.size:=by have:=(aj8.1 hi).1;simpa using this
      have:=x9.2 ⟨i,o,hi,h',hall i hi2⟩;rw[h]at this;cases this
   .rw[h,cond_true]at this;exact this
  exact⟨hJ.defers,Jt hfr _,by have:=hJ.wd;rw[hmem]at this;exact this⟩
 .refine⟨hI.defers,?_,?_,λ r p hp hge=>?_,by simp,λ i o _ hl=>by rw[hno]at hl;cases hl⟩
  .refine⟨⟨by rw[hI.frame.1.1];simp[sO],H6 hle hI.frame.1.2⟩,λ t=>?_⟩
   rw[wI hx.sN,hw0,cond_false];have:=hI.frame.2 t;rw[hx.clear t]at this ⊢;exact⟨λ h=>mM hle (this.1 rfl),λ h=>by cases h⟩
  .have hrow:∀r,r<s.mem.length->(wH ops.toList.length sf S rec (ayH ops.size false))[r]?=s.mem[r]?:=λ r hr=>by
    have h0:(S 0).mem=s.mem:=by rw[hx.first]
    rw[hx.qc (by omega)];unfold rowAt;split
    .rename_i w hw
     obtain⟨h1,h2,_,h4⟩:=AX hw
     have:=hx.zX r 0 (by rw[h0];exact hr) w (by omega) (λ k _ g2=>by
      cases hk:(rec k).C8 r
      .rfl
      .have:=h4 k (by omega) hk
       rw[hno]at this;cases this)
     rw[avB,h0]at this;exact this
    .rename_i hw
     have hnw:∀k,0<=k->k<ops.toList.length->(rec k).C8 r=false:=λ k _ g2=>by
      cases hk:(rec k).C8 r
      .rfl
      .have:=FY hw k g2 hk
       rw[hno]at this;cases this
     rw[hx.Qp (i:=0) (by omega) (by rw[h0];exact hr) hnw,h0]
   have hdom:=hI.wd.dom
   have hlive:∀k b c,E.O k=some (b,c)->aK (wH ops.toList.length sf S rec (ayH ops.size false)) k=aK s.mem k:=λ k b c hb=>by
    unfold aK;rw[hrow k (hdom k b c hb)]
   refine⟨λ k b c hb=>?_,hwd.small,hwd.old,λ k b c hb hl=>?_,λ k k' b c c' hb hb' hl hl'=>?_,hwd.below,hwd.CY⟩
   .obtain⟨row,h1,h2⟩:=hwd.rows k b c hb
    exact⟨row,by rw[hrow k (hdom k b c hb)];exact h1,h2⟩
   .exact hwd.own k b c hb (by rw[<-hlive k b c hb];exact hl)
   .exact hwd.one k k' b c c' hb hb' (by rw[<-hlive k b c hb];exact hl) (by rw[<-hlive k' b c' hb'];exact hl')
  .have:=hI.wd.dom r p.1 p.2 hp
   omega
 .exact Nat.le_trans List.countP_le_length (by simp)
end
end
noncomputable section
theorem abX{P:Program}{T:Tab}{ops:List Oper}{s:St}{nk:Nat}{o:Oper}{g:(AV->Option Out)->Option Out}{k:AV->Option Out}{r:Out}{c:Chain}(hT:LG T)(hC:VI P T s o=some g)(hch:fV ops s.slots o=some c)
  (hc:(o.op.operands.toList.all (iB s.slots c)&&jQ s.slots c o.dst)=true) (h:g k=some r) :
  ∃v,k v=some r/\(∀k',g k'=k' v)/\vI P T.flat ops s nk o=some (true,c,⟨v,[],none,none⟩):=by
 unfold VI at hC;split at hC
 .rename_i cl hop
  split at hC
  .cases hC
  .rename_i hnb
   split at hC
   .rename_i f args Br
    split at hC
    .rename_i g' hg
     cases hno:bZ args
     .rw[hno]at hC;cases hC
     .rw[hno]at hC
      simp only[cond_true,jN]at hC;subst hC;obtain⟨v,h1,h2⟩:=hT f g' hg args _ r h;simp only[J8]at hc;obtain⟨hops,_⟩:=hc;refine⟨v,h1,h2,?_⟩
      have hTf:T.flat.f f args=some v:=by
       simp only[Tab.flat,hg];rw[h2];rfl
      have hval:LH P T.flat s o=some (true,v):=by
       unfold LH;rw[hop];simp only;split
       .rename_i hbi;exact absurd hbi (hnb _)
       .rename_i hbi;exact absurd hbi (hnb _)
       .rename_i hbi;exact absurd hbi (hnb _)
       .rename_i hbi;exact absurd hbi (hnb _)
       .rename_i hbi;exact absurd hbi (hnb _)
       .rename_i hbi;exact absurd hbi (hnb _)
       .rw[Br];simp only[hno,cond_true,hTf,Option.map_some]
      have adE:tZ P T.flat ops s o=some (true,c,v):=by
       unfold tZ;simp only[hch];split
       .rename_i g x y hop';rw[hop]at hop';cases hop'
       .rw[hops,hval];rfl
      unfold vI;rw[adE];simp only[Rx,hop]
    .cases hC
   .cases hC
 .cases hC
def yD(P:Program)(T:Tab)(ops:List Oper):List Oper->St->List Rec->(St->List Rec->Option Out)->Option Out
 | [],s,acc,k=>k s acc
 |o::rest,s,acc,k=>match Bp T s s.mem.length o with
  |some (b,v,r0::ex)=>cond (UQ s o) (yD P T ops rest (Ht s o.dst [] ⟨v,[],none,some r0⟩ ex) (acc++[⟨s.mem.length,b,[],⟨v,[],none,some r0⟩,ex⟩]) k) none
  |some (_,_,[])=>none
  |none=>match VI P T s o with
  |some g=>match fV ops s.slots o with
   |some c=>cond (o.op.operands.toList.all (iB s.slots c)&&jQ s.slots c o.dst) (g λ v=>yD P T ops rest { s with slots:=ow s.slots o.dst (v,c) } (acc++[⟨s.mem.length,true,c,⟨v,[],none,none⟩,[]⟩]) k) none
   |none=>none
  |none=>match vI P T.flat ops s s.mem.length o with
   |some (b,c,bg)=>cond (jQ s.slots c o.dst&&bg.rd.all (λ r=>afC r s.mem.length)) (yD P T ops rest (zm s o.dst c bg) (acc++[⟨s.mem.length,b,c,bg,[]⟩]) k) none
   |none=>none
theorem yc{P:Program}{T:Tab}{ops:List Oper}{r:Out}(hT:LG T):∀{l:List Oper} {s:St} {acc:List Rec} {k:St->List Rec->Option Out},yD P T ops l s acc k=some r ->
  ∃s' recs,KZ P T.flat ops l s=some (s',recs)/\k s' (acc++recs)=some r/\∀k',yD P T ops l s acc k'=k' s' (acc++recs)
 | [],s,acc,k,h=>⟨s,[],rfl,by simpa[yD]using h,λ k'=>by simp[yD]⟩
 |o::rest,s,acc,k,h=>by
  simp only[yD]at h;have hf:Bp T.flat s s.mem.length o=Bp T s s.mem.length o:=rfl;cases hN:Bp T s s.mem.length o with
  |some q =>
   obtain⟨b,v,rows⟩:=q;cases rows with
   |nil=>rw[hN]at h;cases h
   |cons r0 ex =>
    rw[hN]at h;simp only at h;cases hk:UQ s o
    .rw[hk]at h;cases h
    .rw[hk]at h
     simp only[cond_true]at h;obtain⟨s',recs,h1,h2,h3⟩:=yc hT h;refine⟨s',⟨s.mem.length,b,[],⟨v,[],none,some r0⟩,ex⟩::recs,?_,by simpa using h2,λ k'=>?_⟩
     .simp only[KZ,hf,hN,hk,cond_true,h1]
     .simp only[yD,hN,hk,cond_true]
      rw[h3];simp
  |none =>
  rw[hN]at h;simp only at h;cases hC:VI P T s o with
  |none =>
   rw[hC]at h;simp only at h;cases hd:vI P T.flat ops s s.mem.length o with
   |none=>rw[hd]at h;cases h
   |some p =>
    obtain⟨b,c,bg⟩:=p;rw[hd]at h;simp only at h;cases hk:(jQ s.slots c o.dst&&bg.rd.all (λ r=>afC r s.mem.length))
    .rw[hk]at h;cases h
    .rw[hk]at h
     simp only[cond_true]at h;obtain⟨s',recs,h1,h2,h3⟩:=yc hT h;refine⟨s',⟨s.mem.length,b,c,bg,[]⟩::recs,?_,by simpa using h2,λ k'=>?_⟩
     .simp only[KZ,hf,hN,hd,hk,cond_true,h1]
     .simp only[yD,hN,hC,hd,hk,cond_true]
      rw[h3];simp
  |some g =>
   rw[hC]at h;simp only at h;cases hch:fV ops s.slots o with
   |none=>rw[hch]at h;cases h
   |some c =>
   rw[hch]at h;simp only at h;cases hc:(o.op.operands.toList.all (iB s.slots c)&&jQ s.slots c o.dst)
   .rw[hc]at h;cases h
   .rw[hc]at h
    simp only[cond_true]at h;obtain⟨v,h1,h2,h3⟩:=abX (ops:=ops) (nk:=s.mem.length) hT hC hch hc h;obtain⟨s',recs,h4,h5,h6⟩:=yc hT h1;have hd:jQ s.slots c o.dst=true:=by simp only[J8]at hc;exact hc.2
    refine⟨s',⟨s.mem.length,true,c,⟨v,[],none,none⟩,[]⟩::recs,?_,by simpa using h5,λ k'=>?_⟩
    .have e:zm s o.dst c ⟨v,[],none,none⟩={ s with slots:=ow s.slots o.dst (v,c) }:=by simp[zm,Eff.mem]
     simp only[KZ,hf,hN,h3,hd,List.all_nil,aEn,cond_true,e,h4]
    .simp only[yD,hN,hC,hch]
     rw[hc];simp only[cond_true];rw[h2,h6];simp
def lZ(P:Program)(T:Tab)(ops:List Oper)(s:St)(k:SK):Option Out :=
 cond (uF ops s.slots.length&&(AU ops (jH ops [])&&s.slots.all (λ q=>q.2.isEmpty))) (yD P T ops ops s [] λ sf recs =>
  cond (KY (jH ops []) recs) (cond (recs.all (λ r=>r.b||!qo sf.slots r.c)) (k sf) none) none) none
theorem GU{P:Program}{T:Tab}{ops:List Oper}{s:St}{k:SK}{r:Out}(hT:LG T)(h:lZ P T ops s k=some r):∃s',drawn P T.flat ops s=some s'/\k s'=some r/\∀k',lZ P T ops s k'=k' s':=by
 unfold lZ at h;cases hc:(uF ops s.slots.length&&(AU ops (jH ops [])&&s.slots.all (λ q=>q.2.isEmpty)))
 .rw[hc]at h;cases h
 .rw[hc]at h
  simp only[cond_true]at h;obtain⟨sf,recs,h1,h2,h3⟩:=yc hT h;simp only[List.nil_append]at h2 h3;cases hr:KY (jH ops []) recs
  .rw[hr]at h2;cases h2
  .rw[hr]at h2
   simp only[cond_true]at h2;cases ha:recs.all (λ r=>r.b||!qo sf.slots r.c)
   .rw[ha]at h2;cases h2
   .rw[ha]at h2
    simp only[cond_true]at h2;refine⟨sf,?_,h2,λ k'=>?_⟩
    .unfold drawn;rw[hc];simp only[cond_true,h1,hr,ha,aEn]
    .unfold lZ;rw[hc];simp only[cond_true];rw[h3,hr,ha];rfl
theorem iJ{P:Program}{T:Tab}(hT:Ao P T)(hm:P.follows .mixedOrders=true):DOk P (lZ P T):=by
 classical
 refine⟨λ ops s k r h=>?_,λ A0 R w0 E s s' a id ops Q hI h hQ=>?_⟩
 .obtain⟨s',_,h2,h3⟩:=GU hT.par h
  exact⟨s',h2,h3⟩
 .obtain⟨s2,h4,_,h3⟩:=GU (r:=Out.of .any) (k:=λ _=>some (Out.of .any)) hT.par (h _)
  have e:s2=s':=by
   have h5:=h3 λ x=>if x=s' then some (Out.of .any)else none
   rw[h]at h5;simp only[if_true]at h5;by_cases e:s2=s'
   .exact e
   .rw[if_neg e]at h5;cases h5
  subst e;exact abW hT.flat hm hI h4 hQ
structure Entry where
 f:Nat
 g:List AV->Option AV
structure aV where
 f:Nat
 g:agv
def GN:List Entry->Nat->List AV->Option AV
 | [],_,_=>none
 |e::l,f,args=>cond (ax0 e.f f) (match e.g args with
  |some r=>some r
  |none=>GN l f args) (GN l f args)
def Kk:List aV->Nat->Option agv
 | [],_=>none
 |e::l,f=>cond (ax0 e.f f) (some e.g) (Kk l f)
structure fQ where
 f:Nat
 g:adH
 n:Option adI
def Tg:List fQ->Nat->Option adH
 | [],_=>none
 |e::l,f=>cond (ax0 e.f f) (some e.g) (Tg l f)
def Ti:List fQ->Nat->Option adI
 | [],_=>none
 |e::l,f=>cond (ax0 e.f f) e.n (Ti l f)
def afi(l:List Entry)(ks:List aV)(ms:List fQ):Tab:=⟨GN l,Kk ks,Tg ms,Ti ms,λ _=>none,λ _=>none⟩
def tab(l:List Entry)(ks:List aV):Tab:=⟨GN l,Kk ks,λ _=>none,λ _=>none,λ _=>none,λ _=>none⟩
def lg(P:Program)(e:Entry):Prop:=∀args r,e.g args=some r->aj P e.f args r\/EF P e.f args r
def tO(P:Program)(e:aV):Prop:=aij e.g/\agw P e.f e.g
theorem Py{P:Program}{l:List Entry}{ks:List aV}{m:Nat->Option adH}{n:Nat->Option adI}{w:Nat->Option aa0}{r:Nat->Option VY}(hl:∀e,e∈l->lg P e)(hk:∀e,e∈ks->tO P e):ain P ⟨GN l,Kk ks,m,n,w,r⟩:=by
 constructor
 .intro f args r h
  have:∀(l:List Entry),(∀e,e∈l->lg P e)->GN l f args=some r->aj P f args r\/EF P f args r:=by
   intro l
   induction l with
   |nil=>intro _ h;cases h
   |cons e l ih =>
    intro hl h;simp only[GN]at h;cases hb:ax0 e.f f
    .rw[hb]at h;exact ih (λ e' he'=>hl e' (by simp[he'])) h
    .rw[hb]at h
     simp only[cond_true]at h;have e1:=axO hb;subst e1;split at h
     .rename_i r' hr
      cases h;exact hl e (by simp) args r hr
     .exact ih (λ e' he'=>hl e' (by simp[he'])) h
  exact this l hl h
 .intro f g h
  have:∀(ks:List aV),(∀e,e∈ks->tO P e)->Kk ks f=some g->aij g/\agw P f g:=by
   intro ks
   induction ks with
   |nil=>intro _ h;cases h
   |cons e l ih =>
    intro hl h';simp only[Kk]at h';cases hb:ax0 e.f f
    .rw[hb]at h';exact ih (λ e' he'=>hl e' (by simp[he'])) h'
    .rw[hb]at h'
     simp only[cond_true,jN]at h';have e1:=axO hb;rw[<-h',<-e1];exact hl e (by simp)
  exact this ks hk h
theorem Kr{P:Program}{l:List Entry}{ks:List aV}(hl:∀e,e∈l->lg P e)(hk:∀e,e∈ks->tO P e):Ao P (tab l ks):=⟨Py hl hk,λ _ _ h=>(by cases h),λ _ _ h=>(by cases h),λ _ _ h=>(by cases h),λ _ _ h=>(by cases h)⟩
def vU(P:Program)(e:fQ):Prop:=MOk P e.f e.g/\∀g,e.n=some g->NOk P e.f g
theorem qN{P:Program}{l:List Entry}{ks:List aV}{ms:List fQ}(hl:∀e,e∈l->lg P e)(hk:∀e,e∈ks->tO P e)(hm:∀e,e∈ms->vU P e):Ao P (afi l ks ms):=by
 refine⟨Py hl hk,λ f g h=>?_,λ f g h=>?_,λ _ _ h=>(by cases h),λ _ _ h=>(by cases h)⟩
 .have:∀(ms:List fQ),(∀e,e∈ms->vU P e)->Tg ms f=some g->MOk P f g:=by
   intro ms
   induction ms with
   |nil=>intro _ h;cases h
   |cons e l ih =>
    intro hm h';simp only[Tg]at h';cases hb:ax0 e.f f
    .rw[hb]at h';exact ih (λ e' he'=>hm e' (by simp[he'])) h'
    .rw[hb]at h'
     simp only[cond_true,jN]at h';have e1:=axO hb;rw[<-h',<-e1];exact(hm e (by simp)).1
  exact this ms hm h
 .have:∀(ms:List fQ),(∀e,e∈ms->vU P e)->Ti ms f=some g->NOk P f g:=by
   intro ms
   induction ms with
   |nil=>intro _ h;cases h
   |cons e l ih =>
    intro hm h';simp only[Ti]at h';cases hb:ax0 e.f f
    .rw[hb]at h';exact ih (λ e' he'=>hm e' (by simp[he'])) h'
    .rw[hb]at h'
     simp only[cond_true]at h';have e1:=axO hb;rw[<-e1];exact(hm e (by simp)).2 g h'
  exact this ms hm h
def ev(P:Program)(l:List Entry)(ks:List aV)(L:Nat->Option dN)(fn:Func)(args:List AV)(k:AV->Option Out):Option Out:=abody P (tab l ks) (lZ P (tab l ks)) L 40 fn args k
def ret:AV->Option Out:=λ v=>some (Out.of v)
def aM:Nat->Option dN:=λ _=>none
theorem aA{P:Program}{c:Code}:yN P aM c:=λ _ _ _ _ _ h=>by cases h
theorem Kt {P : Program} {l : List Entry} {ks : List aV} {L : Nat -> Option dN} (hl : ∀ e, e ∈ l -> lg P e) (hk : ∀ e, e ∈ ks -> tO P e) (hm : P.follows .mixedOrders = true) {f : Nat} {fn : Func} (hf : P.funcs[f]? = some fn) (hnm : (fn.name == "runtime.NumGoroutine") = false) {c : Code} (hb : fn.body = some c) (hL : yN P L c)
  {args:List AV} (hlen:aqE args.length fn.ntmps=true) {r:AV} (h:ev P l ks L fn args ret=some (Out.of r)):aj P f args r :=
 xg (Kr hl hk) (iJ (Kr hl hk) hm) 40 hf hnm hb hL hlen h
def inl(P:Program)(l:List Entry)(ks:List aV)(L:List AV->Nat->Option dN)(f:Nat)(fn:Func):aV:=⟨f,λ args k=>cond (aqE args.length fn.ntmps) (ev P l ks (L args) fn args k) none⟩
theorem anf {P : Program} {l : List Entry} {ks : List aV} {L : List AV -> Nat -> Option dN} (hl : ∀ e, e ∈ l -> lg P e) (hk : ∀ e, e ∈ ks -> tO P e) (hm : P.follows .mixedOrders = true) {f : Nat} {fn : Func} (hf : P.funcs[f]? = some fn) (hnm : (fn.name == "runtime.NumGoroutine") = false) {c : Code} (hb : fn.body = some c) (hL : ∀ args, yN P (L args) c) : tO P (inl P l ks L f fn) := by
 have hT:=Kr hl hk;have hD:=iJ hT hm
 have par:∀args k r,ev P l ks (L args) fn args k=some r->∃v,k v=some r/\∀k',ev P l ks (L args) fn args k'=k' v:=by
  intro args k r h;unfold ev abody at h ⊢;rw[hb]at h ⊢;simp only at h ⊢;obtain⟨e,s',h1,h2⟩:=aaU hT.par hD.1 40 c (hL args) _ _ _ h;cases e<;>simp only[aaW]at h1<;>first | (cases h1;done) |skip
  all_goals
   split at h1
   .rename_i v hv
    exact⟨v,h1,λ k'=>by rw[h2];simp only[aaW,hv]⟩
   .cases h1
 constructor
 .intro args k r h
  simp only[inl]at h ⊢;cases hn:aqE args.length fn.ntmps
  .rw[hn]at h;cases h
  .rw[hn]at h
   simp only[cond_true]at h ⊢;exact par args k r h
 .intro args v h
  simp only[inl]at h;have h1:=h ret;cases hn:aqE args.length fn.ntmps
  .rw[hn]at h1;cases h1
  .rw[hn]at h1
   exact ER (Kt hl hk hm hf hnm hb (hL args) hn h1)
end
noncomputable section
def EG(keep:List Nat)(σ:Nat->Option Nat):Nat->List (AV × Chain)->List (AV × Chain)
 |_,[]=>[]
 |i,q::qs=>(cond (keep.contains i) (match q.2 with
  | []=>jw σ q.1
  |_::_=>.any) .any,[])::EG keep σ (i+1) qs
def agx(σ:Nat->Option Nat):Row->Row
 |.c l=>.c (gP σ l)
 |.t e l=>.t e (gP σ l)
 |.z _ _ _ _ _=>.dead
 |r=>r
def keepR(τ:List (Option Nat))(mem:List Row):List (Option Nat)->List Row
 | []=>[]
 |none::os=>.dead::keepR τ mem os
 |some k::os=>agx (jR τ) (mem.getD k .dead)::keepR τ mem os
def gN(keep:List Nat)(τ:List (Option Nat))(s:St):St:=⟨EG keep (jR τ) 0 s.slots,keepR τ s.mem τ⟩
def jF(τ:List (Option Nat))(s:St):Bool:=distinct τ&&τ.all λ o=>match o with
 |some k=>afC k s.mem.length
 |none=>true
theorem AY{keep:List Nat}{σ:Nat->Option Nat}:∀(i:Nat) (l:List (AV × Chain)),Gt σ l (EG keep σ i l)
 |_,[]=>trivial
 |i,q::qs=>by
  refine⟨⟨rfl,?_⟩,AY (i+1) qs⟩;simp only;cases keep.contains i
  .exact ER rfl
  .simp only[cond_true]
   cases hq:q.2 with
   |nil=>exact aaH ⟨rfl,aaH (ER rfl)⟩
   |cons p c=>exact ER rfl
theorem qb{σ:Nat->Option Nat}:∀(l:List AV),(gP σ l).length=l.length
 | []=>by rw[gP]
 |x::xs=>by rw[gP,anE,anE,qb xs]
theorem sQ{σ:Nat->Option Nat}:∀(l:List AV),ug σ l (gP σ l)
 | []=>by rw[gP];trivial
 |x::xs=>by rw[gP];exact⟨aaH (ER rfl),sQ xs⟩
theorem wC{τ:List (Option Nat)}{mem:List Row}:∀(os:List (Option Nat)),(os.all λ o=>match o with |some k=>afC k mem.length |none=>true)=true->o8 τ mem os (keepR τ mem os)
 | [],_=>trivial
 |none::os,h=>⟨trivial,wC os (by simpa using h)⟩
 |some k::os,h=>by
  simp only[aB0,J8]at h;have hk:k<mem.length:=kJ h.1;refine⟨⟨mem[k],adv hk,?_⟩,wC os h.2⟩;have e:mem.getD k .dead=mem[k]:=by rw[amh,adv hk];rfl
  rw[e];cases hr:mem[k]with
  |c l=>exact aaH (ER ⟨l,gP (jR τ) l,rfl,rfl,sQ l⟩)
  |a e sz n el=>exact aaH (aaH (ER ⟨e,sz,n,el,el,rfl,rfl,λ _ _=>rfl⟩))
  |dead=>exact ER rfl
  |z x e sz n el=>exact ER rfl
  |t e l=>exact aaH (aaH (aaH (ER ⟨e,l,gP (jR τ) l,rfl,rfl,sQ l,qb l⟩)))
  |i s p e=>exact aaH (aaH (aaH (aaH ⟨s,p,e,rfl,rfl⟩)))
theorem aan{keep:List Nat}{τ:List (Option Nat)}{s:St}(h:jF τ s=true):Sub s (gN keep τ s):=by
 unfold jF at h;simp only[J8]at h;exact VO τ h.1 (AY 0 s.slots) (wC τ h.2)
def Tp(keep:List Nat)(τ:List (Option Nat)):jZ:=λ e s=>cond (jF τ s) (some ⟨e,gN keep τ s,.any⟩) none
def Xh(k:jZ):Prop:=∀e s o,k e s=some o->o.e=e/\Sub s o.s
theorem abt{P:Program}{T:Tab}{D:List Oper->St->SK->Option Out}{L:Nat->Option dN}{N:Nat}{c:Code}{s s':St}{e:Exit}{k:jZ}(hk:Xh k)(hT:Ao P T)(hD:DOk P D)(hL:yN P L c)(h:gT P T D L N c s k=some ⟨e,s',.any⟩):bF P c s e s':=λ A0 R w0 E a hp hI=>by
 refine Go.Code.wp_mono ?_ (Dx hp hT hD N c hL hI h);rintro e' a' w' ⟨E',s1,rfl,hI',he⟩;obtain⟨h1,h2⟩:=hk e' s1 _ he;obtain⟨E2,e2,h3⟩:=h2 A0 R w0 E' a' hp hI';exact⟨h1.symm,E2,e2,h3⟩
theorem Em(keep:List Nat)(τ:List (Option Nat)):Xh (Tp keep τ):=λ e s o h=>by
 unfold Tp at h;cases hf:jF τ s
 .rw[hf]at h;cases h
 .rw[hf]at h
  simp only[cond_true,jN]at h;subst h;exact⟨rfl,aan hf⟩
def fu(keep:List Nat)(τ:List (Option Nat)):jZ:=λ e s=>match e with
 |.normal=>Tp keep τ .normal s
 |_=>none
def Pb(keep:List Nat)(τ:List (Option Nat)):jZ:=λ e s=>match e with
 |.normal=>none
 |e=>Tp keep τ e s
theorem aT(keep:List Nat)(τ:List (Option Nat)):Xh (fu keep τ):=λ e s o h=>by
 unfold fu at h;cases e<;>simp only at h<;>first | (cases h;done) |exact Em keep τ _ s o h
theorem nR(keep:List Nat)(τ:List (Option Nat)):Xh (Pb keep τ):=λ e s o h=>by
 unfold Pb at h;cases e<;>simp only at h<;>first | (cases h;done) |exact Em keep τ _ s o h
def aao(row row':Row):Prop:=row'=row\/∃e sz n el sZ,row=.a e sz n el/\row'=.a e sz n sZ/\∀i,i<n->sZ i=el i
def rz:List Row->List Row->Prop
 | [],[]=>True
 |r::rs,r'::rs'=>aao r r'/\rz rs rs'
 |_,_=>False
theorem rz.get:∀{rs rs':List Row},rz rs rs'->∀k:Nat,(rs[k]?=none/\rs'[k]?=none)\/∃r r',rs[k]?=some r/\rs'[k]?=some r'/\aao r r'
 | [],[],_,k=>ER ⟨by simp,by simp⟩
 |r::rs,r'::rs',h,k=>by
  cases k with
  |zero=>exact aaH ⟨r,r',rfl,rfl,h.1⟩
  |succ k=>simpa using rz.get h.2 k
 | [],_::_,h,_=>h.elim
 |_::_,[],h,_=>h.elim
theorem zG{np:Nat}{sl:List (AV × Chain)}{mem mem':List Row}(h:rz mem mem'):iV np ⟨sl,mem⟩ ⟨sl,mem'⟩:=by
 intro A0 R w0 E a hp0 hI
 have lives:∀k,aK mem' k=aK mem k:=λ k=>by
  unfold aK;rcases h.get k with⟨h1,h2⟩ | ⟨r,r',h1,h2,h3⟩
  .rw[h1,h2]
  .rw[h1,h2]
   rcases h3 with rfl | ⟨e,sz,n,el,sZ,rfl,rfl,_⟩<;>rfl
 refine⟨E,rfl,hI.defers,hI.frame,⟨λ k b c hb=>?_,hI.wd.small,hI.wd.old,λ k b c hb hl=>hI.wd.own k b c hb (by rw[<-lives];exact hl),λ k k' b c c' hb hb' hl hl'=>hI.wd.one k k' b c c' hb hb' (by rw[<-lives];exact hl) (by rw[<-lives];exact hl'),hI.wd.below,hI.wd.CY⟩⟩;obtain⟨row,h1,h2⟩:=hI.wd.rows k b c hb;rcases h.get k with⟨g1,_⟩ | ⟨r,r',g1,g2,g3⟩
 .have:mem[k]?=some row:=h1
  rw[g1]at this;cases this
 .have:mem[k]?=some row:=h1
  rw[g1]at this;cases this;refine⟨r',g2,?_⟩;rcases g3 with rfl | ⟨e,sz,n,el,sZ,rfl,rfl,g4⟩
  .exact h2
  .obtain⟨cs,k1,k2,k3,k4,k5,k6⟩:=h2
   exact⟨cs,k1,k2,k3,k4,k5,λ i hi=>by rw[g4 i hi];exact k6 i hi⟩
def dG(fn:Func):Code:=fn.body.getD .skip
def au(fn:Func)(i:Nat):Code:=(bC (dG fn)).getD i .skip
def gD(P:Program)(l:List Entry)(ks:List aV)(L:Nat->Option dN)(c:Code)(s:St)(k:jZ):Option Out:=gT P (tab l ks) (lZ P (tab l ks)) L 40 c s k
def mkS(n:Nat)(l:List (Nat × AV))(mem:List Row):St:=⟨(av2 n).map λ i=>(match l.find? (λ p=>ax0 p.1 i)with
 |some p=>p.2
 |none=>.any,[]),mem⟩
end
noncomputable section
noncomputable def gate(p:Prop)(x:Option Out):Option Out:=open Classical in if p then x else none
theorem ah{p:Prop}{x:Option Out}(h:p):gate p x=x:=by unfold gate;rw[if_pos h]
theorem gY{p:Prop}{x:Option Out}{r:Out}(h:gate p x=some r):p/\x=some r:=by
 unfold gate at h;split at h
 .rename_i hp;exact⟨hp,h⟩
 .cases h
noncomputable def fE(keep:List Nat)(τ:List (Option Nat))(s0:St)(e:Exit)(sf:St):dN:=λ s k=>cond (jF τ s) (gate (Sub (gN keep τ s) s0) (k e sf)) none
theorem aR{P:Program}{c:Code}{keep:List Nat}{τ:List (Option Nat)}{s0 sf:St}{e:Exit}(h:bF P (.loop c) s0 e sf):gI P c (fE keep τ s0 e sf):=by
 have h1:=Ci h
 have get:∀{s:St} {k:jZ} {r:Out},fE keep τ s0 e sf s k=some r->Sub s s0/\k e sf=some r:=fun{s k r} hr=>by
  unfold fE at hr;cases hf:jF τ s
  .rw[hf]at hr;cases hr
  .rw[hf]at hr
   simp only[cond_true]at hr;obtain⟨h2,h3⟩:=gY hr;exact⟨(aan hf).trans h2,h3⟩
 have eq:∀{s:St} {k:jZ} {r:Out},fE keep τ s0 e sf s k=some r->∀k',fE keep τ s0 e sf s k'=k' e sf:=fun{s k r} hr k'=>by
  unfold fE at hr ⊢;cases hf:jF τ s
  .rw[hf]at hr;cases hr
  .rw[hf]at hr
   simp only[cond_true]at hr ⊢;rw[ah (gY hr).1]
 have eq1:∀{s:St} {k:jZ} {r:Out},fE keep τ s0 e sf s k=some r->∀k',told s0 e sf s k'=k' e sf:=fun{s k r} hr k'=>by
  unfold told;rw[if_pos (get hr).1]
 constructor
 .intro s k r hr
  exact⟨e,sf,(get hr).2,eq hr⟩
 .intro s s' e' hk
  have h0:=hk (λ e s=>some ⟨e,s,.any⟩);refine h1.2 s s' e' λ k'=>?_;rw[eq1 h0 k',<-eq h0 k'];exact hk k'
def gu(i:Nat)(g:dN):Nat->Option dN:=λ j=>cond (ax0 j i) (some g) none
theorem kT{P:Program}{c:Code}{i:Nat}{g:dN}(m:Nat)(hlen:(bC c).length=m)(h:∀j,j<m->jA ((bC c).getD j .skip)=some i->gI P ((bC c).getD j .skip) g):yN P (gu i g) c:=by
 intro c' hc i' g' hi hg;obtain⟨j,hj,rfl⟩:=List.mem_iff_getElem.1 hc;unfold gu at hg;cases hb:ax0 i' i
 .rw[hb]at hg;cases hg
 .rw[hb]at hg
  cases hg;have e1:=axO hb;subst e1;have e2:(bC c).getD j .skip=(bC c)[j]:=by rw[amh,adv hj];rfl
  have:=h j (by omega) (by rw[e2];exact hi);rw[e2]at this;exact this
noncomputable def Uq(f:Nat)(a:List AV)(r:AV):aV:=⟨f,λ args k=>gate (args=a) (k r)⟩
theorem uG{P:Program}{f:Nat}{a:List AV}{r:AV}(h:aj P f a r):tO P (Uq f a r):=by
 constructor
 .intro args k o ho
  obtain⟨h1,h2⟩:=gY ho;exact⟨r,h2,λ k'=>ah h1⟩
 .intro args v hv
  have h1:=hv λ x=>some (Out.of x);obtain⟨h2,h3⟩:=gY h1;simp only[jN,Out.of,Out.mk.injEq,true_and]at h3;rw[<-h3,h2];exact ER h
end
noncomputable section
def akc(σ:Nat->Option Nat):Option (Nat × Nat)->AV->AV
 |some (k,sz),x=>match x with
  |.x (.slice none 0 0)=>.fJ k sz 0 0
  |x=>jw σ x
 |none,x=>jw σ x
def agy:List (Nat × Nat × Nat)->Nat->Option (Nat × Nat)
 | [],_=>none
 |p::l,i=>cond (ax0 p.1 i) (some p.2) (agy l i)
def X6(keep:List Nat)(ji:List (Nat × Nat × Nat))(σ:Nat->Option Nat):Nat->List (AV × Chain)->List (AV × Chain)
 |_,[]=>[]
 |i,q::qs=>(cond (keep.contains i) (match q.2 with
  | []=>akc σ (agy ji i) q.1
  |_::_=>.any) .any,[])::X6 keep ji σ (i+1) qs
def Qq(τ:List (Option Nat))(mem:List Row)(nr:Row):List (Option Nat)->List Row
 | []=>[]
 |none::os=>nr::Qq τ mem nr os
 |some k::os=>agx (jR τ) (mem.getD k .dead)::Qq τ mem nr os
def auL(keep:List Nat)(ji:List (Nat × Nat × Nat))(nr:Row)(τ:List (Option Nat))(s:St):St:=⟨X6 keep ji (jR τ) 0 s.slots,Qq τ s.mem nr τ⟩
theorem Ur{σ:Nat->Option Nat}(o:Option (Nat × Nat))(x:AV):Mw σ x (akc σ o x):=by
 unfold akc;split
 .split
  .exact aaH (aaH ⟨rfl,_,_,rfl⟩)
  .exact aaH (ER rfl)
 .exact aaH (ER rfl)
theorem K4{keep:List Nat}{ji:List (Nat × Nat × Nat)}{σ:Nat->Option Nat}:∀(i:Nat) (l:List (AV × Chain)),Gt σ l (X6 keep ji σ i l)
 |_,[]=>trivial
 |i,q::qs=>by
  refine⟨⟨rfl,?_⟩,K4 (i+1) qs⟩;simp only;cases keep.contains i
  .exact ER rfl
  .simp only[cond_true]
   cases hq:q.2 with
   |nil=>exact aaH ⟨rfl,Ur _ _⟩
   |cons p c=>exact ER rfl
theorem CP{τ:List (Option Nat)}{mem:List Row}{nr:Row}:∀(os:List (Option Nat)),(os.all λ o=>match o with |some k=>afC k mem.length |none=>true)=true->o8 τ mem os (Qq τ mem nr os)
 | [],_=>trivial
 |none::os,h=>⟨trivial,CP os (by simpa using h)⟩
 |some k::os,h=>by
  simp only[aB0,J8]at h;have hk:k<mem.length:=kJ h.1;refine⟨⟨mem[k],adv hk,?_⟩,CP os h.2⟩;have e:mem.getD k .dead=mem[k]:=by rw[amh,adv hk];rfl
  rw[e];cases hr:mem[k]with
  |c l=>exact aaH (ER ⟨l,gP (jR τ) l,rfl,rfl,sQ l⟩)
  |a e sz n el=>exact aaH (aaH (ER ⟨e,sz,n,el,el,rfl,rfl,λ _ _=>rfl⟩))
  |dead=>exact ER rfl
  |z x e sz n el=>exact ER rfl
  |t e l=>exact aaH (aaH (aaH (ER ⟨e,l,gP (jR τ) l,rfl,rfl,sQ l,qb l⟩)))
  |i s p e=>exact aaH (aaH (aaH (aaH ⟨s,p,e,rfl,rfl⟩)))
theorem agz{keep:List Nat}{ji:List (Nat × Nat × Nat)}{nr:Row}{τ:List (Option Nat)}{s:St}(h:jF τ s=true):Sub s (auL keep ji nr τ s):=by
 unfold jF at h;simp only[J8]at h;exact VO τ h.1 (K4 0 s.slots) (CP τ h.2)
noncomputable def GD(keep:List Nat)(ji:List (Nat × Nat × Nat))(nr:Row)(τ:List (Option Nat))(s0:St)(e:Exit)(sf:St):dN:=λ s k=>cond (jF τ s) (gate (Sub (auL keep ji nr τ s) s0) (k e sf)) none
theorem Sq{P:Program}{c:Code}{keep:List Nat}{ji:List (Nat × Nat × Nat)}{nr:Row}{τ:List (Option Nat)}{s0 sf:St}{e:Exit}(h:bF P (.loop c) s0 e sf):gI P c (GD keep ji nr τ s0 e sf):=by
 have h1:=Ci h
 have get:∀{s:St} {k:jZ} {r:Out},GD keep ji nr τ s0 e sf s k=some r->Sub s s0/\k e sf=some r:=fun{s k r} hr=>by
  unfold GD at hr;cases hf:jF τ s
  .rw[hf]at hr;cases hr
  .rw[hf]at hr
   simp only[cond_true]at hr;obtain⟨h2,h3⟩:=gY hr;exact⟨(agz hf).trans h2,h3⟩
 have eq:∀{s:St} {k:jZ} {r:Out},GD keep ji nr τ s0 e sf s k=some r->∀k',GD keep ji nr τ s0 e sf s k'=k' e sf:=fun{s k r} hr k'=>by
  unfold GD at hr ⊢;cases hf:jF τ s
  .rw[hf]at hr;cases hr
  .rw[hf]at hr
   simp only[cond_true]at hr ⊢;rw[ah (gY hr).1]
 have eq1:∀{s:St} {k:jZ} {r:Out},GD keep ji nr τ s0 e sf s k=some r->∀k',told s0 e sf s k'=k' e sf:=fun{s k r} hr k'=>by
  unfold told;rw[if_pos (get hr).1]
 constructor
 .intro s k r hr
  exact⟨e,sf,(get hr).2,eq hr⟩
 .intro s s' e' hk
  have h0:=hk (λ e s=>some ⟨e,s,.any⟩);refine h1.2 s s' e' λ k'=>?_;rw[eq1 h0 k',<-eq h0 k'];exact hk k'
end
end Go.Gv
