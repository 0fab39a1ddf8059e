/- Texts, one behind the other. -/
import Derived.Test.YtdlhemnconimnaaGreatC3
import Derived.Test.YtdlhemnconimnaaGreatC2
import Derived.ProofKit
import Derived.OpenShut
import Derived.Test.YtdlhemnconimnaaGreatRows
open Array renaming append_empty->aHH,empty_append->aHa,getD_eq_getD_getElem?->aGZ,getElem?_eq_getElem->ayT,getElem?_eq_some_iff->aHP,replicate->aHB
open BitVec renaming ofInt->aIz,toNat_ofNat->aL8
open Bool renaming and_eq_true->CX,and_self->aJ9,false_eq_true->aFs,false_or->aJK,not_eq_true'->aIp,not_true->aH7,or_eq_false_iff->aKg,or_eq_true->aJL
open Go.Call renaming operands->apS
open Go.DataW renaming TrodAll->aIU,trod->aHO
open Go.Extern renaming find->aKO,findNext->aJM
open Go.Extern.MathSqrt renaming sqrt->aJa
open Go.Op renaming operands->Uh
open Go.Proofs.Tryz renaming f270->aM8,f285->aM9,f286->aNb,f294->aNa,func270->aLw,func274->aLv,func285->aLx,func286->aLz,func290->aLu,func294->aLy,prog->bO
open Go.Region renaming binds->avn,ready->aFj
open Go.Result renaming andThen_ok->uT
open Go.Sem renaming run_bind->QJ,run_pure->aax
open Go.World renaming cells?_some->aJo
open List renaming all_cons->aIk,all_eq_true->ab3,any_eq_true->aK6,countP_cons->aMW,drop_drop->aNw,drop_eq_nil_of_le->aJ1,find?_eq_none->aMD,getD_eq_getElem?_getD->Gd,getElem?_append_left->aiK,getElem?_append_right->aqb,getElem?_eq_getElem->Ga,getElem?_eq_none->apa,getElem?_eq_some_iff->abK,getElem?_map->aG1,getElem?_range->aJ8,getElem?_set->aKM,length->aMj,length_append->aiR,length_cons->aBz,length_map->aLf,length_range->aIq,map_congr_left->aCO,map_cons->aKE,map_nil->aK0,map_toArray->aJW,mem_append->aIm,mem_append_left->aH6,mem_append_right->aHt,mem_cons->aHJ,mem_iff_getElem->aKh,mem_iff_getElem?->aG7,mem_map_of_mem->aMh,mem_of_getElem?->ajw,mem_range->aHi,mem_zipIdx_iff_getElem?->aFW,range->aFB,replicate->aGe,take_append_drop->aLt
open Nat renaming add_sub_cancel_left->aLn,beq->amH,ble->apB,ble_eq_true_of_le->agl,blt->Tv,eq_of_beq_eq_true->aiL,le_of_ble_eq_true->Ou,le_of_lt->aHR,le_of_not_lt->aIE,le_refl->ND,le_trans->aa2,lor->aNv,lt_irrefl->aJj,lt_of_lt_of_le->anS,not_lt_zero->avm,strongRecOn->aHf,testBit->aIM,testBit_or->aMi,zero_add->ZO,zero_le->alz
open Option renaming bind_some->aH4,map_some->aaF
open Option.some renaming injEq->gU
open Or renaming inl->wV,inr->Gc
open Prod.mk renaming injEq->Ew
noncomputable section
namespace Go.Gv
open Go.RowKit Go.Ev
noncomputable section
theorem oJ{s1 s2:St}{y:Operand}(h:∀t,y=.tmp t->s1.slots.getD t dflt=s2.slots.getD t dflt):aI s1 y=aI s2 y:=by cases y<;>first |rfl | (simp only[aI];rw[h _ rfl])
theorem oK{s1 s2:St}{c:Chain}{y:Operand}(h:∀t,y=.tmp t->s1.slots.getD t dflt=s2.slots.getD t dflt):jB s1.slots c y=jB s2.slots c y:=by cases y<;>first |rfl | (simp only[jB];rw[h _ rfl])
def tmpsOf(xs:List Operand):List Nat:=xs.filterMap λ |.tmp t=>some t |_=>none
def looks(ops:List Oper)(o:Oper):List Nat:=tmpsOf o.op.operands.toList++mU ops o
theorem Qo{xs:List Operand}{y:Operand}{t:Nat}(e:y∈xs)(h:y=.tmp t):t∈tmpsOf xs:=by unfold tmpsOf;exact List.mem_filterMap.2 ⟨y,e,by rw[h]⟩
theorem zn{ops:List Oper}{s1 s2:St}{o:Oper}(h:∀t,t∈mU ops o->s1.slots.getD t dflt=s2.slots.getD t dflt):je ops s1.slots o=je ops s2.slots o:=by
 unfold je;cases l:o.guard with
 |none=>rfl
 |some gw =>
  obtain⟨j,e⟩:=gw;simp only;cases i:ops[j]? with
  |none=>rfl
  |some oj =>
   simp only;cases A:oj.dst with
   |none=>rfl
   |some d=>simp only;rw[h d (by simp[mU,l,i,A])]
theorem aiF{m1 m2:List Row}{x:AV}(h:∀k,k∈rowsOf x->m1[k]?=m2[k]?):aat m1 x=aat m2 x:=by cases x<;>simp only[aat]<;>first |rfl | (rw[h _ (by simp[rowsOf])])
theorem Q0{P:Program}{s1 s2:St}{c:Call}(h:∀y,y∈(Op.call c).operands.toList->aI s1 y=aI s2 y):tV P s1 c=tV P s2 c:=by
 have l:∀r m,c.callee=.invoke r m->aI s1 r=aI s2 r:=λ r m e=>h r (by simp[Uh,apS,e]);have hargs:c.args.toList.map (aI s1)=c.args.toList.map (aI s2):=aCO λ y j=>h y (by simp[Uh,apS];exact Gc (by simpa using j));unfold tV;rw[hargs];cases i:c.callee with
 |invoke r m=>simp only;rw[l r m i]
 |value f=>simp only;rw[h f (by simp[Uh,apS,i])]
 |builtin b=>rfl
theorem aao{P:Program}{T:Tab}{s1 s2:St}{o:Oper}(h:∀y,y∈o.op.operands.toList->aI s1 y=aI s2 y)(A:∀k,k∈Vf s1 o->s1.mem[k]?=s2.mem[k]?):FQ P T s1 o=FQ P T s2 o:=by
 obtain⟨dst,op,l,B,after,guard⟩:=o;cases op<;>simp only[FQ]<;>first |rfl |skip
 case move y=>rw[h y (by simp[Uh])]
 case assign y=>rw[h y (by simp[Uh])]
 case load t y =>
  rw[<-h y (by simp[Uh])];rw[aiF (m1:=s1.mem) (m2:=s2.mem) A]
 case fieldAddr t y f=>rw[h y (by simp[Uh])]
 case nilCheck y=>rw[h y (by simp[Uh])]
 case indexAddr t y z=>rw[h y (by simp[Uh]),h z (by simp[Uh])]
 case index t y z=>rw[h y (by simp[Uh]),h z (by simp[Uh])]
 case field t y f=>rw[h y (by simp[Uh])]
 case binOp op t y z t2=>rw[h y (by simp[Uh]),h z (by simp[Uh])]
 case unOp op t y=>rw[h y (by simp[Uh])]
 case convert a b y =>
  rw[<-h y (by simp[Uh])];split
  .rfl
  .exact abv λ k I J sub n G=>A k (by simp[Vf,G,rowsOf])
 case slice t y lo hi mx =>
  have e:∀z:Option Operand,(∀q,z=some q->q∈(Op.slice t y lo hi mx).operands.toList)->z.map (aI s1)=z.map (aI s2):=λ z C=>by
   cases z with
   |none=>rfl
   |some q=>simp only[aaF];rw[h q (C q rfl)]
  rw[h y (by simp[Uh]),e lo (λ q hq=>by simp[Uh,hq]),e hi (λ q hq=>by simp[Uh,hq]),e mx (λ q hq=>by simp[Uh,hq])]
 case build t ps =>
  congr 2;refine aCO λ p F=>?_;rw[h p.2 (by simp only[Uh];exact aMh F)]
 case makeFunc g a b =>
  have e1:a.toList.map (aI s1)=a.toList.map (aI s2):=aCO λ y j=>h y (by simp[Uh];exact wV (by simpa using j));have e2:b.toList.map (aI s1)=b.toList.map (aI s2):=aCO λ y j=>h y (by simp[Uh];exact Gc (by simpa using j));rw[e1,e2]
 case extract y i=>rw[h y (by simp[Uh])]
 case makeInterface t y=>rw[h y (by simp[Uh])]
 case typeAssert y a b ok=>rw[h y (by simp[Uh])]
 case call c =>
  have hargs:c.args.toList.map (aI s1)=c.args.toList.map (aI s2):=aCO λ y j=>h y (by simp[Uh,apS];exact Gc (by simpa using j));rw[Q0 (s1:=s1) (s2:=s2) h,hargs]
theorem adZ{P:Program}{T:Tab}{s1 s2:St}{o:Oper}(h:∀y,y∈o.op.operands.toList->aI s1 y=aI s2 y)(B:∀k,k∈Vf s1 o->s1.mem[k]?=s2.mem[k]?):QO P T s1 o=QO P T s2 o:=by
 unfold QO;rw[aao h B];split
 .rename_i c i
  have e:Lv T s1 c=Lv T s2 c:=by
   have hargs:c.args.toList.map (aI s1)=c.args.toList.map (aI s2):=aCO λ y l=>h y (by rw[i];simp[Uh,apS];exact Gc (by simpa using l));unfold Lv;split
   .rename_i r j C;have A:aI s1 r=aI s2 r:=h r (by rw[i];simp[Uh,apS,C]);rw[A,hargs]
   .rfl
  rw[e]
 .rfl
theorem Qp{α:Type}{p q:α->Bool}:∀{l:List α},(∀x,x∈l->p x=q x)->l.all p=l.all q
 | [],_=>rfl
 |x::l,h=>by simp only[aIk];rw[h x (by simp),Qp (λ y e=>h y (by simp[e]))]
theorem aap{P:Program}{T:Tab}{ops:List Oper}{s1 s2:St}{o:Oper}(h:∀t,t∈looks ops o->s1.slots.getD t dflt=s2.slots.getD t dflt)(G:∀k,k∈Vf s1 o->s1.mem[k]?=s2.mem[k]?) :
  yH P T ops s1 o=yH P T ops s2 o:=by
 have e:∀y,y∈o.op.operands.toList->∀t,y=.tmp t->s1.slots.getD t dflt=s2.slots.getD t dflt:=λ y j t A=>h t (aH6 _ (Qo j A));have l:∀t,t∈mU ops o->s1.slots.getD t dflt=s2.slots.getD t dflt:=λ t A=>h t (aHt _ A);unfold yH;rw[zn l];cases I:je ops s2.slots o with
 |none=>rfl
 |some c =>
  simp only;split
  .rename_i g x y i;have F:=e (.tmp g) (by rw[i];simp[Uh]);have C:=e x (by rw[i];simp[Uh]);have B:=e y (by rw[i];simp[Uh]);rw[oK F,oK C,oK B,oJ F,oJ C,oJ B]
  .rw[Qp (λ y j=>oK (e y j)),adZ (λ y j=>oJ (e y j)) G]
theorem WE{P:Program}{s1 s2:St}{t:TypeId}{p x:AV}{b:Bool}{I:Eff}(h:KX P s1 t p x=some (b,I))(G:∀k,k∈I.rd->s1.mem[k]?=s2.mem[k]?):KX P s2 t p x=some (b,I):=by
 unfold KX at h ⊢;split at h
 .rename_i A M;cases J:(xg x&&(x.cells.length==A.size))
  .rw[J]at h;cases h
  .rw[J]at h;simp only[aY]at h ⊢;split at h
   .rename_i k B;split at h
    .rename_i l i;cases j:apB (B+A.size) l.length
     .rw[j]at h;cases h
     .rw[j]at h;have C:=h;simp only[aY,gU,Ew]at h;have e:=G k (by rw[<-h.2];simp);rw[<-e,i];simp only[j];exact C
    .rename_i e1 l i;cases j:apB (B+A.size) l.length
     .rw[j]at h;cases h
     .rw[j]at h;have C:=h;simp only[aY,gU,Ew]at h;have e:=G k (by rw[<-h.2];simp);rw[<-e,i];simp only[j];exact C
    .cases h
   .rename_i k K q sub;split at h
    .rename_i e0 F n el i;cases j:((K==F)&&(cK x.cells&&apB (sub+A.size) (el q).length))
     .rw[j]at h;cases h
     .rw[j]at h;have C:=h;simp only[aY,gU,Ew]at h;have e:=G k (by rw[<-h.2];simp);rw[<-e,i];simp only[j];exact C
    .cases h
   .cases h
 .cases h
theorem Q5{P:Program}{s1 s2:St}{nk:Nat}{t:TypeId}{x y:AV}{b:Bool}{I:Eff}(h:vQ P s1 nk t x y=some (b,I))(X:∀k,k∈I.rd->s1.mem[k]?=s2.mem[k]?):vQ P s2 nk t x y=some (b,I):=by
 have h0:=h;unfold vQ at h ⊢;split at h
 .rename_i e hun;split at h
  .rename_i i hi;split at h
   .rename_i z hz;split at h
    .rename_i bb k n el j m K A B;cases Y:((z.cells.size==i.size)&&(Tv 0 i.bytes&&((K.all λ M=>M.all lZ)&&((K.all cK)&&!(k==some j)))))
     .rw[Y]at h;cases h
     .have W:=h;rw[Y]at W;simp only[aY,gU,Ew]at W;have G:I.rd=k.toList++[j]:=by rw[<-W.2]
      have U:F6 s2.mem e i.size x=some (bb,k,n,el):=by
       rw[<-A];unfold F6 at A ⊢;split at A
       .rfl
       .rename_i N J len;split at A
        .rename_i Z C n' uL F;cases l:((e==Z)&&((J==i.size)&&(C==i.size)))
         .rw[l]at A;cases A
         .rw[l]at A;simp only[aY,gU,Ew]at A;have:=X N (by rw[G,<-A.2.1];simp);rw[<-this,F];simp only[l]
        .cases A
       .cases A
      have O:LV s2.mem i.size y=some (j,m,K):=by
       rw[<-B];unfold LV at B ⊢;split at B
       .rename_i N J m';split at B
        .rename_i Z C n' uL F;cases l:((J==i.size)&&((C==i.size)&&Tv 0 m'))
         .rw[l]at B;cases B
         .rw[l]at B;simp only[aY,gU,Ew]at B;have:=X N (by rw[G,<-B.1];simp);rw[<-this,F];simp only[l]
        .cases B
       .cases B
      simp only[U,O];exact h
    .cases h
   .cases h
  .cases h
 .cases h
theorem Qq{P:Program}{s1 s2:St}{nk:Nat}{t:TypeId}{x y:AV}{b:Bool}{I:Eff}(h:rQ P s1 nk t x y=some (b,I))(Y:∀k,k∈I.rd->s1.mem[k]?=s2.mem[k]?):rQ P s2 nk t x y=some (b,I):=by
 have h0:=h;unfold rQ at h ⊢;split at h
 .rename_i e hun;split at h
  .rename_i i hi;split at h
   .rename_i z hz;split at h
    .rename_i k n el j m K A B;cases Z:((z.cells.size==i.size)&&(Tv 0 i.bytes&&((K.all λ M=>M.all lZ)&&((K.all cK)&&!(k==j)))))
     .rw[Z]at h;cases h
     .have X:=h;rw[Z]at X;simp only[aY,gU,Ew]at X;have G:I.rd=[k,j]:=by rw[<-X.2]
      have W:Zp s2.mem e i.size x=some (k,n,el):=by
       rw[<-A];unfold Zp at A ⊢;split at A
       .rename_i O J len;split at A
        .rename_i e' C N uL F;cases l:((e==e')&&((J==i.size)&&((C==i.size)&&((len==N)&&Tv 0 N))))
         .rw[l]at A;cases A
         .rw[l]at A;simp only[aY,gU,Ew]at A;have:=Y O (by rw[G,<-A.1];simp);rw[<-this,F];simp only[l]
        .cases A
       .cases A
      have U:LV s2.mem i.size y=some (j,m,K):=by
       rw[<-B];unfold LV at B ⊢;split at B
       .rename_i O J m';split at B
        .rename_i e' C N uL F;cases l:((J==i.size)&&((C==i.size)&&Tv 0 m'))
         .rw[l]at B;cases B
         .rw[l]at B;simp only[aY,gU,Ew]at B;have:=Y O (by rw[G,<-B.1];simp);rw[<-this,F];simp only[l]
        .cases B
       .cases B
      simp only[W,U];exact h
    .cases h
   .cases h
  .cases h
 .cases h
theorem Qr{P:Program}{s1 s2:St}{nk:Nat}{t:TypeId}{x:AV}{sz m:Nat}{A:Nat->List AV}{b:Bool}{B:Eff}(h:xM P s1 nk t x sz m A=some (b,B))(O:∀k,k∈B.rd->s1.mem[k]?=s2.mem[k]?):xM P s2 nk t x sz m A=some (b,B):=by
 have h0:=h;unfold xM at h ⊢;split at h
 .rename_i e N;split at h
  .rename_i i hi;split at h
   .rename_i z Z;split at h
    .rename_i W k n el j;cases I:((z.cells.size==i.size)&&(Tv 0 i.bytes&&(sz==i.size)))
     .rw[I]at h;cases h
     .have K:=h;rw[I]at K;simp only[aY,gU,Ew]at K;have F:B.rd=k.toList:=by rw[<-K.2]
      have J:F6 s2.mem e i.size x=some (W,k,n,el):=by
       rw[<-j];unfold F6 at j ⊢;split at j
       .rfl
       .rename_i M sz len;split at j
        .rename_i U C Y X G;cases l:((e==U)&&((sz==i.size)&&(C==i.size)))
         .rw[l]at j;cases j
         .rw[l]at j;simp only[aY,gU,Ew]at j;have:=O M (by rw[F,<-j.2.1];simp);rw[<-this,G];simp only[l]
        .cases j
       .cases j
      rw[I]at h;simp only[J];exact h
    .cases h
   .cases h
  .cases h
 .cases h
theorem aiG{P:Program}{s1 s2:St}{nk:Nat}{t:TypeId}{x y:AV}{b:Bool}{N:Eff}(h:cond (isZ s1.mem x) (rQ P s1 nk t x y) (vQ P s1 nk t x y)=some (b,N))(Z:∀k,k∈N.rd->s1.mem[k]?=s2.mem[k]?):isZ s2.mem x=isZ s1.mem x:=by
 have key:∀A C J len,x=.bQ A C J len->s1.mem[A]?=s2.mem[A]?:=λ A C J len G=>by
  subst G;cases Y:isZ s1.mem (.bQ A C J len)
  .rw[Y]at h;simp only[eU]at h;unfold vQ at h;split at h
   .split at h
    .rename_i i _;split at h
     .rename_i z _;split at h
      .rename_i bb k n el j m K e _;cases M:((z.cells.size==i.size)&&(Tv 0 i.bytes&&((K.all λ F=>F.all lZ)&&((K.all cK)&&!(k==some j)))))
       .rw[M]at h;cases h
       .rw[M]at h;simp only[aY,gU,Ew]at h;have I:N.rd=k.toList++[j]:=by rw[<-h.2]
        unfold F6 at e;split at e
        .rename_i G;cases G
        .rename_i k2 O len2 G;cases G;split at e
         .rename_i X B U uL W;cases l:((_==X)&&((C==i.size)&&(B==i.size)))
          .rw[l]at e;cases e
          .rw[l]at e;simp only[aY,gU,Ew]at e;exact Z A (by rw[I,<-e.2.1];simp)
         .cases e
        .cases e
      .cases h
     .cases h
    .cases h
   .cases h
  .rw[Y]at h;simp only[aY]at h;unfold rQ at h;split at h
   .split at h
    .rename_i i _;split at h
     .rename_i z _;split at h
      .rename_i k n el j m K e _;cases M:((z.cells.size==i.size)&&(Tv 0 i.bytes&&((K.all λ F=>F.all lZ)&&((K.all cK)&&!(k==j)))))
       .rw[M]at h;cases h
       .rw[M]at h;simp only[aY,gU,Ew]at h;have I:N.rd=[k,j]:=by rw[<-h.2]
        unfold Zp at e;split at e
        .rename_i k2 O len2 G;cases G;split at e
         .rename_i X B U uL W;cases l:((_==X)&&((C==i.size)&&((B==i.size)&&((len==U)&&Tv 0 U))))
          .rw[l]at e;cases e
          .rw[l]at e;simp only[aY,gU,Ew]at e;exact Z A (by rw[I,<-e.1];simp)
         .cases e
        .cases e
      .cases h
     .cases h
    .cases h
   .cases h
 unfold isZ;cases x<;>try rfl
 rename_i A C J len;simp only;rw[key A C J len rfl]
theorem Qs{P:Program}{s1 s2:St}{nk:Nat}{t:TypeId}{x y:AV}{b:Bool}{j:Eff}(h:xO P s1 nk t x y=some (b,j))(e:∀k,k∈j.rd->s1.mem[k]?=s2.mem[k]?):xO P s2 nk t x y=some (b,j):=by
 unfold xO at h ⊢;split at h
 .exact h
 .exact Qr h e
 .have i:isZ s2.mem x=isZ s1.mem x:=aiG h e;rw[i];cases l:isZ s1.mem x
  .rw[l]at h;exact Q5 h e
  .rw[l]at h;exact Qq h e
theorem aaq{P:Program}{s1 s2:St}{nk:Nat}{t t':TypeId}{x y:AV}{b:Bool}{e:Eff}(h:Al P s1 nk t t' x y=some (b,e))(j:∀k,k∈e.rd->s1.mem[k]?=s2.mem[k]?):Al P s2 nk t t' x y=some (b,e):=by
 unfold Al at h ⊢;cases i:t==t'
 .rw[i]at h;unfold DW at h;cases h
 .rw[i]at h;exact Qs h j
theorem aar{P:Program}{s1 s2:St}{i dst:TypeId}{x:AV}{b:Bool}{A:Eff}(h:SS P s1 i dst x=some (b,A))(C:∀k,k∈A.rd->s1.mem[k]?=s2.mem[k]?):SS P s2 i dst x=some (b,A):=by
 unfold SS at h ⊢;split at h
 .split at h
  .cases l:i==dst
   .rw[l]at h;cases h
   .rw[l]at h;simp only[aY]at h ⊢;split at h
    .rename_i k G I n;split at h
     .rename_i e2 B m el j;have e:A.rd=[k]:=by simp only[gU,Ew]at h;rw[<-h.2]
      rw[<-C k (by rw[e];simp),j];exact h
     .rename_i F e2 B m el j;have e:A.rd=[k]:=by simp only[gU,Ew]at h;rw[<-h.2]
      rw[<-C k (by rw[e];simp),j];exact h
     .cases h
    .cases h
  .cases h
 .cases h
theorem Tm{P:Program}{T:Tab}(W:∀f g,T.r f=some g->∀args F Y b v I,g args F=some (b,v,I)->(∀k,k∈I->F k=Y k)->g args Y=some (b,v,I)){s1 s2:St}{nk:Nat}{o:Oper}{b:Bool}{M:Eff}(h:∀y,y∈o.op.operands.toList->aI s1 y=aI s2 y)(i:awr P T s1 nk o=some (b,M))(G:∀k,k∈M.rd->s1.mem[k]?=s2.mem[k]?):awr P T s2 nk o=some (b,M):=by
 obtain⟨dst,op,N,Z,after,guard⟩:=o;cases op<;>simp only[awr]at i ⊢<;>first | (cases i;done) |skip
 case box t y=>rw[<-h y (by simp[Uh])];exact i
 case alloc t=>exact i
 case buildSlice t len ps =>
  have e:(ps.toList.map λ p=>(p.1,aI s1 p.2))=ps.toList.map λ p=>(p.1,aI s2 p.2):=aCO λ p hp=>by rw[h p.2 (by simp only[Uh];exact aMh hp)]
  rw[<-e];exact i
 case makeSlice t l c=>rw[<-h l (by simp[Uh]),<-h c (by simp[Uh])];exact i
 case store t p y =>
  cases U:dst with
  |some d=>rw[U]at i;cases i
  |none =>
   rw[U]at i;rw[<-h p (by simp[Uh]),<-h y (by simp[Uh])];exact WE i G
 case convert src dst y =>
  rw[<-h y (by simp[Uh])];exact aar i G
 case next it bb =>
  cases bb with
  |false=>cases i
  |true=>cases i
 case call c =>
  have hargs:c.args.toList.map (aI s1)=c.args.toList.map (aI s2):=aCO λ y hy=>h y (by simp[Uh,apS];exact Gc (by simpa using hy));rw[<-hargs];split at i
  .rename_i K;split at i
   .rename_i x y t O ha ht;exact aaq i G
   .cases i
  .rename_i K;split at i
   .rename_i x y t O ha ht;cases J:t==O
    .rw[J]at i;cases i
    .rw[J]at i;cases i
   .cases i
  .rename_i f K;cases A:T.r f with
   |some g =>
    simp only[A]at i ⊢;unfold KY at i ⊢;split at i
    .rename_i X v I B;cases j:iq v
     .rw[j]at i;cases i
     .rw[j]at i;simp only[aY,gU,Ew]at i;obtain⟨rfl,rfl⟩:=i;rw[W f g A _ _ _ _ _ _ B G];simp only[j,aY]
    .cases i
   |none =>
   simp only[A]at i ⊢;unfold VN at i ⊢;split at i
   .rename_i g hg;split at i
    .rename_i X Vi B;cases C:Vi.rd==aT (c.args.toList.map (aI s1))
     .rw[C]at i;cases i
     .rw[C]at i;simp only[aY,gU,Ew]at i;obtain⟨rfl,rfl⟩:=i;have e1:((aT (c.args.toList.map (aI s1))).map λ k=>s2.mem[k]?)=(aT (c.args.toList.map (aI s1))).map λ k=>s1.mem[k]?:=aCO λ k J=>(G k (by rw[Aw C];exact J)).symm;simp only[e1,B,C,aY]
    .cases i
   .cases i
  .rename_i t K;rw[<-h (.tmp t) (by simp[Uh,apS,K])];unfold adk at i ⊢;split at i
   .rename_i f bs hfo;cases A:T.r f with
    |none=>simp only[A]at i;cases i
    |some g =>
     simp only[A]at i ⊢;unfold KY at i ⊢;split at i
     .rename_i X v I B;cases j:iq v
      .rw[j]at i;cases i
      .rw[j]at i;simp only[aY,gU,Ew]at i;obtain⟨rfl,rfl⟩:=i;rw[W f g A _ _ _ _ _ _ B G];simp only[j,aY]
     .cases i
   .cases i
  .cases i
theorem ad1{T:Tab}{s1 s2:St}{nk:Nat}{o:Oper}(h:∀y,y∈o.op.operands.toList->aI s1 y=aI s2 y):Fj T s1 nk o=Fj T s2 nk o:=by
 unfold Fj;split
 .rename_i c i;have e:c.args.toList.map (aI s1)=c.args.toList.map (aI s2):=aCO λ y j=>h y (by rw[i];cases l:c.callee<;>simp[Uh,apS,l]<;>(try right)<;>simpa using j)
  rw[e]
 .rfl
theorem ao3{P:Program}{s:St}{nk F:Nat}{t t':TypeId}{x y:AV}{b:Bool}{G:Eff}(h:Al P s nk t t' x y=some (b,G))(B:G.nw=none):Al P s F t t' x y=some (b,G):=by
 unfold Al at h;cases l:t==t'
 .rw[l]at h;simp only[eU]at h;unfold DW at h;cases h
 .rw[l]at h;simp only[aY]at h;unfold xO at h;split at h
  .rename_i M J;have e:Al P s F t t' x (.x (.slice M 0 J))=JD P t x:=by unfold Al;rw[l];rfl
   rw[e];exact h
  .unfold xM at h;split at h
   .split at h
    .rename_i i _;split at h
     .rename_i z _;split at h
      .rename_i K k n el _;cases l:((z.cells.size==i.size)&&(Tv 0 i.bytes&&(_==i.size)))
       .rw[l]at h;cases h
       .rw[l]at h;simp only[aY,gU,Ew]at h;rw[<-h.2]at B;cases B
      .cases h
     .cases h
    .cases h
   .cases h
  .rename_i N _ _;cases I:isZ s.mem x
   .rw[I]at h;simp only[eU]at h;unfold vQ at h;split at h
    .split at h
     .rename_i i _;split at h
      .rename_i z _;split at h
       .rename_i K k n el j m C _ _;cases l:((z.cells.size==i.size)&&(Tv 0 i.bytes&&((C.all λ A=>A.all lZ)&&((C.all cK)&&!(k==some j)))))
        .rw[l]at h;cases h
        .rw[l]at h;simp only[aY,gU,Ew]at h;rw[<-h.2]at B;cases B
       .cases h
      .cases h
     .cases h
    .cases h
   .rw[I]at h;simp only[aY]at h;unfold rQ at h;split at h
    .split at h
     .rename_i i _;split at h
      .rename_i z _;split at h
       .rename_i k n el j m C _ _;cases l:((z.cells.size==i.size)&&(Tv 0 i.bytes&&((C.all λ A=>A.all lZ)&&((C.all cK)&&!(k==j)))))
        .rw[l]at h;cases h
        .rw[l]at h;simp only[aY,gU,Ew]at h;rw[<-h.2]at B;cases B
       .cases h
      .cases h
     .cases h
    .cases h
theorem ao4{P:Program}{T:Tab}(W:∀f g,T.m f=some g->∀args C nk j b A,g args C nk=some (b,A)->A.nw=none->g args C j=some (b,A)){s:St}{nk j:Nat}{o:Oper}{b:Bool}{A:Eff}(h:awr P T s nk o=some (b,A))(e:A.nw=none):awr P T s j o=some (b,A):=by
 unfold awr at h ⊢;split at h
 .rename_i t x I;cases F:xg (aI s x)
  .rw[F]at h;cases h
  .rw[F]at h;simp only[aY,gU,Ew]at h;rw[<-h.2]at e;cases e
 .split at h
  .split at h
   .simp only[gU,Ew]at h;rw[<-h.2]at e;cases e
   .simp only[gU,Ew]at h;rw[<-h.2]at e;cases e
  .cases h
 .rename_i t len Y I;cases O:T.m (aeb t)with
  |some g=>simp only[O]at h ⊢;exact h
  |none =>
   simp only[O]at h;unfold MX at h;split at h
   .unfold VK at h;split at h
    .split at h
     .simp only[gU,Ew]at h;rw[<-h.2]at e;cases e
     .cases h
    .cases h
   .rename_i len _ _ _;unfold JE at h;split at h
    .split at h
     .rename_i B z _ _;cases F:(Tv 0 (len*B)&&apB (len*B) 16777216)
      .rw[F]at h;cases h
      .rw[F]at h;simp only[aY]at h;split at h
       .rename_i cells _;cases J:cK cells
        .rw[J]at h;cases h
        .rw[J]at h;simp only[aY,gU,Ew]at h;rw[<-h.2]at e;cases e
       .cases h
     .cases h
    .cases h
 .rename_i t l c I;unfold afN at h;split at h
  .split at h
   .rename_i i _;split at h
    .rename_i z _;cases F:(((z.cells.size==i.size)&&Tv 0 i.bytes)&&cK (z.cells.toList.map Dm))
     .rw[F]at h;cases h
     .rw[F]at h;simp only[aY,gU,Ew]at h;rw[<-h.2]at e;cases e
    .cases h
   .cases h
  .cases h
 .exact h
 .exact h
 .unfold VO at h;cases h
 .exact h
 .rename_i c I;split at h
  .have:∀(l:List AV) (M:List TypeId),(match l,M with
     | [x,y],[t,t']=>Al P s nk t t' x y
     |_,_=>none)=some (b,A)->(match l,M with
     | [x,y],[t,t']=>Al P s j t t' x y
     |_,_=>none)=some (b,A):=by
    intro l M h;split at h
    .exact ao3 h e
    .cases h
   exact this _ _ h
  .exact h
  .rename_i f _;cases K:T.r f with
   |some g =>
    simp only[K]at h ⊢;exact h
   |none =>
   simp only[K]at h ⊢;unfold VN at h ⊢;split at h
   .rename_i g U;split at h
    .rename_i Z X N;cases G:X.rd==aT (c.args.toList.map (aI s))
     .rw[G]at h;cases h
     .rw[G]at h;simp only[aY,gU,Ew]at h;obtain⟨rfl,rfl⟩:=h;simp only[W f g U _ _ _ j _ _ N e,G,aY]
    .cases h
   .cases h
  .exact h
  .cases h
 .cases h
end
noncomputable section
def EZ(o:Oper)(i:Nat):Bool:=o.after.toList.any λ e=>e.on==i&&avn .any e
def writes(o:Oper)(t:Nat):Bool:=o.dst==some t
def ad2(M:List Nat)(o:Oper):Nat:=o.after.toList.foldr (λ e m=>cond (avn .any e) (aNv (aNv (2 ^ e.on) (M.getD e.on 0)) m) m) 0
def lM:List Oper->List Nat->List Nat
 | [],M=>M
 |o::rest,M=>lM rest (M++[ad2 M o])
structure Rec where
 nk:Nat
 b:Bool
 c:Chain
 bT:Eff
 ex:List Row
def Rec.touch(p:Rec)(r:Nat):Bool:=p.bT.rd.contains r||(p.bT.nw.isSome&&(apB p.nk r&&apB r (p.nk+p.ex.length)))
def Rec.Hz(p:Rec)(r:Nat):Bool:=match p.bT.wr with
 |some (r',_)=>r'==r
 |none=>false
def yP(ops:List Oper)(len:Nat):Bool :=
 ops.zipIdx.all λ q =>
  (q.1.after.toList.all λ e=>!Region.binds .any e||Tv e.on q.2) &&
  ((match q.1.dst with |some d=>Tv d len&&ops.zipIdx.all (λ p=>!writes p.1 d||p.2==q.2) |none=>true) &&
  ((looks ops q.1).all (λ t=>ops.zipIdx.all λ p=>!writes p.1 t||((Tv p.2 q.2&&EZ q.1 p.2)||(Tv q.2 p.2&&EZ p.1 q.2))) &&
  (mU ops q.1).all (λ t=>ops.zipIdx.all λ p=>!writes p.1 t||Tv p.2 q.2)))
def E5(ops:List Oper)(M:List Nat):Bool:=ops.zipIdx.all λ q=>M.getD q.2 0==ad2 M q.1
def Qt(M:List Nat)(e:List Rec):Bool :=
 e.zipIdx.all λ q=>match q.1.bT.wr with
  |none=>true
  |some (r,_)=>q.1.bT.rd.contains r&&e.zipIdx.all λ p=>p.2==q.2||(!p.1.touch r||((Tv p.2 q.2&&aIM (M.getD q.2 0) p.2)||(Tv q.2 p.2&&aIM (M.getD p.2 0) q.2)))
def Mi(s:St)(dst:Option Nat)(c:Chain)(e:Eff)(h:List Row):St:=⟨uR s.slots dst (e.v,c),e.mem s.mem++h⟩
theorem ao5(s:St)(dst:Option Nat)(c:Chain)(e:Eff):Mi s dst c e []=Du s dst c e:=by unfold Mi Du;rw[List.append_nil]
def WG(P:Program)(T:Tab)(L:List Oper)(s:St)(o:Oper)(q:Rec):Prop :=(Ae P T L s s.mem.length o=some (q.b,q.c,q.bT)/\q.ex=[])\/(∃r0,Fj T s s.mem.length o=some (q.b,q.bT.v,r0::q.ex)/\nOk s o=true/\q.c=[]/\q.bT=⟨q.bT.v,[],none,some r0⟩)
def Qu(P:Program)(T:Tab)(ops:List Oper):List Oper->St->Option (St × List Rec)
 | [],s=>some (s,[])
 |o::rest,s=>match Fj T s s.mem.length o with
  |some (b,v,r0::ex)=>cond (nOk s o) (match Qu P T ops rest (Mi s o.dst [] ⟨v,[],none,some r0⟩ ex)with
   |some (s',recs)=>some (s',⟨s.mem.length,b,[],⟨v,[],none,some r0⟩,ex⟩::recs)
   |none=>none) none
  |some (_,_,[])=>none
  |none=>match Ae P T ops s s.mem.length o with
  |some (b,c,bT)=>cond (nD s.slots c o.dst&&bT.rd.all (λ r=>Tv r s.mem.length)) (match Qu P T ops rest (Du s o.dst c bT)with
   |some (s',recs)=>some (s',⟨s.mem.length,b,c,bT,[]⟩::recs)
   |none=>none) none
  |none=>none
def drawn(P:Program)(T:Tab)(ops:List Oper)(s:St):Option St :=
 cond (yP ops s.slots.length&&(E5 ops (lM ops [])&&s.slots.all (λ q=>q.2.isEmpty))) (match Qu P T ops ops s with
  |some (sf,recs)=>cond (Qt (lM ops []) recs&&recs.all (λ r=>r.b||!tF sf.slots r.c)) (some sf) none
  |none=>none) none
structure Lex(P:Program)(T:Tab)(L:List Oper)(s0 sf:St)(S:Nat->St)(rec:Nat->Rec):Prop where
 ok:yP L s0.slots.length=true
 masks:E5 L (lM L [])=true
 first:S 0=s0
 last:S L.length=sf
 step:∀k o,L[k]?=some o->WG P T L (S k) o (rec k)/\(rec k).nk=(S k).mem.length/\(∀r,r∈(rec k).bT.rd->r<(S k).mem.length)/\S (k+1)=Mi (S k) o.dst (rec k).c (rec k).bT (rec k).ex
 clear:∀t,(s0.slots.getD t dflt).2=[]
 conds:∀k,k<L.length->tF sf.slots (rec k).c=true->(rec k).b=true
 rows:∀k,k<L.length->∀r row,(rec k).bT.wr=some (r,row)->r∈(rec k).bT.rd/\∀i,i<L.length->i≠k->((rec i).touch r=true->(i<k/\aIM ((lM L []).getD k 0) i=true)\/(k<i/\aIM ((lM L []).getD i 0) k=true))
theorem L8{P:Program}{T:Tab}{L:List Oper}:∀{l:List Oper} {s sf:St} {e:List Rec},Qu P T L l s=some (sf,e)->e.length=l.length/\∃S:Nat->St,S 0=s/\S l.length=sf /\
  ∀k o,l[k]?=some o->∃q,e[k]?=some q/\WG P T L (S k) o q/\q.nk=(S k).mem.length/\(∀r,r∈q.bT.rd->r<(S k).mem.length)/\S (k+1)=Mi (S k) o.dst q.c q.bT q.ex
 | [],s,sf,e,h=>by simp only[Qu,gU,Ew]at h;obtain⟨rfl,rfl⟩:=h;exact⟨rfl,λ _=>s,rfl,rfl,λ k o i=>by simp at i⟩
 |o::l,s,sf,e,h=>by
  simp only[Qu]at h
  have fin:∀(q:Rec) (B:St),WG P T L s o q->q.nk=s.mem.length->(∀r,r∈q.bT.rd->r<s.mem.length)->B=Mi s o.dst q.c q.bT q.ex->(match Qu P T L l B with
    |some (J,e)=>some (J,q::e)
    |none=>none)=some (sf,e)->e.length=(o::l).length/\∃S:Nat->St,S 0=s/\S (o::l).length=sf /\
  ∀k A,(o::l)[k]?=some A->∃q,e[k]?=some q/\WG P T L (S k) A q/\q.nk=(S k).mem.length/\(∀r,r∈q.bT.rd->r<(S k).mem.length)/\S (k+1)=Mi (S k) A.dst q.c q.bT q.ex:=by
   intro q B hq K F C h;split at h
   .rename_i J aHc X;simp only[gU,Ew]at h;obtain⟨rfl,rfl⟩:=h;obtain⟨M,S,W,U,O⟩:=L8 X;refine⟨by simp[M],λ k=>match k with | 0=>s |k+1=>S k,rfl,U,λ k A j=>?_⟩
    cases k with
    |zero =>
     simp at j;subst j;exact⟨q,rfl,hq,K,F,W.trans C⟩
    |succ k=>exact O k A (by simpa using j)
   .cases h
  split at h
  .rename_i b v r0 Z N;cases i:nOk s o
   .rw[i]at h;cases h
   .rw[i]at h;simp only[aY]at h;exact fin ⟨s.mem.length,b,[],⟨v,[],none,some r0⟩,Z⟩ _ (Gc ⟨r0,N,i,rfl,rfl⟩) rfl (λ r G=>by cases G) rfl h
  .cases h
  .split at h
   .rename_i b c I Y;cases i:(nD s.slots c o.dst&&I.rd.all (λ r=>Tv r s.mem.length))
    .rw[i]at h;cases h
    .rw[i]at h;simp only[aY]at h;simp only[CX]at i;exact fin ⟨s.mem.length,b,c,I,[]⟩ _ (wV ⟨Y,rfl⟩) rfl (λ r G=>Ou ((ab3.1 i.2) r G)) (ao5 s o.dst c I).symm h
   .cases h
theorem nH{x y:Nat}(h:Tv x y=true):x<y:=Ou h
theorem aBa{P:Program}{T:Tab}{L:List Oper}{s sf:St}(h:drawn P T L s=some sf):∃S rec,Lex P T L s sf S rec:=by
 unfold drawn at h;cases F:(yP L s.slots.length&&(E5 L (lM L [])&&s.slots.all (λ q=>q.2.isEmpty)))
 .rw[F]at h;cases h
 .rw[F]at h;simp only[aY]at h;simp only[CX]at F;split at h
  .rename_i G j hd;cases I:(Qt (lM L []) j&&j.all (λ r=>r.b||!tF G.slots r.c))
   .rw[I]at h;cases h
   .rw[I]at h;simp only[aY,gU]at h;subst h;simp only[CX]at I;obtain⟨hl,S,h1,h2,h3⟩:=L8 hd;let l:Rec:=⟨0,false,[],⟨.any,[],none,none⟩,[]⟩
    have A:∀k,k<L.length->j[k]?=some (j.getD k l):=λ k F=>by rw[Gd,Ga (by omega)];rfl
    refine⟨S,λ k=>j.getD k l,F.1,F.2.1,h1,h2,λ k o ho=>?_,λ t=>?_,λ k C M=>?_,λ k C r row Z=>?_⟩
    .obtain⟨q,K,g2,g3,g4,g5⟩:=h3 k o ho;have e:j.getD k l=q:=by rw[Gd,K];rfl
     rw[e];exact⟨g2,g3,g4,g5⟩
    .rw[Gd];cases hq:s.slots[t]? with
     |none=>rfl
     |some q =>
      have:=(ab3.1 F.2.2) q (ajw hq);simpa using this
    .have:=(ab3.1 I.2) _ (ajw (A k C));have O:tF G.slots (j.getD k l).c=true:=M;rw[O]at this;simpa using this
    .have B:=I.1;unfold Qt at B;have X:=(ab3.1 B) (j.getD k l,k) (aFW.2 (A k C));have N:(j.getD k l).bT.wr=some (r,row):=Z;simp only[N,CX]at X;refine⟨by simpa using X.1,λ i hi U=>?_⟩;have Y:=(ab3.1 X.2) (j.getD i l,i) (aFW.2 (A i hi));have J:(i==k)=false:=by simpa using U
     simp only[J,aJK,CX,aIp,aJL]at Y;intro M;rcases Y with W |W
     .rw[W]at M;cases M
     .rcases W with⟨K,g2⟩ | ⟨K,g2⟩
      .exact wV ⟨nH K,g2⟩
      .exact Gc ⟨nH K,g2⟩
  .cases h
theorem nA{L:List Oper}{len:Nat}(h:yP L len=true){j:Nat}{oj:Oper}(O:L[j]?=some oj) :
  (∀e,e∈oj.after->avn .any e=true->e.on<j)/\(∀d,oj.dst=some d->d<len/\∀(i:Nat) (l:Oper),L[i]?=some l->writes l d=true->i=j) /\
  (∀t,t∈looks L oj->∀(i:Nat) (l:Oper),L[i]?=some l->writes l t=true->(i<j/\EZ oj i=true)\/(j<i/\EZ l j=true)) /\
  (∀t,t∈mU L oj->∀(i:Nat) (l:Oper),L[i]?=some l->writes l t=true->i<j):=by
 unfold yP at h;rw[ab3]at h;have hq:=h (oj,j) (aFW.2 O);simp only[CX]at hq;obtain⟨N,G,M,K⟩:=hq;have mem:∀{i:Nat} {l:Oper},L[i]?=some l->(l,i)∈L.zipIdx:=λ hi=>aFW.2 hi;refine⟨λ e U X=>?_,λ d W=>?_,λ t I i l hi A=>?_,λ t I i l hi A=>?_⟩
 .rw[ab3]at N;have:=N e (by simpa using U);rw[X]at this;exact nH (by simpa using this)
 .rw[W]at G;simp only[CX]at G;refine⟨nH G.1,λ i l hi A=>?_⟩;have F:=G.2;rw[ab3]at F;have:=F (l,i) (mem hi);simp only[A]at this;simpa using this
 .rw[ab3]at M;have C:=M t I;rw[ab3]at C;have:=C (l,i) (mem hi);simp only[A,aH7,aJK,aJL,CX]at this;rcases this with⟨h,J⟩ | ⟨h,J⟩
  .exact wV ⟨nH h,J⟩
  .exact Gc ⟨nH h,J⟩
 .rw[ab3]at K;have B:=K t I;rw[ab3]at B;have:=B (l,i) (mem hi);simp only[A,aH7,aJK]at this;exact nH this
theorem xW{o:Oper}{i:Nat}{listed:Array Bool}(h:EZ o i=true)(ha:∀e,e∈o.after->avn .any e=true->listed.getD e.on false=true):listed.getD i false=true:=by
 unfold EZ at h;rw[aK6]at h;obtain⟨e,l,j⟩:=h;simp only[CX]at j;have:e.on=i:=by simpa using j.1
 rw[<-this];exact ha e (by simpa using l) j.2
theorem Qv{M:List Nat}{i:Nat}:∀(l:List Edge),aIM (l.foldr (λ e m=>cond (avn .any e) (aNv (aNv (2 ^ e.on) (M.getD e.on 0)) m) m) 0) i=true->∃e,e∈l/\avn .any e=true/\(e.on=i\/aIM (M.getD e.on 0) i=true)
 | [],h=>by simp at h
 |e::l,h=>by
  simp only[List.foldr_cons]at h;cases A:avn .any e
  .rw[A]at h;obtain⟨F,C,B⟩:=Qv l h;exact⟨F,by simp[C],B⟩
  .rw[A]at h;simp only[aY]at h;have j:aIM ((2 ^ e.on |||M.getD e.on 0) |||_) i=true:=h;rw[aMi,aMi,Nat.testBit_two_pow]at j;simp only[aJL,UM]at j;rcases j with(j |j) |j
   .exact⟨e,by simp,A,wV j⟩
   .exact⟨e,by simp,A,Gc j⟩
   .obtain⟨F,C,B⟩:=Qv l j;exact⟨F,by simp[C],B⟩
theorem D7{L:List Oper}{len:Nat}(hs:yP L len=true)(K:E5 L (lM L [])=true){listed:Array Bool}
  (G:∀(j:Nat) (oj:Oper),L[j]?=some oj->listed.getD j false=true->∀e,e∈oj.after->avn .any e=true->listed.getD e.on false=true) :
  ∀(k:Nat) (o:Oper),L[k]?=some o->(∀e,e∈o.after->avn .any e=true->listed.getD e.on false=true)->∀i,aIM ((lM L []).getD k 0) i=true->listed.getD i false=true:=by
 intro k
 induction k using aHf with
 |_ k J =>
  intro o B I i hi;have O:=(ab3.1 K) (o,k) (aFW.2 B);have N:(lM L []).getD k 0=ad2 (lM L []) o:=by simpa using O
  rw[N]at hi;obtain⟨e,M,F,hor⟩:=Qv _ hi;have A:e∈o.after:=by simpa using M
  have C:=I e A F;rcases hor with rfl |hor
  .exact C
  .have l:=(nA hs B).1 e A F;have h:e.on<L.length:=Nat.lt_trans l (abK.1 B).1;exact J e.on l L[e.on] (Ga h) (G e.on _ (Ga h) C) i hor
section
variable{P:Program}{T:Tab}{L:List Oper}{s0 sf:St}{S:Nat->St}{rec:Nat->Rec}
theorem Lex.puts(e:Lex P T L s0 sf S rec){k:Nat}{o:Oper}(h:L[k]?=some o):(S (k+1)).slots=uR (S k).slots o.dst ((rec k).bT.v,(rec k).c):=by rw[(e.step k o h).2.2.2];rfl
theorem Lex.length(e:Lex P T L s0 sf S rec):∀k,k<=L.length->(S k).slots.length=s0.slots.length
 | 0,_=>by rw[e.first]
 |k+1,hk=>by have h:=Lex.length e k (by omega);have i:L[k]?=some L[k]:=Ga (by omega);rw[e.puts i];cases j:L[k].dst<;>simp[uR,h]
theorem Lex.stays(l:Lex P T L s0 sf S rec)(t i:Nat):∀n,i+n<=L.length->(∀(k:Nat) (o:Oper),L[k]?=some o->i<=k->k<i+n->writes o t=false)->(S (i+n)).slots.getD t dflt=(S i).slots.getD t dflt
 | 0,_,_=>rfl
 |n+1,hn,hw=>by
  have B:=Lex.stays l t i n (by omega) (λ k o C G I=>hw k o C G (by omega));have j:i+n<L.length:=by omega
  have A:L[i+n]?=some L[i+n]:=Ga j;have h:=hw (i+n) _ A (by omega) (by omega);rw[<-B];show(S (i+n+1)).slots.getD t dflt=_;rw[l.puts A];cases F:L[i+n].dst with
  |none=>rfl
  |some d =>
   simp only[uR];rw[JA,fP];intro⟨e,_⟩;rw[writes,F,e]at h;simp at h
theorem Lex.uniq(h:Lex P T L s0 sf S rec){i j t:Nat}{e oj:Oper}(hi:L[i]?=some e)(l:L[j]?=some oj)(C:writes e t=true)(B:writes oj t=true):i=j:=by
 have A:oj.dst=some t:=by simpa[writes]using B
 exact((nA h.ok l).2.1 t A).2 i e hi C
theorem Lex.before(e:Lex P T L s0 sf S rec){t k:Nat}(j:k<=L.length)(h:∀(i:Nat) (o:Oper),L[i]?=some o->i<k->writes o t=false):(S k).slots.getD t dflt=s0.slots.getD t dflt:=by have:=e.stays t 0 k (by omega) (λ i o hi _ l=>h i o hi (by omega));rw[ZO,e.first]at this;exact this
theorem Lex.behind(e:Lex P T L s0 sf S rec){t k i:Nat}{o:Oper}(F:k<=L.length)(hi:L[i]?=some o)(A:writes o t=true)(C:i<k):(S k).slots.getD t dflt=sf.slots.getD t dflt:=by
 have:=e.stays t k (L.length - k) (by omega) (λ j l B G _=>by
  cases h:writes l t
  .rfl
  .have:=e.uniq hi B A h;omega)
 rw[show k+(L.length - k)=L.length by omega,e.last]at this;exact this.symm
theorem Lex.never(e:Lex P T L s0 sf S rec){t:Nat}(h:∀(i:Nat) (o:Oper),L[i]?=some o->writes o t=false):sf.slots.getD t dflt=s0.slots.getD t dflt:=by have:=e.before (ND _) (λ i o hi _=>h i o hi) (t:=t);rw[e.last]at this;exact this
theorem Lex.xX(e:Lex P T L s0 sf S rec):sf.slots.length=s0.slots.length:=by
 have:=e.length L.length (ND _)
 rwa [e.last]at this
theorem Lex.WH(e:Lex P T L s0 sf S rec){k:Nat}(h:k<L.length):(S (k+1)).mem.length=(S k).mem.length+(rec k).bT.nw.toList.length+(rec k).ex.length:=by
 rw[(e.step k L[k] (Ga h)).2.2.2];simp only[Mi,Eff.mem];cases(rec k).bT.wr with
 |none=>simp;omega
 |some p=>simp;omega
theorem Lex.BM(e:Lex P T L s0 sf S rec)(i:Nat):∀n,i+n<=L.length->(S i).mem.length<=(S (i+n)).mem.length
 | 0,_=>ND _
 |n+1,hn=>by have h:=Lex.BM e i n (by omega);have:=e.WH (k:=i+n) (by omega);rw[show i+(n+1)=i+n+1 by omega];omega
theorem Lex.D8(j:Lex P T L s0 sf S rec)(r i:Nat)(B:r<(S i).mem.length):∀n,i+n<=L.length->(∀k,i<=k->k<i+n->(rec k).Hz r=false)->(S (i+n)).mem[r]?=(S i).mem[r]?
 | 0,_,_=>rfl
 |n+1,hn,hw=>by
  have A:=Lex.D8 j r i B n (by omega) (λ k F I=>hw k F (by omega));have l:i+n<L.length:=by omega
  have h:=hw (i+n) (by omega) (by omega);have hmono:=j.BM i n (by omega);rw[<-A];show(S (i+n+1)).mem[r]?=_;rw[(j.step (i+n) L[i+n] (Ga l)).2.2.2];simp only[Mi,Eff.mem];cases C:(rec (i+n)).bT.wr with
  |none=>simp only;rw[aiK (by simp;omega),aiK (by omega)]
  |some p =>
   obtain⟨G,row⟩:=p;simp only;rw[aiK (by simp;omega),aiK (by simp;omega),aKM,fP];intro e;unfold Rec.Hz at h;rw[C,e]at h;simp at h
end
end
noncomputable section
def wrB(ops:List Oper)(listed:Array Bool)(t:Nat):Bool:=ops.zipIdx.any λ p=>writes p.1 t&&listed.getD p.2 false
def xY(ops:List Oper)(s0 sf:St)(listed:Array Bool):List (AV × Chain):=(aFB s0.slots.length).map λ t=>cond (wrB ops listed t) (sf.slots.getD t dflt) (s0.slots.getD t dflt)
def rowAt(n:Nat)(sf:St)(S:Nat->St)(rec:Nat->Rec)(listed:Array Bool)(r:Nat):Option Row:=match(aFB n).find? (λ k=>(rec k).Hz r&&!listed.getD k false)with
 |some w=>(S w).mem[r]?
 |none=>sf.mem[r]?
def Au(n:Nat)(sf:St)(S:Nat->St)(rec:Nat->Rec)(listed:Array Bool):List Row:=(aFB sf.mem.length).map λ r=>(rowAt n sf S rec listed r).getD .dead
theorem iK{listed:Array Bool}{i j:Nat}(hi:i<listed.size):(listed.setIfInBounds i true).getD j false=(decide (i=j)||listed.getD j false):=by
 simp only[aGZ,Array.getElem?_setIfInBounds];by_cases h:i=j
 .subst h;simp[hi]
 .simp[h]
theorem BN{L:List Oper}{listed:Array Bool}{t:Nat}:wrB L listed t=true↔∃(i:Nat) (o:Oper),L[i]?=some o/\writes o t=true/\listed.getD i false=true:=by
 unfold wrB;rw[aK6];constructor
 .rintro⟨⟨o,i⟩,hm,h⟩;simp only[CX]at h;exact⟨i,o,aFW.1 hm,h⟩
 .rintro⟨i,o,h1,h2,h3⟩;exact⟨(o,i),aFW.2 h1,by simp only[CX];exact⟨h2,h3⟩⟩
theorem agd{L:List Oper}{listed:Array Bool}{i t:Nat}{o:Oper}(hi:i<listed.size)(e:L[i]?=some o):wrB L (listed.setIfInBounds i true) t=(writes o t||wrB L listed t):=by
 rw[Bool.eq_iff_iff,aJL,BN,BN];constructor
 .rintro⟨j,oj,hj,hw,hl⟩;rw[iK hi]at hl;by_cases h:i=j
  .subst h;rw[e]at hj;cases hj;exact wV hw
  .exact Gc ⟨j,oj,hj,hw,by simpa[h]using hl⟩
 .rintro(h | ⟨j,oj,hj,hw,hl⟩)
  .exact⟨i,o,e,h,by rw[iK hi];simp⟩
  .exact⟨j,oj,hj,hw,by rw[iK hi,hl];simp⟩
theorem vU{listed:Array Bool}{i:Nat}(h:i<listed.size):listed.getD i true=listed.getD i false:=by simp[aGZ,h]
section
variable{P:Program}{T:Tab}{L:List Oper}{s0 sf:St}{S:Nat->St}{rec:Nat->Rec}{listed:Array Bool}
theorem Av(h:sf.slots.length=s0.slots.length)(listed:Array Bool)(t:Nat):(xY L s0 sf listed).getD t dflt=cond (wrB L listed t) (sf.slots.getD t dflt) (s0.slots.getD t dflt):=by
 simp only[xY,Gd,aG1];by_cases e:t<s0.slots.length
 .simp[e]
 .rw[apa (by simpa using aIE e),apa (by omega),apa (by omega)];cases wrB L listed t<;>rfl
theorem Lex.agree(G:Lex P T L s0 sf S rec){i:Nat}{o:Oper}(hi:L[i]?=some o)(I:listed.getD i false=false)(O:∀e,e∈o.after->avn .any e=true->listed.getD e.on false=true)
  (N:∀(j:Nat) (oj:Oper),L[j]?=some oj->listed.getD j false=true->∀e,e∈oj.after->avn .any e=true->listed.getD e.on false=true) :
  ∀t,t∈looks L o->(S i).slots.getD t dflt=(xY L s0 sf listed).getD t dflt:=by
 intro t U;have C:i<L.length:=(abK.1 hi).1;rw[Av G.xX];have B:=(nA G.ok hi).2.2.1 t U;cases A:wrB L listed t
 .rw[eU];refine G.before (aHR C) λ j oj l F=>?_;cases h:writes oj t
  .rfl
  .rcases B j oj l h with⟨_,J⟩ | ⟨M,_⟩
   .have:=BN.2 ⟨j,oj,l,h,xW J O⟩;rw[A]at this;cases this
   .omega
 .rw[aY];obtain⟨j,oj,l,K,W⟩:=BN.1 A;rcases B j oj l K with⟨F,_⟩ | ⟨_,J⟩
  .exact G.behind (aHR C) l K F
  .have:=xW J (N j oj l W);rw[I]at this;cases this
theorem Lex.ad3(A:Lex P T L s0 sf S rec){i:Nat}{o:Oper}(hi:L[i]?=some o)(K:∀e,e∈o.after->avn .any e=true->listed.getD e.on false=true) :
  ∀t,t∈mU L o->(sf.slots.getD t dflt).1=((xY L s0 sf listed).getD t dflt).1:=by
 intro t I;rw[Av A.xX];have F:=(nA A.ok hi).2.2.1 t (aHt _ I);have C:=(nA A.ok hi).2.2.2 t I;cases B:wrB L listed t
 .rw[eU];rw[A.never λ j l G=>?_];cases h:writes l t
  .rfl
  .rcases F j l G h with⟨_,M⟩ | ⟨J,_⟩
   .have:=BN.2 ⟨j,l,G,h,xW M K⟩;rw[B]at this;cases this
   .have:=C j l G h;omega
 .rw[aY]
theorem D9(j:Lex P T L s0 sf S rec){E:Env}{a:Act}{i:Nat}{o:Oper}{u:Value}(hi:i<listed.size)(l:L[i]?=some o)(h:AB E sf.slots (xY L s0 sf listed) a.tmps)
  (M:tF sf.slots (rec i).c=true->rel E (rec i).bT.v u) (K:tF sf.slots (rec i).c=false->u=undef):AB E sf.slots (xY L s0 sf (listed.setIfInBounds i true)) (a.put o.dst u).tmps:=by
 have I:i<L.length:=(abK.1 l).1;cases A:o.dst with
 |none =>
  have:xY L s0 sf (listed.setIfInBounds i true)=xY L s0 sf listed:=by simp only[xY];refine aCO λ t _=>?_;rw[agd hi l];simp[writes,A]
  rw[this];exact h
 |some d =>
  have B:=((nA j.ok l).2.1 d A).1
  have G:sf.slots.getD d dflt=((rec i).bT.v,(rec i).c):=by have J:=j.behind (k:=i+1) (by omega) l (show writes o d=true by simp[writes,A]) (by omega);rw[<-J,j.puts l,A];simp only[uR];rw[JA,gH ⟨rfl,by rw[j.length i (by omega)];exact B⟩]
  refine⟨⟨?_,h.1.2⟩,λ t=>?_⟩
  .have:=h.1.1;simp only[Act.put,Array.size_setIfInBounds,this,xY,aLf]
  .rw[Av j.xX,agd hi l];simp only[Act.put];rw[Zo];have hf:=h.2 t;rw[Av j.xX]at hf;by_cases C:d=t
   .subst C;have F:d<a.tmps.size:=by rw[h.1.1];simp only[xY,aLf,aIq];exact B
    rw[gH ⟨rfl,F⟩,show writes o d=true by simp[writes,A],Bool.true_or,aY,G];exact⟨M,K⟩
   .rw[fP (λ e=>C e.1),show writes o t=false by simp[writes,A,C],aJK];exact hf
theorem JY{p:Rec}{r:Nat}:p.Hz r=true↔∃row,p.bT.wr=some (r,row):=by
 unfold Rec.Hz;cases h:p.bT.wr with
 |none=>simp
 |some q =>
  obtain⟨e,row⟩:=q;simp
theorem E8{n r w:Nat}(h:(aFB n).find? (λ k=>(rec k).Hz r&&!listed.getD k false)=some w):w<n/\(rec w).Hz r=true/\listed.getD w false=false/\∀k,k<w->(rec k).Hz r=true->listed.getD k false=true:=by
 have B:=List.find?_some h;simp only[CX,aIp]at B;refine⟨aHi.1 (List.mem_of_find?_eq_some h),B.1,B.2,λ k G F=>?_⟩;obtain⟨l,I,e,j⟩:=(List.find?_eq_some_iff_append.1 h).2
 have C:l.length=w:=by
  have A:l.length<n:=by have:=congrArg aMj e;simp at this;omega
  have e2:(aFB n)[l.length]?=some w:=by rw[e];simp
  rw[aJ8 A]at e2;simpa using e2
 have i:k∈l:=by
  have e2:(aFB n)[k]?=some k:=aJ8 (by have:=congrArg aMj e;simp at this;omega)
  rw[e,aiK (by omega)]at e2;exact ajw e2
 have:=j k i;simp only[aIp,Bool.and_eq_false_iff,Bool.not_eq_false']at this;rcases this with h |h
 .rw[F]at h;cases h
 .exact h
theorem Lc{n r:Nat}(h:(aFB n).find? (λ k=>(rec k).Hz r&&!listed.getD k false)=none):∀k,k<n->(rec k).Hz r=true->listed.getD k false=true:=λ k i e=>by have:=aMD.1 h k (aHi.2 i);simpa[e]using this
theorem ao6{n r:Nat}(h:∀k,k<n->listed.getD k false=true):(aFB n).find? (λ k=>(rec k).Hz r&&!listed.getD k false)=none :=aMD.2 λ k e=>by rw[h k (aHi.1 e)];simp
theorem Lex.WI(e:Lex P T L s0 sf S rec){i:Nat}(hi:i<=L.length):(S i).mem.length<=sf.mem.length:=by have:=e.BM i (L.length - i) (by omega);rw[show i+(L.length - i)=L.length by omega,e.last]at this;exact this
theorem Lex.WJ(e:Lex P T L s0 sf S rec){r i:Nat}(hi:i<=L.length)(j:r<(S i).mem.length)(h:∀k,i<=k->k<L.length->(rec k).Hz r=false):sf.mem[r]?=(S i).mem[r]?:=by have:=e.D8 r i j (L.length - i) (by omega) (λ k l A=>h k l (by omega));rw[show i+(L.length - i)=L.length by omega,e.last]at this;exact this
theorem Lex.aBb(e:Lex P T L s0 sf S rec){i r:Nat}(hi:i<L.length)(h:r∈(rec i).bT.rd):r<(S i).mem.length:=(e.step i L[i] (Ga hi)).2.2.1 r h
theorem Lex.aFg(i:Lex P T L s0 sf S rec){w r:Nat}(j:w<L.length)(h:(rec w).Hz r=true):r<(S w).mem.length:=by obtain⟨row,e⟩:=JY.1 h;exact i.aBb j (i.rows w j r row e).1
theorem Lex.uK(i:Lex P T L s0 sf S rec){r:Nat}(e:r<sf.mem.length):(Au L.length sf S rec listed)[r]?=rowAt L.length sf S rec listed r:=by
 simp only[Au,aG1];rw[Ga (by simpa using e)];simp only[List.getElem_range,aaF]
 have:∃row,rowAt L.length sf S rec listed r=some row:=by
  unfold rowAt;split
  .rename_i w j;obtain⟨A,l,_,_⟩:=E8 j;exact⟨_,Ga (i.aFg A l)⟩
  .exact⟨_,Ga e⟩
 obtain⟨row,h⟩:=this;rw[h];rfl
theorem xZ:(Au L.length sf S rec listed).length=sf.mem.length:=by simp[Au]
theorem Lex.ao7(C:Lex P T L s0 sf S rec){i:Nat}(l:listed.getD i false=false)
  (I:∀(j:Nat) (oj:Oper),L[j]?=some oj->listed.getD j false=true->∀e,e∈oj.after->avn .any e=true->listed.getD e.on false=true)
  {r k:Nat} (F:i<L.length) (K:(rec i).touch r=true) (G:k<L.length) (J:(rec k).Hz r=true) (M:i<=k):listed.getD k false=false:=by
 by_cases e:i=k
 .subst e;exact l
 .obtain⟨row,A⟩:=JY.1 J;rcases(C.rows k G r row A).2 i F e K with⟨_,B⟩ | ⟨h,_⟩
  .cases h:listed.getD k false
   .rfl
   .have:=D7 C.ok C.masks I k L[k] (Ga G) (I k _ (Ga G) h) i B;rw[l]at this;cases this
  .omega
theorem Lex.avj(C:Lex P T L s0 sf S rec){i:Nat}(h:listed.getD i false=false)
  (B:∀(j:Nat) (oj:Oper),L[j]?=some oj->listed.getD j false=true->∀e,e∈oj.after->avn .any e=true->listed.getD e.on false=true)
  {r k:Nat} (l:i<L.length) (G:r∈(rec i).bT.rd) (I:k<L.length) (F:(rec k).Hz r=true) (A:i<=k):listed.getD k false=false :=
 C.ao7 h B l (by unfold Rec.touch;simp[G]) I F A
theorem Lex.aiH(l:Lex P T L s0 sf S rec){i:Nat}{o:Oper}(hi:L[i]?=some o)(C:listed.getD i false=false)(W:∀e,e∈o.after->avn .any e=true->listed.getD e.on false=true)
  (M:∀(j:Nat) (oj:Oper),L[j]?=some oj->listed.getD j false=true->∀e,e∈oj.after->avn .any e=true->listed.getD e.on false=true) :
  ∀r,r∈(rec i).bT.rd->(S i).mem[r]?=(Au L.length sf S rec listed)[r]?:=by
 intro r K;have h:i<L.length:=(abK.1 hi).1;have A:=l.aBb h K;have O:=anS A (l.WI (aHR h));rw[l.uK O];unfold rowAt;split
 .rename_i w N;obtain⟨h1,h2,h3,Z⟩:=E8 N;obtain⟨row,F⟩:=JY.1 h2;by_cases B:i=w
  .subst B;rfl
  .have X:(rec i).touch r=true:=by unfold Rec.touch;simp[K]
   rcases(l.rows w h1 r row F).2 i h B X with⟨Y,_⟩ | ⟨aHn,J⟩
   .have:=l.D8 r i A (w - i) (by omega) (λ k U g2=>by
     cases I:(rec k).Hz r
     .rfl
     .exact absurd (Z k (by omega) I) (by rw[l.avj C M h K (by omega) I U];simp))
    rw[show i+(w - i)=w by omega]at this;exact this.symm
   .have G:=D7 l.ok l.masks M i o hi W w J;rw[h3]at G;cases G
 .rename_i N;refine(l.WJ (aHR h) A λ k U g2=>?_).symm;cases I:(rec k).Hz r
  .rfl
  .exact absurd (Lc N k g2 I) (by rw[l.avj C M h K g2 I U];simp)
theorem Ea{i r:Nat}(j:i<listed.size)(l:(rec i).Hz r=false):rowAt L.length sf S rec (listed.setIfInBounds i true) r=rowAt L.length sf S rec listed r:=by
 have e:(λ k=>(rec k).Hz r&&!(listed.setIfInBounds i true).getD k false)=λ k=>(rec k).Hz r&&!listed.getD k false:=funext λ k=>by
  rw[iK j];by_cases h:i=k
  .subst h;rw[l];rfl
  .simp[h]
 unfold rowAt;rw[e]
theorem Lex.ao8(G:Lex P T L s0 sf S rec){i r:Nat}(B:i<L.length)(l:i<listed.size)(A:listed.getD i false=false)
  (K:∀(j:Nat) (oj:Oper),L[j]?=some oj->listed.getD j false=true->∀e,e∈oj.after->avn .any e=true->listed.getD e.on false=true)
  (M:(rec i).touch r=true) (N:r<(S (i+1)).mem.length) (hpast:∀k,k<i->(rec k).Hz r=true->listed.getD k false=true):rowAt L.length sf S rec (listed.setIfInBounds i true) r=(S (i+1)).mem[r]?:=by
 unfold rowAt;split
 .rename_i w I;obtain⟨Y,W,J,U⟩:=E8 I;rw[iK l]at J;simp only[aKg,decide_eq_false_iff_not]at J
  have O:i<w:=by
   rcases Nat.lt_or_ge i w with h |h
   .exact h
   .have:=hpast w (by omega) W;rw[J.2]at this;cases this
  have:=G.D8 r (i+1) N (w - (i+1)) (by omega) (λ k X g2=>by
   cases C:(rec k).Hz r
   .rfl
   .have F:=U k (by omega) C;rw[iK l,G.ao7 A K B M (by omega) C (by omega)]at F;simp at F;omega)
  rw[show i+1+(w - (i+1))=w by omega]at this;exact this
 .rename_i I;refine G.WJ (by omega) N λ k X g2=>?_;cases C:(rec k).Hz r
  .rfl
  .have F:=Lc I k g2 C;rw[iK l,G.ao7 A K B M g2 C (by omega)]at F;simp at F;omega
theorem Lex.newRow(A:Lex P T L s0 sf S rec){i:Nat}{o:Oper}(hi:L[i]?=some o)(K:i<listed.size)(G:listed.getD i false=false)
  (N:∀(j:Nat) (oj:Oper),L[j]?=some oj->listed.getD j false=true->∀e,e∈oj.after->avn .any e=true->listed.getD e.on false=true)
  {k:Nat} {row:Row} (Z:k<=(rec i).ex.length) (hsome:(rec i).bT.nw.isSome=true) (l:((rec i).bT.nw.toList++(rec i).ex)[k]?=some row) :
  (Au L.length sf S rec (listed.setIfInBounds i true))[(rec i).nk+k]?=some row:=by
 have C:i<L.length:=(abK.1 hi).1;obtain⟨_,F,_,hstep⟩:=A.step i o hi
 have M:(rec i).bT.nw.toList.length=1:=by
  cases h:(rec i).bT.nw with
  |none=>rw[h]at hsome;cases hsome
  |some r=>rfl
 have I:(S (i+1)).mem.length=(S i).mem.length+1+(rec i).ex.length:=by have:=A.WH C;omega
 have B:(S (i+1)).mem[(S i).mem.length+k]?=some row:=by
  rw[hstep];simp only[Mi,Eff.mem,List.append_assoc];cases(rec i).bT.wr with
  |none =>
   simp only;rw[aqb (by omega),aLn];exact l
  |some q =>
   obtain⟨X,W⟩:=q;simp only;rw[aqb (by simp),List.length_set,aLn];exact l
 rw[F];have J:(S i).mem.length+k<sf.mem.length:=by have:=A.WI (i:=i+1) (by omega);omega
 rw[A.uK J,A.ao8 C K G N (by unfold Rec.touch;rw[hsome,F,agl (show(S i).mem.length<=(S i).mem.length+k by omega),agl (show(S i).mem.length+k<=(S i).mem.length+(rec i).ex.length by omega)];simp) (by omega) λ w Y U=>?_]
 .exact B
 .have O:=A.aFg (by omega) U;have:=A.BM w (i - w) (by omega);rw[show w+(i - w)=i by omega]at this;omega
theorem Lex.avk(A:Lex P T L s0 sf S rec){E:Env}{i:Nat}{o:Oper}(hi:L[i]?=some o)(J:i<listed.size)(M:listed.getD i false=false)(kP:∀e,e∈o.after->avn .any e=true->listed.getD e.on false=true)
  (Z:∀(j:Nat) (oj:Oper),L[j]?=some oj->listed.getD j false=true->∀e,e∈oj.after->avn .any e=true->listed.getD e.on false=true)
  (W:∀k b c,E.O k=some (b,c)->k<(Au L.length sf S rec listed).length) {nk:Nat} (hnk:(rec i).bT.nw=none\/nk=(rec i).nk) :
  kN E (Au L.length sf S rec listed) (Au L.length sf S rec (listed.setIfInBounds i true)) nk (rec i).bT:=by
 have C:i<L.length:=(abK.1 hi).1;obtain⟨_,aBd,_,hstep⟩:=A.step i o hi;refine⟨λ k hk b c hb=>?_,λ row l=>?_⟩
 .have U:k<sf.mem.length:=by have:=W k b c hb;rwa [xZ]at this
  rw[A.uK U,A.uK U];cases B:(rec i).Hz k
  .rw[Ea J B];cases he:(rec i).bT.wr with
   |none=>rfl
   |some q =>
    obtain⟨k',row⟩:=q;simp only;rw[fP];intro e;unfold Rec.Hz at B;rw[he,e]at B;simp at B
  .obtain⟨row,l⟩:=JY.1 B;rw[l];simp only[if_true];obtain⟨N,Y⟩:=A.rows i C k row l;have I:=A.aBb C N;have G:k<(S (i+1)).mem.length:=anS I (by have:=A.WH C;omega);rw[A.ao8 C J M Z (by unfold Rec.touch;simp[N]) G λ w hw h2=>?_,hstep]
   rotate_left
   .obtain⟨K,F⟩:=JY.1 h2;rcases Y w (by omega) (by omega) (by unfold Rec.touch;simp[(A.rows w (by omega) k K F).1])with⟨_,X⟩ | ⟨h,_⟩
    .exact D7 A.ok A.masks Z i o hi kP w X
    .omega
   simp only[Mi,Eff.mem,l];rw[aiK (by simp;omega),aiK (by simpa using I),aKM];simp[I]
 .have aG3:nk=(rec i).nk:=by
   rcases hnk with h |h
   .rw[h]at l;cases l
   .exact h
  have:=A.newRow hi J M Z (k:=0) (row:=row) (alz _) (by rw[l];rfl) (by rw[l];rfl);rw[aG3,<-Nat.add_zero (rec i).nk];exact this
theorem Lex.aG4(G:Lex P T L s0 sf S rec){E:Env}{i:Nat}{o:Oper}{r0:Row}(hi:L[i]?=some o)(C:i<listed.size)(J:listed.getD i false=false)
  (K:∀(j:Nat) (oj:Oper),L[j]?=some oj->listed.getD j false=true->∀e,e∈oj.after->avn .any e=true->listed.getD e.on false=true)
  (F:∀k b c,E.O k=some (b,c)->k<(Au L.length sf S rec listed).length) (l:(rec i).bT=⟨(rec i).bT.v,[],none,some r0⟩) :
  ax7 E (Au L.length sf S rec listed) (Au L.length sf S rec (listed.setIfInBounds i true)) (rec i).nk (r0::(rec i).ex):=by
 have I:(rec i).bT.wr=none:=by rw[l]
 have A:(rec i).bT.nw=some r0:=by rw[l]
 refine⟨λ k _ b c M=>?_,λ k row h=>?_⟩
 .have B:k<sf.mem.length:=by have:=F k b c M;rwa [xZ]at this
  rw[G.uK B,G.uK B,Ea C (by unfold Rec.Hz;rw[I])]
 .refine G.newRow hi C J K (k:=k) (row:=row) ?_ (by rw[A];rfl) (by rw[A];exact h);have:=(abK.1 h).1;simp at this;omega
theorem Tq{i:Nat}(e:i<listed.size)(h:(rec i).bT.wr=none):Au L.length sf S rec (listed.setIfInBounds i true)=Au L.length sf S rec listed:=by unfold Au;refine aCO λ r _=>?_;rw[Ea e (by unfold Rec.Hz;rw[h])]
end
end
noncomputable section
structure JInv(A0 R:Nat->Prop)(w0:Env)(ops:Array Oper)(s0 sf:St)(S:Nat->St)(rec:Nat->Rec)(E:Env)(listed:Array Bool)(a:Act):Prop where
 defers:a.defers=[]
 frame:AB E sf.slots (xY ops.toList s0 sf listed) a.tmps
 wd:Wd A0 R w0 E (Au ops.toList.length sf S rec listed)
 made:∀r p,E.O r=some p->s0.mem.length<=r->∃j,j<ops.toList.length/\listed.getD j false=true/\((rec j).nk<=r/\r<=(rec j).nk+(rec j).ex.length)/\(rec j).bT.nw.isSome=true
 size:listed.size=ops.size
 shut:∀(i:Nat) (o:Oper),ops.toList[i]?=some o->listed.getD i false=true->∀e,e∈o.after->avn .any e=true->listed.getD e.on false=true
section
variable{P:Program}{T:Tab}{A0 R:Nat->Prop}{w0:Env}{ops:Array Oper}{s0 sf:St}{S:Nat->St}{rec:Nat->Rec}{E:Env}{listed:Array Bool}{a:Act}{Q:Exit->Act->World->Prop}
theorem Lex.agf(A:Lex P T ops.toList s0 sf S rec)(X:JInv A0 R w0 ops s0 sf S rec E listed a){i:Nat}(hi:i<ops.toList.length)(F:listed.getD i false=false)(N:(rec i).bT.nw.isSome=true){k:Nat}(Z:k<=(rec i).ex.length):E.O ((rec i).nk+k)=none:=by
 cases W:E.O ((rec i).nk+k)with
 |none=>rfl
 |some p =>
  have l:∀j,j<ops.toList.length->(rec j).nk=(S j).mem.length:=λ j B=>(A.step j _ (Ga B)).2.1
  have hgrow:∀j,j<ops.toList.length->(rec j).bT.nw.isSome=true->(S (j+1)).mem.length=(S j).mem.length+1+(rec j).ex.length:=λ j B C=>by
   have:=A.WH B;cases K:(rec j).bT.nw with
   |none=>rw[K]at C;cases C
   |some row=>rw[K]at this;simpa using this
  have I:s0.mem.length<=(rec i).nk+k:=by rw[l i hi,<-A.first];have:=A.BM 0 i (by omega);simp only[ZO]at this;omega
  obtain⟨j,B,M,U,C⟩:=X.made _ p W I;rw[l j B,l i hi]at U;have G:j≠i:=λ e=>by subst e;rw[F]at M;cases M
  rcases Nat.lt_or_gt_of_ne G with h |h
  .have Y:=hgrow j B C;have J:=A.BM (j+1) (i - (j+1)) (by omega);rw[show j+1+(i - (j+1))=i by omega]at J;omega
  .have Y:=hgrow i hi N;have J:=A.BM (i+1) (j - (i+1)) (by omega);rw[show i+1+(j - (i+1))=j by omega]at J;omega
theorem Eb{i:Nat}{o:Oper}(hi:i<listed.size)(J:ops.toList[i]?=some o)(I:∀e,e∈o.after->avn .any e=true->listed.getD e.on false=true)
  (G:∀(j:Nat) (oj:Oper),ops.toList[j]?=some oj->listed.getD j false=true->∀e,e∈oj.after->avn .any e=true->listed.getD e.on false=true) :
  ∀(j:Nat) (oj:Oper),ops.toList[j]?=some oj->(listed.setIfInBounds i true).getD j false=true->∀e,e∈oj.after->avn .any e=true->(listed.setIfInBounds i true).getD e.on false=true:=by
 intro j oj A B e C F;rw[iK hi]at B ⊢;by_cases h:i=j
 .subst h;rw[J]at A;cases A;rw[I e C F];simp
 .have l:listed.getD j false=true:=by simpa[h]using B
  rw[G j oj A l e C F];simp
theorem aBe (   hT:BR P T) (W:Lex P T ops.toList s0 sf S rec) (l:JInv A0 R w0 ops s0 sf S rec E listed a) {i:Nat} (hr:i∈aFj .any ops listed)
    {K:Act->World->Prop} (hK:∀E' a',JInv A0 R w0 ops s0 sf S rec E' (listed.setIfInBounds i true) a'->K a' E'.w):wpOp P ops Q i K a E.w:=by
  obtain⟨hun,o,ho,kP⟩:=mem_ready.1 hr;have hil:i<ops.size:=(aHP.1 ho).1;have hi:i<listed.size:=by rw[l.size];exact hil
  have C:listed.getD i false=false:=by rw[<-vU hi];exact hun
  have A:ops.toList[i]?=some o:=by simpa using ho
  have hlt:i<ops.toList.length:=by simpa using hil
  have hag:=W.agree A C kP l.shut;have hat:=W.ad3 (listed:=listed) A kP;have har:=W.aiH A C kP l.shut;obtain⟨e,hnk,hrd,hnext⟩:=W.step i o A;have hcond:=W.conds i hlt;unfold wpOp;rw[ho];simp only;let m:St:=⟨xY ops.toList s0 sf listed,Au ops.toList.length sf S rec listed⟩;have ad4:∀t,t∈looks ops.toList o->(S i).slots.getD t dflt=m.slots.getD t dflt:=hag;have hlk:∀y,y∈o.op.operands.toList->∀t,y=.tmp t->(S i).slots.getD t dflt=m.slots.getD t dflt:=λ y hy t M=>ad4 t (aH6 _ (Qo hy M));rcases e with⟨e,_⟩ | ⟨r0,hN,Y,hc0,heff⟩
  case inr =>
    unfold nOk at Y;simp only[CX]at Y;obtain⟨hg,B,_⟩:=Y;rw[ab3]at B;rw[gH (Dv hg)];refine wV ?_;have hb:(rec i).b=true:=hcond (by rw[hc0];rfl);have hsome:(rec i).bT.nw.isSome=true:=by rw[heff];rfl
    have hρ:∀y,y∈o.op.operands->rel E (aI m y) (a.eval y):=λ y hy=>by
      have J:y∈o.op.operands.toList:=by simpa using hy
      exact jF (s:=m) (c:=[]) l.frame rfl y (by rw[<-oK (hlk y J)];exact B y J)
    have hNm:Fj T m (rec i).nk o=some (true,(rec i).bT.v,r0::(rec i).ex):=by rw[hb]at hN;rw[hnk,<-hN];exact(ad1 λ y hy=>oJ (hlk y hy)).symm
    refine YG (s:=m) hT l.frame.1.2 l.wd (λ k Y=>W.agf l hlt C hsome (by simp at Y;omega)) hρ hNm (W.aG4 A hi C l.shut l.wd.dom heff) λ E' u hle hO' X N=>?_;refine hK E' _ ⟨by rw[put_defers];exact l.defers,D9 W hi A (qx hle l.frame) (λ _=>N) (λ h=>by rw[hc0]at h;cases h),X,λ r p hp I=>?_,by simpa using l.size,Eb hi A kP l.shut⟩;rcases hO' r p hp with h |h
    . obtain⟨j,g1,g2,g3,g4⟩:=l.made r p h I;exact⟨j,g1,by rw[iK hi,g2];simp,g3,g4⟩
    . exact⟨i,hlt,by rw[iK hi];simp,⟨h.1,by have:=h.2;simp at this;omega⟩,hsome⟩
  unfold Ae at e;cases hc:yH P T ops.toList (S i) o with
  |some q =>
    obtain⟨b,c,v⟩:=q;rw[hc]at e;simp only[gU,Ew]at e;obtain⟨eb,ec,Z⟩:=e;have hrows:∀k,k∈Vf (S i) o->(S i).mem[k]?=m.mem[k]?:=λ k Y=>har k (by rw[<-Z];exact Y);have hcm:yH P T ops.toList m o=some (b,c,v):=by rw[<-aap ad4 hrows];exact hc
    obtain⟨h1,h2⟩:=OH (s:=m) (F:=sf.slots) hT.1 l.frame l.wd.rows l.wd.small hat hcm (λ M=>by rw[eb];exact hcond (by rw[<-ec];exact M));have hwr:(rec i).bT.wr=none:=by rw[<-Z]
    have hv:(rec i).bT.v=v:=by rw[<-Z]
    have next:∀(w':World) (u:Value),Below E.w.heap.size E.w w'->(tF sf.slots c=true->rel { E with w:=w' } v u)->(tF sf.slots c=false->u=undef)->K (a.put o.dst u) w':=by
      intro w' u hb h3 h4;obtain⟨hw1,hw2⟩:=l.wd.on hb;refine hK { E with w:=w' } _ ⟨by rw[put_defers];exact l.defers,D9 W hi A (qx hw2 l.frame) (by rw[<-ec,hv];exact h3) (by rw[<-ec];exact h4),by rw[Tq hi hwr];exact hw1,λ r p hp I=>?_,by simpa using l.size,Eb hi A kP l.shut⟩
      obtain⟨j,g1,g2,g3,g4⟩:=l.made r p hp I;exact⟨j,g1,by rw[iK hi,g2];simp,g3,g4⟩
    rw[h1];cases M:tF sf.slots c
    . rw[fP (by simp)];exact next E.w undef (Below.refl _ _) (λ h=>by rw[M]at h;cases h) (λ _=>rfl)
    . rw[gH rfl];exact wV (Vh (h2 M) λ u w' hu hb=>next w' u hb (λ _=>hu) (λ h=>by rw[M]at h;cases h))
  |none =>
    rw[hc]at e;simp only at e;cases hch:je ops.toList (S i).slots o with
    |none=>rw[hch]at e;cases e
    |some c0 =>
    rw[hch]at e;simp only at e;cases Y:(Vg c0&&o.op.operands.toList.all (jB (S i).slots c0))
    . rw[Y]at e;cases e
    . rw[Y]at e;simp only[aY]at e;simp only[CX]at Y;cases hw:awr P T (S i) (S i).mem.length o with
      |none=>rw[hw]at e;cases e
      |some q =>
        obtain⟨b,bT⟩:=q;rw[hw]at e;simp only at e;have hts:∀t,t∈mU ops.toList o->(S i).slots.getD t dflt=m.slots.getD t dflt:=λ t M=>ad4 t (aHt _ M);cases hbare:YF o bT
        case true =>
          rw[hbare]at e;simp only[aY,gU,Ew]at e;obtain⟨eb,ec,Z⟩:=e;obtain⟨hn,aG5⟩:=R7 hbare;have hwr:(rec i).bT.wr=none:=by rw[<-Z];exact aG5
          have G:(rec i).bT.nw=none:=by rw[<-Z];exact hn
          have aBf:je ops.toList m.slots o=some c0:=by rw[<-zn hts];exact hch
          rw[j6 (s:=m.slots) (F:=sf.slots) l.frame hat aBf];have U:=l.wd.dom;cases M:tF sf.slots c0
          . rw[fP (by simp)];refine hK E _ ⟨by rw[put_defers];exact l.defers,D9 W hi A l.frame (λ h=>by rw[<-ec,M]at h;cases h) (λ _=>rfl),by rw[Tq hi hwr];exact l.wd,λ r p hp I=>?_,by simpa using l.size,Eb hi A kP l.shut⟩;obtain⟨j,g1,g2,g3,g4⟩:=l.made r p hp I;exact⟨j,g1,by rw[iK hi,g2];simp,g3,g4⟩
          . rw[gH rfl];refine wV ?_;have hbt:b=true:=by rw[eb];exact hcond (by rw[<-ec];exact M)
            subst hbt;have hwm:awr P T m (S i).mem.length o=some (true,bT):=Tm (λ f g hg=>(hT.2.2.2.2 f g hg).1) (λ y hy=>oJ (hlk y hy)) hw (λ k hk'=>har k (by rw[<-Z];exact hk'));have B:=Y.2;rw[ab3]at B
            have hρ:∀y,y∈o.op.operands->rel E (aI m y) (a.eval y):=λ y hy=>by
              have J:y∈o.op.operands.toList:=by simpa using hy
              exact jF (s:=m) l.frame M y (by rw[<-oK (hlk y J)];exact B y J)
            have hfresh:E.O sf.mem.length=none:=by
              cases hx':E.O sf.mem.length with
              |none=>rfl
              |some p =>
                have:=U _ p.1 p.2 hx';rw[xZ]at this;exact absurd this (aJj _)
            refine OI (s:=m) hT l.frame.1.2 l.wd hfresh hρ (ao4 (λ f g hg=>(hT.2.1 f g hg).2) hwm hn) (by rw[Z];exact W.avk A hi C kP l.shut U (wV G)) λ E' u hle hO' X N=>?_;refine hK E' _ ⟨by rw[put_defers];exact l.defers,D9 W hi A (qx hle l.frame) (λ _=>by rw[<-Z];exact N) (λ h=>by rw[<-ec,M]at h;cases h),X,λ r p hp I=>?_,by simpa using l.size,Eb hi A kP l.shut⟩;rcases hO' r p hp with h |h
            . obtain⟨j,g1,g2,g3,g4⟩:=l.made r p h I;exact⟨j,g1,by rw[iK hi,g2];simp,g3,g4⟩
            . have:=X.dom r p.1 p.2 hp;rw[xZ,h]at this;exact absurd this (aJj _)
        case false =>
        rw[hbare]at e;simp only[eU,gU,Ew]at e;obtain⟨eb,ec,Z⟩:=e;obtain⟨hbt,htr⟩:=LG (F:=sf.slots) hch Y.1 (by rw[eb];exact hcond (by rw[<-ec];rfl)) λ t M=>by rw[hat t M,hts t M]
        subst hbt;have aBf:je ops.toList m.slots o=some c0:=by rw[<-zn hts];exact hch
        rw[gH ((j6 (s:=m.slots) (F:=sf.slots) l.frame hat aBf).trans htr)];refine wV ?_;have hwm:awr P T m (S i).mem.length o=some (true,bT):=Tm (λ f g hg=>(hT.2.2.2.2 f g hg).1) (λ y hy=>oJ (hlk y hy)) hw (λ k hk'=>har k (by rw[<-Z];exact hk'));have B:=Y.2;rw[ab3]at B
        have hρ:∀y,y∈o.op.operands->rel E (aI m y) (a.eval y):=λ y hy=>by
          have J:y∈o.op.operands.toList:=by simpa using hy
          exact jF (s:=m) l.frame htr y (by rw[<-oK (hlk y J)];exact B y J)
        have U:=l.wd.dom
        have finish:∀(nk:Nat),E.O nk=none->awr P T m nk o=some (true,bT)->((rec i).bT.nw=none\/nk=(rec i).nk)->((rec i).bT.nw=none->nk=sf.mem.length)->o.wp P a E.w K Q:=by
          intro nk hfresh haw hor hno;refine OI (s:=m) hT l.frame.1.2 l.wd hfresh hρ haw (by rw[Z];exact W.avk A hi C kP l.shut U hor) λ E' u hle hO' X N=>?_;refine hK E' _ ⟨by rw[put_defers];exact l.defers,D9 W hi A (qx hle l.frame) (λ _=>by rw[<-Z];exact N) (λ h=>by rw[<-ec]at h;cases h),X,λ r p hp I=>?_,by simpa using l.size,Eb hi A kP l.shut⟩;rcases hO' r p hp with h |h
          . obtain⟨j,g1,g2,g3,g4⟩:=l.made r p h I;exact⟨j,g1,by rw[iK hi,g2];simp,g3,g4⟩
          . cases G:(rec i).bT.nw with
            |none =>
              have:=X.dom r p.1 p.2 hp;rw[xZ,h,hno G]at this;exact absurd this (aJj _)
            |some row =>
              refine⟨i,hlt,by rw[iK hi];simp,?_,by rw[G];rfl⟩;rcases hor with h' |h'
              . rw[G]at h';cases h'
              . rw[h,h'];exact⟨ND _,Nat.le_add_right _ _⟩
        cases G:(rec i).bT.nw with
        |none =>
          refine finish sf.mem.length ?_ (ao4 (λ f g hg=>(hT.2.1 f g hg).2) hwm (by rw[Z];exact G)) (wV G) (λ _=>rfl);cases hO:E.O sf.mem.length with
          |none=>rfl
          |some p =>
            have:=U _ p.1 p.2 hO;rw[xZ]at this;exact absurd this (aJj _)
        |some row=>exact finish (rec i).nk (W.agf l hlt C (by rw[G];rfl) (alz _)) (by rw[hnk];exact hwm) (Gc rfl) (λ h=>by rw[G]at h;cases h)
theorem ad5(B:Lex P T ops.toList s0 sf S rec)(C:listed.size=ops.size)(F:aFj .any ops listed=[]):∀i,i<ops.size->listed.getD i false=true:=by
 intro i
 induction i using aHf with
 |_ i A =>
  intro hi;cases h:listed.getD i false
  .have:i∈aFj .any ops listed:=mem_ready.2 ⟨by rw[vU (by omega)];exact h,ops[i],ayT hi,λ e G I=>by have l:=(nA B.ok (j:=i) (oj:=ops[i]) (by simp[hi])).1 e G I;exact A e.on l (by omega)⟩
   rw[F]at this;cases this
  .rfl
theorem Tt{α:Type}{p q:α->Bool}:∀{l:List α} {x:α},(∀y,y∈l->q y=true->p y=true)->x∈l->p x=true->q x=false->l.countP q<l.countP p
 | [],_,_,e,_,_=>by cases e
 |y::l,x,h,e,hp,hq=>by
  rw[aMW,aMW];have B:l.countP q<=l.countP p:=List.countP_mono_left λ z i=>h z (by simp[i]);rcases aHJ.1 e with rfl |e
  .rw[hp,hq];simp;omega
  .have C:=Tt (λ z i=>h z (by simp[i])) e hp hq;have A:=h y (by simp);cases j:q y
   .simp;omega
   .rw[A j];simp;omega
theorem aFh(O:BR P T)(J:Lex P T ops.toList s0 sf S rec)
  (M:∀E listed a,(∀i,i<ops.size->listed.getD i false=true)->JInv A0 R w0 ops s0 sf S rec E listed a->Q .normal a E.w) :
  ∀(fuel:Nat) (E:Env) (listed:Array Bool) (a:Act),JInv A0 R w0 ops s0 sf S rec E listed a->(aFB ops.size).countP (λ i=>!listed.getD i false)<=fuel->wpAny P .any ops Q fuel listed a E.w:=by
 intro fuel
 induction fuel with
 |zero =>
  intro E listed a B K
  have h:∀i,i<ops.size->listed.getD i false=true:=λ i hi=>by have:=List.countP_eq_zero.1 (Nat.le_zero.1 K) i (aHi.2 hi);simpa using this
  refine⟨?_,M E listed a h B⟩;cases C:aFj .any ops listed with
  |nil=>rfl
  |cons i l =>
   obtain⟨e,o,G,_⟩:=mem_ready.1 (show i∈aFj .any ops listed by rw[C];simp);have hi:i<ops.size:=(aHP.1 G).1;rw[vU (by rw[B.size];exact hi),h i hi]at e;cases e
 |succ fuel ih =>
  intro E listed a B K;refine⟨λ C=>M E listed a (ad5 J B.size C) B,λ i C=>aBe O J B C λ W U I=>ih W _ U I ?_⟩;obtain⟨e,o,G,_⟩:=mem_ready.1 C;have hi:i<ops.size:=(aHP.1 G).1;have A:i<listed.size:=by rw[B.size];exact hi
  have N:=Tt (p:=λ j=>!listed.getD j false) (q:=λ j=>!(listed.setIfInBounds i true).getD j false) (l:=aFB ops.size) (x:=i)
   (λ y _ F=>by rw[iK A]at F;simp only[aIp,aKg]at F ⊢;exact F.2) (aHi.2 hi) (by rw[<-vU A,e];rfl) (by rw[iK A];simp)
  omega
theorem aiI(hT:BR P T)(hm:P.follows .mixedOrders=true){s sf:St}{id:Nat}(I:Inv A0 R w0 E s a)(hD:drawn P T ops.toList s=some sf)(hQ:∀E' W,Inv A0 R w0 E' (WL sf) W->Q .normal W E'.w):(Code.region id ops true).wp P Q a E.w:=by
 obtain⟨S,rec,j⟩:=aBa hD
 have A:∀i,(aHB ops.size false).getD i false=false:=λ i=>by simp only[aGZ,Array.getElem?_replicate];split<;>rfl
 have Z:∀t,wrB ops.toList (aHB ops.size false) t=false:=λ t=>by
  cases h:wrB ops.toList (aHB ops.size false) t
  .rfl
  .obtain⟨i,o,_,_,B⟩:=BN.1 h;rw[A]at B;cases B
 have aHd:s.mem.length<=sf.mem.length:=by
  have:=j.WI (i:=0) (by omega)
  rwa [j.first]at this
 refine wp_region_any hm ?_;obtain⟨e,K⟩:=I.wd.on (w':=E.w.drew) (Below.refl _ _).drew;refine aFh (E:={ E with w:=E.w.drew }) (A0:=A0) (R:=R) (w0:=w0) hT j ?_ ops.size _ a ?_ ?_
 .intro E' listed W G U;refine hQ E' W ?_
  have J:Au ops.toList.length sf S rec listed=sf.mem:=by
   apply List.ext_getElem?;intro r;by_cases X:r<sf.mem.length
   .rw[j.uK X];unfold rowAt;rw[ao6 λ k M=>G k (by simpa using M)]
   .rw[apa (by rw[xZ];omega),apa (by omega)]
  have hfr:AB E' sf.slots sf.slots W.tmps:=by
   refine⟨⟨by rw[U.frame.1.1];simp[xY,j.xX],U.frame.1.2⟩,λ t=>?_⟩;have:=U.frame.2 t;rw[Av j.xX]at this;cases h:wrB ops.toList listed t
   .rw[h,eU,<-j.never λ i o hi=>?_]at this
    .exact this
    .cases h':writes o t
     .rfl
     .have hi2:i<ops.size:=by have:=(abK.1 hi).1;simpa using this
      have:=BN.2 ⟨i,o,hi,h',G i hi2⟩;rw[h]at this;cases this
   .rw[h,aY]at this;exact this
  exact⟨U.defers,OP hfr _,by have:=U.wd;rw[J]at this;exact this⟩
 .refine⟨I.defers,?_,?_,λ r p hp hge=>?_,by simp,λ i o _ B=>by rw[A]at B;cases B⟩
  .refine⟨⟨by rw[I.frame.1.1];simp[xY],vo K I.frame.1.2⟩,λ t=>?_⟩;rw[Av j.xX,Z,eU];have:=I.frame.2 t;rw[j.clear t]at this ⊢;exact⟨λ h=>lS K (this.1 rfl),λ h=>by cases h⟩
  .have C:∀r,r<s.mem.length->(Au ops.toList.length sf S rec (aHB ops.size false))[r]?=s.mem[r]?:=λ r X=>by
    have Y:(S 0).mem=s.mem:=by rw[j.first]
    rw[j.uK (by omega)];unfold rowAt;split
    .rename_i w hw;obtain⟨h1,h2,_,h4⟩:=E8 hw
     have:=j.D8 r 0 (by rw[Y];exact X) w (by omega) (λ k _ g2=>by
      cases M:(rec k).Hz r
      .rfl
      .have:=h4 k (by omega) M;rw[A]at this;cases this)
     rw[ZO,Y]at this;exact this
    .rename_i hw
     have hnw:∀k,0<=k->k<ops.toList.length->(rec k).Hz r=false:=λ k _ g2=>by
      cases M:(rec k).Hz r
      .rfl
      .have:=Lc hw k g2 M;rw[A]at this;cases this
     rw[j.WJ (i:=0) (by omega) (by rw[Y];exact X) hnw,Y]
   have F:=I.wd.dom
   have hlive:∀k b c,E.O k=some (b,c)->aN (Au ops.toList.length sf S rec (aHB ops.size false)) k=aN s.mem k:=λ k b c l=>by unfold aN;rw[C k (F k b c l)]
   refine⟨λ k b c l=>?_,e.small,e.old,λ k b c l B=>?_,λ k k' b c c' l N B hl'=>?_,e.below,e.zA⟩
   .obtain⟨row,h1,h2⟩:=e.rows k b c l;exact⟨row,by rw[C k (F k b c l)];exact h1,h2⟩
   .exact e.own k b c l (by rw[<-hlive k b c l];exact B)
   .exact e.one k k' b c c' l N (by rw[<-hlive k b c l];exact B) (by rw[<-hlive k' b c' N];exact hl')
  .have:=I.wd.dom r p.1 p.2 hp;omega
 .exact aa2 List.countP_le_length (by simp)
end
end
noncomputable section
theorem aiJ{P:Program}{T:Tab}{ops:List Oper}{s:St}{nk:Nat}{o:Oper}{g:(AV->Option Out)->Option Out}{k:AV->Option Out}{r:Out}{c:Chain}(X:QV T)(i:ab7 P T s o=some g)(I:je ops s.slots o=some c)
  (U:(o.op.operands.toList.all (jB s.slots c)&&nD s.slots c o.dst)=true) (h:g k=some r) :
  ∃v,k v=some r/\(∀N,g N=N v)/\Ae P T.flat ops s nk o=some (true,c,⟨v,[],none,none⟩):=by
 unfold ab7 at i;split at i
 .rename_i cl A;split at i
  .cases i
  .rename_i j;split at i
   .cases i
   rename_i Y;split at i
   .rename_i f l Fp;split at i
    .rename_i g' O;cases C:cK l
     .rw[C]at i;cases i
     .rw[C]at i;simp only[aY,gU]at i;subst i;obtain⟨v,Z,W⟩:=X f g' O l _ r h;simp only[CX]at U;obtain⟨G,_⟩:=U;refine⟨v,Z,W,?_⟩
      have J:T.flat.f f l=some v:=by simp only[Tab.flat,O];rw[W];rfl
      have F:QO P T.flat s o=some (true,v):=by
       have K:Lv T.flat s cl=none:=Y;unfold QO;rw[A];simp only[K];unfold FQ;rw[A];simp only;split
       .rename_i e;exact absurd e (j _)
       .rename_i e;exact absurd e (j _)
       .rename_i e;exact absurd e (j _)
       .rename_i e;exact absurd e (j _)
       .rename_i e;exact absurd e (j _)
       .rename_i e;exact absurd e (j _)
       .rw[Fp];simp only[C,aY,J,aaF]
      have M:yH P T.flat ops s o=some (true,c,v):=by
       unfold yH;simp only[I];split
       .rename_i g x y B;rw[A]at B;cases B
       .rw[G,F];rfl
      unfold Ae;rw[M];simp only[Vf,A]
    .cases i
   .cases i
 .cases i
def Co(P:Program)(T:Tab)(ops:List Oper):List Oper->St->List Rec->(St->List Rec->Option Out)->Option Out
 | [],s,acc,k=>k s acc
 |o::rest,s,acc,k=>match Fj T s s.mem.length o with
  |some (b,v,r0::ex)=>cond (nOk s o) (Co P T ops rest (Mi s o.dst [] ⟨v,[],none,some r0⟩ ex) (acc++[⟨s.mem.length,b,[],⟨v,[],none,some r0⟩,ex⟩]) k) none
  |some (_,_,[])=>none
  |none=>match ab7 P T s o with
  |some g=>match je ops s.slots o with
   |some c=>cond (o.op.operands.toList.all (jB s.slots c)&&nD s.slots c o.dst) (g λ v=>Co P T ops rest { s with slots:=uR s.slots o.dst (v,c) } (acc++[⟨s.mem.length,true,c,⟨v,[],none,none⟩,[]⟩]) k) none
   |none=>none
  |none=>match Ae P T.flat ops s s.mem.length o with
   |some (b,c,bT)=>cond (nD s.slots c o.dst&&bT.rd.all (λ r=>Tv r s.mem.length)) (Co P T ops rest (Du s o.dst c bT) (acc++[⟨s.mem.length,b,c,bT,[]⟩]) k) none
   |none=>none
theorem BO{P:Program}{T:Tab}{ops:List Oper}{r:Out}(U:QV T):∀{l:List Oper} {s:St} {j:List Rec} {k:St->List Rec->Option Out},Co P T ops l s j k=some r ->
  ∃s' i,Qu P T.flat ops l s=some (s',i)/\k s' (j++i)=some r/\∀F,Co P T ops l s j F=F s' (j++i)
 | [],s,j,k,h=>⟨s,[],rfl,by simpa[Co]using h,λ F=>by simp[Co]⟩
 |o::rest,s,j,k,h=>by
  simp only[Co]at h;have hf:Fj T.flat s s.mem.length o=Fj T s s.mem.length o:=rfl;cases C:Fj T s s.mem.length o with
  |some q =>
   obtain⟨b,v,J⟩:=q;cases J with
   |nil=>rw[C]at h;cases h
   |cons r0 ex =>
    rw[C]at h;simp only at h;cases A:nOk s o
    .rw[A]at h;cases h
    .rw[A]at h;simp only[aY]at h;obtain⟨s',i,O,N,M⟩:=BO U h;refine⟨s',⟨s.mem.length,b,[],⟨v,[],none,some r0⟩,ex⟩::i,?_,by simpa using N,λ F=>?_⟩
     .simp only[Qu,hf,C,A,aY,O]
     .simp only[Co,C,A,aY];rw[M];simp
  |none =>
  rw[C]at h;simp only at h;cases K:ab7 P T s o with
  |none =>
   rw[K]at h;simp only at h;cases G:Ae P T.flat ops s s.mem.length o with
   |none=>rw[G]at h;cases h
   |some p =>
    obtain⟨b,c,W⟩:=p;rw[G]at h;simp only at h;cases A:(nD s.slots c o.dst&&W.rd.all (λ r=>Tv r s.mem.length))
    .rw[A]at h;cases h
    .rw[A]at h;simp only[aY]at h;obtain⟨s',i,O,N,M⟩:=BO U h;refine⟨s',⟨s.mem.length,b,c,W,[]⟩::i,?_,by simpa using N,λ F=>?_⟩
     .simp only[Qu,hf,C,G,A,aY,O]
     .simp only[Co,C,K,G,A,aY];rw[M];simp
  |some g =>
   rw[K]at h;simp only at h;cases B:je ops s.slots o with
   |none=>rw[B]at h;cases h
   |some c =>
   rw[B]at h;simp only at h;cases I:(o.op.operands.toList.all (jB s.slots c)&&nD s.slots c o.dst)
   .rw[I]at h;cases h
   .rw[I]at h;simp only[aY]at h;obtain⟨v,O,N,M⟩:=aiJ (ops:=ops) (nk:=s.mem.length) U K B I h;obtain⟨s',i,Z,Y,X⟩:=BO U O;have G:nD s.slots c o.dst=true:=by simp only[CX]at I;exact I.2
    refine⟨s',⟨s.mem.length,true,c,⟨v,[],none,none⟩,[]⟩::i,?_,by simpa using Y,λ F=>?_⟩
    .have e:Du s o.dst c ⟨v,[],none,none⟩={ s with slots:=uR s.slots o.dst (v,c) }:=by simp[Du,Eff.mem]
     simp only[Qu,hf,C,M,G,List.all_nil,aJ9,aY,e,Z]
    .simp only[Co,C,K,B];rw[I];simp only[aY];rw[N,X];simp
def lq(P:Program)(T:Tab)(ops:List Oper)(s:St)(k:SK):Option Out :=
 cond (yP ops s.slots.length&&(E5 ops (lM ops [])&&s.slots.all (λ q=>q.2.isEmpty))) (Co P T ops ops s [] λ sf e =>cond (Qt (lM ops []) e) (cond (e.all (λ r=>r.b||!tF sf.slots r.c)) (k sf) none) none) none
theorem L9{P:Program}{T:Tab}{ops:List Oper}{s:St}{k:SK}{r:Out}(F:QV T)(h:lq P T ops s k=some r):∃s',drawn P T.flat ops s=some s'/\k s'=some r/\∀B,lq P T ops s B=B s':=by
 unfold lq at h;cases l:(yP ops s.slots.length&&(E5 ops (lM ops [])&&s.slots.all (λ q=>q.2.isEmpty)))
 .rw[l]at h;cases h
 .rw[l]at h;simp only[aY]at h;obtain⟨sf,i,G,e,C⟩:=BO F h;simp only[List.nil_append]at e C;cases j:Qt (lM ops []) i
  .rw[j]at e;cases e
  .rw[j]at e;simp only[aY]at e;cases A:i.all (λ r=>r.b||!tF sf.slots r.c)
   .rw[A]at e;cases e
   .rw[A]at e;simp only[aY]at e;refine⟨sf,?_,e,λ B=>?_⟩
    .unfold drawn;rw[l];simp only[aY,G,j,A,aJ9]
    .unfold lq;rw[l];simp only[aY];rw[C,j,A];rfl
theorem gJ{P:Program}{T:Tab}(l:BR P T)(B:P.follows .mixedOrders=true):DOk P (lq P T):=by
 classical
 refine⟨λ ops s k r h=>?_,λ A0 R w0 E s i a id ops Q F h C=>?_⟩
 .obtain⟨i,_,I,A⟩:=L9 l.par h;exact⟨i,I,A⟩
 .obtain⟨s2,G,_,A⟩:=L9 (r:=Out.of .any) (k:=λ _=>some (Out.of .any)) l.par (h _)
  have e:s2=i:=by
   have j:=A λ x=>if x=i then some (Out.of .any)else none
   rw[h]at j;simp only[if_true]at j;by_cases e:s2=i
   .exact e
   .rw[fP e]at j;cases j
  subst e;exact aiI l.flat B F G C
structure Entry where
 f:Nat
 g:List AV->Option AV
structure bf where
 f:Nat
 g:akS
def Ls:List Entry->Nat->List AV->Option AV
 | [],_,_=>none
 |e::l,f,args=>cond (amH e.f f) (match e.g args with
  |some r=>some r
  |none=>Ls l f args) (Ls l f args)
def Oe:List bf->Nat->Option akS
 | [],_=>none
 |e::l,f=>cond (amH e.f f) (some e.g) (Oe l f)
structure dZ where
 f:Nat
 g:abw
 n:Option akT
def XP:List dZ->Nat->Option abw
 | [],_=>none
 |e::l,f=>cond (amH e.f f) (some e.g) (XP l f)
def XQ:List dZ->Nat->Option akT
 | [],_=>none
 |e::l,f=>cond (amH e.f f) e.n (XQ l f)
def Nz(l:List Entry)(ks:List bf)(ms:List dZ):Tab:=⟨Ls l,Oe ks,XP ms,XQ ms,λ _=>none,λ _=>none,λ _=>none⟩
def tab(l:List Entry)(ks:List bf):Tab:=⟨Ls l,Oe ks,λ _=>none,λ _=>none,λ _=>none,λ _=>none,λ _=>none⟩
def jr(P:Program)(e:Entry):Prop:=∀h r,e.g h=some r->aj P e.f h r\/Cg P e.f h r
def sZ(P:Program)(e:bf):Prop:=aqH e.g/\akU P e.f e.g
theorem Uw{P:Program}{l:List Entry}{ks:List bf}{m:Nat->Option abw}{n:Nat->Option akT}{w:Nat->Option agV}{r:Nat->Option abd}(A:∀e,e∈l->jr P e)(I:∀e,e∈ks->sZ P e):akV P ⟨Ls l,Oe ks,m,n,w,r,λ _=>none⟩:=by
 refine⟨?_,?_,λ _ _ h=>by cases h⟩
 .intro f i r h
  have:∀(l:List Entry),(∀e,e∈l->jr P e)->Ls l f i=some r->aj P f i r\/Cg P f i r:=by
   intro l
   induction l with
   |nil=>intro _ h;cases h
   |cons e l ih =>
    intro A h;simp only[Ls]at h;cases B:amH e.f f
    .rw[B]at h;exact ih (λ F j=>A F (by simp[j])) h
    .rw[B]at h;simp only[aY]at h;have e1:=aiL B;subst e1;split at h
     .rename_i J G;cases h;exact A e (by simp) i r G
     .exact ih (λ F j=>A F (by simp[j])) h
  exact this l A h
 .intro f g h
  have:∀(ks:List bf),(∀e,e∈ks->sZ P e)->Oe ks f=some g->aqH g/\akU P f g:=by
   intro ks
   induction ks with
   |nil=>intro _ h;cases h
   |cons e l ih =>
    intro A C;simp only[Oe]at C;cases B:amH e.f f
    .rw[B]at C;exact ih (λ F j=>A F (by simp[j])) C
    .rw[B]at C;simp only[aY,gU]at C;have e1:=aiL B;rw[<-C,<-e1];exact A e (by simp)
  exact this ks I h
theorem Pt{P:Program}{l:List Entry}{ks:List bf}(i:∀e,e∈l->jr P e)(j:∀e,e∈ks->sZ P e):BR P (tab l ks):=⟨Uw i j,λ _ _ h=>(by cases h),λ _ _ h=>(by cases h),λ _ _ h=>(by cases h),λ _ _ h=>(by cases h)⟩
def oN(P:Program)(e:dZ):Prop:=MOk P e.f e.g/\∀g,e.n=some g->NOk P e.f g
theorem kV{P:Program}{l:List Entry}{ks:List bf}{ms:List dZ}(F:∀e,e∈l->jr P e)(G:∀e,e∈ks->sZ P e)(j:∀e,e∈ms->oN P e):BR P (Nz l ks ms):=by
 refine⟨Uw F G,λ f g h=>?_,λ f g h=>?_,λ _ _ h=>(by cases h),λ _ _ h=>(by cases h)⟩
 .have:∀(ms:List dZ),(∀e,e∈ms->oN P e)->XP ms f=some g->MOk P f g:=by
   intro ms
   induction ms with
   |nil=>intro _ h;cases h
   |cons e l ih =>
    intro j i;simp only[XP]at i;cases B:amH e.f f
    .rw[B]at i;exact ih (λ C A=>j C (by simp[A])) i
    .rw[B]at i;simp only[aY,gU]at i;have e1:=aiL B;rw[<-i,<-e1];exact(j e (by simp)).1
  exact this ms j h
 .have:∀(ms:List dZ),(∀e,e∈ms->oN P e)->XQ ms f=some g->NOk P f g:=by
   intro ms
   induction ms with
   |nil=>intro _ h;cases h
   |cons e l ih =>
    intro j i;simp only[XQ]at i;cases B:amH e.f f
    .rw[B]at i;exact ih (λ C A=>j C (by simp[A])) i
    .rw[B]at i;simp only[aY]at i;have e1:=aiL B;rw[<-e1];exact(j e (by simp)).2 g i
  exact this ms j h
def ev(P:Program)(l:List Entry)(ks:List bf)(L:Nat->Option dY)(fn:Func)(args:List AV)(k:AV->Option Out):Option Out:=abody P (tab l ks) (lq P (tab l ks)) L 40 fn args k
def ret:AV->Option Out:=λ v=>some (Out.of v)
def bC:Nat->Option dY:=λ _=>none
theorem aC{P:Program}{c:Code}:yx P bC c:=λ _ _ _ _ _ h=>by cases h
theorem Pv {P : Program} {l : List Entry} {ks : List bf} {L : Nat -> Option dY} (A : ∀ e, e ∈ l -> jr P e) (B : ∀ e, e ∈ ks -> sZ P e) (C : P.follows .mixedOrders = true) {f : Nat} {fn : Func} (hf : P.funcs[f]? = some fn) (j : (fn.name == "runtime.NumGoroutine") = false) {c : Code} (F : fn.body = some c) (G : yx P L c)
  {args:List AV} (i:apB args.length fn.ntmps=true) {r:AV} (h:ev P l ks L fn args ret=some (Out.of r)):aj P f args r :=
 vG (Pt A B) (gJ (Pt A B) C) 40 hf j F G i h
def inl(P:Program)(l:List Entry)(ks:List bf)(L:List AV->Nat->Option dY)(f:Nat)(fn:Func):bf:=⟨f,λ e k=>cond (apB e.length fn.ntmps) (ev P l ks (L e) fn e k) none⟩
theorem aAP {P : Program} {l : List Entry} {ks : List bf} {L : List AV -> Nat -> Option dY} (F : ∀ e, e ∈ l -> jr P e) (G : ∀ e, e ∈ ks -> sZ P e) (C : P.follows .mixedOrders = true) {f : Nat} {fn : Func} (hf : P.funcs[f]? = some fn) (B : (fn.name == "runtime.NumGoroutine") = false) {c : Code} (I : fn.body = some c) (K : ∀ args, yx P (L args) c) : sZ P (inl P l ks L f fn) := by
 have J:=Pt F G;have M:=gJ J C
 have par:∀args k r,ev P l ks (L args) fn args k=some r->∃v,k v=some r/\∀A,ev P l ks (L args) fn args A=A v:=by
  intro args k r h;unfold ev abody at h ⊢;rw[I]at h ⊢;simp only at h ⊢;obtain⟨e,O,i,N⟩:=ahs J.par M.1 40 c (K args) _ _ _ h;cases e<;>simp only[agr]at i<;>first | (cases i;done) |skip
  all_goals
   split at i
   .rename_i v hv;exact⟨v,i,λ A=>by rw[N];simp only[agr,hv]⟩
   .cases i
 constructor
 .intro args k r h;simp only[inl]at h ⊢;cases j:apB args.length fn.ntmps
  .rw[j]at h;cases h
  .rw[j]at h;simp only[aY]at h ⊢;exact par args k r h
 .intro args v h;simp only[inl]at h;have i:=h ret;cases j:apB args.length fn.ntmps
  .rw[j]at i;cases i
  .rw[j]at i;exact wV (Pv F G C hf B I (K args) j i)
end
noncomputable section
def JK(keep:List Nat)(σ:Nat->Option Nat):Nat->List (AV × Chain)->List (AV × Chain)
 |_,[]=>[]
 |i,q::qs=>(cond (keep.contains i) (match q.2 with
  | []=>kG σ q.1
  |_::_=>.any) .any,[])::JK keep σ (i+1) qs
def K5(σ:Nat->Option Nat):Row->Row
 |.c l=>.c (jo σ l)
 |.t e l=>.t e (jo σ l)
 |.z _ _ _ _ _=>.dead
 |r=>r
def keepR(τ:List (Option Nat))(mem:List Row):List (Option Nat)->List Row
 | []=>[]
 |none::os=>.dead::keepR τ mem os
 |some k::os=>K5 (jC τ) (mem.getD k .dead)::keepR τ mem os
def bW(keep:List Nat)(τ:List (Option Nat))(s:St):St:=⟨JK keep (jC τ) 0 s.slots,keepR τ s.mem τ⟩
def lF(τ:List (Option Nat))(s:St):Bool:=distinct τ&&τ.all λ o=>match o with
 |some k=>Tv k s.mem.length
 |none=>true
theorem EP{keep:List Nat}{σ:Nat->Option Nat}:∀(i:Nat) (l:List (AV × Chain)),LJ σ l (JK keep σ i l)
 |_,[]=>trivial
 |i,q::qs=>by
  refine⟨⟨rfl,?_⟩,EP (i+1) qs⟩;simp only;cases keep.contains i
  .exact wV rfl
  .simp only[aY];cases hq:q.2 with
   |nil=>exact Gc ⟨rfl,Gc (wV rfl)⟩
   |cons p c=>exact wV rfl
theorem um{σ:Nat->Option Nat}:∀(l:List AV),(jo σ l).length=l.length
 | []=>by rw[jo]
 |x::xs=>by rw[jo,aBz,aBz,um xs]
theorem xP{σ:Nat->Option Nat}:∀(l:List AV),yJ σ l (jo σ l)
 | []=>by rw[jo];trivial
 |x::xs=>by rw[jo];exact⟨Gc (wV rfl),xP xs⟩
theorem zN{τ:List (Option Nat)}{mem:List Row}:∀(os:List (Option Nat)),(os.all λ o=>match o with |some k=>Tv k mem.length |none=>true)=true->tN τ mem os (keepR τ mem os)
 | [],_=>trivial
 |none::os,h=>⟨trivial,zN os (by simpa using h)⟩
 |some k::os,h=>by
  simp only[aIk,CX]at h;have j:k<mem.length:=nH h.1;refine⟨⟨mem[k],Ga j,?_⟩,zN os h.2⟩;have e:mem.getD k .dead=mem[k]:=by rw[Gd,Ga j];rfl
  rw[e];cases A:mem[k]with
  |c l=>exact Gc (wV ⟨l,jo (jC τ) l,rfl,rfl,xP l⟩)
  |a e sz n el=>exact Gc (Gc (wV ⟨e,sz,n,el,el,rfl,rfl,λ _ _=>rfl⟩))
  |dead=>exact wV rfl
  |z x e sz n el=>exact wV rfl
  |t e l=>exact Gc (Gc (Gc (wV ⟨e,l,jo (jC τ) l,rfl,rfl,xP l,um l⟩)))
  |i s p e=>exact Gc (Gc (Gc (Gc ⟨s,p,e,rfl,rfl⟩)))
theorem agh{keep:List Nat}{τ:List (Option Nat)}{s:St}(h:lF τ s=true):Sub s (bW keep τ s):=by unfold lF at h;simp only[CX]at h;exact ace τ h.1 (EP 0 s.slots) (zN τ h.2)
def Ze(keep:List Nat)(τ:List (Option Nat)):jL:=λ e s=>cond (lF τ s) (some ⟨e,bW keep τ s,.any⟩) none
def Ma(k:jL):Prop:=∀e s o,k e s=some o->o.e=e/\Sub s o.s
theorem J4{P:Program}{T:Tab}{D:List Oper->St->SK->Option Out}{L:Nat->Option dY}{N:Nat}{c:Code}{s s':St}{e:Exit}{k:jL}(A:Ma k)(C:BR P T)(I:DOk P D)(F:yx P L c)(h:jw P T D L N c s k=some ⟨e,s',.any⟩):bH P c s e s':=λ A0 R w0 E a j G=>by refine Go.Code.wp_mono ?_ (Io j C I N c F G h);rintro O U Y ⟨X,l,rfl,i,B⟩;obtain⟨M,K⟩:=A O l _ B;obtain⟨W,e2,J⟩:=K A0 R w0 X U j i;exact⟨M.symm,W,e2,J⟩
theorem Jv(keep:List Nat)(τ:List (Option Nat)):Ma (Ze keep τ):=λ e s o h=>by
 unfold Ze at h;cases hf:lF τ s
 .rw[hf]at h;cases h
 .rw[hf]at h;simp only[aY,gU]at h;subst h;exact⟨rfl,agh hf⟩
def gu(keep:List Nat)(τ:List (Option Nat)):jL:=λ e s=>match e with
 |.normal=>Ze keep τ .normal s
 |_=>none
def QK(keep:List Nat)(τ:List (Option Nat)):jL:=λ e s=>match e with
 |.normal=>none
 |e=>Ze keep τ e s
theorem bB(keep:List Nat)(τ:List (Option Nat)):Ma (gu keep τ):=λ e s o h=>by unfold gu at h;cases e<;>simp only at h<;>first | (cases h;done) |exact Jv keep τ _ s o h
theorem pV(keep:List Nat)(τ:List (Option Nat)):Ma (QK keep τ):=λ e s o h=>by unfold QK at h;cases e<;>simp only at h<;>first | (cases h;done) |exact Jv keep τ _ s o h
def agi(row h:Row):Prop:=h=row\/∃e l n el j,row=.a e l n el/\h=.a e l n j/\∀i,i<n->j i=el i
def xJ:List Row->List Row->Prop
 | [],[]=>True
 |r::rs,r'::rs'=>agi r r'/\xJ rs rs'
 |_,_=>False
theorem xJ.get:∀{rs e:List Row},xJ rs e->∀k:Nat,(rs[k]?=none/\e[k]?=none)\/∃r i,rs[k]?=some r/\e[k]?=some i/\agi r i
 | [],[],_,k=>wV ⟨by simp,by simp⟩
 |r::rs,i::e,h,k=>by
  cases k with
  |zero=>exact Gc ⟨r,i,rfl,rfl,h.1⟩
  |succ k=>simpa using xJ.get h.2 k
 | [],_::_,h,_=>h.elim
 |_::_,[],h,_=>h.elim
theorem ig{np:Nat}{sl:List (AV × Chain)}{mem mem':List Row}(h:xJ mem mem'):fQ np ⟨sl,mem⟩ ⟨sl,mem'⟩:=by
 intro A0 R w0 E a Y j
 have lives:∀k,aN mem' k=aN mem k:=λ k=>by
  unfold aN;rcases h.get k with⟨A,l⟩ | ⟨r,J,A,l,Z⟩
  .rw[A,l]
  .rw[A,l];rcases Z with rfl | ⟨e,M,n,el,K,rfl,rfl,_⟩<;>rfl
 refine⟨E,rfl,j.defers,j.frame,⟨λ k b c B=>?_,j.wd.small,j.wd.old,λ k b c B F=>j.wd.own k b c B (by rw[<-lives];exact F),λ k X b c c' B G F C=>j.wd.one k X b c c' B G (by rw[<-lives];exact F) (by rw[<-lives];exact C),j.wd.below,j.wd.zA⟩⟩;obtain⟨row,A,l⟩:=j.wd.rows k b c B;rcases h.get k with⟨I,_⟩ | ⟨r,J,I,g2,g3⟩
 .have:mem[k]?=some row:=A;rw[I]at this;cases this
 .have:mem[k]?=some row:=A;rw[I]at this;cases this;refine⟨J,g2,?_⟩;rcases g3 with rfl | ⟨e,M,n,el,K,rfl,rfl,g4⟩
  .exact l
  .obtain⟨cs,W,U,k3,k4,O,N⟩:=l;exact⟨cs,W,U,k3,k4,O,λ i hi=>by rw[g4 i hi];exact N i hi⟩
def dH(fn:Func):Code:=fn.body.getD .skip
def av(fn:Func)(i:Nat):Code:=(bL (dH fn)).getD i .skip
def jR(P:Program)(l:List Entry)(ks:List bf)(L:Nat->Option dY)(c:Code)(s:St)(k:jL):Option Out:=jw P (tab l ks) (lq P (tab l ks)) L 40 c s k
def mkS(n:Nat)(l:List (Nat × AV))(mem:List Row):St:=⟨(aFB n).map λ i=>(match l.find? (λ p=>amH p.1 i)with
 |some p=>p.2
 |none=>.any,[]),mem⟩
end
noncomputable section
def gate(p:Prop)(x:Option Out):Option Out:=open Classical in if p then x else none
theorem ak{p:Prop}{x:Option Out}(h:p):gate p x=x:=by unfold gate;rw[gH h]
theorem ji{p:Prop}{x:Option Out}{r:Out}(h:gate p x=some r):p/\x=some r:=by
 unfold gate at h;split at h
 .rename_i e;exact⟨e,h⟩
 .cases h
def fF(keep:List Nat)(τ:List (Option Nat))(s0:St)(e:Exit)(sf:St):dY:=λ s k=>cond (lF τ s) (gate (Sub (bW keep τ s) s0) (k e sf)) none
theorem aS{P:Program}{c:Code}{keep:List Nat}{τ:List (Option Nat)}{s0 sf:St}{e:Exit}(h:bH P (.loop c) s0 e sf):Dw P c (fF keep τ s0 e sf):=by
 have J:=GR h
 have get:∀{s:St} {k:jL} {r:Out},fF keep τ s0 e sf s k=some r->Sub s s0/\k e sf=some r:=fun{s k r} i=>by
  unfold fF at i;cases hf:lF τ s
  .rw[hf]at i;cases i
  .rw[hf]at i;simp only[aY]at i;obtain⟨I,G⟩:=ji i;exact⟨(agh hf).trans I,G⟩
 have C:∀{s:St} {k:jL} {r:Out},fF keep τ s0 e sf s k=some r->∀j,fF keep τ s0 e sf s j=j e sf:=fun{s k r} i j=>by
  unfold fF at i ⊢;cases hf:lF τ s
  .rw[hf]at i;cases i
  .rw[hf]at i;simp only[aY]at i ⊢;rw[ak (ji i).1]
 have l:∀{s:St} {k:jL} {r:Out},fF keep τ s0 e sf s k=some r->∀j,told s0 e sf s j=j e sf:=fun{s k r} i j=>by unfold told;rw[gH (get i).1]
 constructor
 .intro s k r i;exact⟨e,sf,(get i).2,C i⟩
 .intro s F K A;have B:=A (λ e s=>some ⟨e,s,.any⟩);refine J.2 s F K λ j=>?_;rw[l B j,<-C B j];exact A j
def eZ(i:Nat)(g:dY):Nat->Option dY:=λ j=>cond (amH j i) (some g) none
theorem qo{P:Program}{c:Code}{i:Nat}{g:dY}(m:Nat)(A:(bL c).length=m)(h:∀j,j<m->jI ((bL c).getD j .skip)=some i->Dw P ((bL c).getD j .skip) g):yx P (eZ i g) c:=by
 intro I F B G hi e;obtain⟨j,C,rfl⟩:=aKh.1 F;unfold eZ at e;cases l:amH B i
 .rw[l]at e;cases e
 .rw[l]at e;cases e;have e1:=aiL l;subst e1;have e2:(bL c).getD j .skip=(bL c)[j]:=by rw[Gd,Ga C];rfl
  have:=h j (by omega) (by rw[e2];exact hi);rw[e2]at this;exact this
def Xy(f:Nat)(a:List AV)(r:AV):bf:=⟨f,λ e k=>gate (e=a) (k r)⟩
theorem tO{P:Program}{f:Nat}{a:List AV}{r:AV}(h:aj P f a r):sZ P (Xy f a r):=by
 constructor
 .intro e k o A;obtain⟨j,i⟩:=ji A;exact⟨r,i,λ B=>ak j⟩
 .intro e v hv;have j:=hv λ x=>some (Out.of x);obtain⟨i,l⟩:=ji j;simp only[gU,Out.of,Out.mk.injEq,true_and]at l;rw[<-l,i];exact wV h
end
noncomputable section
def atc(σ:Nat->Option Nat):Option (Nat × Nat)->AV->AV
 |some (k,sz),x=>match x with
  |.x (.slice none 0 0)=>.bQ k sz 0 0
  |x=>kG σ x
 |none,x=>kG σ x
def anL:List (Nat × Nat × Nat)->Nat->Option (Nat × Nat)
 | [],_=>none
 |p::l,i=>cond (amH p.1 i) (some p.2) (anL l i)
def ad6(keep:List Nat)(jO:List (Nat × Nat × Nat))(σ:Nat->Option Nat):Nat->List (AV × Chain)->List (AV × Chain)
 |_,[]=>[]
 |i,q::qs=>(cond (keep.contains i) (match q.2 with
  | []=>atc σ (anL jO i) q.1
  |_::_=>.any) .any,[])::ad6 keep jO σ (i+1) qs
def WK(τ:List (Option Nat))(mem:List Row)(nr:Row):List (Option Nat)->List Row
 | []=>[]
 |none::os=>nr::WK τ mem nr os
 |some k::os=>K5 (jC τ) (mem.getD k .dead)::WK τ mem nr os
def aFi(keep:List Nat)(jO:List (Nat × Nat × Nat))(nr:Row)(τ:List (Option Nat))(s:St):St:=⟨ad6 keep jO (jC τ) 0 s.slots,WK τ s.mem nr τ⟩
theorem ZI{σ:Nat->Option Nat}(o:Option (Nat × Nat))(x:AV):R8 σ x (atc σ o x):=by
 unfold atc;split
 .split
  .exact Gc (Gc ⟨rfl,_,_,rfl⟩)
  .exact Gc (wV rfl)
 .exact Gc (wV rfl)
theorem Qw{keep:List Nat}{jO:List (Nat × Nat × Nat)}{σ:Nat->Option Nat}:∀(i:Nat) (l:List (AV × Chain)),LJ σ l (ad6 keep jO σ i l)
 |_,[]=>trivial
 |i,q::qs=>by
  refine⟨⟨rfl,?_⟩,Qw (i+1) qs⟩;simp only;cases keep.contains i
  .exact wV rfl
  .simp only[aY];cases hq:q.2 with
   |nil=>exact Gc ⟨rfl,ZI _ _⟩
   |cons p c=>exact wV rfl
theorem Ht{τ:List (Option Nat)}{mem:List Row}{nr:Row}:∀(os:List (Option Nat)),(os.all λ o=>match o with |some k=>Tv k mem.length |none=>true)=true->tN τ mem os (WK τ mem nr os)
 | [],_=>trivial
 |none::os,h=>⟨trivial,Ht os (by simpa using h)⟩
 |some k::os,h=>by
  simp only[aIk,CX]at h;have j:k<mem.length:=nH h.1;refine⟨⟨mem[k],Ga j,?_⟩,Ht os h.2⟩;have e:mem.getD k .dead=mem[k]:=by rw[Gd,Ga j];rfl
  rw[e];cases A:mem[k]with
  |c l=>exact Gc (wV ⟨l,jo (jC τ) l,rfl,rfl,xP l⟩)
  |a e sz n el=>exact Gc (Gc (wV ⟨e,sz,n,el,el,rfl,rfl,λ _ _=>rfl⟩))
  |dead=>exact wV rfl
  |z x e sz n el=>exact wV rfl
  |t e l=>exact Gc (Gc (Gc (wV ⟨e,l,jo (jC τ) l,rfl,rfl,xP l,um l⟩)))
  |i s p e=>exact Gc (Gc (Gc (Gc ⟨s,p,e,rfl,rfl⟩)))
theorem ao9{keep:List Nat}{jO:List (Nat × Nat × Nat)}{nr:Row}{τ:List (Option Nat)}{s:St}(h:lF τ s=true):Sub s (aFi keep jO nr τ s):=by unfold lF at h;simp only[CX]at h;exact ace τ h.1 (Qw 0 s.slots) (Ht τ h.2)
def wG(keep:List Nat)(jO:List (Nat × Nat × Nat))(nr:Row)(τ:List (Option Nat))(s0:St)(e:Exit)(sf:St):dY:=λ s k=>cond (lF τ s) (gate (Sub (aFi keep jO nr τ s) s0) (k e sf)) none
theorem oo{P:Program}{c:Code}{keep:List Nat}{jO:List (Nat × Nat × Nat)}{nr:Row}{τ:List (Option Nat)}{s0 sf:St}{e:Exit}(h:bH P (.loop c) s0 e sf):Dw P c (wG keep jO nr τ s0 e sf):=by
 have J:=GR h
 have get:∀{s:St} {k:jL} {r:Out},wG keep jO nr τ s0 e sf s k=some r->Sub s s0/\k e sf=some r:=fun{s k r} i=>by
  unfold wG at i;cases hf:lF τ s
  .rw[hf]at i;cases i
  .rw[hf]at i;simp only[aY]at i;obtain⟨I,G⟩:=ji i;exact⟨(ao9 hf).trans I,G⟩
 have C:∀{s:St} {k:jL} {r:Out},wG keep jO nr τ s0 e sf s k=some r->∀j,wG keep jO nr τ s0 e sf s j=j e sf:=fun{s k r} i j=>by
  unfold wG at i ⊢;cases hf:lF τ s
  .rw[hf]at i;cases i
  .rw[hf]at i;simp only[aY]at i ⊢;rw[ak (ji i).1]
 have l:∀{s:St} {k:jL} {r:Out},wG keep jO nr τ s0 e sf s k=some r->∀j,told s0 e sf s j=j e sf:=fun{s k r} i j=>by unfold told;rw[gH (get i).1]
 constructor
 .intro s k r i;exact⟨e,sf,(get i).2,C i⟩
 .intro s F K A;have B:=A (λ e s=>some ⟨e,s,.any⟩);refine J.2 s F K λ j=>?_;rw[l B j,<-C B j];exact A j
end
end Go.Gv
namespace Go.Ev
open Go.RowKit Go.ChangeShapes Go.WideShapes Go.ChangeAt
section
variable{H:Type}{enc:TypeId × Value->H}{P:Program}
theorem F7(A:laidOutB P=true){W C:World}(B:Below W.heap.size W C):∀{e:List TypeId} {i:List Value} {l:List (DataW H)} {p:List MemPlace},(e.all λ t=>P.readableRec t&&decide (t<P.types.size))=true ->
  aIU enc P W 0 (λ _=>true) true e i l p->(∀x∈p,x.block<W.heap.size)->aIU enc P C 0 (λ b=>decide (b<W.heap.size)) true e i l p
 | [],[],[],_,_,h,_=>h
 |t::e,v::i,d::l,p,ht,h,hlt=>by obtain⟨p1,F,I,G,rfl⟩:=h;simp only[aIk,CX]at ht;exact⟨p1,F,Below.trod A ht.1.1 (Qx ht.1.2) I B (λ x j=>hlt x (aH6 _ j)),F7 A B ht.2 G (λ x j=>hlt x (aHt _ j)),rfl⟩
 | [],_::_,_,_,_,h,_=>by simp[aIU]at h
 | [],[],_::_,_,_,h,_=>by simp[aIU]at h
 |_::_,[],_,_,_,h,_=>by simp[aIU]at h
 |_::_,_::_,[],_,_,h,_=>by simp[aIU]at h
theorem ZG{fn:Func}{s:ChangeSpec}{W J:World}{args:Array Value}{j I:List (DataW H)}{before:List MemPlace}{B:TypeId}(O:laidOutB P=true)(l:(fn.params.toList.all λ t=>P.readableRec t&&decide (t<P.types.size))=true)
  (hv:s.vars=[]) (M:fn.resultTypes=#[B]) (A:P.underlying B=some .bool) (e:s.fn H (j++I)={ results:=[.lit (.bool true)],args:=j }) (F:DataW.Whole enc P fn.params.toList s.vars false W args.toList j I before)
  (C:Below W.heap.size W J):s.post enc P fn false true false false W args (.bool true) J:=by
 have i:=F;obtain⟨p,q,X,G,rfl,U,N⟩:=F;rw[hv]at G;obtain⟨rfl,rfl⟩:=trodVars_none G;refine⟨j,[],p++[],[],p,[],i,?_,?_,?_,C.frame _,λ h=>by cases h⟩
 .rw[e,M];exact trodAll_mk1 (shut_bool A true)
 .rw[e];exact F7 O C l X (λ x K=>by simpa using i.lt x (by simpa using K))
 .rw[e,hv];exact rfl
def rT{α:Type}:List (Option (List α))->Option (List α)
 | []=>some []
 |some a::l=>(rT l).map (a++·)
 |none::_=>none
def P9(P:Program):Nat->List Field->Bool
 |_,[]=>true
 |o,f::fs=>(f.offset==o)&&P9 P (o+P.cellsOf f.type) fs
section
variable{w:World}{base:Nat}{spare:Nat->Bool}{held:Bool}{fuel:Nat}{t:TypeId}{cs:List Value}{x:DataW H × List MemPlace}
theorem trod_bool'(e:P.underlying t=some .bool)(h:aHO enc P w base spare held fuel t cs=some x):∃b,cs=[.bool b]:=by
 cases fuel with
 |zero=>simp[aHO]at h
 |succ m =>
  unfold aHO at h;rw[e]at h;split at h<;>simp_all
theorem trod_int'{k:IntKind}(e:P.underlying t=some (.int k))(h:aHO enc P w base spare held fuel t cs=some x):∃n,cs=[.int k n]/\(Lit.int k n).wf=true:=by
 cases fuel with
 |zero=>simp[aHO]at h
 |succ m =>
  unfold aHO at h;rw[e]at h;split at h<;>simp_all
theorem Z9{k:FloatKind}(e:P.underlying t=some (.float k))(h:aHO enc P w base spare held fuel t cs=some x):∃b,cs=[.float k b]/\(Lit.float k b).wf=true:=by
 cases fuel with
 |zero=>simp[aHO]at h
 |succ m =>
  unfold aHO at h;rw[e]at h;split at h<;>simp_all
theorem trod_string'(e:P.underlying t=some .string)(h:aHO enc P w base spare held fuel t cs=some x):∃s,cs=[.string s]/\s.size<=maxLen:=by
 cases fuel with
 |zero=>simp[aHO]at h
 |succ m =>
  unfold aHO at h;rw[e]at h;split at h<;>simp_all
end
end
end Go.Ev
namespace Go.Gv
open Go.RowKit Go.ChangeShapes Go.WideShapes Go.ChangeAt
open Go.Ev (cn P9 rT)
noncomputable section
inductive Kd where
 |b
 |i (k:IntKind)
 |f
 |s
 |l (sz:Nat) (ks:List Kd)
mutual
def Fv:Kd->AV->Prop
 |.b,a=>∃x,a=.x (.bool x)
 |.i k,a=>∃n,a=.x (.int k n)/\(Lit.int k n).wf=true
 |.f,a=>∃n,a=.f (cn n)/\(Lit.float .f64 n).wf=true
 |.s,a=>∃s:ByteArray,a=.x (.string s)/\s.size<=maxLen
 |.l sz ks,a=>∃n el,a=.sl sz n el/\n<=maxLen/\∀i,i<n->uF ks (el i)
def uF:List Kd->List AV->Prop
 | [],[]=>True
 |k::ks,a::aZ=>Fv k a/\uF ks aZ
 |_,_=>False
end
theorem sU{k:Kd}{ks:List Kd}{a:AV}{e:List AV}:uF (k::ks) (a::e)↔Fv k a/\uF ks e:=by rw[uF]
theorem JX:uF [] []:=by rw[uF];trivial
theorem D5:∀{ks:List Kd} {j:List AV} {e:List Kd} {i:List AV},uF ks j->uF e i->uF (ks++e) (j++i)
 | [],[],_,_,_,h=>h
 |k::ks,a::j,_,_,h,h'=>by have h:=sU.1 h;exact sU.2 ⟨h.1,D5 h.2 h'⟩
 | [],_::_,_,_,h,_=>by rw[uF]at h;exact h.elim;all_goals (intros;simp_all)
 |_::_,[],_,_,h,_=>by rw[uF]at h;exact h.elim;all_goals (intros;simp_all)
theorem uG:∀{ks:List Kd} {e:List AV},uF ks e->ks.length=e.length
 | [],[],_=>rfl
 |k::ks,a::e,h=>by simp[uG (sU.1 h).2]
 | [],_::_,h=>by rw[uF]at h;exact h.elim;all_goals (intros;simp_all)
 |_::_,[],h=>by rw[uF]at h;exact h.elim;all_goals (intros;simp_all)
def kd1:TypeDesc->Option Kd
 |.bool=>some .b
 |.int k=>some (.i k)
 |.float .f64=>some .f
 |.string=>some .s
 |_=>none
def SF(P:Program):Nat->TypeId->Option (List Kd)
 | 0,_=>none
 |fuel+1,t=>match P.underlying t with
  |some (.struct fs)=>cond (P9 P 0 fs.toList) (match rT (fs.toList.map λ f=>SF P fuel f.type)with
   |some ks=>cond (ks.length==P.cellsOf t) (some ks) none
   |none=>none) none
  |some (.array n e)=>match rT (aGe n (SF P fuel e))with
   |some ks=>cond (ks.length==P.cellsOf t) (some ks) none
   |none=>none
  |some (.slice e)=>match SF P fuel e with
   |some ks=>cond ((P.cellsOf t==1)&&(Tv 0 ks.length&&(ks.length==P.cellsOf e))) (some [.l (P.cellsOf e) ks]) none
   |none=>none
  |some d=>match kd1 d with
   |some k=>cond (P.cellsOf t==1) (some [k]) none
   |none=>none
  |none=>none
theorem qM{α:Type}{b:Bool}{x y:α}(h:cond b (some x) none=some y):b=true/\x=y:=by
 cases b
 .cases h
 .exact⟨rfl,by simpa using h⟩
theorem Hr{P:Program}{n:Nat}{t:TypeId}{ks:List Kd}(h:SF P n t=some ks):ks.length=P.cellsOf t:=by
 cases n with
 |zero=>simp[SF]at h
 |succ n =>
  unfold SF at h;split at h
  .rename_i j _;cases i:P9 P 0 j.toList
   .rw[i]at h;cases h
   .rw[i]at h;simp only[aY]at h;split at h
    .obtain⟨e,rfl⟩:=qM h;simpa using e
    .cases h
  .split at h
   .obtain⟨e,rfl⟩:=qM h;simpa using e
   .cases h
  .split at h
   .obtain⟨e,rfl⟩:=qM h;simp only[CX,WO]at e;simp[e.1]
   .cases h
  .split at h
   .obtain⟨e,rfl⟩:=qM h;have:P.cellsOf t=1:=by simpa using e
    simp[this]
   .cases h
  .cases h
section
variable{H:Type}{enc:TypeId × Value->H}{P:Program}{w:World}{base:Nat}{spare:Nat->Bool}{held:Bool}
def Env.all(w:World):Env:=⟨w,λ _=>False,λ _=>none⟩
theorem D6{E:Env}:∀{xs ys:List AV} {us e:List Value},dW E xs us->dW E ys e->dW E (xs++ys) (us++e)
 | [],_,us,_,h,h'=>by rw[bR.1 h];exact h'
 |x::xs,_,us,_,h,h'=>by obtain⟨u,i,rfl,l,j⟩:=aD.1 h;exact aD.2 ⟨u,_,rfl,l,D6 j h'⟩
theorem Ql{cs:List Value}{n:Nat}:∀(l:List Field) (o:Nat) (ks:List Kd),P9 P o l=true->rT (l.map λ f=>SF P n f.type)=some ks ->
  (∀f,f∈l->∀i,SF P n f.type=some i->∃h,uF i h/\dW (Env.all w) h ((cs.drop f.offset).take (P.cellsOf f.type)))->cs.length=o+ks.length->∃h,uF ks h/\dW (Env.all w) h (cs.drop o)
 | [],o,ks,_,hc,_,hl=>by simp[rT]at hc;subst hc;rw[aJ1 (by simp at hl;omega)];exact⟨[],JX,bR.2 rfl⟩
 |f::l,o,ks,hr,hc,hm,hl=>by
  simp only[P9,CX]at hr;have A:f.offset=o:=by simpa using hr.1
  simp only[aKE]at hc;cases hf:SF P n f.type with
  |none=>rw[hf]at hc;simp[rT]at hc
  |some i =>
   rw[hf]at hc;simp only[rT]at hc;cases e:rT (l.map λ f=>SF P n f.type)with
   |none=>rw[e]at hc;cases hc
   |some kl =>
    rw[e]at hc;simp only[aaF,gU]at hc;subst hc;obtain⟨a1,G,j⟩:=hm f (by simp) i hf;rw[A]at j;have B:=Hr hf;simp only[aiR]at hl;obtain⟨I,F,g2⟩:=Ql l (o+P.cellsOf f.type) kl hr.2 e (λ g C=>hm g (by simp[C])) (by omega)
    have hsplit:cs.drop o=(cs.drop o).take (P.cellsOf f.type)++cs.drop (o+P.cellsOf f.type):=by rw[<-aNw,aLt]
    rw[hsplit];exact⟨a1++I,D5 G F,D6 j g2⟩
theorem Tj{cs:List Value}{n:Nat}{e:TypeId}:∀(k o:Nat) (ks:List Kd),rT (aGe k (SF P n e))=some ks ->
  (∀i,o<=i->i<o+k->∀A,SF P n e=some A->∃l,uF A l/\dW (Env.all w) l ((cs.drop (i*P.cellsOf e)).take (P.cellsOf e)))->cs.length=o*P.cellsOf e+ks.length->∃l,uF ks l/\dW (Env.all w) l (cs.drop (o*P.cellsOf e))
 | 0,o,ks,hc,_,hl=>by simp[rT]at hc;subst hc;rw[aJ1 (by simp at hl;omega)];exact⟨[],JX,bR.2 rfl⟩
 |k+1,o,ks,hc,hm,hl=>by
  simp only[List.replicate_succ]at hc;cases hf:SF P n e with
  |none=>rw[hf]at hc;simp[rT]at hc
  |some A =>
   rw[hf]at hc;simp only[rT]at hc;rw[<-hf]at hc;cases j:rT (aGe k (SF P n e))with
   |none=>rw[j]at hc;cases hc
   |some kl =>
    rw[j]at hc;simp only[aaF,gU]at hc;subst hc;obtain⟨a1,f1,C⟩:=hm o (by omega) (by omega) A hf;have B:=Hr hf;simp only[aiR]at hl;have h:(o+1)*P.cellsOf e=o*P.cellsOf e+P.cellsOf e:=Nat.succ_mul o _;obtain⟨G,F,g2⟩:=Tj k (o+1) kl j (λ i J I=>hm i (by omega) (by omega)) (by rw[h];omega)
    have hsplit:cs.drop (o*P.cellsOf e)=(cs.drop (o*P.cellsOf e)).take (P.cellsOf e)++cs.drop ((o+1)*P.cellsOf e):=by rw[h,<-aNw,aLt]
    rw[hsplit];exact⟨a1++G,D5 f1 F,D6 C g2⟩
theorem addr_add(b o i:Nat):(⟨b,o,none⟩:Addr).add i=⟨b,o+i,none⟩:=by unfold Addr.add;split<;>simp_all
theorem Qm{a:Addr}{v:Value}(h:w.cell? a=some v):∃cs e fz,a.spot=none/\w.heap[a.block]?=some (.cells cs e fz)/\cs.toList[a.off]?=some v:=by
 obtain⟨b,o,sp⟩:=a;unfold World.cell? at h;split at h
 .rename_i cs e fz i;cases sp with
  |none =>
   simp only[Option.isSome_none,aFs,if_false]at h;exact⟨cs,e,fz,rfl,i,by simpa using h⟩
  |some k=>simp at h
 .cases h
theorem aiD:∀(n:Nat) (fuel:Nat) {t:TypeId} {cs:List Value} {y:DataW H × List MemPlace} {ks:List Kd},
  aHO enc P w base spare held fuel t cs=some y->SF P n t=some ks->∃F,uF ks F/\dW (Env.all w) F cs:=by
 classical
 intro n
 induction n with
 |zero=>intro fuel t cs y ks _ h;simp[SF]at h
 |succ n ih =>
  intro fuel t cs y ks hd B;have aHb:=Hr B;unfold SF at B;cases M:P.underlying t with
  |none=>rw[M]at B;cases B
  |some d =>
   rw[M]at B
   have one:∀(_:(match kd1 d with |some k=>cond (P.cellsOf t==1) (some [k]) none |none=>none)=some ks),∃F,uF ks F/\dW (Env.all w) F cs:=by
    intro B;split at B
    .rename_i k C;obtain⟨_,rfl⟩:=qM B;have A:∀{v:Value} {a:AV},cs=[v]->Fv k a->rel (Env.all w) a v->∃F,uF [k] F/\dW (Env.all w) F cs:=λ e G U=>⟨[_],sU.2 ⟨G,JX⟩,by rw[e];exact aD.2 ⟨_,[],rfl,U,bR.2 rfl⟩⟩;cases d<;>simp only[kd1]at C<;>first | (cases C;done) |skip
     .cases C;obtain⟨b,e⟩:=Go.Ev.trod_bool' M hd;exact A e (by rw[Fv];exact⟨b,rfl⟩) (cB.2 rfl)
     .cases C;obtain⟨b,e,hw⟩:=Go.Ev.trod_int' M hd;exact A e (by rw[Fv];exact⟨b,rfl,hw⟩) (cB.2 rfl)
     .rename_i fk;cases fk<;>simp only at C<;>first | (cases C;done) |skip
      cases C;obtain⟨b,e,hw⟩:=Go.Ev.Z9 M hd;exact A e (by rw[Fv];exact⟨b,rfl,hw⟩) (by show bY _ _ _;rw[bY];exact⟨b,rfl,rfl⟩)
     .cases C;obtain⟨b,e,hw⟩:=Go.Ev.trod_string' M hd;exact A e (by rw[Fv];exact⟨b,rfl,hw⟩) (cB.2 rfl)
    .cases B
   cases d
   case struct fs =>
    obtain⟨xs,m,rfl,_,hcl,hxl,hf⟩:=DataW.trod_struct M hd;simp only at B;cases I:P9 P 0 fs.toList
    .rw[I]at B;cases B
    .rw[I]at B;simp only[aY]at B;split at B
     .rename_i X aA8;obtain⟨_,rfl⟩:=qM B
      have:=Ql (w:=w) (cs:=cs) fs.toList 0 X I aA8 (λ f hfm kf Z=>by
       obtain⟨i,hi,rfl⟩:=aKh.1 hfm;have hi':i<fs.size:=by simpa using hi
       have G:=hf i fs[i] (ayT hi');have U:xs[i]?=some xs[i]:=Ga (by omega);rw[U]at G;exact ih m G Z) (by omega)
      simpa using this
     .cases B
   case array k e =>
    obtain⟨xs,m,rfl,_,hcl,hxl,hf⟩:=DataW.trod_array M hd;simp only at B;split at B
    .rename_i X aA8;obtain⟨_,rfl⟩:=qM B
     have:=Tj (w:=w) (cs:=cs) k 0 X aA8 (λ i _ hi kf Z=>by have G:=hf i (by omega);have U:xs[i]?=some xs[i]:=Ga (by omega);rw[U]at G;exact ih m G Z) (by simp;omega)
     simpa using this
    .cases B
   case slice e =>
    simp only at B;split at B
    .rename_i ke hke;obtain⟨hcond,rfl⟩:=qM B;simp only[CX,WO]at hcond;obtain⟨hc1,W,hlen⟩:=hcond;have W:0<ke.length:=Ou W;have A:∀{v:Value} {a:AV},cs=[v]->Fv (.l (P.cellsOf e) ke) a->rel (Env.all w) a v->∃F,uF [Kd.l (P.cellsOf e) ke] F/\dW (Env.all w) F cs:=λ e G U=>⟨[_],sU.2 ⟨G,JX⟩,by rw[e];exact aD.2 ⟨_,[],rfl,U,bR.2 rfl⟩⟩;rcases DataW.trod_slice M hd with⟨O,_⟩ | ⟨a,len,cap,elems,rest,m,_,O,_,hb,hl,hm,hel,hall,_,_⟩
     .exact A (a:=.sl (P.cellsOf e) 0 (λ _=>[])) O (by rw[Fv];exact⟨0,_,rfl,alz _,λ i hi=>by omega⟩) (by show bY _ _ _;rw[bY];exact⟨none,0,rfl,ND _,wV rfl⟩)
     .by_cases hz:len=0
      .subst hz;exact A (a:=.sl (P.cellsOf e) 0 (λ _=>[])) O (by rw[Fv];exact⟨0,_,rfl,alz _,λ i hi=>by omega⟩) (by show bY _ _ _;rw[bY];exact⟨_,cap,rfl,alz _,wV rfl⟩)
      .have J:∀i,i<len->∃F K,uF ke F/\dW (Env.all w) F K/\w.cells? base (a.add (i*P.cellsOf e)) (P.cellsOf e)=some K:=λ i hi=>by have G:=hall i hi;have U:elems[i]?=some elems[i]:=Ga (by omega);rw[U,Option.bind_eq_some_iff]at G;obtain⟨K,hus,htr⟩:=G;obtain⟨F,g1,g2⟩:=ih m htr hke;exact⟨F,K,g1,g2,hus⟩
       obtain⟨_,us0,_,_,aFf⟩:=J 0 (by omega);have c0:=(aJo aFf).2.2 0 (by omega);have hz0:us0[0]?=some (us0[0]'(by have:=(aJo aFf).2.1;omega)):=Ga _;rw[hz0]at c0;obtain⟨bcs,be,bfz,hsub,hheap,_⟩:=Qm c0;obtain⟨b,o,sp⟩:=a
       have hsp:sp=none:=by
        cases sp with
        |none=>rfl
        |some k=>simp[Addr.add]at hsub
       subst hsp;have hblk:((⟨b,o,none⟩:Addr).add (0*P.cellsOf e)).add 0=⟨b,o,none⟩:=by rw[addr_add,addr_add];simp
       rw[hblk]at hheap;simp only at hheap;let el:Nat->List AV:=λ i=>if h:i<len then(J i h).choose else []
       have elp:∀i (h:i<len),∃K,uF ke (el i)/\dW (Env.all w) (el i) K/\w.cells? base ((⟨b,o,none⟩:Addr).add (i*P.cellsOf e)) (P.cellsOf e)=some K:=λ i h=>by simp only[el,h,dif_pos];exact(J i h).choose_spec
       refine A (a:=.sl (P.cellsOf e) len el) O ?_ ?_
       .rw[Fv];exact⟨len,el,rfl,aa2 hl hm,λ i hi=>(elp i hi).choose_spec.1⟩
       .show bY _ _ _;rw[bY];refine⟨_,cap,rfl,hl,Gc ⟨b,o,bcs,be,bfz,rfl,λ h=>h,hheap,λ i hi=>?_⟩⟩;obtain⟨K,g1,g2,g3⟩:=elp i hi;have hul:=(aJo g3).2.1;have aG2:=fO g2;refine⟨by rw[aG2];exact hul,?_⟩;refine jY (E:=(Env.all w).fz) (iV g2) λ j hj=>?_;have hcj:=(aJo g3).2.2 j (by omega);have hj0:K[j]?=some (K[j]'(by omega)):=Ga _;rw[hj0]at hcj ⊢;obtain⟨aHl,be',aHm,_,N,Y⟩:=Qm hcj;rw[addr_add,addr_add]at N Y;simp only at N Y;rw[hheap]at N;cases N;rw[List.getElem?_drop];exact Y
    .cases B
   all_goals exact one B
theorem Zk{n fuel:Nat}{t:TypeId}{v:Value}{y:DataW H × List MemPlace}{k:Kd}(h:aHO enc P w base spare held fuel t v.cells.toList=some y)(A:SF P n t=some [k])(j:v.cells=#[v]):∃a,Fv k a/\rel (Env.all w) a v:=by
 obtain⟨C,i,l⟩:=aiD n fuel h A;rw[j]at l
 match C,i,l with
 | [a],i,l =>
  obtain⟨u,F,e,B,_⟩:=aD.1 l;simp at e;rw[e.1];exact⟨a,(sU.1 i).1,B⟩
 | [],i,_=>have:=uG i;simp at this
 |_::_::_,i,_=>have:=uG i;simp at this
end
end
open Go.Ev
noncomputable section
def iG(keep:List Nat)(τ:List (Option Nat)):jL:=λ e s=>match e with
 |.exit i=>Ze keep τ (.exit i) s
 |_=>none
theorem dB(keep:List Nat)(τ:List (Option Nat)):Ma (iG keep τ):=λ e s o h=>by unfold iG at h;cases e<;>simp only at h<;>first | (cases h;done) |exact Jv keep τ _ s o h
def aly(i:Nat)(g:dY)(e:Nat)(h:dY):Nat->Option dY:=λ j=>cond (amH j i) (some g) (cond (amH j e) (some h) none)
end
end Go.Gv
namespace Go.Proofs.YtdlhemnconimnaaGreat
open Go.Gv Go.RowKit Go.ChangeShapes Go.WideShapes Go.ChangeAt
def iA(n:Int):AV:=.x (.int .i64 n)
def bA(b:Bool):AV:=.x (.bool b)
theorem aB{P:Program}:∀e,e∈([]:List Entry)->jr P e:=λ _ h=>by cases h
theorem ay{P:Program}:∀e,e∈([]:List bf)->sZ P e:=λ _ h=>by cases h
theorem aL{P:Program}{e:Entry}{l:List Entry}(h:jr P e)(A:∀e,e∈l->jr P e):∀i,i∈e::l->jr P i:=λ i j=>by
 rcases aHJ.1 j with rfl |j
 .exact h
 .exact A i j
theorem au{P:Program}{e:bf}{l:List bf}(h:sZ P e)(A:∀e,e∈l->sZ P e):∀i,i∈e::l->sZ P i:=λ i j=>by
 rcases aHJ.1 j with rfl |j
 .exact h
 .exact A i j
theorem aK{l:List Entry}{ks:List bf}{L:Nat->Option dY}{c:Code}{s s':St}{e:Exit}{k:jL}(A:Ma k)(j:∀e,e∈l->jr bO e)(i:∀e,e∈ks->sZ bO e)(B:yx bO L c)(h:jR bO l ks L c s k=some ⟨e,s',.any⟩):bH bO c s e s' :=J4 A (Pt j i) (gJ (Pt j i) (by kernel_rfl)) B h
theorem aR{l:List Entry}{ks:List bf}{L:Nat->Option dY}(B:∀e,e∈l->jr bO e)(A:∀e,e∈ks->sZ bO e){f:Nat}{fn:Func}(hf:bO.funcs[f]?=some fn)(F:yx bO L (dH fn))
  {args : List AV} {r : AV} (h : ev bO l ks L fn args ret = some (Out.of r)) (j : (fn.name == "runtime.NumGoroutine") = false := by kernel_rfl) (C : fn.body = some (dH fn) := by kernel_rfl) (i : apB args.length fn.ntmps = true := by rfl) : aj bO f args r := Pv B A (by kernel_rfl) hf j C F i h
def aH(n:Int):Int:=IntKind.i64.wrap n
theorem aO{n:Int}(h:-9223372036854775808<=n:=by omega)(e:n<=9223372036854775807:=by omega):aH n=n:=by unfold aH;rw[IntKind.wrap_i64];omega
theorem QW(n:Nat):decide (0<=(n:Int))=true:=gG (Int.natCast_nonneg _)
theorem bI{a b:Nat}(h:a<b):decide ((a:Int)<(b:Int))=true:=gG (by omega)
theorem bJ(a:Nat):decide ((a:Int)<(a:Int))=false:=iH (by omega)
theorem aQ{n:Nat}(h:n<4611686018427387904):aH ((n:Int)+1)=((n+1:Nat):Int):=by rw[aO];omega
theorem Tryz.own:ownKnob bO.godebug=none:=by kernel_rfl
theorem Tryz.laidOut:laidOutB bO=true:=by kernel_rfl
end Go.Proofs.YtdlhemnconimnaaGreat
namespace Go.Gv
open Go.RowKit Go.Ev
noncomputable section
def dJ(P:Program)(f:Nat)(args:List AV)(mem:List Row)(v:AV)(mem1:List Row):Prop :=
 vJ P f/\∀(R:Nat->Prop) (E:Env) (i:Array Value),Ib mem.length E.A R E->Wd E.A R E E mem->xk E->dW E args i.toList ->
  Calls P f i E.w λ e j=>∃u h,e=.returned u/\h.w=j/\Wd E.A R E h mem1/\rel h v u
mutual
def QY:AV->Bool
 |.bQ _ _ st len=>Tv 0 (st+len)
 |.view _ _ _ _ n=>Tv 0 n
 |.agg l=>ZX l
 |.bK l=>ZX l
 |.jd _ x=>QY x
 |.fn _ a b=>ZX a&&ZX b
 |.iN l _=>amH 0 (aT l).length
 |_=>true
def ZX:List AV->Bool
 | []=>true
 |x::xs=>QY x&&ZX xs
end
mutual
theorem afV:∀(x:AV) {E:Env} {u:Value},bY x E u->QY x=true->∀k,k∈qJ x->∃p,E.O k=some p
 |.own k off,E,u,h,_,k',e=>by rw[bY]at h;obtain⟨b,c,B,_⟩:=h;simp[qJ]at e;subst e;exact⟨_,B⟩
 |.qX k sz i sub,E,u,h,_,k',e=>by rw[bY]at h;obtain⟨b,c,B,_⟩:=h;simp[qJ]at e;subst e;exact⟨_,B⟩
 |.bQ k sz st len,E,u,h,j,k',e=>by
  rw[bY]at h;simp[qJ]at e;subst e;rw[QY]at j;have j:0<st+len:=Ou j;rcases h with⟨B,A,_⟩ | ⟨b,c,n,B,_⟩
  .omega
  .exact⟨_,B⟩
 |.view k sz st sub n,E,u,h,j,k',e=>by
  rw[bY]at h;simp[qJ]at e;subst e;rw[QY]at j;have j:0<n:=Ou j;obtain⟨a,c,_,_,C⟩:=h;rcases C with C | ⟨b,K,G,_⟩
  .omega
  .exact⟨_,G⟩
 |.agg l,E,u,h,j,k,e=>by rw[bY]at h;obtain⟨F,_,A⟩:=h;rw[QY]at j;exact ES l A j k (by simpa[qJ]using e)
 |.bK l,E,u,h,j,k,e=>by rw[bY]at h;obtain⟨F,_,A⟩:=h;rw[QY]at j;exact ES l A j k (by simpa[qJ]using e)
 |.jd t x,E,u,h,j,k,e=>by rw[bY]at h;obtain⟨y,_,A⟩:=h;rw[QY]at j;exact afV x A j k (by simpa[qJ]using e)
 |.fn g a b,E,u,h,j,k,e=>by
  rw[bY]at h;obtain⟨J,I,_,A,C⟩:=h;rw[QY]at j;simp only[CX]at j;simp only[qJ,aIm]at e;rcases e with e |e
  .exact ES a A j.1 k e
  .exact ES b C j.2 k e
 |.x _,_,_,_,_,_,e=>by simp[qJ]at e
 |.f _,_,_,_,_,_,e=>by simp[qJ]at e
 |.cx _ _,_,_,_,_,_,e=>by simp[qJ]at e
 |.ref _ _,_,_,_,_,_,e=>by simp[qJ]at e
 |.iN l _,_,_,_,j,_,e=>by rw[QY]at j;simp only[qJ]at e;have:=aiL j;rw[List.length_eq_zero_iff.1 this.symm]at e;cases e
 |.sl _ _ _,_,_,_,_,_,e=>by simp[qJ]at e
 |.any,_,_,_,_,_,e=>by simp[qJ]at e
theorem ES:∀(xs:List AV) {E:Env} {us:List Value},jg xs E us->ZX xs=true->∀k,k∈aT xs->∃p,E.O k=some p
 | [],_,_,_,_,_,e=>by simp[aT]at e
 |x::xs,E,u::us,h,hw,k,e=>by
  rw[jg]at h;rw[ZX]at hw;simp only[CX]at hw;simp only[aT,aIm]at e;rcases e with e |e
  .exact afV x h.1 hw.1 k e
  .exact ES xs h.2 hw.2 k e
 |_::_,_,[],h,_,_,_=>by simp[jg]at h
end
def Row.pure:Row->Bool
 |.c l=>cK l
 |.a _ _ _ _=>true
 |.dead=>true
 |.t _ l=>cK l
 |.z _ _ _ _ _=>true
 |.i _ _ _=>true
theorem Hl:∀(xs:List AV) {E E':Env},(∀b,¬E.A b->∀e,E.w.heap[b]?=some e->¬E'.A b/\E'.w.heap[b]?=some e)->cK xs=true->∀(us:List Value),lu xs E us->lu xs E' us
 | [],_,_,_,_,_,_=>by unfold lu;trivial
 |x::xs,_,_,h,hn,u::us,hr=>by unfold lu at *;unfold cK at hn;simp only[CX]at hn;exact⟨fG x h hn.1 u hr.1,Hl xs h hn.2 us hr.2⟩
 |_::_,_,_,_,_,[],hr=>by unfold lu at hr;exact hr.elim
theorem yL{E E':Env}(F:E'.w=E.w)(hA:∀b,E'.A b↔E.A b){b:Nat}{c:Nat × Nat}{row:Row}(K:row.pure=true)(h:lQ E b c row):lQ E' b c row:=by
 have G:∀b,¬E.A b->∀I,E.w.heap[b]?=some I->¬E'.A b/\E'.w.heap[b]?=some I:=λ b B I j=>⟨λ C=>B ((hA b).1 C),by rw[F];exact j⟩;cases row with
 |c l =>
  obtain⟨cs,e,B,j⟩:=h;exact⟨cs,e,by rw[F];exact B,Hl l G K _ j⟩
 |a e sz n el =>
  obtain⟨cs,B,j,C,U,O,M⟩:=h;exact⟨cs,by rw[F];exact B,j,C,U,O,λ i hi=>⟨(M i hi).1,oZ (el i) (E:=E.fz) (E':=E'.fz) ⟨G,λ k b J=>by cases J⟩ _ (M i hi).2⟩⟩
 |dead=>trivial
 |i s p e=>exact⟨by rw[F];exact h.1,h.2⟩
 |t e l =>
  obtain⟨cs,B,j,C⟩:=h;exact⟨cs,by rw[F];exact B,Hl l G K _ j,C⟩
 |z x e sz n el =>
  obtain⟨cs,fz,B,j,N,C⟩:=h;exact⟨cs,fz,by rw[F];exact B,j,N,λ i hi=>⟨(C i hi).1,oZ (el i) (E:=E.fz) (E':=E'.fz) ⟨G,λ k b J=>by cases J⟩ _ (C i hi).2⟩⟩
def rU(l:List Nat)(k:Nat):Option Nat:=l.findIdx? (·==k)
theorem sF{l:List Nat}{k i:Nat}(h:rU l k=some i):l[i]?=some k:=by unfold rU at h;rw[List.findIdx?_eq_some_iff_getElem]at h;obtain⟨j,e,_⟩:=h;rw[Ga j];simpa using e
def BH(l:List Nat)(e:Option Nat)(i:Nat):Option Nat:=match l[i]? with
 |some k=>some k
 |none=>cond (amH i l.length) e none
def nodupB:List Nat->Bool
 | []=>true
 |k::l=>!(l.contains k)&&nodupB l
theorem qB:∀{l:List Nat},nodupB l=true->∀(i j k:Nat),l[i]?=some k->l[j]?=some k->i=j
 | [],_,i,j,k,h,_=>by simp at h
 |k0::l,hd,i,j,k,hi,hj=>by
  simp only[nodupB,CX,aIp]at hd
  have e:∀n,l[n]?≠some k0:=λ n A=>by have:l.contains k0=true:=List.contains_iff_mem.2 (ajw A);rw[hd.1]at this;cases this
  cases i with
  |zero =>
   simp at hi;subst hi;cases j with
   |zero=>rfl
   |succ j=>exact absurd (by simpa using hj) (e j)
  |succ i =>
   cases j with
   |zero =>
    simp at hj;subst hj;exact absurd (by simpa using hi) (e i)
   |succ j=>rw[qB hd.2 i j k (by simpa using hi) (by simpa using hj)]
def yK:List (Option Row)->Option (List Row)
 | []=>some []
 |some r::rs=>match yK rs with
  |some l=>some (r::l)
  |none=>none
 |none::_=>none
theorem DJ:∀{rs:List (Option Row)} {l:List Row},yK rs=some l->rs=l.map some
 | [],l,h=>by simp[yK]at h;subst h;rfl
 |some r::rs,l,h=>by
  simp only[yK]at h;split at h
  .rename_i i e;simp only[gU]at h;subst h;rw[DJ e];rfl
  .cases h
 |none::rs,l,h=>by simp[yK]at h
def liftM(w:Option Nat)(c:List AV->List Row->Option (Bool × AV × List Row)):abw:=λ e h l =>
 match yK h with
 |some j=>match c (jo (rU (aT e)) e) j with
  |some (b,v,mem1)=>cond (nodupB (aT e)&&(j.all (λ r=>r.live&&r.pure)&&(mem1.all Row.pure&&(apB j.length mem1.length&&apB mem1.length (j.length+1)))))
    (some (b&&ZX e,⟨kG (BH (aT e) ((mem1[(aT e).length]?).map λ _=>l)) v,aT e,w.bind λ i=>match(aT e)[i]?,mem1[i]? with
     |some k,some r=>some (k,r)
     |_,_=>none,mem1[(aT e).length]?⟩)) none
  |none=>none
 |none=>none
theorem Jp{P:Program}{f:Nat}{w:Option Nat}{c:List AV->List Row->Option (Bool × AV × List Row)}
  (hc:∀args rs v mem1,c args rs=some (true,v,mem1)->dJ P f args rs v mem1/\∀i,i<rs.length->w≠some i->mem1[i]?=rs[i]?):MOk P f (liftM w c):=by
 constructor
 .intro args mem nk bT h _;unfold liftM at h;split at h
  .rename_i rs hrs;split at h
   .rename_i b v mem1 hcc;cases I:(nodupB (aT args)&&(rs.all (λ r=>r.live&&r.pure)&&(mem1.all Row.pure&&(apB rs.length mem1.length&&apB mem1.length (rs.length+1)))))
    .rw[I]at h;cases h
    .rw[I]at h;simp only[aY,gU,Ew,CX]at h I;obtain⟨⟨hbt,aGA⟩,rfl⟩:=h;subst hbt;obtain⟨hnd,hlive,acZ,hlen1,Jr⟩:=I;obtain⟨hg,hsame⟩:=hc _ _ _ _ hcc;have hlen1:=Ou hlen1;have Jr:=Ou Jr;have hmap:=DJ hrs
     have hl:rs.length=(aT args).length:=by have:=congrArg aMj hmap;simpa using this.symm
     have hrow:∀(i k:Nat),(aT args)[i]?=some k->∃row,mem[k]?=some row/\rs[i]?=some row:=λ i k hi=>by
      have e1:=congrArg (λ l:List (Option Row)=>l[i]?) hmap;simp only[aG1,hi,aaF]at e1;cases hr:rs[i]? with
      |none=>rw[hr]at e1;simp at e1
      |some row =>
       rw[hr]at e1;simp only[aaF,gU]at e1;exact⟨row,e1,rfl⟩
     have hok:∀(i:Nat) (row:Row),rs[i]?=some row->row.live=true/\row.pure=true:=λ i row hi=>by have:=ab3.1 hlive row (ajw hi);simpa using this
     refine⟨hg.1,λ A0 R w0 E N bG M hnk hgl hr happ=>?_⟩;have amQ:∀k,k∈aT args->∃p,E.O k=some p:=ES args hr aGA;let O1:Nat->Option (Nat × Nat × Nat):=λ i=>((aT args)[i]?).bind E.O;let E1:Env:={ E with O:=O1 }
     have hO1:∀i b c,E1.O i=some (b,c)->∃k,(aT args)[i]?=some k/\E.O k=some (b,c):=λ i b c hi=>by
      have hi:((aT args)[i]?).bind E.O=some (b,c):=hi;cases hx:(aT args)[i]? with
      |none=>rw[hx]at hi;cases hi
      |some k=>rw[hx]at hi;exact⟨k,rfl,hi⟩
     have Oa:∀(i k:Nat) (p:Nat × Nat × Nat),(aT args)[i]?=some k->E.O k=some p->E1.O i=some p:=λ i k p hi F=>by show((aT args)[i]?).bind E.O=some p;rw[hi];exact F
     let R1:Nat->Prop:=λ b=>∃k c,k∈aT args/\E.O k=some (b,c)
     have lives:∀k,k∈aT args->aN mem k=true:=λ k I=>by obtain⟨i,hi⟩:=aG7.1 I;obtain⟨row,X,g2⟩:=hrow i k hi;unfold aN;rw[X];exact(hok i row g2).1
     have hW1:Wd E.A R1 E1 E1 rs:=by
      refine⟨λ i b c hi=>?_,M.small,λ _ h=>h,λ i b c hi _=>?_,λ i j b c Y hi hj _ _=>?_,qz.refl _ _,Env.le.refl _⟩
      .obtain⟨k,W,h2⟩:=hO1 i b c hi;obtain⟨row,X,g2⟩:=hrow i k W;obtain⟨J,g3,g4⟩:=M.rows k b c h2;rw[X]at g3;cases g3;exact⟨row,g2,yL (E:=E) (E':=E1) rfl (λ _=>Iff.rfl) (hok i row g2).2 g4⟩
      .obtain⟨k,W,h2⟩:=hO1 i b c hi;have hm:=ajw W;exact⟨(M.own k b c h2 (lives k hm)).1,wV ⟨k,c,hm,h2⟩⟩
      .obtain⟨k,W,h2⟩:=hO1 i b c hi;obtain⟨U,h3,h4⟩:=hO1 j b Y hj;have:=M.one k U b c Y h2 h4 (lives k (ajw W)) (lives U (ajw h3));subst this;exact qB hnd i j k W h3
     have XG:Ib rs.length E1.A R1 E1:=by
      refine⟨λ i hi=>?_,λ b K=>?_,M.small⟩
      .show((aT args)[i]?).bind E.O=none;rw[apa (by omega)];rfl
      .obtain⟨k,c,I,hO⟩:=K;obtain⟨i,hi⟩:=aG7.1 I;exact⟨i,c,by have:=(abK.1 hi).1;omega,Oa i k _ hi hO⟩
     have hr1:dW E1 (jo (rU (aT args)) args) bG.toList:=oU args (λ k i p hi F=>Oa i k p (sF hi) F) _ hr;refine(hg.2 R1 E1 bG XG hW1 (Db hgl _) hr1).mono ?_;rintro e w' ⟨u,E',rfl,rfl,G,hrel⟩
     have hE1:∀(i k:Nat),(aT args)[i]?=some k->∃p,E.O k=some p/\E'.O i=some p:=λ i k hi=>by obtain⟨p,F⟩:=amQ k (ajw hi);exact⟨p,F,G.zA.own i p (Oa i k p hi F)⟩
     let nw:Option Row:=mem1[(aT args).length]?;let O2:Nat->Option (Nat × Nat × Nat):=λ k=>if k=nk then(nw.bind λ _=>E'.O (aT args).length)else E.O k
     let E2:Env:={ E' with O:=O2 }
     have hO2:∀k p,E.O k=some p->E2.O k=some p:=λ k p F=>by
      have:k≠nk:=λ e=>by rw[e,hnk]at F;cases F
      show(if k=nk then _ else E.O k)=some p
      rw[fP this];exact F
     have AZ:∀k p,E2.O k=some p->E.O k=some p\/(k=nk/\(∃row,nw=some row)/\E'.O (aT args).length=some p):=λ k p F=>by
      have F:(if k=nk then(nw.bind λ _=>E'.O (aT args).length)else E.O k)=some p:=F
      by_cases I:k=nk
      .rw[gH I]at F;cases C:nw with
       |none=>rw[C]at F;cases F
       |some row=>rw[C]at F;exact Gc ⟨I,⟨row,rfl⟩,F⟩
      .rw[fP I]at F;exact wV F
     have hle:E.le E2:=⟨G.zA.keep,hO2⟩
     have hwr:∀k,k ∉ aT args->∀b c,E.O k=some (b,c)->N[k]?=mem[k]?:=λ k I b c K=>by
      have hne:k≠nk:=λ e=>by rw[e,hnk]at K;cases K
      have:=happ.1 k hne b c K;rw[this];simp only;cases hw:(w.bind λ i=>match(aT args)[i]?,mem1[i]? with |some k,some r=>some (k,r) |_,_=>none)with
      |none=>rfl
      |some q =>
       obtain⟨U,J⟩:=q;simp only;rw[fP];intro e;subst e;cases w with
       |none=>cases hw
       |some i =>
        simp only[aH4]at hw;split at hw
        .rename_i k2 r2 X g2;simp only[gU,Ew]at hw;rw[<-hw.1]at I;exact I (ajw X)
        .cases hw
     have hin:∀(i k:Nat),(aT args)[i]?=some k->N[k]?=mem1[i]?:=λ i k hi=>by
      obtain⟨p,F,_⟩:=hE1 i k hi;have hne:k≠nk:=λ e=>by rw[e,hnk]at F;cases F
      have W:=happ.1 k hne p.1 p.2 F;obtain⟨row,X,g2⟩:=hrow i k hi;have hil:i<rs.length:=(abK.1 g2).1;rw[W];simp only;by_cases hwi:w=some i
      .subst hwi;have hm1:∃r1,mem1[i]?=some r1:=⟨_,Ga (by omega)⟩;obtain⟨r1,hr1⟩:=hm1;simp only[aH4,hi,hr1];simp
      .rw[hsame i hil hwi,g2];cases hw:(w.bind λ i=>match(aT args)[i]?,mem1[i]? with |some k,some r=>some (k,r) |_,_=>none)with
       |none=>exact X
       |some q =>
        obtain⟨U,J⟩:=q;simp only;rw[fP]
        .exact X
        .intro e;subst e;cases w with
         |none=>cases hw
         |some j =>
          simp only[aH4]at hw;split at hw
          .rename_i k2 r2 g3 g4;simp only[gU,Ew]at hw;rw[hw.1]at g3;exact hwi (by rw[qB hnd j i _ g3 hi])
          .cases hw
     have hback:∀i U p,BH (aT args) ((mem1[(aT args).length]?).map λ _=>nk) i=some U->E'.O i=some p->O2 U=some p:=λ i U p hi F=>by
      unfold BH at hi;cases hx:(aT args)[i]? with
      |some k =>
       rw[hx]at hi;simp only[gU]at hi;subst hi;obtain⟨p',X,g2⟩:=hE1 i k hx;rw[F]at g2;cases g2;exact hO2 k p X
      |none =>
       rw[hx]at hi;simp only at hi;cases K:amH i (aT args).length
       .rw[K]at hi;cases hi
       .rw[K]at hi;simp only[aY]at hi;have e1:=aiL K;cases C:mem1[(aT args).length]? with
        |none=>rw[C]at hi;cases hi
        |some row =>
         rw[C]at hi;simp only[aaF,gU]at hi;subst hi;show(if nk=nk then(nw.bind λ _=>E'.O (aT args).length)else E.O nk)=some p
         rw[gH rfl,show nw=some row from C,<-e1,aH4];exact F
     have hrow2:∀b c row,row.pure=true->lQ E' b c row->lQ E2 b c row:=λ b c row F h=>yL (E:=E') (E':=E2) rfl (λ _=>Iff.rfl) F h;have hpure:∀(i:Nat) (row:Row),mem1[i]?=some row->row.pure=true:=λ i row hi=>ab3.1 acZ row (ajw hi);have Pg:∀row,nw=some row->N[nk]?=some row:=λ row C=>happ.2 row C
     have back:∀k b c,E.O k=some (b,c)->aN N k=true->aN mem k=true:=λ k b c K B=>by
      by_cases I:k∈aT args
      .exact lives k I
      .unfold aN at B ⊢;rw[hwr k I b c K]at B;exact B
     have Js:∀b c row,nw=some row->E'.O (aT args).length=some (b,c)->row.live=true->E'.A b/\((∃k Y,k∈aT args/\E.O k=some (b,Y))\/E.w.heap.size<=b):=λ b c row C ho B=>by have:=G.own _ b c ho (by unfold aN;rw[show mem1[(aT args).length]?=some row from C];exact B);exact⟨this.1,this.2⟩
     have Jt:∀row,nw=some row->aN N nk=true->row.live=true:=λ row C B=>by unfold aN at B;rw[Pg row C]at B;exact B
     refine⟨u,E2,rfl,rfl,hle,λ k p F=>(AZ k p F).imp id λ h=>h.1,⟨?_,G.small,λ b K=>G.old b (M.old b K),?_,?_,?_,M.zA.trans hle⟩,rF v hback u hrel⟩
     .intro k b c K;rcases AZ k _ K with W | ⟨rfl,⟨row,C⟩,h2⟩
      .by_cases I:k∈aT args
       .obtain⟨i,hi⟩:=aG7.1 I;obtain⟨p,X,g2⟩:=hE1 i k hi;rw[W]at X;cases X;obtain⟨row,g3,g4⟩:=G.rows i b c g2;exact⟨row,by rw[hin i k hi];exact g3,hrow2 b c row (hpure i row g3) g4⟩
       .obtain⟨row,g3,g4⟩:=M.rows k b c W;refine⟨row,by rw[hwr k I b c W];exact g3,iT hle g4 λ B=>?_⟩;have hlk:aN mem k=true:=by unfold aN;rw[g3];exact B
        refine G.below.block b (M.small b (M.own k b c W hlk).1) ?_;rintro⟨U,Y,hk',Z⟩;have:=M.one k U b c Y W Z hlk (lives U hk');subst this;exact I hk'
      .obtain⟨J,g3,g4⟩:=G.rows _ b c h2
       have e1:J=row:=by have g3:mem1[(aT args).length]?=some J:=g3;have C:mem1[(aT args).length]?=some row:=C;rw[C]at g3;cases g3;rfl
       subst e1;exact⟨J,Pg J C,hrow2 b c J (hpure _ J g3) g4⟩
     .intro k b c K B;rcases AZ k _ K with W | ⟨rfl,⟨row,C⟩,h2⟩
      .obtain⟨X,g2⟩:=M.own k b c W (back k b c W B);exact⟨G.old b X,g2⟩
      .obtain⟨X,g2⟩:=Js b c row C h2 (Jt row C B);refine⟨X,?_⟩;rcases g2 with⟨U,Y,hk',Z⟩ |g2
       .exact(M.own U b Y Z (lives U hk')).2
       .exact Gc (aa2 M.below.size g2)
     .have cross:∀k b c Y,E.O k=some (b,c)->aN N k=true->(∃row,nw=some row)->E'.O (aT args).length=some (b,Y)->aN N nk=true->False:=by
       intro k b c Y K B ⟨row,C⟩ ho zO;have hrl:=Jt row C zO;by_cases I:k∈aT args
       .obtain⟨i,hi⟩:=aG7.1 I;obtain⟨p,X,g2⟩:=hE1 i k hi;rw[K]at X;cases X;have W:aN mem1 i=true:=by unfold aN at B ⊢;rw[hin i k hi]at B;exact B
        have h2:aN mem1 (aT args).length=true:=by unfold aN;rw[show mem1[(aT args).length]?=some row from C];exact hrl
        have:=G.one i (aT args).length b c Y g2 ho W h2;subst this;rw[apa (ND _)]at hi;cases hi
       .have hlk:=back k b c K B;rcases(Js b Y row C ho hrl).2 with⟨U,c2,hk',Z⟩ |g2
        .have:=M.one k U b c c2 K Z hlk (lives U hk');subst this;exact I hk'
        .have:=M.small b (M.own k b c K hlk).1;omega
      intro k U b c Y K Z B zO;rcases AZ k _ K with W | ⟨rfl,C,h2⟩
      .rcases AZ U _ Z with h1' | ⟨rfl,hn',h2'⟩
       .exact M.one k U b c Y W h1' (back k b c W B) (back U b Y h1' zO)
       .exact(cross k b c Y W B hn' h2' zO).elim
      .rcases AZ U _ Z with h1' | ⟨rfl,hn',h2'⟩
       .exact(cross U b Y c h1' zO C h2 B).elim
       .rfl
     .refine⟨G.below.os.trans M.below.os,G.below.tape.trans M.below.tape,G.below.output.trans M.below.output,aa2 M.below.size G.below.size,λ b K C=>?_⟩;refine(G.below.block b (anS K M.below.size) ?_).trans (M.below.block b K C);rintro⟨k,c,I,hk2⟩;rcases(M.own k b c hk2 (lives k I)).2 with h |h
      .exact C h
      .omega
   .cases h
  .cases h
 .intro args rows nk nk' b bT h C;unfold liftM at h ⊢;split at h
  .rename_i rs hrs;split at h
   .rename_i b' v mem1 hcc;cases I:(nodupB (aT args)&&(rs.all (λ r=>r.live&&r.pure)&&(mem1.all Row.pure&&(apB rs.length mem1.length&&apB mem1.length (rs.length+1)))))
    .rw[I]at h;cases h
    .rw[I]at h;simp only[aY,gU,Ew]at h;obtain⟨rfl,rfl⟩:=h;simp only at C;simp only[C,Option.map_none,aY]
   .cases h
  .cases h
end
noncomputable section
theorem awm{np:Nat}{A0 R:Nat->Prop}{w0 E:Env}{mem mem':List Row}(τ:List (Option Nat))(CP:∀k,k<np->τ[k]?=some (some k))(hd:distinct τ=true)(M:Ib np A0 R w0)(B:Wd A0 R w0 E mem)(h2:tN τ mem τ mem') :
  ∃G,Wd A0 R w0 { E with O:=G } mem'/\∀k e p,jC τ k=some e->E.O k=some p->G e=some p:=by
 let G:Nat->Option (Nat × Nat × Nat):=λ e=>(τ[e]?).bind λ o=>o.bind E.O
 have hO:∀k e p,jC τ k=some e->E.O k=some p->G e=some p:=λ k e p h N=>by show((τ[e]?).bind λ o=>o.bind E.O)=some p;rw[NW h];exact N
 have i:∀e p,G e=some p->∃k,τ[e]?=some (some k)/\E.O k=some p:=λ e p N=>by
  have j:((τ[e]?).bind λ o=>o.bind E.O)=some p:=N;cases hx:τ[e]? with
  |none=>rw[hx]at j;cases j
  |some o =>
   rw[hx]at j;cases o with
   |none=>cases j
   |some k=>exact⟨k,rfl,j⟩
 have lives:∀e k,τ[e]?=some (some k)->aN mem' e=true->aN mem k=true:=λ e k h F=>by obtain⟨row,A,Y,g2,g3⟩:=h2.get e k h;unfold aN at F ⊢;rw[g2]at F;rw[Y];exact g3.live F
 refine⟨G,⟨?_,B.small,B.old,?_,?_,B.below,⟨B.zA.keep,λ k p h=>?_⟩⟩,hO⟩
 .intro e b c K;obtain⟨k,h,l⟩:=i e _ K;obtain⟨row,A,Y,g2,g3⟩:=h2.get e k h;obtain⟨Z,g4,g5⟩:=B.rows k b c l;rw[Y]at g4;cases g4;exact⟨A,g2,g3.rel hO g5⟩
 .intro e b c K F;obtain⟨k,h,l⟩:=i e _ K;exact B.own k b c l (lives e k h F)
 .intro e C b c c' K l F W;obtain⟨k,h,X⟩:=i e _ K;obtain⟨k2,I,J⟩:=i C _ l;have:=B.one k k2 b c c' X J (lives e k h F) (lives C k2 I W);subst this;exact vE hd e C k h I
 .have U:k<np:=Nat.lt_of_not_le λ hc=>by rw[M.1 k hc]at h;cases h
  show((τ[k]?).bind λ o=>o.bind E.O)=some p;rw[CP k U];exact B.zA.own k p h
def apR(P:Program)(fn:Func)(τ:List (Option Nat))(s:St):Option Out:=cond (lF τ s) (match qH P s fn.results.toList with
 |some [v]=>some ⟨.normal,⟨[],keepR τ s.mem τ⟩,kG (jC τ) v⟩
 |some vs=>some ⟨.normal,⟨[],keepR τ s.mem τ⟩,.bK (jo (jC τ) vs)⟩
 |none=>none) none
def apx(P:Program)(fn:Func)(τ:List (Option Nat)):jL:=λ e s=>match e with
 |.normal=>apR P fn τ s
 |.ret=>apR P fn τ s
 |_=>none
def Uk(P:Program)(T:Tab)(D:List Oper->St->SK->Option Out)(L:Nat->Option dY)(N:Nat)(fn:Func)(args:List AV)(mem:List Row)(τ:List (Option Nat)):Option Out :=
 match fn.body with
 |some c=>jw P T D L N c (start fn mem args) (apx P fn τ)
 |none=>none
def Fa(np:Nat)(τ:List (Option Nat)):Bool:=(aFB np).all λ k=>match τ[k]? with
 |some (some k')=>amH k' k
 |_=>false
theorem Xu{np:Nat}{τ:List (Option Nat)}(h:Fa np τ=true):∀k,k<np->τ[k]?=some (some k):=λ k j=>by
 unfold Fa at h;have:=ab3.1 h k (aHi.2 j);split at this
 .rename_i l i;have e:=aiL this;subst e;exact i
 .cases this
theorem Xg{P:Program}{fn:Func}{A0 R:Nat->Prop}{w0 E:Env}{s:St}{a:Act}{np:Nat}{τ:List (Option Nat)}(U:Fa np τ=true)(C:Ib np A0 R w0)(K:Inv A0 R w0 E s a){v:AV}{mem1:List Row}(h:apR P fn τ s=some ⟨.normal,⟨[],mem1⟩,v⟩) :
  ∃u E',(results fn a.tmps).run P E.w=.ok u E.w/\E'.w=E.w/\Wd A0 R w0 E' mem1/\rel E' v u:=by
 unfold apR at h;cases hf:lF τ s
 .rw[hf]at h;cases h
 .rw[hf]at h;simp only[aY]at h;unfold lF at hf;simp only[CX]at hf;obtain⟨B,I,J⟩:=awm τ (Xu U) hf.1 C K.wd (zN τ hf.2);cases G:qH P s fn.results.toList with
  |none=>simp[G]at h
  |some xs =>
   obtain⟨i,N,A⟩:=yV K G;have l:=fO A
   have j:(results fn a.tmps).run P E.w=.ok (if h:i.toArray.size=1 then i.toArray[0]else .tuple i.toArray) E.w:=by rw[Gx];simp only[QJ,Sem.run_map,N,uT,aax]
   rw[j];rw[G]at h
   have e:∀(_:i.length≠1),rel { E with O:=B } (.bK (jo (jC τ) xs)) (if h:i.toArray.size=1 then i.toArray[0]else .tuple i.toArray):=by intro F;rw[dif_neg (by simpa using F)];exact rE.2 ⟨i.toArray,rfl,oU xs J i A⟩
   match xs,i,l,A,h,e with
   | [y],[v'],_,A,h,_ =>
    simp only[gU,Out.mk.injEq,St.mk.injEq,true_and]at h;obtain⟨rfl,rfl⟩:=h;obtain⟨W,_,e1,M,_⟩:=aD.1 A;cases e1;exact⟨_,{ E with O:=B },rfl,rfl,I,rF y J v' M⟩
   | [],[],_,_,h,e =>
    simp only[gU,Out.mk.injEq,St.mk.injEq,true_and]at h;obtain⟨rfl,rfl⟩:=h;exact⟨_,{ E with O:=B },rfl,rfl,I,e (by simp)⟩
   |_::_::_,_::_::_,_,_,h,e =>
    simp only[gU,Out.mk.injEq,St.mk.injEq,true_and]at h;obtain⟨rfl,rfl⟩:=h;exact⟨_,{ E with O:=B },rfl,rfl,I,e (by simp)⟩
theorem Fz {P : Program} {T : Tab} {D : List Oper -> St -> SK -> Option Out} {L : Nat -> Option dY} (M : BR P T) (W : DOk P D) (N : Nat) {f : Nat} {fn : Func} (hf : P.funcs[f]? = some fn) (B : (fn.name == "runtime.NumGoroutine") = false) {c : Code} (F : fn.body = some c)
  {args:List AV} {mem:List Row} (O:nT mem.length P L c) (j:apB args.length fn.ntmps=true) {τ:List (Option Nat)} (CP:Fa mem.length τ=true) {v:AV} {mem1:List Row} (h:Uk P T D L N fn args mem τ=some ⟨.normal,⟨[],mem1⟩,v⟩):dJ P f args mem v mem1:=by
 unfold Uk at h;rw[F]at h;simp only at h;refine⟨⟨fn,hf,B,by rw[F];rfl⟩,λ R E I G K J hv=>?_⟩;have i:args.length<=fn.ntmps:=Ou j;refine calls_of_wp hf F ?_;have U:Inv E.A R E E (start fn mem args) { tmps:=I++aHB (fn.ntmps - I.size) undef,defers:=[] }:=⟨rfl,AJ J hv i,K⟩;refine Go.Code.wp_mono ?_ (Io G M W N c O U h);rintro e a' w' ⟨E',s',rfl,l,C⟩;cases e<;>simp only[apx]at C<;>first | (cases C;done) |skip
 all_goals
  obtain⟨u,E2,h1,Z,Y,X⟩:=Xg CP G l C;exact⟨l.defers,u,h1,u,E2,rfl,Z,Y,X⟩
def evM(P:Program)(l:List Entry)(ks:List bf)(ms:List dZ)(L:Nat->Option dY)(fn:Func)(args:List AV)(k:AV->Option Out):Option Out:=abody P (Nz l ks ms) (lq P (Nz l ks ms)) L 40 fn args k
def qO(P:Program)(l:List Entry)(ks:List bf)(ms:List dZ)(L:Nat->Option dY)(c:Code)(s:St)(k:jL):Option Out:=jw P (Nz l ks ms) (lq P (Nz l ks ms)) L 40 c s k
def evG(P:Program)(l:List Entry)(ks:List bf)(ms:List dZ)(L:Nat->Option dY)(fn:Func)(args:List AV)(mem:List Row)(τ:List (Option Nat)):Option Out:=Uk P (Nz l ks ms) (lq P (Nz l ks ms)) L 40 fn args mem τ
def nU(v:AV)(mem1:List Row):Option Out:=some ⟨.normal,⟨[],mem1⟩,v⟩
theorem uh {P : Program} {l : List Entry} {ks : List bf} {ms : List dZ} {L : Nat -> Option dY} (B : ∀ e, e ∈ l -> jr P e) (C : ∀ e, e ∈ ks -> sZ P e) (i : ∀ e, e ∈ ms -> oN P e) (F : P.follows .mixedOrders = true) {f : Nat} {fn : Func} (hf : P.funcs[f]? = some fn) (A : (fn.name == "runtime.NumGoroutine") = false) {c : Code} (G : fn.body = some c) (I : yx P L c)
  {args:List AV} (j:apB args.length fn.ntmps=true) {r:AV} (h:evM P l ks ms L fn args ret=some (Out.of r)):aj P f args r :=
 vG (kV B C i) (gJ (kV B C i) F) 40 hf A G I j h
theorem Xv {P : Program} {l : List Entry} {ks : List bf} {ms : List dZ} {L : Nat -> Option dY} (B : ∀ e, e ∈ l -> jr P e) (C : ∀ e, e ∈ ks -> sZ P e) (i : ∀ e, e ∈ ms -> oN P e) (F : P.follows .mixedOrders = true) {f : Nat} {fn : Func} (hf : P.funcs[f]? = some fn) (A : (fn.name == "runtime.NumGoroutine") = false) {c : Code} (G : fn.body = some c)
  {args:List AV} {mem:List Row} (I:nT mem.length P L c) (j:apB args.length fn.ntmps=true) {τ:List (Option Nat)} (J:Fa mem.length τ=true) {v:AV} {mem1:List Row} (h:evG P l ks ms L fn args mem τ=nU v mem1):dJ P f args mem v mem1 :=
 Fz (kV B C i) (gJ (kV B C i) F) 40 hf A G I j J h
end
noncomputable section
def uI(jO:List (Nat × Nat × Nat))(σ:Nat->Option Nat):Nat->List AV->List AV
 |_,[]=>[]
 |i,x::xs=>atc σ (anL jO i) x::uI jO σ (i+1) xs
theorem BJ{jO:List (Nat × Nat × Nat)}{σ:Nat->Option Nat}:∀(i:Nat) (l:List AV),yJ σ l (uI jO σ i l)
 |_,[]=>trivial
 |i,_::xs=>⟨ZI _ _,BJ (i+1) xs⟩
theorem Cm{jO:List (Nat × Nat × Nat)}{σ:Nat->Option Nat}:∀(i:Nat) (l:List AV),(uI jO σ i l).length=l.length
 |_,[]=>rfl
 |i,_::xs=>by rw[uI,aBz,aBz,Cm (i+1) xs]
def VU(r0:Nat)(jO:List (Nat × Nat × Nat))(σ:Nat->Option Nat)(k:Nat):Row->Row
 |.c l=>cond (amH k r0) (.c (uI jO σ 0 l)) (.c (jo σ l))
 |.z _ _ _ _ _=>.dead
 |.t e l=>cond (amH k r0) (.t e (uI jO σ 0 l)) (.t e (jo σ l))
 |r=>r
def VW(r0:Nat)(jO:List (Nat × Nat × Nat))(τ:List (Option Nat))(mem:List Row)(nr:Row):List (Option Nat)->List Row
 | []=>[]
 |none::os=>nr::VW r0 jO τ mem nr os
 |some k::os=>VU r0 jO (jC τ) k (mem.getD k .dead)::VW r0 jO τ mem nr os
theorem He{r0:Nat}{jO:List (Nat × Nat × Nat)}{τ:List (Option Nat)}{mem:List Row}{nr:Row}:∀(os:List (Option Nat)),(os.all λ o=>match o with |some k=>Tv k mem.length |none=>true)=true->tN τ mem os (VW r0 jO τ mem nr os)
 | [],_=>trivial
 |none::os,h=>⟨trivial,He os (by simpa using h)⟩
 |some k::os,h=>by
  simp only[aIk,CX]at h;have j:k<mem.length:=nH h.1;refine⟨⟨mem[k],Ga j,?_⟩,He os h.2⟩;have e:mem.getD k .dead=mem[k]:=by rw[Gd,Ga j];rfl
  rw[e];cases A:mem[k]with
  |c l =>
   simp only[VU];cases amH k r0
   .exact Gc (wV ⟨l,jo (jC τ) l,rfl,rfl,xP l⟩)
   .exact Gc (wV ⟨l,uI jO (jC τ) 0 l,rfl,rfl,BJ 0 l⟩)
  |a e sz n el=>exact Gc (Gc (wV ⟨e,sz,n,el,el,rfl,rfl,λ _ _=>rfl⟩))
  |dead=>exact wV rfl
  |z x e sz n el=>exact wV rfl
  |t e l =>
   simp only[VU];cases amH k r0
   .exact Gc (Gc (Gc (wV ⟨e,l,jo (jC τ) l,rfl,rfl,xP l,um l⟩)))
   .exact Gc (Gc (Gc (wV ⟨e,l,uI jO (jC τ) 0 l,rfl,rfl,BJ 0 l,Cm 0 l⟩)))
  |i s p e=>exact Gc (Gc (Gc (Gc ⟨s,p,e,rfl,rfl⟩)))
def aEB(keep:List Nat)(r0:Nat)(jO:List (Nat × Nat × Nat))(nr:Row)(τ:List (Option Nat))(s:St):St:=⟨JK keep (jC τ) 0 s.slots,VW r0 jO τ s.mem nr τ⟩
theorem anM{keep:List Nat}{r0:Nat}{jO:List (Nat × Nat × Nat)}{nr:Row}{τ:List (Option Nat)}{s:St}(h:lF τ s=true):Sub s (aEB keep r0 jO nr τ s):=by unfold lF at h;simp only[CX]at h;exact ace τ h.1 (EP 0 s.slots) (He τ h.2)
def F3(keep:List Nat)(r0:Nat)(jO:List (Nat × Nat × Nat))(nr:Row)(τ:List (Option Nat))(s0:St)(e:Exit)(sf:St):dY:=λ s k=>cond (lF τ s) (gate (Sub (aEB keep r0 jO nr τ s) s0) (k e sf)) none
theorem DZ{P:Program}{c:Code}{keep:List Nat}{r0:Nat}{jO:List (Nat × Nat × Nat)}{nr:Row}{τ:List (Option Nat)}{s0 sf:St}{e:Exit}(h:bH P (.loop c) s0 e sf):Dw P c (F3 keep r0 jO nr τ s0 e sf):=by
 have J:=GR h
 have get:∀{s:St} {k:jL} {r:Out},F3 keep r0 jO nr τ s0 e sf s k=some r->Sub s s0/\k e sf=some r:=fun{s k r} i=>by
  unfold F3 at i;cases hf:lF τ s
  .rw[hf]at i;cases i
  .rw[hf]at i;simp only[aY]at i;obtain⟨I,G⟩:=ji i;exact⟨(anM hf).trans I,G⟩
 have C:∀{s:St} {k:jL} {r:Out},F3 keep r0 jO nr τ s0 e sf s k=some r->∀j,F3 keep r0 jO nr τ s0 e sf s j=j e sf:=fun{s k r} i j=>by
  unfold F3 at i ⊢;cases hf:lF τ s
  .rw[hf]at i;cases i
  .rw[hf]at i;simp only[aY]at i ⊢;rw[ak (ji i).1]
 have l:∀{s:St} {k:jL} {r:Out},F3 keep r0 jO nr τ s0 e sf s k=some r->∀j,told s0 e sf s j=j e sf:=fun{s k r} i j=>by unfold told;rw[gH (get i).1]
 constructor
 .intro s k r i;exact⟨e,sf,(get i).2,C i⟩
 .intro s F K A;have B:=A (λ e s=>some ⟨e,s,.any⟩);refine J.2 s F K λ j=>?_;rw[l B j,<-C B j];exact A j
end
def ajc(k sz n:Nat)(el:Nat->List AV):List AV->List AV->Prop
 | [],[]=>True
 |x::xs,y::ys=>(y=x\/(x=.bQ k sz 0 n/\y=.sl sz n el))/\ajc k sz n el xs ys
 |_,_=>False
theorem XZ{E E':Env}{k sz n:Nat}{el:Nat->List AV}(i:E.le E')(e:∀u,rel E (.bQ k sz 0 n) u->rel E' (.sl sz n el) u):∀{l A:List AV} {us:List Value},ajc k sz n el l A->pre E l us->pre E' A us
 | [],[],_,_,_=>pre_nil
 |x::xs,y::ys,us,h,hp=>by
  obtain⟨u,j,rfl,B,C⟩:=bF.1 hp;refine bF.2 ⟨u,j,rfl,?_,XZ i e h.2 C⟩;rcases h.1 with rfl | ⟨rfl,rfl⟩
  .exact lS i B
  .exact e u B
 | [],_::_,_,h,_=>h.elim
 |_::_,[],_,h,_=>h.elim
theorem UA{np:Nat}{slots Y:List (AV × Chain)}{mem mem':List Row}{k:Nat}{e:TypeId}{sz n:Nat}{el:Nat->List AV}(hk:mem[k]?=some (.a e sz n el))
  (hM:∀j row,mem[j]?=some row->∃C,mem'[j]?=some C/\((j=k/\C=.dead)\/(j≠k/\(C=row\/∃l l',row=.c l/\C=.c l'/\ajc k sz n el l l'))))
  (hlen:Y.length=slots.length) (W:∀t,(slots.getD t dflt).2=[]) (hS:∀t,Y.getD t dflt=slots.getD t dflt\/((slots.getD t dflt).1=.bQ k sz 0 n/\Y.getD t dflt=(.sl sz n el,[])))
  (hnp:np<=k) (hlv:∀j,j<np->aN mem j=true):fQ np ⟨slots,mem⟩ ⟨Y,mem'⟩:=by
 intro A0 R w0 E a hp0 hI;have B:Wd A0 R w0 E mem:=hI.wd;have U:aN mem k=true:=by unfold aN;rw[hk];rfl
 let E':Env:={ E with A:=λ b=>E.A b/\∀c,E.O k≠some (b,c) }
 have J:E.le E':=⟨λ b F ob yS=>⟨λ h=>F h.1,yS⟩,λ _ _ h=>h⟩
 have N:∀u,rel E (.bQ k sz 0 n) u->rel E' (.sl sz n el) u:=λ u hu=>by
  rcases dV.1 hu with⟨_,h0,rfl⟩ | ⟨b,c,n0,hO,G,M,rfl⟩
  .exact iZ.2 ⟨none,0,by rw[h0],by omega,wV h0⟩
  .obtain⟨row,X,g2⟩:=B.rows k b (c,n0) hO;rw[hk]at X;cases X;obtain⟨cs,K,h4,h5,h6,h7,h8⟩:=g2;refine iZ.2 ⟨_,_,rfl,by omega,Gc ⟨b,0,cs,e,(0,0),by rw[Nat.zero_mul],λ h=>h.2 _ hO,K,λ i hi=>?_⟩⟩;obtain⟨h9,h10⟩:=h8 i hi;refine⟨h9,?_⟩;rw[ZO];exact lT J.fz h10
 have hlive:∀j,aN mem' j=true->(∃p,E.O j=some p)->j≠k/\aN mem j=true:=λ j Z ⟨p,hp⟩=>by
  obtain⟨row,X,_⟩:=B.rows j p.1 p.2 hp;obtain⟨C,g2,g3⟩:=hM j row X;unfold aN at Z ⊢;rw[g2]at Z;rw[X];rcases g3 with⟨_,rfl⟩ | ⟨I,rfl | ⟨l,l',rfl,rfl,_⟩⟩
  .cases Z
  .exact⟨I,Z⟩
  .exact⟨I,rfl⟩
 have hfr:AB E' Y Y a.tmps:=by
  have h0:=hI.frame;refine⟨⟨by rw[hlen];exact h0.1.1,vo J h0.1.2⟩,λ t=>?_⟩;have G:=h0.2 t;rcases hS t with M | ⟨M,K⟩
  .rw[M,W t];have G:(tF slots (slots.getD t dflt).2=true->rel E (slots.getD t dflt).1 (a.tmps.getD t undef))/\_:=G;rw[W t]at G;exact⟨λ _=>lS J (G.1 rfl),λ h=>by cases h⟩
  .rw[K];have G:(tF slots (slots.getD t dflt).2=true->rel E (slots.getD t dflt).1 (a.tmps.getD t undef))/\_:=G;rw[W t,M]at G;exact⟨λ _=>N _ (G.1 rfl),λ h=>by cases h⟩
 refine⟨E',rfl,hI.defers,hfr,⟨λ j b c F=>?_,λ b F=>B.small b F.1,λ b F=>⟨B.old b F,λ c hc=>?_⟩,λ j b c F hl=>?_,λ j j' b c c' F hb' hl hl'=>?_,B.below,⟨λ b F ob yS=>?_,B.zA.own⟩⟩⟩
 .obtain⟨row,X,g2⟩:=B.rows j b c F;obtain⟨C,g3,g4⟩:=hM j row X;refine⟨C,g3,?_⟩;rcases g4 with⟨_,rfl⟩ | ⟨I,rfl | ⟨l,l',rfl,rfl,hf⟩⟩
  .trivial
  .exact iT J g2 λ _=>rfl
  .obtain⟨cs,e0,K,h4⟩:=g2;exact⟨cs,e0,K,XZ J N hf h4⟩
 .have M:=hp0.2.2;have K:=(B.own k b c hc U).2;have h4:=M b F;rcases K with K |K
  .obtain⟨j,c',Z,hO⟩:=hp0.2.1 b K;have:=B.one k j b c c' hc (B.zA.own j _ hO) U (hlv j Z);omega
  .omega
 .obtain⟨I,hl2⟩:=hlive j hl ⟨_,F⟩;obtain⟨G,M⟩:=B.own j b c F hl2;exact⟨⟨G,λ c' hc=>I (B.one j k b c c' F hc hl2 U)⟩,M⟩
 .exact B.one j j' b c c' F hb' (hlive j hl ⟨_,F⟩).2 (hlive j' hl' ⟨_,hb'⟩).2
 .obtain⟨G,M⟩:=B.zA.keep b F ob yS;exact⟨λ h=>G h.1,M⟩
theorem Xh{slots A:List (AV × Chain)}{mem mem':List Row}{k:Nat}{e:TypeId}{sz n:Nat}{el:Nat->List AV}(F:mem[k]?=some (.a e sz n el))
  (I:∀j row,mem[j]?=some row->∃h,mem'[j]?=some h/\((j=k/\h=.dead)\/(j≠k/\(h=row\/∃l C,row=.c l/\h=.c C/\ajc k sz n el l C))))
  (i:A.length=slots.length) (B:∀t,(slots.getD t dflt).2=[]) (hS:∀t,A.getD t dflt=slots.getD t dflt\/((slots.getD t dflt).1=.bQ k sz 0 n/\A.getD t dflt=(.sl sz n el,[]))):Sub ⟨slots,mem⟩ ⟨A,mem'⟩:=UA F I i B hS (alz _) λ j G=>absurd G (avm j)
def lkS(xs:List (Nat × AV))(i:Nat):AV:=match xs.find? λ p=>p.1.beq i with
 |some p=>p.2
 |none=>.any
theorem I5(n:Nat)(xs:List (Nat × AV))(mem:List Row)(t:Nat):(t<n->(mkS n xs mem).slots.getD t dflt=(lkS xs t,[]))/\(¬t<n->(mkS n xs mem).slots.getD t dflt=dflt):=by
 unfold mkS;simp only[Gd,aG1];refine⟨λ h=>?_,λ h=>?_⟩
 .rw[aJ8 h];rfl
 .rw[apa (by rw[aIq];omega)];rfl
noncomputable section
end
def aaw(keep:List Nat)(τ:List (Option Nat)):jL:=λ e s=>match e with
 |.ret=>Ze keep τ .ret s
 |_=>none
theorem CG(keep:List Nat)(τ:List (Option Nat)):Ma (aaw keep τ):=λ e s o h=>by unfold aaw at h;cases e<;>simp only at h<;>first | (cases h;done) |exact Jv keep τ _ s o h
end Go.Gv
namespace Go.Proofs.YtdlhemnconimnaaGreat
open Go.Gv
def sI(n:Nat)(g:Nat->Int):AV:=.sl 1 n λ i=>[iA (g i)]
def iP(i:Int)(n:Nat):Bool:=decide (0<=i)&&decide (i<n)
theorem bZ{i n:Nat}(h:i<n):iP (i:Nat) n=true:=by unfold iP;rw[QW,bI h];rfl
def isId(o:Option Nat)(i:Nat):Bool:=match o with |some k=>amH k i |none=>false
theorem Gz{P:Program}{c:Code}{i:Nat}{g:dY}(m:Nat)(h:Dw P ((bL c).getD 0 .skip) g)(l:(bL c).length=m+1:=by kernel_rfl)(e:((aFB m).all λ j=>!(isId (jI ((bL c).getD (j+1) .skip)) i))=true:=by kernel_rfl):yx P (eZ i g) c :=
  qo (m+1) l λ j B A=>by
    cases j with
    |zero=>exact h
    |succ j =>
      rw[ab3]at e;have:=e j (aHi.2 (by omega));rw[A]at this;simp[isId]at this
theorem gq{P:Program}{c:Code}{i:Nat}{g:dY}(B m:Nat)(h:Dw P ((bL c).getD B .skip) g)(l:(bL c).length=m:=by kernel_rfl)(e:((aFB m).all λ j=>amH j B||!(isId (jI ((bL c).getD j .skip)) i))=true:=by kernel_rfl):yx P (eZ i g) c :=
 qo m l λ j C A=>by rw[ab3]at e;have:=e j (aHi.2 C);rw[A]at this;simp[isId]at this;subst this;exact h
theorem uj{P:Program}{c:Code}(i:Nat):yx P (eZ i λ _ _=>none) c:=by
 intro I _ l F _ h;unfold eZ at h;cases j:amH l i
 .rw[j]at h;cases h
 .rw[j]at h;cases h;constructor
  .intro s k r A;cases A
  .intro s C G B;have:=B λ e s=>some ⟨e,s,.any⟩;cases this
theorem aqZ{P:Program}{c:Code}{i l:Nat}{g C:dY}(G:yx P (eZ i g) c)(e:yx P (eZ l C) c):yx P (aly i g l C) c:=by
 intro F B j f A hf;unfold aly at hf;cases h:amH j i
 .rw[h]at hf;refine e F B j f A ?_;exact hf
 .rw[h]at hf;refine G F B j f A ?_;unfold eZ;rw[h];exact hf
theorem CJ(f:Nat):sZ bO ⟨f,λ _ _=>none⟩:=by
 constructor
 .intro e k o h;simp at h
 .intro e v h;have i:=h λ x=>some (Out.of x);simp at i
def kS(P:Program)(f:Nat)(g:List AV->AV):bf:=⟨f,λ e k=>gate (aj P f e (g e)) (k (g e))⟩
theorem aG{P:Program}{f:Nat}{g:List AV->AV}:sZ P (kS P f g):=by
 constructor
 .intro e k o i;simp only[kS]at i ⊢;obtain⟨j,i⟩:=ji i;exact⟨g e,i,λ l=>by rw[ak j]⟩
 .intro e v hv;have h:=hv λ x=>some (Out.of x);simp only[kS]at h;obtain⟨j,h⟩:=ji h;simp only[gU,Out.of,Out.mk.injEq,true_and]at h;subst h;exact wV j
theorem ayq{l:List Entry}{ks:List bf}{ms:List dZ}{L:Nat->Option dY}(C:∀e,e∈l->jr bO e)(B:∀e,e∈ks->sZ bO e)(A:∀e,e∈ms->oN bO e){f:Nat}{fn:Func}(hf:bO.funcs[f]?=some fn)(G:yx bO L (dH fn))
  {args : List AV} {r : AV} (h : evM bO l ks ms L fn args ret = some (Out.of r)) (j : (fn.name == "runtime.NumGoroutine") = false := by kernel_rfl) (F : fn.body = some (dH fn) := by kernel_rfl) (i : apB args.length fn.ntmps = true := by rfl) : aj bO f args r := uh C B A (by kernel_rfl) hf j F G i h
theorem rZ{l:List Entry}{ks:List bf}{ms:List dZ}{L:Nat->Option dY}(C:∀e,e∈l->jr bO e)(B:∀e,e∈ks->sZ bO e)(A:∀e,e∈ms->oN bO e){f:Nat}{fn:Func}(hf:bO.funcs[f]?=some fn)
  {args : List AV} {mem : List Row} (G : nT mem.length bO L (dH fn)) {τ : List (Option Nat)} (I : Fa mem.length τ = true) {v : AV} {mem1 : List Row} (h : evG bO l ks ms L fn args mem τ = nU v mem1) (j : (fn.name == "runtime.NumGoroutine") = false := by kernel_rfl) (F : fn.body = some (dH fn) := by kernel_rfl) (i : apB args.length fn.ntmps = true := by rfl) : dJ bO f args mem v mem1 :=
 Xv C B A (by kernel_rfl) hf j F G i I h
theorem aV{P:Program}:∀e,e∈([]:List dZ)->oN P e:=λ _ h=>by cases h
theorem gK{P:Program}{e:dZ}{l:List dZ}(h:oN P e)(A:∀e,e∈l->oN P e):∀i,i∈e::l->oN P i:=λ i j=>by
 rcases aHJ.1 j with rfl |j
 .exact h
 .exact A i j
theorem oO{l:List Entry}{ks:List bf}{ms:List dZ}{L:Nat->Option dY}{c:Code}{s s':St}{e:Exit}{k:jL}(B:Ma k)(A:∀e,e∈l->jr bO e)(j:∀e,e∈ks->sZ bO e)(i:∀e,e∈ms->oN bO e)(C:yx bO L c)(h:qO bO l ks ms L c s k=some ⟨e,s',.any⟩):bH bO c s e s' :=J4 B (kV A j i) (gJ (kV A j i) (by kernel_rfl)) C h
theorem af6(b:Bool)(a c:Int):bM b [iA a] [iA c]=[iA (cond b a c)]:=by unfold iA;simp only[bM,kZ,decide_true,aY]
theorem iU{a b:Nat}(h:a<b):Tv a b=true:=agl h
theorem jM{q m:Nat}(h:Tv q m=false):m<=q:=aIE λ e=>by rw[iU e]at h;cases h
theorem aoy(Q:Nat->Prop):∀m,Q m->∃K,K<=m/\Q K/\∀k,k<K->¬Q k:=by
 intro m
 induction m using aHf with
 |ind m j =>
  intro h;by_cases i:∃k,k<m/\Q k
  .obtain⟨k,e,hq⟩:=i;obtain⟨K,B,A,l⟩:=j k e hq;exact⟨K,by omega,A,l⟩
  .exact⟨m,ND _,h,λ k e hq=>i ⟨k,e,hq⟩⟩
theorem o9(p:Nat->Bool)(n:Nat):(∀i,i<n->p i=true)\/∃K,K<n/\p K=false/\∀i,i<K->p i=true:=by
 by_cases h:∃i,i<n/\p i=false
 .obtain⟨i,hi,e⟩:=h;obtain⟨K,B,A,l⟩:=aoy (λ k=>p k=false) i e;exact Gc ⟨K,by omega,A,λ k j=>by simpa using l k j⟩
 .exact wV λ i hi=>by
   cases e:p i
   .exact absurd ⟨i,hi,e⟩ h
   .rfl
def BL(n:Nat)(p:Nat->Bool):Bool:=open Classical in decide (∀i,i<n->p i=true)
theorem Qc{n:Nat}{p:Nat->Bool}(h:∀i,i<n->p i=true):BL n p=true:=by unfold BL;exact gG h
theorem adN{n:Nat}{p:Nat->Bool}{K:Nat}(i:K<n)(h:p K=false):BL n p=false:=by unfold BL;exact iH λ e=>by rw[e K i]at h;cases h
theorem aaf{n:Nat}{p:Nat->Bool}(h:BL n p=true):∀i,i<n->p i=true:=by unfold BL at h;exact Qx h
theorem aj.wD{P:Program}{f:Nat}{args:List AV}{r e:AV}(h:aj P f args r)(i:∀(E:Env) (v:Value),rel E r v->rel E e v):aj P f args e :=⟨h.1,λ A w I B l j=>(h.2 A w I B l j).mono λ _ _ ⟨v,G,F,C⟩=>⟨v,G,i _ _ F,C⟩⟩
theorem aj.vD{P:Program}{f:Nat}{args args':List AV}{r:AV}(h:aj P f args r)(ha:∀(E:Env) (e:List Value),dW E args' e->dW E args e):aj P f args' r :=⟨h.1,λ A w B j l i=>h.2 A w B j (ha _ _ l) i⟩
theorem wB{E:Env}{sz:Nat}{el:Nat->List AV}{v:Value}(h:rel E (.x (.slice none 0 0)) v):rel E (.sl sz 0 el) v:=by have:=cB.1 h;subst this;exact iZ.2 ⟨none,0,rfl,ND _,wV rfl⟩
theorem ql{E:Env}{sz n:Nat}{el l:Nat->List AV}{v:Value}(h:rel E (.sl sz n el) v)(A:∀i,i<n->l i=el i):rel E (.sl sz n l) v:=by
 have h:bY _ _ _:=h;show bY _ _ _;rw[bY]at h ⊢;obtain⟨a,c,J,I,j⟩:=h;refine⟨a,c,J,I,?_⟩;rcases j with j | ⟨b,o,cs,e,fz,G,F,C,B⟩
 .exact wV j
 .exact Gc ⟨b,o,cs,e,fz,G,F,C,λ i hi=>by rw[A i hi];exact B i hi⟩
theorem ahi{E:Env}{a i b:AV}{v:Value}(h:rel E (.bK [a,b]) v)(ha:∀u,rel E a u->rel E i u):rel E (.bK [i,b]) v:=by obtain⟨j,B,e⟩:=rE.1 h;refine rE.2 ⟨j,B,?_⟩;obtain⟨l,A,e0,r0,e⟩:=aD.1 e;exact aD.2 ⟨l,A,e0,ha _ r0,e⟩
theorem aBF{a b:Nat}(h:a<=b):apB a b=true:=agl h
def Qz(c sz:Nat):Bool:=(c==c)&&apB ((c+1)*sz) 140737488355328
theorem yB{c sz:Nat}(h:(c+1)*sz<=140737488355328):Qz c sz=true:=by unfold Qz;rw[BEq.rfl,agl h];rfl
end Go.Proofs.YtdlhemnconimnaaGreat
namespace Go.Gv
open Go.RowKit Go.Ev
noncomputable section
def vV(P:Program)(f:Nat)(args:List AV)(r:AV):Prop :=
 vJ P f/\∀(w:World) (i:Array Value),dW ⟨w,λ _=>False,λ _=>none⟩ args i.toList->xk ⟨w,λ _=>False,λ _=>none⟩ ->
  Calls P f i w λ e h=>∃v,e=.returned v/\rel ⟨h,λ b=>b<w.heap.size,λ _=>none⟩ r v/\Below w.heap.size w h
theorem yA{P:Program}{f:Nat}{args:List AV}{r:AV}(h:aj P f args r)(e:mV r=true):vV P f args r :=⟨h.1,λ w C j i=>(h.2 (λ _=>False) w C (λ _ h=>h.elim) j i).mono λ _ _ ⟨v,B,A,l⟩=>⟨v,B,EJ r e A,l⟩⟩
section
variable{A0 R:Nat->Prop}{w0 E:Env}{mem:List Row}
end
def newC(P:Program)(f:Nat)(g:List AV->AV)(m:List AV->List Row):List AV->List Row->Option (Bool × AV × List Row):=λ e h=>match h with
 | []=>some (jv (dJ P f e [] (g e) (m e)),g e,m e)
 |_=>none
def mN(P:Program)(f:Nat)(g:List AV->AV)(m:List AV->List Row):dZ:=⟨f,liftM none (newC P f g m),none⟩
theorem auj{P:Program}{f:Nat}{g:List AV->AV}{m:List AV->List Row}:oN P (mN P f g m):=by
 refine⟨Jp λ l B v j e=>?_,λ _ h=>by cases h⟩;unfold newC at e;split at e
 .simp only[gU,Ew]at e;obtain⟨A,rfl,rfl⟩:=e;exact⟨qU A,λ i hi=>absurd hi (avm i)⟩
 .cases e
theorem Wd.same{A0 R:Nat->Prop}{w0 E:Env}{mem mem':List Row}(l:Wd A0 R w0 E mem)(h:xJ mem mem'):Wd A0 R w0 E mem':=by
 have lives:∀k,aN mem' k=aN mem k:=λ k=>by
  unfold aN;rcases h.get k with⟨j,A⟩ | ⟨r,J,j,A,Y⟩
  .rw[j,A]
  .rw[j,A];rcases Y with rfl | ⟨e,M,n,el,K,rfl,rfl,_⟩<;>rfl
 refine⟨λ k b c B=>?_,l.small,l.old,λ k b c B F=>l.own k b c B (by rw[<-lives];exact F),λ k X b c c' B G F C=>l.one k X b c c' B G (by rw[<-lives];exact F) (by rw[<-lives];exact C),l.below,l.zA⟩;obtain⟨row,j,A⟩:=l.rows k b c B;rcases h.get k with⟨I,_⟩ | ⟨r,J,I,g2,g3⟩
 .rw[I]at j;cases j
 .rw[I]at j;cases j;refine⟨J,g2,?_⟩;rcases g3 with rfl | ⟨e,M,n,el,K,rfl,rfl,Z⟩
  .exact A
  .obtain⟨cs,W,U,k3,k4,O,N⟩:=A;exact⟨cs,W,U,k3,k4,O,λ i hi=>by rw[Z i hi];exact N i hi⟩
theorem dJ.AA{P:Program}{f:Nat}{args:List AV}{mem mem1 mem2:List Row}{v:AV}(h:dJ P f args mem v mem1)(hs:xJ mem1 mem2):dJ P f args mem v mem2 :=⟨h.1,λ R E G i l j e=>(h.2 R E G i l j e).mono λ _ _ ⟨u,I,F,C,B,A⟩=>⟨u,I,F,C,B.same hs,A⟩⟩
end
end Go.Gv
namespace Go.Ev
open Go.RowKit
def fabs(x:Nat):Nat:=cond (aF x) Ct (x % 9223372036854775808)
theorem Sl(x:Nat):aF (x % 9223372036854775808)=aF x:=by unfold aF;rw[ow,ow,Nat.mod_mod]
theorem ayo(b:Nat):cn (b % 9223372036854775808)=fabs (cn b):=by
 unfold fabs;rw[xq];cases h:aF b
 .rw[gB (by rw[Sl];exact h),gB h];rfl
 .rw[kR (by rw[Sl];exact h)];rfl
theorem ame(b:Nat):(aIz 64 (b:Int) &&& ~~~aIz 64 9223372036854775808).toNat=b % 9223372036854775808:=by
 have e1:(~~~aIz 64 9223372036854775808)=BitVec.ofNat 64 9223372036854775807:=by decide
 rw[e1,BitVec.ofInt_natCast,BitVec.toNat_and,aL8,aL8];rw[show(9223372036854775807 % 2 ^ 64:Nat)=2 ^ 63 - 1 by decide,Nat.and_two_pow_sub_one_eq_mod];rw[show(9223372036854775808:Nat)=2 ^ 63 by decide];exact Nat.mod_mod_of_dvd _ (Nat.pow_dvd_pow 2 (by omega))
theorem amf(m:Nat)(h:m<9223372036854775808):IntKind.u64.wrap (m:Int)=(m:Int):=by
 unfold IntKind.wrap;simp only[IntKind.bits,IntKind.signed,Bool.false_and,aFs,if_false];have:(2:Int) ^ 64=18446744073709551616:=by decide
 omega
theorem acw(P:Program)(w:World)(t:TypeId)(b:Nat):(binOp .andNot t (.int .u64 b) (.int .u64 9223372036854775808)).run P w=.ok (.int .u64 ((b % 9223372036854775808:Nat):Int)) w:=by have h:=ame b;have i:=amf (b % 9223372036854775808) (Nat.mod_lt _ (by decide));have e:(binOp .andNot t (.int .u64 b) (.int .u64 9223372036854775808)).run P w=.ok (.int .u64 (IntKind.u64.wrap ((aIz 64 (b:Int) &&& ~~~aIz 64 9223372036854775808).toNat:Int))) w:=rfl;rw[e,h,i]
end Go.Ev
namespace Go.Gv
open Go.RowKit Go.Ev
theorem sP{P:Program}{ops:Array Oper}{Q:Exit->Act->World->Prop}{o:Oper}{e:List Oper}{a:Act}{w:World}{v:Value}(j:o.guard=none)(i:(execOp a.eval o).run P w=.ok (.value v) w)
  (h:wpList P ops Q e (a.put o.dst v) w):wpList P ops Q (o::e) a w :=
 wpList_step λ K l=>by rw[gH (by unfold Region.wanted;rw[j])];unfold Oper.wp;rw[i,Oper.upon_value];exact l _ _ h
theorem acy{P:Program}{w:World}{R:Exit->Act->World->Prop}{F C:Nat}{t t':TypeId}{I us:Array TypeId}{K J:Nat}{A l j i h e:Oper}{k B x y z u:Value}
  (Z:A.op=.assign (.const B)) (Y:l.op=.move (.tmp 0)) (X:j.op=.call ⟨.value (.func F),#[.tmp 3],I⟩) (W:i.op=.binOp .andNot t (.tmp 4) (.const k) t')
  (U:h.op=.call ⟨.value (.func C),#[.tmp 5],us⟩) (O:e.op=.assign (.tmp 6)) (d0:A.dst=some 2) (d1:l.dst=some 3) (d2:j.dst=some 4) (d3:i.dst=some 5) (d4:h.dst=some 6) (d5:e.dst=some 2)
  (g0:A.guard=none) (g1:l.guard=none) (g2:j.guard=none) (g3:i.guard=none) (g4:h.guard=none) (g5:e.guard=none)
  (c2:(callFunc F #[x]).run P w=.ok (.value y) w) (c3:(binOp .andNot t y k).run P w=.ok z w) (c4:(callFunc C #[z]).run P w=.ok (.value u) w)
  (N:R .ret { tmps:=#[x,undef,u,x,y,z,u],defers:=[] } w):(Code.seq (.region K #[A] false) (.seq (.region J #[l,j,i,h,e] false) .ret)).wp P R { tmps:=#[x,undef,undef,undef,undef,undef,undef],defers:=[] } w:=by
 refine wp_seq (wp_region_list ?_);refine sP (v:=B) g0 (by simp only[execOp,Z];rfl) ?_;refine wpList_nil ?_;refine wp_seq (wp_region_list ?_);rw[d0];refine sP (v:=x) g1 (by simp only[execOp,Y];rfl) ?_;rw[d1];refine sP (v:=y) g2 (by simp only[execOp,X,resolve,Act.eval,Deferred.ofValue,QJ,aax,uT,invoke,aHH,aHa,aJW,aKE,aK0];exact c2) ?_;rw[d2];refine sP (v:=z) g3 ?_ ?_
 .simp only[execOp,W,QJ];show(((eqGuard .andNot t (.tmp 4) (.const k) y k).run P w).andThen λ _ G=>((binOp .andNot t y k).run P G)).andThen _=_;have M:(eqGuard .andNot t (.tmp 4) (.const k) y k).run P w=.ok () w:=rfl;rw[M,uT,c3];rfl
 rw[d3];refine sP (v:=u) g4 (by simp only[execOp,U,resolve,Act.eval,Deferred.ofValue,QJ,aax,uT,invoke,aHH,aHa,aJW,aKE,aK0];exact c4) ?_;rw[d4];refine sP (v:=u) g5 (by simp only[execOp,O];rfl) ?_;rw[d5];refine wpList_nil ?_;exact wp_ret N
theorem ahI {P : Program} {f : Nat} {fn : Func} (hf : P.funcs[f]? = some fn) (U : (fn.name == "runtime.NumGoroutine") = false) {fb ff t : Nat} {h e : Func}
  (hfb : P.funcs[fb]? = some h) (X : (h.name == "runtime.NumGoroutine") = false) (hbb : h.body.isNone = true) (K : aJM h = none) (heb : aKO h = some Extern.MathFloatBits.float64bits)
  (Z : P.funcs[ff]? = some e) (W : (e.name == "runtime.NumGoroutine") = false) (hbf : e.body.isNone = true) (J : aJM e = none) (hef : aKO e = some Extern.MathFloatBits.float64frombits)
  (i:fn.results=#[.tmp 2]) (O:fn.ntmps=7) {i0 i1:Nat} {I G F C B j:Oper} (hb:fn.body=some (.seq (.region i0 #[I] false) (.seq (.region i1 #[G,F,C,B,j] false) .ret)))
  {v0:Value} {ts us:Array TypeId} {t':TypeId} (h0:I.op=.assign (.const v0)) (h1:G.op=.move (.tmp 0)) (h2:F.op=.call ⟨.value (.func fb),#[.tmp 3],ts⟩) (h3:C.op=.binOp .andNot t (.tmp 4) (.const (.int .u64 9223372036854775808)) t')
  (h4:B.op=.call ⟨.value (.func ff),#[.tmp 5],us⟩) (h5:j.op=.assign (.tmp 6)) (d0:I.dst=some 2) (d1:G.dst=some 3) (d2:F.dst=some 4) (d3:C.dst=some 5) (d4:B.dst=some 6) (d5:j.dst=some 2)
  (g0:I.guard=none) (g1:G.guard=none) (g2:F.guard=none) (g3:C.guard=none) (g4:B.guard=none) (g5:j.guard=none) (a:Nat):aj P f [.f a] (.f (fabs a)):=by
 refine⟨⟨fn,hf,U,by rw[hb];rfl⟩,λ A w bG _ hv _=>?_⟩;obtain⟨l⟩:=bG;obtain⟨v,tl,e1,N,M⟩:=aD.1 hv;have e2:=bR.1 M;obtain⟨b,rfl,rfl⟩:=kU.1 N;have e3:l=[.float .f64 b]:=by rw[e2]at e1;exact e1
 subst e3;refine calls_of_wp hf hb ?_;rw[O]
 have hcb:∀(x:Nat) (w:World),(callFunc fb #[.float .f64 x]).run P w=.ok (.value (.int .u64 x)) w:=λ x w=>by rw[run_callFunc_extern hfb X hbb K heb];rfl
 have hcf:∀(x:Int) (w:World),(callFunc ff #[.int .u64 x]).run P w=.ok (.value (.float .f64 x.toNat)) w:=λ x w=>by rw[run_callFunc_extern Z W hbf J hef];rfl
 refine acy h0 h1 h2 h3 h4 h5 d0 d1 d2 d3 d4 d5 g0 g1 g2 g3 g4 g5 (hcb b w) (acw P w t b) (hcf _ w) ?_;have Y:=ayo b;revert Y;rw[Int.toNat_natCast];generalize b % 9223372036854775808=m;intro Y;refine⟨rfl,.float .f64 m,?_,_,rfl,kU.2 ⟨m,rfl,Y⟩,Below.refl _ _⟩;rw[Gx,i];simp[R9]
end Go.Gv
namespace Go.Proofs.YtdlhemnconimnaaGreat.Hs
open Go.Gv
open Go.Ev (cn aM aU aX fdiv bD dG dR dN iB bW iL fabs)
abbrev V(a b c:Nat):AV:=.agg [.f a,.f b,.f c]
def one:Nat:=4607182418800017408
def iF(x:Nat):Bool:=cond (iL x 13920209183539462144) (iB x 4696837146684686336) false
def fE(a b c:Nat):Bool:=cond (cond (iF a) (iF b) false) (iF c) false
def YX(a b:Nat):Bool:=cond (cond (!dR a a) true (!dR b b)) (cond (!dR a a) (!dR b b) false) (cond (dR a b) (cond (!dR a 0) true (dR (fdiv one a) (fdiv one b))) false)
def amg(a b c d e f:Nat):Bool:=cond (cond (YX a d) (YX b e) false) (YX c f) false
def IG(a b c d e f:Nat):Nat:=aM (aM (aX a d) (aX b e)) (aX c f)
def jk(x:Nat):Nat:=cond (cond (bW x 13740701229962882445) (dN x 4517329193108106637) false) 0 x
def crX(b c e f:Nat):Nat:=aU (aX b f) (aX c e)
def kY(a b c:Nat):Nat:=bD (IG a b c a b c)
def jy(a b:Nat):Nat:=cond (dN b a) b a
def jA(a b:Nat):Nat:=cond (bW b a) b a
def eF(g:Nat->AV):List AV->Option AV
 | [.f a]=>some (g a)
 |_=>none
def eFF(g:Nat->Nat->AV):List AV->Option AV
 | [.f a,.f b]=>some (g a b)
 |_=>none
def ag3(g:Nat->Nat->Nat->AV):List AV->Option AV
 | [.f a,.f b,.f c]=>some (g a b c)
 |_=>none
def eV(g:Nat->Nat->Nat->AV):List AV->Option AV
 | [.agg [.f a,.f b,.f c]]=>some (g a b c)
 |_=>none
def eVV(g:Nat->Nat->Nat->Nat->Nat->Nat->AV):List AV->Option AV
 | [.agg [.f a,.f b,.f c],.agg [.f d,.f e,.f f]]=>some (g a b c d e f)
 |_=>none
def eVF(g:Nat->Nat->Nat->Nat->AV):List AV->Option AV
 | [.agg [.f a,.f b,.f c],.f d]=>some (g a b c d)
 |_=>none
def aqt(g:Nat->Nat->Nat->Nat->Nat->Nat->Nat->AV):List AV->Option AV
 | [.agg [.f a,.f b,.f c],.agg [.f d,.f e,.f f],.f x]=>some (g a b c d e f x)
 |_=>none
theorem Je{f:Nat}{g:Nat->AV}(h:∀a,aj bO f [.f a] (g a)):jr bO ⟨f,eF g⟩:=λ i r e=>by
 simp only[eF]at e;split at e
 .cases e;exact wV (h _)
 .cases e
theorem Dp{f:Nat}{g:Nat->Nat->AV}(h:∀a b,aj bO f [.f a,.f b] (g a b)):jr bO ⟨f,eFF g⟩:=λ i r e=>by
 simp only[eFF]at e;split at e
 .cases e;exact wV (h _ _)
 .cases e
theorem UC{f:Nat}{g:Nat->Nat->Nat->AV}(h:∀a b c,aj bO f [.f a,.f b,.f c] (g a b c)):jr bO ⟨f,ag3 g⟩:=λ i r e=>by
 simp only[ag3]at e;split at e
 .cases e;exact wV (h _ _ _)
 .cases e
theorem uq{f:Nat}{g:Nat->Nat->Nat->AV}(h:∀a b c,aj bO f [V a b c] (g a b c)):jr bO ⟨f,eV g⟩:=λ i r e=>by
 simp only[eV]at e;split at e
 .cases e;exact wV (h _ _ _)
 .cases e
theorem sQ{f:Nat}{g:Nat->Nat->Nat->Nat->Nat->Nat->AV}(h:∀a b c d e f',aj bO f [V a b c,V d e f'] (g a b c d e f')):jr bO ⟨f,eVV g⟩:=λ j r i=>by
 simp only[eVV]at i;split at i
 .cases i;exact wV (h _ _ _ _ _ _)
 .cases i
theorem O0{f:Nat}{g:Nat->Nat->Nat->Nat->AV}(h:∀a b c d,aj bO f [V a b c,.f d] (g a b c d)):jr bO ⟨f,eVF g⟩:=λ i r e=>by
 simp only[eVF]at e;split at e
 .cases e;exact wV (h _ _ _ _)
 .cases e
theorem aeU{f:Nat}{g:Nat->Nat->Nat->Nat->Nat->Nat->Nat->AV}(h:∀a b c d e f' x,aj bO f [V a b c,V d e f',.f x] (g a b c d e f' x)):jr bO ⟨f,aqt g⟩:=λ j r i=>by
 simp only[aqt]at i;split at i
 .cases i;exact wV (h _ _ _ _ _ _ _)
 .cases i
def ls(l:List Nat):Nat->Nat:=λ i=>l.getD i 0
abbrev BX(m:Nat->Nat):AV:=.agg [.f (m 0),.f (m 1),.f (m 2),.f (m 3),.f (m 4),.f (m 5)]
abbrev RY(m:Nat->Nat):AV:=.agg [.f (m 0),.f (m 1),.f (m 2),.f (m 3),.f (m 4),.f (m 5),.f (m 6)]
def eB(g:(Nat->Nat)->AV):List AV->Option AV
 | [.agg [.f a,.f b,.f c,.f d,.f e,.f f]]=>some (g (ls [a,b,c,d,e,f]))
 |_=>none
def HV(g:(Nat->Nat)->AV):List AV->Option AV
 | [.agg [.f a,.f b,.f c,.f d,.f e,.f f,.f x]]=>some (g (ls [a,b,c,d,e,f,x]))
 |_=>none
def eBB(g:(Nat->Nat)->(Nat->Nat)->AV):List AV->Option AV
 | [.agg [.f a,.f b,.f c,.f d,.f e,.f f],.agg [.f a',.f b',.f c',.f d',.f e',.f f']]=>some (g (ls [a,b,c,d,e,f]) (ls [a',b',c',d',e',f']))
 |_=>none
def eBY(g:(Nat->Nat)->(Nat->Nat)->AV):List AV->Option AV
 | [.agg [.f a,.f b,.f c,.f d,.f e,.f f],.agg [.f a',.f b',.f c',.f d',.f e',.f f',.f x]]=>some (g (ls [a,b,c,d,e,f]) (ls [a',b',c',d',e',f',x]))
 |_=>none
theorem auO{f:Nat}{g:(Nat->Nat)->AV}(h:∀a,aj bO f [BX a] (g a)):jr bO ⟨f,eB g⟩:=λ i r e=>by
 simp only[eB]at e;split at e
 .cases e;exact wV (h (ls [_,_,_,_,_,_]))
 .cases e
theorem aki{f:Nat}{g:(Nat->Nat)->AV}(h:∀a,aj bO f [RY a] (g a)):jr bO ⟨f,HV g⟩:=λ i r e=>by
 simp only[HV]at e;split at e
 .cases e;exact wV (h (ls [_,_,_,_,_,_,_]))
 .cases e
theorem abb{f:Nat}{g:(Nat->Nat)->(Nat->Nat)->AV}(h:∀a b,aj bO f [BX a,BX b] (g a b)):jr bO ⟨f,eBB g⟩:=λ i r e=>by
 simp only[eBB]at e;split at e
 .cases e;exact wV (h (ls [_,_,_,_,_,_]) (ls [_,_,_,_,_,_]))
 .cases e
theorem wL{f:Nat}{g:(Nat->Nat)->(Nat->Nat)->AV}(h:∀a b,aj bO f [BX a,RY b] (g a b)):jr bO ⟨f,eBY g⟩:=λ i r e=>by
 simp only[eBY]at e;split at e
 .cases e;exact wV (h (ls [_,_,_,_,_,_]) (ls [_,_,_,_,_,_,_]))
 .cases e
theorem sp{l:List Entry}(A:∀e,e∈l->jr bO e){f:Nat}{fn:Func}(hf:bO.funcs[f]?=some fn){args:List AV}{r:AV}
  (h : ev bO l [] bC fn args ret = some (Out.of r)) (j : (fn.name == "runtime.NumGoroutine") = false := by kernel_rfl) (B : fn.body = some (dH fn) := by kernel_rfl) (i : apB args.length fn.ntmps = true := by rfl) : aj bO f args r := aR A ay hf aC h j B i
theorem acz(b:Bool)(x y:AV):cond b (some (Out.of x)) (some (Out.of y))=some (Out.of (cond b x y)):=by cases b<;>rfl
theorem ayp(b:Bool)(x y:Bool):cond b (bA x) (bA y)=bA (cond b x y):=by cases b<;>rfl
theorem amh(b:Bool)(x y:Nat):cond b (AV.f x) (.f y)=.f (cond b x y):=by cases b<;>rfl
end Go.Proofs.YtdlhemnconimnaaGreat.Hs
namespace Go.Ev
open Go.RowKit
theorem anc(P:Program)(w:World)(b:Nat):∃r w',(aJa #[.float .f64 b]).run P w=.ok (.float .f64 r) w'/\(w'=w\/w'=w.drew)/\cn r=bD (cn b):=by
 have e:aJa #[.float .f64 b]=(match FloatKind.f64.format.sqrt b with
  |some r=>(pure (.float .f64 r):Sem Value)
  |none=>do pure (.float .f64 (<-choose (.nanBits .f64 b b)))):=rfl
 rw[e];unfold bD;rw[asO];cases h:Ieee.double.sqrt b with
 |some r =>
  refine⟨r,w,?_,wV rfl,?_⟩
  .have i:FloatKind.f64.format.sqrt b=some r:=h;simp[i]
  .rw[gB (ada h)];rfl
 |none =>
  refine⟨(Question.nanBits .f64 b b).cut (w.tape w.drawn (.nanBits .f64 b b)),w.drew,?_,Gc rfl,?_⟩
  .have i:FloatKind.f64.format.sqrt b=none:=h;simp[i,Question.forced]
  .rw[kR (SL _ _ _)];rfl
end Go.Ev
namespace Go.Proofs.YtdlhemnconimnaaGreat
open Go.Gv
open Go.Ev (cn aM aU aX fdiv bD dG dR dN iB bW iL fabs)
theorem aD6 {f : Nat} {fn : Func} (hf : bO.funcs[f]? = some fn) (hname : (fn.name == "runtime.NumGoroutine") = false) (j : fn.body.isNone = true) (h : aJM fn = none)
  (i:aKO fn=some aJa) (a:Nat):Cg bO f [.f a] (.f (bD a)):=λ E F hv=>by
 obtain⟨l⟩:=F;obtain⟨v,t,e1,B,A⟩:=aD.1 hv;have e2:=bR.1 A;obtain⟨b,rfl,rfl⟩:=kU.1 B;have e3:l=[.float .f64 b]:=by rw[e2]at e1;exact e1
 subst e3;obtain⟨r,e,C,g2,g3⟩:=Go.Ev.anc bO E.w b;refine⟨.float .f64 r,e,?_,g2,kU.2 ⟨r,rfl,g3⟩⟩;rw[run_callFunc_extern hf hname j h i,C];rfl
end Go.Proofs.YtdlhemnconimnaaGreat
namespace Go.Proofs.YtdlhemnconimnaaGreat.Hs
open Go.Gv
open Go.Ev (cn aM aU aX fdiv bD dG dR dN iB bW iL fabs)
theorem asP:jr bO ⟨156,eF λ x=>.f (bD x)⟩:=λ h r e=>by
 simp only[eF]at e;split at e
 .cases e;exact Gc (aD6 Tryz.func156 (by kernel_rfl) rfl (by kernel_rfl) (by kernel_rfl) _)
 .cases e
def Sq0:List Entry:=[⟨156,eF λ x=>.f (bD x)⟩]
theorem auQ(x:Nat):aj bO 128 [.f x] (.f (bD x)):=sp (l:=Sq0) (aL asP aB) Tryz.func128 (by kernel_rfl)
theorem aDf(a:Nat):aj bO 126 [.f a] (.f (fabs a)) :=ahI Tryz.func126 (by kernel_rfl) Tryz.func155 (by kernel_rfl) (by kernel_rfl) (by kernel_rfl) (by kernel_rfl) Tryz.func154 (by kernel_rfl) (by kernel_rfl) (by kernel_rfl) (by kernel_rfl) rfl rfl rfl rfl rfl rfl rfl rfl rfl rfl rfl rfl rfl rfl rfl rfl rfl rfl rfl rfl rfl a
theorem aD7(x:Nat):aj bO 65 [.f x] (bA (iF x)):=sp aB Tryz.func65 (by kernel_rfl)
theorem aGg(a b c d e f:Nat):aj bO 259 [V a b c,V d e f] (V (aM a d) (aM b e) (aM c f)):=sp aB Tryz.func259 (by kernel_rfl)
theorem aGh(a b c d e f:Nat):aj bO 258 [V a b c,V d e f] (V (aU a d) (aU b e) (aU c f)):=sp aB Tryz.func258 (by kernel_rfl)
theorem azv(a b c k:Nat):aj bO 246 [V a b c,.f k] (V (aX a k) (aX b k) (aX c k)):=sp aB Tryz.func246 (by kernel_rfl)
theorem aD8(a b c k:Nat):aj bO 238 [V a b c,.f k] (V (fdiv a k) (fdiv b k) (fdiv c k)):=sp aB Tryz.func238 (by kernel_rfl)
theorem aGi(a b c d e f:Nat):aj bO 239 [V a b c,V d e f] (.f (IG a b c d e f)):=sp aB Tryz.func239 (by kernel_rfl)
theorem azw(a b c d e f:Nat):aj bO 272 [V a b c,V d e f] (V (crX b c e f) (crX c a f d) (crX a b d e)):=sp aB Tryz.func272 (by kernel_rfl)
theorem asQ(x:Nat):aj bO 112 [.f x] (.f (jk x)):=by
 refine sp aB Tryz.func112 ?_;have h:ev bO [] [] bC Tryz.f112 [.f x] ret=cond (cond (bW x 13740701229962882445) (dN x 4517329193108106637) false) (some (Out.of (.f 0))) (some (Out.of (.f x))):=by kernel_rfl
 rw[h,acz,amh];rfl
def V1:List Entry:=[⟨128,eF λ x=>.f (bD x)⟩,⟨126,eF λ x=>.f (fabs x)⟩,⟨65,eF λ x=>bA (iF x)⟩,⟨259,eVV λ a b c d e f=>V (aM a d) (aM b e) (aM c f)⟩,⟨258,eVV λ a b c d e f=>V (aU a d) (aU b e) (aU c f)⟩,⟨246,eVF λ a b c k=>V (aX a k) (aX b k) (aX c k)⟩,
 ⟨238,eVF λ a b c k=>V (fdiv a k) (fdiv b k) (fdiv c k)⟩,⟨239,eVV λ a b c d e f=>.f (IG a b c d e f)⟩,⟨272,eVV λ a b c d e f=>V (crX b c e f) (crX c a f d) (crX a b d e)⟩,⟨112,eF λ x=>.f (jk x)⟩]
theorem afK:∀e,e∈V1->jr bO e:=aL (Je auQ) <|aL (Je aDf) <|aL (Je aD7) <|aL (sQ aGg) <|aL (sQ aGh) <|aL (O0 azv) <|aL (O0 aD8) <|aL (sQ aGi) <|aL (sQ azw) <|aL (Je asQ) aB
theorem aD9(a b c:Nat):aj bO 64 [V a b c] (bA (fE a b c)):=sp afK Tryz.func64 (by kernel_rfl)
theorem azx(a b c:Nat):aj bO 66 [V a b c] (V (jk a) (jk b) (jk c)):=sp afK Tryz.func66 (by kernel_rfl)
theorem asR(a b c:Nat):aj bO 237 [V a b c] (.f (kY a b c)):=sp afK Tryz.func237 (by kernel_rfl)
def V2:List Entry:=⟨64,eV λ a b c=>bA (fE a b c)⟩::⟨66,eV λ a b c=>V (jk a) (jk b) (jk c)⟩::⟨237,eV λ a b c=>.f (kY a b c)⟩::V1
theorem auZ:∀e,e∈V2->jr bO e:=aL (uq aD9) <|aL (uq azx) <|aL (uq asR) afK
def unE(a b c:Nat):Int:=cond (!fE a b c) 1 (cond (dR (kY a b c) 0) 2 0)
def unN(a b c x:Nat):Nat:=cond (!fE a b c) 0 (cond (dR (kY a b c) 0) 0 (fdiv x (kY a b c)))
def unV(a b c:Nat):AV:=.bK [V (unN a b c a) (unN a b c b) (unN a b c c),iA (unE a b c)]
def unX(a b c:Nat):Option Out:=cond (!fE a b c) (some (Out.of (.bK [V 0 0 0,iA 1]))) (cond (dR (kY a b c) 0) (some (Out.of (.bK [V 0 0 0,iA 2]))) (some (Out.of (.bK [V (fdiv a (kY a b c)) (fdiv b (kY a b c)) (fdiv c (kY a b c)),iA 0]))))
theorem amn(a b c:Nat):unX a b c=some (Out.of (unV a b c)):=by unfold unX unV unN unE;cases fE a b c<;>cases dR (kY a b c) 0<;>rfl
theorem aEa(a b c:Nat):aj bO 283 [V a b c] (unV a b c) :=sp auZ Tryz.func283 ((show ev bO V2 [] bC Tryz.f283 [V a b c] ret=unX a b c by kernel_rfl).trans (amn a b c))
theorem aEb(a b:Nat):aj bO 157 [.f a,.f b] (.f (jy a b)):=by
 refine sp aB Tryz.func157 ?_;have h:ev bO [] [] bC Tryz.f157 [.f a,.f b] ret=cond (dN b a) (some (Out.of (.f b))) (some (Out.of (.f a))):=by kernel_rfl
 rw[h];unfold jy;cases dN b a<;>rfl
theorem aEc(a b:Nat):aj bO 158 [.f a,.f b] (.f (jA a b)):=by
 refine sp aB Tryz.func158 ?_;have h:ev bO [] [] bC Tryz.f158 [.f a,.f b] ret=cond (bW b a) (some (Out.of (.f b))) (some (Out.of (.f a))):=by kernel_rfl
 rw[h];unfold jA;cases bW b a<;>rfl
def ug(a b:Nat->Nat):Nat->Nat:=ls [jy (a 0) (b 0),jy (a 1) (b 1),jy (a 2) (b 2),jA (a 3) (b 3),jA (a 4) (b 4),jA (a 5) (b 5)]
def V3:List Entry:=⟨283,eV unV⟩::⟨157,eFF λ a b=>.f (jy a b)⟩::⟨158,eFF λ a b=>.f (jA a b)⟩::V2
theorem afL:∀e,e∈V3->jr bO e:=aL (uq aEa) <|aL (Dp aEb) <|aL (Dp aEc) auZ
theorem aj2(a b:Nat->Nat):aj bO 131 [BX a,BX b] (BX (ug a b)):=sp afL Tryz.func131 (by kernel_rfl)
def Uc(b:Nat->Nat):Bool:=cond (!fE (b 0) (b 1) (b 2)) true (!fE (b 3) (b 4) (b 5))
def aaP(b:Nat->Nat):Bool:=cond (cond (bW (b 0) (b 3)) true (bW (b 1) (b 4))) true (bW (b 2) (b 5))
def lG(b:Nat->Nat):Int:=cond (Uc b) 1 (cond (aaP b) 6 0)
theorem aGj(b:Nat->Nat):aj bO 113 [BX b] (iA (lG b)):=by
 refine sp afL Tryz.func113 ?_;have h:ev bO V3 [] bC Tryz.f113 [BX b] ret=cond (Uc b) (some (Out.of (iA 1))) (cond (aaP b) (some (Out.of (iA 6))) (some (Out.of (iA 0)))):=by kernel_rfl
 rw[h];unfold lG;cases Uc b<;>cases aaP b<;>rfl
def QG(r:Nat->Nat):Bool:=cond (cond (!fE (r 0) (r 1) (r 2)) true (!fE (r 3) (r 4) (r 5))) true (!iF (r 6))
def aml(r:Nat->Nat):Bool:=dR (r 3) 0&&(dR (r 4) 0&&(dR (r 5) 0&&true))
def amm(r:Nat->Nat):Bool:=dR (r 3) (jk (r 3))&&(dR (r 4) (jk (r 4))&&(dR (r 5) (jk (r 5))&&true))
def gP(r:Nat->Nat):Int:=cond (QG r) 1 (cond (aml r) 2 (cond (!amm r) 1 (cond (dN (r 6) 0) 6 0)))
theorem akj(r:Nat->Nat):aj bO 29 [RY r] (iA (gP r)):=by
 refine sp afL Tryz.func29 ?_;have h:ev bO V3 [] bC Tryz.f29 [RY r] ret=cond (QG r) (some (Out.of (iA 1))) (cond (aml r) (some (Out.of (iA 2))) (cond (!amm r) (some (Out.of (iA 1))) (cond (dN (r 6) 0) (some (Out.of (iA 6))) (some (Out.of (iA 0)))))):=by kernel_rfl
 rw[h];unfold gP;cases QG r<;>cases aml r<;>cases amm r<;>cases dN (r 6) 0<;>rfl
def V4:List Entry:=⟨131,eBB λ a b=>BX (ug a b)⟩::⟨113,eB λ b=>iA (lG b)⟩::⟨29,HV λ r=>iA (gP r)⟩::V3
theorem Dq:∀e,e∈V4->jr bO e:=aL (abb aj2) <|aL (auO aGj) <|aL (aki akj) afL
def tH(lo hi o d:Nat):Nat:=cond (dN d 0) (fdiv (aU hi o) d) (fdiv (aU lo o) d)
def tJ(lo hi o d:Nat):Nat:=cond (dN d 0) (fdiv (aU lo o) d) (fdiv (aU hi o) d)
def Ca(lo hi o d:Nat):Bool:=cond (dR d 0) (cond (iL o lo) (iB o hi) false) true
def vv(lo hi o d n:Nat):Nat:=cond (dR d 0) n (jA n (tH lo hi o d))
def wJ(lo hi o d f:Nat):Nat:=cond (dR d 0) f (jy f (tJ lo hi o d))
section
variable(lo hi o d n f:Nat)
def ah7(ok:Bool)(a b:Nat):Option Out:=nU (bA ok) [.c [.f a,.f b]]
def azy(a b:Nat):Option Out:=cond (bW a n) (cond (dN b f) (ah7 true a b) (ah7 true a f)) (cond (dN b f) (ah7 true n b) (ah7 true n f))
theorem azz:evG bO [] [] [] bC Tryz.f114 [.own 0 0,.f lo,.f hi,.f o,.f d] [.c [.f n,.f f]] [some 0] =
  cond (dR d 0) (ah7 (cond (iL o lo) (iB o hi) false) n f) (cond (dN d 0) (azy n f (fdiv (aU hi o) d) (fdiv (aU lo o) d)) (azy n f (fdiv (aU lo o) d) (fdiv (aU hi o) d))):=by kernel_rfl
theorem ane:dJ bO 114 [.own 0 0,.f lo,.f hi,.f o,.f d] [.c [.f n,.f f]] (bA (Ca lo hi o d)) [.c [.f (vv lo hi o d n),.f (wJ lo hi o d f)]]:=by
 refine rZ aB ay aV Tryz.func114 (λ _ _ _ _ _ h=>by cases h) rfl ((azz lo hi o d n f).trans ?_);unfold azy ah7 Ca vv wJ tH tJ jA jy;cases dR d 0<;>cases dN d 0<;>simp only[aY,eU]
 .cases bW (fdiv (aU lo o) d) n<;>cases dN (fdiv (aU hi o) d) f<;>rfl
 .cases bW (fdiv (aU hi o) d) n<;>cases dN (fdiv (aU lo o) d) f<;>rfl
end
def afM:List AV->List Row->Option (Bool × AV × List Row)
 | [.own 0 0,.f lo,.f hi,.f o,.f d],[.c [.f n,.f f]]=>some (true,bA (Ca lo hi o d),[.c [.f (vv lo hi o d n),.f (wJ lo hi o d f)]])
 |_,_=>none
def aC7:dZ:=⟨114,liftM (some 0) afM,none⟩
theorem arD:oN bO aC7:=by
 refine⟨Jp λ l A v j h=>?_,λ _ h=>by cases h⟩;unfold afM at h;split at h
 .cases h
  exact⟨ane _ _ _ _ _ _,λ i hi e=>by
   have:i=0:=by simp at hi;exact hi
   subst this;exact absurd rfl e⟩
 .cases h
def auP:dZ:=⟨auJ,λ _ _ _=>none,none⟩
theorem ami{P:Program}:oN P auP:=⟨⟨λ _ _ _ _ h=>(by cases h),λ _ _ _ _ _ _ h=>(by cases h)⟩,λ _ h=>(by cases h)⟩
def Gs:Nat:=4786511204640096256
section
variable(b r:Nat->Nat)
def m1K:Bool:=Ca (b 0) (b 3) (r 0) (r 3)
def m1N:Nat:=vv (b 0) (b 3) (r 0) (r 3) (r 6)
def m1F:Nat:=wJ (b 0) (b 3) (r 0) (r 3) Gs
def m2K:Bool:=Ca (b 1) (b 4) (r 1) (r 4)
def m2N:Nat:=vv (b 1) (b 4) (r 1) (r 4) (m1N b r)
def m2F:Nat:=wJ (b 1) (b 4) (r 1) (r 4) (m1F b r)
def m3K:Bool:=Ca (b 2) (b 5) (r 2) (r 5)
def m3N:Nat:=vv (b 2) (b 5) (r 2) (r 5) (m2N b r)
def m3F:Nat:=wJ (b 2) (b 5) (r 2) (r 5) (m2F b r)
def Ij:Bool:=cond (!(lG b==0)) true (!(gP r==0))
def dw:Bool:=cond (Ij b r) false (cond (m1K b r) (cond (m2K b r) (cond (m3K b r) (!bW (m3N b r) (m3F b r)) false) false) false)
def bP:Nat:=cond (dw b r) (m3N b r) 0
def bX:Nat:=cond (dw b r) (m3F b r) 0
def FV:AV:=.bK [.f (bP b r),.f (bX b r),bA (dw b r)]
def LP:Option Out:=some (Out.of (.bK [.f 0,.f 0,bA false]))
def YZ(i h e:Bool)(n f:Nat):Option Out:=cond (cond (!(cond (cond i h false) e false)) true (bW n f)) LP (some (Out.of (.bK [.f n,.f f,bA true])))
def amj:Option Out:=cond (Ij b r) LP (cond (decide (m1K b r=true)&&true) (cond (decide ((cond (m1K b r) (m2K b r) false)=true)&&true) (YZ (m1K b r) (m2K b r) (m3K b r) (m3N b r) (m3F b r)) (YZ (m1K b r) (m2K b r) (m3K b r) (m2N b r) (m2F b r))) (cond (decide ((cond (m1K b r) (m2K b r) false)=true)&&true) (YZ (m1K b r) (m2K b r) (m3K b r) (vv (b 2) (b 5) (r 2) (r 5) (m1N b r)) (wJ (b 2) (b 5) (r 2) (r 5) (m1F b r))) (YZ (m1K b r) (m2K b r) (m3K b r) (m1N b r) (m1F b r))))
theorem arC:evM bO V4 [] [auP,aC7] bC Tryz.f67 [BX b,RY r] ret=amj b r:=by kernel_rfl
theorem amk:amj b r=some (Out.of (FV b r)):=by unfold amj YZ LP FV bP bX dw;cases Ij b r<;>cases m1K b r<;>cases m2K b r<;>cases m3K b r<;>cases bW (m3N b r) (m3F b r)<;>rfl
theorem wM:aj bO 67 [BX b,RY r] (FV b r) :=ayq Dq ay (gK ami (gK arD aV)) Tryz.func67 aC ((arC b r).trans (amk b r))
end
def V5:List Entry:=⟨67,eBY FV⟩::V4
theorem aC8:∀e,e∈V5->jr bO e:=aL (wL wM) Dq
theorem aC9(x:Nat):aj bO 58 [.f x] (bA (iF x)):=sp aB Tryz.func58 (by kernel_rfl)
theorem ayr(a b:Nat):aj bO 122 [.f a,.f b] (.f (aX a b)):=sp aB Tryz.func122 (by kernel_rfl)
theorem aFL(a b c d e f:Nat):aj bO 108 [V a b c,V d e f] (V (aM a d) (aM b e) (aM c f)):=sp aB Tryz.func108 (by kernel_rfl)
theorem aFM(a b c d e f:Nat):aj bO 76 [V a b c,V d e f] (V (aU a d) (aU b e) (aU c f)):=sp aB Tryz.func76 (by kernel_rfl)
theorem ays(a b c k:Nat):aj bO 83 [V a b c,.f k] (V (aX a k) (aX b k) (aX c k)):=sp aB Tryz.func83 (by kernel_rfl)
theorem aDa(a b c k:Nat):aj bO 82 [V a b c,.f k] (V (fdiv a k) (fdiv b k) (fdiv c k)):=sp aB Tryz.func82 (by kernel_rfl)
theorem arE(x:Nat):aj bO 70 [.f x] (.f (jk x)):=by
 refine sp aB Tryz.func70 ?_;have h:ev bO [] [] bC Tryz.f70 [.f x] ret=cond (cond (bW x 13740701229962882445) (dN x 4517329193108106637) false) (some (Out.of (.f 0))) (some (Out.of (.f x))):=by kernel_rfl
 rw[h,acz,amh];rfl
theorem aDb(a b:Nat):aj bO 116 [.f a,.f b] (.f (jy a b)):=by
 refine sp aB Tryz.func116 ?_;have h:ev bO [] [] bC Tryz.f116 [.f a,.f b] ret=cond (dN b a) (some (Out.of (.f b))) (some (Out.of (.f a))):=by kernel_rfl
 rw[h];unfold jy;cases dN b a<;>rfl
theorem aDc(a b:Nat):aj bO 115 [.f a,.f b] (.f (jA a b)):=by
 refine sp aB Tryz.func115 ?_;have h:ev bO [] [] bC Tryz.f115 [.f a,.f b] ret=cond (bW b a) (some (Out.of (.f b))) (some (Out.of (.f a))):=by kernel_rfl
 rw[h];unfold jA;cases bW b a<;>rfl
theorem aDd(a b:Nat):aj bO 10 [.f a,.f b] (bA (YX a b)):=by
 refine sp aB Tryz.func10 ?_;have h:ev bO [] [] bC Tryz.f10 [.f a,.f b] ret=cond (cond (!dR a a) true (!dR b b)) (some (Out.of (bA (cond (!dR a a) (!dR b b) false)))) (some (Out.of (bA (cond (dR a b) (cond (!dR a 0) true (dR (fdiv one a) (fdiv one b))) false)))):=by kernel_rfl
 rw[h,acz,ayp];rfl
def eVI(g:Nat->Nat->Nat->Int->Option AV):List AV->Option AV
 | [.agg [.f a,.f b,.f c],.x (.int .i64 k)]=>g a b c k
 |_=>none
def axG(a b c:Nat)(k:Int):Option AV:=cond (k==0) (some (.f a)) (cond (k==1) (some (.f b)) (cond (k==2) (some (.f c)) none))
theorem aDe(a b c:Nat)(k:Int):ev bO [] [] bC Tryz.f69 [V a b c,iA k] ret=cond (k==0) (some (Out.of (.f a))) (cond (k==1) (some (Out.of (.f b))) (some (Out.of (.f c)))):=by kernel_rfl
theorem ayt:jr bO ⟨69,eVI axG⟩:=λ l r e=>by
 simp only[eVI]at e;split at e
 .rename_i a b c k;refine wV (sp aB Tryz.func69 ((aDe a b c k).trans ?_));unfold axG at e;cases j:k==0
  .rw[j]at e;cases i:k==1
   .rw[i]at e;cases h:k==2
    .rw[h]at e;cases e
    .rw[h]at e;cases e;rfl
   .rw[i]at e;cases e;rfl
  .rw[j]at e;cases e;rfl
 .cases e
def R1:List Entry:=[⟨128,eF λ x=>.f (bD x)⟩,⟨126,eF λ x=>.f (fabs x)⟩,⟨58,eF λ x=>bA (iF x)⟩,⟨122,eFF λ a b=>.f (aX a b)⟩,⟨108,eVV λ a b c d e f=>V (aM a d) (aM b e) (aM c f)⟩,⟨76,eVV λ a b c d e f=>V (aU a d) (aU b e) (aU c f)⟩,
 ⟨83,eVF λ a b c k=>V (aX a k) (aX b k) (aX c k)⟩,⟨82,eVF λ a b c k=>V (fdiv a k) (fdiv b k) (fdiv c k)⟩,⟨70,eF λ x=>.f (jk x)⟩,⟨116,eFF λ a b=>.f (jy a b)⟩,⟨115,eFF λ a b=>.f (jA a b)⟩,⟨10,eFF λ a b=>bA (YX a b)⟩,⟨69,eVI axG⟩]
theorem O3:∀e,e∈R1->jr bO e:=aL (Je auQ) <|aL (Je aDf) <|aL (Je aC9) <|aL (Dp ayr) <|aL (sQ aFL) <|aL (sQ aFM) <|aL (O0 ays) <|aL (O0 aDa) <|aL (Je arE) <|aL (Dp aDb) <|aL (Dp aDc) <|aL (Dp aDd) <|aL ayt aB
theorem aDg(a b c:Nat):aj bO 57 [V a b c] (bA (fE a b c)):=sp O3 Tryz.func57 (by kernel_rfl)
theorem aFN(a b c d e f:Nat):aj bO 123 [V a b c,V d e f] (.f (IG a b c d e f)):=sp O3 Tryz.func123 (by kernel_rfl)
theorem ayu(a b c d e f:Nat):aj bO 78 [V a b c,V d e f] (V (crX b c e f) (crX c a f d) (crX a b d e)):=sp O3 Tryz.func78 (by kernel_rfl)
theorem ayv(a b c d e f:Nat):aj bO 15 [V a b c,V d e f] (bA (amg a b c d e f)):=sp O3 Tryz.func15 (by kernel_rfl)
def aDh(a b c d e f:Nat):AV:=V (jy a d) (jy b e) (jy c f)
def auR(a b c d e f:Nat):AV:=V (jA a d) (jA b e) (jA c f)
theorem aFO(a b c d e f:Nat):aj bO 110 [V a b c,V d e f] (aDh a b c d e f):=sp O3 Tryz.func110 (by kernel_rfl)
theorem aDi(a b c d e f:Nat):aj bO 111 [V a b c,V d e f] (auR a b c d e f):=sp O3 Tryz.func111 (by kernel_rfl)
def R2:List Entry:=⟨57,eV λ a b c=>bA (fE a b c)⟩::⟨123,eVV λ a b c d e f=>.f (IG a b c d e f)⟩::⟨78,eVV λ a b c d e f=>V (crX b c e f) (crX c a f d) (crX a b d e)⟩::⟨15,eVV λ a b c d e f=>bA (amg a b c d e f)⟩::⟨110,eVV aDh⟩::⟨111,eVV auR⟩::R1
theorem Y2:∀e,e∈R2->jr bO e:=aL (uq aDg) <|aL (sQ aFN) <|aL (sQ ayu) <|aL (sQ ayv) <|aL (sQ aFO) <|aL (sQ aDi) O3
theorem afk(a b c:Nat):aj bO 81 [V a b c] (.f (kY a b c)):=sp Y2 Tryz.func81 (by kernel_rfl)
theorem aFP(b:Nat->Nat):aj bO 61 [BX b] (iA (lG b)):=by
 refine sp Y2 Tryz.func61 ?_;have h:ev bO R2 [] bC Tryz.f61 [BX b] ret=cond (Uc b) (some (Out.of (iA 1))) (cond (bW (b 0) (b 3)) (some (Out.of (iA 6))) (cond (bW (b 1) (b 4)) (some (Out.of (iA 6))) (cond (bW (b 2) (b 5)) (some (Out.of (iA 6))) (some (Out.of (iA 0)))))):=by kernel_rfl
 rw[h];unfold lG aaP;cases Uc b<;>cases bW (b 0) (b 3)<;>cases bW (b 1) (b 4)<;>cases bW (b 2) (b 5)<;>rfl
theorem ayw(r:Nat->Nat):aj bO 32 [RY r] (iA (gP r)):=by
 refine sp Y2 Tryz.func32 ?_
 have h:ev bO R2 [] bC Tryz.f32 [RY r] ret=cond (QG r) (some (Out.of (iA 1))) (cond (cond (cond (dR (r 3) 0) (dR (r 4) 0) false) (dR (r 5) 0) false) (some (Out.of (iA 2)))
  (cond (!dR (r 3) (jk (r 3))) (some (Out.of (iA 1))) (cond (!dR (r 4) (jk (r 4))) (some (Out.of (iA 1))) (cond (!dR (r 5) (jk (r 5))) (some (Out.of (iA 1))) (cond (dN (r 6) 0) (some (Out.of (iA 6))) (some (Out.of (iA 0)))))))):=by kernel_rfl
 rw[h];unfold gP aml amm;cases QG r<;>cases dR (r 3) 0<;>cases dR (r 4) 0<;>cases dR (r 5) 0<;>cases dR (r 3) (jk (r 3))<;>cases dR (r 4) (jk (r 4))<;>cases dR (r 5) (jk (r 5))<;>cases dN (r 6) 0<;>rfl
theorem aDj(a b c:Nat):aj bO 59 [V a b c] (unV a b c) :=sp (l:=⟨81,eV λ a b c=>.f (kY a b c)⟩::R2) (aL (uq afk) Y2) Tryz.func59 ((show ev bO (⟨81,eV λ a b c=>.f (kY a b c)⟩::R2) [] bC Tryz.f59 [V a b c] ret=unX a b c by kernel_rfl).trans (amn a b c))
def R3:List Entry:=⟨81,eV λ a b c=>.f (kY a b c)⟩::⟨59,eV unV⟩::⟨61,eB λ b=>iA (lG b)⟩::⟨32,HV λ r=>iA (gP r)⟩::R2
theorem aeS:∀e,e∈R3->jr bO e:=aL (uq afk) <|aL (uq aDj) <|aL (auO aFP) <|aL (aki ayw) Y2
def yg(x:Nat):Bool:=!dR x 0
theorem aoM(a b c:Nat):aj bO 265 [V a b c] (V a b c):=sp aB Tryz.func265 (by kernel_rfl)
theorem aAX(a b c:Nat):aj bO 267 [V a b c] (V a b c):=sp aB Tryz.func267 (by kernel_rfl)
def V6:List Entry:=⟨265,eV λ a b c=>V a b c⟩::⟨267,eV λ a b c=>V a b c⟩::V5
theorem JV:∀e,e∈V6->jr bO e:=aL (uq aoM) <|aL (uq aAX) aC8
theorem aAY(a b c:Nat):aj bO 290 [V a b c,iA 0] (V 0 b c):=sp JV aLu (by kernel_rfl)
theorem aAZ(a b c:Nat):aj bO 290 [V a b c,iA 1] (V a 0 c):=sp JV aLu (by kernel_rfl)
theorem aA0(a b c:Nat):aj bO 290 [V a b c,iA 2] (V a b 0):=sp JV aLu (by kernel_rfl)
def flG(a b c:Nat)(k:Int):Option AV:=cond (k==0) (some (V 0 b c)) (cond (k==1) (some (V a 0 c)) (cond (k==2) (some (V a b 0)) none))
theorem aoN:jr bO ⟨290,eVI flG⟩:=λ l r e=>by
 simp only[eVI]at e;split at e
 .rename_i a b c k;unfold flG at e;cases j:k==0
  .rw[j]at e;cases i:k==1
   .rw[i]at e;cases h:k==2
    .rw[h]at e;cases e
    .rw[h]at e;cases e;rw[Aw h];exact wV (aA0 a b c)
   .rw[i]at e;cases e;rw[Aw i];exact wV (aAZ a b c)
  .rw[j]at e;cases e;rw[Aw j];exact wV (aAY a b c)
 .cases e
def axR(k:Int)(b:Bool):Option Out:=some (Out.of (.bK [iA k,bA b]))
def axT(a b c:Nat):Option Out:=cond (yg a) (cond (yg b) (cond (yg c) (axR 2 false) (axR 1 false)) (cond (yg c) (axR 2 false) (axR 0 true))) (cond (yg b) (cond (yg c) (axR 2 false) (axR 1 true)) (cond (yg c) (axR 2 true) (axR 0 false)))
def axI(a b c:Nat):Int:=cond (yg c) 2 (cond (yg b) 1 (cond (yg a) 0 0))
def Ef(a b c:Nat):Bool:=cond (yg a) (cond (yg b) false (!yg c)) (cond (yg b) (!yg c) (yg c))
theorem aEe(a b c:Nat):aj bO 291 [V a b c] (.bK [iA (axI a b c),bA (Ef a b c)]):=by refine sp JV Tryz.func291 ((show ev bO V6 [] bC Tryz.f291 [V a b c] ret=axT a b c by kernel_rfl).trans ?_);unfold axT axI Ef axR;cases yg a<;>cases yg b<;>cases yg c<;>rfl
theorem aFc(a b c R:Nat):aj bO 256 [V a b c,.f R] (BX (ls [aU a R,aU b R,aU c R,aM a R,aM b R,aM c R])):=sp JV Tryz.func256 (by kernel_rfl)
def BA(a b c d e f:Nat):Nat->Nat:=ug (ls [a,b,c,a,b,c]) (ls [d,e,f,d,e,f])
theorem atZ(a b c d e f:Nat):aj bO 271 [V a b c,V d e f] (BX (BA a b c d e f)):=sp JV Tryz.func271 (by kernel_rfl)
section
variable(o d:Nat->Nat)(r:Nat)
def abA:Nat:=IG (d 0) (d 1) (d 2) (d 0) (d 1) (d 2)
def abH:Nat:=IG (o 0) (o 1) (o 2) (d 0) (d 1) (d 2)
def abE:Nat:=aU (aX (abH o d) (abH o d)) (aX (abA d) (aU (IG (o 0) (o 1) (o 2) (o 0) (o 1) (o 2)) (aX r r)))
def QB:Bool:=iL (abE o d r) 0
def abN:Nat:=cond (QB o d r) (fdiv (aU (dG (abH o d)) (bD (abE o d r))) (abA d)) 0
def abF:Nat:=cond (QB o d r) (fdiv (aM (dG (abH o d)) (bD (abE o d r))) (abA d)) 0
def abV:AV:=.bK [.f (abN o d r),.f (abF o d r),bA (QB o d r)]
def QE(n f:Nat)(k:Bool):Option Out:=some (Out.of (.bK [.f n,.f f,bA k]))
def abX:Option Out:=cond (QB o d r) (QE (fdiv (aU (dG (abH o d)) (bD (abE o d r))) (abA d)) (fdiv (aM (dG (abH o d)) (bD (abE o d r))) (abA d)) true) (QE 0 0 false)
theorem aw3:abX o d r=some (Out.of (abV o d r)):=by unfold abX abV abN abF QE;cases QB o d r<;>rfl
theorem aiC:ev bO V6 [] bC Tryz.f257 [V (o 0) (o 1) (o 2),V (d 0) (d 1) (d 2),.f r] ret=cond (!QB o d r) (QE 0 0 false) (QE (fdiv (aU (dG (abH o d)) (bD (abE o d r))) (abA d)) (fdiv (aM (dG (abH o d)) (bD (abE o d r))) (abA d)) true):=by kernel_rfl
theorem at0:aj bO 257 [V (o 0) (o 1) (o 2),V (d 0) (d 1) (d 2),.f r] (abV o d r):=by refine sp JV Tryz.func257 ((aiC o d r).trans ?_);unfold abV abN abF QE;cases QB o d r<;>rfl
end
def abG(a b c d e f r:Nat):AV:=abV (ls [a,b,c]) (ls [d,e,f]) r
theorem aA1(a b c d e f r:Nat):aj bO 257 [V a b c,V d e f,.f r] (abG a b c d e f r):=at0 (ls [a,b,c]) (ls [d,e,f]) r
def FN(t n f:Nat):Nat:=cond (!bW t n) (cond (!dN n f) f n) (cond (!dN t f) f t)
theorem aA2(t n f:Nat):ev bO [] [] bC Tryz.f210 [.f t,.f n,.f f] ret=cond (!bW t n) (cond (!dN n f) (some (Out.of (.f f))) (some (Out.of (.f n)))) (cond (!dN t f) (some (Out.of (.f f))) (some (Out.of (.f t)))):=by kernel_rfl
theorem aoO(t n f:Nat):aj bO 210 [.f t,.f n,.f f] (.f (FN t n f)):=by refine sp aB Tryz.func210 ((aA2 t n f).trans ?_);unfold FN;cases bW t n<;>cases dN n f<;>cases dN t f<;>rfl
def aoP(g:Nat->Nat->Nat->Nat->Nat->Nat->AV):List AV->Option AV
 | [.agg [.f a,.f b,.f c],.f d,.f e,.f f]=>some (g a b c d e f)
 |_=>none
theorem aoQ{f:Nat}{g:Nat->Nat->Nat->Nat->Nat->Nat->AV}(h:∀a b c d e f',aj bO f [V a b c,.f d,.f e,.f f'] (g a b c d e f')):jr bO ⟨f,aoP g⟩:=λ j r i=>by
 simp only[aoP]at i;split at i
 .cases i;exact wV (h _ _ _ _ _ _)
 .cases i
def alK(a b c r:Nat):Bool:=iB (IG a b c a b c) (aX r r)
def alV(a b c r n f:Nat):AV:=.bK [.f (cond (alK a b c r) n 0),.f (cond (alK a b c r) f 0),bA (alK a b c r)]
theorem aA3(a b c r n f:Nat):aj bO 292 [V a b c,.f r,.f n,.f f] (alV a b c r n f):=by refine sp JV Tryz.func292 ((show ev bO V6 [] bC Tryz.f292 [V a b c,.f r,.f n,.f f] ret=cond (alK a b c r) (QE n f true) (QE 0 0 false) by kernel_rfl).trans ?_);unfold alV QE;cases alK a b c r<;>rfl
def V7:List Entry:=⟨290,eVI flG⟩::⟨256,eVF λ a b c R=>BX (ls [aU a R,aU b R,aU c R,aM a R,aM b R,aM c R])⟩::⟨271,eVV λ a b c d e f=>BX (BA a b c d e f)⟩::⟨257,aqt abG⟩::⟨210,ag3 λ t n f=>.f (FN t n f)⟩::⟨292,aoP alV⟩::V6
theorem LU:∀e,e∈V7->jr bO e:=aL aoN <|aL (O0 aFc) <|aL (sQ atZ) <|aL (aeU aA1) <|aL (UC aoO) <|aL (aoQ aA3) JV
abbrev SH(k:Int)(a:Nat->Nat)(sk:Int):AV:=.agg [iA k,.f (a 0),.f (a 1),.f (a 2),.f (a 3),.f (a 4),.f (a 5),.f (a 6),.f (a 7),.f (a 8),.f (a 9),.f (a 10),iA sk]
def eS(g:(Nat->Nat)->AV):List AV->Option AV
 | [.agg [.x (.int .i64 _),.f a0,.f a1,.f a2,.f a3,.f a4,.f a5,.f a6,.f a7,.f a8,.f a9,.f ME,.x (.int .i64 _)]]=>some (g (ls [a0,a1,a2,a3,a4,a5,a6,a7,a8,a9,ME]))
 |_=>none
def FW(g:(Nat->Nat)->(Nat->Nat)->Nat->Nat->AV):List AV->Option AV
 | [.agg [.x (.int .i64 _),.f a0,.f a1,.f a2,.f a3,.f a4,.f a5,.f a6,.f a7,.f a8,.f a9,.f ME,.x (.int .i64 _)],.agg [.f r0,.f r1,.f r2,.f r3,.f r4,.f r5,.f r6],.f n,.f f]=>some (g (ls [a0,a1,a2,a3,a4,a5,a6,a7,a8,a9,ME]) (ls [r0,r1,r2,r3,r4,r5,r6]) n f)
 |_=>none
def eSV(g:(Nat->Nat)->Nat->Nat->Nat->AV):List AV->Option AV
 | [.agg [.x (.int .i64 _),.f a0,.f a1,.f a2,.f a3,.f a4,.f a5,.f a6,.f a7,.f a8,.f a9,.f ME,.x (.int .i64 _)],.agg [.f p,.f q,.f r]]=>some (g (ls [a0,a1,a2,a3,a4,a5,a6,a7,a8,a9,ME]) p q r)
 |_=>none
theorem Dj{f:Nat}{g:(Nat->Nat)->AV}(h:∀k a sk,aj bO f [SH k a sk] (g a)):jr bO ⟨f,eS g⟩:=λ i r e=>by
 simp only[eS]at e;split at e
 .cases e;exact wV (h _ (ls [_,_,_,_,_,_,_,_,_,_,_]) _)
 .cases e
theorem uE{f:Nat}{g:(Nat->Nat)->(Nat->Nat)->Nat->Nat->AV}(h:∀k a sk y n f',aj bO f [SH k a sk,RY y,.f n,.f f'] (g a y n f')):jr bO ⟨f,FW g⟩:=λ i r e=>by
 simp only[FW]at e;split at e
 .cases e;exact wV (h _ (ls [_,_,_,_,_,_,_,_,_,_,_]) _ (ls [_,_,_,_,_,_,_]) _ _)
 .cases e
theorem KU{f:Nat}{g:(Nat->Nat)->Nat->Nat->Nat->AV}(h:∀k a sk p q r,aj bO f [SH k a sk,V p q r] (g a p q r)):jr bO ⟨f,eSV g⟩:=λ i r e=>by
 simp only[eSV]at e;split at e
 .cases e;exact wV (h _ (ls [_,_,_,_,_,_,_,_,_,_,_]) _ _ _ _)
 .cases e
section
variable(k:Int)(a:Nat->Nat)(sk:Int)(r:Nat->Nat)(n f p q u:Nat)
def gL:Nat->Nat:=ls [aU (a 0) (a 9),aU (a 1) (a 9),aU (a 2) (a 9),aM (a 0) (a 9),aM (a 1) (a 9),aM (a 2) (a 9)]
def eH:Nat->Nat:=ls [a 0,a 1,a 2,a 3,a 4,a 5]
def rV:Nat->Nat:=ug (BA (a 0) (a 1) (a 2) (a 3) (a 4) (a 5)) (ls [a 6,a 7,a 8,a 6,a 7,a 8])
theorem aCk:aj bO 251 [SH k a sk] (BX (gL a)):=sp LU Tryz.func251 (by kernel_rfl)
theorem awX:aj bO 279 [SH k a sk] (BX (gL a)):=sp LU Tryz.func279 (by kernel_rfl)
theorem awV:aj bO 260 [SH k a sk] (BX (eH a)):=sp LU Tryz.func260 (by kernel_rfl)
theorem aFA:aj bO 268 [SH k a sk] (BX (rV a)):=sp LU Tryz.func268 (by kernel_rfl)
def Il:Int:=cond (!bW (a 9) 0) 6 0
theorem aCj:aj bO 253 [SH k a sk] (iA (Il a)):=by refine sp LU Tryz.func253 ((show ev bO V7 [] bC Tryz.f253 [SH k a sk] ret=cond (!bW (a 9) 0) (some (Out.of (iA 6))) (some (Out.of (iA 0))) by kernel_rfl).trans ?_);unfold Il;cases bW (a 9) 0<;>rfl
def Gu:Bool:=cond (cond (bW (a 0) (a 3)) true (bW (a 1) (a 4))) true (bW (a 2) (a 5))
def AU:Int:=cond (Gu a) 6 0
theorem awU:aj bO 262 [SH k a sk] (iA (AU a)):=by refine sp LU Tryz.func262 ((show ev bO V7 [] bC Tryz.f262 [SH k a sk] ret=cond (Gu a) (some (Out.of (iA 6))) (some (Out.of (iA 0))) by kernel_rfl).trans ?_);unfold AU;cases Gu a<;>rfl
def Bb:Int:=cond (!bW (a 9) 0) 6 (unE (a 3) (a 4) (a 5))
theorem awW:aj bO 280 [SH k a sk] (iA (Bb a)):=by refine sp LU Tryz.func280 ((show ev bO V7 [] bC Tryz.f280 [SH k a sk] ret=cond (!bW (a 9) 0) (some (Out.of (iA 6))) (some (Out.of (iA (unE (a 3) (a 4) (a 5))))) by kernel_rfl).trans ?_);unfold Bb;cases bW (a 9) 0<;>rfl
def V8:List Entry:=⟨291,eV λ a b c=>.bK [iA (axI a b c),bA (Ef a b c)]⟩::V7
theorem uZ:∀e,e∈V8->jr bO e:=aL (uq aEe) LU
def FC:Int:=cond (cond (!Ef (a 3) (a 4) (a 5)) true (!bW (a 9) 0)) 6 0
theorem aCl:aj bO 287 [SH k a sk] (iA (FC a)):=by refine sp uZ Tryz.func287 ((show ev bO V8 [] bC Tryz.f287 [SH k a sk] ret=cond (cond (!Ef (a 3) (a 4) (a 5)) true (!bW (a 9) 0)) (some (Out.of (iA 6))) (some (Out.of (iA 0))) by kernel_rfl).trans ?_);unfold FC;cases cond (!Ef (a 3) (a 4) (a 5)) true (!bW (a 9) 0)<;>rfl
def FL:Int:=cond (cond (!Ef (a 3) (a 4) (a 5)) true (!(cond (bW (a 10) 0) (iL (a 9) (a 10)) false))) 6 0
theorem aCn:aj bO 295 [SH k a sk] (iA (FL a)):=by refine sp uZ Tryz.func295 ((show ev bO V8 [] bC Tryz.f295 [SH k a sk] ret=cond (cond (!Ef (a 3) (a 4) (a 5)) true (!(cond (bW (a 10) 0) (iL (a 9) (a 10)) false))) (some (Out.of (iA 6))) (some (Out.of (iA 0))) by kernel_rfl).trans ?_);unfold FL;cases cond (!Ef (a 3) (a 4) (a 5)) true (!(cond (bW (a 10) 0) (iL (a 9) (a 10)) false))<;>rfl
def DR:Nat->Nat:=ls [aU (r 0) (a 0),aU (r 1) (a 1),aU (r 2) (a 2)]
def DT:Nat->Nat:=ls [r 3,r 4,r 5]
theorem aEf:aj bO 252 [SH k a sk,RY r,.f n,.f f] (abV (DR a r) (DT r) (a 9)):=sp uZ Tryz.func252 (by kernel_rfl)
theorem azD:aj bO 261 [SH k a sk,RY r,.f n,.f f] (.bK [.f n,.f f,bA true]):=sp uZ Tryz.func261 (by kernel_rfl)
def s2(t:Nat)(k:Bool):Option Out:=some (Out.of (.bK [.f t,bA k]))
def V9:List Entry:=⟨252,FW λ a r _ _=>abV (DR a r) (DT r) (a 9)⟩::⟨261,FW λ _ _ n f=>.bK [.f n,.f f,bA true]⟩::V8
theorem Cj:∀e,e∈V9->jr bO e:=aL (uE aEf) <|aL (uE azD) uZ
def SN:Nat:=cond (QB (DR a r) (DT r) (a 9)) (cond (iL (abN (DR a r) (DT r) (a 9)) (r 6)) (abN (DR a r) (DT r) (a 9)) (abF (DR a r) (DT r) (a 9))) 0
theorem aEg:aj bO 255 [SH k a sk,RY r,.f n,.f f] (.bK [.f (SN a r),bA (QB (DR a r) (DT r) (a 9))]):=by refine sp Cj Tryz.func255 ((show ev bO V9 [] bC Tryz.f255 [SH k a sk,RY r,.f n,.f f] ret=cond (!QB (DR a r) (DT r) (a 9)) (s2 0 false) (cond (iL (abN (DR a r) (DT r) (a 9)) (r 6)) (s2 (abN (DR a r) (DT r) (a 9)) true) (s2 (abF (DR a r) (DT r) (a 9)) true)) by kernel_rfl).trans ?_);unfold SN s2;cases QB (DR a r) (DT r) (a 9)<;>cases iL (abN (DR a r) (DT r) (a 9)) (r 6)<;>rfl
theorem azE:aj bO 264 [SH k a sk,RY r,.f n,.f f] (.bK [.f (cond (bW n (r 6)) n f),bA true]):=by refine sp Cj Tryz.func264 ((show ev bO V9 [] bC Tryz.f264 [SH k a sk,RY r,.f n,.f f] ret=cond (bW n (r 6)) (s2 n true) (s2 f true) by kernel_rfl).trans ?_);unfold s2;cases bW n (r 6)<;>rfl
def plU(x:Nat):Nat:=unN (a 3) (a 4) (a 5) x
def plD:Nat:=IG (plU a (a 3)) (plU a (a 4)) (plU a (a 5)) (r 3) (r 4) (r 5)
def GZ:Nat:=fdiv (IG (plU a (a 3)) (plU a (a 4)) (plU a (a 5)) (aU (a 0) (r 0)) (aU (a 1) (r 1)) (aU (a 2) (r 2))) (plD a r)
def plQ(i j:Nat):Nat:=aU (aM (r i) (aX (r j) (GZ a r))) (a i)
def plK:Bool:=iB (IG (plQ a r 0 3) (plQ a r 1 4) (plQ a r 2 5) (plQ a r 0 3) (plQ a r 1 4) (plQ a r 2 5)) (aX (a 9) (a 9))
theorem azF:aj bO 282 [SH k a sk,RY r,.f n,.f f] (.bK [.f (cond (dR (plD a r) 0) 0 (GZ a r)),bA (cond (dR (plD a r) 0) false (plK a r))]):=by refine sp Cj Tryz.func282 ((show ev bO V9 [] bC Tryz.f282 [SH k a sk,RY r,.f n,.f f] ret=cond (dR (plD a r) 0) (s2 0 false) (s2 (GZ a r) (plK a r)) by kernel_rfl).trans ?_);unfold s2;cases dR (plD a r) 0<;>rfl
theorem aEh:aj bO 254 [SH k a sk,V p q u] (V (aU p (a 0)) (aU q (a 1)) (aU u (a 2))):=sp Cj Tryz.func254 (by kernel_rfl)
theorem azG:aj bO 281 [SH k a sk,V p q u] (V (a 3) (a 4) (a 5)):=sp Cj Tryz.func281 (by kernel_rfl)
def asX(i j:Nat):Nat:=aU (a i) (a j)
def trX(i j:Nat):Nat:=crX (asX a (3+i) i) (asX a (3+j) j) (asX a (6+i) i) (asX a (6+j) j)
theorem aGk:aj bO 269 [SH k a sk,V p q u] (V (trX a 1 2) (trX a 2 0) (trX a 0 1)):=sp Cj Tryz.func269 (by kernel_rfl)
end
section
variable(r:Nat->Nat)
def dp0:Bool:=bW (fabs (r 4)) (fabs (r 3))
def dpZ:Nat:=cond (dp0 r) (cond (bW (fabs (r 5)) (fabs (r 4))) 2 1) (cond (bW (fabs (r 5)) (fabs (r 3))) 2 0)
def lkA(x y z:Int):AV:=.agg [.f (r 0),.f (r 1),.f (r 2),.f (r 3),.f (r 4),.f (r 5),iA x,iA y,iA z]
def lkZ:Nat->AV
 | 0=>lkA r 1 2 0
 | 1=>lkA r 2 0 1
 |_=>lkA r 0 1 2
def lkO(z:Nat):Option Out:=some (Out.of (lkZ r z))
def lkX:Option Out:=cond (dp0 r) (cond (bW (fabs (r 5)) (fabs (r 4))) (lkO r 2) (lkO r 1)) (cond (bW (fabs (r 5)) (fabs (r 3))) (lkO r 2) (lkO r 0))
theorem ar0:ev bO V9 [] bC Tryz.f273 [RY r] ret=cond (bW (fabs (r 3)) (fabs (r 3))) (lkX r) (lkX r):=by kernel_rfl
theorem aDF:aj bO 273 [RY r] (lkZ r (dpZ r)):=by refine sp Cj Tryz.func273 ((ar0 r).trans ?_);unfold lkX lkO dpZ;cases bW (fabs (r 3)) (fabs (r 3))<;>cases dp0 r<;>cases bW (fabs (r 5)) (fabs (r 4))<;>cases bW (fabs (r 5)) (fabs (r 3))<;>rfl
theorem ayZ:dpZ r=0\/dpZ r=1\/dpZ r=2:=by unfold dpZ;cases dp0 r<;>cases bW (fabs (r 5)) (fabs (r 4))<;>cases bW (fabs (r 5)) (fabs (r 3))<;>simp
end
section
variable(r:Nat->Nat)(x y z:Nat)(g:Nat->Nat)
def plF(i:Nat):Nat:=aU (g i) (r i)
def KS(i:Nat):Nat:=aU (plF r g i) (aX (fdiv (r (3+i)) (r (3+z))) (plF r g z))
def plA:Nat:=aX (fdiv one (r (3+z))) (plF r g z)
def plV:AV:=V (KS r z g x) (KS r z g y) (plA r z g)
end
def nx:Nat->Nat
 | 0=>1
 | 1=>2
 |_=>0
def ny:Nat->Nat
 | 0=>2
 | 1=>0
 |_=>1
theorem ay0(r:Nat->Nat)(a b c:Nat):aj bO 274 [lkA r 1 2 0,V a b c] (plV r 1 2 0 (ls [a,b,c])):=sp Cj aLv (by kernel_rfl)
theorem ay1(r:Nat->Nat)(a b c:Nat):aj bO 274 [lkA r 2 0 1,V a b c] (plV r 2 0 1 (ls [a,b,c])):=sp Cj aLv (by kernel_rfl)
theorem ay2(r:Nat->Nat)(a b c:Nat):aj bO 274 [lkA r 0 1 2,V a b c] (plV r 0 1 2 (ls [a,b,c])):=sp Cj aLv (by kernel_rfl)
def ePl(z:Nat):List AV->Option AV
 | [.agg [.f a0,.f a1,.f a2,.f a3,.f a4,.f a5,.x (.int .i64 x),.x (.int .i64 y),.x (.int .i64 w)],.agg [.f a,.f b,.f c]]=>cond ((x==(nx z:Int))&&((y==(ny z:Int))&&(w==(z:Int)))) (some (plV (ls [a0,a1,a2,a3,a4,a5]) (nx z) (ny z) z (ls [a,b,c]))) none
 |_=>none
theorem acR{z:Nat}(C:z=0\/z=1\/z=2):jr bO ⟨274,ePl z⟩:=λ B r e=>by
 simp only[ePl]at e;split at e
 .rename_i a0 a1 A l j i x y w a b c;cases h:((x==(nx z:Int))&&((y==(ny z:Int))&&(w==(z:Int))))
  .rw[h]at e;cases e
  .rw[h]at e;cases e;simp only[CX,WO]at h;obtain⟨rfl,rfl,rfl⟩:=h;rcases C with rfl |rfl |rfl
   .exact wV (ay0 (ls [a0,a1,A,l,j,i]) a b c)
   .exact wV (ay1 (ls [a0,a1,A,l,j,i]) a b c)
   .exact wV (ay2 (ls [a0,a1,A,l,j,i]) a b c)
 .cases e
def edS(p q h e:Nat):Nat:=aU (aX p e) (aX q h)
theorem aDG(a b c d e f:Nat):aj bO 278 [V a b c,V d e f] (.f (edS a b d e)):=sp aB Tryz.func278 (by kernel_rfl)
def Vu(u v w:Nat):Nat:=aM (aM u v) w
theorem aGb(u v w:Nat):aj bO 277 [V u v w] (.f (Vu u v w)):=sp aB Tryz.func277 (by kernel_rfl)
def ay3(g:Nat->Nat->Nat->Nat->Nat->Nat->Nat->Nat->Nat->AV):List AV->Option AV
 | [.agg [.f a,.f b,.f c],.agg [.f d,.f e,.f f],.agg [.f x,.f y,.f z]]=>some (g a b c d e f x y z)
 |_=>none
theorem ar7{f:Nat}{g:Nat->Nat->Nat->Nat->Nat->Nat->Nat->Nat->Nat->AV}(h:∀a b c d e f' x y z,aj bO f [V a b c,V d e f',V x y z] (g a b c d e f' x y z)):jr bO ⟨f,ay3 g⟩:=λ j r i=>by
 simp only[ay3]at i;split at i
 .cases i;exact wV (h _ _ _ _ _ _ _ _ _)
 .cases i
def W1:List Entry:=⟨278,eVV λ a b _ d e _=>.f (edS a b d e)⟩::⟨277,eV λ u v w=>.f (Vu u v w)⟩::V9
theorem amJ:∀e,e∈W1->jr bO e:=aL (sQ aDG) <|aL (uq aGb) Cj
def esG(a b d e x y:Nat):AV:=V (edS d e x y) (edS x y a b) (edS a b d e)
theorem ay4(a b c d e f x y z:Nat):aj bO 275 [V a b c,V d e f,V x y z] (esG a b d e x y):=sp amJ Tryz.func275 (by kernel_rfl)
def thB(u v w:Nat):Bool:=cond (cond (dN u 0) true (dN v 0)) true (dN w 0)
def thA(u v w:Nat):Bool:=cond (cond (bW u 0) true (bW v 0)) true (bW w 0)
def acS(u v w:Nat):Bool:=cond (!(cond (thB u v w) (thA u v w) false)) (!dR (Vu u v w) 0) false
theorem amK(u v w:Nat):aj bO 276 [V u v w] (bA (acS u v w)):=sp amJ Tryz.func276 (by kernel_rfl)
def W2:List Entry:=⟨275,ay3 λ a b _ d e _ x y _=>esG a b d e x y⟩::⟨276,eV λ u v w=>bA (acS u v w)⟩::W1
theorem amL:∀e,e∈W2->jr bO e:=aL (ar7 ay4) <|aL (uq amK) amJ
section
variable(a r:Nat->Nat)(z:Nat)
def amM:Nat->Nat:=ls [a 0,a 1,a 2]
def amN:Nat->Nat:=ls [a 3,a 4,a 5]
def cC:Nat->Nat:=ls [a 6,a 7,a 8]
def acT(p q:Nat->Nat):Nat:=edS (KS r z p (nx z)) (KS r z p (ny z)) (KS r z q (nx z)) (KS r z q (ny z))
def trU:Nat:=acT r z (amN a) (cC a)
def acU:Nat:=acT r z (cC a) (amM a)
def trW:Nat:=acT r z (amM a) (amN a)
def trK:Bool:=acS (trU a r z) (acU a r z) (trW a r z)
def trN:Nat:=fdiv (aM (aM (aX (trU a r z) (plA r z (amM a))) (aX (acU a r z) (plA r z (amN a)))) (aX (trW a r z) (plA r z (cC a)))) (Vu (trU a r z) (acU a r z) (trW a r z))
def DI:Nat:=cond (trK a r z) (trN a r z) 0
end
section
variable(k:Int)(a:Nat->Nat)(sk:Int)(r:Nat->Nat)(n f:Nat)
def acV(z:Nat):bf:=kS bO 273 λ _=>lkZ r z
def Pf(z:Nat):Option Out:=gate (aj bO 273 [RY r] (lkZ r z)) (cond (!trK a r z) (s2 0 false) (s2 (trN a r z) true))
theorem ar8:ev bO (⟨274,ePl 0⟩::W2) [acV r 0] bC aM8 [SH k a sk,RY r,.f n,.f f] ret=Pf a r 0:=by kernel_rfl
theorem ar9:ev bO (⟨274,ePl 1⟩::W2) [acV r 1] bC aM8 [SH k a sk,RY r,.f n,.f f] ret=Pf a r 1:=by kernel_rfl
theorem asa:ev bO (⟨274,ePl 2⟩::W2) [acV r 2] bC aM8 [SH k a sk,RY r,.f n,.f f] ret=Pf a r 2:=by kernel_rfl
theorem acW{z:Nat}(h:dpZ r=z):Pf a r z=some (Out.of (.bK [.f (DI a r z),bA (trK a r z)])):=by unfold Pf DI s2;rw[ak (by rw[<-h];exact aDF r)];cases trK a r z<;>rfl
theorem aGc:aj bO 270 [SH k a sk,RY r,.f n,.f f] (.bK [.f (DI a r (dpZ r)),bA (trK a r (dpZ r))]):=by
 rcases ayZ r with h |h |h
 .rw[h];exact aR (aL (acR (wV rfl)) amL) (au aG ay) aLw aC ((ar8 k a sk r n f).trans (acW a r h))
 .rw[h];exact aR (aL (acR (Gc (wV rfl))) amL) (au aG ay) aLw aC ((ar9 k a sk r n f).trans (acW a r h))
 .rw[h];exact aR (aL (acR (Gc (Gc rfl))) amL) (au aG ay) aLw aC ((asa k a sk r n f).trans (acW a r h))
end
def Ri(z i x:Nat):Nat:=cond (amH i z) 0 x
def zB(a:Nat->Nat):Nat:=cond (yg (a 5)) 2 (cond (yg (a 4)) 1 0)
theorem akE(a:Nat->Nat):axI (a 3) (a 4) (a 5)=(zB a:Nat):=by unfold axI zB;cases yg (a 5)<;>cases yg (a 4)<;>cases yg (a 3)<;>rfl
theorem HZ(a:Nat->Nat):zB a=0\/zB a=1\/zB a=2:=by unfold zB;cases yg (a 5)<;>cases yg (a 4)<;>simp
section
variable(k:Int)(a:Nat->Nat)(sk:Int)(r:Nat->Nat)(n f p q u z:Nat)
theorem aC2:aj bO 284 [SH k a sk] (iA (zB a:Nat)):=by rw[<-akE];exact sp uZ Tryz.func284 (by kernel_rfl)
theorem aC3:aj bO 293 [SH k a sk] (iA (zB a:Nat)):=by rw[<-akE];exact sp uZ Tryz.func293 (by kernel_rfl)
def tuK(z:Nat):bf:=kS bO 284 λ _=>iA (z:Nat)
def riK(z:Nat):bf:=kS bO 293 λ _=>iA (z:Nat)
def gTu(o:Option Out):Option Out:=gate (aj bO 284 [SH k a sk] (iA (z:Nat))) o
def gRi(o:Option Out):Option Out:=gate (aj bO 293 [SH k a sk] (iA (z:Nat))) o
def tuE:Nat->Nat:=BA (a 0) (a 1) (a 2) (aM (a 0) (a 3)) (aM (a 1) (a 4)) (aM (a 2) (a 5))
def dM:Nat->Nat:=ls [aU (tuE a 0) (Ri z 0 (a 9)),aU (tuE a 1) (Ri z 1 (a 9)),aU (tuE a 2) (Ri z 2 (a 9)),aM (tuE a 3) (Ri z 0 (a 9)),aM (tuE a 4) (Ri z 1 (a 9)),aM (tuE a 5) (Ri z 2 (a 9))]
def riA(i:Nat):Nat:=aM (Ri z i (a 9)) (a 10)
def kM:Nat->Nat:=ls [aU (a 0) (riA a z 0),aU (a 1) (riA a z 1),aU (a 2) (riA a z 2),aM (a 0) (riA a z 0),aM (a 1) (riA a z 1),aM (a 2) (riA a z 2)]
theorem ahy:ev bO V8 [tuK 0] bC aM9 [SH k a sk] ret=gTu k a sk 0 (some (Out.of (BX (dM a 0)))):=by kernel_rfl
theorem ahz:ev bO V8 [tuK 1] bC aM9 [SH k a sk] ret=gTu k a sk 1 (some (Out.of (BX (dM a 1)))):=by kernel_rfl
theorem ahA:ev bO V8 [tuK 2] bC aM9 [SH k a sk] ret=gTu k a sk 2 (some (Out.of (BX (dM a 2)))):=by kernel_rfl
theorem ahB:ev bO V8 [riK 0] bC aNa [SH k a sk] ret=gRi k a sk 0 (some (Out.of (BX (kM a 0)))):=by kernel_rfl
theorem ahC:ev bO V8 [riK 1] bC aNa [SH k a sk] ret=gRi k a sk 1 (some (Out.of (BX (kM a 1)))):=by kernel_rfl
theorem ahD:ev bO V8 [riK 2] bC aNa [SH k a sk] ret=gRi k a sk 2 (some (Out.of (BX (kM a 2)))):=by kernel_rfl
theorem vN{z:Nat}{o:Option Out}(h:zB a=z):gTu k a sk z o=o:=ak (by rw[<-h];exact aC2 k a sk)
theorem BD{z:Nat}{o:Option Out}(h:zB a=z):gRi k a sk z o=o:=ak (by rw[<-h];exact aC3 k a sk)
theorem aCm:aj bO 285 [SH k a sk] (BX (dM a (zB a))):=by
 rcases HZ a with h |h |h
 .rw[h];exact aR uZ (au aG ay) aLx aC ((ahy k a sk).trans (vN k a sk h))
 .rw[h];exact aR uZ (au aG ay) aLx aC ((ahz k a sk).trans (vN k a sk h))
 .rw[h];exact aR uZ (au aG ay) aLx aC ((ahA k a sk).trans (vN k a sk h))
theorem bring:aj bO 294 [SH k a sk] (BX (kM a (zB a))):=by
 rcases HZ a with h |h |h
 .rw[h];exact aR uZ (au aG ay) aLy aC ((ahB k a sk).trans (BD k a sk h))
 .rw[h];exact aR uZ (au aG ay) aLy aC ((ahC k a sk).trans (BD k a sk h))
 .rw[h];exact aR uZ (au aG ay) aLy aC ((ahD k a sk).trans (BD k a sk h))
def tbO(i:Nat):Nat:=Ri z i (aU (r i) (a i))
def tbD(i:Nat):Nat:=Ri z i (r (3+i))
def tbo:Nat->Nat:=ls [tbO a r z 0,tbO a r z 1,tbO a r z 2]
def tbd:Nat->Nat:=ls [tbD r z 0,tbD r z 1,tbD r z 2]
def tbZ:Bool:=dR (tbD r z 0) 0&&(dR (tbD r z 1) 0&&(dR (tbD r z 2) 0&&true))
def tbA:Bool:=alK (tbO a r z 0) (tbO a r z 1) (tbO a r z 2) (a 9)
def tbB:Bool:=QB (tbo a r z) (tbd r z) (a 9)
def tbP:Nat:=abN (tbo a r z) (tbd r z) (a 9)
def tbQ:Nat:=abF (tbo a r z) (tbd r z) (a 9)
def tbI:Nat:=cond (bW (tbP a r z) n) (tbP a r z) n
def tbU:Nat:=cond (dN (tbQ a r z) f) (tbQ a r z) f
def TG:Bool:=cond (tbZ r z) (tbA a r z) (cond (tbB a r z) (!bW (tbI a r n z) (tbU a r f z)) false)
def tbN:Nat:=cond (TG a r n f z) (cond (tbZ r z) n (tbI a r n z)) 0
def tbF:Nat:=cond (TG a r n f z) (cond (tbZ r z) f (tbU a r f z)) 0
def tbY(i o:Nat):Option Out:=cond (bW i o) (QE 0 0 false) (QE i o true)
def tbX:Option Out:=cond (tbZ r z) (some (Out.of (alV (tbO a r z 0) (tbO a r z 1) (tbO a r z 2) (a 9) n f))) (cond (!tbB a r z) (QE 0 0 false)
 (cond (!bW (tbP a r z) n) (cond (!dN (tbQ a r z) f) (tbY n f) (tbY n (tbQ a r z))) (cond (!dN (tbQ a r z) f) (tbY (tbP a r z) f) (tbY (tbP a r z) (tbQ a r z)))))
def tbV:AV:=.bK [.f (tbN a r n f z),.f (tbF a r n f z),bA (TG a r n f z)]
theorem acv:tbX a r n f z=some (Out.of (tbV a r n f z)):=by
 unfold tbX tbV tbN tbF TG tbI tbU alV tbY QE;rw[show alK (tbO a r z 0) (tbO a r z 1) (tbO a r z 2) (a 9)=tbA a r z from rfl];cases tbZ r z
 .cases tbB a r z
  .rfl
  .cases bW (tbP a r z) n<;>cases dN (tbQ a r z) f<;>simp only[aY,eU,aH7,Bool.not_false]
   .cases bW n f<;>rfl
   .cases bW n (tbQ a r z)<;>rfl
   .cases bW (tbP a r z) f<;>rfl
   .cases bW (tbP a r z) (tbQ a r z)<;>rfl
 .cases tbA a r z<;>rfl
theorem ahE:ev bO V8 [tuK 0] bC aNb [SH k a sk,RY r,.f n,.f f] ret=gTu k a sk 0 (tbX a r n f 0):=by kernel_rfl
theorem ahF:ev bO V8 [tuK 1] bC aNb [SH k a sk,RY r,.f n,.f f] ret=gTu k a sk 1 (tbX a r n f 1):=by kernel_rfl
theorem ahG:ev bO V8 [tuK 2] bC aNb [SH k a sk,RY r,.f n,.f f] ret=gTu k a sk 2 (tbX a r n f 2):=by kernel_rfl
theorem aC4:aj bO 286 [SH k a sk,RY r,.f n,.f f] (tbV a r n f (zB a)):=by
 rcases HZ a with h |h |h
 .rw[h];exact aR uZ (au aG ay) aLz aC ((ahE k a sk r n f).trans ((vN k a sk h).trans (acv a r n f 0)))
 .rw[h];exact aR uZ (au aG ay) aLz aC ((ahF k a sk r n f).trans ((vN k a sk h).trans (acv a r n f 1)))
 .rw[h];exact aR uZ (au aG ay) aLz aC ((ahG k a sk r n f).trans ((vN k a sk h).trans (acv a r n f 2)))
def ahH:Nat:=cond (TG a r n f z) (cond (bW (tbN a r n f z) (r 6)) (tbN a r n f z) (tbF a r n f z)) 0
def X0:List Entry:=⟨286,FW λ a r n f=>tbV a r n f (zB a)⟩::V9
theorem akr:∀e,e∈X0->jr bO e:=aL (uE aC4) Cj
theorem aC5:aj bO 289 [SH k a sk,RY r,.f n,.f f] (.bK [.f (ahH a r n f (zB a)),bA (TG a r n f (zB a))]):=by refine sp akr Tryz.func289 ((show ev bO X0 [] bC Tryz.f289 [SH k a sk,RY r,.f n,.f f] ret=cond (!TG a r n f (zB a)) (s2 0 false) (cond (bW (tbN a r n f (zB a)) (r 6)) (s2 (tbN a r n f (zB a)) true) (s2 (tbF a r n f (zB a)) true)) by kernel_rfl).trans ?_);unfold ahH s2;cases TG a r n f (zB a)<;>cases bW (tbN a r n f (zB a)) (r 6)<;>rfl
end
end Go.Proofs.YtdlhemnconimnaaGreat.Hs
end
