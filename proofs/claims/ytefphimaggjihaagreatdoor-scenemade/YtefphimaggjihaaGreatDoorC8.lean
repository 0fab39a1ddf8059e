/-
  The second evaluator, part Ge.
-/
import Derived.Test.YtefphimaggjihaaGreatDoorC7
namespace Go.Gv
open Go.RowKit Go.Ev
noncomputable section
theorem lI {s1 s2:St}{y:Operand}(h:∀t,y=.tmp t→s1.slots.getD t dflt=s2.slots.getD t dflt):aG s1 y=aG s2 y:=by
 cases y<;>first |rfl | (simp only[aG];rw[h _ rfl])
theorem lJ {s1 s2:St}{c:Chain}{y:Operand}(h:∀t,y=.tmp t→s1.slots.getD t dflt=s2.slots.getD t dflt):iB s1.slots c y=iB s2.slots c y:=by
 cases y<;>first |rfl | (simp only[iB];rw[h _ rfl])
def tmpsOf(xs:List Operand):List Nat:=xs.filterMap fun |.tmp t=>some t |_=>none
def looks(ops:List Oper)(o:Oper):List Nat:=tmpsOf o.op.operands.toList++jY ops o
theorem Lg {xs:List Operand}{y:Operand}{t:Nat}(hy:y∈xs)(ht:y=.tmp t):t∈tmpsOf xs:=by
 unfold tmpsOf
 exact List.mem_filterMap.2⟨y,hy,by rw[ht]⟩
theorem u7 {ops:List Oper}{s1 s2:St}{o:Oper}(h:∀t,t∈jY ops o→s1.slots.getD t dflt=s2.slots.getD t dflt):fV ops s1.slots o=fV ops s2.slots o:=by
 unfold fV
 cases hg:o.guard with
 |none=>rfl
 |some gw =>
  obtain⟨j,want⟩:=gw
  simp only
  cases hj:ops[j]? with
  |none=>rfl
  |some oj =>
   simp only
   cases hd:oj.dst with
   |none=>rfl
   |some d=>simp only;rw[h d(by simp[jY,hg,hj,hd])]
theorem acR {m1 m2:List Row}{x:AV}(h:∀k,k∈rowsOf x→m1[k]?=m2[k]?):aat m1 x=aat m2 x:=by
 cases x<;>simp only[aat]<;>first |rfl | (rw[h _(by simp[rowsOf])])
theorem MX {P:Program}{s1 s2:St}{c:Call}(h:∀y,y∈(Op.call c).operands.toList→aG s1 y=aG s2 y):qM P s1 c=qM P s2 c:=by
 have hr:∀r m,c.callee=.invoke r m→aG s1 r=aG s2 r:=fun r m e=>h r(by simp[Op.operands,Call.operands,e])
 have hargs:c.args.toList.map(aG s1)=c.args.toList.map(aG s2):=List.map_congr_left fun y hy=>h y(by simp[Op.operands,Call.operands];exact Or.inr(by simpa using hy))
 unfold qM
 rw[hargs]
 cases BG:c.callee with
 |invoke r m=>simp only;rw[hr r m BG]
 |value f=>simp only;rw[h f(by simp[Op.operands,Call.operands,BG])]
 |builtin b=>rfl
theorem YG {P:Program}{T:Tab}{s1 s2:St}{o:Oper}(h:∀y,y∈o.op.operands.toList→aG s1 y=aG s2 y)(hm:∀k,k∈Sv s1 o→s1.mem[k]?=s2.mem[k]?):Mi P T s1 o=Mi P T s2 o:=by
 obtain⟨dst,op,type,pos,after,guard⟩:=o
 cases op<;>simp only[Mi]<;>first |rfl |skip
 case move y=>rw[h y(by simp[Op.operands])]
 case assign y=>rw[h y(by simp[Op.operands])]
 case load t y =>
  rw[←h y(by simp[Op.operands])]
  rw[acR(m1:=s1.mem)(m2:=s2.mem)hm]
 case fieldAddr t y f=>rw[h y(by simp[Op.operands])]
 case nilCheck y=>rw[h y(by simp[Op.operands])]
 case indexAddr t y z=>rw[h y(by simp[Op.operands]),h z(by simp[Op.operands])]
 case index t y z=>rw[h y(by simp[Op.operands]),h z(by simp[Op.operands])]
 case field t y f=>rw[h y(by simp[Op.operands])]
 case binOp op t y z t2=>rw[h y(by simp[Op.operands]),h z(by simp[Op.operands])]
 case unOp op t y=>rw[h y(by simp[Op.operands])]
 case convert a b y =>
  rw[←h y(by simp[Op.operands])]
  split
  ·rfl
  ·exact YH fun k sz st sub n hk=>hm k(by simp[Sv,hk,rowsOf])
 case slice t y lo hi mx =>
  have e:∀z:Option Operand,(∀q,z=some q→q∈(Op.slice t y lo hi mx).operands.toList)→z.map(aG s1)=z.map(aG s2):=fun z hz=>by
   cases z with
   |none=>rfl
   |some q=>simp only[Option.map_some];rw[h q(hz q rfl)]
  rw[h y(by simp[Op.operands]),e lo(fun q hq=>by simp[Op.operands,hq]),e hi(fun q hq=>by simp[Op.operands,hq]),e mx(fun q hq=>by simp[Op.operands,hq])]
 case build t ps =>
  congr 2
  refine List.map_congr_left fun p hp=>?_
  rw[h p.2(by simp only[Op.operands];exact List.mem_map_of_mem hp)]
 case extract y i=>rw[h y(by simp[Op.operands])]
 case makeInterface t y=>rw[h y(by simp[Op.operands])]
 case typeAssert y a b ok=>rw[h y(by simp[Op.operands])]
 case call c =>
  have hargs:c.args.toList.map(aG s1)=c.args.toList.map(aG s2):=List.map_congr_left fun y hy=>h y(by simp[Op.operands,Call.operands];exact Or.inr(by simpa using hy))
  rw[MX(s1:=s1)(s2:=s2)h,hargs]
theorem Lh {α:Type}{p q:α→Bool}:∀{l:List α},(∀x,x∈l→p x=q x)→l.all p=l.all q
 | [],_=>rfl
 |x::l,h=>by simp only[List.all_cons];rw[h x(by simp),Lh(fun y hy=>h y(by simp[hy]))]
theorem U6 {P:Program}{T:Tab}{ops:List Oper}{s1 s2:St}{o:Oper}(h:∀t,t∈looks ops o→s1.slots.getD t dflt=s2.slots.getD t dflt)(hm:∀k,k∈Sv s1 o→s1.mem[k]?=s2.mem[k]?) :
  um P T ops s1 o=um P T ops s2 o:=by
 have hop:∀y,y∈o.op.operands.toList→∀t,y=.tmp t→s1.slots.getD t dflt=s2.slots.getD t dflt:=fun y hy t ht=>h t(List.mem_append_left _(Lg hy ht))
 have hte:∀t,t∈jY ops o→s1.slots.getD t dflt=s2.slots.getD t dflt:=fun t ht=>h t(List.mem_append_right _ ht)
 unfold um
 rw[u7 hte]
 cases hc:fV ops s2.slots o with
 |none=>rfl
 |some c =>
  simp only
  split
  ·rename_i g x y arN
   have h1:=hop(.tmp g)(by rw[arN];simp[Op.operands])
   have h2:=hop x(by rw[arN];simp[Op.operands])
   have h3:=hop y(by rw[arN];simp[Op.operands])
   rw[lJ h1,lJ h2,lJ h3,lI h1,lI h2,lI h3]
  ·rw[Lh(fun y hy=>lJ(hop y hy)),YG(fun y hy=>lI(hop y hy))hm]
theorem QV {P:Program}{s1 s2:St}{t:TypeId}{p x:AV}{b:Bool}{bg:Eff}(h:FP P s1 t p x=some(b,bg))(hm:∀k,k∈bg.rd→s1.mem[k]?=s2.mem[k]?):FP P s2 t p x=some(b,bg):=by
 unfold FP at h ⊢
 split at h
 ·rename_i inf mU
  cases hk:(rZ x&&(x.cells.length==inf.size))
  ·rw[hk]at h;cases h
  ·rw[hk]at h
   simp only[cond_true]at h ⊢
   split at h
   ·rename_i k off
    split at h
    ·rename_i l hmk
     cases hl:Nat.ble(off+inf.size)l.length
     ·rw[hl]at h;cases h
     ·rw[hl]at h
      have h0:=h
      simp only[cond_true,Option.some.injEq,Prod.mk.injEq]at h
      have e:=hm k(by rw[←h.2];simp)
      rw[←e,hmk]
      simp only[hl]
      exact h0
    ·rename_i e1 l hmk
     cases hl:Nat.ble(off+inf.size)l.length
     ·rw[hl]at h;cases h
     ·rw[hl]at h
      have h0:=h
      simp only[cond_true,Option.some.injEq,Prod.mk.injEq]at h
      have e:=hm k(by rw[←h.2];simp)
      rw[←e,hmk]
      simp only[hl]
      exact h0
    ·cases h
   ·rename_i k sz q sub
    split at h
    ·rename_i e0 sz' n el hmk
     cases hl:((sz==sz')&&(bZ x.cells&&Nat.ble(sub+inf.size)(el q).length))
     ·rw[hl]at h;cases h
     ·rw[hl]at h
      have h0:=h
      simp only[cond_true,Option.some.injEq,Prod.mk.injEq]at h
      have e:=hm k(by rw[←h.2];simp)
      rw[←e,hmk]
      simp only[hl]
      exact h0
    ·cases h
   ·cases h
 ·cases h
theorem MZ {P:Program}{s1 s2:St}{nk:Nat}{t:TypeId}{x y:AV}{b:Bool}{bg:Eff}(h:qP P s1 nk t x y=some(b,bg))(hm:∀k,k∈bg.rd→s1.mem[k]?=s2.mem[k]?):qP P s2 nk t x y=some(b,bg):=by
 have h0:=h
 unfold qP at h ⊢
 split at h
 ·rename_i e hun
  split at h
  ·rename_i i hi
   split at h
   ·rename_i z hz
    split at h
    ·rename_i bb k n el j m ns hH FT
     cases hk:((z.cells.size==i.size)&&(Nat.blt 0 i.bytes&&((ns.all fun new=>new.all je)&&((ns.all bZ)&&!(k==some j)))))
     ·rw[hk]at h;cases h
     ·have h':=h
      rw[hk]at h'
      simp only[cond_true,Option.some.injEq,Prod.mk.injEq]at h'
      have hrd:bg.rd=k.toList++[j]:=by rw[←h'.2]
      have hH2:vU s2.mem e i.size x=some(bb,k,n,el):=by
       rw[←hH]
       unfold vU at hH ⊢
       split at hH
       ·rfl
       ·rename_i k1 sz len
        split at hH
        ·rename_i e' sz' n' tJ hmk
         cases hk2:((e==e')&&((sz==i.size)&&(sz'==i.size)))
         ·rw[hk2]at hH;cases hH
         ·rw[hk2]at hH
          simp only[cond_true,Option.some.injEq,Prod.mk.injEq]at hH
          have:=hm k1(by rw[hrd,←hH.2.1];simp)
          rw[←this,hmk]
          simp only[hk2]
        ·cases hH
       ·cases hH
      have hT2:GX s2.mem i.size y=some(j,m,ns):=by
       rw[←FT]
       unfold GX at FT ⊢
       split at FT
       ·rename_i k1 sz m'
        split at FT
        ·rename_i e' sz' n' tJ hmk
         cases hk2:((sz==i.size)&&((sz'==i.size)&&Nat.blt 0 m'))
         ·rw[hk2]at FT;cases FT
         ·rw[hk2]at FT
          simp only[cond_true,Option.some.injEq,Prod.mk.injEq]at FT
          have:=hm k1(by rw[hrd,←FT.1];simp)
          rw[←this,hmk]
          simp only[hk2]
        ·cases FT
       ·cases FT
      simp only[hH2,hT2]
      exact h
    ·cases h
   ·cases h
  ·cases h
 ·cases h
theorem Li {P:Program}{s1 s2:St}{nk:Nat}{t:TypeId}{x y:AV}{b:Bool}{bg:Eff}(h:nQ P s1 nk t x y=some(b,bg))(hm:∀k,k∈bg.rd→s1.mem[k]?=s2.mem[k]?):nQ P s2 nk t x y=some(b,bg):=by
 have h0:=h
 unfold nQ at h ⊢
 split at h
 ·rename_i e hun
  split at h
  ·rename_i i hi
   split at h
   ·rename_i z hz
    split at h
    ·rename_i k n el j m ns hH FT
     cases hk:((z.cells.size==i.size)&&(Nat.blt 0 i.bytes&&((ns.all fun new=>new.all je)&&((ns.all bZ)&&!(k==j)))))
     ·rw[hk]at h;cases h
     ·have h':=h
      rw[hk]at h'
      simp only[cond_true,Option.some.injEq,Prod.mk.injEq]at h'
      have hrd:bg.rd=[k,j]:=by rw[←h'.2]
      have hH2:SN s2.mem e i.size x=some(k,n,el):=by
       rw[←hH]
       unfold SN at hH ⊢
       split at hH
       ·rename_i k1 sz len
        split at hH
        ·rename_i e' sz' n' tJ hmk
         cases hk2:((e==e')&&((sz==i.size)&&((sz'==i.size)&&((len==n')&&Nat.blt 0 n'))))
         ·rw[hk2]at hH;cases hH
         ·rw[hk2]at hH
          simp only[cond_true,Option.some.injEq,Prod.mk.injEq]at hH
          have:=hm k1(by rw[hrd,←hH.1];simp)
          rw[←this,hmk]
          simp only[hk2]
        ·cases hH
       ·cases hH
      have hT2:GX s2.mem i.size y=some(j,m,ns):=by
       rw[←FT]
       unfold GX at FT ⊢
       split at FT
       ·rename_i k1 sz m'
        split at FT
        ·rename_i e' sz' n' tJ hmk
         cases hk2:((sz==i.size)&&((sz'==i.size)&&Nat.blt 0 m'))
         ·rw[hk2]at FT;cases FT
         ·rw[hk2]at FT
          simp only[cond_true,Option.some.injEq,Prod.mk.injEq]at FT
          have:=hm k1(by rw[hrd,←FT.1];simp)
          rw[←this,hmk]
          simp only[hk2]
        ·cases FT
       ·cases FT
      simp only[hH2,hT2]
      exact h
    ·cases h
   ·cases h
  ·cases h
 ·cases h
theorem Lj {P:Program}{s1 s2:St}{nk:Nat}{t:TypeId}{x:AV}{sz m:Nat}{el2:Nat→List AV}{b:Bool}{bg:Eff}(h:rW P s1 nk t x sz m el2=some(b,bg))(hm:∀k,k∈bg.rd→s1.mem[k]?=s2.mem[k]?):rW P s2 nk t x sz m el2=some(b,bg):=by
 have h0:=h
 unfold rW at h ⊢
 split at h
 ·rename_i e hun
  split at h
  ·rename_i i hi
   split at h
   ·rename_i z hz
    split at h
    ·rename_i bb k n el hH
     cases hk:((z.cells.size==i.size)&&(Nat.blt 0 i.bytes&&(sz==i.size)))
     ·rw[hk]at h;cases h
     ·have h':=h
      rw[hk]at h'
      simp only[cond_true,Option.some.injEq,Prod.mk.injEq]at h'
      have hrd:bg.rd=k.toList:=by rw[←h'.2]
      have hH2:vU s2.mem e i.size x=some(bb,k,n,el):=by
       rw[←hH]
       unfold vU at hH ⊢
       split at hH
       ·rfl
       ·rename_i k1 sz len
        split at hH
        ·rename_i e' sz' n' tJ hmk
         cases hk2:((e==e')&&((sz==i.size)&&(sz'==i.size)))
         ·rw[hk2]at hH;cases hH
         ·rw[hk2]at hH
          simp only[cond_true,Option.some.injEq,Prod.mk.injEq]at hH
          have:=hm k1(by rw[hrd,←hH.2.1];simp)
          rw[←this,hmk]
          simp only[hk2]
        ·cases hH
       ·cases hH
      rw[hk]at h
      simp only[hH2]
      exact h
    ·cases h
   ·cases h
  ·cases h
 ·cases h
theorem acS {P:Program}{s1 s2:St}{nk:Nat}{t:TypeId}{x y:AV}{b:Bool}{bg:Eff}(h:cond(isZ s1.mem x)(nQ P s1 nk t x y)(qP P s1 nk t x y)=some(b,bg))(hm:∀k,k∈bg.rd→s1.mem[k]?=s2.mem[k]?):isZ s2.mem x=isZ s1.mem x:=by
 have key:∀k1 sz st len,x=.fJ k1 sz st len→s1.mem[k1]?=s2.mem[k1]?:=fun k1 sz st len hx=>by
  subst hx
  cases hz:isZ s1.mem(.fJ k1 sz st len)
  ·rw[hz]at h
   simp only[cond_false]at h
   unfold qP at h
   split at h
   ·split at h
    ·rename_i i _
     split at h
     ·rename_i z _
      split at h
      ·rename_i bb k n el j m ns hH _
       cases hk:((z.cells.size==i.size)&&(Nat.blt 0 i.bytes&&((ns.all fun new=>new.all je)&&((ns.all bZ)&&!(k==some j)))))
       ·rw[hk]at h;cases h
       ·rw[hk]at h
        simp only[cond_true,Option.some.injEq,Prod.mk.injEq]at h
        have hrd:bg.rd=k.toList++[j]:=by rw[←h.2]
        unfold vU at hH
        split at hH
        ·rename_i hx;cases hx
        ·rename_i k2 Mk len2 hx
         cases hx
         split at hH
         ·rename_i e' sz' n' tJ hmk
          cases hk2:((_==e')&&((sz==i.size)&&(sz'==i.size)))
          ·rw[hk2]at hH;cases hH
          ·rw[hk2]at hH
           simp only[cond_true,Option.some.injEq,Prod.mk.injEq]at hH
           exact hm k1(by rw[hrd,←hH.2.1];simp)
         ·cases hH
        ·cases hH
      ·cases h
     ·cases h
    ·cases h
   ·cases h
  ·rw[hz]at h
   simp only[cond_true]at h
   unfold nQ at h
   split at h
   ·split at h
    ·rename_i i _
     split at h
     ·rename_i z _
      split at h
      ·rename_i k n el j m ns hH _
       cases hk:((z.cells.size==i.size)&&(Nat.blt 0 i.bytes&&((ns.all fun new=>new.all je)&&((ns.all bZ)&&!(k==j)))))
       ·rw[hk]at h;cases h
       ·rw[hk]at h
        simp only[cond_true,Option.some.injEq,Prod.mk.injEq]at h
        have hrd:bg.rd=[k,j]:=by rw[←h.2]
        unfold SN at hH
        split at hH
        ·rename_i k2 Mk len2 hx
         cases hx
         split at hH
         ·rename_i e' sz' n' tJ hmk
          cases hk2:((_==e')&&((sz==i.size)&&((sz'==i.size)&&((len==n')&&Nat.blt 0 n'))))
          ·rw[hk2]at hH;cases hH
          ·rw[hk2]at hH
           simp only[cond_true,Option.some.injEq,Prod.mk.injEq]at hH
           exact hm k1(by rw[hrd,←hH.1];simp)
         ·cases hH
        ·cases hH
      ·cases h
     ·cases h
    ·cases h
   ·cases h
 unfold isZ
 cases x<;>try rfl
 rename_i k1 sz st len
 simp only
 rw[key k1 sz st len rfl]
theorem Ll {P:Program}{s1 s2:St}{nk:Nat}{t:TypeId}{x y:AV}{b:Bool}{bg:Eff}(h:rX P s1 nk t x y=some(b,bg))(hm:∀k,k∈bg.rd→s1.mem[k]?=s2.mem[k]?):rX P s2 nk t x y=some(b,bg):=by
 unfold rX at h ⊢
 split at h
 ·exact h
 ·exact Lj h hm
 ·have hz2:isZ s2.mem x=isZ s1.mem x:=acS h hm
  rw[hz2]
  cases hz:isZ s1.mem x
  ·rw[hz]at h
   exact MZ h hm
  ·rw[hz]at h
   exact Li h hm
theorem Lm {P:Program}{s1 s2:St}{nk:Nat}{t t':TypeId}{x y:AV}{b:Bool}{bg:Eff}(h:rY P s1 nk t t' x y=some(b,bg))(hm:∀k,k∈bg.rd→s1.mem[k]?=s2.mem[k]?):rY P s2 nk t t' x y=some(b,bg):=by
 unfold rY at h ⊢
 split at h
 ·split at h
  ·split at h
   ·rename_i e hun
    split at h
    ·rename_i i hi
     split at h
     ·rename_i z hz
      split at h
      ·rename_i bb k n el hH
       cases hk:((z.cells.size==i.size)&&(Nat.blt 0 i.bytes&&(i.size==1)))
       ·rw[hk]at h;cases h
       ·have h':=h
        rw[hk]at h'
        simp only[cond_true,Option.some.injEq,Prod.mk.injEq]at h'
        have hrd:bg.rd=k.toList:=by rw[←h'.2]
        have hH2:vU s2.mem e i.size x=some(bb,k,n,el):=by
         rw[←hH]
         unfold vU at hH ⊢
         split at hH
         ·rfl
         ·rename_i k1 sz len
          split at hH
          ·rename_i e' sz' n' tJ hmk
           cases hk2:((e==e')&&((sz==i.size)&&(sz'==i.size)))
           ·rw[hk2]at hH;cases hH
           ·rw[hk2]at hH
            simp only[cond_true,Option.some.injEq,Prod.mk.injEq]at hH
            have:=hm k1(by rw[hrd,←hH.2.1];simp)
            rw[←this,hmk]
            simp only[hk2]
          ·cases hH
         ·cases hH
        rw[hk]at h
        simp only[hH2]
        exact h
      ·cases h
     ·cases h
    ·cases h
   ·cases h
  ·cases h
 ·cases h
theorem U7 {P:Program}{s1 s2:St}{nk:Nat}{t t':TypeId}{x y:AV}{b:Bool}{bg:Eff}(h:vV P s1 nk t t' x y=some(b,bg))(hm:∀k,k∈bg.rd→s1.mem[k]?=s2.mem[k]?):vV P s2 nk t t' x y=some(b,bg):=by
 unfold vV at h ⊢
 cases hk:t==t'
 ·rw[hk]at h
  exact Lm h hm
 ·rw[hk]at h
  exact Ll h hm
theorem U8 {P:Program}{s1 s2:St}{t:TypeId}{x y:AV}{b:Bool}{bg:Eff}(h:Nk P s1 t x y=some(b,bg))(hm:∀k,k∈bg.rd→s1.mem[k]?=s2.mem[k]?):Nk P s2 t x y=some(b,bg):=by
 unfold Nk at h ⊢
 split at h
 ·rename_i e hun
  split at h
  ·rename_i i hi
   split at h
   ·rename_i k sz st sub n j Mk st2 kE n2
    split at h
    ·rename_i e' sz3 m el l hmk hmj
     have h0:=h
     cases hk:((sz==i.size)&&((Mk==i.size)&&((sz3==i.size)&&((sub==0)&&(Nat.blt 0 n2&&(Nat.ble(st2*Mk+kE+n2*i.size)l.length&&(bZ l&&(l.all je&&!(k==j)))))))))
     ·rw[hk]at h;cases h
     ·rw[hk]at h
      simp only[cond_true,Option.some.injEq,Prod.mk.injEq]at h
      have e1:s2.mem[k]?=some(.a e' sz3 m el):=by rw[←hm k(by rw[←h.2];simp)];exact hmk
      have e2:s2.mem[j]?=some(.c l):=by rw[←hm j(by rw[←h.2];simp)];exact hmj
      simp only[e1,e2]
      exact h0
    ·cases h
   ·cases h
  ·cases h
 ·cases h
theorem U9 {P:Program}{s1 s2:St}{src dst:TypeId}{x:AV}{b:Bool}{bg:Eff}(h:Nl P s1 src dst x=some(b,bg))(hm:∀k,k∈bg.rd→s1.mem[k]?=s2.mem[k]?):Nl P s2 src dst x=some(b,bg):=by
 unfold Nl at h ⊢
 split at h
 ·split at h
  ·cases hsd:src==dst
   ·rw[hsd]at h;cases h
   ·rw[hsd]at h
    simp only[cond_true]at h ⊢
    split at h
    ·rename_i k sz st n
     split at h
     ·rename_i e2 Mk m el hmk
      have e:bg.rd=[k]:=by simp only[Option.some.injEq,Prod.mk.injEq]at h;rw[←h.2]
      rw[←hm k(by rw[e];simp),hmk]
      exact h
     ·rename_i xx e2 Mk m el hmk
      have e:bg.rd=[k]:=by simp only[Option.some.injEq,Prod.mk.injEq]at h;rw[←h.2]
      rw[←hm k(by rw[e];simp),hmk]
      exact h
     ·cases h
    ·cases h
  ·cases h
 ·cases h
theorem Va {s1 s2:St}{x:AV}{b:Bool}{bg:Eff}(h:Nn s1 x=some(b,bg))(hm:∀k,k∈bg.rd→s1.mem[k]?=s2.mem[k]?):Nn s2 x=some(b,bg):=by
 unfold Nn at h ⊢
 split at h
 ·rename_i k
  split at h
  ·rename_i st p hmk
   have e:bg.rd=[k]:=by simp only[Option.some.injEq,Prod.mk.injEq]at h;rw[←h.2]
   rw[←hm k(by rw[e];simp),hmk]
   exact h
  ·rename_i st p hmk
   have e:bg.rd=[k]:=by simp only[Option.some.injEq,Prod.mk.injEq]at h;rw[←h.2]
   rw[←hm k(by rw[e];simp),hmk]
   exact h
  ·cases h
 ·cases h
theorem Ol {P:Program}{T:Tab}(hR:∀f g,T.r f=some g→∀args look SQ b v rd,g args look=some(b,v,rd)→(∀k,k∈rd→look k=SQ k)→g args SQ=some(b,v,rd)) {s1 s2:St}{nk:Nat}{o:Oper}{b:Bool}{bg:Eff}(h:∀y,y∈o.op.operands.toList→aG s1 y=aG s2 y)(hw:WO P T s1 nk o=some(b,bg))(hm:∀k,k∈bg.rd→s1.mem[k]?=s2.mem[k]?):WO P T s2 nk o=some(b,bg):=by
 obtain⟨dst,op,type,pos,after,guard⟩:=o
 cases op<;>simp only[WO]at hw ⊢<;>first | (cases hw;done) |skip
 case box t y=>rw[←h y(by simp[Op.operands])];exact hw
 case alloc t=>exact hw
 case buildSlice t len ps =>
  have e:(ps.toList.map fun p=>(p.1,aG s1 p.2))=ps.toList.map fun p=>(p.1,aG s2 p.2):=List.map_congr_left fun p hp=>by
   rw[h p.2(by simp only[Op.operands];exact List.mem_map_of_mem hp)]
  rw[←e]
  exact hw
 case makeSlice t l c=>rw[←h l(by simp[Op.operands]),←h c(by simp[Op.operands])];exact hw
 case store t p y =>
  cases hd:dst with
  |some d=>rw[hd]at hw;cases hw
  |none =>
   rw[hd]at hw
   rw[←h p(by simp[Op.operands]),←h y(by simp[Op.operands])]
   exact QV hw hm
 case convert src dst y =>
  rw[←h y(by simp[Op.operands])]
  exact U9 hw hm
 case range t y=>rw[←h y(by simp[Op.operands])];exact hw
 case next it bb =>
  cases bb with
  |false=>cases hw
  |true=>rw[←h it(by simp[Op.operands])];exact Va hw hm
 case call c =>
  have hargs:c.args.toList.map(aG s1)=c.args.toList.map(aG s2):=List.map_congr_left fun y hy=>h y(by simp[Op.operands,Call.operands];exact Or.inr(by simpa using hy))
  rw[←hargs]
  split at hw
  ·rename_i hb
   split at hw
   ·rename_i x y t t' ha ht
    exact U7 hw hm
   ·cases hw
  ·rename_i hb
   split at hw
   ·rename_i x y t t' ha ht
    cases hk:t==t'
    ·rw[hk]at hw;cases hw
    ·rw[hk]at hw
     exact U8 hw hm
   ·cases hw
  ·rename_i f hb
   cases hTr:T.r f with
   |some g =>
    simp only[hTr]at hw ⊢
    unfold Xb at hw ⊢
    split at hw
    ·rename_i b' v rd hge
     cases hno:nI v
     ·rw[hno]at hw;cases hw
     ·rw[hno]at hw
      simp only[cond_true,Option.some.injEq,Prod.mk.injEq]at hw
      obtain⟨rfl,rfl⟩:=hw
      rw[hR f g hTr _ _ _ _ _ _ hge hm]
      simp only[hno,cond_true]
    ·cases hw
   |none =>
   simp only[hTr]at hw ⊢
   unfold Py at hw ⊢
   split at hw
   ·rename_i g hg
    split at hw
    ·rename_i b' Pq hge
     cases hrd:Pq.rd==uw(c.args.toList.map(aG s1))
     ·rw[hrd]at hw;cases hw
     ·rw[hrd]at hw
      simp only[cond_true,Option.some.injEq,Prod.mk.injEq]at hw
      obtain⟨rfl,rfl⟩:=hw
      have e1:((uw(c.args.toList.map(aG s1))).map fun k=>s2.mem[k]?)=(uw(c.args.toList.map(aG s1))).map fun k=>s1.mem[k]?:=List.map_congr_left fun k hk=>(hm k(by rw[eq_of_beq hrd];exact hk)).symm
      simp only[e1,hge,hrd,cond_true]
    ·cases hw
   ·cases hw
  ·cases hw
theorem YI {T:Tab}{s1 s2:St}{nk:Nat}{o:Oper}(h:∀y,y∈o.op.operands.toList→aG s1 y=aG s2 y):BF T s1 nk o=BF T s2 nk o:=by
 unfold BF
 split
 ·rename_i c hop
  have e:c.args.toList.map(aG s1)=c.args.toList.map(aG s2):=List.map_congr_left fun y hy=>h y(by rw[hop];cases hc:c.callee<;>simp[Op.operands,Call.operands,hc]<;>(try right)<;>simpa using hy)
  rw[e]
 ·rfl
theorem ahm {P:Program}{s:St}{nk nk':Nat}{t t':TypeId}{x y:AV}{b:Bool}{bg:Eff}(h:vV P s nk t t' x y=some(b,bg))(hn:bg.nw=none):vV P s nk' t t' x y=some(b,bg):=by
 unfold vV at h
 cases hk:t==t'
 ·rw[hk]at h
  simp only[cond_false]at h
  unfold rY at h
  split at h
  ·split at h
   ·split at h
    ·split at h
     ·rename_i i _
      split at h
      ·rename_i z _
       split at h
       ·rename_i b' k n el _
        cases hk:((z.cells.size==i.size)&&(Nat.blt 0 i.bytes&&(i.size==1)))
        ·rw[hk]at h;cases h
        ·rw[hk]at h
         simp only[cond_true,Option.some.injEq,Prod.mk.injEq]at h
         rw[←h.2]at hn;cases hn
       ·cases h
      ·cases h
     ·cases h
    ·cases h
   ·cases h
  ·cases h
 ·rw[hk]at h
  simp only[cond_true]at h
  unfold rX at h
  split at h
  ·rename_i ad cp
   have e:vV P s nk' t t' x(.x(.slice ad 0 cp))=DZ P t x:=by unfold vV;rw[hk];rfl
   rw[e]
   exact h
  ·unfold rW at h
   split at h
   ·split at h
    ·rename_i i _
     split at h
     ·rename_i z _
      split at h
      ·rename_i b' k n el _
       cases hk:((z.cells.size==i.size)&&(Nat.blt 0 i.bytes&&(_==i.size)))
       ·rw[hk]at h;cases h
       ·rw[hk]at h
        simp only[cond_true,Option.some.injEq,Prod.mk.injEq]at h
        rw[←h.2]at hn;cases hn
      ·cases h
     ·cases h
    ·cases h
   ·cases h
  ·rename_i x' _ _
   cases hz:isZ s.mem x
   ·rw[hz]at h
    simp only[cond_false]at h
    unfold qP at h
    split at h
    ·split at h
     ·rename_i i _
      split at h
      ·rename_i z _
       split at h
       ·rename_i b' k n el j m ns _ _
        cases hk:((z.cells.size==i.size)&&(Nat.blt 0 i.bytes&&((ns.all fun new=>new.all je)&&((ns.all bZ)&&!(k==some j)))))
        ·rw[hk]at h;cases h
        ·rw[hk]at h
         simp only[cond_true,Option.some.injEq,Prod.mk.injEq]at h
         rw[←h.2]at hn;cases hn
       ·cases h
      ·cases h
     ·cases h
    ·cases h
   ·rw[hz]at h
    simp only[cond_true]at h
    unfold nQ at h
    split at h
    ·split at h
     ·rename_i i _
      split at h
      ·rename_i z _
       split at h
       ·rename_i k n el j m ns _ _
        cases hk:((z.cells.size==i.size)&&(Nat.blt 0 i.bytes&&((ns.all fun new=>new.all je)&&((ns.all bZ)&&!(k==j)))))
        ·rw[hk]at h;cases h
        ·rw[hk]at h
         simp only[cond_true,Option.some.injEq,Prod.mk.injEq]at h
         rw[←h.2]at hn;cases hn
       ·cases h
      ·cases h
     ·cases h
    ·cases h
theorem ahn {P:Program}{T:Tab}(hM:∀f g,T.m f=some g→∀args rows nk nk' b bg,g args rows nk=some(b,bg)→bg.nw=none→g args rows nk'=some(b,bg)) {s:St}{nk nk':Nat}{o:Oper}{b:Bool}{bg:Eff}(h:WO P T s nk o=some(b,bg))(hn:bg.nw=none):WO P T s nk' o=some(b,bg):=by
 unfold WO at h ⊢
 split at h
 ·rename_i t x hop
  cases hk:rZ(aG s x)
  ·rw[hk]at h;cases h
  ·rw[hk]at h
   simp only[cond_true,Option.some.injEq,Prod.mk.injEq]at h
   rw[←h.2]at hn;cases hn
 ·split at h
  ·split at h
   ·simp only[Option.some.injEq,Prod.mk.injEq]at h
    rw[←h.2]at hn;cases hn
   ·simp only[Option.some.injEq,Prod.mk.injEq]at h
    rw[←h.2]at hn;cases hn
  ·cases h
 ·rename_i t len ps hop
  cases hb:T.m(aez t)with
  |some g=>simp only[hb]at h ⊢;exact h
  |none =>
   simp only[hb]at h
   unfold Iu at h
   split at h
   ·unfold Pw at h
    split at h
    ·split at h
     ·simp only[Option.some.injEq,Prod.mk.injEq]at h
      rw[←h.2]at hn;cases hn
     ·cases h
    ·cases h
   ·rename_i len _ _ _
    unfold D5 at h
    split at h
    ·split at h
     ·rename_i size z _ _
      cases hk:(Nat.blt 0(len*size)&&Nat.ble(len*size)16777216)
      ·rw[hk]at h;cases h
      ·rw[hk]at h
       simp only[cond_true]at h
       split at h
       ·rename_i cells _
        cases hno:bZ cells
        ·rw[hno]at h;cases h
        ·rw[hno]at h
         simp only[cond_true,Option.some.injEq,Prod.mk.injEq]at h
         rw[←h.2]at hn;cases hn
       ·cases h
     ·cases h
    ·cases h
 ·rename_i t l c hop
  unfold Z9 at h
  split at h
  ·split at h
   ·rename_i i _
    split at h
    ·rename_i z _
     cases hk:(((z.cells.size==i.size)&&Nat.blt 0 i.bytes)&&bZ(z.cells.toList.map zC))
     ·rw[hk]at h;cases h
     ·rw[hk]at h
      simp only[cond_true,Option.some.injEq,Prod.mk.injEq]at h
      rw[←h.2]at hn;cases hn
    ·cases h
   ·cases h
  ·cases h
 ·exact h
 ·exact h
 ·unfold Pz at h
  split at h
  ·split at h
   ·simp only[Option.some.injEq,Prod.mk.injEq]at h
    rw[←h.2]at hn;cases hn
   ·cases h
  ·cases h
 ·exact h
 ·rename_i c hop
  split at h
  ·have:∀(l:List AV)(ts:List TypeId),(match l,ts with
     | [x,y],[t,t']=>vV P s nk t t' x y
     |_,_=>none)=some(b,bg)→(match l,ts with
     | [x,y],[t,t']=>vV P s nk' t t' x y
     |_,_=>none)=some(b,bg):=by
    intro l ts h
    split at h
    ·exact ahm h hn
    ·cases h
   exact this _ _ h
  ·exact h
  ·rename_i f _
   cases hTr:T.r f with
   |some g =>
    simp only[hTr]at h ⊢
    exact h
   |none =>
   simp only[hTr]at h ⊢
   unfold Py at h ⊢
   split at h
   ·rename_i g hg
    split at h
    ·rename_i b' Pq hge
     cases hrd:Pq.rd==uw(c.args.toList.map(aG s))
     ·rw[hrd]at h;cases h
     ·rw[hrd]at h
      simp only[cond_true,Option.some.injEq,Prod.mk.injEq]at h
      obtain⟨rfl,rfl⟩:=h
      simp only[hM f g hg _ _ _ nk' _ _ hge hn,hrd,cond_true]
    ·cases h
   ·cases h
  ·cases h
 ·cases h
end
noncomputable section
def Bb(o:Oper)(i:Nat):Bool:=o.after.toList.any fun e=>e.on==i&&Region.binds .any e
def writes(o:Oper)(t:Nat):Bool:=o.dst==some t
def YJ(M:List Nat)(o:Oper):Nat:=o.after.toList.foldr(fun e m=>cond(Region.binds .any e)(Nat.lor(Nat.lor(2 ^ e.on)(M.getD e.on 0))m)m)0
def jH:List Oper→List Nat→List Nat
 | [],M=>M
 |o::rest,M=>jH rest(M++[YJ M o])
structure Rec where
 nk:Nat
 b:Bool
 c:Chain
 bg:Eff
 ex:List Row
def Rec.touch(p:Rec)(r:Nat):Bool:=p.bg.rd.contains r||(p.bg.nw.isSome&&(Nat.ble p.nk r&&Nat.ble r(p.nk+p.ex.length)))
def Rec.Dl(p:Rec)(r:Nat):Bool:=match p.bg.wr with
 |some(r',_)=>r'==r
 |none=>false
def uJ(ops:List Oper)(len:Nat):Bool :=
 ops.zipIdx.all fun q =>
  (q.1.after.toList.all fun e=>!Region.binds .any e||Nat.blt e.on q.2) &&
  ((match q.1.dst with |some d=>Nat.blt d len&&ops.zipIdx.all(fun p=>!writes p.1 d||p.2==q.2) |none=>true) &&
  ((looks ops q.1).all(fun t=>ops.zipIdx.all fun p=>!writes p.1 t||((Nat.blt p.2 q.2&&Bb q.1 p.2)||(Nat.blt q.2 p.2&&Bb p.1 q.2))) &&
  (jY ops q.1).all(fun t=>ops.zipIdx.all fun p=>!writes p.1 t||Nat.blt p.2 q.2)))
def Bc(ops:List Oper)(M:List Nat):Bool:=ops.zipIdx.all fun q=>M.getD q.2 0==YJ M q.1
def Lp(M:List Nat)(recs:List Rec):Bool :=
 recs.zipIdx.all fun q=>match q.1.bg.wr with
  |none=>true
  |some(r,_)=>q.1.bg.rd.contains r&&recs.zipIdx.all fun p=>p.2==q.2||(!p.1.touch r||((Nat.blt p.2 q.2&&Nat.testBit(M.getD q.2 0)p.2)||(Nat.blt q.2 p.2&&Nat.testBit(M.getD p.2 0)q.2)))
def Ig(s:St)(dst:Option Nat)(c:Chain)(bg:Eff)(ex:List Row):St:=⟨oC s.slots dst(bg.v,c),bg.mem s.mem++ex⟩
theorem aho(s:St)(dst:Option Nat)(c:Chain)(bg:Eff):Ig s dst c bg []=zw s dst c bg:=by unfold Ig zw;rw[List.append_nil]
def QW(P:Program)(T:Tab)(L:List Oper)(s:St)(o:Oper)(q:Rec):Prop :=
 (vQ P T L s s.mem.length o=some(q.b,q.c,q.bg)∧q.ex=[])∨(∃r0,BF T s s.mem.length o=some(q.b,q.bg.v,r0::q.ex)∧Vz s o=true∧q.c=[]∧q.bg=⟨q.bg.v,[],none,some r0⟩)
def Lr(P:Program)(T:Tab)(ops:List Oper):List Oper→St→Option(St × List Rec)
 | [],s=>some(s,[])
 |o::rest,s=>match BF T s s.mem.length o with
  |some(b,v,r0::ex)=>cond(Vz s o)(match Lr P T ops rest(Ig s o.dst []⟨v,[],none,some r0⟩ex)with
   |some(s',recs)=>some(s',⟨s.mem.length,b,[],⟨v,[],none,some r0⟩,ex⟩::recs)
   |none=>none)none
  |some(_,_,[])=>none
  |none=>match vQ P T ops s s.mem.length o with
  |some(b,c,bg)=>cond(jQ s.slots c o.dst&&bg.rd.all(fun r=>Nat.blt r s.mem.length))(match Lr P T ops rest(zw s o.dst c bg)with
   |some(s',recs)=>some(s',⟨s.mem.length,b,c,bg,[]⟩::recs)
   |none=>none)none
  |none=>none
def drawn(P:Program)(T:Tab)(ops:List Oper)(s:St):Option St :=
 cond(uJ ops s.slots.length&&(Bc ops(jH ops [])&&s.slots.all(fun q=>q.2.isEmpty)))(match Lr P T ops ops s with
  |some(sf,recs)=>cond(Lp(jH ops [])recs&&recs.all(fun r=>r.b||!qx sf.slots r.c))(some sf)none
  |none=>none)none
structure Lex(P:Program)(T:Tab)(L:List Oper)(s0 sf:St)(S:Nat→St)(rec:Nat→Rec):Prop where
 ok:uJ L s0.slots.length=true
 masks:Bc L(jH L [])=true
 first:S 0=s0
 last:S L.length=sf
 step:∀k o,L[k]?=some o→QW P T L(S k)o(rec k)∧(rec k).nk=(S k).mem.length∧(∀r,r∈(rec k).bg.rd→r<(S k).mem.length)∧S(k+1)=Ig(S k)o.dst(rec k).c(rec k).bg(rec k).ex
 clear:∀t,(s0.slots.getD t dflt).2=[]
 conds:∀k,k<L.length→qx sf.slots(rec k).c=true→(rec k).b=true
 rows:∀k,k<L.length→∀r row,(rec k).bg.wr=some(r,row)→r∈(rec k).bg.rd∧∀i,i<L.length→i≠k→((rec i).touch r=true→(i<k∧Nat.testBit((jH L []).getD k 0)i=true)∨(k<i∧Nat.testBit((jH L []).getD i 0)k=true))
theorem Hq {P:Program}{T:Tab}{L:List Oper}:∀{l:List Oper}{s sf:St}{recs:List Rec},Lr P T L l s=some(sf,recs)→recs.length=l.length∧∃S:Nat→St,S 0=s∧S l.length=sf ∧
  ∀k o,l[k]?=some o→∃q,recs[k]?=some q∧QW P T L(S k)o q∧q.nk=(S k).mem.length∧(∀r,r∈q.bg.rd→r<(S k).mem.length)∧S(k+1)=Ig(S k)o.dst q.c q.bg q.ex
 | [],s,sf,recs,h=>by
  simp only[Lr,Option.some.injEq,Prod.mk.injEq]at h
  obtain⟨rfl,rfl⟩:=h
  exact⟨rfl,fun _=>s,rfl,rfl,fun k o hk=>by simp at hk⟩
 |o::l,s,sf,recs,h=>by
  simp only[Lr]at h
  have fin:∀(q:Rec)(s1:St),QW P T L s o q→q.nk=s.mem.length→(∀r,r∈q.bg.rd→r<s.mem.length)→s1=Ig s o.dst q.c q.bg q.ex→(match Lr P T L l s1 with
    |some(s',recs)=>some(s',q::recs)
    |none=>none)=some(sf,recs)→recs.length=(o::l).length∧∃S:Nat→St,S 0=s∧S(o::l).length=sf ∧
  ∀k o',(o::l)[k]?=some o'→∃q,recs[k]?=some q∧QW P T L(S k)o' q∧q.nk=(S k).mem.length∧(∀r,r∈q.bg.rd→r<(S k).mem.length)∧S(k+1)=Ig(S k)o'.dst q.c q.bg q.ex:=by
   intro q s1 hq hn hrd hs1 h
   split at h
   ·rename_i s' aDn h2
    simp only[Option.some.injEq,Prod.mk.injEq]at h
    obtain⟨rfl,rfl⟩:=h
    obtain⟨hl,S,h3,h4,h5⟩:=Hq h2
    refine⟨by simp[hl],fun k=>match k with | 0=>s |k+1=>S k,rfl,h4,fun k o' hk'=>?_⟩
    cases k with
    |zero =>
     simp at hk'
     subst hk'
     exact⟨q,rfl,hq,hn,hrd,h3.trans hs1⟩
    |succ k=>exact h5 k o'(by simpa using hk')
   ·cases h
  split at h
  ·rename_i b v r0 ex hN
   cases hk:Vz s o
   ·rw[hk]at h;cases h
   ·rw[hk]at h
    simp only[cond_true]at h
    exact fin⟨s.mem.length,b,[],⟨v,[],none,some r0⟩,ex⟩_(Or.inr⟨r0,hN,hk,rfl,rfl⟩)rfl(fun r hr=>by cases hr)rfl h
  ·cases h
  ·split at h
   ·rename_i b c bg h1
    cases hk:(jQ s.slots c o.dst&&bg.rd.all(fun r=>Nat.blt r s.mem.length))
    ·rw[hk]at h;cases h
    ·rw[hk]at h
     simp only[cond_true]at h
     simp only[Bool.and_eq_true]at hk
     exact fin⟨s.mem.length,b,c,bg,[]⟩_(Or.inl⟨h1,rfl⟩)rfl(fun r hr=>Nat.le_of_ble_eq_true((List.all_eq_true.1 hk.2)r hr))(aho s o.dst c bg).symm h
   ·cases h
theorem kJ {x y:Nat}(h:Nat.blt x y=true):x<y:=Nat.le_of_ble_eq_true h
theorem arO {P:Program}{T:Tab}{L:List Oper}{s sf:St}(h:drawn P T L s=some sf):∃S rec,Lex P T L s sf S rec:=by
 unfold drawn at h
 cases hk:(uJ L s.slots.length&&(Bc L(jH L [])&&s.slots.all(fun q=>q.2.isEmpty)))
 ·rw[hk]at h;cases h
 ·rw[hk]at h
  simp only[cond_true]at h
  simp only[Bool.and_eq_true]at hk
  split at h
  ·rename_i sf' recs hd
   cases hr:(Lp(jH L [])recs&&recs.all(fun r=>r.b||!qx sf'.slots r.c))
   ·rw[hr]at h;cases h
   ·rw[hr]at h
    simp only[cond_true,Option.some.injEq]at h
    subst h
    simp only[Bool.and_eq_true]at hr
    obtain⟨hl,S,h1,h2,h3⟩:=Hq hd
    let dfl:Rec:=⟨0,false,[],⟨.any,[],none,none⟩,[]⟩
    have hget:∀k,k<L.length→recs[k]?=some(recs.getD k dfl):=fun k hk=>by
     rw[List.getD_eq_getElem?_getD,List.getElem?_eq_getElem(by omega)];rfl
    refine⟨S,fun k=>recs.getD k dfl,hk.1,hk.2.1,h1,h2,fun k o ho=>?_,fun t=>?_,fun k hk' ht=>?_,fun k hk' r row hw=>?_⟩
    ·obtain⟨q,g1,g2,g3,g4,g5⟩:=h3 k o ho
     have e:recs.getD k dfl=q:=by rw[List.getD_eq_getElem?_getD,g1];rfl
     rw[e]
     exact⟨g2,g3,g4,g5⟩
    ·rw[List.getD_eq_getElem?_getD]
     cases hq:s.slots[t]? with
     |none=>rfl
     |some q =>
      have:=(List.all_eq_true.1 hk.2.2)q(List.mem_of_getElem? hq)
      simpa using this
    ·have:=(List.all_eq_true.1 hr.2)_(List.mem_of_getElem?(hget k hk'))
     have ht':qx sf'.slots(recs.getD k dfl).c=true:=ht
     rw[ht']at this
     simpa using this
    ·have hrow:=hr.1
     unfold Lp at hrow
     have h4:=(List.all_eq_true.1 hrow)(recs.getD k dfl,k)(List.mem_zipIdx_iff_getElem?.2(hget k hk'))
     have hw':(recs.getD k dfl).bg.wr=some(r,row):=hw
     simp only[hw',Bool.and_eq_true]at h4
     refine⟨by simpa using h4.1,fun i hi hne=>?_⟩
     have h5:=(List.all_eq_true.1 h4.2)(recs.getD i dfl,i)(List.mem_zipIdx_iff_getElem?.2(hget i hi))
     have hne':(i==k)=false:=by simpa using hne
     simp only[hne',Bool.false_or,Bool.and_eq_true,Bool.not_eq_true',Bool.or_eq_true]at h5
     intro ht
     rcases h5 with h6 |h6
     ·rw[h6]at ht;cases ht
     ·rcases h6 with⟨g1,g2⟩ | ⟨g1,g2⟩
      ·exact Or.inl⟨kJ g1,g2⟩
      ·exact Or.inr⟨kJ g1,g2⟩
  ·cases h
theorem kC {L:List Oper}{len:Nat}(h:uJ L len=true) {j:Nat}{oj:Oper}(hj:L[j]?=some oj) :
  (∀e,e∈oj.after→Region.binds .any e=true→e.on<j)∧(∀d,oj.dst=some d→d<len∧∀(i:Nat)(oi:Oper),L[i]?=some oi→writes oi d=true→i=j) ∧
  (∀t,t∈looks L oj→∀(i:Nat)(oi:Oper),L[i]?=some oi→writes oi t=true→(i<j∧Bb oj i=true)∨(j<i∧Bb oi j=true)) ∧
  (∀t,t∈jY L oj→∀(i:Nat)(oi:Oper),L[i]?=some oi→writes oi t=true→i<j):=by
 unfold uJ at h
 rw[List.all_eq_true]at h
 have hq:=h(oj,j)(List.mem_zipIdx_iff_getElem?.2 hj)
 simp only[Bool.and_eq_true]at hq
 obtain⟨h2,h3,h4,h5⟩:=hq
 have mem:∀{i:Nat}{oi:Oper},L[i]?=some oi→(oi,i)∈L.zipIdx:=fun hi=>List.mem_zipIdx_iff_getElem?.2 hi
 refine⟨fun e he hb=>?_,fun d hd=>?_,fun t ht i oi hi hw=>?_,fun t ht i oi hi hw=>?_⟩
 ·rw[List.all_eq_true]at h2
  have:=h2 e(by simpa using he)
  rw[hb]at this
  exact kJ(by simpa using this)
 ·rw[hd]at h3
  simp only[Bool.and_eq_true]at h3
  refine⟨kJ h3.1,fun i oi hi hw=>?_⟩
  have h32:=h3.2
  rw[List.all_eq_true]at h32
  have:=h32(oi,i)(mem hi)
  simp only[hw]at this
  simpa using this
 ·rw[List.all_eq_true]at h4
  have h41:=h4 t ht
  rw[List.all_eq_true]at h41
  have:=h41(oi,i)(mem hi)
  simp only[hw,Bool.not_true,Bool.false_or,Bool.or_eq_true,Bool.and_eq_true]at this
  rcases this with⟨h,h'⟩ | ⟨h,h'⟩
  ·exact Or.inl⟨kJ h,h'⟩
  ·exact Or.inr⟨kJ h,h'⟩
 ·rw[List.all_eq_true]at h5
  have h51:=h5 t ht
  rw[List.all_eq_true]at h51
  have:=h51(oi,i)(mem hi)
  simp only[hw,Bool.not_true,Bool.false_or]at this
  exact kJ this
theorem sQ {o:Oper}{i:Nat}{listed:Array Bool}(h:Bb o i=true)(ha:∀e,e∈o.after→Region.binds .any e=true→listed.getD e.on false=true):listed.getD i false=true:=by
 unfold Bb at h
 rw[List.any_eq_true]at h
 obtain⟨e,he,h2⟩:=h
 simp only[Bool.and_eq_true]at h2
 have:e.on=i:=by simpa using h2.1
 rw[←this]
 exact ha e(by simpa using he)h2.2
theorem Ls {M:List Nat}{i:Nat}:∀(l:List Edge),Nat.testBit(l.foldr(fun e m=>cond(Region.binds .any e)(Nat.lor(Nat.lor(2 ^ e.on)(M.getD e.on 0))m)m)0)i=true→∃e,e∈l∧Region.binds .any e=true∧(e.on=i∨Nat.testBit(M.getD e.on 0)i=true)
 | [],h=>by simp at h
 |e::l,h=>by
  simp only[List.foldr_cons]at h
  cases hb:Region.binds .any e
  ·rw[hb]at h
   obtain⟨e',h1,h2⟩:=Ls l h
   exact⟨e',by simp[h1],h2⟩
  ·rw[hb]at h
   simp only[cond_true]at h
   have h':Nat.testBit((2 ^ e.on |||M.getD e.on 0) |||_)i=true:=h
   rw[Nat.testBit_or,Nat.testBit_or,Nat.testBit_two_pow]at h'
   simp only[Bool.or_eq_true,decide_eq_true_eq]at h'
   rcases h' with(h' |h') |h'
   ·exact⟨e,by simp,hb,Or.inl h'⟩
   ·exact⟨e,by simp,hb,Or.inr h'⟩
   ·obtain⟨e',h1,h2⟩:=Ls l h'
    exact⟨e',by simp[h1],h2⟩
theorem Ad {L:List Oper}{len:Nat}(hs:uJ L len=true)(hm:Bc L(jH L [])=true) {listed:Array Bool}
  (kG:∀(j:Nat)(oj:Oper),L[j]?=some oj→listed.getD j false=true→∀e,e∈oj.after→Region.binds .any e=true→listed.getD e.on false=true) :
  ∀(k:Nat)(o:Oper),L[k]?=some o→(∀e,e∈o.after→Region.binds .any e=true→listed.getD e.on false=true)→∀i,Nat.testBit((jH L []).getD k 0)i=true→listed.getD i false=true:=by
 intro k
 induction k using Nat.strongRecOn with
 |_ k ih =>
  intro o ho jm i hi
  have h1:=(List.all_eq_true.1 hm)(o,k)(List.mem_zipIdx_iff_getElem?.2 ho)
  have h2:(jH L []).getD k 0=YJ(jH L [])o:=by simpa using h1
  rw[h2]at hi
  obtain⟨e,he,hb,hor⟩:=Ls _ hi
  have he':e∈o.after:=by simpa using he
  have hl:=jm e he' hb
  rcases hor with rfl |hor
  ·exact hl
  ·have hlt:=(kC hs ho).1 e he' hb
   have hlt2:e.on<L.length:=Nat.lt_trans hlt(List.getElem?_eq_some_iff.1 ho).1
   exact ih e.on hlt L[e.on](List.getElem?_eq_getElem hlt2)(kG e.on _(List.getElem?_eq_getElem hlt2)hl)i hor
section
variable {P:Program}{T:Tab}{L:List Oper}{s0 sf:St}{S:Nat→St}{rec:Nat→Rec}
theorem Lex.puts(hx:Lex P T L s0 sf S rec) {k:Nat}{o:Oper}(hk:L[k]?=some o):(S(k+1)).slots=oC(S k).slots o.dst((rec k).bg.v,(rec k).c):=by
 rw[(hx.step k o hk).2.2.2];rfl
theorem Lex.length(hx:Lex P T L s0 sf S rec):∀k,k≤L.length→(S k).slots.length=s0.slots.length
 | 0,_=>by rw[hx.first]
 |k+1,hk=>by
  have ih:=Lex.length hx k(by omega)
  have ho:L[k]?=some L[k]:=List.getElem?_eq_getElem(by omega)
  rw[hx.puts ho];cases hd:L[k].dst<;>simp[oC,ih]
theorem Lex.stays(hx:Lex P T L s0 sf S rec)(t i:Nat):∀n,i+n≤L.length→(∀(k:Nat)(o:Oper),L[k]?=some o→i≤k→k<i+n→writes o t=false)→(S(i+n)).slots.getD t dflt=(S i).slots.getD t dflt
 | 0,_,_=>rfl
 |n+1,hn,hw=>by
  have ih:=Lex.stays hx t i n(by omega)(fun k o hk h1 h2=>hw k o hk h1(by omega))
  have hlt:i+n<L.length:=by omega
  have ho:L[i+n]?=some L[i+n]:=List.getElem?_eq_getElem hlt
  have hnw:=hw(i+n)_ ho(by omega)(by omega)
  rw[←ih]
  show(S(i+n+1)).slots.getD t dflt=_
  rw[hx.puts ho]
  cases hd:L[i+n].dst with
  |none=>rfl
  |some d =>
   simp only[oC]
   rw[DY,if_neg]
   intro⟨e,_⟩
   rw[writes,hd,e]at hnw
   simp at hnw
theorem Lex.uniq(hx:Lex P T L s0 sf S rec) {i j t:Nat}{oi oj:Oper}(hi:L[i]?=some oi)(hj:L[j]?=some oj)(h1:writes oi t=true)(h2:writes oj t=true):i=j:=by
 have hd:oj.dst=some t:=by simpa[writes]using h2
 exact((kC hx.ok hj).2.1 t hd).2 i oi hi h1
theorem Lex.before(hx:Lex P T L s0 sf S rec) {t k:Nat}(hk:k≤L.length)(hw:∀(i:Nat)(o:Oper),L[i]?=some o→i<k→writes o t=false):(S k).slots.getD t dflt=s0.slots.getD t dflt:=by
 have:=hx.stays t 0 k(by omega)(fun i o hi _ h2=>hw i o hi(by omega))
 rw[Nat.zero_add,hx.first]at this
 exact this
theorem Lex.behind(hx:Lex P T L s0 sf S rec) {t k i:Nat}{o:Oper}(hk:k≤L.length)(hi:L[i]?=some o)(hw:writes o t=true)(hik:i<k):(S k).slots.getD t dflt=sf.slots.getD t dflt:=by
 have:=hx.stays t k(L.length - k)(by omega)(fun j oj hj h1 _=>by
  cases h:writes oj t
  ·rfl
  ·have:=hx.uniq hi hj hw h;omega)
 rw[show k+(L.length - k)=L.length by omega,hx.last]at this
 exact this.symm
theorem Lex.never(hx:Lex P T L s0 sf S rec) {t:Nat}(hw:∀(i:Nat)(o:Oper),L[i]?=some o→writes o t=false):sf.slots.getD t dflt=s0.slots.getD t dflt:=by
 have:=hx.before(Nat.le_refl _)(fun i o hi _=>hw i o hi)(t:=t)
 rw[hx.last]at this
 exact this
theorem Lex.sS(hx:Lex P T L s0 sf S rec):sf.slots.length=s0.slots.length:=by
 have:=hx.length L.length(Nat.le_refl _)
 rwa [hx.last]at this
theorem Lex.QX(hx:Lex P T L s0 sf S rec) {k:Nat}(hk:k<L.length):(S(k+1)).mem.length=(S k).mem.length+(rec k).bg.nw.toList.length+(rec k).ex.length:=by
 rw[(hx.step k L[k](List.getElem?_eq_getElem hk)).2.2.2]
 simp only[Ig,Eff.mem]
 cases(rec k).bg.wr with
 |none=>simp;omega
 |some p=>simp;omega
theorem Lex.yj(hx:Lex P T L s0 sf S rec)(i:Nat):∀n,i+n≤L.length→(S i).mem.length≤(S(i+n)).mem.length
 | 0,_=>Nat.le_refl _
 |n+1,hn=>by
  have ih:=Lex.yj hx i n(by omega)
  have:=hx.QX(k:=i+n)(by omega)
  rw[show i+(n+1)=i+n+1 by omega]
  omega
theorem Lex.Ae(hx:Lex P T L s0 sf S rec)(r i:Nat)(hr:r<(S i).mem.length):∀n,i+n≤L.length→(∀k,i≤k→k<i+n→(rec k).Dl r=false)→(S(i+n)).mem[r]?=(S i).mem[r]?
 | 0,_,_=>rfl
 |n+1,hn,hw=>by
  have ih:=Lex.Ae hx r i hr n(by omega)(fun k h1 h2=>hw k h1(by omega))
  have hlt:i+n<L.length:=by omega
  have hnw:=hw(i+n)(by omega)(by omega)
  have hmono:=hx.yj i n(by omega)
  rw[←ih]
  show(S(i+n+1)).mem[r]?=_
  rw[(hx.step(i+n)L[i+n](List.getElem?_eq_getElem hlt)).2.2.2]
  simp only[Ig,Eff.mem]
  cases he:(rec(i+n)).bg.wr with
  |none=>simp only;rw[List.getElem?_append_left(by simp;omega),List.getElem?_append_left(by omega)]
  |some p =>
   obtain⟨r',row⟩:=p
   simp only
   rw[List.getElem?_append_left(by simp;omega),List.getElem?_append_left(by simp;omega),List.getElem?_set,if_neg]
   intro e
   unfold Rec.Dl at hnw
   rw[he,e]at hnw
   simp at hnw
end
end
noncomputable section
def wrB(ops:List Oper)(listed:Array Bool)(t:Nat):Bool:=ops.zipIdx.any fun p=>writes p.1 t&&listed.getD p.2 false
def sU(ops:List Oper)(s0 sf:St)(listed:Array Bool):List(AV × Chain):=(List.range s0.slots.length).map fun t=>cond(wrB ops listed t)(sf.slots.getD t dflt)(s0.slots.getD t dflt)
def rowAt(n:Nat)(sf:St)(S:Nat→St)(rec:Nat→Rec)(listed:Array Bool)(r:Nat):Option Row:=match(List.range n).find?(fun k=>(rec k).Dl r&&!listed.getD k false)with
 |some w=>(S w).mem[r]?
 |none=>sf.mem[r]?
def wL(n:Nat)(sf:St)(S:Nat→St)(rec:Nat→Rec)(listed:Array Bool):List Row:=(List.range sf.mem.length).map fun r=>(rowAt n sf S rec listed r).getD .dead
theorem fA {listed:Array Bool}{i j:Nat}(hi:i<listed.size):(listed.setIfInBounds i true).getD j false=(decide(i=j)||listed.getD j false):=by
 simp only[Array.getD_eq_getD_getElem?,Array.getElem?_setIfInBounds]
 by_cases h:i=j
 ·subst h;simp[hi]
 ·simp[h]
theorem yt {L:List Oper}{listed:Array Bool}{t:Nat}:wrB L listed t=true↔∃(i:Nat)(o:Oper),L[i]?=some o∧writes o t=true∧listed.getD i false=true:=by
 unfold wrB
 rw[List.any_eq_true]
 constructor
 ·rintro⟨⟨o,i⟩,hm,h⟩
  simp only[Bool.and_eq_true]at h
  exact⟨i,o,List.mem_zipIdx_iff_getElem?.1 hm,h⟩
 ·rintro⟨i,o,h1,h2,h3⟩
  exact⟨(o,i),List.mem_zipIdx_iff_getElem?.2 h1,by simp only[Bool.and_eq_true];exact⟨h2,h3⟩⟩
theorem aa9 {L:List Oper}{listed:Array Bool}{i t:Nat}{o:Oper}(hi:i<listed.size)(ho:L[i]?=some o):wrB L(listed.setIfInBounds i true)t=(writes o t||wrB L listed t):=by
 rw[Bool.eq_iff_iff,Bool.or_eq_true,yt,yt]
 constructor
 ·rintro⟨j,oj,hj,hw,hl⟩
  rw[fA hi]at hl
  by_cases h:i=j
  ·subst h;rw[ho]at hj;cases hj;exact Or.inl hw
  ·exact Or.inr⟨j,oj,hj,hw,by simpa[h]using hl⟩
 ·rintro(h | ⟨j,oj,hj,hw,hl⟩)
  ·exact⟨i,o,ho,h,by rw[fA hi];simp⟩
  ·exact⟨j,oj,hj,hw,by rw[fA hi,hl];simp⟩
theorem qR {listed:Array Bool}{i:Nat}(h:i<listed.size):listed.getD i true=listed.getD i false:=by
 simp[Array.getD_eq_getD_getElem?,h]
section
variable {P:Program}{T:Tab}{L:List Oper}{s0 sf:St}{S:Nat→St}{rec:Nat→Rec}{listed:Array Bool}
theorem wM(hl:sf.slots.length=s0.slots.length)(listed:Array Bool)(t:Nat):(sU L s0 sf listed).getD t dflt=cond(wrB L listed t)(sf.slots.getD t dflt)(s0.slots.getD t dflt):=by
 simp only[sU,List.getD_eq_getElem?_getD,List.getElem?_map]
 by_cases ht:t<s0.slots.length
 ·simp[ht]
 ·rw[List.getElem?_eq_none(by simpa using Nat.le_of_not_lt ht),List.getElem?_eq_none(by omega),List.getElem?_eq_none(by omega)]
  cases wrB L listed t<;>rfl
theorem Lex.agree(hx:Lex P T L s0 sf S rec) {i:Nat}{o:Oper}(hi:L[i]?=some o)(hun:listed.getD i false=false)(jm:∀e,e∈o.after→Region.binds .any e=true→listed.getD e.on false=true)
  (kG:∀(j:Nat)(oj:Oper),L[j]?=some oj→listed.getD j false=true→∀e,e∈oj.after→Region.binds .any e=true→listed.getD e.on false=true) :
  ∀t,t∈looks L o→(S i).slots.getD t dflt=(sU L s0 sf listed).getD t dflt:=by
 intro t ht
 have hlt:i<L.length:=(List.getElem?_eq_some_iff.1 hi).1
 rw[wM hx.sS]
 have hsp:=(kC hx.ok hi).2.2.1 t ht
 cases hwr:wrB L listed t
 ·rw[cond_false]
  refine hx.before(Nat.le_of_lt hlt)fun j oj hj hji=>?_
  cases h:writes oj t
  ·rfl
  ·rcases hsp j oj hj h with⟨_,he⟩ | ⟨hlt2,_⟩
   ·have:=yt.2⟨j,oj,hj,h,sQ he jm⟩
    rw[hwr]at this;cases this
   ·omega
 ·rw[cond_true]
  obtain⟨j,oj,hj,hw,hl⟩:=yt.1 hwr
  rcases hsp j oj hj hw with⟨hji,_⟩ | ⟨_,he⟩
  ·exact hx.behind(Nat.le_of_lt hlt)hj hw hji
  ·have:=sQ he(kG j oj hj hl)
   rw[hun]at this;cases this
theorem Lex.YK(hx:Lex P T L s0 sf S rec) {i:Nat}{o:Oper}(hi:L[i]?=some o)(jm:∀e,e∈o.after→Region.binds .any e=true→listed.getD e.on false=true) :
  ∀t,t∈jY L o→(sf.slots.getD t dflt).1=((sU L s0 sf listed).getD t dflt).1:=by
 intro t ht
 rw[wM hx.sS]
 have hsp:=(kC hx.ok hi).2.2.1 t(List.mem_append_right _ ht)
 have hte:=(kC hx.ok hi).2.2.2 t ht
 cases hwr:wrB L listed t
 ·rw[cond_false]
  rw[hx.never fun j oj hj=>?_]
  cases h:writes oj t
  ·rfl
  ·rcases hsp j oj hj h with⟨_,he⟩ | ⟨hlt2,_⟩
   ·have:=yt.2⟨j,oj,hj,h,sQ he jm⟩
    rw[hwr]at this;cases this
   ·have:=hte j oj hj h;omega
 ·rw[cond_true]
theorem Af(hx:Lex P T L s0 sf S rec) {E:Env}{a:Act}{i:Nat}{o:Oper}{u:Value}(hi:i<listed.size)(ho:L[i]?=some o)(hfr:BD E sf.slots(sU L s0 sf listed)a.tmps)
  (h1:qx sf.slots(rec i).c=true→rel E(rec i).bg.v u)(h2:qx sf.slots(rec i).c=false→u=undef):BD E sf.slots(sU L s0 sf(listed.setIfInBounds i true))(a.put o.dst u).tmps:=by
 have hlt:i<L.length:=(List.getElem?_eq_some_iff.1 ho).1
 cases hd:o.dst with
 |none =>
  have:sU L s0 sf(listed.setIfInBounds i true)=sU L s0 sf listed:=by
   simp only[sU]
   refine List.map_congr_left fun t _=>?_
   rw[aa9 hi ho]
   simp[writes,hd]
  rw[this]
  exact hfr
 |some d =>
  have hdl:=((kC hx.ok ho).2.1 d hd).1
  have hsf:sf.slots.getD d dflt=((rec i).bg.v,(rec i).c):=by
   have hb:=hx.behind(k:=i+1)(by omega)ho(show writes o d=true by simp[writes,hd])(by omega)
   rw[←hb,hx.puts ho,hd]
   simp only[oC]
   rw[DY,if_pos⟨rfl,by rw[hx.length i(by omega)];exact hdl⟩]
  refine⟨⟨?_,hfr.1.2⟩,fun t=>?_⟩
  ·have:=hfr.1.1
   simp only[Act.put,Array.size_setIfInBounds,this,sU,List.length_map]
  ·rw[wM hx.sS,aa9 hi ho]
   simp only[Act.put]
   rw[SG]
   have hf:=hfr.2 t
   rw[wM hx.sS]at hf
   by_cases ht:d=t
   ·subst ht
    have hsz:d<a.tmps.size:=by rw[hfr.1.1];simp only[sU,List.length_map,List.length_range];exact hdl
    rw[if_pos⟨rfl,hsz⟩,show writes o d=true by simp[writes,hd],Bool.true_or,cond_true,hsf]
    exact⟨h1,h2⟩
   ·rw[if_neg(fun e=>ht e.1),show writes o t=false by simp[writes,hd,ht],Bool.false_or]
    exact hf
theorem ET {p:Rec}{r:Nat}:p.Dl r=true↔∃row,p.bg.wr=some(r,row):=by
 unfold Rec.Dl
 cases h:p.bg.wr with
 |none=>simp
 |some q =>
  obtain⟨r',row⟩:=q
  simp
theorem Bf {n r w:Nat}(h:(List.range n).find?(fun k=>(rec k).Dl r&&!listed.getD k false)=some w):w<n∧(rec w).Dl r=true∧listed.getD w false=false∧∀k,k<w→(rec k).Dl r=true→listed.getD k false=true:=by
 have h1:=List.find?_some h
 simp only[Bool.and_eq_true,Bool.not_eq_true']at h1
 refine⟨List.mem_range.1(List.mem_of_find?_eq_some h),h1.1,h1.2,fun k hk hw=>?_⟩
 obtain⟨as,bs,e,hall⟩:=(List.find?_eq_some_iff_append.1 h).2
 have hlen:as.length=w:=by
  have hlt:as.length<n:=by
   have:=congrArg List.length e
   simp at this
   omega
  have e2:(List.range n)[as.length]?=some w:=by rw[e];simp
  rw[List.getElem?_range hlt]at e2
  simpa using e2
 have hmem:k∈as:=by
  have e2:(List.range n)[k]?=some k:=List.getElem?_range(by
   have:=congrArg List.length e
   simp at this
   omega)
  rw[e,List.getElem?_append_left(by omega)]at e2
  exact List.mem_of_getElem? e2
 have:=hall k hmem
 simp only[Bool.not_eq_true',Bool.and_eq_false_iff,Bool.not_eq_false']at this
 rcases this with h |h
 ·rw[hw]at h;cases h
 ·exact h
theorem Gl {n r:Nat}(h:(List.range n).find?(fun k=>(rec k).Dl r&&!listed.getD k false)=none):∀k,k<n→(rec k).Dl r=true→listed.getD k false=true:=fun k hk hw=>by
 have:=List.find?_eq_none.1 h k(List.mem_range.2 hk)
 simpa[hw]using this
theorem ahp {n r:Nat}(h:∀k,k<n→listed.getD k false=true):(List.range n).find?(fun k=>(rec k).Dl r&&!listed.getD k false)=none :=
 List.find?_eq_none.2 fun k hk=>by rw[h k(List.mem_range.1 hk)];simp
theorem Lex.QY(hx:Lex P T L s0 sf S rec) {i:Nat}(hi:i≤L.length):(S i).mem.length≤sf.mem.length:=by
 have:=hx.yj i(L.length - i)(by omega)
 rw[show i+(L.length - i)=L.length by omega,hx.last]at this
 exact this
theorem Lex.QZ(hx:Lex P T L s0 sf S rec) {r i:Nat}(hi:i≤L.length)(hr:r<(S i).mem.length)(hw:∀k,i≤k→k<L.length→(rec k).Dl r=false):sf.mem[r]?=(S i).mem[r]?:=by
 have:=hx.Ae r i hr(L.length - i)(by omega)(fun k h1 h2=>hw k h1(by omega))
 rw[show i+(L.length - i)=L.length by omega,hx.last]at this
 exact this
theorem Lex.arQ(hx:Lex P T L s0 sf S rec) {i r:Nat}(hi:i<L.length)(hr:r∈(rec i).bg.rd):r<(S i).mem.length:=(hx.step i L[i](List.getElem?_eq_getElem hi)).2.2.1 r hr
theorem Lex.axo(hx:Lex P T L s0 sf S rec) {w r:Nat}(hw:w<L.length)(h:(rec w).Dl r=true):r<(S w).mem.length:=by
 obtain⟨row,hrow⟩:=ET.1 h
 exact hx.arQ hw(hx.rows w hw r row hrow).1
theorem Lex.qh(hx:Lex P T L s0 sf S rec) {r:Nat}(hr:r<sf.mem.length):(wL L.length sf S rec listed)[r]?=rowAt L.length sf S rec listed r:=by
 simp only[wL,List.getElem?_map]
 rw[List.getElem?_eq_getElem(by simpa using hr)]
 simp only[List.getElem_range,Option.map_some]
 have:∃row,rowAt L.length sf S rec listed r=some row:=by
  unfold rowAt
  split
  ·rename_i w hw
   obtain⟨h1,h2,_,_⟩:=Bf hw
   exact⟨_,List.getElem?_eq_getElem(hx.axo h1 h2)⟩
  ·exact⟨_,List.getElem?_eq_getElem hr⟩
 obtain⟨row,h⟩:=this
 rw[h]
 rfl
theorem sV:(wL L.length sf S rec listed).length=sf.mem.length:=by simp[wL]
theorem Lex.ahq(hx:Lex P T L s0 sf S rec) {i:Nat}(hun:listed.getD i false=false)
  (kG:∀(j:Nat)(oj:Oper),L[j]?=some oj→listed.getD j false=true→∀e,e∈oj.after→Region.binds .any e=true→listed.getD e.on false=true)
  {r k:Nat}(hlt:i<L.length)(ht:(rec i).touch r=true)(hk:k<L.length)(hw:(rec k).Dl r=true)(hik:i≤k):listed.getD k false=false:=by
 by_cases e:i=k
 ·subst e;exact hun
 ·obtain⟨row,hrow⟩:=ET.1 hw
  rcases(hx.rows k hk r row hrow).2 i hlt e ht with⟨_,hbit⟩ | ⟨h,_⟩
  ·cases h:listed.getD k false
   ·rfl
   ·have:=Ad hx.ok hx.masks kG k L[k](List.getElem?_eq_getElem hk)(kG k _(List.getElem?_eq_getElem hk)h)i hbit
    rw[hun]at this;cases this
  ·omega
theorem Lex.anE(hx:Lex P T L s0 sf S rec) {i:Nat}(hun:listed.getD i false=false)
  (kG:∀(j:Nat)(oj:Oper),L[j]?=some oj→listed.getD j false=true→∀e,e∈oj.after→Region.binds .any e=true→listed.getD e.on false=true)
  {r k:Nat}(hlt:i<L.length)(hr:r∈(rec i).bg.rd)(hk:k<L.length)(hw:(rec k).Dl r=true)(hik:i≤k):listed.getD k false=false :=
 hx.ahq hun kG hlt(by unfold Rec.touch;simp[hr])hk hw hik
theorem Lex.acT(hx:Lex P T L s0 sf S rec) {i:Nat}{o:Oper}(hi:L[i]?=some o)(hun:listed.getD i false=false)(jm:∀e,e∈o.after→Region.binds .any e=true→listed.getD e.on false=true)
  (kG:∀(j:Nat)(oj:Oper),L[j]?=some oj→listed.getD j false=true→∀e,e∈oj.after→Region.binds .any e=true→listed.getD e.on false=true) :
  ∀r,r∈(rec i).bg.rd→(S i).mem[r]?=(wL L.length sf S rec listed)[r]?:=by
 intro r hr
 have hlt:i<L.length:=(List.getElem?_eq_some_iff.1 hi).1
 have hri:=hx.arQ hlt hr
 have hrs:=Nat.lt_of_lt_of_le hri(hx.QY(Nat.le_of_lt hlt))
 rw[hx.qh hrs]
 unfold rowAt
 split
 ·rename_i w hw
  obtain⟨h1,h2,h3,h4⟩:=Bf hw
  obtain⟨row,hrow⟩:=ET.1 h2
  by_cases hwi:i=w
  ·subst hwi;rfl
  ·have ht:(rec i).touch r=true:=by unfold Rec.touch;simp[hr]
   rcases(hx.rows w h1 r row hrow).2 i hlt hwi ht with⟨hiw,_⟩ | ⟨aDD,hbit⟩
   ·have:=hx.Ae r i hri(w - i)(by omega)(fun k g1 g2=>by
     cases hk:(rec k).Dl r
     ·rfl
     ·exact absurd(h4 k(by omega)hk)(by rw[hx.anE hun kG hlt hr(by omega)hk g1];simp))
    rw[show i+(w - i)=w by omega]at this
    exact this.symm
   ·have hlw:=Ad hx.ok hx.masks kG i o hi jm w hbit
    rw[h3]at hlw;cases hlw
 ·rename_i hw
  refine(hx.QZ(Nat.le_of_lt hlt)hri fun k g1 g2=>?_).symm
  cases hk:(rec k).Dl r
  ·rfl
  ·exact absurd(Gl hw k g2 hk)(by rw[hx.anE hun kG hlt hr g2 hk g1];simp)
theorem Ag {i r:Nat}(hil:i<listed.size)(hw:(rec i).Dl r=false):rowAt L.length sf S rec(listed.setIfInBounds i true)r=rowAt L.length sf S rec listed r:=by
 have e:(fun k=>(rec k).Dl r&&!(listed.setIfInBounds i true).getD k false)=fun k=>(rec k).Dl r&&!listed.getD k false:=funext fun k=>by
  rw[fA hil]
  by_cases h:i=k
  ·subst h;rw[hw];rfl
  ·simp[h]
 unfold rowAt
 rw[e]
theorem Lex.ahr(hx:Lex P T L s0 sf S rec) {i r:Nat}(hlt:i<L.length)(hil:i<listed.size)(hun:listed.getD i false=false)
  (kG:∀(j:Nat)(oj:Oper),L[j]?=some oj→listed.getD j false=true→∀e,e∈oj.after→Region.binds .any e=true→listed.getD e.on false=true)
  (ht:(rec i).touch r=true)(hr:r<(S(i+1)).mem.length)(hpast:∀k,k<i→(rec k).Dl r=true→listed.getD k false=true):rowAt L.length sf S rec(listed.setIfInBounds i true)r=(S(i+1)).mem[r]?:=by
 unfold rowAt
 split
 ·rename_i w hw
  obtain⟨h1,h2,h3,h4⟩:=Bf hw
  rw[fA hil]at h3
  simp only[Bool.or_eq_false_iff,decide_eq_false_iff_not]at h3
  have hiw:i<w:=by
   rcases Nat.lt_or_ge i w with h |h
   ·exact h
   ·have:=hpast w(by omega)h2
    rw[h3.2]at this;cases this
  have:=hx.Ae r(i+1)hr(w - (i+1))(by omega)(fun k g1 g2=>by
   cases hk:(rec k).Dl r
   ·rfl
   ·have h5:=h4 k(by omega)hk
    rw[fA hil,hx.ahq hun kG hlt ht(by omega)hk(by omega)]at h5
    simp at h5
    omega)
  rw[show i+1+(w - (i+1))=w by omega]at this
  exact this
 ·rename_i hw
  refine hx.QZ(by omega)hr fun k g1 g2=>?_
  cases hk:(rec k).Dl r
  ·rfl
  ·have h5:=Gl hw k g2 hk
   rw[fA hil,hx.ahq hun kG hlt ht g2 hk(by omega)]at h5
   simp at h5
   omega
theorem Lex.newRow(hx:Lex P T L s0 sf S rec) {i:Nat}{o:Oper}(hi:L[i]?=some o)(hil:i<listed.size)(hun:listed.getD i false=false)
  (kG:∀(j:Nat)(oj:Oper),L[j]?=some oj→listed.getD j false=true→∀e,e∈oj.after→Region.binds .any e=true→listed.getD e.on false=true)
  {k:Nat}{row:Row}(hk:k≤(rec i).ex.length)(hsome:(rec i).bg.nw.isSome=true)(hrow:((rec i).bg.nw.toList++(rec i).ex)[k]?=some row) :
  (wL L.length sf S rec(listed.setIfInBounds i true))[(rec i).nk+k]?=some row:=by
 have hlt:i<L.length:=(List.getElem?_eq_some_iff.1 hi).1
 obtain⟨_,arU,_,hstep⟩:=hx.step i o hi
 have hone:(rec i).bg.nw.toList.length=1:=by
  cases h:(rec i).bg.nw with
  |none=>rw[h]at hsome;cases hsome
  |some r=>rfl
 have hlen1:(S(i+1)).mem.length=(S i).mem.length+1+(rec i).ex.length:=by have:=hx.QX hlt;omega
 have hnew:(S(i+1)).mem[(S i).mem.length+k]?=some row:=by
  rw[hstep]
  simp only[Ig,Eff.mem,List.append_assoc]
  cases(rec i).bg.wr with
  |none =>
   simp only
   rw[List.getElem?_append_right(by omega),Nat.add_sub_cancel_left];exact hrow
  |some q =>
   obtain⟨q1,q2⟩:=q
   simp only
   rw[List.getElem?_append_right(by simp),List.length_set,Nat.add_sub_cancel_left];exact hrow
 rw[arU]
 have hks:(S i).mem.length+k<sf.mem.length:=by have:=hx.QY(i:=i+1)(by omega);omega
 rw[hx.qh hks,hx.ahr hlt hil hun kG(by
  unfold Rec.touch
  rw[hsome,arU,Nat.ble_eq_true_of_le(show(S i).mem.length≤(S i).mem.length+k by omega),Nat.ble_eq_true_of_le(show(S i).mem.length+k≤(S i).mem.length+(rec i).ex.length by omega)]
  simp)(by omega)fun w hw h2=>?_]
 ·exact hnew
 ·have hlw:=hx.axo(by omega)h2
  have:=hx.yj w(i - w)(by omega)
  rw[show w+(i - w)=i by omega]at this
  omega
theorem Lex.anF(hx:Lex P T L s0 sf S rec) {E:Env}{i:Nat}{o:Oper}(hi:L[i]?=some o)(hil:i<listed.size)(hun:listed.getD i false=false)(jm:∀e,e∈o.after→Region.binds .any e=true→listed.getD e.on false=true)
  (kG:∀(j:Nat)(oj:Oper),L[j]?=some oj→listed.getD j false=true→∀e,e∈oj.after→Region.binds .any e=true→listed.getD e.on false=true)
  (hdom:∀k b c,E.O k=some(b,c)→k<(wL L.length sf S rec listed).length) {nk:Nat}(hnk:(rec i).bg.nw=none∨nk=(rec i).nk) :
  jk E(wL L.length sf S rec listed)(wL L.length sf S rec(listed.setIfInBounds i true))nk(rec i).bg:=by
 have hlt:i<L.length:=(List.getElem?_eq_some_iff.1 hi).1
 obtain⟨_,arU,_,hstep⟩:=hx.step i o hi
 refine⟨fun k hk b c hb=>?_,fun row hrow=>?_⟩
 ·have hks:k<sf.mem.length:=by have:=hdom k b c hb;rwa [sV]at this
  rw[hx.qh hks,hx.qh hks]
  cases hwk:(rec i).Dl k
  ·rw[Ag hil hwk]
   cases he:(rec i).bg.wr with
   |none=>rfl
   |some q =>
    obtain⟨k',row⟩:=q
    simp only
    rw[if_neg]
    intro e
    unfold Rec.Dl at hwk
    rw[he,e]at hwk
    simp at hwk
  ·obtain⟨row,hrow⟩:=ET.1 hwk
   rw[hrow]
   simp only[if_true]
   obtain⟨hrd,hall⟩:=hx.rows i hlt k row hrow
   have hki:=hx.arQ hlt hrd
   have hlen1:k<(S(i+1)).mem.length:=Nat.lt_of_lt_of_le hki(by have:=hx.QX hlt;omega)
   rw[hx.ahr hlt hil hun kG(by unfold Rec.touch;simp[hrd])hlen1 fun w hw h2=>?_,hstep]
   rotate_left
   ·obtain⟨row',hrow'⟩:=ET.1 h2
    rcases hall w(by omega)(by omega)(by unfold Rec.touch;simp[(hx.rows w(by omega)k row' hrow').1])with⟨_,hbit⟩ | ⟨h,_⟩
    ·exact Ad hx.ok hx.masks kG i o hi jm w hbit
    ·omega
   simp only[Ig,Eff.mem,hrow]
   rw[List.getElem?_append_left(by simp;omega),List.getElem?_append_left(by simpa using hki),List.getElem?_set]
   simp[hki]
 ·have aB3:nk=(rec i).nk:=by
   rcases hnk with h |h
   ·rw[h]at hrow;cases hrow
   ·exact h
  have:=hx.newRow hi hil hun kG(k:=0)(row:=row)(Nat.zero_le _)(by rw[hrow];rfl)(by rw[hrow];rfl)
  rw[aB3,←Nat.add_zero(rec i).nk]
  exact this
theorem Lex.aB4(hx:Lex P T L s0 sf S rec) {E:Env}{i:Nat}{o:Oper}{r0:Row}(hi:L[i]?=some o)(hil:i<listed.size)(hun:listed.getD i false=false)
  (kG:∀(j:Nat)(oj:Oper),L[j]?=some oj→listed.getD j false=true→∀e,e∈oj.after→Region.binds .any e=true→listed.getD e.on false=true)
  (hdom:∀k b c,E.O k=some(b,c)→k<(wL L.length sf S rec listed).length)(heff:(rec i).bg=⟨(rec i).bg.v,[],none,some r0⟩) :
  aoG E(wL L.length sf S rec listed)(wL L.length sf S rec(listed.setIfInBounds i true))(rec i).nk(r0::(rec i).ex):=by
 have hwr:(rec i).bg.wr=none:=by rw[heff]
 have hnw:(rec i).bg.nw=some r0:=by rw[heff]
 refine⟨fun k _ b c hb=>?_,fun k row hrow=>?_⟩
 ·have hks:k<sf.mem.length:=by have:=hdom k b c hb;rwa [sV]at this
  rw[hx.qh hks,hx.qh hks,Ag hil(by unfold Rec.Dl;rw[hwr])]
 ·refine hx.newRow hi hil hun kG(k:=k)(row:=row) ?_(by rw[hnw];rfl)(by rw[hnw];exact hrow)
  have:=(List.getElem?_eq_some_iff.1 hrow).1
  simp at this
  omega
theorem Om {i:Nat}(hil:i<listed.size)(hw:(rec i).bg.wr=none):wL L.length sf S rec(listed.setIfInBounds i true)=wL L.length sf S rec listed:=by
 unfold wL
 refine List.map_congr_left fun r _=>?_
 rw[Ag hil(by unfold Rec.Dl;rw[hw])]
end
end
noncomputable section
structure JInv(A0 R:Nat→Prop)(w0:Env)(ops:Array Oper)(s0 sf:St)(S:Nat→St)(rec:Nat→Rec)(E:Env)(listed:Array Bool)(a:Act):Prop where
 defers:a.defers=[]
 frame:BD E sf.slots(sU ops.toList s0 sf listed)a.tmps
 wd:Wd A0 R w0 E(wL ops.toList.length sf S rec listed)
 made:∀r p,E.O r=some p→s0.mem.length≤r→∃j,j<ops.toList.length∧listed.getD j false=true∧((rec j).nk≤r∧r≤(rec j).nk+(rec j).ex.length)∧(rec j).bg.nw.isSome=true
 size:listed.size=ops.size
 shut:∀(i:Nat)(o:Oper),ops.toList[i]?=some o→listed.getD i false=true→∀e,e∈o.after→Region.binds .any e=true→listed.getD e.on false=true
section
variable {P:Program}{T:Tab}{A0 R:Nat→Prop}{w0:Env}{ops:Array Oper}{s0 sf:St}{S:Nat→St}{rec:Nat→Rec}{E:Env}{listed:Array Bool}{a:Act}{Q:Exit→Act→World→Prop}
theorem Lex.abb(hx:Lex P T ops.toList s0 sf S rec)(hJ:JInv A0 R w0 ops s0 sf S rec E listed a) {i:Nat}(hi:i<ops.toList.length)(hun:listed.getD i false=false)(hn:(rec i).bg.nw.isSome=true) {k:Nat}(hk:k≤(rec i).ex.length):E.O((rec i).nk+k)=none:=by
 cases hO:E.O((rec i).nk+k)with
 |none=>rfl
 |some p =>
  have hnk:∀j,j<ops.toList.length→(rec j).nk=(S j).mem.length:=fun j hj=>(hx.step j _(List.getElem?_eq_getElem hj)).2.1
  have hgrow:∀j,j<ops.toList.length→(rec j).bg.nw.isSome=true→(S(j+1)).mem.length=(S j).mem.length+1+(rec j).ex.length:=fun j hj hs=>by
   have:=hx.QX hj
   cases hw:(rec j).bg.nw with
   |none=>rw[hw]at hs;cases hs
   |some row=>rw[hw]at this;simpa using this
  have hge:s0.mem.length≤(rec i).nk+k:=by
   rw[hnk i hi,←hx.first]
   have:=hx.yj 0 i(by omega)
   simp only[Nat.zero_add]at this
   omega
  obtain⟨j,hj,hl,he,hs⟩:=hJ.made _ p hO hge
  rw[hnk j hj,hnk i hi]at he
  have hne:j≠i:=fun e=>by subst e;rw[hun]at hl;cases hl
  rcases Nat.lt_or_gt_of_ne hne with h |h
  ·have h1:=hgrow j hj hs
   have h2:=hx.yj(j+1)(i - (j+1))(by omega)
   rw[show j+1+(i - (j+1))=i by omega]at h2
   omega
  ·have h1:=hgrow i hi hn
   have h2:=hx.yj(i+1)(j - (i+1))(by omega)
   rw[show i+1+(j - (i+1))=j by omega]at h2
   omega
theorem Ah {i:Nat}{o:Oper}(hi:i<listed.size)(ho:ops.toList[i]?=some o)(jm:∀e,e∈o.after→Region.binds .any e=true→listed.getD e.on false=true)
  (kG:∀(j:Nat)(oj:Oper),ops.toList[j]?=some oj→listed.getD j false=true→∀e,e∈oj.after→Region.binds .any e=true→listed.getD e.on false=true) :
  ∀(j:Nat)(oj:Oper),ops.toList[j]?=some oj→(listed.setIfInBounds i true).getD j false=true→∀e,e∈oj.after→Region.binds .any e=true→(listed.setIfInBounds i true).getD e.on false=true:=by
 intro j oj hj hl e he hb
 rw[fA hi]at hl ⊢
 by_cases h:i=j
 ·subst h
  rw[ho]at hj;cases hj
  rw[jm e he hb];simp
 ·have hl':listed.getD j false=true:=by simpa[h]using hl
  rw[kG j oj hj hl' e he hb];simp
theorem arV(   hT:Az P T)(hx:Lex P T ops.toList s0 sf S rec)(hJ:JInv A0 R w0 ops s0 sf S rec E listed a) {i:Nat}(hr:i∈Region.ready .any ops listed)
  {K:Act→World→Prop}(hK:∀E' a',JInv A0 R w0 ops s0 sf S rec E'(listed.setIfInBounds i true)a'→K a' E'.w):wpOp P ops Q i K a E.w:=by
 obtain⟨hun,o,ho,jm⟩:=mem_ready.1 hr
 have hil:i<ops.size:=(Array.getElem?_eq_some_iff.1 ho).1
 have hi:i<listed.size:=by rw[hJ.size];exact hil
 have hun':listed.getD i false=false:=by rw[←qR hi];exact hun
 have ho':ops.toList[i]?=some o:=by simpa using ho
 have hlt:i<ops.toList.length:=by simpa using hil
 have hag:=hx.agree ho' hun' jm hJ.shut
 have hat:=hx.YK(listed:=listed)ho' jm
 have har:=hx.acT ho' hun' jm hJ.shut
 obtain⟨hst,hnk,hrd,hnext⟩:=hx.step i o ho'
 have hcond:=hx.conds i hlt
 unfold wpOp
 rw[ho]
 simp only
 let m:St:=⟨sU ops.toList s0 sf listed,wL ops.toList.length sf S rec listed⟩
 have YL:∀t,t∈looks ops.toList o→(S i).slots.getD t dflt=m.slots.getD t dflt:=hag
 have hlk:∀y,y∈o.op.operands.toList→∀t,y=.tmp t→(S i).slots.getD t dflt=m.slots.getD t dflt:=fun y hy t ht=>YL t(List.mem_append_left _(Lg hy ht))
 rcases hst with⟨hst,_⟩ | ⟨r0,hN,hk,hc0,heff⟩
 case inr =>
  unfold Vz at hk
  simp only[Bool.and_eq_true]at hk
  obtain⟨hg,hops,_⟩:=hk
  rw[List.all_eq_true]at hops
  rw[if_pos(uo hg)]
  refine Or.inl ?_
  have hb:(rec i).b=true:=hcond(by rw[hc0];rfl)
  have hsome:(rec i).bg.nw.isSome=true:=by rw[heff];rfl
  have hρ:∀y,y∈o.op.operands→rel E(aG m y)(a.eval y):=fun y hy=>by
   have hy':y∈o.op.operands.toList:=by simpa using hy
   exact iF(s:=m)(c:=[])hJ.frame rfl y(by rw[←lJ(hlk y hy')];exact hops y hy')
  have hNm:BF T m(rec i).nk o=some(true,(rec i).bg.v,r0::(rec i).ex):=by
   rw[hb]at hN
   rw[hnk,←hN]
   exact(YI fun y hy=>lI(hlk y hy)).symm
  refine Sy(s:=m)hT hJ.frame.1.2 hJ.wd(fun k hk=>hx.abb hJ hlt hun' hsome(by simp at hk;omega))hρ hNm(hx.aB4 ho' hi hun' hJ.shut hJ.wd.dom heff)fun E' u hle hO' hW' hrel=>?_
  refine hK E' _⟨by rw[put_defers];exact hJ.defers,Af hx hi ho'(mI hle hJ.frame)(fun _=>hrel)(fun h=>by rw[hc0]at h;cases h),hW',fun r p hp hge=>?_,by simpa using hJ.size,Ah hi ho' jm hJ.shut⟩
  rcases hO' r p hp with h |h
  ·obtain⟨j,g1,g2,g3,g4⟩:=hJ.made r p h hge
   exact⟨j,g1,by rw[fA hi,g2];simp,g3,g4⟩
  ·exact⟨i,hlt,by rw[fA hi];simp,⟨h.1,by have:=h.2;simp at this;omega⟩,hsome⟩
 unfold vQ at hst
 cases hc:um P T ops.toList(S i)o with
 |some q =>
  obtain⟨b,c,v⟩:=q
  rw[hc]at hst
  simp only[Option.some.injEq,Prod.mk.injEq]at hst
  obtain⟨eb,ec,EU⟩:=hst
  have hrows:∀k,k∈Sv(S i)o→(S i).mem[k]?=m.mem[k]?:=fun k hk=>har k(by rw[←EU];exact hk)
  have hcm:um P T ops.toList m o=some(b,c,v):=by rw[←U6 YL hrows];exact hc
  obtain⟨h1,h2⟩:=JE(s:=m)(F:=sf.slots)hT.1 hJ.frame hJ.wd.rows hJ.wd.small hat hcm(fun ht=>by rw[eb];exact hcond(by rw[←ec];exact ht))
  have hwr:(rec i).bg.wr=none:=by rw[←EU]
  have hv:(rec i).bg.v=v:=by rw[←EU]
  have next:∀(w':World)(u:Value),Below E.w.heap.size E.w w'→(qx sf.slots c=true→rel { E with w:=w' } v u)→(qx sf.slots c=false→u=undef)→K(a.put o.dst u)w':=by
   intro w' u hb h3 h4
   obtain⟨hw1,hw2⟩:=hJ.wd.on hb
   refine hK { E with w:=w' } _⟨by rw[put_defers];exact hJ.defers,Af hx hi ho'(mI hw2 hJ.frame)(by rw[←ec,hv];exact h3)(by rw[←ec];exact h4),by rw[Om hi hwr];exact hw1,fun r p hp hge=>?_,by simpa using hJ.size,Ah hi ho' jm hJ.shut⟩
   obtain⟨j,g1,g2,g3,g4⟩:=hJ.made r p hp hge
   exact⟨j,g1,by rw[fA hi,g2];simp,g3,g4⟩
  rw[h1]
  cases ht:qx sf.slots c
  ·rw[if_neg(by simp)]
   exact next E.w undef(Below.refl _ _)(fun h=>by rw[ht]at h;cases h)(fun _=>rfl)
  ·rw[if_pos rfl]
   exact Or.inl(Pp(h2 ht)fun u w' hu hb=>next w' u hb(fun _=>hu)(fun h=>by rw[ht]at h;cases h))
 |none =>
  rw[hc]at hst
  simp only at hst
  cases hch:fV ops.toList(S i).slots o with
  |none=>rw[hch]at hst;cases hst
  |some c0 =>
  rw[hch]at hst
  simp only at hst
  cases hk:(Po c0&&o.op.operands.toList.all(iB(S i).slots c0))
  ·rw[hk]at hst;cases hst
  ·rw[hk]at hst
   simp only[cond_true]at hst
   simp only[Bool.and_eq_true]at hk
   cases hw:WO P T(S i)(S i).mem.length o with
   |none=>rw[hw]at hst;cases hst
   |some q =>
    obtain⟨b,bg⟩:=q
    rw[hw]at hst
    simp only at hst
    have hts:∀t,t∈jY ops.toList o→(S i).slots.getD t dflt=m.slots.getD t dflt:=fun t ht=>YL t(List.mem_append_right _ ht)
    cases hbare:lV o bg
    case true =>
     rw[hbare]at hst
     simp only[cond_true,Option.some.injEq,Prod.mk.injEq]at hst
     obtain⟨eb,ec,EU⟩:=hst
     obtain⟨hn,aB5⟩:=Nc hbare
     have hwr:(rec i).bg.wr=none:=by rw[←EU];exact aB5
     have hnw:(rec i).bg.nw=none:=by rw[←EU];exact hn
     have arW:fV ops.toList m.slots o=some c0:=by rw[←u7 hts];exact hch
     rw[jd(s:=m.slots)(F:=sf.slots)hJ.frame hat arW]
     have hdom:=hJ.wd.dom
     cases ht:qx sf.slots c0
     ·rw[if_neg(by simp)]
      refine hK E _⟨by rw[put_defers];exact hJ.defers,Af hx hi ho' hJ.frame(fun h=>by rw[←ec,ht]at h;cases h)(fun _=>rfl),by rw[Om hi hwr];exact hJ.wd,fun r p hp hge=>?_,by simpa using hJ.size,Ah hi ho' jm hJ.shut⟩
      obtain⟨j,g1,g2,g3,g4⟩:=hJ.made r p hp hge
      exact⟨j,g1,by rw[fA hi,g2];simp,g3,g4⟩
     ·rw[if_pos rfl]
      refine Or.inl ?_
      have hbt:b=true:=by rw[eb];exact hcond(by rw[←ec];exact ht)
      subst hbt
      have hwm:WO P T m(S i).mem.length o=some(true,bg):=Ol(fun f g hg=>(hT.2.2.2.2 f g hg).1)(fun y hy=>lI(hlk y hy))hw(fun k hk'=>har k(by rw[←EU];exact hk'))
      have hops:=hk.2
      rw[List.all_eq_true]at hops
      have hρ:∀y,y∈o.op.operands→rel E(aG m y)(a.eval y):=fun y hy=>by
       have hy':y∈o.op.operands.toList:=by simpa using hy
       exact iF(s:=m)hJ.frame ht y(by rw[←lJ(hlk y hy')];exact hops y hy')
      have hfresh:E.O sf.mem.length=none:=by
       cases hx':E.O sf.mem.length with
       |none=>rfl
       |some p =>
        have:=hdom _ p.1 p.2 hx'
        rw[sV]at this
        exact absurd this(Nat.lt_irrefl _)
      refine JF(s:=m)hT hJ.frame.1.2 hJ.wd hfresh hρ(ahn(fun f g hg=>(hT.2.1 f g hg).2)hwm hn)(by rw[EU];exact hx.anF ho' hi hun' jm hJ.shut hdom(Or.inl hnw))fun E' u hle hO' hW' hrel=>?_
      refine hK E' _⟨by rw[put_defers];exact hJ.defers,Af hx hi ho'(mI hle hJ.frame)(fun _=>by rw[←EU];exact hrel)(fun h=>by rw[←ec,ht]at h;cases h),hW',fun r p hp hge=>?_,by simpa using hJ.size,Ah hi ho' jm hJ.shut⟩
      rcases hO' r p hp with h |h
      ·obtain⟨j,g1,g2,g3,g4⟩:=hJ.made r p h hge
       exact⟨j,g1,by rw[fA hi,g2];simp,g3,g4⟩
      ·have:=hW'.dom r p.1 p.2 hp
       rw[sV,h]at this
       exact absurd this(Nat.lt_irrefl _)
    case false =>
    rw[hbare]at hst
    simp only[cond_false,Option.some.injEq,Prod.mk.injEq]at hst
    obtain⟨eb,ec,EU⟩:=hst
    obtain⟨hbt,htr⟩:=GU(F:=sf.slots)hch hk.1(by rw[eb];exact hcond(by rw[←ec];rfl))fun t ht=>by rw[hat t ht,hts t ht]
    subst hbt
    have arW:fV ops.toList m.slots o=some c0:=by rw[←u7 hts];exact hch
    rw[if_pos((jd(s:=m.slots)(F:=sf.slots)hJ.frame hat arW).trans htr)]
    refine Or.inl ?_
    have hwm:WO P T m(S i).mem.length o=some(true,bg):=Ol(fun f g hg=>(hT.2.2.2.2 f g hg).1)(fun y hy=>lI(hlk y hy))hw(fun k hk'=>har k(by rw[←EU];exact hk'))
    have hops:=hk.2
    rw[List.all_eq_true]at hops
    have hρ:∀y,y∈o.op.operands→rel E(aG m y)(a.eval y):=fun y hy=>by
     have hy':y∈o.op.operands.toList:=by simpa using hy
     exact iF(s:=m)hJ.frame htr y(by rw[←lJ(hlk y hy')];exact hops y hy')
    have hdom:=hJ.wd.dom
    have finish:∀(nk:Nat),E.O nk=none→WO P T m nk o=some(true,bg)→((rec i).bg.nw=none∨nk=(rec i).nk)→((rec i).bg.nw=none→nk=sf.mem.length)→o.wp P a E.w K Q:=by
     intro nk hfresh haw hor hno
     refine JF(s:=m)hT hJ.frame.1.2 hJ.wd hfresh hρ haw(by rw[EU];exact hx.anF ho' hi hun' jm hJ.shut hdom hor)fun E' u hle hO' hW' hrel=>?_
     refine hK E' _⟨by rw[put_defers];exact hJ.defers,Af hx hi ho'(mI hle hJ.frame)(fun _=>by rw[←EU];exact hrel)(fun h=>by rw[←ec]at h;cases h),hW',fun r p hp hge=>?_,by simpa using hJ.size,Ah hi ho' jm hJ.shut⟩
     rcases hO' r p hp with h |h
     ·obtain⟨j,g1,g2,g3,g4⟩:=hJ.made r p h hge
      exact⟨j,g1,by rw[fA hi,g2];simp,g3,g4⟩
     ·cases hnw:(rec i).bg.nw with
      |none =>
       have:=hW'.dom r p.1 p.2 hp
       rw[sV,h,hno hnw]at this
       exact absurd this(Nat.lt_irrefl _)
      |some row =>
       refine⟨i,hlt,by rw[fA hi];simp,?_,by rw[hnw];rfl⟩
       rcases hor with h' |h'
       ·rw[hnw]at h';cases h'
       ·rw[h,h'];exact⟨Nat.le_refl _,Nat.le_add_right _ _⟩
    cases hnw:(rec i).bg.nw with
    |none =>
     refine finish sf.mem.length ?_(ahn(fun f g hg=>(hT.2.1 f g hg).2)hwm(by rw[EU];exact hnw))(Or.inl hnw)(fun _=>rfl)
     cases hO:E.O sf.mem.length with
     |none=>rfl
     |some p =>
      have:=hdom _ p.1 p.2 hO
      rw[sV]at this
      exact absurd this(Nat.lt_irrefl _)
    |some row=>exact finish(rec i).nk(hx.abb hJ hlt hun'(by rw[hnw];rfl)(Nat.zero_le _))(by rw[hnk];exact hwm)(Or.inr rfl)(fun h=>by rw[hnw]at h;cases h)
theorem YM(hx:Lex P T ops.toList s0 sf S rec)(hsz:listed.size=ops.size)(hr:Region.ready .any ops listed=[]):∀i,i<ops.size→listed.getD i false=true:=by
 intro i
 induction i using Nat.strongRecOn with
 |_ i ih =>
  intro hi
  cases h:listed.getD i false
  ·have:i∈Region.ready .any ops listed:=mem_ready.2⟨by rw[qR(by omega)];exact h,ops[i],Array.getElem?_eq_getElem hi,fun e he hb=>by
    have hlt:=(kC hx.ok(j:=i)(oj:=ops[i])(by simp[hi])).1 e he hb
    exact ih e.on hlt(by omega)⟩
   rw[hr]at this;cases this
  ·rfl
theorem Oo {α:Type}{p q:α→Bool}:∀{l:List α}{x:α},(∀y,y∈l→q y=true→p y=true)→x∈l→p x=true→q x=false→l.countP q<l.countP p
 | [],_,_,hx,_,_=>by cases hx
 |y::l,x,h,hx,hp,hq=>by
  rw[List.countP_cons,List.countP_cons]
  have hle:l.countP q≤l.countP p:=List.countP_mono_left fun z hz=>h z(by simp[hz])
  rcases List.mem_cons.1 hx with rfl |hx
  ·rw[hp,hq];simp;omega
  ·have ih:=Oo(fun z hz=>h z(by simp[hz]))hx hp hq
   have hy:=h y(by simp)
   cases hqy:q y
   ·simp;omega
   ·rw[hy hqy];simp;omega
theorem axp(hT:Az P T)(hx:Lex P T ops.toList s0 sf S rec)
  (hQ:∀E listed a,(∀i,i<ops.size→listed.getD i false=true)→JInv A0 R w0 ops s0 sf S rec E listed a→Q .normal a E.w) :
  ∀(fuel:Nat)(E:Env)(listed:Array Bool)(a:Act),JInv A0 R w0 ops s0 sf S rec E listed a→(List.range ops.size).countP(fun i=>!listed.getD i false)≤fuel→wpAny P .any ops Q fuel listed a E.w:=by
 intro fuel
 induction fuel with
 |zero =>
  intro E listed a hJ hc
  have hall:∀i,i<ops.size→listed.getD i false=true:=fun i hi=>by
   have:=List.countP_eq_zero.1(Nat.le_zero.1 hc)i(List.mem_range.2 hi)
   simpa using this
  refine⟨?_,hQ E listed a hall hJ⟩
  cases hr:Region.ready .any ops listed with
  |nil=>rfl
  |cons i l =>
   obtain⟨hun,o,ho,_⟩:=mem_ready.1(show i∈Region.ready .any ops listed by rw[hr];simp)
   have hi:i<ops.size:=(Array.getElem?_eq_some_iff.1 ho).1
   rw[qR(by rw[hJ.size];exact hi),hall i hi]at hun
   cases hun
 |succ fuel ih =>
  intro E listed a hJ hc
  refine⟨fun hr=>hQ E listed a(YM hx hJ.size hr)hJ,fun i hr=>arV hT hx hJ hr fun E' a' hJ'=>ih E' _ a' hJ' ?_⟩
  obtain⟨hun,o,ho,_⟩:=mem_ready.1 hr
  have hi:i<ops.size:=(Array.getElem?_eq_some_iff.1 ho).1
  have hil:i<listed.size:=by rw[hJ.size];exact hi
  have hlt:=Oo(p:=fun j=>!listed.getD j false)(q:=fun j=>!(listed.setIfInBounds i true).getD j false)(l:=List.range ops.size)(x:=i)
   (fun y _ hy=>by
    rw[fA hil]at hy
    simp only[Bool.not_eq_true',Bool.or_eq_false_iff]at hy ⊢
    exact hy.2)(List.mem_range.2 hi)(by rw[←qR hil,hun];rfl)(by rw[fA hil];simp)
  omega
theorem acU(hT:Az P T)(hm:P.follows .mixedOrders=true) {s sf:St}{id:Nat}(hI:Inv A0 R w0 E s a)(hD:drawn P T ops.toList s=some sf)(hQ:∀E' a',Inv A0 R w0 E'(HV sf)a'→Q .normal a' E'.w):(Code.region id ops true).wp P Q a E.w:=by
 obtain⟨S,rec,hx⟩:=arO hD
 have hno:∀i,(Array.replicate ops.size false).getD i false=false:=fun i=>by
  simp only[Array.getD_eq_getD_getElem?,Array.getElem?_replicate];split<;>rfl
 have hw0:∀t,wrB ops.toList(Array.replicate ops.size false)t=false:=fun t=>by
  cases h:wrB ops.toList(Array.replicate ops.size false)t
  ·rfl
  ·obtain⟨i,o,_,_,hl⟩:=yt.1 h
   rw[hno]at hl;cases hl
 have aDo:s.mem.length≤sf.mem.length:=by
  have:=hx.QY(i:=0)(by omega)
  rwa [hx.first]at this
 refine wp_region_any hm ?_
 obtain⟨hwd,hle⟩:=hI.wd.on(w':=E.w.drew)(Below.refl _ _).drew
 refine axp(E:={ E with w:=E.w.drew })(A0:=A0)(R:=R)(w0:=w0)hT hx ?_ ops.size _ a ?_ ?_
 ·intro E' listed a' hall hJ
  refine hQ E' a' ?_
  have hmem:wL ops.toList.length sf S rec listed=sf.mem:=by
   apply List.ext_getElem?
   intro r
   by_cases hr:r<sf.mem.length
   ·rw[hx.qh hr]
    unfold rowAt
    rw[ahp fun k hk=>hall k(by simpa using hk)]
   ·rw[List.getElem?_eq_none(by rw[sV];omega),List.getElem?_eq_none(by omega)]
  have hfr:BD E' sf.slots sf.slots a'.tmps:=by
   refine⟨⟨by rw[hJ.frame.1.1];simp[sU,hx.sS],hJ.frame.1.2⟩,fun t=>?_⟩
   have:=hJ.frame.2 t
   rw[wM hx.sS]at this
   cases h:wrB ops.toList listed t
   ·rw[h,cond_false,←hx.never fun i o hi=>?_]at this
    ·exact this
    ·cases h':writes o t
     ·rfl
     ·have hi2:i<ops.size:=by have:=(List.getElem?_eq_some_iff.1 hi).1;simpa using this
      have:=yt.2⟨i,o,hi,h',hall i hi2⟩
      rw[h]at this;cases this
   ·rw[h,cond_true]at this;exact this
  exact⟨hJ.defers,JN hfr _,by have:=hJ.wd;rw[hmem]at this;exact this⟩
 ·refine⟨hI.defers,?_,?_,fun r p hp hge=>?_,by simp,fun i o _ hl=>by rw[hno]at hl;cases hl⟩
  ·refine⟨⟨by rw[hI.frame.1.1];simp[sU],Iq hle hI.frame.1.2⟩,fun t=>?_⟩
   rw[wM hx.sS,hw0,cond_false]
   have:=hI.frame.2 t
   rw[hx.clear t]at this ⊢
   exact⟨fun h=>mR hle(this.1 rfl),fun h=>by cases h⟩
  ·have hrow:∀r,r<s.mem.length→(wL ops.toList.length sf S rec(Array.replicate ops.size false))[r]?=s.mem[r]?:=fun r hr=>by
    have h0:(S 0).mem=s.mem:=by rw[hx.first]
    rw[hx.qh(by omega)]
    unfold rowAt
    split
    ·rename_i w hw
     obtain⟨h1,h2,_,h4⟩:=Bf hw
     have:=hx.Ae r 0(by rw[h0];exact hr)w(by omega)(fun k _ g2=>by
      cases hk:(rec k).Dl r
      ·rfl
      ·have:=h4 k(by omega)hk
       rw[hno]at this;cases this)
     rw[Nat.zero_add,h0]at this
     exact this
    ·rename_i hw
     have hnw:∀k,0≤k→k<ops.toList.length→(rec k).Dl r=false:=fun k _ g2=>by
      cases hk:(rec k).Dl r
      ·rfl
      ·have:=Gl hw k g2 hk
       rw[hno]at this;cases this
     rw[hx.QZ(i:=0)(by omega)(by rw[h0];exact hr)hnw,h0]
   have hdom:=hI.wd.dom
   have hlive:∀k b c,E.O k=some(b,c)→aK(wL ops.toList.length sf S rec(Array.replicate ops.size false))k=aK s.mem k:=fun k b c hb=>by
    unfold aK;rw[hrow k(hdom k b c hb)]
   refine⟨fun k b c hb=>?_,hwd.small,hwd.old,fun k b c hb hl=>?_,fun k k' b c c' hb hb' hl hl'=>?_,hwd.below,hwd.Dj⟩
   ·obtain⟨row,h1,h2⟩:=hwd.rows k b c hb
    exact⟨row,by rw[hrow k(hdom k b c hb)];exact h1,h2⟩
   ·exact hwd.own k b c hb(by rw[←hlive k b c hb];exact hl)
   ·exact hwd.one k k' b c c' hb hb'(by rw[←hlive k b c hb];exact hl)(by rw[←hlive k' b c' hb'];exact hl')
  ·have:=hI.wd.dom r p.1 p.2 hp
   omega
 ·exact Nat.le_trans List.countP_le_length(by simp)
end
end
noncomputable section
theorem acV {P:Program}{T:Tab}{ops:List Oper}{s:St}{nk:Nat}{o:Oper}{g:(AV→Option Out)→Option Out}{k:AV→Option Out}{r:Out}{c:Chain}(hT:Mh T)(hC:WQ P T s o=some g)(hch:fV ops s.slots o=some c)
  (hc:(o.op.operands.toList.all(iB s.slots c)&&jQ s.slots c o.dst)=true)(h:g k=some r) :
  ∃v,k v=some r∧(∀k',g k'=k' v)∧vQ P T.flat ops s nk o=some(true,c,⟨v,[],none,none⟩):=by
 unfold WQ at hC
 split at hC
 ·rename_i cl hop
  split at hC
  ·cases hC
  ·rename_i hnb
   split at hC
   ·rename_i f args BG
    split at hC
    ·rename_i g' hg
     cases hno:bZ args
     ·rw[hno]at hC;cases hC
     ·rw[hno]at hC
      simp only[cond_true,Option.some.injEq]at hC
      subst hC
      obtain⟨v,h1,h2⟩:=hT f g' hg args _ r h
      simp only[Bool.and_eq_true]at hc
      obtain⟨hops,_⟩:=hc
      refine⟨v,h1,h2,?_⟩
      have hTf:T.flat.f f args=some v:=by
       simp only[Tab.flat,hg]
       rw[h2]
       rfl
      have hval:Mi P T.flat s o=some(true,v):=by
       unfold Mi
       rw[hop]
       simp only
       split
       ·rename_i hbi;exact absurd hbi(hnb _)
       ·rename_i hbi;exact absurd hbi(hnb _)
       ·rename_i hbi;exact absurd hbi(hnb _)
       ·rename_i hbi;exact absurd hbi(hnb _)
       ·rename_i hbi;exact absurd hbi(hnb _)
       ·rename_i hbi;exact absurd hbi(hnb _)
       ·rw[BG];simp only[hno,cond_true,hTf,Option.map_some]
      have aex:um P T.flat ops s o=some(true,c,v):=by
       unfold um
       simp only[hch]
       split
       ·rename_i g x y hop';rw[hop]at hop';cases hop'
       ·rw[hops,hval];rfl
      unfold vQ
      rw[aex]
      simp only[Sv,hop]
    ·cases hC
   ·cases hC
 ·cases hC
def yJ(P:Program)(T:Tab)(ops:List Oper):List Oper→St→List Rec→(St→List Rec→Option Out)→Option Out
 | [],s,acc,k=>k s acc
 |o::rest,s,acc,k=>match BF T s s.mem.length o with
  |some(b,v,r0::ex)=>cond(Vz s o)(yJ P T ops rest(Ig s o.dst []⟨v,[],none,some r0⟩ex)(acc++[⟨s.mem.length,b,[],⟨v,[],none,some r0⟩,ex⟩])k)none
  |some(_,_,[])=>none
  |none=>match WQ P T s o with
  |some g=>match fV ops s.slots o with
   |some c=>cond(o.op.operands.toList.all(iB s.slots c)&&jQ s.slots c o.dst)(g fun v=>yJ P T ops rest { s with slots:=oC s.slots o.dst(v,c) }(acc++[⟨s.mem.length,true,c,⟨v,[],none,none⟩,[]⟩])k)none
   |none=>none
  |none=>match vQ P T.flat ops s s.mem.length o with
   |some(b,c,bg)=>cond(jQ s.slots c o.dst&&bg.rd.all(fun r=>Nat.blt r s.mem.length))(yJ P T ops rest(zw s o.dst c bg)(acc++[⟨s.mem.length,b,c,bg,[]⟩])k)none
   |none=>none
theorem yu {P:Program}{T:Tab}{ops:List Oper}{r:Out}(hT:Mh T):∀{l:List Oper}{s:St}{acc:List Rec}{k:St→List Rec→Option Out},yJ P T ops l s acc k=some r →
  ∃s' recs,Lr P T.flat ops l s=some(s',recs)∧k s'(acc++recs)=some r∧∀k',yJ P T ops l s acc k'=k' s'(acc++recs)
 | [],s,acc,k,h=>⟨s,[],rfl,by simpa[yJ]using h,fun k'=>by simp[yJ]⟩
 |o::rest,s,acc,k,h=>by
  simp only[yJ]at h
  have hf:BF T.flat s s.mem.length o=BF T s s.mem.length o:=rfl
  cases hN:BF T s s.mem.length o with
  |some q =>
   obtain⟨b,v,rows⟩:=q
   cases rows with
   |nil=>rw[hN]at h;cases h
   |cons r0 ex =>
    rw[hN]at h
    simp only at h
    cases hk:Vz s o
    ·rw[hk]at h;cases h
    ·rw[hk]at h
     simp only[cond_true]at h
     obtain⟨s',recs,h1,h2,h3⟩:=yu hT h
     refine⟨s',⟨s.mem.length,b,[],⟨v,[],none,some r0⟩,ex⟩::recs,?_,by simpa using h2,fun k'=>?_⟩
     ·simp only[Lr,hf,hN,hk,cond_true,h1]
     ·simp only[yJ,hN,hk,cond_true]
      rw[h3]
      simp
  |none =>
  rw[hN]at h
  simp only at h
  cases hC:WQ P T s o with
  |none =>
   rw[hC]at h
   simp only at h
   cases hd:vQ P T.flat ops s s.mem.length o with
   |none=>rw[hd]at h;cases h
   |some p =>
    obtain⟨b,c,bg⟩:=p
    rw[hd]at h
    simp only at h
    cases hk:(jQ s.slots c o.dst&&bg.rd.all(fun r=>Nat.blt r s.mem.length))
    ·rw[hk]at h;cases h
    ·rw[hk]at h
     simp only[cond_true]at h
     obtain⟨s',recs,h1,h2,h3⟩:=yu hT h
     refine⟨s',⟨s.mem.length,b,c,bg,[]⟩::recs,?_,by simpa using h2,fun k'=>?_⟩
     ·simp only[Lr,hf,hN,hd,hk,cond_true,h1]
     ·simp only[yJ,hN,hC,hd,hk,cond_true]
      rw[h3]
      simp
  |some g =>
   rw[hC]at h
   simp only at h
   cases hch:fV ops s.slots o with
   |none=>rw[hch]at h;cases h
   |some c =>
   rw[hch]at h
   simp only at h
   cases hc:(o.op.operands.toList.all(iB s.slots c)&&jQ s.slots c o.dst)
   ·rw[hc]at h;cases h
   ·rw[hc]at h
    simp only[cond_true]at h
    obtain⟨v,h1,h2,h3⟩:=acV(ops:=ops)(nk:=s.mem.length)hT hC hch hc h
    obtain⟨s',recs,h4,h5,h6⟩:=yu hT h1
    have hd:jQ s.slots c o.dst=true:=by simp only[Bool.and_eq_true]at hc;exact hc.2
    refine⟨s',⟨s.mem.length,true,c,⟨v,[],none,none⟩,[]⟩::recs,?_,by simpa using h5,fun k'=>?_⟩
    ·have e:zw s o.dst c⟨v,[],none,none⟩={ s with slots:=oC s.slots o.dst(v,c) }:=by simp[zw,Eff.mem]
     simp only[Lr,hf,hN,h3,hd,List.all_nil,Bool.and_self,cond_true,e,h4]
    ·simp only[yJ,hN,hC,hch]
     rw[hc]
     simp only[cond_true]
     rw[h2,h6]
     simp
def lZ(P:Program)(T:Tab)(ops:List Oper)(s:St)(k:SK):Option Out :=
 cond(uJ ops s.slots.length&&(Bc ops(jH ops [])&&s.slots.all(fun q=>q.2.isEmpty)))(yJ P T ops ops s []fun sf recs =>
  cond(Lp(jH ops [])recs)(cond(recs.all(fun r=>r.b||!qx sf.slots r.c))(k sf)none)none)none
theorem Hr {P:Program}{T:Tab}{ops:List Oper}{s:St}{k:SK}{r:Out}(hT:Mh T)(h:lZ P T ops s k=some r):∃s',drawn P T.flat ops s=some s'∧k s'=some r∧∀k',lZ P T ops s k'=k' s':=by
 unfold lZ at h
 cases hc:(uJ ops s.slots.length&&(Bc ops(jH ops [])&&s.slots.all(fun q=>q.2.isEmpty)))
 ·rw[hc]at h;cases h
 ·rw[hc]at h
  simp only[cond_true]at h
  obtain⟨sf,recs,h1,h2,h3⟩:=yu hT h
  simp only[List.nil_append]at h2 h3
  cases hr:Lp(jH ops [])recs
  ·rw[hr]at h2;cases h2
  ·rw[hr]at h2
   simp only[cond_true]at h2
   cases ha:recs.all(fun r=>r.b||!qx sf.slots r.c)
   ·rw[ha]at h2;cases h2
   ·rw[ha]at h2
    simp only[cond_true]at h2
    refine⟨sf,?_,h2,fun k'=>?_⟩
    ·unfold drawn;rw[hc];simp only[cond_true,h1,hr,ha,Bool.and_self]
    ·unfold lZ;rw[hc];simp only[cond_true];rw[h3,hr,ha];rfl
theorem iJ {P:Program}{T:Tab}(hT:Az P T)(hm:P.follows .mixedOrders=true):DOk P(lZ P T):=by
 classical
 refine⟨fun ops s k r h=>?_,fun A0 R w0 E s s' a id ops Q hI h hQ=>?_⟩
 ·obtain⟨s',_,h2,h3⟩:=Hr hT.par h
  exact⟨s',h2,h3⟩
 ·obtain⟨s2,h4,_,h3⟩:=Hr(r:=Out.of .any)(k:=fun _=>some(Out.of .any))hT.par(h _)
  have e:s2=s':=by
   have h5:=h3 fun x=>if x=s' then some(Out.of .any)else none
   rw[h]at h5
   simp only[if_true]at h5
   by_cases e:s2=s'
   ·exact e
   ·rw[if_neg e]at h5;cases h5
  subst e
  exact acU hT.flat hm hI h4 hQ
structure Entry where
 f:Nat
 g:List AV→Option AV
structure aV where
 f:Nat
 g:ahs
def Hl:List Entry→Nat→List AV→Option AV
 | [],_,_=>none
 |e::l,f,args=>cond(Nat.beq e.f f)(match e.g args with
  |some r=>some r
  |none=>Hl l f args)(Hl l f args)
def KH:List aV→Nat→Option ahs
 | [],_=>none
 |e::l,f=>cond(Nat.beq e.f f)(some e.g)(KH l f)
structure fQ where
 f:Nat
 g:aeA
 n:Option aeB
def Uc:List fQ→Nat→Option aeA
 | [],_=>none
 |e::l,f=>cond(Nat.beq e.f f)(some e.g)(Uc l f)
def Ud:List fQ→Nat→Option aeB
 | [],_=>none
 |e::l,f=>cond(Nat.beq e.f f)e.n(Ud l f)
def af9(l:List Entry)(ks:List aV)(ms:List fQ):Tab:=⟨Hl l,KH ks,Uc ms,Ud ms,fun _=>none,fun _=>none⟩
def tab(l:List Entry)(ks:List aV):Tab:=⟨Hl l,KH ks,fun _=>none,fun _=>none,fun _=>none,fun _=>none⟩
def lg(P:Program)(e:Entry):Prop:=∀args r,e.g args=some r→aj P e.f args r∨EW P e.f args r
def tX(P:Program)(e:aV):Prop:=ajG e.g∧aht P e.f e.g
theorem Qi {P:Program}{l:List Entry}{ks:List aV}{m:Nat→Option aeA}{n:Nat→Option aeB}{w:Nat→Option abS}{r:Nat→Option Xc}(hl:∀e,e∈l→lg P e)(hk:∀e,e∈ks→tX P e):ajJ P⟨Hl l,KH ks,m,n,w,r⟩:=by
 constructor
 ·intro f args r h
  have:∀(l:List Entry),(∀e,e∈l→lg P e)→Hl l f args=some r→aj P f args r∨EW P f args r:=by
   intro l
   induction l with
   |nil=>intro _ h;cases h
   |cons e l ih =>
    intro hl h
    simp only[Hl]at h
    cases hb:Nat.beq e.f f
    ·rw[hb]at h;exact ih(fun e' he'=>hl e'(by simp[he']))h
    ·rw[hb]at h
     simp only[cond_true]at h
     have e1:=Nat.eq_of_beq_eq_true hb
     subst e1
     split at h
     ·rename_i r' hr
      cases h
      exact hl e(by simp)args r hr
     ·exact ih(fun e' he'=>hl e'(by simp[he']))h
  exact this l hl h
 ·intro f g h
  have:∀(ks:List aV),(∀e,e∈ks→tX P e)→KH ks f=some g→ajG g∧aht P f g:=by
   intro ks
   induction ks with
   |nil=>intro _ h;cases h
   |cons e l ih =>
    intro hl h'
    simp only[KH]at h'
    cases hb:Nat.beq e.f f
    ·rw[hb]at h';exact ih(fun e' he'=>hl e'(by simp[he']))h'
    ·rw[hb]at h'
     simp only[cond_true,Option.some.injEq]at h'
     have e1:=Nat.eq_of_beq_eq_true hb
     rw[←h',←e1]
     exact hl e(by simp)
  exact this ks hk h
theorem KO {P:Program}{l:List Entry}{ks:List aV}(hl:∀e,e∈l→lg P e)(hk:∀e,e∈ks→tX P e):Az P(tab l ks):=⟨Qi hl hk,fun _ _ h=>(by cases h),fun _ _ h=>(by cases h),fun _ _ h=>(by cases h),fun _ _ h=>(by cases h)⟩
def vZ(P:Program)(e:fQ):Prop:=MOk P e.f e.g∧∀g,e.n=some g→NOk P e.f g
theorem qQ {P:Program}{l:List Entry}{ks:List aV}{ms:List fQ}(hl:∀e,e∈l→lg P e)(hk:∀e,e∈ks→tX P e)(hm:∀e,e∈ms→vZ P e):Az P(af9 l ks ms):=by
 refine⟨Qi hl hk,fun f g h=>?_,fun f g h=>?_,fun _ _ h=>(by cases h),fun _ _ h=>(by cases h)⟩
 ·have:∀(ms:List fQ),(∀e,e∈ms→vZ P e)→Uc ms f=some g→MOk P f g:=by
   intro ms
   induction ms with
   |nil=>intro _ h;cases h
   |cons e l ih =>
    intro hm h'
    simp only[Uc]at h'
    cases hb:Nat.beq e.f f
    ·rw[hb]at h';exact ih(fun e' he'=>hm e'(by simp[he']))h'
    ·rw[hb]at h'
     simp only[cond_true,Option.some.injEq]at h'
     have e1:=Nat.eq_of_beq_eq_true hb
     rw[←h',←e1]
     exact(hm e(by simp)).1
  exact this ms hm h
 ·have:∀(ms:List fQ),(∀e,e∈ms→vZ P e)→Ud ms f=some g→NOk P f g:=by
   intro ms
   induction ms with
   |nil=>intro _ h;cases h
   |cons e l ih =>
    intro hm h'
    simp only[Ud]at h'
    cases hb:Nat.beq e.f f
    ·rw[hb]at h';exact ih(fun e' he'=>hm e'(by simp[he']))h'
    ·rw[hb]at h'
     simp only[cond_true]at h'
     have e1:=Nat.eq_of_beq_eq_true hb
     rw[←e1]
     exact(hm e(by simp)).2 g h'
  exact this ms hm h
def ev(P:Program)(l:List Entry)(ks:List aV)(L:Nat→Option dN)(fn:Func)(args:List AV)(k:AV→Option Out):Option Out:=abody P(tab l ks)(lZ P(tab l ks))L 40 fn args k
def ret:AV→Option Out:=fun v=>some(Out.of v)
def aM:Nat→Option dN:=fun _=>none
theorem aA {P:Program}{c:Code}:yS P aM c:=fun _ _ _ _ _ h=>by cases h
theorem KP {P : Program} {l : List Entry} {ks : List aV} {L : Nat → Option dN} (hl : ∀ e, e ∈ l → lg P e) (hk : ∀ e, e ∈ ks → tX P e) (hm : P.follows .mixedOrders = true) {f : Nat} {fn : Func} (hf : P.funcs[f]? = some fn) (hnm : (fn.name == "runtime.NumGoroutine") = false) {c : Code} (hb : fn.body = some c) (hL : yS P L c)
  {args:List AV}(hlen:Nat.ble args.length fn.ntmps=true) {r:AV}(h:ev P l ks L fn args ret=some(Out.of r)):aj P f args r :=
 xB(KO hl hk)(iJ(KO hl hk)hm)40 hf hnm hb hL hlen h
def inl(P:Program)(l:List Entry)(ks:List aV)(L:List AV→Nat→Option dN)(f:Nat)(fn:Func):aV:=⟨f,fun args k=>cond(Nat.ble args.length fn.ntmps)(ev P l ks(L args)fn args k)none⟩
theorem apa {P : Program} {l : List Entry} {ks : List aV} {L : List AV → Nat → Option dN} (hl : ∀ e, e ∈ l → lg P e) (hk : ∀ e, e ∈ ks → tX P e) (hm : P.follows .mixedOrders = true) {f : Nat} {fn : Func} (hf : P.funcs[f]? = some fn) (hnm : (fn.name == "runtime.NumGoroutine") = false) {c : Code} (hb : fn.body = some c) (hL : ∀ args, yS P (L args) c) : tX P (inl P l ks L f fn) := by
 have hT:=KO hl hk
 have hD:=iJ hT hm
 have par:∀args k r,ev P l ks(L args)fn args k=some r→∃v,k v=some r∧∀k',ev P l ks(L args)fn args k'=k' v:=by
  intro args k r h
  unfold ev abody at h ⊢
  rw[hb]at h ⊢
  simp only at h ⊢
  obtain⟨e,s',h1,h2⟩:=abM hT.par hD.1 40 c(hL args)_ _ _ h
  cases e<;>simp only[abO]at h1<;>first | (cases h1;done) |skip
  all_goals
   split at h1
   ·rename_i v hv
    exact⟨v,h1,fun k'=>by rw[h2];simp only[abO,hv]⟩
   ·cases h1
 constructor
 ·intro args k r h
  simp only[inl]at h ⊢
  cases hn:Nat.ble args.length fn.ntmps
  ·rw[hn]at h;cases h
  ·rw[hn]at h
   simp only[cond_true]at h ⊢
   exact par args k r h
 ·intro args v h
  simp only[inl]at h
  have h1:=h ret
  cases hn:Nat.ble args.length fn.ntmps
  ·rw[hn]at h1;cases h1
  ·rw[hn]at h1
   exact Or.inl(KP hl hk hm hf hnm hb(hL args)hn h1)
end
noncomputable section
def EX(keep:List Nat)(σ:Nat→Option Nat):Nat→List(AV × Chain)→List(AV × Chain)
 |_,[]=>[]
 |i,q::qs=>(cond(keep.contains i)(match q.2 with
  | []=>jw σ q.1
  |_::_=>.any) .any,[])::EX keep σ(i+1)qs
def ahu(σ:Nat→Option Nat):Row→Row
 |.c l=>.c(gP σ l)
 |.t e l=>.t e(gP σ l)
 |.z _ _ _ _ _=>.dead
 |r=>r
def keepR(τ:List(Option Nat))(mem:List Row):List(Option Nat)→List Row
 | []=>[]
 |none::os=>.dead::keepR τ mem os
 |some k::os=>ahu(jR τ)(mem.getD k .dead)::keepR τ mem os
def gN(keep:List Nat)(τ:List(Option Nat))(s:St):St:=⟨EX keep(jR τ)0 s.slots,keepR τ s.mem τ⟩
def jF(τ:List(Option Nat))(s:St):Bool:=distinct τ&&τ.all fun o=>match o with
 |some k=>Nat.blt k s.mem.length
 |none=>true
theorem Bg {keep:List Nat}{σ:Nat→Option Nat}:∀(i:Nat)(l:List(AV × Chain)),GV σ l(EX keep σ i l)
 |_,[]=>trivial
 |i,q::qs=>by
  refine⟨⟨rfl,?_⟩,Bg(i+1)qs⟩
  simp only
  cases keep.contains i
  ·exact Or.inl rfl
  ·simp only[cond_true]
   cases hq:q.2 with
   |nil=>exact Or.inr⟨rfl,Or.inr(Or.inl rfl)⟩
   |cons p c=>exact Or.inl rfl
theorem qg {σ:Nat→Option Nat}:∀(l:List AV),(gP σ l).length=l.length
 | []=>by rw[gP]
 |x::xs=>by rw[gP,List.length_cons,List.length_cons,qg xs]
theorem sW {σ:Nat→Option Nat}:∀(l:List AV),uq σ l(gP σ l)
 | []=>by rw[gP];trivial
 |x::xs=>by rw[gP];exact⟨Or.inr(Or.inl rfl),sW xs⟩
theorem wG {τ:List(Option Nat)}{mem:List Row}:∀(os:List(Option Nat)),(os.all fun o=>match o with |some k=>Nat.blt k mem.length |none=>true)=true→pq τ mem os(keepR τ mem os)
 | [],_=>trivial
 |none::os,h=>⟨trivial,wG os(by simpa using h)⟩
 |some k::os,h=>by
  simp only[List.all_cons,Bool.and_eq_true]at h
  have hk:k<mem.length:=kJ h.1
  refine⟨⟨mem[k],List.getElem?_eq_getElem hk,?_⟩,wG os h.2⟩
  have e:mem.getD k .dead=mem[k]:=by rw[List.getD_eq_getElem?_getD,List.getElem?_eq_getElem hk];rfl
  rw[e]
  cases hr:mem[k]with
  |c l=>exact Or.inr(Or.inl⟨l,gP(jR τ)l,rfl,rfl,sW l⟩)
  |a e sz n el=>exact Or.inr(Or.inr(Or.inl⟨e,sz,n,el,el,rfl,rfl,fun _ _=>rfl⟩))
  |dead=>exact Or.inl rfl
  |z x e sz n el=>exact Or.inl rfl
  |t e l=>exact Or.inr(Or.inr(Or.inr(Or.inl⟨e,l,gP(jR τ)l,rfl,rfl,sW l,qg l⟩)))
  |i s p e=>exact Or.inr(Or.inr(Or.inr(Or.inr⟨s,p,e,rfl,rfl⟩)))
theorem abd {keep:List Nat}{τ:List(Option Nat)}{s:St}(h:jF τ s=true):Sub s(gN keep τ s):=by
 unfold jF at h
 simp only[Bool.and_eq_true]at h
 exact WV τ h.1(Bg 0 s.slots)(wG τ h.2)
def Uh(keep:List Nat)(τ:List(Option Nat)):jZ:=fun e s=>cond(jF τ s)(some⟨e,gN keep τ s,.any⟩)none
def X3(k:jZ):Prop:=∀e s o,k e s=some o→o.e=e∧Sub s o.s
theorem acn {P:Program}{T:Tab}{D:List Oper→St→SK→Option Out}{L:Nat→Option dN}{N:Nat}{c:Code}{s s':St}{e:Exit}{k:jZ}(hk:X3 k)(hT:Az P T)(hD:DOk P D)(hL:yS P L c)(h:gT P T D L N c s k=some⟨e,s',.any⟩):bF P c s e s':=fun A0 R w0 E a hp hI=>by
 refine Go.Code.wp_mono ?_(DT hp hT hD N c hL hI h)
 rintro e' a' w'⟨E',s1,rfl,hI',he⟩
 obtain⟨h1,h2⟩:=hk e' s1 _ he
 obtain⟨E2,e2,h3⟩:=h2 A0 R w0 E' a' hp hI'
 exact⟨h1.symm,E2,e2,h3⟩
theorem EB(keep:List Nat)(τ:List(Option Nat)):X3(Uh keep τ):=fun e s o h=>by
 unfold Uh at h
 cases hf:jF τ s
 ·rw[hf]at h;cases h
 ·rw[hf]at h
  simp only[cond_true,Option.some.injEq]at h
  subst h
  exact⟨rfl,abd hf⟩
def fu(keep:List Nat)(τ:List(Option Nat)):jZ:=fun e s=>match e with
 |.normal=>Uh keep τ .normal s
 |_=>none
def PY(keep:List Nat)(τ:List(Option Nat)):jZ:=fun e s=>match e with
 |.normal=>none
 |e=>Uh keep τ e s
theorem aT(keep:List Nat)(τ:List(Option Nat)):X3(fu keep τ):=fun e s o h=>by
 unfold fu at h
 cases e<;>simp only at h<;>first | (cases h;done) |exact EB keep τ _ s o h
theorem nT(keep:List Nat)(τ:List(Option Nat)):X3(PY keep τ):=fun e s o h=>by
 unfold PY at h
 cases e<;>simp only at h<;>first | (cases h;done) |exact EB keep τ _ s o h
def abe(row row':Row):Prop:=row'=row∨∃e sz n el tJ,row=.a e sz n el∧row'=.a e sz n tJ∧∀i,i<n→tJ i=el i
def rH:List Row→List Row→Prop
 | [],[]=>True
 |r::rs,r'::rs'=>abe r r'∧rH rs rs'
 |_,_=>False
theorem rH.get:∀{rs rs':List Row},rH rs rs'→∀k:Nat,(rs[k]?=none∧rs'[k]?=none)∨∃r r',rs[k]?=some r∧rs'[k]?=some r'∧abe r r'
 | [],[],_,k=>Or.inl⟨by simp,by simp⟩
 |r::rs,r'::rs',h,k=>by
  cases k with
  |zero=>exact Or.inr⟨r,r',rfl,rfl,h.1⟩
  |succ k=>simpa using rH.get h.2 k
 | [],_::_,h,_=>h.elim
 |_::_,[],h,_=>h.elim
theorem zL {np:Nat}{sl:List(AV × Chain)}{mem mem':List Row}(h:rH mem mem'):iV np⟨sl,mem⟩⟨sl,mem'⟩:=by
 intro A0 R w0 E a hp0 hI
 have lives:∀k,aK mem' k=aK mem k:=fun k=>by
  unfold aK
  rcases h.get k with⟨h1,h2⟩ | ⟨r,r',h1,h2,h3⟩
  ·rw[h1,h2]
  ·rw[h1,h2]
   rcases h3 with rfl | ⟨e,sz,n,el,tJ,rfl,rfl,_⟩<;>rfl
 refine⟨E,rfl,hI.defers,hI.frame,⟨fun k b c hb=>?_,hI.wd.small,hI.wd.old,fun k b c hb hl=>hI.wd.own k b c hb(by rw[←lives];exact hl),fun k k' b c c' hb hb' hl hl'=>hI.wd.one k k' b c c' hb hb'(by rw[←lives];exact hl)(by rw[←lives];exact hl'),hI.wd.below,hI.wd.Dj⟩⟩
 obtain⟨row,h1,h2⟩:=hI.wd.rows k b c hb
 rcases h.get k with⟨g1,_⟩ | ⟨r,r',g1,g2,g3⟩
 ·have:mem[k]?=some row:=h1
  rw[g1]at this;cases this
 ·have:mem[k]?=some row:=h1
  rw[g1]at this
  cases this
  refine⟨r',g2,?_⟩
  rcases g3 with rfl | ⟨e,sz,n,el,tJ,rfl,rfl,g4⟩
  ·exact h2
  ·obtain⟨cs,k1,k2,k3,k4,k5,k6⟩:=h2
   exact⟨cs,k1,k2,k3,k4,k5,fun i hi=>by rw[g4 i hi];exact k6 i hi⟩
def dG(fn:Func):Code:=fn.body.getD .skip
def au(fn:Func)(i:Nat):Code:=(bC(dG fn)).getD i .skip
def gD(P:Program)(l:List Entry)(ks:List aV)(L:Nat→Option dN)(c:Code)(s:St)(k:jZ):Option Out:=gT P(tab l ks)(lZ P(tab l ks))L 40 c s k
def mkS(n:Nat)(l:List(Nat × AV))(mem:List Row):St:=⟨(List.range n).map fun i=>(match l.find?(fun p=>Nat.beq p.1 i)with
 |some p=>p.2
 |none=>.any,[]),mem⟩
end
noncomputable section
noncomputable def gate(p:Prop)(x:Option Out):Option Out:=open Classical in if p then x else none
theorem ah {p:Prop}{x:Option Out}(h:p):gate p x=x:=by unfold gate;rw[if_pos h]
theorem gY {p:Prop}{x:Option Out}{r:Out}(h:gate p x=some r):p∧x=some r:=by
 unfold gate at h
 split at h
 ·rename_i hp;exact⟨hp,h⟩
 ·cases h
noncomputable def fE(keep:List Nat)(τ:List(Option Nat))(s0:St)(e:Exit)(sf:St):dN:=fun s k=>cond(jF τ s)(gate(Sub(gN keep τ s)s0)(k e sf))none
theorem aR {P:Program}{c:Code}{keep:List Nat}{τ:List(Option Nat)}{s0 sf:St}{e:Exit}(h:bF P(.loop c)s0 e sf):gI P c(fE keep τ s0 e sf):=by
 have h1:=Cw h
 have get:∀{s:St}{k:jZ}{r:Out},fE keep τ s0 e sf s k=some r→Sub s s0∧k e sf=some r:=fun {s k r} hr=>by
  unfold fE at hr
  cases hf:jF τ s
  ·rw[hf]at hr;cases hr
  ·rw[hf]at hr
   simp only[cond_true]at hr
   obtain⟨h2,h3⟩:=gY hr
   exact⟨(abd hf).trans h2,h3⟩
 have eq:∀{s:St}{k:jZ}{r:Out},fE keep τ s0 e sf s k=some r→∀k',fE keep τ s0 e sf s k'=k' e sf:=fun {s k r} hr k'=>by
  unfold fE at hr ⊢
  cases hf:jF τ s
  ·rw[hf]at hr;cases hr
  ·rw[hf]at hr
   simp only[cond_true]at hr ⊢
   rw[ah(gY hr).1]
 have eq1:∀{s:St}{k:jZ}{r:Out},fE keep τ s0 e sf s k=some r→∀k',told s0 e sf s k'=k' e sf:=fun {s k r} hr k'=>by
  unfold told
  rw[if_pos(get hr).1]
 constructor
 ·intro s k r hr
  exact⟨e,sf,(get hr).2,eq hr⟩
 ·intro s s' e' hk
  have h0:=hk(fun e s=>some⟨e,s,.any⟩)
  refine h1.2 s s' e' fun k'=>?_
  rw[eq1 h0 k',←eq h0 k']
  exact hk k'
def gu(i:Nat)(g:dN):Nat→Option dN:=fun j=>cond(Nat.beq j i)(some g)none
theorem kT {P:Program}{c:Code}{i:Nat}{g:dN}(m:Nat)(hlen:(bC c).length=m)(h:∀j,j<m→jA((bC c).getD j .skip)=some i→gI P((bC c).getD j .skip)g):yS P(gu i g)c:=by
 intro c' hc i' g' hi hg
 obtain⟨j,hj,rfl⟩:=List.mem_iff_getElem.1 hc
 unfold gu at hg
 cases hb:Nat.beq i' i
 ·rw[hb]at hg;cases hg
 ·rw[hb]at hg
  cases hg
  have e1:=Nat.eq_of_beq_eq_true hb
  subst e1
  have e2:(bC c).getD j .skip=(bC c)[j]:=by rw[List.getD_eq_getElem?_getD,List.getElem?_eq_getElem hj];rfl
  have:=h j(by omega)(by rw[e2];exact hi)
  rw[e2]at this
  exact this
noncomputable def Vb(f:Nat)(a:List AV)(r:AV):aV:=⟨f,fun args k=>gate(args=a)(k r)⟩
theorem uK {P:Program}{f:Nat}{a:List AV}{r:AV}(h:aj P f a r):tX P(Vb f a r):=by
 constructor
 ·intro args k o ho
  obtain⟨h1,h2⟩:=gY ho
  exact⟨r,h2,fun k'=>ah h1⟩
 ·intro args v hv
  have h1:=hv fun x=>some(Out.of x)
  obtain⟨h2,h3⟩:=gY h1
  simp only[Option.some.injEq,Out.of,Out.mk.injEq,true_and]at h3
  rw[←h3,h2]
  exact Or.inl h
end
noncomputable section
def al1(σ:Nat→Option Nat):Option(Nat × Nat)→AV→AV
 |some(k,sz),x=>match x with
  |.x(.slice none 0 0)=>.fJ k sz 0 0
  |x=>jw σ x
 |none,x=>jw σ x
def ahv:List(Nat × Nat × Nat)→Nat→Option(Nat × Nat)
 | [],_=>none
 |p::l,i=>cond(Nat.beq p.1 i)(some p.2)(ahv l i)
def YN(keep:List Nat)(ji:List(Nat × Nat × Nat))(σ:Nat→Option Nat):Nat→List(AV × Chain)→List(AV × Chain)
 |_,[]=>[]
 |i,q::qs=>(cond(keep.contains i)(match q.2 with
  | []=>al1 σ(ahv ji i)q.1
  |_::_=>.any) .any,[])::YN keep ji σ(i+1)qs
def Q0(τ:List(Option Nat))(mem:List Row)(nr:Row):List(Option Nat)→List Row
 | []=>[]
 |none::os=>nr::Q0 τ mem nr os
 |some k::os=>ahu(jR τ)(mem.getD k .dead)::Q0 τ mem nr os
def axq(keep:List Nat)(ji:List(Nat × Nat × Nat))(nr:Row)(τ:List(Option Nat))(s:St):St:=⟨YN keep ji(jR τ)0 s.slots,Q0 τ s.mem nr τ⟩
theorem Vd {σ:Nat→Option Nat}(o:Option(Nat × Nat))(x:AV):Ng σ x(al1 σ o x):=by
 unfold al1
 split
 ·split
  ·exact Or.inr(Or.inr⟨rfl,_,_,rfl⟩)
  ·exact Or.inr(Or.inl rfl)
 ·exact Or.inr(Or.inl rfl)
theorem Lu {keep:List Nat}{ji:List(Nat × Nat × Nat)}{σ:Nat→Option Nat}:∀(i:Nat)(l:List(AV × Chain)),GV σ l(YN keep ji σ i l)
 |_,[]=>trivial
 |i,q::qs=>by
  refine⟨⟨rfl,?_⟩,Lu(i+1)qs⟩
  simp only
  cases keep.contains i
  ·exact Or.inl rfl
  ·simp only[cond_true]
   cases hq:q.2 with
   |nil=>exact Or.inr⟨rfl,Vd _ _⟩
   |cons p c=>exact Or.inl rfl
theorem C9 {τ:List(Option Nat)}{mem:List Row}{nr:Row}:∀(os:List(Option Nat)),(os.all fun o=>match o with |some k=>Nat.blt k mem.length |none=>true)=true→pq τ mem os(Q0 τ mem nr os)
 | [],_=>trivial
 |none::os,h=>⟨trivial,C9 os(by simpa using h)⟩
 |some k::os,h=>by
  simp only[List.all_cons,Bool.and_eq_true]at h
  have hk:k<mem.length:=kJ h.1
  refine⟨⟨mem[k],List.getElem?_eq_getElem hk,?_⟩,C9 os h.2⟩
  have e:mem.getD k .dead=mem[k]:=by rw[List.getD_eq_getElem?_getD,List.getElem?_eq_getElem hk];rfl
  rw[e]
  cases hr:mem[k]with
  |c l=>exact Or.inr(Or.inl⟨l,gP(jR τ)l,rfl,rfl,sW l⟩)
  |a e sz n el=>exact Or.inr(Or.inr(Or.inl⟨e,sz,n,el,el,rfl,rfl,fun _ _=>rfl⟩))
  |dead=>exact Or.inl rfl
  |z x e sz n el=>exact Or.inl rfl
  |t e l=>exact Or.inr(Or.inr(Or.inr(Or.inl⟨e,l,gP(jR τ)l,rfl,rfl,sW l,qg l⟩)))
  |i s p e=>exact Or.inr(Or.inr(Or.inr(Or.inr⟨s,p,e,rfl,rfl⟩)))
theorem ahw {keep:List Nat}{ji:List(Nat × Nat × Nat)}{nr:Row}{τ:List(Option Nat)}{s:St}(h:jF τ s=true):Sub s(axq keep ji nr τ s):=by
 unfold jF at h
 simp only[Bool.and_eq_true]at h
 exact WV τ h.1(Lu 0 s.slots)(C9 τ h.2)
noncomputable def G8(keep:List Nat)(ji:List(Nat × Nat × Nat))(nr:Row)(τ:List(Option Nat))(s0:St)(e:Exit)(sf:St):dN:=fun s k=>cond(jF τ s)(gate(Sub(axq keep ji nr τ s)s0)(k e sf))none
theorem Tw {P:Program}{c:Code}{keep:List Nat}{ji:List(Nat × Nat × Nat)}{nr:Row}{τ:List(Option Nat)}{s0 sf:St}{e:Exit}(h:bF P(.loop c)s0 e sf):gI P c(G8 keep ji nr τ s0 e sf):=by
 have h1:=Cw h
 have get:∀{s:St}{k:jZ}{r:Out},G8 keep ji nr τ s0 e sf s k=some r→Sub s s0∧k e sf=some r:=fun {s k r} hr=>by
  unfold G8 at hr
  cases hf:jF τ s
  ·rw[hf]at hr;cases hr
  ·rw[hf]at hr
   simp only[cond_true]at hr
   obtain⟨h2,h3⟩:=gY hr
   exact⟨(ahw hf).trans h2,h3⟩
 have eq:∀{s:St}{k:jZ}{r:Out},G8 keep ji nr τ s0 e sf s k=some r→∀k',G8 keep ji nr τ s0 e sf s k'=k' e sf:=fun {s k r} hr k'=>by
  unfold G8 at hr ⊢
  cases hf:jF τ s
  ·rw[hf]at hr;cases hr
  ·rw[hf]at hr
   simp only[cond_true]at hr ⊢
   rw[ah(gY hr).1]
 have eq1:∀{s:St}{k:jZ}{r:Out},G8 keep ji nr τ s0 e sf s k=some r→∀k',told s0 e sf s k'=k' e sf:=fun {s k r} hr k'=>by
  unfold told
  rw[if_pos(get hr).1]
 constructor
 ·intro s k r hr
  exact⟨e,sf,(get hr).2,eq hr⟩
 ·intro s s' e' hk
  have h0:=hk(fun e s=>some⟨e,s,.any⟩)
  refine h1.2 s s' e' fun k'=>?_
  rw[eq1 h0 k',←eq h0 k']
  exact hk k'
end
end Go.Gv
