/-
  The second evaluator, part Gd.
-/
import Derived.Test.YtefphimaggjihaaGreatDoorC6
import Derived.LoopN
import Derived.Scope
namespace Go.Gv
open Go.RowKit Go.Ev
noncomputable section
def Out.of(v:AV):Out:=⟨.normal,⟨[],[]⟩,v⟩
def Tab.flat(T:Tab):Tab where
 f:=fun f args=>match T.k f with
  |some g=>(g args fun v=>some(Out.of v)).map Out.v
  |none=>T.f f args
 k:=fun _=>none
 m:=T.m
 n:=T.n
 w:=T.w
 r:=T.r
theorem Az.flat {P:Program}{T:Tab}(h:Az P T):Az P T.flat:=by
 refine⟨⟨fun f args r hr=>?_,fun f g hg=>by cases hg⟩,h.2⟩
 simp only[Tab.flat]at hr
 split at hr
 ·rename_i g hg
  cases hx:g args fun v=>some(Out.of v)with
  |none=>rw[hx]at hr;cases hr
  |some x =>
   rw[hx]at hr
   obtain⟨v,h1,h2⟩:=(h.1.2 f g hg).1 args _ x hx
   simp only[Option.some.injEq]at h1
   simp only[Option.map_some,Option.some.injEq]at hr
   subst h1
   rw[show v=r from hr]at h2
   exact(h.1.2 f g hg).2 args r h2
 ·exact h.1.1 f args r hr
def Mh(T:Tab):Prop:=∀f g,T.k f=some g→ajG g
theorem Az.par {P:Program}{T:Tab}(h:Az P T):Mh T:=fun f g hg=>(h.1.2 f g hg).1
def rowsOf:AV→List Nat
 |.own k _=>[k]
 |.pW k _ _ _=>[k]
 |.fJ k _ _ _=>[k]
 |.view k _ _ _ _=>[k]
 |_=>[]
def Sv(s:St)(o:Oper):List Nat:=match o.op with
 |.load _ x=>rowsOf(aG s x)
 |.convert _ _ x=>rowsOf(aG s x)
 |_=>[]
def Po:Chain→Bool
 | []=>true
 | [_]=>true
 |_=>false
def WM(slots:List(AV × Chain)):Chain→Bool→Bool
 | [],b=>b
 |p::_,b=>b&&trp slots p
theorem GU {slots F:List(AV × Chain)}{ops:List Oper}{o:Oper}{c:Chain}{b:Bool}(hc:fV ops slots o=some c)(hs:Po c=true)(hb:WM slots c b=true)(hF:∀t,t∈jY ops o→(F.getD t dflt).1=(slots.getD t dflt).1):b=true∧qx F c=true:=by
 match c,hs with
 | [],_=>exact⟨hb,rfl⟩
 | [p],_ =>
  simp only[WM,Bool.and_eq_true]at hb
  refine⟨hb.1,?_⟩
  have hp:p.1∈jY ops o:=by
   unfold fV at hc
   cases hg:o.guard with
   |none=>rw[hg]at hc;cases hc
   |some gw =>
    obtain⟨j,want⟩:=gw
    rw[hg]at hc
    simp only at hc
    cases hj:ops[j]? with
    |none=>rw[hj]at hc;cases hc
    |some oj =>
     rw[hj]at hc
     simp only at hc
     cases hd:oj.dst with
     |none=>rw[hd]at hc;cases hc
     |some d =>
      rw[hd]at hc
      simp only at hc
      split at hc
      ·simp only[Option.some.injEq,List.cons.injEq]at hc
       rw[←hc.1]
       simp[jY,hg,hj,hd]
      ·cases hc
  unfold qx
  simp only[List.all_cons,List.all_nil,Bool.and_true]
  have h2:=hb.2
  unfold trp at h2 ⊢
  rw[hF _ hp]
  exact h2
def lV(o:Oper)(bg:Eff):Bool:=match o.op with
 |.buildSlice _ _ _=>bg.nw.isNone&&bg.wr.isNone
 |_=>false
theorem Nc {o:Oper}{bg:Eff}(h:lV o bg=true):bg.nw=none∧bg.wr=none:=by
 unfold lV at h
 split at h
 ·simp only[Bool.and_eq_true,Option.isNone_iff_eq_none]at h
  exact h
 ·cases h
def vQ(P:Program)(T:Tab)(ops:List Oper)(s:St)(nk:Nat)(o:Oper):Option(Bool × Chain × Eff) :=
 match um P T ops s o with
 |some(b,c,v)=>some(b,c,⟨v,Sv s o,none,none⟩)
 |none=>match fV ops s.slots o with
  |some c=>cond(Po c&&o.op.operands.toList.all(iB s.slots c))(match WO P T s nk o with
   |some(b,bg)=>cond(lV o bg)(some(b,c,bg))(some(WM s.slots c b,[],bg))
   |none=>none)none
  |none=>none
def Eff.mem(bg:Eff)(mem:List Row):List Row:=(match bg.wr with
 |some(k,row)=>mem.set k row
 |none=>mem)++bg.nw.toList
def zw(s:St)(dst:Option Nat)(c:Chain)(bg:Eff):St:=⟨oC s.slots dst(bg.v,c),bg.mem s.mem⟩
structure Inv(A0 R:Nat→Prop)(w0:Env)(E:Env)(s:St)(a:Act):Prop where
 defers:a.defers=[]
 frame:BD E s.slots s.slots a.tmps
 wd:Wd A0 R w0 E s.mem
theorem Wd.dom {A0 R:Nat→Prop}{w0:Env}{E:Env}{mem:List Row}(h:Wd A0 R w0 E mem):∀k b c,E.O k=some(b,c)→k<mem.length:=fun k b c hb=>by
 obtain⟨row,hr,_⟩:=h.rows k b c hb
 exact(List.getElem?_eq_some_iff.1 hr).1
theorem mI {E E':Env}(h:E.le E') {F s:List(AV × Chain)}{tmps:Array Value}(hf:BD E F s tmps):BD E' F s tmps :=
 ⟨⟨hf.1.1,Iq h hf.1.2⟩,fun t=>⟨fun ht=>mR h((hf.2 t).1 ht),(hf.2 t).2⟩⟩
theorem put_defers(a:Act)(dst:Option Nat)(v:Value):(a.put dst v).defers=a.defers:=by cases dst<;>rfl
section
variable {P:Program}{T:Tab}{A0 R:Nat→Prop}{w0:Env}{E:Env}{s:St}{a:Act}{ops:Array Oper}{o:Oper}{Q:Exit→Act→World→Prop}
theorem uo(h:o.guard.isNone=true):Region.wanted o(yielded ops a.tmps)=true:=by
 unfold Region.wanted
 cases hg:o.guard with
 |none=>rfl
 |some g=>rw[hg]at h;cases h
theorem Cv {bg:Eff}(hdom:∀k b c,E.O k=some(b,c)→k<s.mem.length):jk E s.mem(bg.mem s.mem)s.mem.length bg:=by
 refine⟨fun k _ b c hb=>?_,fun row hr=>?_⟩
 ·have hk:=hdom k b c hb
  unfold Eff.mem
  cases hw:bg.wr with
  |none=>simp only[List.getElem?_append_left hk]
  |some p =>
   obtain⟨k',row⟩:=p
   simp only
   rw[List.getElem?_append_left(by simpa using hk),List.getElem?_set]
   by_cases hkk:k'=k
   ·subst hkk;simp[hk]
   ·rw[if_neg hkk,if_neg(fun e=>hkk e.symm)]
 ·unfold Eff.mem
  rw[hr]
  cases hw:bg.wr with
  |none=>simp
  |some p =>
   obtain⟨k',row'⟩:=p
   simp
theorem JD (hT:Az P T)(hI:Inv A0 R w0 E s a) {b:Bool}{c:Chain}{bg:Eff}(h:vQ P T ops.toList s s.mem.length o=some(b,c,bg))(hd:jQ s.slots c o.dst=true)(hb:qx s.slots c=true→b=true)
    (K:Act→World→Prop)(hK:∀E' a',Inv A0 R w0 E'(zw s o.dst c bg)a'→K a' E'.w):if Region.wanted o(yielded ops a.tmps)then o.wp P a E.w K Q else K(a.put o.dst undef)E.w:=by
  unfold vQ at h
  cases hc:um P T ops.toList s o with
  |some r =>
    obtain⟨b',c',v⟩:=r
    rw[hc]at h
    simp only[Option.some.injEq,Prod.mk.injEq]at h
    obtain⟨rfl,rfl,rfl⟩:=h
    have hmem:(Eff.mem⟨v,Sv s o,none,none⟩s.mem)=s.mem:=by simp[Eff.mem]
    obtain⟨h1,h2⟩:=JE hT.1 hI.frame hI.wd.rows hI.wd.small(fun _ _=>rfl)hc hb
    rw[h1]
    cases ht:qx s.slots c'
    · rw[if_neg(by simp)]
      refine hK E _⟨by rw[put_defers];exact hI.defers,kD hI.frame hd(fun h=>by rw[ht]at h;cases h)(fun _=>rfl),?_⟩
      simp only[zw,hmem];exact hI.wd
    · rw[if_pos rfl]
      refine Pp(h2 ht)fun u w' hu hbl=>?_
      obtain⟨hw1,hw2⟩:=hI.wd.on hbl
      refine hK { E with w:=w' } _⟨by rw[put_defers];exact hI.defers,kD(mI hw2 hI.frame)hd(fun _=>hu)(fun h=>by rw[ht]at h;cases h),?_⟩
      simp only[zw,hmem];exact hw1
  |none =>
    rw[hc]at h
    simp only at h
    cases hch:fV ops.toList s.slots o with
    |none=>rw[hch]at h;cases h
    |some c0 =>
    rw[hch]at h
    simp only at h
    cases hk:(Po c0&&o.op.operands.toList.all(iB s.slots c0))
    · rw[hk]at h;cases h
    · rw[hk]at h
      simp only[cond_true]at h
      simp only[Bool.and_eq_true]at hk
      cases hw:WO P T s s.mem.length o with
      |none=>rw[hw]at h;cases h
      |some r =>
        obtain⟨b',Pq⟩:=r
        rw[hw]at h
        simp only at h
        have hnk:E.O s.mem.length=none:=by
          cases hx:E.O s.mem.length with
          |none=>rfl
          |some p=>exact absurd(hI.wd.dom _ p.1 p.2 hx)(Nat.lt_irrefl _)
        cases hbare:lV o Pq
        case true =>
          rw[hbare]at h
          simp only[cond_true,Option.some.injEq,Prod.mk.injEq]at h
          obtain⟨rfl,rfl,rfl⟩:=h
          obtain⟨hn,hwr⟩:=Nc hbare
          have hmem:Eff.mem Pq s.mem=s.mem:=by unfold Eff.mem;rw[hn,hwr];simp
          rw[jd hI.frame(fun _ _=>rfl)hch]
          cases ht:qx s.slots c0
          · rw[if_neg(by simp)]
            refine hK E _⟨by rw[put_defers];exact hI.defers,kD hI.frame hd(fun h=>by rw[ht]at h;cases h)(fun _=>rfl),?_⟩
            simp only[zw,hmem];exact hI.wd
          · rw[if_pos rfl]
            have hbt:=hb ht
            subst hbt
            have hops:=hk.2
            rw[List.all_eq_true]at hops
            refine JF hT hI.frame.1.2 hI.wd hnk(fun y hy=>iF hI.frame ht y(hops y(by simpa using hy)))hw(Cv hI.wd.dom)fun E' u hle _ hW' hr=>?_
            exact hK E' _⟨by rw[put_defers];exact hI.defers,kD(mI hle hI.frame)hd(fun _=>hr)(fun h=>by rw[ht]at h;cases h),hW'⟩
        case false =>
        rw[hbare]at h
        simp only[cond_false,Option.some.injEq,Prod.mk.injEq]at h
        obtain⟨rfl,rfl,rfl⟩:=h
        obtain⟨hbt,htr⟩:=GU(F:=s.slots)hch hk.1(hb rfl)fun _ _=>rfl
        subst hbt
        rw[if_pos((jd hI.frame(fun _ _=>rfl)hch).trans htr)]
        have hops:=hk.2
        rw[List.all_eq_true]at hops
        refine JF hT hI.frame.1.2 hI.wd hnk(fun y hy=>iF hI.frame htr y(hops y(by simpa using hy)))hw(Cv hI.wd.dom)fun E' u hle _ hW' hr=>?_
        exact hK E' _⟨by rw[put_defers];exact hI.defers,kD(mI hle hI.frame)hd(fun _=>hr)(fun h=>by cases h),hW'⟩
end
end
noncomputable section
abbrev SK:=St→Option Out
abbrev jZ:=Exit→St→Option Out
def WQ (P:Program)(T:Tab)(s:St)(o:Oper):Option((AV→Option Out)→Option Out) :=
  match o.op with
  |.call c=>match c.callee with
    |.builtin _=>none
    |_=>match qM P s c with
      |some(f,args)=>match T.k f with
        |some g=>cond(bZ args)(some(g args))none
        |none=>none
      |none=>none
  |_=>none
def BF(T:Tab)(s:St)(nk:Nat)(o:Oper):Option(Bool × AV × List Row) :=
 match o.op with
 |.call c=>match c.callee with
  |.value(.func f)=>match T.n f with
   |some g=>g(c.args.toList.map(aG s))nk
   |none=>none
  |_=>none
 |_=>none
def Vz(s:St)(o:Oper):Bool:=o.guard.isNone&&(o.op.operands.toList.all(iB s.slots [])&&jQ s.slots []o.dst)
def WR (T:Tab)(s:St)(o:Oper):Option(Bool × ((AV→Option Out)→Option Out)) :=
  match o.op with
  |.call c=>match c.callee with
    |.value(.func f)=>match T.k f with
      |some g=>match T.m f with
        |some _=>none
        |none=>cond(bZ(c.args.toList.map(aG s)))none(some(JG s.mem(c.args.toList.map(aG s)),fun k=>g(JH s.mem(c.args.toList.map(aG s)))fun v=>cond(lC v)(k v)none))
      |none=>none
    |_=>none
  |_=>none
def aes(T:Tab)(s:St)(o:Oper):Option(Bool × AV × List Row) :=
 match o.op with
 |.call c=>match c.callee with
  |.value x=>match aG s x with
   |.fn(.func f) [] []=>match T.w f with
    |some g=>g(c.args.toList.map(aG s))s.mem
    |none=>none
   |_=>none
  |_=>none
 |_=>none
def DN(P:Program)(T:Tab)(ops:List Oper)(s:St)(o:Oper)(k:SK):Option Out :=
 match aes T s o with
 |some(b,v,mem1)=>cond(Vz s o)(cond b(k⟨oC s.slots o.dst(v,[]),mem1⟩)none)none
 |none=>match BF T s s.mem.length o with
 |some(b,v,rows)=>cond(Vz s o)(cond b(k⟨oC s.slots o.dst(v,[]),s.mem++rows⟩)none)none
 |none=>match WR T s o with
 |some(b,g)=>match fV ops s.slots o with
  |some c=>cond(o.op.operands.toList.all(iB s.slots c)&&jQ s.slots c o.dst)(cond b(g fun v=>k { s with slots:=oC s.slots o.dst(v,c) })none)none
  |none=>none
 |none=>match WQ P T s o with
 |some g=>match fV ops s.slots o with
  |some c=>cond(o.op.operands.toList.all(iB s.slots c)&&jQ s.slots c o.dst)(g fun v=>k { s with slots:=oC s.slots o.dst(v,c) })none
  |none=>none
 |none=>match vQ P T.flat ops s s.mem.length o with
  |some(b,c,bg)=>cond(jQ s.slots c o.dst)(cond(b||!qx s.slots c)(k(zw s o.dst c bg))none)none
  |none=>none
def avh:Nat:=2000000
def aeu(P:Program)(T:Tab)(ops:List Oper)(s:St)(o:Oper):Option(Bool × Chain × Eff) :=
 match T.m avh with
 |none=>none
 |some _=>match um P T.flat ops s o with
  |some _=>none
  |none=>match fV ops s.slots o with
   |some(p::ps)=>cond(o.op.operands.toList.all(iB s.slots(p::ps)))(match WO P T.flat s s.mem.length o with
    |some(b,bg)=>some(b,p::ps,bg)
    |none=>none)none
   |_=>none
def Sw(P:Program)(T:Tab)(ops:List Oper)(s:St)(o:Oper)(k:SK):Option Out :=
 match aeu P T ops s o with
 |some(b,c,bg)=>cond(jQ s.slots c o.dst)(cond(qx s.slots c)(cond b(k(zw s o.dst c bg))none)(k⟨oC s.slots o.dst(bg.v,c),s.mem⟩))none
 |none=>DN P T ops s o k
def oF(P:Program)(T:Tab)(ops:List Oper):List Oper→St→SK→Option Out
 | [],s,k=>k s
 |o::rest,s,k=>Sw P T ops s o fun s'=>oF P T ops rest s' k
def aev(P:Program)(T:Tab)(ops:List Oper)(s:St)(o:Oper)(s':St):Prop :=
 (∃v mem1,aes T s o=some(true,v,mem1)∧Vz s o=true∧s'=⟨oC s.slots o.dst(v,[]),mem1⟩) ∨
 (∃v rows,BF T s s.mem.length o=some(true,v,rows)∧Vz s o=true∧s'=⟨oC s.slots o.dst(v,[]),s.mem++rows⟩) ∨
 (∃g c v,WR T s o=some(true,g)∧(∀k',g k'=k' v)∧fV ops s.slots o=some c∧(o.op.operands.toList.all(iB s.slots c)&&jQ s.slots c o.dst)=true∧s'={ s with slots:=oC s.slots o.dst(v,c) })∨∃b c bg,vQ P T.flat ops s s.mem.length o=some(b,c,bg)∧jQ s.slots c o.dst=true∧(qx s.slots c=true→b=true)∧s'=zw s o.dst c bg
def BP(P:Program)(T:Tab)(ops:List Oper)(s:St)(o:Oper)(s':St):Prop :=
 aev P T ops s o s'∨∃b c bg,aeu P T ops s o=some(b,c,bg)∧jQ s.slots c o.dst=true∧((qx s.slots c=true∧b=true∧s'=zw s o.dst c bg)∨(qx s.slots c=false∧s'=⟨oC s.slots o.dst(bg.v,c),s.mem⟩))
def WS(P:Program)(T:Tab)(ops:List Oper):List Oper→St→St→Prop
 | [],s,s'=>s=s'
 |o::rest,s,s'=>∃s1,BP P T ops s o s1∧WS P T ops rest s1 s'
theorem aew {T:Tab}{s:St}{o:Oper}{b:Bool}{g:(AV→Option Out)→Option Out}{k:AV→Option Out}{r:Out}(hT:Mh T)(hL:WR T s o=some(b,g))(h:g k=some r):∃v,k v=some r∧∀k',g k'=k' v:=by
 unfold WR at hL
 split at hL
 ·rename_i c hop
  split at hL
  ·rename_i f BG
   split at hL
   ·rename_i g' hg
    split at hL
    ·cases hL
    ·cases hno:bZ(c.args.toList.map(aG s))
     ·rw[hno]at hL
      simp only[cond_false,Option.some.injEq,Prod.mk.injEq]at hL
      obtain⟨_,rfl⟩:=hL
      obtain⟨v,h1,h2⟩:=hT f g' hg _ _ r h
      cases hp:lC v
      ·rw[hp]at h1;cases h1
      ·rw[hp]at h1
       exact⟨v,h1,fun k'=>(h2 _).trans(by simp only[hp,cond_true])⟩
     ·rw[hno]at hL;cases hL
   ·cases hL
  ·cases hL
 ·cases hL
theorem WT {P:Program}{T:Tab}{ops:List Oper}{s:St}{o:Oper}{k:SK}{r:Out}(hT:Mh T)(h:DN P T ops s o k=some r):∃s',aev P T ops s o s'∧k s'=some r∧∀k',DN P T ops s o k'=k' s':=by
 unfold DN at h
 cases hWW:aes T s o with
 |some q =>
  obtain⟨b,v,mem1⟩:=q
  rw[hWW]at h
  simp only at h
  cases hk:Vz s o
  ·rw[hk]at h;cases h
  ·rw[hk]at h
   simp only[cond_true]at h
   cases b
   ·cases h
   ·simp only[cond_true]at h
    refine⟨_,Or.inl⟨v,mem1,hWW,hk,rfl⟩,h,fun k'=>?_⟩
    unfold DN
    simp only[hWW,hk,cond_true]
 |none =>
 rw[hWW]at h
 simp only at h
 cases hN:BF T s s.mem.length o with
 |some q =>
  obtain⟨b,v,rows⟩:=q
  rw[hN]at h
  simp only at h
  cases hk:Vz s o
  ·rw[hk]at h;cases h
  ·rw[hk]at h
   simp only[cond_true]at h
   cases b
   ·cases h
   ·simp only[cond_true]at h
    refine⟨_,Or.inr(Or.inl⟨v,rows,hN,hk,rfl⟩),h,fun k'=>?_⟩
    unfold DN
    simp only[hWW,hN,hk,cond_true]
 |none =>
 rw[hN]at h
 simp only at h
 cases hL:WR T s o with
 |some q =>
  obtain⟨b,g⟩:=q
  rw[hL]at h
  simp only at h
  cases hch:fV ops s.slots o with
  |none=>rw[hch]at h;cases h
  |some c =>
  rw[hch]at h
  simp only at h
  cases hk:(o.op.operands.toList.all(iB s.slots c)&&jQ s.slots c o.dst)
  ·rw[hk]at h;cases h
  ·rw[hk]at h
   simp only[cond_true]at h
   cases b
   ·cases h
   ·simp only[cond_true]at h
    have hpar:=aew hT hL h
    obtain⟨v,h1,h2⟩:=hpar
    refine⟨_,Or.inr(Or.inr(Or.inl⟨g,c,v,hL,h2,hch,hk,rfl⟩)),h1,fun k'=>?_⟩
    unfold DN
    simp only[hWW,hN,hL,hch,hk,cond_true,h2]
 |none =>
 rw[hL]at h
 simp only at h
 cases hC:WQ P T s o with
 |none =>
  rw[hC]at h
  simp only at h
  cases hd:vQ P T.flat ops s s.mem.length o with
  |none=>rw[hd]at h;cases h
  |some p =>
   obtain⟨b,c,bg⟩:=p
   rw[hd]at h
   simp only at h
   cases hk:jQ s.slots c o.dst
   ·rw[hk]at h;cases h
   ·rw[hk]at h
    simp only[cond_true]at h
    cases hb:(b||!qx s.slots c)
    ·rw[hb]at h;cases h
    ·rw[hb]at h
     simp only[cond_true]at h
     refine⟨_,Or.inr(Or.inr(Or.inr⟨b,c,bg,hd,hk,fun ht=>?_,rfl⟩)),h,fun k'=>?_⟩
     ·rw[ht]at hb;simpa using hb
     ·unfold DN;simp only[hWW,hN,hL,hC,hd,hk,hb,cond_true]
 |some g =>
  rw[hC]at h
  simp only at h
  cases hch:fV ops s.slots o with
  |none=>rw[hch]at h;cases h
  |some c =>
  rw[hch]at h
  simp only at h
  cases hc:(o.op.operands.toList.all(iB s.slots c)&&jQ s.slots c o.dst)
  ·rw[hc]at h;cases h
  ·rw[hc]at h
   simp only[cond_true]at h
   have hC':=hC
   unfold WQ at hC
   split at hC
   ·rename_i cl hop
    split at hC
    ·cases hC
    ·rename_i hnb
     split at hC
     ·rename_i f args BG
      split at hC
      ·rename_i g' hg
       cases hno:bZ args
       ·rw[hno]at hC;cases hC
       ·rw[hno]at hC
        simp only[cond_true,Option.some.injEq]at hC
        subst hC
        obtain⟨v,h1,h2⟩:=hT f g' hg args _ r h
        have hc0:=hc
        simp only[Bool.and_eq_true]at hc
        obtain⟨hops,hdd⟩:=hc
        refine⟨_,Or.inr(Or.inr(Or.inr⟨true,c,⟨v,[],none,none⟩,?_,hdd,fun _=>rfl,rfl⟩)),?_,fun k'=>?_⟩
        ·have hTf:T.flat.f f args=some v:=by
          simp only[Tab.flat,hg]
          rw[h2]
          rfl
         have hval:Mi P T.flat s o=some(true,v):=by
          unfold Mi
          rw[hop]
          simp only
          split
          ·rename_i hbi;exact absurd hbi(hnb _)
          ·rename_i hbi;exact absurd hbi(hnb _)
          ·rename_i hbi;exact absurd hbi(hnb _)
          ·rename_i hbi;exact absurd hbi(hnb _)
          ·rename_i hbi;exact absurd hbi(hnb _)
          ·rename_i hbi;exact absurd hbi(hnb _)
          ·rw[BG];simp only[hno,cond_true,hTf,Option.map_some]
         have aex:um P T.flat ops s o=some(true,c,v):=by
          unfold um
          simp only[hch]
          split
          ·rename_i g x y hop';rw[hop]at hop';cases hop'
          ·rw[hops,hval];rfl
         unfold vQ
         rw[aex]
         simp only[Sv,hop]
        ·simpa[zw,Eff.mem]using h1
        ·unfold DN
         rw[hWW]
         simp only
         rw[hN]
         simp only
         rw[hL]
         simp only
         rw[hC']
         simp only[hch]
         rw[hc0]
         simp only[cond_true]
         rw[h2]
         simp[zw,Eff.mem]
      ·cases hC
     ·cases hC
   ·cases hC
theorem Nf {P:Program}{T:Tab}{ops:List Oper}{s:St}{o:Oper}{k:SK}{r:Out}(hT:Mh T)(h:Sw P T ops s o k=some r):∃s',BP P T ops s o s'∧k s'=some r∧∀k',Sw P T ops s o k'=k' s':=by
 unfold Sw at h
 cases hF:aeu P T ops s o with
 |none =>
  rw[hF]at h
  obtain⟨s',h1,h2,h3⟩:=WT hT h
  exact⟨s',Or.inl h1,h2,fun k'=>by unfold Sw;rw[hF];exact h3 k'⟩
 |some q =>
  obtain⟨b,c,bg⟩:=q
  rw[hF]at h
  simp only at h
  cases hk:jQ s.slots c o.dst
  ·rw[hk]at h;cases h
  ·rw[hk]at h
   simp only[cond_true]at h
   cases ht:qx s.slots c
   ·rw[ht]at h
    simp only[cond_false]at h
    refine⟨_,Or.inr⟨b,c,bg,hF,hk,Or.inr⟨ht,rfl⟩⟩,h,fun k'=>?_⟩
    unfold Sw
    simp only[hF,hk,ht,cond_true,cond_false]
   ·rw[ht]at h
    simp only[cond_true]at h
    cases b
    ·cases h
    ·simp only[cond_true]at h
     refine⟨_,Or.inr⟨true,c,bg,hF,hk,Or.inl⟨ht,rfl,rfl⟩⟩,h,fun k'=>?_⟩
     unfold Sw
     simp only[hF,hk,ht,cond_true]
theorem rQ {P:Program}{T:Tab}{ops:List Oper}{r:Out}(hT:Mh T):∀{l:List Oper}{s:St}{k:SK},oF P T ops l s k=some r→∃s',WS P T ops l s s'∧k s'=some r∧∀k',oF P T ops l s k'=k' s'
 | [],s,k,h=>⟨s,rfl,h,fun _=>rfl⟩
 |o::rest,s,k,h=>by
  simp only[oF]at h
  obtain⟨s1,h1,h2,h3⟩:=Nf hT h
  obtain⟨s2,h4,h5,h6⟩:=rQ hT h2
  exact⟨s2,⟨s1,h1,h4⟩,h5,fun k'=>by simp only[oF];rw[h3];exact h6 k'⟩
section
variable {P:Program}{T:Tab}{A0 R:Nat→Prop}{w0:Env}{ops:Array Oper}{Q:Exit→Act→World→Prop}
theorem Sy(hT:Az P T) {E:Env}{s:St}{mem':List Row}{nk:Nat}{a:Act}{o:Oper}{v:AV}{rows:List Row}(hg:vH E)(hW:Wd A0 R w0 E s.mem)(hnk:∀i,i<rows.length→E.O(nk+i)=none)(hρ:∀y,y∈o.op.operands→rel E(aG s y)(a.eval y))(hN:BF T s nk o=some(true,v,rows))(happ:aoG E s.mem mem' nk rows)
  {K:Act→World→Prop}(hK:∀E' u,E.le E'→(∀k p,E'.O k=some p→E.O k=some p∨(nk≤k∧k<nk+rows.length))→Wd A0 R w0 E' mem'→rel E' v u→K(a.put o.dst u)E'.w):o.wp P a E.w K Q:=by
 unfold BF at hN
 split at hN
 ·rename_i c hop
  split at hN
  ·rename_i f BG
   split at hN
   ·rename_i g hgn
    obtain⟨⟨fn,h1,h2,h3⟩,hs⟩:=hT.2.2.1 f g hgn _ _ _ _ hN
    obtain⟨callee,args,argTypes⟩:=c
    simp only at BG
    subst BG
    have hr:dB E(args.toList.map(aG s))(args.map a.eval).toList:=by
     have:=lS(E:=E)(s:=s)(ρ:=a.eval)(ys:=args.toList)(fun y hy=>hρ y(by rw[hop];simp[Op.operands,Call.operands];exact Or.inr(by simpa using hy)))
     simpa using this
    have hc:=hs A0 R w0 E s.mem mem'(args.map a.eval)hW hnk hg hr happ
    unfold Oper.wp
    have hf:a.eval(.func f)=.func(.func f) #[] #[]:=rfl
    have hrun:(execOp a.eval o).run P E.w=.ok(.enter f(args.map a.eval))E.w:=by
     unfold execOp
     simp only[hop,resolve,hf,Deferred.ofValue,Sem.run_bind,Sem.run_pure,Result.andThen_ok,invoke,callFunc,run_program,h1,h2,h3,Array.append_empty,Array.empty_append,Bool.false_eq_true,if_false]
    rw[hrun]
    exact hc.mono fun e w''⟨u,E',he,hw,hle,hO,hWd,hu⟩=>by
     subst he
     have:=hK E' u hle hO hWd hu
     rw[hw]at this
     exact this
   ·cases hN
  ·cases hN
 ·cases hN
theorem JI(hT:Az P T) {E:Env}{s:St}{a:Act}{o:Oper}{v:AV}{rows:List Row}(hI:Inv A0 R w0 E s a)(hN:BF T s s.mem.length o=some(true,v,rows))(hk:Vz s o=true)(K:Act→World→Prop)(hK:∀E' a',Inv A0 R w0 E'⟨oC s.slots o.dst(v,[]),s.mem++rows⟩a'→K a' E'.w) :
  if Region.wanted o(yielded ops a.tmps)then o.wp P a E.w K Q else K(a.put o.dst undef)E.w:=by
 unfold Vz at hk
 simp only[Bool.and_eq_true]at hk
 obtain⟨hg,hops,hd⟩:=hk
 rw[if_pos(uo hg)]
 rw[List.all_eq_true]at hops
 refine Sy hT hI.frame.1.2 hI.wd(fun i _=>?_)(fun y hy=>iF hI.frame rfl y(hops y(by simpa using hy)))hN(mem':=s.mem++rows)⟨fun k hk b c hb=>?_,fun i row hi=>?_⟩fun E' u hle _ hWd hu=>?_
 ·cases hx:E.O(s.mem.length+i)with
  |none=>rfl
  |some p =>
   have:=hI.wd.dom _ p.1 p.2 hx
   omega
 ·rw[List.getElem?_append_left(hI.wd.dom k b c hb)]
 ·rw[List.getElem?_append_right(by omega),Nat.add_sub_cancel_left]
  exact hi
 ·exact hK E' _⟨by rw[put_defers];exact hI.defers,kD(mI hle hI.frame)hd(fun _=>hu)(fun h=>by cases h),hWd⟩
theorem JJ (hT:Az P T) {E:Env}{s:St}{a:Act}{o:Oper}{v:AV}{mem1:List Row}(hI:Inv A0 R w0 E s a)(hN:aes T s o=some(true,v,mem1))(hk:Vz s o=true)(K:Act→World→Prop)(hK:∀E' a',Inv A0 R w0 E'⟨oC s.slots o.dst(v,[]),mem1⟩a'→K a' E'.w) :
    if Region.wanted o(yielded ops a.tmps)then o.wp P a E.w K Q else K(a.put o.dst undef)E.w:=by
  unfold Vz at hk
  simp only[Bool.and_eq_true]at hk
  obtain⟨hg,hops,hd⟩:=hk
  rw[if_pos(uo hg)]
  rw[List.all_eq_true]at hops
  have hρ:∀y,y∈o.op.operands→rel E(aG s y)(a.eval y):=fun y hy=>iF hI.frame rfl y(hops y(by simpa using hy))
  unfold aes at hN
  split at hN
  · rename_i c hop
    split at hN
    · rename_i x BG
      split at hN
      · rename_i f hfo
        split at hN
        · rename_i g hgn
          obtain⟨⟨fn,h1,h2,h3⟩,hs⟩:=hT.2.2.2.1 f g hgn _ _ _ _ hN
          obtain⟨callee,args,argTypes⟩:=c
          simp only at BG
          subst BG
          have hr:dB E(args.toList.map(aG s))(args.map a.eval).toList:=by
            have:=lS(E:=E)(s:=s)(ρ:=a.eval)(ys:=args.toList)(fun y hy=>hρ y(by rw[hop];simp[Op.operands,Call.operands];exact Or.inr(by simpa using hy)))
            simpa using this
          have hc:=hs A0 R w0 E(args.map a.eval)hI.wd hI.frame.1.2 hr
          unfold Oper.wp
          have hf:a.eval x=.func(.func f) #[] #[]:=by
            have g1:=hρ x(by rw[hop];simp[Op.operands,Call.operands])
            rw[hfo]at g1
            obtain⟨va,vb,e,g2,g3⟩:=WU.1 g1
            have e1:va=#[]:=Array.toList_eq_nil_iff.1(bK.1 g2)
            have e2:vb=#[]:=Array.toList_eq_nil_iff.1(bK.1 g3)
            rw[e,e1,e2]
          have hrun:(execOp a.eval o).run P E.w=.ok(.enter f(args.map a.eval))E.w:=by
            unfold execOp
            simp only[hop,resolve,hf,Deferred.ofValue,Sem.run_bind,Sem.run_pure,Result.andThen_ok,invoke,callFunc,run_program,h1,h2,h3,Array.append_empty,Array.empty_append,Bool.false_eq_true,if_false]
          rw[hrun]
          exact hc.mono fun e w''⟨u,E',he,hw,hle,hWd,hu⟩=>by
            subst he
            have:=hK E' _⟨by rw[put_defers];exact hI.defers,kD(mI hle hI.frame)hd(fun _=>hu)(fun h=>by cases h),hWd⟩
            rw[hw]at this
            exact this
        · cases hN
      · cases hN
    · cases hN
  · cases hN
theorem JK(      hT:Az P T) {E:Env}{s:St}{a:Act}{o:Oper}{g:(AV→Option Out)→Option Out}{c:Chain}{v:AV}(hI:Inv A0 R w0 E s a)(hL:WR T s o=some(true,g))(hv:∀k',g k'=k' v)(hch:fV ops.toList s.slots o=some c)(hk:(o.op.operands.toList.all(iB s.slots c)&&jQ s.slots c o.dst)=true)(K:Act→World→Prop)(hK:∀E' a',Inv A0 R w0 E' { s with slots:=oC s.slots o.dst(v,c) } a'→K a' E'.w) :
  if Region.wanted o(yielded ops a.tmps)then o.wp P a E.w K Q else K(a.put o.dst undef)E.w:=by
 simp only[Bool.and_eq_true]at hk
 obtain⟨hops,hd⟩:=hk
 rw[List.all_eq_true]at hops
 rw[jd hI.frame(fun _ _=>rfl)hch]
 cases ht:qx s.slots c
 ·rw[if_neg(by simp)]
  exact hK E _⟨by rw[put_defers];exact hI.defers,kD hI.frame hd(fun h=>by rw[ht]at h;cases h)(fun _=>rfl),hI.wd⟩
 ·rw[if_pos rfl]
  unfold WR at hL
  split at hL
  ·rename_i cl hop
   obtain⟨callee,args,argTypes⟩:=cl
   split at hL
   ·rename_i f BG
    simp only at BG
    subst BG
    split at hL
    ·rename_i g' hg
     split at hL
     ·cases hL
     ·cases hno:bZ(args.toList.map(aG s))
      ·simp only[hno,cond_false,Option.some.injEq,Prod.mk.injEq]at hL
       obtain⟨avi,rfl⟩:=hL
       have hpv:lC v=true∧∀k',g'(JH s.mem(args.toList.map(aG s)))k'=k' v:=by
        have h0:=hv fun x=>some(Out.of x)
        obtain⟨u,h1,h2⟩:=(hT.1.2 f g' hg).1 _ _ _ h0
        cases hp:lC u
        ·rw[hp]at h1;cases h1
        ·rw[hp]at h1
         simp only[cond_true,Option.some.injEq,Out.of,Out.mk.injEq,true_and]at h1
         subst h1
         exact⟨hp,h2⟩
       obtain⟨hp,hgv⟩:=hpv
       have hr:dB E(args.toList.map(aG s))(args.map a.eval).toList:=by
        have:=lS(E:=E)(s:=s)(ρ:=a.eval)(ys:=args.toList)(fun y hy=>iF hI.frame ht y(hops y(by rw[hop];simp[Op.operands,Call.operands];exact Or.inr(by simpa using hy))))
        simpa using this
       have hr':=FL _ hI.wd.rows avi hr
       have hgl:vH(Env.shut E):=Pt(Iq(E:=E)(E':=⟨E.w,fun _=>False,E.O⟩)⟨fun _ _ _ Mj=>⟨id,Mj⟩,fun _ _ h=>h⟩hI.frame.1.2)_
       have hf:a.eval(.func f)=.func(.func f) #[] #[]:=rfl
       have good:Good P E v((execOp a.eval o).run P E.w):=by
        rcases(hT.1.2 f g' hg).2 _ v hgv with⟨⟨fn,h1,h2,h3⟩,hs⟩ |hs
        ·have hc:=hs(fun _=>False)E.w(args.map a.eval)(fun _ h=>h.elim)hr' hgl
         unfold execOp
         simp only[hop,resolve,hf,Deferred.ofValue,Sem.run_bind,Sem.run_pure,Result.andThen_ok,invoke,callFunc,run_program,h1,h2,h3,Array.append_empty,Array.empty_append,Bool.false_eq_true,if_false]
         exact⟨rfl,hc.mono fun e w'⟨u,g1,g2,g3⟩=>⟨u,g1,FM v hp g2,g3⟩⟩
        ·obtain⟨u,w',h1,h2,h3⟩:=hs(Env.shut E)(args.map a.eval)hr'
         have h1:(callFunc f(args.map a.eval)).run P E.w=.ok(.value u)w':=h1
         unfold execOp
         simp only[hop,resolve,hf,Deferred.ofValue,Sem.run_bind,Sem.run_pure,Result.andThen_ok,invoke,Array.append_empty,Array.empty_append,h1]
         exact⟨FM v hp h3,Sz h2⟩
       refine Pp good fun u w' hu hbl=>?_
       obtain⟨hw1,hw2⟩:=hI.wd.on hbl
       exact hK { E with w:=w' } _⟨by rw[put_defers];exact hI.defers,kD(mI hw2 hI.frame)hd(fun _=>hu)(fun h=>by rw[ht]at h;cases h),hw1⟩
      ·simp only[hno,cond_true]at hL
       cases hL
    ·cases hL
   ·cases hL
  ·cases hL
theorem JL(hT:Az P T) {E:Env}{s s':St}{a:Act}{o:Oper}{b:Bool}{c:Chain}{bg:Eff}(hI:Inv A0 R w0 E s a)(hF:aeu P T ops.toList s o=some(b,c,bg))(hd:jQ s.slots c o.dst=true)
  (hs:(qx s.slots c=true∧b=true∧s'=zw s o.dst c bg)∨(qx s.slots c=false∧s'=⟨oC s.slots o.dst(bg.v,c),s.mem⟩))(K:Act→World→Prop)(hK:∀E' a',Inv A0 R w0 E' s' a'→K a' E'.w) :
  if Region.wanted o(yielded ops a.tmps)then o.wp P a E.w K Q else K(a.put o.dst undef)E.w:=by
 unfold aeu at hF
 split at hF
 ·cases hF
 split at hF
 ·cases hF
 split at hF
 ·rename_i p ps hch
  cases hops:o.op.operands.toList.all(iB s.slots(p::ps))
  ·rw[hops]at hF;cases hF
  rw[hops]at hF
  simp only[cond_true]at hF
  split at hF
  ·rename_i b' Pq hw
   simp only[Option.some.injEq,Prod.mk.injEq]at hF
   obtain⟨rfl,rfl,rfl⟩:=hF
   have hnk:E.O s.mem.length=none:=by
    cases hx:E.O s.mem.length with
    |none=>rfl
    |some p=>exact absurd(hI.wd.dom _ p.1 p.2 hx)(Nat.lt_irrefl _)
   rw[jd hI.frame(fun _ _=>rfl)hch]
   rcases hs with⟨ht,rfl,rfl⟩ | ⟨ht,rfl⟩
   ·rw[if_pos ht]
    rw[List.all_eq_true]at hops
    refine JF hT.flat hI.frame.1.2 hI.wd hnk(fun y hy=>iF hI.frame ht y(hops y(by simpa using hy)))hw(Cv hI.wd.dom)fun E' u hle _ hW' hr=>?_
    exact hK E' _⟨by rw[put_defers];exact hI.defers,kD(mI hle hI.frame)hd(fun _=>hr)(fun h=>by rw[ht]at h;cases h),hW'⟩
   ·rw[if_neg(by rw[ht];simp)]
    exact hK E _⟨by rw[put_defers];exact hI.defers,kD hI.frame hd(fun h=>by rw[ht]at h;cases h)(fun _=>rfl),hI.wd⟩
  ·cases hF
 ·cases hF
theorem oV(hT:Az P T):∀(l:List Oper) {E:Env}{s s':St}{a:Act},Inv A0 R w0 E s a→WS P T ops.toList l s s'→(∀E' a',Inv A0 R w0 E' s' a'→Q .normal a' E'.w)→wpList P ops Q l a E.w
 | [],E,s,s',a,hI,h,hQ=>by
  have e:s=s':=h
  subst e
  exact hQ E a hI
 |o::rest,E,s,s',a,hI,h,hQ=>by
  obtain⟨s1,hs,h4⟩:=h
  rcases hs with(⟨v,mem1,h1,h2,rfl⟩ | ⟨v,rows,h1,h2,rfl⟩ | ⟨g,c,v,h1,h2,h3,h5,rfl⟩ | ⟨b,c,bg,h1,h2,h3,rfl⟩) | ⟨b,c,bg,h1,h2,h3⟩
  ·exact wpList_step fun K hK=>JJ hT hI h1 h2 K fun E' a' hI'=>hK _ _(oV hT rest hI' h4 hQ)
  ·exact wpList_step fun K hK=>JI hT hI h1 h2 K fun E' a' hI'=>hK _ _(oV hT rest hI' h4 hQ)
  ·exact wpList_step fun K hK=>JK hT hI h1 h2 h3 h5 K fun E' a' hI'=>hK _ _(oV hT rest hI' h4 hQ)
  ·exact wpList_step fun K hK=>JD hT.flat hI h1 h2 h3 K fun E' a' hI'=>hK _ _(oV hT rest hI' h4 hQ)
  ·exact wpList_step fun K hK=>JL hT hI h1 h2 h3 K fun E' a' hI'=>hK _ _(oV hT rest hI' h4 hQ)
end
def JM(slots:List(AV × Chain)):List(AV × Chain):=slots.map fun q=>(match q.2 with | []=>q.1 |_::_=>.any,[])
def HV(s:St):St:={ s with slots:=JM s.slots }
theorem JN {E:Env}{F s:List(AV × Chain)}{tmps:Array Value}(h:BD E F s tmps)(F':List(AV × Chain)):BD E F'(JM s)tmps:=by
 refine⟨⟨by rw[h.1.1];simp[JM],h.1.2⟩,fun t=>?_⟩
 have hs:(JM s).getD t dflt=(match(s.getD t dflt).2 with | []=>(s.getD t dflt).1 |_::_=>.any,[]):=by
  simp only[JM,List.getD_eq_getElem?_getD,List.getElem?_map]
  cases s[t]? with
  |none=>rfl
  |some q=>rfl
 rw[hs]
 refine⟨fun _=>?_,fun h'=>by cases h'⟩
 simp only
 cases hc:(s.getD t dflt).2 with
 |nil=>exact(h.2 t).1(by rw[hc];rfl)
 |cons p c=>exact lQ
theorem Inv.clear {A0 R:Nat→Prop}{w0:Env}{E:Env}{s:St}{a:Act}(hI:Inv A0 R w0 E s a):Inv A0 R w0 E(HV s)a:=⟨hI.defers,JN hI.frame _,hI.wd⟩
def jA:Code→Option Nat
 |.region id _ _=>some id
 |.seq x y=>match jA x with
  |some i=>some i
  |none=>jA y
 |.block _ c=>jA c
 |.loop c=>jA c
 |.scope c=>jA c
 |.cond _ x y=>match jA x with
  |some i=>some i
  |none=>jA y
 |_=>none
def bC:Code→List Code
 |.seq x y=>bC x++bC y
 |.block _ c=>bC c
 |.loop c=>c::bC c
 |.scope c=>bC c
 |.cond _ x y=>bC x++bC y
 |_=>[]
abbrev dN:=St→jZ→Option Out
def rounds(body:St→jZ→Option Out)(k:jZ):Nat→St→Option Out
 | 0,_=>none
 |n+1,s=>body s fun e s'=>match e with
  |.normal=>rounds body k n s'
  |e=>k e s'
def gT(P:Program)(T:Tab)(D:List Oper→St→SK→Option Out)(L:Nat→Option dN)(N:Nat):Code→St→jZ→Option Out
 |.skip,s,k=>k .normal s
 |.region _ ops draw,s,k=>cond draw(D ops.toList s fun s'=>k .normal(HV s'))(oF P T ops.toList ops.toList s fun s'=>k .normal(HV s'))
 |.seq x y,s,k=>gT P T D L N x s fun e s'=>match e with
  |.normal=>gT P T D L N y s' k
  |e=>k e s'
 |.cond c x y,s,k=>cond(iB s.slots []c)(match aG s c with
  |.x(.bool b)=>cond b(gT P T D L N x s k)(gT P T D L N y s k)
  |_=>none)none
 |.block id c,s,k=>gT P T D L N c s fun e s'=>match e with
  |.exit id'=>cond(id'==id)(k .normal s')(k(.exit id')s')
  |e=>k e s'
 |.loop c,s,k=>match jA c with
  |some i=>match L i with
   |some g=>g s k
   |none=>rounds(fun s k=>gT P T D L N c s k)k N s
  |none=>none
 |.exit id,s,k=>k(.exit id)s
 |.scope c,s,k=>gT P T D L N c s fun e s'=>match e with
  |.goto _=>none
  |e=>k e s'
 |.label _,s,k=>k .normal s
 |.ret,s,k=>k .ret s
 |_,_,_=>none
def avj(D:List Oper→St→SK→Option Out):Prop:=∀ops s k r,D ops s k=some r→∃s',k s'=some r∧∀k',D ops s k'=k' s'
def DOk(P:Program)(D:List Oper→St→SK→Option Out):Prop:=avj D ∧
 ∀(A0 R:Nat→Prop)(w0:Env)(E:Env)(s s':St)(a:Act)(id:Nat)(ops:Array Oper)(Q:Exit→Act→World→Prop),Inv A0 R w0 E s a→(∀k',D ops.toList s k'=k' s') →
  (∀E' a',Inv A0 R w0 E'(HV s')a'→Q .normal a' E'.w)→(Code.region id ops true).wp P Q a E.w
def aAV(g:dN):Prop:=∀s k r,g s k=some r→∃e s',k e s'=some r∧∀k',g s k'=k' e s'
def JO(np:Nat)(A0 R:Nat→Prop)(w0:Env):Prop:=(∀k,np≤k→w0.O k=none)∧(∀b,R b→∃k c,k<np∧w0.O k=some(b,c))∧∀b,A0 b→b<w0.w.heap.size
def DR(np:Nat)(P:Program)(c:Code)(g:dN):Prop:=aAV g ∧
 ∀(s s':St)(e:Exit),(∀k',g s k'=k' e s')→∀(A0 R:Nat→Prop)(w0:Env)(E:Env)(a:Act),JO np A0 R w0→Inv A0 R w0 E s a→(Code.loop c).wp P(fun e' a' w'=>e'=e∧∃E',E'.w=w'∧Inv A0 R w0 E' s' a')a E.w
def ny(np:Nat)(P:Program)(L:Nat→Option dN)(c:Code):Prop:=∀c',c'∈bC c→∀i g,jA c'=some i→L i=some g→DR np P c' g
abbrev gI(P:Program)(c:Code)(g:dN):Prop:=DR 0 P c g
abbrev yS(P:Program)(L:Nat→Option dN)(c:Code):Prop:=ny 0 P L c
section
variable {P:Program}{T:Tab}{D:List Oper→St→SK→Option Out}{L:Nat→Option dN}{A0 R:Nat→Prop}{w0:Env}
def Post(A0 R:Nat→Prop)(w0:Env)(k:jZ)(r:Out):Exit→Act→World→Prop :=
 fun e a' w'=>∃E' s',E'.w=w'∧Inv A0 R w0 E' s' a'∧k e s'=some r
theorem DT {np:Nat}(hp0:JO np A0 R w0)(hT:Az P T)(hD:DOk P D)(N:Nat)(c:Code):ny np P L c→∀{E:Env}{s:St}{k:jZ}{r:Out}{a:Act},Inv A0 R w0 E s a→gT P T D L N c s k=some r→c.wp P(Post A0 R w0 k r)a E.w:=by
 induction c with
 |skip=>intro _ E s k r a hI h;exact wp_skip⟨E,s,rfl,hI,h⟩
 |label l=>intro _ E s k r a hI h;exact wp_label⟨E,s,rfl,hI,h⟩
 |ret=>intro _ E s k r a hI h;exact wp_ret⟨E,s,rfl,hI,h⟩
 |exit id=>intro _ E s k r a hI h;exact wp_exit⟨E,s,rfl,hI,h⟩
 |goto l=>intro _ E s k r a hI h;simp[gT]at h
 |refuse y=>intro _ E s k r a hI h;simp[gT]at h
 |rangeFunc f ps x y Z7 ihy=>intro _ E s k r a hI h;simp[gT]at h
 |region id ops draw =>
  intro _ E s k r a hI h
  simp only[gT]at h
  cases draw with
  |true =>
   simp only[cond_true]at h
   obtain⟨s1,h1,h2⟩:=hD.1 _ _ _ _ h
   exact hD.2 A0 R w0 E s s1 a id ops _ hI h2 fun E' a' hI'=>⟨E',_,rfl,hI',h1⟩
  |false =>
   simp only[cond_false]at h
   obtain⟨s1,h1,h2,_⟩:=rQ hT.par h
   exact wp_region_list(oV hT ops.toList hI h1 fun E' a' hI'=>⟨E',_,rfl,hI'.clear,h2⟩)
 |seq x y Z7 ihy =>
  intro hL E s k r a hI h
  simp only[gT]at h
  have hLx:ny np P L x:=fun c' hc'=>hL c'(by simp[bC,hc'])
  have hLy:ny np P L y:=fun c' hc'=>hL c'(by simp[bC,hc'])
  refine wp_seq(Go.Code.wp_mono ?_(Z7 hLx hI h))
  rintro e a' w'⟨E',s',rfl,hI',he⟩
  cases e<;>simp only[Exit.then]at he ⊢
  case normal=>exact ihy hLy hI' he
  all_goals exact⟨E',s',rfl,hI',he⟩
 |cond c x y Z7 ihy =>
  intro hL E s k r a hI h
  simp only[gT]at h
  have hLx:ny np P L x:=fun c' hc'=>hL c'(by simp[bC,hc'])
  have hLy:ny np P L y:=fun c' hc'=>hL c'(by simp[bC,hc'])
  cases ho:iB s.slots []c
  ·rw[ho]at h;cases h
  ·rw[ho]at h
   simp only[cond_true]at h
   split at h
   ·rename_i b hb
    have hv:=iF hI.frame(c:=[])rfl c ho
    rw[hb]at hv
    refine wp_cond(t:=b)(DU hv) ?_
    cases b
    ·exact ihy hLy hI h
    ·exact Z7 hLx hI h
   ·cases h
 |block id c ih =>
  intro hL E s k r a hI h
  simp only[gT]at h
  refine wp_block(Go.Code.wp_mono ?_(ih(fun c' hc'=>hL c'(by simpa[bC]using hc'))hI h))
  rintro e a' w'⟨E',s',rfl,hI',he⟩
  cases e<;>simp only[Exit.inBlock]at he ⊢
  case exit id' =>
   by_cases hid:id'=id
   ·rw[if_pos hid]
    have:(id'==id)=true:=by simpa using hid
    rw[this]at he
    exact⟨E',s',rfl,hI',he⟩
   ·rw[if_neg hid]
    have:(id'==id)=false:=by simpa using hid
    rw[this]at he
    exact⟨E',s',rfl,hI',he⟩
  all_goals exact⟨E',s',rfl,hI',he⟩
 |loop c ih =>
  intro hL E s k r a hI h
  simp only[gT]at h
  split at h
  ·rename_i i hi
   split at h
   ·rename_i g hg
    obtain⟨hp,hs⟩:=hL c(by simp[bC])i g hi hg
    obtain⟨e,s',h1,h2⟩:=hp s k r h
    refine Go.Code.wp_mono ?_(hs s s' e h2 A0 R w0 E a hp0 hI)
    rintro e' a' w'⟨rfl,E',hw,hI'⟩
    exact⟨E',s',hw,hI',h1⟩
   ·refine wp_loop_rounds N ?_
    have hLc:ny np P L c:=fun c' hc'=>hL c'(by simp[bC,hc'])
    have key:∀(n:Nat) {E:Env}{s:St}{a:Act},Inv A0 R w0 E s a→rounds(fun s k=>gT P T D L N c s k)k n s=some r→Code.rounds P c(Post A0 R w0 k r)n a E.w:=by
     intro n
     induction n with
     |zero=>intro E s a hI h;simp[rounds]at h
     |succ n ihn =>
      intro E s a hI h
      simp only[rounds]at h
      rw[rounds_succ]
      refine Go.Code.wp_mono ?_(ih hLc hI h)
      rintro e a' w'⟨E',s',rfl,hI',he⟩
      cases e<;>simp only[Exit.then]at he ⊢
      case normal=>exact ihn hI' he
      all_goals exact⟨E',s',rfl,hI',he⟩
    exact key N hI h
  ·cases h
 |scope c ih =>
  intro hL E s k r a hI h
  simp only[gT]at h
  refine wp_scope_straight(Go.Code.wp_mono ?_(ih(fun c' hc'=>hL c'(by simpa[bC]using hc'))hI h))
  rintro e a' w'⟨E',s',rfl,hI',he⟩
  cases e<;>simp only[Exit.noGoto]at he ⊢
  case goto l=>cases he
  all_goals exact⟨E',s',rfl,hI',he⟩
end
theorem JQ {body:St→jZ→Option Out}(hb:∀s k r,body s k=some r→∃e s',k e s'=some r∧∀k',body s k'=k' e s'):∀(n:Nat)(s:St)(k:jZ)(r:Out),rounds body k n s=some r→∃e s',k e s'=some r∧∀k',rounds body k' n s=k' e s'
 | 0,s,k,r,h=>by simp[rounds]at h
 |n+1,s,k,r,h=>by
  simp only[rounds]at h
  obtain⟨e,s1,h1,h2⟩:=hb _ _ _ h
  by_cases he:e=.normal
  ·subst he
   simp only at h1
   obtain⟨e2,s2,h3,h4⟩:=JQ hb n s1 k r h1
   exact⟨e2,s2,h3,fun k'=>by simp only[rounds];rw[h2];exact h4 k'⟩
  ·refine⟨e,s1,?_,fun k'=>?_⟩
   ·cases e<;>first |exact absurd rfl he |exact h1
   ·simp only[rounds];rw[h2];cases e<;>first |exact absurd rfl he |rfl
theorem abM {np:Nat}{P:Program}{T:Tab}{D:List Oper→St→SK→Option Out}{L:Nat→Option dN}(hT:Mh T)(hD:avj D)(N:Nat)(c:Code):ny np P L c→∀(s:St)(k:jZ)(r:Out),gT P T D L N c s k=some r→∃e s',k e s'=some r∧∀k',gT P T D L N c s k'=k' e s':=by
 induction c with
 |skip=>intro _ s k r h;exact⟨_,_,h,fun _=>rfl⟩
 |label l=>intro _ s k r h;exact⟨_,_,h,fun _=>rfl⟩
 |ret=>intro _ s k r h;exact⟨_,_,h,fun _=>rfl⟩
 |exit id=>intro _ s k r h;exact⟨_,_,h,fun _=>rfl⟩
 |goto l=>intro _ s k r h;simp[gT]at h
 |refuse y=>intro _ s k r h;simp[gT]at h
 |rangeFunc f ps x y Z7 ihy=>intro _ s k r h;simp[gT]at h
 |region id ops draw =>
  intro _ s k r h
  simp only[gT]at h ⊢
  cases draw with
  |true =>
   simp only[cond_true]at h ⊢
   obtain⟨s1,h1,h2⟩:=hD _ _ _ _ h
   exact⟨_,_,h1,fun k'=>h2 _⟩
  |false =>
   simp only[cond_false]at h ⊢
   obtain⟨s1,_,h2,h3⟩:=rQ hT h
   exact⟨_,_,h2,fun k'=>h3 _⟩
 |seq x y Z7 ihy =>
  intro hL s k r h
  simp only[gT]at h ⊢
  obtain⟨e,s1,h1,h2⟩:=Z7(fun c' hc'=>hL c'(by simp[bC,hc']))_ _ _ h
  by_cases he:e=.normal
  ·subst he
   simp only at h1
   obtain⟨e2,s2,h3,h4⟩:=ihy(fun c' hc'=>hL c'(by simp[bC,hc']))_ _ _ h1
   exact⟨e2,s2,h3,fun k'=>by rw[h2];exact h4 k'⟩
  ·refine⟨e,s1,?_,fun k'=>?_⟩
   ·cases e<;>first |exact absurd rfl he |exact h1
   ·rw[h2];cases e<;>first |exact absurd rfl he |rfl
 |cond c x y Z7 ihy =>
  intro hL s k r h
  simp only[gT]at h ⊢
  cases ho:iB s.slots []c
  ·rw[ho]at h;cases h
  ·rw[ho]at h
   simp only[cond_true]at h ⊢
   split at h
   ·rename_i b hb
    cases b
    ·obtain⟨e,s1,h1,h2⟩:=ihy(fun c' hc'=>hL c'(by simp[bC,hc']))_ _ _ h;exact⟨e,s1,h1,h2⟩
    ·obtain⟨e,s1,h1,h2⟩:=Z7(fun c' hc'=>hL c'(by simp[bC,hc']))_ _ _ h;exact⟨e,s1,h1,h2⟩
   ·cases h
 |block id c ih =>
  intro hL s k r h
  simp only[gT]at h ⊢
  obtain⟨e,s1,h1,h2⟩:=ih(fun c' hc'=>hL c'(by simpa[bC]using hc'))_ _ _ h
  by_cases he:e=.exit id
  ·subst he
   simp only[BEq.rfl,cond_true]at h1
   exact⟨_,_,h1,fun k'=>by rw[h2];simp⟩
  ·refine⟨e,s1,?_,fun k'=>?_⟩
   ·cases e<;>first |exact h1 |skip
    rename_i id'
    have:(id'==id)=false:=by
     cases hh:id'==id
     ·rfl
     ·exact absurd(by rw[eq_of_beq hh])he
    simp only[this,cond_false]at h1
    exact h1
   ·rw[h2]
    cases e<;>first |rfl |skip
    rename_i id'
    have:(id'==id)=false:=by
     cases hh:id'==id
     ·rfl
     ·exact absurd(by rw[eq_of_beq hh])he
    simp only[this,cond_false]
 |loop c ih =>
  intro hL s k r h
  simp only[gT]at h ⊢
  split at h
  ·rename_i i hi
   split at h
   ·rename_i g hg
    exact(hL c(by simp[bC])i g hi hg).1 s k r h
   ·exact JQ(body:=fun s k=>gT P T D L N c s k)(ih fun c' hc'=>hL c'(by simp[bC,hc']))N s k r h
  ·cases h
 |scope c ih =>
  intro hL s k r h
  simp only[gT]at h ⊢
  obtain⟨e,s1,h1,h2⟩:=ih(fun c' hc'=>hL c'(by simpa[bC]using hc'))_ _ _ h
  refine⟨e,s1,?_,fun k'=>?_⟩
  ·cases e<;>first |exact h1 |cases h1
  ·rw[h2];cases e<;>first |rfl |cases h1
end
noncomputable section
mutual
def jw(σ:Nat→Option Nat):AV→AV
 |.own k off=>match σ k with
  |some k'=>.own k' off
  |none=>.any
 |.pW k sz i sub=>match σ k with
  |some k'=>.pW k' sz i sub
  |none=>.any
 |.fJ k sz st len=>match σ k with
  |some k'=>.fJ k' sz st len
  |none=>.any
 |.view k sz st sub n=>match σ k with
  |some k'=>.view k' sz st sub n
  |none=>.any
 |.agg l=>.agg(gP σ l)
 |.aN l=>.aN(gP σ l)
 |.tH t x=>.tH t(jw σ x)
 |.fn g a b=>.fn g(gP σ a)(gP σ b)
 |.x v=>.x v
 |.f w=>.f w
 |.cx a b=>.cx a b
 |.ref l o=>.ref l o
 |.sl sz n el=>.sl sz n el
 |.any=>.any
def gP(σ:Nat→Option Nat):List AV→List AV
 | []=>[]
 |x::xs=>jw σ x::gP σ xs
end
mutual
theorem vR:∀(x:AV) {σ:Nat→Option Nat}{E:Env}{O':Nat→Option(Nat × Nat × Nat)}(_:∀k k' p,σ k=some k'→E.O k=some p→O' k'=some p)(u:Value),bN x E u→bN(jw σ x) { E with O:=O' } u
 |.x v,σ,E,O',_,u,hr=>by rw[jw];unfold bN at *;exact hr
 |.f a,σ,E,O',_,u,hr=>by rw[jw];unfold bN at *;exact hr
 |.cx a c,σ,E,O',_,u,hr=>by rw[jw];unfold bN at *;exact hr
 |.agg l,σ,E,O',h,u,hr=>by
  rw[jw]
  unfold bN at *
  obtain⟨vs,h1,h2⟩:=hr
  exact⟨vs,h1,oW l h _ h2⟩
 |.aN l,σ,E,O',h,u,hr=>by
  rw[jw]
  unfold bN at *
  obtain⟨vs,h1,h2⟩:=hr
  exact⟨vs,h1,oW l h _ h2⟩
 |.own k off,σ,E,O',h,u,hr=>by
  rw[jw]
  split
  ·rename_i k' hk
   unfold bN at *
   obtain⟨b,c,h1,h2⟩:=hr
   exact⟨b,c,h k k' _ hk h1,h2⟩
  ·exact bV
 |.pW k sz i sub,σ,E,O',h,u,hr=>by
  rw[jw]
  split
  ·rename_i k' hk
   unfold bN at *
   obtain⟨b,c,h1,h2⟩:=hr
   exact⟨b,c,h k k' _ hk h1,h2⟩
  ·exact bV
 |.view k sz st sub n,σ,E,O',h,u,hr=>by
  rw[jw]
  split
  ·rename_i k' hk
   unfold bN at *
   obtain⟨a,c,h1,h2,h3⟩:=hr
   refine⟨a,c,h1,h2,?_⟩
   rcases h3 with h3 | ⟨b,c',h4,h5⟩
   ·exact Or.inl h3
   ·exact Or.inr⟨b,c',h k k' _ hk h4,h5⟩
  ·exact bV
 |.fJ k sz st len,σ,E,O',h,u,hr=>by
  rw[jw]
  split
  ·rename_i k' hk
   unfold bN at *
   rcases hr with hr | ⟨b,c,n,h1,h2⟩
   ·exact Or.inl hr
   ·exact Or.inr⟨b,c,n,h k k' _ hk h1,h2⟩
  ·exact bV
 |.ref l off,σ,E,O',h,u,hr=>by rw[jw];unfold bN at *;exact hr
 |.sl sz n el,σ,E,O',h,u,hr=>by rw[jw];unfold bN at *;exact hr
 |.tH t x,σ,E,O',h,u,hr=>by
  rw[jw]
  unfold bN at *
  obtain⟨y,h1,h2⟩:=hr
  exact⟨y,h1,vR x h y h2⟩
 |.fn g a b,σ,E,O',h,u,hr=>by
  rw[jw]
  unfold bN at *
  obtain⟨va,vb,h1,h2,h3⟩:=hr
  exact⟨va,vb,h1,oW a h _ h2,oW b h _ h3⟩
 |.any,σ,E,O',_,_,_=>by rw[jw];exact bV
theorem oW:∀(xs:List AV) {σ:Nat→Option Nat}{E:Env}{O':Nat→Option(Nat × Nat × Nat)}(_:∀k k' p,σ k=some k'→E.O k=some p→O' k'=some p)(us:List Value),gU xs E us→gU(gP σ xs) { E with O:=O' } us
 | [],σ,E,O',_,us,hr=>by rw[gP];cases us<;>(unfold gU at *;exact hr)
 |x::xs,σ,E,O',h,u::us,hr=>by
  rw[gP]
  unfold gU at *
  exact⟨vR x h u hr.1,oW xs h us hr.2⟩
 |x::xs,σ,E,O',h,[],hr=>by unfold gU at hr;exact hr.elim
end
def Ng(σ:Nat→Option Nat)(x x':AV):Prop:=x'=.any∨x'=jw σ x∨(x=.x(.slice none 0 0)∧∃k sz,x'=.fJ k sz 0 0)
theorem Ng.rel {σ:Nat→Option Nat}{x x':AV}(h:Ng σ x x') {E:Env}{O':Nat→Option(Nat × Nat × Nat)}(hO:∀k k' p,σ k=some k'→E.O k=some p→O' k'=some p) {u:Value}(hr:rel E x u):rel { E with O:=O' } x' u:=by
 rcases h with rfl |rfl | ⟨rfl,k,sz,rfl⟩
 ·exact lQ
 ·exact vR x hO u hr
 ·exact fM.2(Or.inl⟨rfl,rfl,bI.1 hr⟩)
def GV(σ:Nat→Option Nat):List(AV × Chain)→List(AV × Chain)→Prop
 | [],[]=>True
 |x::xs,y::ys=>(y.2=[]∧(y.1=.any∨(x.2=[]∧Ng σ x.1 y.1)))∧GV σ xs ys
 |_,_=>False
def uq(σ:Nat→Option Nat):List AV→List AV→Prop
 |_,[]=>True
 |x::xs,y::ys=>Ng σ x y∧uq σ xs ys
 | [],_::_=>False
def FN(σ:Nat→Option Nat)(row row':Row):Prop :=
 row'=.dead∨(∃l l',row=.c l∧row'=.c l'∧uq σ l l')∨(∃e sz n el tJ,row=.a e sz n el∧row'=.a e sz n tJ∧∀i,i<n→tJ i=el i)∨(∃e l l',row=.t e l∧row'=.t e l'∧uq σ l l'∧l'.length=l.length)∨(∃s p e,row=.i s p e∧row'=.i s p e)
def jR(τ:List(Option Nat))(k:Nat):Option Nat:=τ.findIdx?(·==some k)
def pq(τ:List(Option Nat))(mem:List Row):List(Option Nat)→List Row→Prop
 | [],[]=>True
 |o::os,row'::rows=>(match o with
  |some k=>∃row,mem[k]?=some row∧FN(jR τ)row row'
  |none=>True)∧pq τ mem os rows
 |_,_=>False
def iV(np:Nat)(s s':St):Prop:=∀(A0 R:Nat→Prop)(w0:Env)(E:Env)(a:Act),JO np A0 R w0→Inv A0 R w0 E s a→∃E',E'.w=E.w∧Inv A0 R w0 E' s' a
abbrev Sub(s s':St):Prop:=iV 0 s s'
theorem iV.refl {np:Nat}(s:St):iV np s s:=fun _ _ _ E _ _ h=>⟨E,rfl,h⟩
theorem Sub.refl(s:St):Sub s s:=iV.refl s
theorem iV.trans {np:Nat}{s s' s'':St}(h:iV np s s')(g:iV np s' s''):iV np s s'':=fun A0 R w0 E a hp hI=>by
 obtain⟨E1,e1,h1⟩:=h A0 R w0 E a hp hI
 obtain⟨E2,e2,h2⟩:=g A0 R w0 E1 a hp h1
 exact⟨E2,e2.trans e1,h2⟩
theorem JR {τ:List(Option Nat)}{k k':Nat}(h:jR τ k=some k'):τ[k']?=some(some k):=by
 unfold jR at h
 rw[List.findIdx?_eq_some_iff_getElem]at h
 obtain⟨h1,h2,_⟩:=h
 rw[List.getElem?_eq_getElem h1]
 simpa using h2
theorem GV.get {σ:Nat→Option Nat}:∀{xs ys:List(AV × Chain)},GV σ xs ys→xs.length=ys.length∧∀t,(ys.getD t dflt).2=[]∧((ys.getD t dflt).1=.any∨((xs.getD t dflt).2=[]∧Ng σ(xs.getD t dflt).1(ys.getD t dflt).1))
 | [],[],_=>⟨rfl,fun t=>⟨rfl,Or.inr⟨rfl,Or.inr(Or.inl rfl)⟩⟩⟩
 |x::xs,y::ys,h=>by
  obtain⟨h1,h2⟩:=GV.get h.2
  refine⟨by simp[h1],fun t=>?_⟩
  cases t with
  |zero=>exact h.1
  |succ t=>simpa using h2 t
 | [],_::_,h=>h.elim
 |_::_,[],h=>h.elim
theorem uq.pre {σ:Nat→Option Nat}{E:Env}{O':Nat→Option(Nat × Nat × Nat)}(hO:∀k k' p,σ k=some k'→E.O k=some p→O' k'=some p):∀{l l':List AV}{us:List Value},uq σ l l'→pre E l us→pre { E with O:=O' } l' us
 |_,[],_,_,_=>pre_nil
 |x::xs,y::ys,us,h,hp=>by
  obtain⟨u,us',rfl,h1,h2⟩:=bE.1 hp
  exact bE.2⟨u,us',rfl,h.1.rel hO h1,uq.pre hO h.2 h2⟩
 | [],_::_,_,h,_=>h.elim
theorem FN.rel {σ:Nat→Option Nat}{row row':Row}(h:FN σ row row') {E:Env}{O':Nat→Option(Nat × Nat × Nat)}(hO:∀k k' p,σ k=some k'→E.O k=some p→O' k'=some p) {b:Nat}{c:Nat × Nat}(hr:rU E b c row):rU { E with O:=O' } b c row':=by
 rcases h with rfl | ⟨l,l',rfl,rfl,h⟩ | ⟨e,sz,n,el,tJ,rfl,rfl,h⟩ | ⟨e,l,l',rfl,rfl,h,hl⟩ | ⟨s,p,e,rfl,rfl⟩
 ·trivial
 ·obtain⟨cs,e,h1,h2⟩:=hr
  exact⟨cs,e,h1,h.pre hO h2⟩
 ·obtain⟨cs,h1,h2,h3,h4,h5,h6⟩:=hr
  exact⟨cs,h1,h2,h3,h4,h5,fun i hi=>by rw[h i hi];exact h6 i hi⟩
 ·obtain⟨cs,h1,h2,h3⟩:=hr
  exact⟨cs,h1,h.pre hO h2,by rw[hl];exact h3⟩
 ·exact hr
theorem FN.live {σ:Nat→Option Nat}{row row':Row}(h:FN σ row row')(hl:row'.live=true):row.live=true:=by
 rcases h with rfl | ⟨l,l',rfl,rfl,h⟩ | ⟨e,sz,n,el,tJ,rfl,rfl,h⟩ | ⟨e,l,l',rfl,rfl,h,_⟩ | ⟨s,p,e,rfl,rfl⟩
 ·cases hl
 ·rfl
 ·rfl
 ·rfl
 ·rfl
theorem pq.get {τ:List(Option Nat)}{mem:List Row}:∀{os:List(Option Nat)}{rows:List Row},pq τ mem os rows→∀(k' k:Nat),os[k']?=some(some k)→∃row row',mem[k]?=some row∧rows[k']?=some row'∧FN(jR τ)row row'
 | [],[],_,k',k,h=>by simp at h
 |o::os,row'::rows,h,k',k,hk=>by
  cases k' with
  |zero =>
   simp at hk
   subst hk
   obtain⟨row,h1,h2⟩:=h.1
   exact⟨row,row',h1,rfl,h2⟩
  |succ k'=>simpa using pq.get h.2 k' k(by simpa using hk)
 | [],_::_,h,_,_,_=>h.elim
 |_::_,[],h,_,_,_=>h.elim
def distinct:List(Option Nat)→Bool
 | []=>true
 |none::os=>distinct os
 |some k::os=>!(os.contains(some k))&&distinct os
theorem qN:∀{os:List(Option Nat)},distinct os=true→∀(i j k:Nat),os[i]?=some(some k)→os[j]?=some(some k)→i=j
 | [],_,i,j,k,h,_=>by simp at h
 |none::os,hd,i,j,k,hi,hj=>by
  cases i with
  |zero=>simp at hi
  |succ i =>
   cases j with
   |zero=>simp at hj
   |succ j=>rw[qN(os:=os)hd i j k(by simpa using hi)(by simpa using hj)]
 |some k0::os,hd,i,j,k,hi,hj=>by
  simp only[distinct,Bool.and_eq_true,Bool.not_eq_true']at hd
  have hno:∀n,os[n]?≠some(some k0):=fun n hn=>by
   have:os.contains(some k0)=true:=List.contains_iff_mem.2(List.mem_of_getElem? hn)
   rw[hd.1]at this;cases this
  cases i with
  |zero =>
   simp at hi
   subst hi
   cases j with
   |zero=>rfl
   |succ j=>exact absurd(by simpa using hj)(hno j)
  |succ i =>
   cases j with
   |zero =>
    simp at hj
    subst hj
    exact absurd(by simpa using hi)(hno i)
   |succ j=>rw[qN hd.2 i j k(by simpa using hi)(by simpa using hj)]
theorem Z8 {np:Nat}{s s':St}(τ:List(Option Nat))(zx:∀k,k<np→τ[k]?=some(some k))(hd:distinct τ=true)(h1:GV(jR τ)s.slots s'.slots)(h2:pq τ s.mem τ s'.mem):iV np s s':=by
 intro A0 R w0 E a hp0 hI
 let O':Nat→Option(Nat × Nat × Nat):=fun k'=>match τ[k']? with
  |some(some k)=>E.O k
  |_=>none
 have hO:∀k k' p,jR τ k=some k'→E.O k=some p→O' k'=some p:=fun k k' p hk hp=>by
  show(match τ[k']? with |some(some k)=>E.O k |_=>none)=some p
  rw[JR hk]
  exact hp
 have back:∀k' p,O' k'=some p→∃k,τ[k']?=some(some k)∧E.O k=some p:=fun k' p hp=>by
  have hp':(match τ[k']? with |some(some k)=>E.O k |_=>none)=some p:=hp
  split at hp'
  ·rename_i k hk;exact⟨k,hk,hp'⟩
  ·cases hp'
 obtain⟨hlen,hget⟩:=h1.get
 have lives:∀k' k,τ[k']?=some(some k)→aK s'.mem k'=true→aK s.mem k=true:=fun k' k hk hl=>by
  obtain⟨row,row',g1,g2,g3⟩:=h2.get k' k hk
  unfold aK at hl ⊢
  rw[g2]at hl
  rw[g1]
  exact g3.live hl
 refine⟨{ E with O:=O' },rfl,hI.defers,⟨⟨by rw[hI.frame.1.1,hlen],Pt hI.frame.1.2 _⟩,fun t=>?_⟩,⟨?_,hI.wd.small,hI.wd.old,?_,?_,hI.wd.below,⟨hI.wd.Dj.keep,fun k p hk=>?_⟩⟩⟩
 ·obtain⟨g1,g2⟩:=hget t
  rw[g1]
  refine⟨fun _=>?_,fun h=>by cases h⟩
  rcases g2 with g2 | ⟨g2,g3⟩
  ·rw[g2];exact lQ
  ·exact g3.rel hO((hI.frame.2 t).1(by rw[g2];rfl))
 ·intro k' b c hb
  obtain⟨k,hk,hb'⟩:=back k' _ hb
  obtain⟨row,row',g1,g2,g3⟩:=h2.get k' k hk
  obtain⟨row0,g4,g5⟩:=hI.wd.rows k b c hb'
  rw[g1]at g4
  cases g4
  exact⟨row',g2,g3.rel hO g5⟩
 ·intro k' b c hb hl
  obtain⟨k,hk,hb'⟩:=back k' _ hb
  exact hI.wd.own k b c hb'(lives k' k hk hl)
 ·intro k' k'' b c c' hb hb' hl hl'
  obtain⟨k,hk,hbk⟩:=back k' _ hb
  obtain⟨k2,hk2,hbk2⟩:=back k'' _ hb'
  have:=hI.wd.one k k2 b c c' hbk hbk2(lives k' k hk hl)(lives k'' k2 hk2 hl')
  subst this
  exact qN hd k' k'' k hk hk2
 ·have hlt:k<np:=Nat.lt_of_not_le fun hc=>by rw[hp0.1 k hc]at hk;cases hk
  show(match τ[k]? with |some(some k)=>E.O k |_=>none)=some p
  rw[zx k hlt]
  exact hI.wd.Dj.own k p hk
theorem WV {s s':St}(τ:List(Option Nat))(hd:distinct τ=true)(h1:GV(jR τ)s.slots s'.slots)(h2:pq τ s.mem τ s'.mem):Sub s s':=Z8 τ(fun k hk=>absurd hk(Nat.not_lt_zero k))hd h1 h2
theorem Sub.trans {s s' s'':St}(h:Sub s s')(g:Sub s' s''):Sub s s'':=iV.trans h g
def fG(np:Nat)(P:Program)(c:Code)(s:St)(e:Exit)(s':St):Prop :=
 ∀(A0 R:Nat→Prop)(w0:Env)(E:Env)(a:Act),JO np A0 R w0→Inv A0 R w0 E s a→c.wp P(fun e' a' w'=>e'=e∧∃E',E'.w=w'∧Inv A0 R w0 E' s' a')a E.w
abbrev bF(P:Program)(c:Code)(s:St)(e:Exit)(s':St):Prop:=fG 0 P c s e s'
theorem fG.sub {np:Nat}{P:Program}{c:Code}{s s1 s2 s3:St}{e:Exit}(h:fG np P c s1 e s2)(g1:iV np s s1)(g2:iV np s2 s3):fG np P c s e s3:=fun A0 R w0 E a hp hI=>by
 obtain⟨E1,e1,h1⟩:=g1 A0 R w0 E a hp hI
 rw[←e1]
 refine Go.Code.wp_mono ?_(h A0 R w0 E1 a hp h1)
 rintro e' a' w'⟨rfl,E',rfl,hI'⟩
 obtain⟨E2,e2,h2⟩:=g2 A0 R w0 E' a' hp hI'
 exact⟨rfl,E2,e2,h2⟩
theorem bF.sub {P:Program}{c:Code}{s s1 s2 s3:St}{e:Exit}(h:bF P c s1 e s2)(g1:Sub s s1)(g2:Sub s2 s3):bF P c s e s3:=fG.sub h g1 g2
def fin:jZ:=fun e s=>some⟨e,s,.any⟩
theorem aU {np:Nat}{P:Program}{c:Code}(S:Nat→St)(n:Nat)(e:Exit)(sf:St)(he:e≠.normal)(hstep:∀j,j<n→fG np P c(S j) .normal(S(j+1)))(hend:fG np P c(S n)e sf):fG np P(.loop c)(S 0)e sf:=fun A0 R w0 E a hp hI=>by
 refine wp_loop_rounds(n+1) ?_
 have key:∀(m j:Nat) {E:Env}{a:Act},j+m=n→Inv A0 R w0 E(S j)a→Code.rounds P c(fun e' a' w'=>e'=e∧∃E',E'.w=w'∧Inv A0 R w0 E' sf a')(m+1)a E.w:=by
  intro m
  induction m with
  |zero =>
   intro j E a hj hI
   have:j=n:=by omega
   subst this
   rw[rounds_succ]
   refine Go.Code.wp_mono ?_(hend A0 R w0 E a hp hI)
   rintro e' a' w'⟨rfl,E',rfl,hI'⟩
   cases e'<;>simp only[Exit.then]<;>first |exact absurd rfl he |exact⟨trivial,E',rfl,hI'⟩ |exact⟨rfl,E',rfl,hI'⟩
  |succ m ih =>
   intro j E a hj hI
   rw[rounds_succ]
   refine Go.Code.wp_mono ?_(hstep j(by omega)A0 R w0 E a hp hI)
   rintro e' a' w'⟨rfl,E',rfl,hI'⟩
   simp only[Exit.then]
   exact ih(j+1)(by omega)hI'
 exact key n 0(by omega)hI
noncomputable def told(s0:St)(e:Exit)(sf:St):dN:=fun s k=>open Classical in if Sub s s0 then k e sf else none
theorem Cw {P:Program}{c:Code}{s0 sf:St}{e:Exit}(h:bF P(.loop c)s0 e sf):gI P c(told s0 e sf):=by
 classical
 constructor
 ·intro s k r hr
  unfold told at hr ⊢
  by_cases hs:Sub s s0
  ·rw[if_pos hs]at hr
   exact⟨e,sf,hr,fun k'=>by rw[if_pos hs]⟩
  ·rw[if_neg hs]at hr;cases hr
 ·intro s s' e' hk A0 R w0 E a hp hI
  have hs:Sub s s0:=Classical.byContradiction fun hn=>by
   have:=hk fin
   unfold told at this
   rw[if_neg hn]at this
   cases this
  have h1:=hk fin
  unfold told at h1
  rw[if_pos hs]at h1
  simp only[fin,Option.some.injEq,Out.mk.injEq,and_true]at h1
  obtain⟨rfl,rfl⟩:=h1
  exact h.sub hs(Sub.refl _)A0 R w0 E a hp hI
end
noncomputable section
def BH(f:AV→Option AV):List AV→Option(List AV)
 | []=>some []
 |x::xs=>match f x,BH f xs with
  |some y,some ys=>some(y::ys)
  |_,_=>none
def uP(mem:List Row):Nat→AV→Option AV
 | 0,_=>none
 |n+1,v=>match v with
  |.own k off=>match mem[k]? with
   |some(.c l)=>(BH(uP mem n)l).map(.ref · off)
   |_=>none
  |.pW _ _ _ _=>none
  |.view _ _ _ _ _=>none
  |.fJ k sz st len=>match mem[k]? with
   |some(.a _ sz' _ el)=>cond(sz==sz')(some(.sl sz len(fun i=>el(st+i))))none
   |_=>none
  |.agg l=>(BH(uP mem n)l).map .agg
  |.aN l=>(BH(uP mem n)l).map .aN
  |.tH t x=>(uP mem n x).map(.tH t)
  |v=>cond(nI v)(some v)none
theorem AA {E E1:Env}{f:AV→Option AV}(h:∀x y u,f x=some y→rel E x u→rel E1 y u):∀{xs ys:List AV}{us:List Value},BH f xs=some ys→dB E xs us→dB E1 ys us
 | [],ys,us,hm,hr=>by
  simp only[BH,Option.some.injEq]at hm
  subst hm
  rw[bK.1 hr]
  exact bK.2 rfl
 |x::xs,ys,us,hm,hr=>by
  simp only[BH]at hm
  split at hm
  ·rename_i y ys' h1 h2
   simp only[Option.some.injEq]at hm
   subst hm
   obtain⟨u,us',rfl,h3,h4⟩:=aH.1 hr
   exact aH.2⟨u,us',rfl,h x y u h1 h3,AA h h2 h4⟩
  ·cases hm
theorem SA {E E1:Env}{f:AV→Option AV}(h:∀x y u,f x=some y→rel E x u→rel E1 y u):∀{xs ys:List AV}{us:List Value},BH f xs=some ys→pre E xs us→pre E1 ys us
 | [],ys,us,hm,hr=>by
  simp only[BH,Option.some.injEq]at hm
  subst hm
  exact pre_nil
 |x::xs,ys,us,hm,hr=>by
  simp only[BH]at hm
  split at hm
  ·rename_i y ys' h1 h2
   simp only[Option.some.injEq]at hm
   subst hm
   obtain⟨u,us',rfl,h3,h4⟩:=bE.1 hr
   exact bE.2⟨u,us',rfl,h x y u h1 h3,SA h h2 h4⟩
  ·cases hm
theorem ajH {E:Env}{mem:List Row}{A':Nat→Prop}(hm:uQ E mem)(hA:∀b,A' b→E.A b)(hown:∀k b c,E.O k=some(b,c)→aK mem k=true→¬A' b):∀(n:Nat)(x y:AV)(u:Value),uP mem n x=some y→rel E x u→rel⟨E.w,A',fun _=>none⟩y u:=by
 intro n
 induction n with
 |zero=>intro x y u h;cases h
 |succ n ih =>
  intro x y u h hr
  have plain:∀{v:AV},cond(nI v)(some v)none=some y→rel E v u→rel⟨E.w,A',fun _=>none⟩y u:=by
   intro v h hr
   cases hn:nI v
   ·rw[hn]at h;cases h
   ·rw[hn]at h
    simp only[cond_true,Option.some.injEq]at h
    subst h
    exact abN hr hn fun b hb ob Mj=>⟨fun ha=>hb(hA b ha),Mj⟩
  cases x with
  |own k off =>
   simp only[uP]at h
   obtain⟨b,c,hb,rfl⟩:=jh.1 hr
   obtain⟨row,hrow,hrr⟩:=hm k b c hb
   rw[hrow]at h
   cases row<;>simp only at h<;>first | (cases h;done) |skip
   rename_i l
   cases hl:BH(uP mem n)l with
   |none=>rw[hl]at h;cases h
   |some l' =>
    rw[hl]at h
    simp only[Option.map_some,Option.some.injEq]at h
    subst h
    obtain⟨cs,e,h1,h2⟩:=hrr
    exact xw.2⟨b,0,cs,e,(0,0),by rw[Nat.zero_add],hown k b c hb(by unfold aK;rw[hrow];rfl),h1,by rw[List.drop_zero];exact SA(E1:=⟨E.w,A',fun _=>none⟩)ih hl h2⟩
  |pW k sz i sub=>simp[uP]at h
  |view k sz st sub n=>simp[uP]at h
  |fJ k sz st len =>
   simp only[uP]at h
   split at h
   ·rename_i e sz' n' el hrow
    cases hs:sz==sz'
    ·rw[hs]at h;cases h
    ·rw[hs]at h
     simp only[cond_true,Option.some.injEq]at h
     subst h
     have e1:=eq_of_beq hs
     subst e1
     rcases fM.1 hr with⟨_,rfl,rfl⟩ | ⟨b,c,n0,hb,h1,h2,rfl⟩
     ·exact iM.2⟨none,0,rfl,Nat.le_refl _,Or.inl rfl⟩
     ·obtain⟨row,hrow',hrr⟩:=hm k b _ hb
      rw[hrow]at hrow'
      cases hrow'
      obtain⟨cs,h3,h4,h5,h6,h7,h8⟩:=hrr
      simp only at h5
      subst h5
      refine iM.2⟨_,_,rfl,by omega,Or.inr⟨b,st*sz,cs,e,(0,0),rfl,hown k b _ hb(by unfold aK;rw[hrow];rfl),h3,fun i hi=>?_⟩⟩
      obtain⟨g1,g2⟩:=h8(st+i)(by omega)
      refine⟨g1,?_⟩
      rw[←Nat.add_mul]
      exact kg(E:=E.fz)(E':=⟨E.w,A',fun _=>none⟩)⟨fun b' hb' ob Mj=>⟨fun ha=>hb'(hA b' ha),Mj⟩,fun k' b' hb'=>by cases hb'⟩g2
   ·cases h
  |agg l =>
   simp only[uP]at h
   cases hl:BH(uP mem n)l with
   |none=>rw[hl]at h;cases h
   |some l' =>
    rw[hl]at h
    simp only[Option.map_some,Option.some.injEq]at h
    subst h
    obtain⟨vs,rfl,h2⟩:=kV.1 hr
    exact kV.2⟨vs,rfl,AA ih hl h2⟩
  |aN l =>
   simp only[uP]at h
   cases hl:BH(uP mem n)l with
   |none=>rw[hl]at h;cases h
   |some l' =>
    rw[hl]at h
    simp only[Option.map_some,Option.some.injEq]at h
    subst h
    obtain⟨vs,rfl,h2⟩:=nJ.1 hr
    exact nJ.2⟨vs,rfl,AA ih hl h2⟩
  |tH t x =>
   simp only[uP]at h
   cases hl:uP mem n x with
   |none=>rw[hl]at h;cases h
   |some x' =>
    rw[hl]at h
    simp only[Option.map_some,Option.some.injEq]at h
    subst h
    obtain⟨v,rfl,h2⟩:=qO.1 hr
    exact qO.2⟨v,rfl,ih x x' v hl h2⟩
  |_=>simp only[uP]at h;exact plain h hr
def Ir(P:Program)(s:St):ResultVar→Option AV
 |.tmp t=>cond(iB s.slots [](.tmp t))(some(aG s(.tmp t)))none
 |.cell p t=>cond(iB s.slots [](.tmp p))(match aat s.mem(aG s(.tmp p))with
  |some(true,l,off)=>DV P t l off
  |_=>none)none
def mW(P:Program)(s:St):List ResultVar→Option(List AV)
 | []=>some []
 |r::rs=>match Ir P s r,mW P s rs with
  |some v,some vs=>some(v::vs)
  |_,_=>none
def DW(P:Program)(fn:Func)(s:St):Option AV :=
 match mW P s fn.results.toList with
 |some [v]=>uP s.mem 8 v
 |some vs=>(BH(uP s.mem 8)vs).map .aN
 |none=>none
def start(fn:Func)(mem:List Row)(args:List AV):St:=⟨(args.map fun v=>(v,[]))++List.replicate(fn.ntmps - args.length)dflt,mem⟩
def abO(P:Program)(fn:Func)(k:AV→Option Out):jZ:=fun e s=>match e with
 |.normal=>match DW P fn s with
  |some v=>k v
  |none=>none
 |.ret=>match DW P fn s with
  |some v=>k v
  |none=>none
 |_=>none
def abody(P:Program)(T:Tab)(D:List Oper→St→SK→Option Out)(L:Nat→Option dN)(N:Nat)(fn:Func)(args:List AV)(k:AV→Option Out):Option Out :=
 match fn.body with
 |some c=>gT P T D L N c(start fn []args)(abO P fn k)
 |none=>none
def SB(tmps:Array Value):ResultVar→Sem Value
 |.tmp t=>pure(tmps.getD t undef)
 |.cell p t=>do loadVar t(←asAddr(tmps.getD p undef))
theorem JU(fn:Func)(tmps:Array Value):results fn tmps=(do
  let vs ←List.toArray <$> fn.results.toList.mapM(SB tmps)
  pure(if h:vs.size=1 then vs[0]else .tuple vs)):=by
 unfold results
 rw[←Array.mapM_eq_mapM_toList]
 have:(fun x:ResultVar=>(match x with |.tmp t=>pure(tmps.getD t undef) |.cell a t=>do loadVar t(←asAddr(tmps.getD a undef)):Sem Value))=SB tmps:=by
  funext r;cases r<;>rfl
 rw[←this]
 rfl
section
variable {P:Program}{A0 R:Nat→Prop}{w0:Env}{E:Env}{s:St}{a:Act}
theorem SC(hI:Inv A0 R w0 E s a) {r:ResultVar}{x:AV}(h:Ir P s r=some x):∃v,(SB a.tmps r).run P E.w=.ok v E.w∧rel E x v:=by
 cases r with
 |tmp t =>
  simp only[Ir]at h
  cases ho:iB s.slots [](.tmp t)
  ·rw[ho]at h;cases h
  ·rw[ho]at h
   simp only[cond_true,Option.some.injEq]at h
   subst h
   exact⟨_,rfl,iF hI.frame(c:=[])rfl(.tmp t)ho⟩
 |cell p t =>
  simp only[Ir]at h
  cases ho:iB s.slots [](.tmp p)
  ·rw[ho]at h;cases h
  ·rw[ho]at h
   simp only[cond_true]at h
   split at h
   ·rename_i l off hp
    have hv:=iF hI.frame(c:=[])rfl(.tmp p)ho
    obtain⟨b,o0,_,_,_,he,_,_⟩:=SE hI.wd.rows hv hp
    obtain⟨v,h1,h2⟩:=Nh(P:=P)hI.wd.rows hp h hv
    refine⟨v,?_,h2⟩
    have he':a.tmps.getD p undef=.pointer(some⟨b,o0+off,none⟩):=he
    rw[he]at h1
    simp only[Instr.loadAt,Instr.sureAddr,Sem.run_bind,Sem.run_pure,Result.andThen_ok]at h1
    simp only[SB,he',asAddr,Sem.run_bind,Sem.run_pure,Result.andThen_ok,h1]
   ·cases h
theorem uR(hI:Inv A0 R w0 E s a):∀{rs:List ResultVar}{xs:List AV},mW P s rs=some xs→∃vs:List Value,(rs.mapM(SB a.tmps)).run P E.w=.ok vs E.w∧dB E xs vs
 | [],xs,h=>by simp[mW]at h;subst h;exact⟨[],rfl,bK.2 rfl⟩
 |r::rs,xs,h=>by
  simp only[mW]at h
  split at h
  ·rename_i x xs' h1 h2
   simp only[Option.some.injEq]at h
   subst h
   obtain⟨v,h3,h4⟩:=SC hI h1
   obtain⟨vs,h5,h6⟩:=uR hI h2
   refine⟨v::vs,?_,aH.2⟨v,vs,rfl,h4,h6⟩⟩
   simp only[List.mapM_cons,Sem.run_bind]
   rw[h3]
   simp only[Result.andThen_ok]
   rw[h5]
   rfl
  ·cases h
theorem DX {fn:Func}(hI:Inv A0(fun _=>False)w0 E s a)(hA0:∀b,A0 b→b<w0.w.heap.size) {x:AV}(h:DW P fn s=some x):∃v,(results fn a.tmps).run P E.w=.ok v E.w∧rel⟨E.w,A0,fun _=>none⟩x v:=by
 have hown:∀k b c,E.O k=some(b,c)→aK s.mem k=true→¬A0 b:=fun k b c hb hl ha=>by
  rcases(hI.wd.own k b c hb hl).2 with hf |hf
  ·exact hf
  ·have:=hA0 b ha;omega
 have frz:=ajH hI.wd.rows(A':=A0)hI.wd.old hown 8
 unfold DW at h
 cases hl:mW P s fn.results.toList with
 |none=>simp[hl]at h
 |some xs =>
  obtain⟨vs,h1,h2⟩:=uR hI hl
  have hlen:=dJ h2
  have hrun:(results fn a.tmps).run P E.w=.ok(if h:vs.toArray.size=1 then vs.toArray[0]else .tuple vs.toArray)E.w:=by
   rw[JU]
   simp only[Sem.run_bind,Sem.run_map,h1,Result.andThen_ok,Sem.run_pure]
  rw[hrun]
  rw[hl]at h
  have key:∀(_:vs.length≠1)(_:(BH(uP s.mem 8)xs).map AV.aN=some x),∃v,Result.ok(if h:vs.toArray.size=1 then vs.toArray[0]else .tuple vs.toArray)E.w=Result.ok v E.w∧rel⟨E.w,A0,fun _=>none⟩x v:=by
   intro hne h
   cases hm:BH(uP s.mem 8)xs with
   |none=>rw[hm]at h;cases h
   |some ys =>
    rw[hm]at h
    simp only[Option.map_some,Option.some.injEq]at h
    subst h
    refine⟨_,rfl,?_⟩
    rw[dif_neg(by simpa using hne)]
    exact nJ.2⟨vs.toArray,rfl,by simpa using AA frz hm h2⟩
  match xs,vs,hlen,h2,h,key with
  | [y],[v],_,h2,h,_ =>
   obtain⟨v',_,e1,h3,_⟩:=aH.1 h2
   cases e1
   exact⟨v,by simp,frz y x v h h3⟩
  | [],[],_,_,h,key=>exact key(by simp)h
  |_::_::_,_::_::_,_,_,h,key=>exact key(by simp)h
end
theorem Ni {E:Env}:∀{xs:List AV}{vs:List Value}(t:Nat),dB E xs vs→t<xs.length→rel E(xs.getD t(.x undef))(vs.getD t undef)
 | [],_,_,_,hl=>by simp at hl
 |x::xs,vs,t,h,hl=>by
  obtain⟨u,us,rfl,h1,h2⟩:=aH.1 h
  cases t with
  |zero=>exact h1
  |succ t=>simpa using Ni t h2(by simpa using hl)
theorem rV {E:Env}{fn:Func}{mem:List Row}{args:List AV}{aZ:Array Value}(hg:vH E)(hv:dB E args aZ.toList)(hlen':args.length≤fn.ntmps) :
  BD E(start fn mem args).slots(start fn mem args).slots(aZ++Array.replicate(fn.ntmps - aZ.size)undef):=by
 have hl:=dJ hv
 simp at hl
 refine⟨⟨by simp[start];omega,hg⟩,fun t=>?_⟩
 have hs:(start fn mem args).slots.getD t dflt=(args.getD t(.x undef),[]):=by
  simp only[start,List.getD_eq_getElem?_getD,List.getElem?_append,List.getElem?_map,List.length_map,List.getElem?_replicate]
  by_cases ht:t<args.length
  ·simp[ht]
  ·simp only[ht,if_false,List.getElem?_eq_none(Nat.le_of_not_lt ht),Option.getD_none]
   split<;>rfl
 rw[hs]
 refine⟨fun _=>?_,fun h'=>by cases h'⟩
 by_cases ht:t<args.length
 ·have:=Ni t hv ht
  have e:(aZ++Array.replicate(fn.ntmps - aZ.size)undef).getD t undef=aZ.toList.getD t undef:=by
   simp only[Array.getD_eq_getD_getElem?,List.getD_eq_getElem?_getD]
   rw[Array.getElem?_append_left(by omega)]
   simp
  rw[e]
  exact this
 ·have e:(aZ++Array.replicate(fn.ntmps - aZ.size)undef).getD t undef=undef:=by
   simp only[Array.getD_eq_getD_getElem?]
   rw[Array.getElem?_append_right(by omega),Array.getElem?_replicate]
   split<;>rfl
  rw[e,List.getD_eq_getElem?_getD,List.getElem?_eq_none(Nat.le_of_not_lt ht)]
  exact bI.2 rfl
theorem xB {P : Program} {T : Tab} {D : List Oper → St → SK → Option Out} {L : Nat → Option dN} (hT : Az P T) (hD : DOk P D) (N : Nat) {f : Nat} {fn : Func} (hf : P.funcs[f]? = some fn) (hnm : (fn.name == "runtime.NumGoroutine") = false) {c : Code} (hb : fn.body = some c) (hL : yS P L c)
  {args:List AV}(hlen:Nat.ble args.length fn.ntmps=true) {r:AV}(h:abody P T D L N fn args(fun v=>some(Out.of v))=some(Out.of r)):aj P f args r:=by
 unfold abody at h
 rw[hb]at h
 simp only at h
 refine⟨⟨fn,hf,hnm,by rw[hb];rfl⟩,fun A w aZ hA hv hg=>?_⟩
 have hlen':args.length≤fn.ntmps:=Nat.le_of_ble_eq_true hlen
 refine calls_of_wp hf hb ?_
 have hI:Inv A(fun _=>False)⟨w,A,fun _=>none⟩⟨w,A,fun _=>none⟩(start fn []args) { tmps:=aZ++Array.replicate(fn.ntmps - aZ.size)undef,defers:=[] } :=
  ⟨rfl,rV hg hv hlen',⟨fun _ _ _ hb=>(by cases hb),hA,fun _ hb=>hb,fun _ _ _ hb=>(by cases hb),fun _ _ _ _ _ hb=>(by cases hb),nM.refl _ _,Env.le.refl _⟩⟩
 refine Go.Code.wp_mono ?_(DT(np:=0)⟨fun _ _=>rfl,fun _ h=>h.elim,hA⟩hT hD N c hL hI h)
 rintro e a' w'⟨E',s',rfl,hI',he⟩
 cases e<;>simp only[abO]at he<;>first | (cases he;done) |skip
 all_goals
  split at he
  ·rename_i x hx
   simp only[Out.of,Option.some.injEq,Out.mk.injEq,true_and]at he
   subst he
   obtain⟨v,h1,h2⟩:=DX hI' hA hx
   exact⟨hI'.defers,v,h1,v,rfl,h2,hI'.wd.below.os,hI'.wd.below.tape,hI'.wd.below.output,hI'.wd.below.size,fun k hk=>hI'.wd.below.block k hk(fun e=>e)⟩
  ·cases he
end
end Go.Gv
