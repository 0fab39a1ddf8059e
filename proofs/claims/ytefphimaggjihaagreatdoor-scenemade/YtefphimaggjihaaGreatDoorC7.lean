/-
  The second evaluator, part Gd.
-/
import Derived.Test.YtefphimaggjihaaGreatDoorC6
import Derived.LoopN
import Derived.Scope
open Array renaming append_empty->azF,empty_append->azd,getD_eq_getD_getElem?->ay0,replicate->ayH,toList_eq_nil_iff->aA9
open Bool renaming and_eq_true->J8,false_eq_true->ayX
open Go.Call renaming operands->ayu
open Go.Code renaming rounds->aEG,wp_mono->ayx
open Go.Deferred renaming ofValue->azI
open Go.Region renaming wanted->azm
open Go.Result renaming andThen_ok->xU,ok->aEH
open Go.Sem renaming run_bind->YC,run_pure->abP
open List renaming all_eq_true->apB,getD_eq_getElem?_getD->amh,getElem?_append_left->apR,getElem?_eq_none->ayE,getElem?_map->azh
open Option renaming map_some->amS
open Option.some renaming injEq->jN
open Or renaming inl->ER,inr->aaH
open Prod.mk renaming injEq->EU
namespace Go.Gv
open Go.RowKit Go.Ev
noncomputable section
def Out.of(v:AV):Out:=⟨.normal,⟨[],[]⟩,v⟩
def Tab.flat(T:Tab):Tab where
 f:=λ f args=>match T.k f with
  |some g=>(g args λ v=>some (Out.of v)).map Out.v
  |none=>T.f f args
 k:=λ _=>none
 m:=T.m
 n:=T.n
 w:=T.w
 r:=T.r
theorem Ao.flat{P:Program}{T:Tab}(h:Ao P T):Ao P T.flat:=by
 refine⟨⟨λ f args r hr=>?_,λ f g hg=>by cases hg⟩,h.2⟩;simp only[Tab.flat]at hr;split at hr
 .rename_i g hg
  cases hx:g args λ v=>some (Out.of v)with
  |none=>rw[hx]at hr;cases hr
  |some x =>
   rw[hx]at hr;obtain⟨v,h1,h2⟩:=(h.1.2 f g hg).1 args _ x hx;simp only[jN]at h1;simp only[amS,jN]at hr;subst h1;rw[show v=r from hr]at h2;exact(h.1.2 f g hg).2 args r h2
 .exact h.1.1 f args r hr
def LG(T:Tab):Prop:=∀f g,T.k f=some g->aij g
theorem Ao.par{P:Program}{T:Tab}(h:Ao P T):LG T:=λ f g hg=>(h.1.2 f g hg).1
def rowsOf:AV->List Nat
 |.own k _=>[k]
 |.pR k _ _ _=>[k]
 |.fJ k _ _ _=>[k]
 |.view k _ _ _ _=>[k]
 |_=>[]
def Rx(s:St)(o:Oper):List Nat:=match o.op with
 |.load _ x=>rowsOf (aG s x)
 |.convert _ _ x=>rowsOf (aG s x)
 |_=>[]
def OJ:Chain->Bool
 | []=>true
 | [_]=>true
 |_=>false
def VG(slots:List (AV × Chain)):Chain->Bool->Bool
 | [],b=>b
 |p::_,b=>b&&trp slots p
theorem Gs{slots F:List (AV × Chain)}{ops:List Oper}{o:Oper}{c:Chain}{b:Bool}(hc:fV ops slots o=some c)(hs:OJ c=true)(hb:VG slots c b=true)(hF:∀t,t∈jY ops o->(F.getD t dflt).1=(slots.getD t dflt).1):b=true/\qo F c=true:=by
 match c,hs with
 | [],_=>exact⟨hb,rfl⟩
 | [p],_ =>
  simp only[VG,J8]at hb;refine⟨hb.1,?_⟩
  have hp:p.1∈jY ops o:=by
   unfold fV at hc;cases hg:o.guard with
   |none=>rw[hg]at hc;cases hc
   |some gw =>
    obtain⟨j,want⟩:=gw;rw[hg]at hc;simp only at hc;cases hj:ops[j]? with
    |none=>rw[hj]at hc;cases hc
    |some oj =>
     rw[hj]at hc;simp only at hc;cases hd:oj.dst with
     |none=>rw[hd]at hc;cases hc
     |some d =>
      rw[hd]at hc;simp only at hc;split at hc
      .simp only[jN,List.cons.injEq]at hc
       rw[<-hc.1];simp[jY,hg,hj,hd]
      .cases hc
  unfold qo;simp only[List.all_cons,List.all_nil,Bool.and_true];have h2:=hb.2;unfold trp at h2 ⊢;rw[hF _ hp];exact h2
def lV(o:Oper)(bg:Eff):Bool:=match o.op with
 |.buildSlice _ _ _=>bg.nw.isNone&&bg.wr.isNone
 |_=>false
theorem Mt{o:Oper}{bg:Eff}(h:lV o bg=true):bg.nw=none/\bg.wr=none:=by
 unfold lV at h;split at h
 .simp only[J8,Option.isNone_iff_eq_none]at h
  exact h
 .cases h
def vI(P:Program)(T:Tab)(ops:List Oper)(s:St)(nk:Nat)(o:Oper):Option (Bool × Chain × Eff) :=
 match tZ P T ops s o with
 |some (b,c,v)=>some (b,c,⟨v,Rx s o,none,none⟩)
 |none=>match fV ops s.slots o with
  |some c=>cond (OJ c&&o.op.operands.toList.all (iB s.slots c)) (match VH P T s nk o with
   |some (b,bg)=>cond (lV o bg) (some (b,c,bg)) (some (VG s.slots c b,[],bg))
   |none=>none) none
  |none=>none
def Eff.mem(bg:Eff)(mem:List Row):List Row:=(match bg.wr with
 |some (k,row)=>mem.set k row
 |none=>mem)++bg.nw.toList
def zm(s:St)(dst:Option Nat)(c:Chain)(bg:Eff):St:=⟨ow s.slots dst (bg.v,c),bg.mem s.mem⟩
structure Inv(A0 R:Nat->Prop)(w0:Env)(E:Env)(s:St)(a:Act):Prop where
 defers:a.defers=[]
 frame:Bo E s.slots s.slots a.tmps
 wd:Wd A0 R w0 E s.mem
theorem Wd.dom{A0 R:Nat->Prop}{w0:Env}{E:Env}{mem:List Row}(h:Wd A0 R w0 E mem):∀k b c,E.O k=some (b,c)->k<mem.length:=λ k b c hb=>by
 obtain⟨row,hr,_⟩:=h.rows k b c hb;exact(List.getElem?_eq_some_iff.1 hr).1
theorem mG{E E':Env}(h:E.le E'){F s:List (AV × Chain)}{tmps:Array Value}(hf:Bo E F s tmps):Bo E' F s tmps :=
 ⟨⟨hf.1.1,H6 h hf.1.2⟩,λ t=>⟨λ ht=>mM h ((hf.2 t).1 ht),(hf.2 t).2⟩⟩
theorem put_defers(a:Act)(dst:Option Nat)(v:Value):(a.put dst v).defers=a.defers:=by cases dst<;>rfl
section
variable{P:Program}{T:Tab}{A0 R:Nat->Prop}{w0:Env}{E:Env}{s:St}{a:Act}{ops:Array Oper}{o:Oper}{Q:Exit->Act->World->Prop}
theorem uf(h:o.guard.isNone=true):azm o (yielded ops a.tmps)=true:=by
 unfold azm;cases hg:o.guard with
 |none=>rfl
 |some g=>rw[hg]at h;cases h
theorem Ch{bg:Eff}(hdom:∀k b c,E.O k=some (b,c)->k<s.mem.length):jk E s.mem (bg.mem s.mem) s.mem.length bg:=by
 refine⟨λ k _ b c hb=>?_,λ row hr=>?_⟩
 .have hk:=hdom k b c hb
  unfold Eff.mem;cases hw:bg.wr with
  |none=>simp only[apR hk]
  |some p =>
   obtain⟨k',row⟩:=p;simp only;rw[apR (by simpa using hk),List.getElem?_set];by_cases hkk:k'=k
   .subst hkk;simp[hk]
   .rw[if_neg hkk,if_neg (λ e=>hkk e.symm)]
 .unfold Eff.mem
  rw[hr];cases hw:bg.wr with
  |none=>simp
  |some p =>
   obtain⟨k',row'⟩:=p;simp
theorem Ji (hT:Ao P T) (hI:Inv A0 R w0 E s a) {b:Bool} {c:Chain} {bg:Eff} (h:vI P T ops.toList s s.mem.length o=some (b,c,bg)) (hd:jQ s.slots c o.dst=true) (hb:qo s.slots c=true->b=true)
    (K:Act->World->Prop) (hK:∀E' a',Inv A0 R w0 E' (zm s o.dst c bg) a'->K a' E'.w):if azm o (yielded ops a.tmps)then o.wp P a E.w K Q else K (a.put o.dst undef) E.w:=by
  unfold vI at h;cases hc:tZ P T ops.toList s o with
  |some r =>
    obtain⟨b',c',v⟩:=r;rw[hc]at h;simp only[jN,EU]at h;obtain⟨rfl,rfl,rfl⟩:=h;have hmem:(Eff.mem ⟨v,Rx s o,none,none⟩ s.mem)=s.mem:=by simp[Eff.mem]
    obtain⟨h1,h2⟩:=Jj hT.1 hI.frame hI.wd.rows hI.wd.small (λ _ _=>rfl) hc hb;rw[h1];cases ht:qo s.slots c'
    . rw[if_neg (by simp)]
      refine hK E _ ⟨by rw[put_defers];exact hI.defers,kD hI.frame hd (λ h=>by rw[ht]at h;cases h) (λ _=>rfl),?_⟩;simp only[zm,hmem];exact hI.wd
    . rw[if_pos rfl]
      refine OM (h2 ht) λ u w' hu hbl=>?_;obtain⟨hw1,hw2⟩:=hI.wd.on hbl;refine hK { E with w:=w' } _ ⟨by rw[put_defers];exact hI.defers,kD (mG hw2 hI.frame) hd (λ _=>hu) (λ h=>by rw[ht]at h;cases h),?_⟩
      simp only[zm,hmem];exact hw1
  |none =>
    rw[hc]at h;simp only at h;cases hch:fV ops.toList s.slots o with
    |none=>rw[hch]at h;cases h
    |some c0 =>
    rw[hch]at h;simp only at h;cases hk:(OJ c0&&o.op.operands.toList.all (iB s.slots c0))
    . rw[hk]at h;cases h
    . rw[hk]at h
      simp only[cond_true]at h;simp only[J8]at hk;cases hw:VH P T s s.mem.length o with
      |none=>rw[hw]at h;cases h
      |some r =>
        obtain⟨b',OO⟩:=r;rw[hw]at h;simp only at h
        have hnk:E.O s.mem.length=none:=by
          cases hx:E.O s.mem.length with
          |none=>rfl
          |some p=>exact absurd (hI.wd.dom _ p.1 p.2 hx) (Nat.lt_irrefl _)
        cases hbare:lV o OO
        case true =>
          rw[hbare]at h;simp only[cond_true,jN,EU]at h;obtain⟨rfl,rfl,rfl⟩:=h;obtain⟨hn,hwr⟩:=Mt hbare;have hmem:Eff.mem OO s.mem=s.mem:=by unfold Eff.mem;rw[hn,hwr];simp
          rw[jd hI.frame (λ _ _=>rfl) hch];cases ht:qo s.slots c0
          . rw[if_neg (by simp)]
            refine hK E _ ⟨by rw[put_defers];exact hI.defers,kD hI.frame hd (λ h=>by rw[ht]at h;cases h) (λ _=>rfl),?_⟩;simp only[zm,hmem];exact hI.wd
          . rw[if_pos rfl]
            have hbt:=hb ht;subst hbt;have hops:=hk.2;rw[apB]at hops;refine Jk hT hI.frame.1.2 hI.wd hnk (λ y hy=>iF hI.frame ht y (hops y (by simpa using hy))) hw (Ch hI.wd.dom) λ E' u hle _ hW' hr=>?_;exact hK E' _ ⟨by rw[put_defers];exact hI.defers,kD (mG hle hI.frame) hd (λ _=>hr) (λ h=>by rw[ht]at h;cases h),hW'⟩
        case false =>
        rw[hbare]at h;simp only[cond_false,jN,EU]at h;obtain⟨rfl,rfl,rfl⟩:=h;obtain⟨hbt,htr⟩:=Gs (F:=s.slots) hch hk.1 (hb rfl) λ _ _=>rfl;subst hbt;rw[if_pos ((jd hI.frame (λ _ _=>rfl) hch).trans htr)];have hops:=hk.2;rw[apB]at hops;refine Jk hT hI.frame.1.2 hI.wd hnk (λ y hy=>iF hI.frame htr y (hops y (by simpa using hy))) hw (Ch hI.wd.dom) λ E' u hle _ hW' hr=>?_;exact hK E' _ ⟨by rw[put_defers];exact hI.defers,kD (mG hle hI.frame) hd (λ _=>hr) (λ h=>by cases h),hW'⟩
end
end
noncomputable section
abbrev SK:=St->Option Out
abbrev jZ:=Exit->St->Option Out
def VI (P:Program) (T:Tab) (s:St) (o:Oper):Option ((AV->Option Out)->Option Out) :=
  match o.op with
  |.call c=>match c.callee with
    |.builtin _=>none
    |_=>match qJ P s c with
      |some (f,args)=>match T.k f with
        |some g=>cond (bZ args) (some (g args)) none
        |none=>none
      |none=>none
  |_=>none
def Bp(T:Tab)(s:St)(nk:Nat)(o:Oper):Option (Bool × AV × List Row) :=
 match o.op with
 |.call c=>match c.callee with
  |.value (.func f)=>match T.n f with
   |some g=>g (c.args.toList.map (aG s)) nk
   |none=>none
  |_=>none
 |_=>none
def UQ(s:St)(o:Oper):Bool:=o.guard.isNone&&(o.op.operands.toList.all (iB s.slots [])&&jQ s.slots [] o.dst)
def VJ (T:Tab) (s:St) (o:Oper):Option (Bool × ((AV->Option Out)->Option Out)) :=
  match o.op with
  |.call c=>match c.callee with
    |.value (.func f)=>match T.k f with
      |some g=>match T.m f with
        |some _=>none
        |none=>cond (bZ (c.args.toList.map (aG s))) none (some (Jl s.mem (c.args.toList.map (aG s)),λ k=>g (Jm s.mem (c.args.toList.map (aG s))) λ v=>cond (lC v) (k v) none))
      |none=>none
    |_=>none
  |_=>none
def adA(T:Tab)(s:St)(o:Oper):Option (Bool × AV × List Row) :=
 match o.op with
 |.call c=>match c.callee with
  |.value x=>match aG s x with
   |.fn (.func f) [] []=>match T.w f with
    |some g=>g (c.args.toList.map (aG s)) s.mem
    |none=>none
   |_=>none
  |_=>none
 |_=>none
def Dv(P:Program)(T:Tab)(ops:List Oper)(s:St)(o:Oper)(k:SK):Option Out :=
 match adA T s o with
 |some (b,v,mem1)=>cond (UQ s o) (cond b (k ⟨ow s.slots o.dst (v,[]),mem1⟩) none) none
 |none=>match Bp T s s.mem.length o with
 |some (b,v,rows)=>cond (UQ s o) (cond b (k ⟨ow s.slots o.dst (v,[]),s.mem++rows⟩) none) none
 |none=>match VJ T s o with
 |some (b,g)=>match fV ops s.slots o with
  |some c=>cond (o.op.operands.toList.all (iB s.slots c)&&jQ s.slots c o.dst) (cond b (g λ v=>k { s with slots:=ow s.slots o.dst (v,c) }) none) none
  |none=>none
 |none=>match VI P T s o with
 |some g=>match fV ops s.slots o with
  |some c=>cond (o.op.operands.toList.all (iB s.slots c)&&jQ s.slots c o.dst) (g λ v=>k { s with slots:=ow s.slots o.dst (v,c) }) none
  |none=>none
 |none=>match vI P T.flat ops s s.mem.length o with
  |some (b,c,bg)=>cond (jQ s.slots c o.dst) (cond (b||!qo s.slots c) (k (zm s o.dst c bg)) none) none
  |none=>none
def asQ:Nat:=2000000
def adB(P:Program)(T:Tab)(ops:List Oper)(s:St)(o:Oper):Option (Bool × Chain × Eff) :=
 match T.m asQ with
 |none=>none
 |some _=>match tZ P T.flat ops s o with
  |some _=>none
  |none=>match fV ops s.slots o with
   |some (p::ps)=>cond (o.op.operands.toList.all (iB s.slots (p::ps))) (match VH P T.flat s s.mem.length o with
    |some (b,bg)=>some (b,p::ps,bg)
    |none=>none) none
   |_=>none
def Ry(P:Program)(T:Tab)(ops:List Oper)(s:St)(o:Oper)(k:SK):Option Out :=
 match adB P T ops s o with
 |some (b,c,bg)=>cond (jQ s.slots c o.dst) (cond (qo s.slots c) (cond b (k (zm s o.dst c bg)) none) (k ⟨ow s.slots o.dst (bg.v,c),s.mem⟩)) none
 |none=>Dv P T ops s o k
def oC(P:Program)(T:Tab)(ops:List Oper):List Oper->St->SK->Option Out
 | [],s,k=>k s
 |o::rest,s,k=>Ry P T ops s o λ s'=>oC P T ops rest s' k
def adC(P:Program)(T:Tab)(ops:List Oper)(s:St)(o:Oper)(s':St):Prop :=
 (∃v mem1,adA T s o=some (true,v,mem1)/\UQ s o=true/\s'=⟨ow s.slots o.dst (v,[]),mem1⟩) \/
 (∃v rows,Bp T s s.mem.length o=some (true,v,rows)/\UQ s o=true/\s'=⟨ow s.slots o.dst (v,[]),s.mem++rows⟩) \/
 (∃g c v,VJ T s o=some (true,g)/\(∀k',g k'=k' v)/\fV ops s.slots o=some c/\(o.op.operands.toList.all (iB s.slots c)&&jQ s.slots c o.dst)=true/\s'={ s with slots:=ow s.slots o.dst (v,c) })\/∃b c bg,vI P T.flat ops s s.mem.length o=some (b,c,bg)/\jQ s.slots c o.dst=true/\(qo s.slots c=true->b=true)/\s'=zm s o.dst c bg
def BH(P:Program)(T:Tab)(ops:List Oper)(s:St)(o:Oper)(s':St):Prop :=
 adC P T ops s o s'\/∃b c bg,adB P T ops s o=some (b,c,bg)/\jQ s.slots c o.dst=true/\((qo s.slots c=true/\b=true/\s'=zm s o.dst c bg)\/(qo s.slots c=false/\s'=⟨ow s.slots o.dst (bg.v,c),s.mem⟩))
def VK(P:Program)(T:Tab)(ops:List Oper):List Oper->St->St->Prop
 | [],s,s'=>s=s'
 |o::rest,s,s'=>∃s1,BH P T ops s o s1/\VK P T ops rest s1 s'
theorem adD{T:Tab}{s:St}{o:Oper}{b:Bool}{g:(AV->Option Out)->Option Out}{k:AV->Option Out}{r:Out}(hT:LG T)(hL:VJ T s o=some (b,g))(h:g k=some r):∃v,k v=some r/\∀k',g k'=k' v:=by
 unfold VJ at hL;split at hL
 .rename_i c hop
  split at hL
  .rename_i f Br
   split at hL
   .rename_i g' hg
    split at hL
    .cases hL
    .cases hno:bZ (c.args.toList.map (aG s))
     .rw[hno]at hL
      simp only[cond_false,jN,EU]at hL;obtain⟨_,rfl⟩:=hL;obtain⟨v,h1,h2⟩:=hT f g' hg _ _ r h;cases hp:lC v
      .rw[hp]at h1;cases h1
      .rw[hp]at h1
       exact⟨v,h1,λ k'=>(h2 _).trans (by simp only[hp,cond_true])⟩
     .rw[hno]at hL;cases hL
   .cases hL
  .cases hL
 .cases hL
theorem VL{P:Program}{T:Tab}{ops:List Oper}{s:St}{o:Oper}{k:SK}{r:Out}(hT:LG T)(h:Dv P T ops s o k=some r):∃s',adC P T ops s o s'/\k s'=some r/\∀k',Dv P T ops s o k'=k' s':=by
 unfold Dv at h;cases hWW:adA T s o with
 |some q =>
  obtain⟨b,v,mem1⟩:=q;rw[hWW]at h;simp only at h;cases hk:UQ s o
  .rw[hk]at h;cases h
  .rw[hk]at h
   simp only[cond_true]at h;cases b
   .cases h
   .simp only[cond_true]at h
    refine⟨_,ER ⟨v,mem1,hWW,hk,rfl⟩,h,λ k'=>?_⟩;unfold Dv;simp only[hWW,hk,cond_true]
 |none =>
 rw[hWW]at h;simp only at h;cases hN:Bp T s s.mem.length o with
 |some q =>
  obtain⟨b,v,rows⟩:=q;rw[hN]at h;simp only at h;cases hk:UQ s o
  .rw[hk]at h;cases h
  .rw[hk]at h
   simp only[cond_true]at h;cases b
   .cases h
   .simp only[cond_true]at h
    refine⟨_,aaH (ER ⟨v,rows,hN,hk,rfl⟩),h,λ k'=>?_⟩;unfold Dv;simp only[hWW,hN,hk,cond_true]
 |none =>
 rw[hN]at h;simp only at h;cases hL:VJ T s o with
 |some q =>
  obtain⟨b,g⟩:=q;rw[hL]at h;simp only at h;cases hch:fV ops s.slots o with
  |none=>rw[hch]at h;cases h
  |some c =>
  rw[hch]at h;simp only at h;cases hk:(o.op.operands.toList.all (iB s.slots c)&&jQ s.slots c o.dst)
  .rw[hk]at h;cases h
  .rw[hk]at h
   simp only[cond_true]at h;cases b
   .cases h
   .simp only[cond_true]at h
    have hpar:=adD hT hL h;obtain⟨v,h1,h2⟩:=hpar;refine⟨_,aaH (aaH (ER ⟨g,c,v,hL,h2,hch,hk,rfl⟩)),h1,λ k'=>?_⟩;unfold Dv;simp only[hWW,hN,hL,hch,hk,cond_true,h2]
 |none =>
 rw[hL]at h;simp only at h;cases hC:VI P T s o with
 |none =>
  rw[hC]at h;simp only at h;cases hd:vI P T.flat ops s s.mem.length o with
  |none=>rw[hd]at h;cases h
  |some p =>
   obtain⟨b,c,bg⟩:=p;rw[hd]at h;simp only at h;cases hk:jQ s.slots c o.dst
   .rw[hk]at h;cases h
   .rw[hk]at h
    simp only[cond_true]at h;cases hb:(b||!qo s.slots c)
    .rw[hb]at h;cases h
    .rw[hb]at h
     simp only[cond_true]at h;refine⟨_,aaH (aaH (aaH ⟨b,c,bg,hd,hk,λ ht=>?_,rfl⟩)),h,λ k'=>?_⟩
     .rw[ht]at hb;simpa using hb
     .unfold Dv;simp only[hWW,hN,hL,hC,hd,hk,hb,cond_true]
 |some g =>
  rw[hC]at h;simp only at h;cases hch:fV ops s.slots o with
  |none=>rw[hch]at h;cases h
  |some c =>
  rw[hch]at h;simp only at h;cases hc:(o.op.operands.toList.all (iB s.slots c)&&jQ s.slots c o.dst)
  .rw[hc]at h;cases h
  .rw[hc]at h
   simp only[cond_true]at h;have hC':=hC;unfold VI at hC;split at hC
   .rename_i cl hop
    split at hC
    .cases hC
    .rename_i hnb
     split at hC
     .rename_i f args Br
      split at hC
      .rename_i g' hg
       cases hno:bZ args
       .rw[hno]at hC;cases hC
       .rw[hno]at hC
        simp only[cond_true,jN]at hC;subst hC;obtain⟨v,h1,h2⟩:=hT f g' hg args _ r h;have hc0:=hc;simp only[J8]at hc;obtain⟨hops,hdd⟩:=hc;refine⟨_,aaH (aaH (aaH ⟨true,c,⟨v,[],none,none⟩,?_,hdd,λ _=>rfl,rfl⟩)),?_,λ k'=>?_⟩
        .have hTf:T.flat.f f args=some v:=by
          simp only[Tab.flat,hg];rw[h2];rfl
         have hval:LH P T.flat s o=some (true,v):=by
          unfold LH;rw[hop];simp only;split
          .rename_i hbi;exact absurd hbi (hnb _)
          .rename_i hbi;exact absurd hbi (hnb _)
          .rename_i hbi;exact absurd hbi (hnb _)
          .rename_i hbi;exact absurd hbi (hnb _)
          .rename_i hbi;exact absurd hbi (hnb _)
          .rename_i hbi;exact absurd hbi (hnb _)
          .rw[Br];simp only[hno,cond_true,hTf,amS]
         have adE:tZ P T.flat ops s o=some (true,c,v):=by
          unfold tZ;simp only[hch];split
          .rename_i g x y hop';rw[hop]at hop';cases hop'
          .rw[hops,hval];rfl
         unfold vI;rw[adE];simp only[Rx,hop]
        .simpa[zm,Eff.mem]using h1
        .unfold Dv
         rw[hWW];simp only;rw[hN];simp only;rw[hL];simp only;rw[hC'];simp only[hch];rw[hc0];simp only[cond_true];rw[h2];simp[zm,Eff.mem]
      .cases hC
     .cases hC
   .cases hC
theorem Mv{P:Program}{T:Tab}{ops:List Oper}{s:St}{o:Oper}{k:SK}{r:Out}(hT:LG T)(h:Ry P T ops s o k=some r):∃s',BH P T ops s o s'/\k s'=some r/\∀k',Ry P T ops s o k'=k' s':=by
 unfold Ry at h;cases hF:adB P T ops s o with
 |none =>
  rw[hF]at h;obtain⟨s',h1,h2,h3⟩:=VL hT h;exact⟨s',ER h1,h2,λ k'=>by unfold Ry;rw[hF];exact h3 k'⟩
 |some q =>
  obtain⟨b,c,bg⟩:=q;rw[hF]at h;simp only at h;cases hk:jQ s.slots c o.dst
  .rw[hk]at h;cases h
  .rw[hk]at h
   simp only[cond_true]at h;cases ht:qo s.slots c
   .rw[ht]at h
    simp only[cond_false]at h;refine⟨_,aaH ⟨b,c,bg,hF,hk,aaH ⟨ht,rfl⟩⟩,h,λ k'=>?_⟩;unfold Ry;simp only[hF,hk,ht,cond_true,cond_false]
   .rw[ht]at h
    simp only[cond_true]at h;cases b
    .cases h
    .simp only[cond_true]at h
     refine⟨_,aaH ⟨true,c,bg,hF,hk,ER ⟨ht,rfl,rfl⟩⟩,h,λ k'=>?_⟩;unfold Ry;simp only[hF,hk,ht,cond_true]
theorem rD{P:Program}{T:Tab}{ops:List Oper}{r:Out}(hT:LG T):∀{l:List Oper} {s:St} {k:SK},oC P T ops l s k=some r->∃s',VK P T ops l s s'/\k s'=some r/\∀k',oC P T ops l s k'=k' s'
 | [],s,k,h=>⟨s,rfl,h,λ _=>rfl⟩
 |o::rest,s,k,h=>by
  simp only[oC]at h;obtain⟨s1,h1,h2,h3⟩:=Mv hT h;obtain⟨s2,h4,h5,h6⟩:=rD hT h2;exact⟨s2,⟨s1,h1,h4⟩,h5,λ k'=>by simp only[oC];rw[h3];exact h6 k'⟩
section
variable{P:Program}{T:Tab}{A0 R:Nat->Prop}{w0:Env}{ops:Array Oper}{Q:Exit->Act->World->Prop}
theorem Rz(hT:Ao P T){E:Env}{s:St}{mem':List Row}{nk:Nat}{a:Act}{o:Oper}{v:AV}{rows:List Row}(hg:vC E)(hW:Wd A0 R w0 E s.mem)(hnk:∀i,i<rows.length->E.O (nk+i)=none)(hρ:∀y,y∈o.op.operands->rel E (aG s y) (a.eval y))(hN:Bp T s nk o=some (true,v,rows))(happ:amI E s.mem mem' nk rows)
  {K:Act->World->Prop} (hK:∀E' u,E.le E'->(∀k p,E'.O k=some p->E.O k=some p\/(nk<=k/\k<nk+rows.length))->Wd A0 R w0 E' mem'->rel E' v u->K (a.put o.dst u) E'.w):o.wp P a E.w K Q:=by
 unfold Bp at hN;split at hN
 .rename_i c hop
  split at hN
  .rename_i f Br
   split at hN
   .rename_i g hgn
    obtain⟨⟨fn,h1,h2,h3⟩,hs⟩:=hT.2.2.1 f g hgn _ _ _ _ hN;obtain⟨callee,args,argTypes⟩:=c;simp only at Br;subst Br
    have hr:dB E (args.toList.map (aG s)) (args.map a.eval).toList:=by
     have:=lS (E:=E) (s:=s) (ρ:=a.eval) (ys:=args.toList) (λ y hy=>hρ y (by rw[hop];simp[Op.operands,ayu];exact aaH (by simpa using hy)));simpa using this
    have hc:=hs A0 R w0 E s.mem mem' (args.map a.eval) hW hnk hg hr happ;unfold Oper.wp;have hf:a.eval (.func f)=.func (.func f) #[] #[]:=rfl
    have hrun:(execOp a.eval o).run P E.w=.ok (.enter f (args.map a.eval)) E.w:=by
     unfold execOp;simp only[hop,resolve,hf,azI,YC,abP,xU,invoke,callFunc,run_program,h1,h2,h3,azF,azd,ayX,if_false]
    rw[hrun]
    exact hc.mono λ e w'' ⟨u,E',he,hw,hle,hO,hWd,hu⟩=>by
     subst he;have:=hK E' u hle hO hWd hu;rw[hw]at this;exact this
   .cases hN
  .cases hN
 .cases hN
theorem Jo(hT:Ao P T){E:Env}{s:St}{a:Act}{o:Oper}{v:AV}{rows:List Row}(hI:Inv A0 R w0 E s a)(hN:Bp T s s.mem.length o=some (true,v,rows))(hk:UQ s o=true)(K:Act->World->Prop)(hK:∀E' a',Inv A0 R w0 E' ⟨ow s.slots o.dst (v,[]),s.mem++rows⟩ a'->K a' E'.w) :
  if azm o (yielded ops a.tmps)then o.wp P a E.w K Q else K (a.put o.dst undef) E.w:=by
 unfold UQ at hk;simp only[J8]at hk;obtain⟨hg,hops,hd⟩:=hk;rw[if_pos (uf hg)];rw[apB]at hops;refine Rz hT hI.frame.1.2 hI.wd (λ i _=>?_) (λ y hy=>iF hI.frame rfl y (hops y (by simpa using hy))) hN (mem':=s.mem++rows) ⟨λ k hk b c hb=>?_,λ i row hi=>?_⟩ λ E' u hle _ hWd hu=>?_
 .cases hx:E.O (s.mem.length+i)with
  |none=>rfl
  |some p =>
   have:=hI.wd.dom _ p.1 p.2 hx;omega
 .rw[apR (hI.wd.dom k b c hb)]
 .rw[List.getElem?_append_right (by omega),Nat.add_sub_cancel_left]
  exact hi
 .exact hK E' _ ⟨by rw[put_defers];exact hI.defers,kD (mG hle hI.frame) hd (λ _=>hu) (λ h=>by cases h),hWd⟩
theorem Jp (hT:Ao P T) {E:Env} {s:St} {a:Act} {o:Oper} {v:AV} {mem1:List Row} (hI:Inv A0 R w0 E s a) (hN:adA T s o=some (true,v,mem1)) (hk:UQ s o=true) (K:Act->World->Prop) (hK:∀E' a',Inv A0 R w0 E' ⟨ow s.slots o.dst (v,[]),mem1⟩ a'->K a' E'.w) :
    if azm o (yielded ops a.tmps)then o.wp P a E.w K Q else K (a.put o.dst undef) E.w:=by
  unfold UQ at hk;simp only[J8]at hk;obtain⟨hg,hops,hd⟩:=hk;rw[if_pos (uf hg)];rw[apB]at hops;have hρ:∀y,y∈o.op.operands->rel E (aG s y) (a.eval y):=λ y hy=>iF hI.frame rfl y (hops y (by simpa using hy));unfold adA at hN;split at hN
  . rename_i c hop
    split at hN
    . rename_i x Br
      split at hN
      . rename_i f hfo
        split at hN
        . rename_i g hgn
          obtain⟨⟨fn,h1,h2,h3⟩,hs⟩:=hT.2.2.2.1 f g hgn _ _ _ _ hN;obtain⟨callee,args,argTypes⟩:=c;simp only at Br;subst Br
          have hr:dB E (args.toList.map (aG s)) (args.map a.eval).toList:=by
            have:=lS (E:=E) (s:=s) (ρ:=a.eval) (ys:=args.toList) (λ y hy=>hρ y (by rw[hop];simp[Op.operands,ayu];exact aaH (by simpa using hy)));simpa using this
          have hc:=hs A0 R w0 E (args.map a.eval) hI.wd hI.frame.1.2 hr;unfold Oper.wp
          have hf:a.eval x=.func (.func f) #[] #[]:=by
            have g1:=hρ x (by rw[hop];simp[Op.operands,ayu]);rw[hfo]at g1;obtain⟨va,vb,e,g2,g3⟩:=VN.1 g1;have e1:va=#[]:=aA9.1 (bK.1 g2);have e2:vb=#[]:=aA9.1 (bK.1 g3);rw[e,e1,e2]
          have hrun:(execOp a.eval o).run P E.w=.ok (.enter f (args.map a.eval)) E.w:=by
            unfold execOp;simp only[hop,resolve,hf,azI,YC,abP,xU,invoke,callFunc,run_program,h1,h2,h3,azF,azd,ayX,if_false]
          rw[hrun]
          exact hc.mono λ e w'' ⟨u,E',he,hw,hle,hWd,hu⟩=>by
            subst he;have:=hK E' _ ⟨by rw[put_defers];exact hI.defers,kD (mG hle hI.frame) hd (λ _=>hu) (λ h=>by cases h),hWd⟩;rw[hw]at this;exact this
        . cases hN
      . cases hN
    . cases hN
  . cases hN
theorem Jq (      hT:Ao P T) {E:Env} {s:St} {a:Act} {o:Oper} {g:(AV->Option Out)->Option Out} {c:Chain} {v:AV} (hI:Inv A0 R w0 E s a) (hL:VJ T s o=some (true,g)) (hv:∀k',g k'=k' v) (hch:fV ops.toList s.slots o=some c) (hk:(o.op.operands.toList.all (iB s.slots c)&&jQ s.slots c o.dst)=true) (K:Act->World->Prop) (hK:∀E' a',Inv A0 R w0 E' { s with slots:=ow s.slots o.dst (v,c) } a'->K a' E'.w) :
    if azm o (yielded ops a.tmps)then o.wp P a E.w K Q else K (a.put o.dst undef) E.w:=by
  simp only[J8]at hk;obtain⟨hops,hd⟩:=hk;rw[apB]at hops;rw[jd hI.frame (λ _ _=>rfl) hch];cases ht:qo s.slots c
  . rw[if_neg (by simp)]
    exact hK E _ ⟨by rw[put_defers];exact hI.defers,kD hI.frame hd (λ h=>by rw[ht]at h;cases h) (λ _=>rfl),hI.wd⟩
  . rw[if_pos rfl]
    unfold VJ at hL;split at hL
    . rename_i cl hop
      obtain⟨callee,args,argTypes⟩:=cl;split at hL
      . rename_i f Br
        simp only at Br;subst Br;split at hL
        . rename_i g' hg
          split at hL
          . cases hL
          . cases hno:bZ (args.toList.map (aG s))
            . simp only[hno,cond_false,jN,EU]at hL
              obtain⟨asR,rfl⟩:=hL
              have hpv:lC v=true/\∀k',g' (Jm s.mem (args.toList.map (aG s))) k'=k' v:=by
                have h0:=hv λ x=>some (Out.of x);obtain⟨u,h1,h2⟩:=(hT.1.2 f g' hg).1 _ _ _ h0;cases hp:lC u
                . rw[hp]at h1;cases h1
                . rw[hp]at h1
                  simp only[cond_true,jN,Out.of,Out.mk.injEq,true_and]at h1;subst h1;exact⟨hp,h2⟩
              obtain⟨hp,hgv⟩:=hpv
              have hr:dB E (args.toList.map (aG s)) (args.map a.eval).toList:=by
                have:=lS (E:=E) (s:=s) (ρ:=a.eval) (ys:=args.toList) (λ y hy=>iF hI.frame ht y (hops y (by rw[hop];simp[Op.operands,ayu];exact aaH (by simpa using hy))));simpa using this
              have hr':=Fq _ hI.wd.rows asR hr;have hgl:vC (Env.shut E):=OP (H6 (E:=E) (E':=⟨E.w,λ _=>False,E.O⟩) ⟨λ _ _ _ LJ=>⟨id,LJ⟩,λ _ _ h=>h⟩ hI.frame.1.2) _;have hf:a.eval (.func f)=.func (.func f) #[] #[]:=rfl
              have good:Good P E v ((execOp a.eval o).run P E.w):=by
                rcases(hT.1.2 f g' hg).2 _ v hgv with⟨⟨fn,h1,h2,h3⟩,hs⟩ |hs
                . have hc:=hs (λ _=>False) E.w (args.map a.eval) (λ _ h=>h.elim) hr' hgl
                  unfold execOp;simp only[hop,resolve,hf,azI,YC,abP,xU,invoke,callFunc,run_program,h1,h2,h3,azF,azd,ayX,if_false];exact⟨rfl,hc.mono λ e w' ⟨u,g1,g2,g3⟩=>⟨u,g1,Fu v hp g2,g3⟩⟩
                . obtain⟨u,w',h1,h2,h3⟩:=hs (Env.shut E) (args.map a.eval) hr'
                  have h1:(callFunc f (args.map a.eval)).run P E.w=.ok (.value u) w':=h1;unfold execOp;simp only[hop,resolve,hf,azI,YC,abP,xU,invoke,azF,azd,h1];exact⟨Fu v hp h3,RA h2⟩
              refine OM good λ u w' hu hbl=>?_;obtain⟨hw1,hw2⟩:=hI.wd.on hbl;exact hK { E with w:=w' } _ ⟨by rw[put_defers];exact hI.defers,kD (mG hw2 hI.frame) hd (λ _=>hu) (λ h=>by rw[ht]at h;cases h),hw1⟩
            . simp only[hno,cond_true]at hL
              cases hL
        . cases hL
      . cases hL
    . cases hL
theorem Jr(hT:Ao P T){E:Env}{s s':St}{a:Act}{o:Oper}{b:Bool}{c:Chain}{bg:Eff}(hI:Inv A0 R w0 E s a)(hF:adB P T ops.toList s o=some (b,c,bg))(hd:jQ s.slots c o.dst=true)
  (hs:(qo s.slots c=true/\b=true/\s'=zm s o.dst c bg)\/(qo s.slots c=false/\s'=⟨ow s.slots o.dst (bg.v,c),s.mem⟩)) (K:Act->World->Prop) (hK:∀E' a',Inv A0 R w0 E' s' a'->K a' E'.w) :
  if azm o (yielded ops a.tmps)then o.wp P a E.w K Q else K (a.put o.dst undef) E.w:=by
 unfold adB at hF;split at hF
 .cases hF
 split at hF
 .cases hF
 split at hF
 .rename_i p ps hch
  cases hops:o.op.operands.toList.all (iB s.slots (p::ps))
  .rw[hops]at hF;cases hF
  rw[hops]at hF;simp only[cond_true]at hF;split at hF
  .rename_i b' OO hw
   simp only[jN,EU]at hF;obtain⟨rfl,rfl,rfl⟩:=hF
   have hnk:E.O s.mem.length=none:=by
    cases hx:E.O s.mem.length with
    |none=>rfl
    |some p=>exact absurd (hI.wd.dom _ p.1 p.2 hx) (Nat.lt_irrefl _)
   rw[jd hI.frame (λ _ _=>rfl) hch];rcases hs with⟨ht,rfl,rfl⟩ | ⟨ht,rfl⟩
   .rw[if_pos ht]
    rw[apB]at hops;refine Jk hT.flat hI.frame.1.2 hI.wd hnk (λ y hy=>iF hI.frame ht y (hops y (by simpa using hy))) hw (Ch hI.wd.dom) λ E' u hle _ hW' hr=>?_;exact hK E' _ ⟨by rw[put_defers];exact hI.defers,kD (mG hle hI.frame) hd (λ _=>hr) (λ h=>by rw[ht]at h;cases h),hW'⟩
   .rw[if_neg (by rw[ht];simp)]
    exact hK E _ ⟨by rw[put_defers];exact hI.defers,kD hI.frame hd (λ h=>by rw[ht]at h;cases h) (λ _=>rfl),hI.wd⟩
  .cases hF
 .cases hF
theorem oQ(hT:Ao P T):∀(l:List Oper) {E:Env} {s s':St} {a:Act},Inv A0 R w0 E s a->VK P T ops.toList l s s'->(∀E' a',Inv A0 R w0 E' s' a'->Q .normal a' E'.w)->wpList P ops Q l a E.w
 | [],E,s,s',a,hI,h,hQ=>by
  have e:s=s':=h;subst e;exact hQ E a hI
 |o::rest,E,s,s',a,hI,h,hQ=>by
  obtain⟨s1,hs,h4⟩:=h;rcases hs with(⟨v,mem1,h1,h2,rfl⟩ | ⟨v,rows,h1,h2,rfl⟩ | ⟨g,c,v,h1,h2,h3,h5,rfl⟩ | ⟨b,c,bg,h1,h2,h3,rfl⟩) | ⟨b,c,bg,h1,h2,h3⟩
  .exact wpList_step λ K hK=>Jp hT hI h1 h2 K λ E' a' hI'=>hK _ _ (oQ hT rest hI' h4 hQ)
  .exact wpList_step λ K hK=>Jo hT hI h1 h2 K λ E' a' hI'=>hK _ _ (oQ hT rest hI' h4 hQ)
  .exact wpList_step λ K hK=>Jq hT hI h1 h2 h3 h5 K λ E' a' hI'=>hK _ _ (oQ hT rest hI' h4 hQ)
  .exact wpList_step λ K hK=>Ji hT.flat hI h1 h2 h3 K λ E' a' hI'=>hK _ _ (oQ hT rest hI' h4 hQ)
  .exact wpList_step λ K hK=>Jr hT hI h1 h2 h3 K λ E' a' hI'=>hK _ _ (oQ hT rest hI' h4 hQ)
end
def Js(slots:List (AV × Chain)):List (AV × Chain):=slots.map λ q=>(match q.2 with | []=>q.1 |_::_=>.any,[])
def G6(s:St):St:={ s with slots:=Js s.slots }
theorem Jt{E:Env}{F s:List (AV × Chain)}{tmps:Array Value}(h:Bo E F s tmps)(F':List (AV × Chain)):Bo E F' (Js s) tmps:=by
 refine⟨⟨by rw[h.1.1];simp[Js],h.1.2⟩,λ t=>?_⟩
 have hs:(Js s).getD t dflt=(match(s.getD t dflt).2 with | []=>(s.getD t dflt).1 |_::_=>.any,[]):=by
  simp only[Js,amh,azh];cases s[t]? with
  |none=>rfl
  |some q=>rfl
 rw[hs];refine⟨λ _=>?_,λ h'=>by cases h'⟩;simp only;cases hc:(s.getD t dflt).2 with
 |nil=>exact(h.2 t).1 (by rw[hc];rfl)
 |cons p c=>exact lQ
theorem Inv.clear{A0 R:Nat->Prop}{w0:Env}{E:Env}{s:St}{a:Act}(hI:Inv A0 R w0 E s a):Inv A0 R w0 E (G6 s) a:=⟨hI.defers,Jt hI.frame _,hI.wd⟩
def jA:Code->Option Nat
 |.region id _ _=>some id
 |.seq x y=>match jA x with
  |some i=>some i
  |none=>jA y
 |.block _ c=>jA c
 |.loop c=>jA c
 |.scope c=>jA c
 |.cond _ x y=>match jA x with
  |some i=>some i
  |none=>jA y
 |_=>none
def bC:Code->List Code
 |.seq x y=>bC x++bC y
 |.block _ c=>bC c
 |.loop c=>c::bC c
 |.scope c=>bC c
 |.cond _ x y=>bC x++bC y
 |_=>[]
abbrev dN:=St->jZ->Option Out
def rounds(body:St->jZ->Option Out)(k:jZ):Nat->St->Option Out
 | 0,_=>none
 |n+1,s=>body s λ e s'=>match e with
  |.normal=>rounds body k n s'
  |e=>k e s'
def gT(P:Program)(T:Tab)(D:List Oper->St->SK->Option Out)(L:Nat->Option dN)(N:Nat):Code->St->jZ->Option Out
 |.skip,s,k=>k .normal s
 |.region _ ops draw,s,k=>cond draw (D ops.toList s λ s'=>k .normal (G6 s')) (oC P T ops.toList ops.toList s λ s'=>k .normal (G6 s'))
 |.seq x y,s,k=>gT P T D L N x s λ e s'=>match e with
  |.normal=>gT P T D L N y s' k
  |e=>k e s'
 |.cond c x y,s,k=>cond (iB s.slots [] c) (match aG s c with
  |.x (.bool b)=>cond b (gT P T D L N x s k) (gT P T D L N y s k)
  |_=>none) none
 |.block id c,s,k=>gT P T D L N c s λ e s'=>match e with
  |.exit id'=>cond (id'==id) (k .normal s') (k (.exit id') s')
  |e=>k e s'
 |.loop c,s,k=>match jA c with
  |some i=>match L i with
   |some g=>g s k
   |none=>rounds (λ s k=>gT P T D L N c s k) k N s
  |none=>none
 |.exit id,s,k=>k (.exit id) s
 |.scope c,s,k=>gT P T D L N c s λ e s'=>match e with
  |.goto _=>none
  |e=>k e s'
 |.label _,s,k=>k .normal s
 |.ret,s,k=>k .ret s
 |_,_,_=>none
def asS(D:List Oper->St->SK->Option Out):Prop:=∀ops s k r,D ops s k=some r->∃s',k s'=some r/\∀k',D ops s k'=k' s'
def DOk(P:Program)(D:List Oper->St->SK->Option Out):Prop:=asS D /\
 ∀(A0 R:Nat->Prop) (w0:Env) (E:Env) (s s':St) (a:Act) (id:Nat) (ops:Array Oper) (Q:Exit->Act->World->Prop),Inv A0 R w0 E s a->(∀k',D ops.toList s k'=k' s') ->
  (∀E' a',Inv A0 R w0 E' (G6 s') a'->Q .normal a' E'.w)->(Code.region id ops true).wp P Q a E.w
def avT(g:dN):Prop:=∀s k r,g s k=some r->∃e s',k e s'=some r/\∀k',g s k'=k' e s'
def Ju(np:Nat)(A0 R:Nat->Prop)(w0:Env):Prop:=(∀k,np<=k->w0.O k=none)/\(∀b,R b->∃k c,k<np/\w0.O k=some (b,c))/\∀b,A0 b->b<w0.w.heap.size
def Dw(np:Nat)(P:Program)(c:Code)(g:dN):Prop:=avT g /\
 ∀(s s':St) (e:Exit),(∀k',g s k'=k' e s')->∀(A0 R:Nat->Prop) (w0:Env) (E:Env) (a:Act),Ju np A0 R w0->Inv A0 R w0 E s a->(Code.loop c).wp P (λ e' a' w'=>e'=e/\∃E',E'.w=w'/\Inv A0 R w0 E' s' a') a E.w
def nu(np:Nat)(P:Program)(L:Nat->Option dN)(c:Code):Prop:=∀c',c'∈bC c->∀i g,jA c'=some i->L i=some g->Dw np P c' g
abbrev gI(P:Program)(c:Code)(g:dN):Prop:=Dw 0 P c g
abbrev yN(P:Program)(L:Nat->Option dN)(c:Code):Prop:=nu 0 P L c
section
variable{P:Program}{T:Tab}{D:List Oper->St->SK->Option Out}{L:Nat->Option dN}{A0 R:Nat->Prop}{w0:Env}
def Post(A0 R:Nat->Prop)(w0:Env)(k:jZ)(r:Out):Exit->Act->World->Prop :=
 λ e a' w'=>∃E' s',E'.w=w'/\Inv A0 R w0 E' s' a'/\k e s'=some r
theorem Dx{np:Nat}(hp0:Ju np A0 R w0)(hT:Ao P T)(hD:DOk P D)(N:Nat)(c:Code):nu np P L c->∀{E:Env} {s:St} {k:jZ} {r:Out} {a:Act},Inv A0 R w0 E s a->gT P T D L N c s k=some r->c.wp P (Post A0 R w0 k r) a E.w:=by
 induction c with
 |skip=>intro _ E s k r a hI h;exact wp_skip ⟨E,s,rfl,hI,h⟩
 |label l=>intro _ E s k r a hI h;exact wp_label ⟨E,s,rfl,hI,h⟩
 |ret=>intro _ E s k r a hI h;exact wp_ret ⟨E,s,rfl,hI,h⟩
 |exit id=>intro _ E s k r a hI h;exact wp_exit ⟨E,s,rfl,hI,h⟩
 |goto l=>intro _ E s k r a hI h;simp[gT]at h
 |refuse y=>intro _ E s k r a hI h;simp[gT]at h
 |rangeFunc f ps x y Zg ihy=>intro _ E s k r a hI h;simp[gT]at h
 |region id ops draw =>
  intro _ E s k r a hI h;simp only[gT]at h;cases draw with
  |true =>
   simp only[cond_true]at h;obtain⟨s1,h1,h2⟩:=hD.1 _ _ _ _ h;exact hD.2 A0 R w0 E s s1 a id ops _ hI h2 λ E' a' hI'=>⟨E',_,rfl,hI',h1⟩
  |false =>
   simp only[cond_false]at h;obtain⟨s1,h1,h2,_⟩:=rD hT.par h;exact wp_region_list (oQ hT ops.toList hI h1 λ E' a' hI'=>⟨E',_,rfl,hI'.clear,h2⟩)
 |seq x y Zg ihy =>
  intro hL E s k r a hI h;simp only[gT]at h;have hLx:nu np P L x:=λ c' hc'=>hL c' (by simp[bC,hc']);have hLy:nu np P L y:=λ c' hc'=>hL c' (by simp[bC,hc']);refine wp_seq (ayx ?_ (Zg hLx hI h));rintro e a' w' ⟨E',s',rfl,hI',he⟩;cases e<;>simp only[Exit.then]at he ⊢
  case normal=>exact ihy hLy hI' he
  all_goals exact⟨E',s',rfl,hI',he⟩
 |cond c x y Zg ihy =>
  intro hL E s k r a hI h;simp only[gT]at h;have hLx:nu np P L x:=λ c' hc'=>hL c' (by simp[bC,hc']);have hLy:nu np P L y:=λ c' hc'=>hL c' (by simp[bC,hc']);cases ho:iB s.slots [] c
  .rw[ho]at h;cases h
  .rw[ho]at h
   simp only[cond_true]at h;split at h
   .rename_i b hb
    have hv:=iF hI.frame (c:=[]) rfl c ho;rw[hb]at hv;refine wp_cond (t:=b) (Dy hv) ?_;cases b
    .exact ihy hLy hI h
    .exact Zg hLx hI h
   .cases h
 |block id c ih =>
  intro hL E s k r a hI h;simp only[gT]at h;refine wp_block (ayx ?_ (ih (λ c' hc'=>hL c' (by simpa[bC]using hc')) hI h));rintro e a' w' ⟨E',s',rfl,hI',he⟩;cases e<;>simp only[Exit.inBlock]at he ⊢
  case exit id' =>
   by_cases hid:id'=id
   .rw[if_pos hid]
    have:(id'==id)=true:=by simpa using hid
    rw[this]at he;exact⟨E',s',rfl,hI',he⟩
   .rw[if_neg hid]
    have:(id'==id)=false:=by simpa using hid
    rw[this]at he;exact⟨E',s',rfl,hI',he⟩
  all_goals exact⟨E',s',rfl,hI',he⟩
 |loop c ih =>
  intro hL E s k r a hI h;simp only[gT]at h;split at h
  .rename_i i hi
   split at h
   .rename_i g hg
    obtain⟨hp,hs⟩:=hL c (by simp[bC]) i g hi hg;obtain⟨e,s',h1,h2⟩:=hp s k r h;refine ayx ?_ (hs s s' e h2 A0 R w0 E a hp0 hI);rintro e' a' w' ⟨rfl,E',hw,hI'⟩;exact⟨E',s',hw,hI',h1⟩
   .refine wp_loop_rounds N ?_
    have hLc:nu np P L c:=λ c' hc'=>hL c' (by simp[bC,hc'])
    have key:∀(n:Nat) {E:Env} {s:St} {a:Act},Inv A0 R w0 E s a->rounds (λ s k=>gT P T D L N c s k) k n s=some r->aEG P c (Post A0 R w0 k r) n a E.w:=by
     intro n
     induction n with
     |zero=>intro E s a hI h;simp[rounds]at h
     |succ n ihn =>
      intro E s a hI h;simp only[rounds]at h;rw[rounds_succ];refine ayx ?_ (ih hLc hI h);rintro e a' w' ⟨E',s',rfl,hI',he⟩;cases e<;>simp only[Exit.then]at he ⊢
      case normal=>exact ihn hI' he
      all_goals exact⟨E',s',rfl,hI',he⟩
    exact key N hI h
  .cases h
 |scope c ih =>
  intro hL E s k r a hI h;simp only[gT]at h;refine wp_scope_straight (ayx ?_ (ih (λ c' hc'=>hL c' (by simpa[bC]using hc')) hI h));rintro e a' w' ⟨E',s',rfl,hI',he⟩;cases e<;>simp only[Exit.noGoto]at he ⊢
  case goto l=>cases he
  all_goals exact⟨E',s',rfl,hI',he⟩
end
theorem Jv{body:St->jZ->Option Out}(hb:∀s k r,body s k=some r->∃e s',k e s'=some r/\∀k',body s k'=k' e s'):∀(n:Nat) (s:St) (k:jZ) (r:Out),rounds body k n s=some r->∃e s',k e s'=some r/\∀k',rounds body k' n s=k' e s'
 | 0,s,k,r,h=>by simp[rounds]at h
 |n+1,s,k,r,h=>by
  simp only[rounds]at h;obtain⟨e,s1,h1,h2⟩:=hb _ _ _ h;by_cases he:e=.normal
  .subst he
   simp only at h1;obtain⟨e2,s2,h3,h4⟩:=Jv hb n s1 k r h1;exact⟨e2,s2,h3,λ k'=>by simp only[rounds];rw[h2];exact h4 k'⟩
  .refine⟨e,s1,?_,λ k'=>?_⟩
   .cases e<;>first |exact absurd rfl he |exact h1
   .simp only[rounds];rw[h2];cases e<;>first |exact absurd rfl he |rfl
theorem aaU{np:Nat}{P:Program}{T:Tab}{D:List Oper->St->SK->Option Out}{L:Nat->Option dN}(hT:LG T)(hD:asS D)(N:Nat)(c:Code):nu np P L c->∀(s:St) (k:jZ) (r:Out),gT P T D L N c s k=some r->∃e s',k e s'=some r/\∀k',gT P T D L N c s k'=k' e s':=by
 induction c with
 |skip=>intro _ s k r h;exact⟨_,_,h,λ _=>rfl⟩
 |label l=>intro _ s k r h;exact⟨_,_,h,λ _=>rfl⟩
 |ret=>intro _ s k r h;exact⟨_,_,h,λ _=>rfl⟩
 |exit id=>intro _ s k r h;exact⟨_,_,h,λ _=>rfl⟩
 |goto l=>intro _ s k r h;simp[gT]at h
 |refuse y=>intro _ s k r h;simp[gT]at h
 |rangeFunc f ps x y Zg ihy=>intro _ s k r h;simp[gT]at h
 |region id ops draw =>
  intro _ s k r h;simp only[gT]at h ⊢;cases draw with
  |true =>
   simp only[cond_true]at h ⊢;obtain⟨s1,h1,h2⟩:=hD _ _ _ _ h;exact⟨_,_,h1,λ k'=>h2 _⟩
  |false =>
   simp only[cond_false]at h ⊢;obtain⟨s1,_,h2,h3⟩:=rD hT h;exact⟨_,_,h2,λ k'=>h3 _⟩
 |seq x y Zg ihy =>
  intro hL s k r h;simp only[gT]at h ⊢;obtain⟨e,s1,h1,h2⟩:=Zg (λ c' hc'=>hL c' (by simp[bC,hc'])) _ _ _ h;by_cases he:e=.normal
  .subst he
   simp only at h1;obtain⟨e2,s2,h3,h4⟩:=ihy (λ c' hc'=>hL c' (by simp[bC,hc'])) _ _ _ h1;exact⟨e2,s2,h3,λ k'=>by rw[h2];exact h4 k'⟩
  .refine⟨e,s1,?_,λ k'=>?_⟩
   .cases e<;>first |exact absurd rfl he |exact h1
   .rw[h2];cases e<;>first |exact absurd rfl he |rfl
 |cond c x y Zg ihy =>
  intro hL s k r h;simp only[gT]at h ⊢;cases ho:iB s.slots [] c
  .rw[ho]at h;cases h
  .rw[ho]at h
   simp only[cond_true]at h ⊢;split at h
   .rename_i b hb
    cases b
    .obtain⟨e,s1,h1,h2⟩:=ihy (λ c' hc'=>hL c' (by simp[bC,hc'])) _ _ _ h;exact⟨e,s1,h1,h2⟩
    .obtain⟨e,s1,h1,h2⟩:=Zg (λ c' hc'=>hL c' (by simp[bC,hc'])) _ _ _ h;exact⟨e,s1,h1,h2⟩
   .cases h
 |block id c ih =>
  intro hL s k r h;simp only[gT]at h ⊢;obtain⟨e,s1,h1,h2⟩:=ih (λ c' hc'=>hL c' (by simpa[bC]using hc')) _ _ _ h;by_cases he:e=.exit id
  .subst he
   simp only[BEq.rfl,cond_true]at h1;exact⟨_,_,h1,λ k'=>by rw[h2];simp⟩
  .refine⟨e,s1,?_,λ k'=>?_⟩
   .cases e<;>first |exact h1 |skip
    rename_i id'
    have:(id'==id)=false:=by
     cases hh:id'==id
     .rfl
     .exact absurd (by rw[eq_of_beq hh]) he
    simp only[this,cond_false]at h1;exact h1
   .rw[h2]
    cases e<;>first |rfl |skip
    rename_i id'
    have:(id'==id)=false:=by
     cases hh:id'==id
     .rfl
     .exact absurd (by rw[eq_of_beq hh]) he
    simp only[this,cond_false]
 |loop c ih =>
  intro hL s k r h;simp only[gT]at h ⊢;split at h
  .rename_i i hi
   split at h
   .rename_i g hg
    exact(hL c (by simp[bC]) i g hi hg).1 s k r h
   .exact Jv (body:=λ s k=>gT P T D L N c s k) (ih λ c' hc'=>hL c' (by simp[bC,hc'])) N s k r h
  .cases h
 |scope c ih =>
  intro hL s k r h;simp only[gT]at h ⊢;obtain⟨e,s1,h1,h2⟩:=ih (λ c' hc'=>hL c' (by simpa[bC]using hc')) _ _ _ h;refine⟨e,s1,?_,λ k'=>?_⟩
  .cases e<;>first |exact h1 |cases h1
  .rw[h2];cases e<;>first |rfl |cases h1
end
noncomputable section
mutual
def jw(σ:Nat->Option Nat):AV->AV
 |.own k off=>match σ k with
  |some k'=>.own k' off
  |none=>.any
 |.pR k sz i sub=>match σ k with
  |some k'=>.pR k' sz i sub
  |none=>.any
 |.fJ k sz st len=>match σ k with
  |some k'=>.fJ k' sz st len
  |none=>.any
 |.view k sz st sub n=>match σ k with
  |some k'=>.view k' sz st sub n
  |none=>.any
 |.agg l=>.agg (gP σ l)
 |.aN l=>.aN (gP σ l)
 |.sW t x=>.sW t (jw σ x)
 |.fn g a b=>.fn g (gP σ a) (gP σ b)
 |.x v=>.x v
 |.f w=>.f w
 |.cx a b=>.cx a b
 |.ref l o=>.ref l o
 |.sl sz n el=>.sl sz n el
 |.any=>.any
def gP(σ:Nat->Option Nat):List AV->List AV
 | []=>[]
 |x::xs=>jw σ x::gP σ xs
end
mutual
theorem vJ:∀(x:AV) {σ:Nat->Option Nat} {E:Env} {O':Nat->Option (Nat × Nat × Nat)} (_:∀k k' p,σ k=some k'->E.O k=some p->O' k'=some p) (u:Value),bN x E u->bN (jw σ x) { E with O:=O' } u
 |.x v,σ,E,O',_,u,hr=>by rw[jw];unfold bN at *;exact hr
 |.f a,σ,E,O',_,u,hr=>by rw[jw];unfold bN at *;exact hr
 |.cx a c,σ,E,O',_,u,hr=>by rw[jw];unfold bN at *;exact hr
 |.agg l,σ,E,O',h,u,hr=>by
  rw[jw];unfold bN at *;obtain⟨vs,h1,h2⟩:=hr;exact⟨vs,h1,oU l h _ h2⟩
 |.aN l,σ,E,O',h,u,hr=>by
  rw[jw];unfold bN at *;obtain⟨vs,h1,h2⟩:=hr;exact⟨vs,h1,oU l h _ h2⟩
 |.own k off,σ,E,O',h,u,hr=>by
  rw[jw];split
  .rename_i k' hk
   unfold bN at *;obtain⟨b,c,h1,h2⟩:=hr;exact⟨b,c,h k k' _ hk h1,h2⟩
  .exact bV
 |.pR k sz i sub,σ,E,O',h,u,hr=>by
  rw[jw];split
  .rename_i k' hk
   unfold bN at *;obtain⟨b,c,h1,h2⟩:=hr;exact⟨b,c,h k k' _ hk h1,h2⟩
  .exact bV
 |.view k sz st sub n,σ,E,O',h,u,hr=>by
  rw[jw];split
  .rename_i k' hk
   unfold bN at *;obtain⟨a,c,h1,h2,h3⟩:=hr;refine⟨a,c,h1,h2,?_⟩;rcases h3 with h3 | ⟨b,c',h4,h5⟩
   .exact ER h3
   .exact aaH ⟨b,c',h k k' _ hk h4,h5⟩
  .exact bV
 |.fJ k sz st len,σ,E,O',h,u,hr=>by
  rw[jw];split
  .rename_i k' hk
   unfold bN at *;rcases hr with hr | ⟨b,c,n,h1,h2⟩
   .exact ER hr
   .exact aaH ⟨b,c,n,h k k' _ hk h1,h2⟩
  .exact bV
 |.ref l off,σ,E,O',h,u,hr=>by rw[jw];unfold bN at *;exact hr
 |.sl sz n el,σ,E,O',h,u,hr=>by rw[jw];unfold bN at *;exact hr
 |.sW t x,σ,E,O',h,u,hr=>by
  rw[jw];unfold bN at *;obtain⟨y,h1,h2⟩:=hr;exact⟨y,h1,vJ x h y h2⟩
 |.fn g a b,σ,E,O',h,u,hr=>by
  rw[jw];unfold bN at *;obtain⟨va,vb,h1,h2,h3⟩:=hr;exact⟨va,vb,h1,oU a h _ h2,oU b h _ h3⟩
 |.any,σ,E,O',_,_,_=>by rw[jw];exact bV
theorem oU:∀(xs:List AV) {σ:Nat->Option Nat} {E:Env} {O':Nat->Option (Nat × Nat × Nat)} (_:∀k k' p,σ k=some k'->E.O k=some p->O' k'=some p) (us:List Value),gU xs E us->gU (gP σ xs) { E with O:=O' } us
 | [],σ,E,O',_,us,hr=>by rw[gP];cases us<;>(unfold gU at *;exact hr)
 |x::xs,σ,E,O',h,u::us,hr=>by
  rw[gP];unfold gU at *;exact⟨vJ x h u hr.1,oU xs h us hr.2⟩
 |x::xs,σ,E,O',h,[],hr=>by unfold gU at hr;exact hr.elim
end
def Mw(σ:Nat->Option Nat)(x x':AV):Prop:=x'=.any\/x'=jw σ x\/(x=.x (.slice none 0 0)/\∃k sz,x'=.fJ k sz 0 0)
theorem Mw.rel{σ:Nat->Option Nat}{x x':AV}(h:Mw σ x x'){E:Env}{O':Nat->Option (Nat × Nat × Nat)}(hO:∀k k' p,σ k=some k'->E.O k=some p->O' k'=some p){u:Value}(hr:rel E x u):rel { E with O:=O' } x' u:=by
 rcases h with rfl |rfl | ⟨rfl,k,sz,rfl⟩
 .exact lQ
 .exact vJ x hO u hr
 .exact fM.2 (ER ⟨rfl,rfl,bI.1 hr⟩)
def Gt(σ:Nat->Option Nat):List (AV × Chain)->List (AV × Chain)->Prop
 | [],[]=>True
 |x::xs,y::ys=>(y.2=[]/\(y.1=.any\/(x.2=[]/\Mw σ x.1 y.1)))/\Gt σ xs ys
 |_,_=>False
def ug(σ:Nat->Option Nat):List AV->List AV->Prop
 |_,[]=>True
 |x::xs,y::ys=>Mw σ x y/\ug σ xs ys
 | [],_::_=>False
def Fv(σ:Nat->Option Nat)(row row':Row):Prop :=
 row'=.dead\/(∃l l',row=.c l/\row'=.c l'/\ug σ l l')\/(∃e sz n el sZ,row=.a e sz n el/\row'=.a e sz n sZ/\∀i,i<n->sZ i=el i)\/(∃e l l',row=.t e l/\row'=.t e l'/\ug σ l l'/\l'.length=l.length)\/(∃s p e,row=.i s p e/\row'=.i s p e)
def jR(τ:List (Option Nat))(k:Nat):Option Nat:=τ.findIdx? (·==some k)
def o8(τ:List (Option Nat))(mem:List Row):List (Option Nat)->List Row->Prop
 | [],[]=>True
 |o::os,row'::rows=>(match o with
  |some k=>∃row,mem[k]?=some row/\Fv (jR τ) row row'
  |none=>True)/\o8 τ mem os rows
 |_,_=>False
def iV(np:Nat)(s s':St):Prop:=∀(A0 R:Nat->Prop) (w0:Env) (E:Env) (a:Act),Ju np A0 R w0->Inv A0 R w0 E s a->∃E',E'.w=E.w/\Inv A0 R w0 E' s' a
abbrev Sub(s s':St):Prop:=iV 0 s s'
theorem iV.refl{np:Nat}(s:St):iV np s s:=λ _ _ _ E _ _ h=>⟨E,rfl,h⟩
theorem Sub.refl(s:St):Sub s s:=iV.refl s
theorem iV.trans{np:Nat}{s s' s'':St}(h:iV np s s')(g:iV np s' s''):iV np s s'':=λ A0 R w0 E a hp hI=>by
 obtain⟨E1,e1,h1⟩:=h A0 R w0 E a hp hI;obtain⟨E2,e2,h2⟩:=g A0 R w0 E1 a hp h1;exact⟨E2,e2.trans e1,h2⟩
theorem Jw{τ:List (Option Nat)}{k k':Nat}(h:jR τ k=some k'):τ[k']?=some (some k):=by
 unfold jR at h;rw[List.findIdx?_eq_some_iff_getElem]at h;obtain⟨h1,h2,_⟩:=h;rw[List.getElem?_eq_getElem h1];simpa using h2
theorem Gt.get{σ:Nat->Option Nat}:∀{xs ys:List (AV × Chain)},Gt σ xs ys->xs.length=ys.length/\∀t,(ys.getD t dflt).2=[]/\((ys.getD t dflt).1=.any\/((xs.getD t dflt).2=[]/\Mw σ (xs.getD t dflt).1 (ys.getD t dflt).1))
 | [],[],_=>⟨rfl,λ t=>⟨rfl,aaH ⟨rfl,aaH (ER rfl)⟩⟩⟩
 |x::xs,y::ys,h=>by
  obtain⟨h1,h2⟩:=Gt.get h.2;refine⟨by simp[h1],λ t=>?_⟩;cases t with
  |zero=>exact h.1
  |succ t=>simpa using h2 t
 | [],_::_,h=>h.elim
 |_::_,[],h=>h.elim
theorem ug.pre{σ:Nat->Option Nat}{E:Env}{O':Nat->Option (Nat × Nat × Nat)}(hO:∀k k' p,σ k=some k'->E.O k=some p->O' k'=some p):∀{l l':List AV} {us:List Value},ug σ l l'->pre E l us->pre { E with O:=O' } l' us
 |_,[],_,_,_=>pre_nil
 |x::xs,y::ys,us,h,hp=>by
  obtain⟨u,us',rfl,h1,h2⟩:=bE.1 hp;exact bE.2 ⟨u,us',rfl,h.1.rel hO h1,ug.pre hO h.2 h2⟩
 | [],_::_,_,h,_=>h.elim
theorem Fv.rel{σ:Nat->Option Nat}{row row':Row}(h:Fv σ row row'){E:Env}{O':Nat->Option (Nat × Nat × Nat)}(hO:∀k k' p,σ k=some k'->E.O k=some p->O' k'=some p){b:Nat}{c:Nat × Nat}(hr:rH E b c row):rH { E with O:=O' } b c row':=by
 rcases h with rfl | ⟨l,l',rfl,rfl,h⟩ | ⟨e,sz,n,el,sZ,rfl,rfl,h⟩ | ⟨e,l,l',rfl,rfl,h,hl⟩ | ⟨s,p,e,rfl,rfl⟩
 .trivial
 .obtain⟨cs,e,h1,h2⟩:=hr
  exact⟨cs,e,h1,h.pre hO h2⟩
 .obtain⟨cs,h1,h2,h3,h4,h5,h6⟩:=hr
  exact⟨cs,h1,h2,h3,h4,h5,λ i hi=>by rw[h i hi];exact h6 i hi⟩
 .obtain⟨cs,h1,h2,h3⟩:=hr
  exact⟨cs,h1,h.pre hO h2,by rw[hl];exact h3⟩
 .exact hr
theorem Fv.live{σ:Nat->Option Nat}{row row':Row}(h:Fv σ row row')(hl:row'.live=true):row.live=true:=by
 rcases h with rfl | ⟨l,l',rfl,rfl,h⟩ | ⟨e,sz,n,el,sZ,rfl,rfl,h⟩ | ⟨e,l,l',rfl,rfl,h,_⟩ | ⟨s,p,e,rfl,rfl⟩
 .cases hl
 .rfl
 .rfl
 .rfl
 .rfl
theorem o8.get{τ:List (Option Nat)}{mem:List Row}:∀{os:List (Option Nat)} {rows:List Row},o8 τ mem os rows->∀(k' k:Nat),os[k']?=some (some k)->∃row row',mem[k]?=some row/\rows[k']?=some row'/\Fv (jR τ) row row'
 | [],[],_,k',k,h=>by simp at h
 |o::os,row'::rows,h,k',k,hk=>by
  cases k' with
  |zero =>
   simp at hk;subst hk;obtain⟨row,h1,h2⟩:=h.1;exact⟨row,row',h1,rfl,h2⟩
  |succ k'=>simpa using o8.get h.2 k' k (by simpa using hk)
 | [],_::_,h,_,_,_=>h.elim
 |_::_,[],h,_,_,_=>h.elim
def distinct:List (Option Nat)->Bool
 | []=>true
 |none::os=>distinct os
 |some k::os=>!(os.contains (some k))&&distinct os
theorem qK:∀{os:List (Option Nat)},distinct os=true->∀(i j k:Nat),os[i]?=some (some k)->os[j]?=some (some k)->i=j
 | [],_,i,j,k,h,_=>by simp at h
 |none::os,hd,i,j,k,hi,hj=>by
  cases i with
  |zero=>simp at hi
  |succ i =>
   cases j with
   |zero=>simp at hj
   |succ j=>rw[qK (os:=os) hd i j k (by simpa using hi) (by simpa using hj)]
 |some k0::os,hd,i,j,k,hi,hj=>by
  simp only[distinct,J8,Bool.not_eq_true']at hd
  have hno:∀n,os[n]?≠some (some k0):=λ n hn=>by
   have:os.contains (some k0)=true:=List.contains_iff_mem.2 (List.mem_of_getElem? hn);rw[hd.1]at this;cases this
  cases i with
  |zero =>
   simp at hi;subst hi;cases j with
   |zero=>rfl
   |succ j=>exact absurd (by simpa using hj) (hno j)
  |succ i =>
   cases j with
   |zero =>
    simp at hj;subst hj;exact absurd (by simpa using hi) (hno i)
   |succ j=>rw[qK hd.2 i j k (by simpa using hi) (by simpa using hj)]
theorem Zh{np:Nat}{s s':St}(τ:List (Option Nat))(zn:∀k,k<np->τ[k]?=some (some k))(hd:distinct τ=true)(h1:Gt (jR τ) s.slots s'.slots)(h2:o8 τ s.mem τ s'.mem):iV np s s':=by
 intro A0 R w0 E a hp0 hI
 let O':Nat->Option (Nat × Nat × Nat):=λ k'=>match τ[k']? with
  |some (some k)=>E.O k
  |_=>none
 have hO:∀k k' p,jR τ k=some k'->E.O k=some p->O' k'=some p:=λ k k' p hk hp=>by
  show(match τ[k']? with |some (some k)=>E.O k |_=>none)=some p
  rw[Jw hk];exact hp
 have back:∀k' p,O' k'=some p->∃k,τ[k']?=some (some k)/\E.O k=some p:=λ k' p hp=>by
  have hp':(match τ[k']? with |some (some k)=>E.O k |_=>none)=some p:=hp
  split at hp'
  .rename_i k hk;exact⟨k,hk,hp'⟩
  .cases hp'
 obtain⟨hlen,hget⟩:=h1.get
 have lives:∀k' k,τ[k']?=some (some k)->aK s'.mem k'=true->aK s.mem k=true:=λ k' k hk hl=>by
  obtain⟨row,row',g1,g2,g3⟩:=h2.get k' k hk;unfold aK at hl ⊢;rw[g2]at hl;rw[g1];exact g3.live hl
 refine⟨{ E with O:=O' },rfl,hI.defers,⟨⟨by rw[hI.frame.1.1,hlen],OP hI.frame.1.2 _⟩,λ t=>?_⟩,⟨?_,hI.wd.small,hI.wd.old,?_,?_,hI.wd.below,⟨hI.wd.CY.keep,λ k p hk=>?_⟩⟩⟩
 .obtain⟨g1,g2⟩:=hget t
  rw[g1];refine⟨λ _=>?_,λ h=>by cases h⟩;rcases g2 with g2 | ⟨g2,g3⟩
  .rw[g2];exact lQ
  .exact g3.rel hO ((hI.frame.2 t).1 (by rw[g2];rfl))
 .intro k' b c hb
  obtain⟨k,hk,hb'⟩:=back k' _ hb;obtain⟨row,row',g1,g2,g3⟩:=h2.get k' k hk;obtain⟨row0,g4,g5⟩:=hI.wd.rows k b c hb';rw[g1]at g4;cases g4;exact⟨row',g2,g3.rel hO g5⟩
 .intro k' b c hb hl
  obtain⟨k,hk,hb'⟩:=back k' _ hb;exact hI.wd.own k b c hb' (lives k' k hk hl)
 .intro k' k'' b c c' hb hb' hl hl'
  obtain⟨k,hk,hbk⟩:=back k' _ hb;obtain⟨k2,hk2,hbk2⟩:=back k'' _ hb';have:=hI.wd.one k k2 b c c' hbk hbk2 (lives k' k hk hl) (lives k'' k2 hk2 hl');subst this;exact qK hd k' k'' k hk hk2
 .have hlt:k<np:=Nat.lt_of_not_le λ hc=>by rw[hp0.1 k hc]at hk;cases hk
  show(match τ[k]? with |some (some k)=>E.O k |_=>none)=some p
  rw[zn k hlt];exact hI.wd.CY.own k p hk
theorem VO{s s':St}(τ:List (Option Nat))(hd:distinct τ=true)(h1:Gt (jR τ) s.slots s'.slots)(h2:o8 τ s.mem τ s'.mem):Sub s s':=Zh τ (λ k hk=>absurd hk (Nat.not_lt_zero k)) hd h1 h2
theorem Sub.trans{s s' s'':St}(h:Sub s s')(g:Sub s' s''):Sub s s'':=iV.trans h g
def fG(np:Nat)(P:Program)(c:Code)(s:St)(e:Exit)(s':St):Prop :=
 ∀(A0 R:Nat->Prop) (w0:Env) (E:Env) (a:Act),Ju np A0 R w0->Inv A0 R w0 E s a->c.wp P (λ e' a' w'=>e'=e/\∃E',E'.w=w'/\Inv A0 R w0 E' s' a') a E.w
abbrev bF(P:Program)(c:Code)(s:St)(e:Exit)(s':St):Prop:=fG 0 P c s e s'
theorem fG.sub{np:Nat}{P:Program}{c:Code}{s s1 s2 s3:St}{e:Exit}(h:fG np P c s1 e s2)(g1:iV np s s1)(g2:iV np s2 s3):fG np P c s e s3:=λ A0 R w0 E a hp hI=>by
 obtain⟨E1,e1,h1⟩:=g1 A0 R w0 E a hp hI;rw[<-e1];refine ayx ?_ (h A0 R w0 E1 a hp h1);rintro e' a' w' ⟨rfl,E',rfl,hI'⟩;obtain⟨E2,e2,h2⟩:=g2 A0 R w0 E' a' hp hI';exact⟨rfl,E2,e2,h2⟩
theorem bF.sub{P:Program}{c:Code}{s s1 s2 s3:St}{e:Exit}(h:bF P c s1 e s2)(g1:Sub s s1)(g2:Sub s2 s3):bF P c s e s3:=fG.sub h g1 g2
def fin:jZ:=λ e s=>some ⟨e,s,.any⟩
theorem aU{np:Nat}{P:Program}{c:Code}(S:Nat->St)(n:Nat)(e:Exit)(sf:St)(he:e≠.normal)(hstep:∀j,j<n->fG np P c (S j) .normal (S (j+1)))(hend:fG np P c (S n) e sf):fG np P (.loop c) (S 0) e sf:=λ A0 R w0 E a hp hI=>by
 refine wp_loop_rounds (n+1) ?_
 have key:∀(m j:Nat) {E:Env} {a:Act},j+m=n->Inv A0 R w0 E (S j) a->aEG P c (λ e' a' w'=>e'=e/\∃E',E'.w=w'/\Inv A0 R w0 E' sf a') (m+1) a E.w:=by
  intro m
  induction m with
  |zero =>
   intro j E a hj hI;have:j=n:=by omega
   subst this;rw[rounds_succ];refine ayx ?_ (hend A0 R w0 E a hp hI);rintro e' a' w' ⟨rfl,E',rfl,hI'⟩;cases e'<;>simp only[Exit.then]<;>first |exact absurd rfl he |exact⟨trivial,E',rfl,hI'⟩ |exact⟨rfl,E',rfl,hI'⟩
  |succ m ih =>
   intro j E a hj hI;rw[rounds_succ];refine ayx ?_ (hstep j (by omega) A0 R w0 E a hp hI);rintro e' a' w' ⟨rfl,E',rfl,hI'⟩;simp only[Exit.then];exact ih (j+1) (by omega) hI'
 exact key n 0 (by omega) hI
noncomputable def told(s0:St)(e:Exit)(sf:St):dN:=λ s k=>open Classical in if Sub s s0 then k e sf else none
theorem Ci{P:Program}{c:Code}{s0 sf:St}{e:Exit}(h:bF P (.loop c) s0 e sf):gI P c (told s0 e sf):=by
 classical
 constructor
 .intro s k r hr
  unfold told at hr ⊢;by_cases hs:Sub s s0
  .rw[if_pos hs]at hr
   exact⟨e,sf,hr,λ k'=>by rw[if_pos hs]⟩
  .rw[if_neg hs]at hr;cases hr
 .intro s s' e' hk A0 R w0 E a hp hI
  have hs:Sub s s0:=Classical.byContradiction λ hn=>by
   have:=hk fin;unfold told at this;rw[if_neg hn]at this;cases this
  have h1:=hk fin;unfold told at h1;rw[if_pos hs]at h1;simp only[fin,jN,Out.mk.injEq,and_true]at h1;obtain⟨rfl,rfl⟩:=h1;exact h.sub hs (Sub.refl _) A0 R w0 E a hp hI
end
noncomputable section
def Bt(f:AV->Option AV):List AV->Option (List AV)
 | []=>some []
 |x::xs=>match f x,Bt f xs with
  |some y,some ys=>some (y::ys)
  |_,_=>none
def uL(mem:List Row):Nat->AV->Option AV
 | 0,_=>none
 |n+1,v=>match v with
  |.own k off=>match mem[k]? with
   |some (.c l)=>(Bt (uL mem n) l).map (.ref · off)
   |_=>none
  |.pR _ _ _ _=>none
  |.view _ _ _ _ _=>none
  |.fJ k sz st len=>match mem[k]? with
   |some (.a _ sz' _ el)=>cond (sz==sz') (some (.sl sz len (λ i=>el (st+i)))) none
   |_=>none
  |.agg l=>(Bt (uL mem n) l).map .agg
  |.aN l=>(Bt (uL mem n) l).map .aN
  |.sW t x=>(uL mem n x).map (.sW t)
  |v=>cond (nH v) (some v) none
theorem Ap{E E1:Env}{f:AV->Option AV}(h:∀x y u,f x=some y->rel E x u->rel E1 y u):∀{xs ys:List AV} {us:List Value},Bt f xs=some ys->dB E xs us->dB E1 ys us
 | [],ys,us,hm,hr=>by
  simp only[Bt,jN]at hm;subst hm;rw[bK.1 hr];exact bK.2 rfl
 |x::xs,ys,us,hm,hr=>by
  simp only[Bt]at hm;split at hm
  .rename_i y ys' h1 h2
   simp only[jN]at hm;subst hm;obtain⟨u,us',rfl,h3,h4⟩:=aH.1 hr;exact aH.2 ⟨u,us',rfl,h x y u h1 h3,Ap h h2 h4⟩
  .cases hm
theorem RB{E E1:Env}{f:AV->Option AV}(h:∀x y u,f x=some y->rel E x u->rel E1 y u):∀{xs ys:List AV} {us:List Value},Bt f xs=some ys->pre E xs us->pre E1 ys us
 | [],ys,us,hm,hr=>by
  simp only[Bt,jN]at hm;subst hm;exact pre_nil
 |x::xs,ys,us,hm,hr=>by
  simp only[Bt]at hm;split at hm
  .rename_i y ys' h1 h2
   simp only[jN]at hm;subst hm;obtain⟨u,us',rfl,h3,h4⟩:=bE.1 hr;exact bE.2 ⟨u,us',rfl,h x y u h1 h3,RB h h2 h4⟩
  .cases hm
theorem aik{E:Env}{mem:List Row}{A':Nat->Prop}(hm:uM E mem)(hA:∀b,A' b->E.A b)(hown:∀k b c,E.O k=some (b,c)->aK mem k=true->¬A' b):∀(n:Nat) (x y:AV) (u:Value),uL mem n x=some y->rel E x u->rel ⟨E.w,A',λ _=>none⟩ y u:=by
 intro n
 induction n with
 |zero=>intro x y u h;cases h
 |succ n ih =>
  intro x y u h hr
  have plain:∀{v:AV},cond (nH v) (some v) none=some y->rel E v u->rel ⟨E.w,A',λ _=>none⟩ y u:=by
   intro v h hr;cases hn:nH v
   .rw[hn]at h;cases h
   .rw[hn]at h
    simp only[cond_true,jN]at h;subst h;exact aaV hr hn λ b hb ob LJ=>⟨λ ha=>hb (hA b ha),LJ⟩
  cases x with
  |own k off =>
   simp only[uL]at h;obtain⟨b,c,hb,rfl⟩:=jh.1 hr;obtain⟨row,hrow,hrr⟩:=hm k b c hb;rw[hrow]at h;cases row<;>simp only at h<;>first | (cases h;done) |skip
   rename_i l;cases hl:Bt (uL mem n) l with
   |none=>rw[hl]at h;cases h
   |some l' =>
    rw[hl]at h;simp only[amS,jN]at h;subst h;obtain⟨cs,e,h1,h2⟩:=hrr;exact w9.2 ⟨b,0,cs,e,(0,0),by rw[Nat.zero_add],hown k b c hb (by unfold aK;rw[hrow];rfl),h1,by rw[List.drop_zero];exact RB (E1:=⟨E.w,A',λ _=>none⟩) ih hl h2⟩
  |pR k sz i sub=>simp[uL]at h
  |view k sz st sub n=>simp[uL]at h
  |fJ k sz st len =>
   simp only[uL]at h;split at h
   .rename_i e sz' n' el hrow
    cases hs:sz==sz'
    .rw[hs]at h;cases h
    .rw[hs]at h
     simp only[cond_true,jN]at h;subst h;have e1:=eq_of_beq hs;subst e1;rcases fM.1 hr with⟨_,rfl,rfl⟩ | ⟨b,c,n0,hb,h1,h2,rfl⟩
     .exact iM.2 ⟨none,0,rfl,Nat.le_refl _,ER rfl⟩
     .obtain⟨row,hrow',hrr⟩:=hm k b _ hb
      rw[hrow]at hrow';cases hrow';obtain⟨cs,h3,h4,h5,h6,h7,h8⟩:=hrr;simp only at h5;subst h5;refine iM.2 ⟨_,_,rfl,by omega,aaH ⟨b,st*sz,cs,e,(0,0),rfl,hown k b _ hb (by unfold aK;rw[hrow];rfl),h3,λ i hi=>?_⟩⟩;obtain⟨g1,g2⟩:=h8 (st+i) (by omega);refine⟨g1,?_⟩;rw[<-Nat.add_mul];exact kg (E:=E.fz) (E':=⟨E.w,A',λ _=>none⟩) ⟨λ b' hb' ob LJ=>⟨λ ha=>hb' (hA b' ha),LJ⟩,λ k' b' hb'=>by cases hb'⟩ g2
   .cases h
  |agg l =>
   simp only[uL]at h;cases hl:Bt (uL mem n) l with
   |none=>rw[hl]at h;cases h
   |some l' =>
    rw[hl]at h;simp only[amS,jN]at h;subst h;obtain⟨vs,rfl,h2⟩:=kV.1 hr;exact kV.2 ⟨vs,rfl,Ap ih hl h2⟩
  |aN l =>
   simp only[uL]at h;cases hl:Bt (uL mem n) l with
   |none=>rw[hl]at h;cases h
   |some l' =>
    rw[hl]at h;simp only[amS,jN]at h;subst h;obtain⟨vs,rfl,h2⟩:=nI.1 hr;exact nI.2 ⟨vs,rfl,Ap ih hl h2⟩
  |sW t x =>
   simp only[uL]at h;cases hl:uL mem n x with
   |none=>rw[hl]at h;cases h
   |some x' =>
    rw[hl]at h;simp only[amS,jN]at h;subst h;obtain⟨v,rfl,h2⟩:=qL.1 hr;exact qL.2 ⟨v,rfl,ih x x' v hl h2⟩
  |_=>simp only[uL]at h;exact plain h hr
def H7(P:Program)(s:St):ResultVar->Option AV
 |.tmp t=>cond (iB s.slots [] (.tmp t)) (some (aG s (.tmp t))) none
 |.cell p t=>cond (iB s.slots [] (.tmp p)) (match aat s.mem (aG s (.tmp p))with
  |some (true,l,off)=>Dz P t l off
  |_=>none) none
def mV(P:Program)(s:St):List ResultVar->Option (List AV)
 | []=>some []
 |r::rs=>match H7 P s r,mV P s rs with
  |some v,some vs=>some (v::vs)
  |_,_=>none
def DC(P:Program)(fn:Func)(s:St):Option AV :=
 match mV P s fn.results.toList with
 |some [v]=>uL s.mem 8 v
 |some vs=>(Bt (uL s.mem 8) vs).map .aN
 |none=>none
def start(fn:Func)(mem:List Row)(args:List AV):St:=⟨(args.map λ v=>(v,[]))++List.replicate (fn.ntmps - args.length) dflt,mem⟩
def aaW(P:Program)(fn:Func)(k:AV->Option Out):jZ:=λ e s=>match e with
 |.normal=>match DC P fn s with
  |some v=>k v
  |none=>none
 |.ret=>match DC P fn s with
  |some v=>k v
  |none=>none
 |_=>none
def abody(P:Program)(T:Tab)(D:List Oper->St->SK->Option Out)(L:Nat->Option dN)(N:Nat)(fn:Func)(args:List AV)(k:AV->Option Out):Option Out :=
 match fn.body with
 |some c=>gT P T D L N c (start fn [] args) (aaW P fn k)
 |none=>none
def RD(tmps:Array Value):ResultVar->Sem Value
 |.tmp t=>pure (tmps.getD t undef)
 |.cell p t=>do loadVar t (<-asAddr (tmps.getD p undef))
theorem Jy(fn:Func)(tmps:Array Value):results fn tmps=(do
  let vs <-List.toArray <$> fn.results.toList.mapM (RD tmps)
  pure (if h:vs.size=1 then vs[0]else .tuple vs)):=by
 unfold results;rw[<-Array.mapM_eq_mapM_toList]
 have:(λ x:ResultVar=>(match x with |.tmp t=>pure (tmps.getD t undef) |.cell a t=>do loadVar t (<-asAddr (tmps.getD a undef)):Sem Value))=RD tmps:=by
  funext r;cases r<;>rfl
 rw[<-this];rfl
section
variable{P:Program}{A0 R:Nat->Prop}{w0:Env}{E:Env}{s:St}{a:Act}
theorem RF(hI:Inv A0 R w0 E s a){r:ResultVar}{x:AV}(h:H7 P s r=some x):∃v,(RD a.tmps r).run P E.w=.ok v E.w/\rel E x v:=by
 cases r with
 |tmp t =>
  simp only[H7]at h;cases ho:iB s.slots [] (.tmp t)
  .rw[ho]at h;cases h
  .rw[ho]at h
   simp only[cond_true,jN]at h;subst h;exact⟨_,rfl,iF hI.frame (c:=[]) rfl (.tmp t) ho⟩
 |cell p t =>
  simp only[H7]at h;cases ho:iB s.slots [] (.tmp p)
  .rw[ho]at h;cases h
  .rw[ho]at h
   simp only[cond_true]at h;split at h
   .rename_i l off hp
    have hv:=iF hI.frame (c:=[]) rfl (.tmp p) ho;obtain⟨b,o0,_,_,_,he,_,_⟩:=RG hI.wd.rows hv hp;obtain⟨v,h1,h2⟩:=MB (P:=P) hI.wd.rows hp h hv;refine⟨v,?_,h2⟩;have he':a.tmps.getD p undef=.pointer (some ⟨b,o0+off,none⟩):=he;rw[he]at h1;simp only[Instr.loadAt,Instr.sureAddr,YC,abP,xU]at h1;simp only[RD,he',asAddr,YC,abP,xU,h1]
   .cases h
theorem uN(hI:Inv A0 R w0 E s a):∀{rs:List ResultVar} {xs:List AV},mV P s rs=some xs->∃vs:List Value,(rs.mapM (RD a.tmps)).run P E.w=.ok vs E.w/\dB E xs vs
 | [],xs,h=>by simp[mV]at h;subst h;exact⟨[],rfl,bK.2 rfl⟩
 |r::rs,xs,h=>by
  simp only[mV]at h;split at h
  .rename_i x xs' h1 h2
   simp only[jN]at h;subst h;obtain⟨v,h3,h4⟩:=RF hI h1;obtain⟨vs,h5,h6⟩:=uN hI h2;refine⟨v::vs,?_,aH.2 ⟨v,vs,rfl,h4,h6⟩⟩;simp only[List.mapM_cons,YC];rw[h3];simp only[xU];rw[h5];rfl
  .cases h
theorem DF{fn:Func}(hI:Inv A0 (λ _=>False) w0 E s a)(hA0:∀b,A0 b->b<w0.w.heap.size){x:AV}(h:DC P fn s=some x):∃v,(results fn a.tmps).run P E.w=.ok v E.w/\rel ⟨E.w,A0,λ _=>none⟩ x v:=by
 have hown:∀k b c,E.O k=some (b,c)->aK s.mem k=true->¬A0 b:=λ k b c hb hl ha=>by
  rcases(hI.wd.own k b c hb hl).2 with hf |hf
  .exact hf
  .have:=hA0 b ha;omega
 have frz:=aik hI.wd.rows (A':=A0) hI.wd.old hown 8;unfold DC at h;cases hl:mV P s fn.results.toList with
 |none=>simp[hl]at h
 |some xs =>
  obtain⟨vs,h1,h2⟩:=uN hI hl;have hlen:=dJ h2
  have hrun:(results fn a.tmps).run P E.w=.ok (if h:vs.toArray.size=1 then vs.toArray[0]else .tuple vs.toArray) E.w:=by
   rw[Jy];simp only[YC,Sem.run_map,h1,xU,abP]
  rw[hrun];rw[hl]at h
  have key:∀(_:vs.length≠1) (_:(Bt (uL s.mem 8) xs).map AV.aN=some x),∃v,aEH (if h:vs.toArray.size=1 then vs.toArray[0]else .tuple vs.toArray) E.w=aEH v E.w/\rel ⟨E.w,A0,λ _=>none⟩ x v:=by
   intro hne h;cases hm:Bt (uL s.mem 8) xs with
   |none=>rw[hm]at h;cases h
   |some ys =>
    rw[hm]at h;simp only[amS,jN]at h;subst h;refine⟨_,rfl,?_⟩;rw[dif_neg (by simpa using hne)];exact nI.2 ⟨vs.toArray,rfl,by simpa using Ap frz hm h2⟩
  match xs,vs,hlen,h2,h,key with
  | [y],[v],_,h2,h,_ =>
   obtain⟨v',_,e1,h3,_⟩:=aH.1 h2;cases e1;exact⟨v,by simp,frz y x v h h3⟩
  | [],[],_,_,h,key=>exact key (by simp) h
  |_::_::_,_::_::_,_,_,h,key=>exact key (by simp) h
end
theorem MC{E:Env}:∀{xs:List AV} {vs:List Value} (t:Nat),dB E xs vs->t<xs.length->rel E (xs.getD t (.x undef)) (vs.getD t undef)
 | [],_,_,_,hl=>by simp at hl
 |x::xs,vs,t,h,hl=>by
  obtain⟨u,us,rfl,h1,h2⟩:=aH.1 h;cases t with
  |zero=>exact h1
  |succ t=>simpa using MC t h2 (by simpa using hl)
theorem rJ{E:Env}{fn:Func}{mem:List Row}{args:List AV}{aZ:Array Value}(hg:vC E)(hv:dB E args aZ.toList)(hlen':args.length<=fn.ntmps) :
  Bo E (start fn mem args).slots (start fn mem args).slots (aZ++ayH (fn.ntmps - aZ.size) undef):=by
 have hl:=dJ hv;simp at hl;refine⟨⟨by simp[start];omega,hg⟩,λ t=>?_⟩
 have hs:(start fn mem args).slots.getD t dflt=(args.getD t (.x undef),[]):=by
  simp only[start,amh,List.getElem?_append,azh,List.length_map,List.getElem?_replicate];by_cases ht:t<args.length
  .simp[ht]
  .simp only[ht,if_false,ayE (Nat.le_of_not_lt ht),Option.getD_none]
   split<;>rfl
 rw[hs];refine⟨λ _=>?_,λ h'=>by cases h'⟩;by_cases ht:t<args.length
 .have:=MC t hv ht
  have e:(aZ++ayH (fn.ntmps - aZ.size) undef).getD t undef=aZ.toList.getD t undef:=by
   simp only[ay0,amh];rw[Array.getElem?_append_left (by omega)];simp
  rw[e];exact this
 .have e:(aZ++ayH (fn.ntmps - aZ.size) undef).getD t undef=undef:=by
   simp only[ay0];rw[Array.getElem?_append_right (by omega),Array.getElem?_replicate];split<;>rfl
  rw[e,amh,ayE (Nat.le_of_not_lt ht)];exact bI.2 rfl
theorem xg {P : Program} {T : Tab} {D : List Oper -> St -> SK -> Option Out} {L : Nat -> Option dN} (hT : Ao P T) (hD : DOk P D) (N : Nat) {f : Nat} {fn : Func} (hf : P.funcs[f]? = some fn) (hnm : (fn.name == "runtime.NumGoroutine") = false) {c : Code} (hb : fn.body = some c) (hL : yN P L c)
  {args:List AV} (hlen:Nat.ble args.length fn.ntmps=true) {r:AV} (h:abody P T D L N fn args (λ v=>some (Out.of v))=some (Out.of r)):aj P f args r:=by
 unfold abody at h;rw[hb]at h;simp only at h;refine⟨⟨fn,hf,hnm,by rw[hb];rfl⟩,λ A w aZ hA hv hg=>?_⟩;have hlen':args.length<=fn.ntmps:=Nat.le_of_ble_eq_true hlen;refine calls_of_wp hf hb ?_
 have hI:Inv A (λ _=>False) ⟨w,A,λ _=>none⟩ ⟨w,A,λ _=>none⟩ (start fn [] args) { tmps:=aZ++ayH (fn.ntmps - aZ.size) undef,defers:=[] } :=
  ⟨rfl,rJ hg hv hlen',⟨λ _ _ _ hb=>(by cases hb),hA,λ _ hb=>hb,λ _ _ _ hb=>(by cases hb),λ _ _ _ _ _ hb=>(by cases hb),nJ.refl _ _,Env.le.refl _⟩⟩
 refine ayx ?_ (Dx (np:=0) ⟨λ _ _=>rfl,λ _ h=>h.elim,hA⟩ hT hD N c hL hI h);rintro e a' w' ⟨E',s',rfl,hI',he⟩;cases e<;>simp only[aaW]at he<;>first | (cases he;done) |skip
 all_goals
  split at he
  .rename_i x hx
   simp only[Out.of,jN,Out.mk.injEq,true_and]at he;subst he;obtain⟨v,h1,h2⟩:=DF hI' hA hx;exact⟨hI'.defers,v,h1,v,rfl,h2,hI'.wd.below.os,hI'.wd.below.tape,hI'.wd.below.output,hI'.wd.below.size,λ k hk=>hI'.wd.below.block k hk (λ e=>e)⟩
  .cases he
end
end Go.Gv
