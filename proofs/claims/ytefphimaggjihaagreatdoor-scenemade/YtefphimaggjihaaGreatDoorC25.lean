/- Texts, one behind the other. -/
import Derived.Test.YtefphimaggjihaaGreatDoorC24
import Derived.Test.YtefphimaggjihaaGreatDoorC23
import Derived.Test.YtefphimaggjihaaGreatDoorC21
noncomputable section
namespace Go.Proofs.YtefphimaggjihaaGreatDoor.Pi.Rd
open Go.Shelf Go.RowKit Go.Gv
open Hs.So (dM pQ)
def u11(l:List(Nat × AV))(mem:List Row):St:=⟨(List.range 11).map fun i=>(match l.find?(fun p=>Nat.beq p.1 i)with
 |some p=>p.2
 |none=>.x undef,[]),mem⟩
def XZ:List AV:=[pV,pV,pV,pV,pV,iA 0,iA 0,iA 0,.f 0,.f 0,.f 0,.f 0,.f 0,.f 0,.f 0,.f 0,.f 0,.f 0]
def aqp(t:Tk):List Row:=[Sq t,.c XZ,.c [iA 0]]
def pl3:Pl:=⟨3,4,5,6,7,8⟩
def scR(i:Pl)(c:Ct):List AV:=[oX i c 2,oX i c 3,oX i c 4,oX i c 5,oX i c 6,oX i c 7,oX i c 8,oX i c 9,oX i c 10,oX i c 11,oX i c 12,oX i c 13,oX i c 14,oX i c 15,oX i c 16,oX i c 17,oX i c 18,oX i c 19]
def af4(t:Tk)(z:Nat→Int)(c:Ct)(l:List AV):List Row:=Vy t t.n z pl3 c::.c l::.c [iA 0]::rows c
def wAl(t:Tk)(zf:Nat→Int)(cf:Ct):bH:=wQ Tryz.prog 69(fun _ _=>.aN [])(fun _ _=>af4 t zf cf XZ)
def tAl(t:Tk)(zf:Nat→Int)(cf:Ct):Tab:=xH [] [] [] [wAl t zf cf] []
def rdo(i:Nat):Array Oper:=((Es(dG Tryz.f24)i).getD #[])
def rs1(t:Tk):St:=u11 [(0,.own 0 0),(2,.own 1 0),(3,.own 2 0)](aqp t)
def av7(t:Tk):St:=u11 [(0,.own 0 0),(2,.own 1 0),(3,.own 2 0),(4,.any)](aqp t)
def rs2(t:Tk)(z:Nat→Int)(c:Ct):St:=u11 [(0,.own 0 0),(2,.own 1 0),(3,.own 2 0),(4,.any),(5,.own 0 0),(6,.aN [])](af4 t z c XZ)
def rs3(t:Tk)(z:Nat→Int)(c:Ct):St:=u11 [(0,.own 0 0),(2,.own 1 0),(3,.own 2 0),(4,.any),(5,.own 0 0),(6,.aN []),(7,.own 0 0),(8,.own 0 0),(9,.own 0 2),(10,.agg(scR pl3 c))](af4 t z c(scR pl3 c))
def τr:List(Option Nat):=[some 0,some 3,some 4,some 5,some 6,some 7,some 8]
section
variable(t:Tk)(zf:Nat→Int)(cf:Ct)
theorem aBy:oF Tryz.prog(tAl t zf cf)(rdo 0).toList(rdo 0).toList(Gv.start Tryz.f24 [Sq t] [.own 0 0])kR=rR(rs1 t):=by kernel_rfl
theorem aBz:(⟨oC(rs1 t).slots(some 4)(.any,[]),(rs1 t).mem⟩:St)=av7 t:=by kernel_rfl
theorem aBA:oF Tryz.prog(tAl t zf cf)(rdo 2).toList(rdo 2).toList(av7 t)kR=qC 69 [](.aN [])(aqp t)(af4 t zf cf XZ)(rR(rs2 t zf cf)):=by kernel_rfl
theorem aBB:oF Tryz.prog(tAl t zf cf)(rdo 3).toList(rdo 3).toList(rs2 t zf cf)kR=rR(rs3 t zf cf):=by kernel_rfl
theorem aBC:ab5 Tryz.prog Tryz.f24 τr(rs3 t zf cf)=some⟨.normal,⟨[],M7 t t.n zf cf⟩,.aN [.agg(scR Ip cf),iA 0]⟩:=by kernel_rfl
end
theorem idle(p q:Value)(w:World):CallsD Tryz.prog 68 #[p,q] .returning w fun e u' w'=>e=.returned(.tuple #[])∧u'=.returning∧w'=w:=by
 refine callsD_of_wpS Tryz.aqr rfl fun c₀ cs hu=>?_
 apply wpS_seq
 apply wpS_region
 simp[wpOpsS,go_sem,recoverD,hu,Exit.thenS]
 apply wpS_seq
 apply wpS_seq
 apply wpS_region
 simp[wpOpsS,go_sem,Exit.thenS]
 refine wpS_cond(t:=true)(by simp[Act.eval,Array.replicate]) ?_
 simp only[if_true]
 refine wpS_of_wp(wp_ret ?_)
 cases c₀
 simp_all[Exit.thenS,bodyPostS,results]
section
variable {t:Tk}{zf:Nat→Int}{c cf:Ct}
theorem acg(h:Rest t zf cf 0 z0(WL c))(hz:zf 21=1):cu Tryz.prog 24 [.own 0 0] [Sq t](.aN [.agg(scR Ip cf),iA 0])(M7 t t.n zf cf):=by
 refine TL(gL aB av bO(aC(aX(g:=fun _ _=>.aN [])(m:=fun _ _=>af4 t zf cf XZ))bJ)bS)Tryz.func24(by kernel_rfl)⟨_,Tryz.aqr,rfl,rfl⟩(o0:=rdo 0)(o2:=rdo 2)(o3:=rdo 3)(k:=4)(x:=2)(y:=3)(g:=68)(by rfl)rfl rfl rfl rfl rfl rfl idle(by rfl)(τ:=τr)(by rfl)(aBy t zf cf)(by rfl)(by rfl)(s2:=rs2 t zf cf) ?_(aBB t zf cf)(aBC t zf cf)
 rw[aBz]
 refine(aBA t zf cf).trans ?_
 refine yZ(IU 1 rfl(aer h hz) [.c XZ,.c [iA 0]](by rfl)(fun i r hi=>?_)(by rfl)(by simp[M7])(by rfl)(by kernel_rfl))_
 have:i=0:=by have:=(List.getElem?_eq_some_iff.1 hi).1;simpa using this
 subst this
 cases hi
 exact⟨rfl,by kernel_rfl⟩
end
end Go.Proofs.YtefphimaggjihaaGreatDoor.Pi.Rd
namespace Go.Gv
open Go.RowKit Go.Ev
def fgZ(keep:List Nat)(τ:List(Option Nat)):mg:=fun s k=>cond(jF τ s)(k(gN keep τ s))none
theorem asb {keep:List Nat}{τ:List(Option Nat)}:fZ 0(fgZ keep τ):=fun s k r h=>by
 unfold fgZ at h
 cases hf:jF τ s
 ·rw[hf]at h;cases h
 ·rw[hf]at h
  exact⟨_,h,Lx(by rfl)hf⟩
def acZ(h g:mg):mg:=fun s k=>h s fun s1=>g s1 k
theorem EY {np:Nat}{h g:mg}(hh:fZ np h)(hg:fZ np g):fZ np(acZ h g):=fun s k r e=>by
 obtain⟨s1,e1,p1⟩:=hh s _ r e
 obtain⟨s2,e2,p2⟩:=hg s1 k r e1
 exact⟨s2,e2,p1.trans p2⟩
end Go.Gv
namespace Go.Proofs.YtefphimaggjihaaGreatDoor.Pi.Rd
open Go.Shelf Go.RowKit Go.Gv
open Hs.So (dM pQ)
def pl2:Pl:=⟨2,3,4,5,6,7⟩
def pX1(t:Tk)(z:Nat→Int)(c:Ct):List Row:=.c XZ::Vy t t.n z pl2 c::rows c
def vX1(c:Ct):AV:=.aN [.agg(scR pl2 c),iA 0]
def scF(c:Ct):List AV:=[.sl 13 c.nS c.S,.sl 2 c.nO c.O,.sl 8 c.nF c.F,.sl 10 c.nK c.K,.sl 6 c.nL c.L,iA(c.jE 0),iA(c.jE 1),iA(c.jE 2),.f(c.eye 0),.f(c.eye 1),.f(c.eye 2),.f(c.eye 3),.f(c.eye 4),.f(c.eye 5),.f(c.eye 6),.f(c.eye 7),.f(c.eye 8),.f(c.eye 9)]
def wRd(t:Tk)(zf:Nat→Int)(cf:Ct):bH:=wQ Tryz.prog 24(fun _ _=>vX1 cf)(fun _ _=>pX1 t zf cf)
def kTk(t:Tk):aV:=kS Tryz.prog 25(fun _=>Wq t)
def tPa(t:Tk)(zf:Nat→Int)(cf:Ct):Tab:=xH [] [kTk t] [] [wRd t zf cf] []
def paZ:Nat→Option mg:=iH 9003(acZ(fgZ [2,3] [some 0,some 2,some 3,some 4,some 5,some 6])(acZ(wW 1)(acZ(wW 2)(acZ(wW 3)(acZ(wW 4)(wW 5))))))
theorem asc:∀i h,paZ i=some h→fZ 0 h:=gK(EY asb(EY(jq 1)(EY(jq 2)(EY(jq 3)(EY(jq 4)(jq 5))))))
def frB(n:Nat)(x:Option Out):Option Out:=cond((Nat.beq n n&&true)&&true)x none
theorem axt(n:Nat)(x:Option Out):frB n x=x:=by unfold frB;rw[Nat.beq_refl];rfl
section
variable(s:ByteArray)(t:Tk)(zf:Nat→Int)(cf:Ct)
theorem axu:Qk Tryz.prog(tPa t zf cf)(lZ Tryz.prog(tPa t zf cf))aM paZ 40 Tryz.f8 [zA s](fun v=>some(Out.of v)) =
 cond(decide(20000<((s.size:Nat):Int)))(some(Out.of(.aN [.agg XZ,iA 4])))(gate(aj Tryz.prog 25 [zA s](Wq t))(cond(iY(bP Tryz.prog 24 [.own 1 0] [.c XZ,Sq t](vX1 cf)(pX1 t zf cf)))(frB cf.nS(frB cf.nO(frB cf.nF(frB cf.nK(frB cf.nL(some(Out.of(.aN [.agg(scF cf),iA 0]))))))) )none)):=by kernel_rfl
end
section
variable {s:ByteArray}{t:Tk}{zf:Nat→Int}{c cf:Ct}
theorem YS(h:Rest t zf cf 0 z0(WL c))(hz:zf 21=1):bP Tryz.prog 24 [.own 1 0] [.c XZ,Sq t](vX1 cf)(pX1 t zf cf):=by
 have hw:=xM(args:=[.own 1 0])(mem:=[.c XZ,Sq t])(mem':=pX1 t zf cf)(acg h hz) [1](by rfl)(by rfl)(by rfl)(fun i k hi=>?_)⟨fun k hk hlt=>?_,fun i k r hi hr=>?_,fun i r hi hr=>?_⟩
 ·exact hw
 ·have:i=0:=by have:=(List.getElem?_eq_some_iff.1 hi).1;simpa using this
  subst this
  cases hi
  exact⟨Sq t,rfl,rfl,by show some(Sq t)=some _;congr 1⟩
 ·have:k=0:=by simp at hlt hk;omega
  subst this
  rfl
 ·have:i=0:=by have:=(List.getElem?_eq_some_iff.1 hi).1;simpa using this
  subst this
  cases hi
  cases hr
  show some _=some _
  congr 1
 ·match i,hr with
  | 1,hr=>cases hr;rfl
  | 2,hr=>cases hr;rfl
  | 3,hr=>cases hr;rfl
  | 4,hr=>cases hr;rfl
  | 5,hr=>cases hr;rfl
  | 6,hr=>cases hr;rfl
  |n+7,hr=>cases hr
theorem Yf(hs:s.size≤20000)(ht:aj Tryz.prog 25 [zA s](Wq t))(h:Rest t zf cf 0 z0(WL c))(hz:zf 21=1):aj Tryz.prog 8 [zA s](.aN [.agg(scF cf),iA 0]):=by
 refine pF asc(gL aB(ak aD av)bO(aC(aX(g:=fun _ _=>vX1 cf)(m:=fun _ _=>pX1 t zf cf))bJ)bS)(iJ(gL aB(ak aD av)bO(aC aX bJ)bS)(by kernel_rfl))40 Tryz.func8(by kernel_rfl)(c:=dG Tryz.f8)(by kernel_rfl)aA rfl((axu s t zf cf).trans ?_)
 rw[decide_eq_false(by omega),ah ht,fH(YS h hz)]
 show frB _ _=_
 simp only[axt]
end
end Go.Proofs.YtefphimaggjihaaGreatDoor.Pi.Rd
namespace Go.Proofs.YtefphimaggjihaaGreatDoor.Pi
open Go.Shelf Go.RowKit Go.Gv
def inW(b:UInt8):Bool:=iwB(b.toNat:Int)&&decide(b.toNat<128)
def Pnc(b:UInt8):Prop:=b=59∨b=44∨b=123∨b=125
def GpC(b:UInt8):Prop:=b=32∨b=10
def xq(t:List UInt8):Prop:=(t≠[]∧∀b,b∈t→inW b=true)∨∃c,Pnc c∧t=[c]
theorem Ld {F pre rest:List UInt8}{b:UInt8}(hF:F=pre++b::rest)(hb:b.toNat<128):pre.length<(lB F).size∧Dh(lB F)pre.length=(b.toNat:Int)∧yT(lB F)pre.length=pre.length+1:=by
 have hs:pre.length<(lB F).size:=by rw[aY,hF];simp
 have hg:(bL(lB F)).getD pre.length 0=b:=by rw[jr,hF,List.getD_eq_getElem?_getD,List.getElem?_append_right(Nat.le_refl _),Nat.sub_self];rfl
 obtain⟨h1,h2⟩:=abr hs(by rw[hg];exact hb)
 rw[hg]at h1
 exact⟨hs,h1,h2⟩
theorem Zf {F pre rest:List UInt8}{c:UInt8}(hF:F=pre++c::rest)(hc:GpC c):Gap(lB F)pre.length∧yT(lB F)pre.length=pre.length+1:=by
 obtain⟨h1,h2,h3⟩:=Ld hF(by rcases hc with rfl |rfl<;>decide)
 refine⟨⟨h1,?_,?_⟩,h3⟩<;>rw[h2]<;>rcases hc with rfl |rfl<;>decide
theorem as9 {F pre rest:List UInt8}{c:UInt8}(hF:F=pre++c::rest)(hc:Pnc c):Pun(lB F)pre.length∧yT(lB F)pre.length=pre.length+1∧Utf8.encode(Dh(lB F)pre.length)=lB [c]:=by
 obtain⟨h1,h2,h3⟩:=Ld hF(by rcases hc with rfl |rfl |rfl |rfl<;>decide)
 refine⟨⟨h1,?_,?_⟩,h3,?_⟩<;>rw[h2]<;>rcases hc with rfl |rfl |rfl |rfl<;>first |decide |rfl
theorem aik:∀(w:List UInt8) {F pre rest:List UInt8},F=pre++(w++rest)→(∀b,b∈w→inW b=true)→Wrd(lB F)pre.length w.length(pre.length+w.length)
 | [],F,pre,rest,_,_=>by show pre.length=pre.length+0;omega
 |b::w,F,pre,rest,hF,h=>by
  have hb:=h b(by simp)
  unfold inW at hb
  simp only[Bool.and_eq_true,decide_eq_true_eq]at hb
  obtain⟨h1,h2,h3⟩:=Ld(F:=F)(pre:=pre)(rest:=w++rest)(b:=b)(by rw[hF];rfl)hb.2
  refine⟨h1,by rw[h2];exact hb.1,?_⟩
  have ih:=aik w(F:=F)(pre:=pre++[b])(rest:=rest)(by rw[hF];simp)fun x hx=>h x(by simp[hx])
  rw[List.length_append,List.length_singleton]at ih
  rw[h3,List.length_cons,show pre.length+(w.length+1)=pre.length+1+w.length by omega]
  exact ih
theorem amt {s:ByteArray}{p:Nat}{l:List ByteArray}(h:Cut s p l)(g:Gap s p):Cut s(yT s p)l:=by
 obtain⟨g1,g2,g3⟩:=g
 cases h with
 |fin h=>omega
 |gap _ r=>exact r
 |pun h _=>rw[h.2.2]at g3;cases g3
 |wrd h _ _ _=>rw[h.2.1]at g2;cases g2
theorem abt {F pre t rest:List UInt8}{c:UInt8}{l:List ByteArray}(hF:F=pre++(t++c::rest))(ht:xq t)(hc:GpC c)(h:Cut(lB F)(pre++t).length l):Cut(lB F)pre.length(lB t::l):=by
 have hg:=Zf(F:=F)(pre:=pre++t)(rest:=rest)(c:=c)(by rw[hF];simp)hc
 rcases ht with⟨hne,hw⟩ | ⟨d,hd,rfl⟩
 ·obtain⟨k,hk⟩:∃k,t.length=k+1:=⟨t.length - 1,by have:=List.length_pos_iff.2 hne;omega⟩
  have hW:=aik t(F:=F)(pre:=pre)(rest:=c::rest)hF hw
  have hl:(pre++t).length=pre.length+t.length:=List.length_append
  have e:(lB F).extract pre.length(pre.length+t.length)=lB t:=by
   rw[←GJ((lB F).extract _ _),oJ,jr,hF,←List.append_assoc,List.take_append_of_le_length(by rw[hl];omega),List.take_of_length_le(by rw[hl];omega)]
   simp
  rw[hk]at hW
  have:=Cut.wrd(s:=lB F)(p:=pre.length)(k:=k)(q:=pre.length+(k+1))hW(by omega)(by rw[←hk,←hl];exact hg.1)(by rw[←hk,←hl];exact amt h hg.1)
  rw[←hk,e]at this
  exact this
 ·obtain⟨h1,h2,h3⟩:=as9(F:=F)(pre:=pre)(rest:=c::rest)(c:=d)(by rw[hF];rfl)hd
  have:=Cut.pun h1(l:=l)(by rw[h2];rw[List.length_append]at h;exact h)
  rw[h3]at this
  exact this
theorem abu:∀(ts:List(List UInt8)),(∀t,t∈ts→xq t)→∀{b:Bool}{F pre rest:List UInt8}{c:UInt8}{l:List ByteArray},F=pre++(tks b ts++c::rest)→GpC c→Cut(lB F)(pre++tks b ts).length l→Cut(lB F)pre.length(ts.map lB++l)
 | [],_,b,F,pre,rest,c,l,_,_,h=>by simpa[tks]using h
 |t::r,ht,b,F,pre,rest,c,l,hF,hc,h=>by
  have key:∀ail:List UInt8,F=ail++(t++(tks true r++c::rest))→(ail++(t++tks true r)).length=(pre++tks b(t::r)).length→Cut(lB F)ail.length((t::r).map lB++l):=fun ail e1 e2=>by
   have ih:=abu r(fun x hx=>ht x(by simp[hx]))(b:=true)(F:=F)(pre:=ail++t)(rest:=rest)(c:=c)(l:=l)(by rw[e1];simp)hc(by rw[List.append_assoc,e2];exact h)
   cases r with
   |nil=>exact abt(rest:=rest)(c:=c)(by rw[e1];simp[tks])(ht t(by simp))hc ih
   |cons t2 r2=>exact abt(rest:=t2++tks true r2++c::rest)(c:=32)(by rw[e1];simp[tks])(ht t(by simp))(Or.inl rfl)ih
  cases b with
  |false=>exact key pre(by rw[hF];simp[tks])(by simp[tks])
  |true =>
   obtain⟨g1,g2⟩:=Zf(F:=F)(pre:=pre)(rest:=t++(tks true r++c::rest))(c:=32)(by rw[hF];simp[tks])(Or.inl rfl)
   have:=key(pre++[32])(by rw[hF];simp[tks])(by simp[tks])
   refine Cut.gap g1 ?_
   rw[g2]
   rw[List.length_append]at this
   exact this
def Dy(ts:List(List UInt8)):List UInt8:=tks false(ts++[[59]])++[10]
def Sg(ts:List(List UInt8)):List(List UInt8):=ts++[[59]]
theorem M9:∀(ls:List(List(List UInt8))),(∀ts,ts∈ls→∀t,t∈ts→xq t)→∀{F pre:List UInt8},F=pre++ls.flatMap Dy→Cut(lB F)pre.length((ls.flatMap Sg).map lB)
 | [],_,F,pre,hF=>Cut.fin(by rw[aY,hF];simp)
 |ts::r,h,F,pre,hF=>by
  have e:F=pre++(tks false(ts++[[59]])++10::r.flatMap Dy):=by rw[hF];simp[Dy]
  have ih:=M9 r(fun x hx=>h x(by simp[hx]))(F:=F)(pre:=pre++Dy ts)(by rw[hF];simp)
  obtain⟨g1,g2⟩:=Zf(F:=F)(pre:=pre++tks false(ts++[[59]]))(rest:=r.flatMap Dy)(c:=10)(by rw[e];simp)(Or.inr rfl)
  have e2:((ts::r).flatMap Sg).map lB=(ts++[[59]]).map lB++(r.flatMap Sg).map lB:=by simp[Sg]
  rw[e2]
  refine abu _(fun t ht=>?_)e(Or.inr rfl)(Cut.gap g1 ?_)
  ·rcases List.mem_append.1 ht with ht |ht
   ·exact h ts(by simp)t ht
   ·simp at ht
    exact Or.inr⟨59,Or.inl rfl,ht⟩
  ·rw[g2]
   have:(pre++tks false(ts++[[59]])).length+1=(pre++Dy ts).length:=by simp[Dy];omega
   rw[this]
   exact ih
open Hs.Sc (fT)
def lW(s:fT)(l:List UInt8)(b u:Bool):List Row:=[Gf 2 l.length b u,.c s.c,bR l]
def MI(m:List Row):List Row:=match m with
 |.t T [a,.fJ k s o n,b,u]::bx::r=>[.t T [a,.fJ 2 s o n,b,u],bx,(bx::r).getD(k - 1) .dead]
 |_=>[]
def FE:List UInt8:=[115,107,121]
section
variable(L:Nat→List UInt8)(U:Nat→Bool)(s:fT)(l l1:List UInt8)(b u u1:Bool)(i:Int)
def q1(i:Int)(mem:List Row):St:=mkS 96 [(0,.own 0 0),(3,.own 1 0),(28,s.vK),(29,iA s.nK),(30,iA i)]mem
def q2(i:Int)(mem:List Row):St:=mkS 96 [(0,.own 0 0),(3,.own 1 0),(41,s.vL),(42,iA s.nL),(43,iA i)]mem
def q3(i:Int)(mem:List Row):St:=mkS 96 [(0,.own 0 0),(3,.own 1 0),(52,s.vS),(53,iA s.nS),(54,iA i)]mem
def q4(i:Int)(mem:List Row):St:=mkS 96 [(0,.own 0 0),(3,.own 1 0),(67,s.vO),(68,iA s.nO),(69,iA i)]mem
def q5(i:Int)(mem:List Row):St:=mkS 96 [(0,.own 0 0),(3,.own 1 0),(82,s.vF),(83,iA s.nF),(84,iA i)]mem
def kq1:List Nat:=[0,3,28,29,30]
def kq2:List Nat:=[0,3,41,42,43]
def kq3:List Nat:=[0,3,52,53,54]
def kq4:List Nat:=[0,3,67,68,69]
def kq5:List Nat:=[0,3,82,83,84]
def qC(n:Nat)(x y:Option Out):Option Out:=cond(decide(i<(n:Nat)))(cond(mJ i n||false)x none)y
def RA:List bH:=[wP 90 false L U,wP 91 false L U,wP 92 true L U,wP 93 false L U,wP 94 true L U,wP 95 true L U]
def iWr(k:Int):Itm:=.w 93 [iA k]false
theorem ajQ:tN Tryz.prog [] []wU(RA L U) []aM(au Tryz.f31 0)(q1 s i(lW s l b u))(fu kq1 [some 0,some 1,some 4]) =
 qC i s.nK(tQ L U [.w 90 [.agg(Hs.Sc.xJ(s.K i.toNat)),iA i]false](lW s l b u++[.c(Hs.Sc.xJ(s.K i.toNat))])fun m=>some⟨.normal,q1 s(aI(i+1))(MI m),.any⟩)none:=by kernel_rfl
theorem aoZ:tN Tryz.prog [] []wU(RA L U) []aM(au Tryz.f31 0)(q1 s i(lW s l b u))(gM kq1 [some 0,some 1,some 2]) =
 qC i s.nK(tQ L U [.w 90 [.agg(Hs.Sc.xJ(s.K i.toNat)),iA i]false](lW s l b u++[.c(Hs.Sc.xJ(s.K i.toNat))])fun _=>none)(some⟨.exit 0,q1 s i(lW s l b u),.any⟩):=by kernel_rfl
theorem ajS:tN Tryz.prog [] []wU(RA L U) []aM(au Tryz.f31 1)(q2 s i(lW s l b u))(fu kq2 [some 0,some 1,some 4]) =
 qC i s.nL(tQ L U [.w 91 [.agg(Hs.Sc.IB(s.LA i.toNat)(s.LL i.toNat))]false](lW s l b u++[.c(Hs.Sc.IB(s.LA i.toNat)(s.LL i.toNat))])fun m=>some⟨.normal,q2 s(aI(i+1))(MI m),.any⟩)none:=by kernel_rfl
theorem ao0:tN Tryz.prog [] []wU(RA L U) []aM(au Tryz.f31 1)(q2 s i(lW s l b u))(gM kq2 [some 0,some 1,some 2]) =
 qC i s.nL(tQ L U [.w 91 [.agg(Hs.Sc.IB(s.LA i.toNat)(s.LL i.toNat))]false](lW s l b u++[.c(Hs.Sc.IB(s.LA i.toNat)(s.LL i.toNat))])fun _=>none)(some⟨.exit 2,q2 s i(lW s l b u),.any⟩):=by kernel_rfl
theorem ajU:tN Tryz.prog [] []wU(RA L U) []aM(au Tryz.f31 2)(q3 s i(lW s l b u))(fu kq3 [some 0,some 1,some 5]) =
 qC i s.nS(tQ L U [.w 92 [.agg(s.S i.toNat).c]true,iWr(s.S i.toNat).sk](lW s l b u++[.c(s.S i.toNat).c])fun m=>some⟨.normal,q3 s(aI(i+1))(MI m),.any⟩)none:=by kernel_rfl
theorem ao1:tN Tryz.prog [] []wU(RA L U) []aM(au Tryz.f31 2)(q3 s i(lW s l b u))(gM kq3 [some 0,some 1,some 2]) =
 qC i s.nS(tQ L U [.w 92 [.agg(s.S i.toNat).c]true,iWr(s.S i.toNat).sk](lW s l b u++[.c(s.S i.toNat).c])fun _=>none)(some⟨.exit 4,q3 s i(lW s l b u),.any⟩):=by kernel_rfl
theorem ajV:tN Tryz.prog [] []wU(RA L U) []aM(au Tryz.f31 3)(q4 s i(lW s l b u))(fu kq4 [some 0,some 1,some 5]) =
 qC i s.nO(tQ L U [.w 94 [.agg(s.O i.toNat).c]true,iWr(s.O i.toNat).sk](lW s l b u++[.c(s.O i.toNat).c])fun m=>some⟨.normal,q4 s(aI(i+1))(MI m),.any⟩)none:=by kernel_rfl
theorem ao2:tN Tryz.prog [] []wU(RA L U) []aM(au Tryz.f31 3)(q4 s i(lW s l b u))(gM kq4 [some 0,some 1,some 2]) =
 qC i s.nO(tQ L U [.w 94 [.agg(s.O i.toNat).c]true,iWr(s.O i.toNat).sk](lW s l b u++[.c(s.O i.toNat).c])fun _=>none)(some⟨.exit 6,q4 s i(lW s l b u),.any⟩):=by kernel_rfl
theorem ajW:tN Tryz.prog [] []wU(RA L U) []aM(au Tryz.f31 4)(q5 s i(lW s l b u))(fu kq5 [some 0,some 1,some 5]) =
 qC i s.nF(tQ L U [.w 95 [.agg(s.F i.toNat).c]true,iWr(s.F i.toNat).sk](lW s l b u++[.c(s.F i.toNat).c])fun m=>some⟨.normal,q5 s(aI(i+1))(MI m),.any⟩)none:=by kernel_rfl
theorem ao3:tN Tryz.prog [] []wU(RA L U) []aM(au Tryz.f31 4)(q5 s i(lW s l b u))(gM kq5 [some 0,some 1,some 2]) =
 qC i s.nF(tQ L U [.w 95 [.agg(s.F i.toNat).c]true,iWr(s.F i.toNat).sk](lW s l b u++[.c(s.F i.toNat).c])fun _=>none)(some⟨.exit 8,q5 s i(lW s l b u),.any⟩):=by kernel_rfl
end
section
variable(L:Nat→List UInt8)(U:Nat→Bool)(s:fT)(l1 k1 k2 k3 k4 k5:List UInt8)(u1 v1 v2 v3 v4 v5:Bool)
def scL:Nat→Option dN:=nA [(6,rM 1 kq1 [some 0,some 1,some 5](q1 s 0(lW s(L 5)false(U 5)))(.exit 0)(q1 s s.nK(lW s k1 false v1))),
 (11,rM 1 kq2 [some 0,some 1,some 2](q2 s 0(lW s k1 false v1))(.exit 2)(q2 s s.nL(lW s k2 false v2))),(16,rM 1 kq3 [some 0,some 1,some 2](q3 s 0(lW s k2 false v2))(.exit 4)(q3 s s.nS(lW s k3 false v3))),
 (22,rM 1 kq4 [some 0,some 1,some 2](q4 s 0(lW s k3 false v3))(.exit 6)(q4 s s.nO(lW s k4 false v4))),(28,rM 1 kq5 [some 0,some 1,some 2](q5 s 0(lW s k4 false v4))(.exit 8)(q5 s s.nF(lW s k5 false v5)))]
theorem ae4:eu Tryz.prog [] []wU [wQ Tryz.prog 86(fun _ _=>.aN [])(fun _ _=>lW s l1 false u1),Ec L U,wWh L U,agQ L U] [](scL L U s k1 k2 k3 k4 k5 v1 v2 v3 v4 v5)Tryz.f31 [.own 0 0,.agg s.c](HY false false) [some 0,some 2] =
  cond(iY(bP Tryz.prog 86 [.own 0 0,.agg(eyA s.eye)](HY false false++[.c s.c])(.aN [])(lW s l1 false u1)))
   (tQ L U [ko [FE],iWh s.jE,agR](lW s l1 false u1)fun _=>gate(iV 1(q1 s 0(lW s(L 5)false(U 5)))(q1 s 0(lW s(L 5)false(U 5))))(gate(iV 1(q2 s 0(lW s k1 false v1))(q2 s 0(lW s k1 false v1)))(gate(iV 1(q3 s 0(lW s k2 false v2))(q3 s 0(lW s k2 false v2)))
     (gate(iV 1(q4 s 0(lW s k3 false v3))(q4 s 0(lW s k3 false v3)))(gate(iV 1(q5 s 0(lW s k4 false v4))(q5 s 0(lW s k4 false v4)))(fD(.aN [])(pM k5 false v5)))))))none:=by kernel_rfl
end
structure Ic(s:fT)(mem:List Row)(l:List UInt8)(b u:Bool):Prop where
 inv:Inv mem l b u
 two:2≤Qv mem
 box:mem[1]?=some(.c s.c)
theorem Ic.oz {s:fT}{mem:List Row}{l l':List UInt8}{b u b' u':Bool}(h:Ic s mem l b u):Ic s(oz mem l' b' u')l' b' u'∧(Pi.oz mem l' b' u').length=mem.length+1:=by
 obtain⟨h1,h2⟩:=h.inv.oz(l':=l')(b':=b')(u':=u')
 obtain⟨k,r,rfl,hk,hc⟩:=h.inv.cons
 have hkl:k<r.length:=(List.getElem?_eq_some_iff.1 hk).1
 have h2':2≤k+1:=by rw[←hc];exact h.two
 refine⟨⟨h1,by show 2≤r.length+1;omega,?_⟩,h2⟩
 show((Gf _ _ _ _::r.set(k+1 - 1) .dead)++[bR l'])[1]?=_
 rw[List.getElem?_append_left(by simp;omega),List.getElem?_cons_succ,List.getElem?_set_ne(by omega)]
 have:=h.box
 rwa [List.getElem?_cons_succ]at this
theorem Ic.need {s:fT}{mem:List Row}{l:List UInt8}{b u:Bool}(h:Ic s mem l b u)(t:Bool):Ic s(Cb t mem)l b(cond u true(!t))∧(Cb t mem).length=mem.length:=by
 obtain⟨h1,h2⟩:=h.inv.need t
 obtain⟨k,r,rfl,hk,hc⟩:=h.inv.cons
 exact⟨⟨h1,by have:=h.two;rw[hc]at this;exact this,h.box⟩,h2⟩
theorem Ic.MI {s:fT}{mem:List Row}{l:List UInt8}{b u:Bool}(h:Ic s mem l b u):MI mem=lW s l b u:=by
 obtain⟨k,r,rfl,hk,hc⟩:=h.inv.cons
 have hb:=h.box
 rw[List.getElem?_cons_succ]at hb
 cases r with
 |nil=>simp at hb
 |cons bx r =>
  simp at hb
  subst hb
  show [_,_,(_::r).getD(k+1 - 1) .dead]=_
  rw[List.getD_eq_getElem?_getD,Nat.add_sub_cancel,hk]
  rfl
theorem zK {s:fT}:∀(its:List SI)(Z:List(List UInt8 × Bool))(n0:Nat)(m:List Row)(l:List UInt8)(b u:Bool)(k:List Row→Option Out),Ic s m l b u→n0≤m.length→(∀i,(LU its l b u)[i]?≠none→Z[m.length - n0+i]?=(LU its l b u)[i]?)→(∀i,i∈its→i.ok)→l.length+(comp its b).length≤900000000 →
  ∃m',Ic s m'(l++comp its b)(cbf its b)(u||fU its)∧tQ(fun n=>(Z.getD(n - n0)([],false)).1)(fun n=>(Z.getD(n - n0)([],false)).2)(its.map SI.itm)m k=k m'
 | [],Z,n0,m,l,b,u,k,hI,_,_,_,_=>⟨m,by simpa[cbf]using hI,rfl⟩
 |.g p::r,Z,n0,m,l,b,u,k,hI,h0,hZ,hok,hl=>by
  have hp:p:=hok(.g p)(by simp)
  obtain⟨m',h1,h2⟩:=zK r Z n0 m l b u k hI h0 hZ(fun i hi=>hok i(by simp[hi]))hl
  refine⟨m',h1,?_⟩
  show gate p _=_
  rw[ah hp]
  exact h2
 |.n t::r,Z,n0,m,l,b,u,k,hI,h0,hZ,hok,hl=>by
  obtain⟨hI',hlen⟩:=hI.need t
  obtain⟨m',h1,h2⟩:=zK r Z n0(Cb t m)l b(cond u true(!t))k hI'(by rw[hlen];exact h0)(by rw[hlen];exact hZ)(fun i hi=>hok i(by simp[hi]))hl
  refine⟨m',?_,?_⟩
  ·have e:(u||(!t||fU r))=(cond u true(!t)||fU r):=by cases u<;>rfl
   show Ic s m'(l++comp r b)(cbf r b)(u||(!t||fU r))
   rw[e]
   exact h1
  ·show cond(iY _)_ none=_
   rw[fH(Ob hI.inv t)]
   exact h2
 |.w f a E bad bf::r,Z,n0,m,l,b,u,k,hI,h0,hZ,hok,hl=>by
  obtain⟨hP,ha⟩:SI.ok(.w f a E bad bf):=hok(.w f a E bad bf)(by simp)
  have hl':l.length+((E b).length+(comp r bf).length)≤900000000:=by
   have:(comp(.w f a E bad bf::r)b).length=(E b).length+(comp r bf).length:=List.length_append
   omega
  obtain⟨hI',hlen⟩:=hI.oz(l':=l++E b)(b':=bf)(u':=u||bad)
  have hz:Z.getD(m.length - n0)([],false)=(l++E b,u||bad):=by
   have:=hZ 0(by simp[LU])
   rw[Nat.add_zero]at this
   rw[List.getD_eq_getElem?_getD,this]
   rfl
  obtain⟨m',h1,h2⟩:=zK r Z n0(oz m(l++E b)bf(u||bad))(l++E b)bf(u||bad)k hI'(by rw[hlen];omega)(fun i hi=>by
   have:=hZ(i+1)(by simpa[LU]using hi)
   rw[hlen,show m.length+1 - n0+i=m.length - n0+(i+1)by omega,this]
   rfl)(fun i hi=>hok i(by simp[hi]))(by rw[List.length_append];omega)
  refine⟨m',?_,?_⟩
  ·have e1:l++comp(.w f a E bad bf::r)b=l++E b++comp r bf:=(List.append_assoc _ _ _).symm
   have e2:(u||fU(.w f a E bad bf::r))=(u||bad||fU r):=(Bool.or_assoc _ _ _).symm
   rw[e1,e2]
   exact h1
  ·show cond(iY(bP Tryz.prog f(.own 0 0::a)m(.aN [])(oz m(Z.getD(m.length - n0)([],false)).1 bf(Z.getD(m.length - n0)([],false)).2)))(tQ _ _(r.map SI.itm)(oz m(Z.getD(m.length - n0)([],false)).1 bf(Z.getD(m.length - n0)([],false)).2)k)none=_
   rw[hz,fH(xZ hI.inv ha(fun _=>rfl)(hP l b u(by omega)))]
   exact h2
theorem Tp(s:fT)(l:List UInt8)(b u:Bool)(r:List Row):Ic s(lW s l b u++r)l b u:=⟨⟨by show 0<2;omega,rfl,rfl⟩,by show 2≤2;omega,rfl⟩
def bY(E:Nat→List UInt8):Nat→List UInt8
 | 0=>[]
 |j+1=>bY E j++E j
def mh(B:Nat→Bool):Nat→Bool
 | 0=>false
 |j+1=>mh B j||B j
theorem wD {E:Nat→List UInt8}{n:Nat}:∀{j:Nat},j≤n→(bY E j).length≤(bY E n).length:=fun {j} h=>by
  induction n with
  | zero => have:j=0:=by omega
            subst this;exact Nat.le_refl _
  |succ n ih =>
    by_cases c:j=n+1
    · subst c;exact Nat.le_refl _
    · have:=ih(by omega)
      show _≤(bY E n++E n).length
      rw[List.length_append];omega
theorem awK {j n:Nat}(hj:j<n)(x y:Option Out):qC(j:Nat)n x y=x:=by unfold qC;rw[dec_lt hj,gy hj];rfl
theorem agS(L:Nat→List UInt8)(U:Nat→Bool):∀e,e∈RA L U→vC Tryz.prog e:=aC bX <|aC bX <|aC bX <|aC bX <|aC bX <|aC bX bJ
theorem Ef {s:fT}{c:Code}{q:Int→List Row→St}{n:Nat}{ex:Exit}{kq:List Nat}{τ:List(Option Nat)}(hex:ex≠.normal)(hk:K3 1(fu kq τ))(hk2:K3 1(gM kq [some 0,some 1,some 2]))(hn:n≤100000)(its:Nat→List SI)(bx:Nat→Row)(X:(Nat→List UInt8)→(Nat→Bool)→List UInt8→Bool→Option Out)
  (hS:∀L U l u(j:Nat),tN Tryz.prog [] []wU(RA L U) []aM c(q(j:Nat)(lW s l false u))(fu kq τ)=qC(j:Nat)n(tQ L U((its j).map SI.itm)(lW s l false u++[bx j])fun m=>some⟨.normal,q(aI((j:Nat)+1))(MI m),.any⟩)none)
  (hE:∀L U l u,tN Tryz.prog [] []wU(RA L U) []aM c(q(n:Nat)(lW s l false u))(gM kq [some 0,some 1,some 2])=qC(n:Nat)n(X L U l u)(some⟨ex,q(n:Nat)(lW s l false u),.any⟩))
  (hok:∀j,j<n→∀i,i∈its j→i.ok)(hbf:∀j,cbf(its j)false=false) {l:List UInt8}{u:Bool}(hl:l.length+(bY(fun j=>comp(its j)false)n).length≤900000000) :
  fG 1 Tryz.prog(.loop c)(q 0(lW s l false u))ex(q(n:Nat)(lW s(l++bY(fun j=>comp(its j)false)n)false(u||mh(fun j=>fU(its j))n))):=by
 suffices key:fG 1 Tryz.prog(.loop c)(q((0:Nat):Int)(lW s(l++bY(fun j=>comp(its j)false)0)false(u||mh(fun j=>fU(its j))0)))ex(q(n:Nat)(lW s(l++bY(fun j=>comp(its j)false)n)false(u||mh(fun j=>fU(its j))n)))by
  have e1:l++bY(fun j=>comp(its j)false)0=l:=List.append_nil _
  have e2:(u||mh(fun j=>fU(its j))0)=u:=Bool.or_false _
  rw[e1,e2]at key
  exact key
 have awL:∀(j:Nat)(lj:List UInt8)(uj:Bool),j<n→lj.length+(comp(its j)false).length≤900000000→fG 1 Tryz.prog c(q(j:Nat)(lW s lj false uj)) .normal(q((j+1:Nat):Int)(lW s(lj++comp(its j)false)false(uj||fU(its j)))):=fun j lj uj hj hlj=>by
  obtain⟨m',h1,h2⟩:=zK(s:=s)(its j)(LU(its j)lj false uj)4(lW s lj false uj++[bx j])lj false uj(fun m=>some⟨.normal,q(aI((j:Nat)+1))(MI m),.any⟩)(Tp s _ _ _ _)(Nat.le_refl _)(fun i _=>by rw[show(lW s lj false uj++[bx j]).length - 4+i=i by show 4 - 4+i=i;omega])(hok j hj)hlj
  refine jf hk aB av gG(agS _ _)bS aS((hS(fun n=>((LU(its j)lj false uj).getD(n - 4)([],false)).1)(fun n=>((LU(its j)lj false uj).getD(n - 4)([],false)).2)lj uj j).trans ?_)
  rw[awK hj]
  refine h2.trans ?_
  rw[h1.MI,hbf,bD(by omega)]
 refine aU(fun j=>q(j:Nat)(lW s(l++bY(fun j=>comp(its j)false)j)false(u||mh(fun j=>fU(its j))j)))n ex _ hex(fun j hj=>?_) ?_
 ·have hle:=wD(E:=fun j=>comp(its j)false)(n:=n)(j:=j+1)(by omega)
  have hnx:(bY(fun j=>comp(its j)false)(j+1)).length=(bY(fun j=>comp(its j)false)j).length+(comp(its j)false).length:=List.length_append
  have hlen:(l++bY(fun j=>comp(its j)false)j).length=l.length+(bY(fun j=>comp(its j)false)j).length:=List.length_append
  have:=awL j(l++bY(fun j=>comp(its j)false)j)(u||mh(fun j=>fU(its j))j)hj(by omega)
  rw[List.append_assoc,Bool.or_assoc]at this
  exact this
 ·refine jf hk2 aB av gG(agS(fun _=>[])(fun _=>false))bS aS((hE(fun _=>[])(fun _=>false)_ _).trans ?_)
  unfold qC
  rw[bQ]
  rfl
section
variable(dc:Int→List UInt8)(tn:Nat→Int)(tb:Nat→Bool)(s:fT)
def skI(j:Nat):List SI:=[.w 90 [.agg(Hs.Sc.xJ(s.K j)),iA(j:Nat)](fun b=>iD b(skT dc(s.K j)(fun q=>s.K j(3+q))(fun q=>s.K j(6+q))(s.K j 9)(j:Nat)))false false]
def lmI(j:Nat):List SI:=[.w 91 [.agg(Hs.Sc.IB(s.LA j)(s.LL j))](fun b=>iD b(WC dc tn(s.LA j)(s.LL j)))(vB tb(s.LA j)0)false]
def sWr(k:Int):SI:=.w 93 [iA k](fun b=>iD b [oM k])false false
def shI(j:Nat):List SI:=[.w 92 [.agg(s.S j).c](fun b=>tks b(yE dc tn(s.S j).k(s.S j).a))(Di tb(s.S j).k(s.S j).a(s.S j).sk)true,sWr(s.S j).sk]
def ZW(j:Nat):List SI:=[.w 94 [.agg(s.O j).c](fun b=>tks b(soT dc tn(s.O j).n(s.O j).P))(PO tb(s.O j).n(s.O j).P)true,sWr(s.O j).sk]
def feI(j:Nat):List SI:=[.w 95 [.agg(s.F j).c](fun b=>tks b(ZV dc tn(s.F j)))(J6 tb(s.F j))true,sWr(s.F j).sk]
def yN:List SI:=[ku FE,sWh s.jE,Tn]
def x0:List UInt8:=iD false(eyT dc tn s.eye)
def x1:List UInt8:=x0 dc tn s++comp(yN s)false
def x2:List UInt8:=x1 dc tn s++bY(fun j=>comp(skI dc s j)false)s.nK
def x3:List UInt8:=x2 dc tn s++bY(fun j=>comp(lmI dc tn tb s j)false)s.nL
def x4:List UInt8:=x3 dc tn tb s++bY(fun j=>comp(shI dc tn tb s j)false)s.nS
def x5:List UInt8:=x4 dc tn tb s++bY(fun j=>comp(ZW dc tn tb s j)false)s.nO
def x6:List UInt8:=x5 dc tn tb s++bY(fun j=>comp(feI dc tn tb s j)false)s.nF
def w1:Bool:=G7 tb s.eye||fU(yN s)
def w2:Bool:=w1 tb s||mh(fun j=>fU(skI dc s j))s.nK
def w3:Bool:=w2 dc tb s||mh(fun j=>fU(lmI dc tn tb s j))s.nL
def w4:Bool:=w3 dc tn tb s||mh(fun j=>fU(shI dc tn tb s j))s.nS
def w5:Bool:=w4 dc tn tb s||mh(fun j=>fU(ZW dc tn tb s j))s.nO
def w6:Bool:=w5 dc tn tb s||mh(fun j=>fU(feI dc tn tb s j))s.nF
structure ScN:Prop where
 e0:NV dc tn tb s.eye 0
 e3:NV dc tn tb s.eye 3
 e6:NV dc tn tb s.eye 6
 e9:Nu dc tn tb(s.eye 9)
 jE:Wh s.jE
 sk:∀j,j<s.nK→Xn oM(j:Nat)∧Wh(s.K j)∧Wh(fun q=>s.K j(3+q))∧Wh(fun q=>s.K j(6+q))∧FDc dc(s.K j 9)∧dc(s.K j 9)≠[]
 lm:∀j,j<s.nL→NV dc tn tb(s.LA j)0∧Wh(s.LL j)
 sh:∀j,j<s.nS→ShN dc tn tb(s.S j).k(s.S j).a∧Xn oM(s.S j).sk
 so:∀j,j<s.nO→((1≤(s.O j).n∧(s.O j).n≤16)∧PM(s.O j).n(s.O j).P∧∀i,i<(s.O j).n→((s.O j).P i).op=0→ShN dc tn tb((s.O j).P i).k((s.O j).P i).a)∧Xn oM(s.O j).sk
 fd:∀j,j<s.nF→((J7(s.F j).W∧Lib.itoa(s.F j).W≠[])∧(J7(s.F j).H∧Lib.itoa(s.F j).H≠[])∧NV dc tn tb(s.F j).at_ 0∧Nu dc tn tb(s.F j).sd∧(s.F j).n≤1000∧∀q,q<(s.F j).n→FDc dc((s.F j).hs q)∧dc((s.F j).hs q)≠[])∧Xn oM(s.F j).sk
 few:s.nS≤1000∧s.nO≤1000∧s.nF≤1000∧s.nK≤1000∧s.nL≤1000
end
section
variable {dc:Int→List UInt8}{tn:Nat→Int}{tb:Nat→Bool}{s:fT}
theorem Xo {k:Int}(h:Xn oM k):(sWr k).ok:=⟨ajP h,fun _=>rfl⟩
theorem ae0 {l:List UInt8}{u:Bool}(h:cu Tryz.prog 86 [.own 0 0,.agg(eyA s.eye)](HY false false)(.aN [])(pM l false u)):bP Tryz.prog 86 [.own 0 0,.agg(eyA s.eye)](HY false false++[.c s.c])(.aN [])(lW s l false u):=by
 refine xM(v:=.aN [])h [0]rfl rfl rfl(fun i j hi=>?_)⟨fun j hj hl=>?_,fun i j r hi hr=>?_,fun i r hi hr=>?_⟩
 ·match i,hi with
  | 0,hi=>simp at hi;subst hi;exact⟨_,rfl,rfl,rfl⟩
  |n+1,hi=>simp at hi
 ·match j,hj,hl with
  | 0,hj,_=>exact absurd(by simp)hj
  | 1,_,_=>rfl
  |n+2,_,hl=>exact absurd hl(by show ¬n+2<2;omega)
 ·match i,hi with
  | 0,hi=>simp at hi;subst hi;cases hr;rfl
  |n+1,hi=>simp at hi
 ·match i,hi,hr with
  | 0,hi,_=>exact absurd hi(by show ¬ 1≤0;omega)
  | 1,_,hr=>cases hr;rfl
  |n+2,_,hr=>cases hr
theorem ae1 {np:Nat}{P:Program}{c:Code}:ny np P(nA [])c:=fun _ _ _ _ _ h=>by cases h
theorem wm {np:Nat}{P:Program}{c:Code}{i:Nat}{g:dN}{l:List(Nat × dN)}(hg:ny np P(gu i g)c)(hl:ny np P(nA l)c):ny np P(nA((i,g)::l))c:=by
 intro c' hc j f hj hf
 have hf:cond(Nat.beq j i)(some g)(nA l j)=some f:=hf
 cases hb:Nat.beq j i
 ·rw[hb,cond_false]at hf
  exact hl c' hc j f hj hf
 ·rw[hb,cond_true]at hf
  refine hg c' hc j f hj ?_
  unfold gu
  rw[hb,cond_true]
  exact hf
theorem Ee {np:Nat}{P:Program}{c:Code}{i:Nat}{g:dN}(q m:Nat)(hlen:(bC c).length=m)(hid:((List.range m).all fun j=>Nat.beq j q||!(isId(jA((bC c).getD j .skip))i))=true)(h:DR np P((bC c).getD q .skip)g):ny np P(gu i g)c :=
 zq m hlen fun j hj hf=>by
  have:=List.all_eq_true.1 hid j(List.mem_range.2 hj)
  cases hb:Nat.beq j q
  ·rw[hb,hf]at this
   simp[isId]at this
  ·rw[Nat.eq_of_beq_eq_true hb]
   exact h
theorem Xp(h:ScN dc tn tb s)(hl:(x6 dc tn tb s).length≤900000):cu Tryz.prog 31 [.own 0 0,.agg s.c](HY false false)(.aN [])(pM(x6 dc tn tb s)false(w6 dc tn tb s)):=by
 have l6:(x6 dc tn tb s).length=(x5 dc tn tb s).length+(bY(fun j=>comp(feI dc tn tb s j)false)s.nF).length:=List.length_append
 have l5:(x5 dc tn tb s).length=(x4 dc tn tb s).length+(bY(fun j=>comp(ZW dc tn tb s j)false)s.nO).length:=List.length_append
 have l4:(x4 dc tn tb s).length=(x3 dc tn tb s).length+(bY(fun j=>comp(shI dc tn tb s j)false)s.nS).length:=List.length_append
 have l3:(x3 dc tn tb s).length=(x2 dc tn s).length+(bY(fun j=>comp(lmI dc tn tb s j)false)s.nL).length:=List.length_append
 have l2:(x2 dc tn s).length=(x1 dc tn s).length+(bY(fun j=>comp(skI dc s j)false)s.nK).length:=List.length_append
 have l1:(x1 dc tn s).length=(x0 dc tn s).length+(comp(yN s)false).length:=List.length_append
 have hf:=h.few
 have hw:bP Tryz.prog 86 [.own 0 0,.agg(eyA s.eye)](HY false false++[.c s.c])(.aN [])(lW s(x0 dc tn s)false(G7 tb s.eye)):=ae0(J8 h.e0 h.e3 h.e6 h.e9(show(x0 dc tn s).length≤900000 by omega))
 have k1:=Ef(s:=s)(c:=au Tryz.f31 0)(q:=q1 s)(n:=s.nK)(ex:=.exit 0)(kq:=kq1)(τ:=[some 0,some 1,some 4])(by simp)(jI _(by rfl))(lT _(by rfl))(by omega)(skI dc s)(fun j=>.c(Hs.Sc.xJ(s.K j)))_(fun L U l u j=>ajQ L U s l false u(j:Nat))(fun L U l u=>aoZ L U s l false u(s.nK:Nat))
  (fun j hj=>aJ⟨ajR(h.sk j hj).1(h.sk j hj).2.1(h.sk j hj).2.2.1(h.sk j hj).2.2.2.1(h.sk j hj).2.2.2.2.1(h.sk j hj).2.2.2.2.2,fun _=>rfl⟩iO)(fun _=>rfl)(l:=x1 dc tn s)(u:=w1 tb s)(by omega)
 have k2:=Ef(s:=s)(c:=au Tryz.f31 1)(q:=q2 s)(n:=s.nL)(ex:=.exit 2)(kq:=kq2)(τ:=[some 0,some 1,some 4])(by simp)(jI _(by rfl))(lT _(by rfl))(by omega)(lmI dc tn tb s)(fun j=>.c(Hs.Sc.IB(s.LA j)(s.LL j)))_(fun L U l u j=>ajS L U s l false u(j:Nat))(fun L U l u=>ao0 L U s l false u(s.nL:Nat))
  (fun j hj=>aJ⟨ajT(h.lm j hj).1(h.lm j hj).2,fun _=>rfl⟩iO)(fun _=>rfl)(l:=x2 dc tn s)(u:=w2 dc tb s)(by omega)
 have k3:=Ef(s:=s)(c:=au Tryz.f31 2)(q:=q3 s)(n:=s.nS)(ex:=.exit 4)(kq:=kq3)(τ:=[some 0,some 1,some 5])(by simp)(jI _(by rfl))(lT _(by rfl))(by omega)(shI dc tn tb s)(fun j=>.c(s.S j).c)_(fun L U l u j=>ajU L U s l false u(j:Nat))(fun L U l u=>ao1 L U s l false u(s.nS:Nat))
  (fun j hj=>aJ⟨Ti(h.sh j hj).1,fun _=>rfl⟩(aJ(Xo(h.sh j hj).2)iO))(fun _=>rfl)(l:=x3 dc tn tb s)(u:=w3 dc tn tb s)(by omega)
 have k4:=Ef(s:=s)(c:=au Tryz.f31 3)(q:=q4 s)(n:=s.nO)(ex:=.exit 6)(kq:=kq4)(τ:=[some 0,some 1,some 5])(by simp)(jI _(by rfl))(lT _(by rfl))(by omega)(ZW dc tn tb s)(fun j=>.c(s.O j).c)_(fun L U l u j=>ajV L U s l false u(j:Nat))(fun L U l u=>ao2 L U s l false u(s.nO:Nat))
  (fun j hj=>aJ⟨ae2(h.so j hj).1.1.1(h.so j hj).1.1.2(h.so j hj).1.2.1(h.so j hj).1.2.2,fun _=>rfl⟩(aJ(Xo(h.so j hj).2)iO))(fun _=>rfl)(l:=x4 dc tn tb s)(u:=w4 dc tn tb s)(by omega)
 have k5:=Ef(s:=s)(c:=au Tryz.f31 4)(q:=q5 s)(n:=s.nF)(ex:=.exit 8)(kq:=kq5)(τ:=[some 0,some 1,some 5])(by simp)(jI _(by rfl))(lT _(by rfl))(by omega)(feI dc tn tb s)(fun j=>.c(s.F j).c)_(fun L U l u j=>ajW L U s l false u(j:Nat))(fun L U l u=>ao3 L U s l false u(s.nF:Nat))
  (fun j hj=>aJ⟨ae3(h.fd j hj).1.1(h.fd j hj).1.2.1(h.fd j hj).1.2.2.1(h.fd j hj).1.2.2.2.1(h.fd j hj).1.2.2.2.2.1(h.fd j hj).1.2.2.2.2.2,fun _=>rfl⟩(aJ(Xo(h.fd j hj).2)iO))(fun _=>rfl)(l:=x5 dc tn tb s)(u:=w5 dc tn tb s)(by omega)
 obtain⟨m',hm1,hm2⟩:=zK(s:=s)(yN s)(LU(yN s)(x0 dc tn s)false(G7 tb s.eye))3(lW s(x0 dc tn s)false(G7 tb s.eye))(x0 dc tn s)false(G7 tb s.eye)(fun _=>fD(.aN [])(pM(x6 dc tn tb s)false(w6 dc tn tb s)))(by have:=Tp s(x0 dc tn s)false(G7 tb s.eye) [];rwa [List.append_nil]at this)(Nat.le_refl _)(fun i _=>by rw[show(lW s(x0 dc tn s)false(G7 tb s.eye)).length - 3+i=i by show 3 - 3+i=i;omega])
  (aJ(fq(by simp[FE])) <|aJ(J9 h.jE) <|aJ Eh iO)(by omega)
 have e5:(LU(yN s)(x0 dc tn s)false(G7 tb s.eye)).getD(5 - 3)([],false)=(x1 dc tn s,w1 tb s):=by
  unfold x1 w1
  simp[LU,yN]
 have hL:ny 1 Tryz.prog(scL(fun n=>((LU(yN s)(x0 dc tn s)false(G7 tb s.eye)).getD(n - 3)([],false)).1)(fun n=>((LU(yN s)(x0 dc tn s)false(G7 tb s.eye)).getD(n - 3)([],false)).2)s(x2 dc tn s)(x3 dc tn tb s)(x4 dc tn tb s)(x5 dc tn tb s)(x6 dc tn tb s)(w2 dc tb s)(w3 dc tn tb s)(w4 dc tn tb s)(w5 dc tn tb s)(w6 dc tn tb s))(dG Tryz.f31):=by
  refine wm(Ee 0 5(by kernel_rfl)(by kernel_rfl)(jy(by rfl) ?_)) <|wm(Ee 1 5(by kernel_rfl)(by kernel_rfl)(jy(by rfl)k2)) <|wm(Ee 2 5(by kernel_rfl)(by kernel_rfl)(jy(by rfl)k3)) <|wm(Ee 3 5(by kernel_rfl)(by kernel_rfl)(jy(by rfl)k4)) <|wm(Ee 4 5(by kernel_rfl)(by kernel_rfl)(jy(by rfl)k5))ae1
  show fG 1 Tryz.prog _(q1 s 0(lW s((LU(yN s)(x0 dc tn s)false(G7 tb s.eye)).getD(5 - 3)([],false)).1 false((LU(yN s)(x0 dc tn s)false(G7 tb s.eye)).getD(5 - 3)([],false)).2))_ _
  rw[e5]
  exact k1
 refine bM aB av gG(aC aX(aC bX(aC bX(aC bX bJ))))bS Tryz.func31(by kernel_rfl)(by kernel_rfl)(mem:=HY false false)hL rfl(τ:=[some 0,some 2])(by rfl)((ae4(fun n=>((LU(yN s)(x0 dc tn s)false(G7 tb s.eye)).getD(n - 3)([],false)).1)(fun n=>((LU(yN s)(x0 dc tn s)false(G7 tb s.eye)).getD(n - 3)([],false)).2)s(x0 dc tn s)(x2 dc tn s)(x3 dc tn tb s)(x4 dc tn tb s)(x5 dc tn tb s)(x6 dc tn tb s)(G7 tb s.eye)(w2 dc tb s)(w3 dc tn tb s)(w4 dc tn tb s)(w5 dc tn tb s)(w6 dc tn tb s)).trans ?_)
 rw[fH hw,ah(iV.refl _),ah(iV.refl _),ah(iV.refl _),ah(iV.refl _),ah(iV.refl _)]
 exact hm2
end
end Go.Proofs.YtefphimaggjihaaGreatDoor.Pi
namespace Go.Proofs.YtefphimaggjihaaGreatDoor
open Go.Shelf
def Tryz.UJ:Go.Shelf.Ren:=⟨fun | 169=>32 |n=>n,fun | 0=>0 | 3=>3 | 5=>5 | 9=>9 | 37=>78 | 70=>77 | 72=>80 | 127=>135 |n=>n,fun  |n=>n⟩
theorem Tryz.alo:Go.Proofs.Lays.n169 Tryz.prog Tryz.UJ:={
 mixed:=by kernel_rfl
 f169:=Tryz.func32.trans(congrArg some(by kernel_rfl))
 t0:=Tryz.Ab
 a0:=Tryz.Yq
 z0:=Tryz.QD
 v0:=Tryz.C8
 t3:=Tryz.pG
 a3:=Tryz.VQ
 z3:=Tryz.OP
 v3:=Tryz.Ci
 t9:=Tryz.underlying9
 a9:=Tryz.OQ
 z9:=Tryz.Ih
 v9:=Tryz.wY
 t37:=Tryz.EP
 a37:=Tryz.alp
 z37:=Tryz.ag0
 v37:=Tryz.UK
 t70:=Tryz.ER
 a70:=Tryz.alq
 z70:=Tryz.ag1
 v70:=Tryz.UL
 t72:=Tryz.ES
 a72:=Tryz.alr
 z72:=Tryz.ag2
 v72:=Tryz.UM
 t127:=Tryz.Cc
 a127:=Tryz.awM
 z127:=Tryz.atK
 v127:=Tryz.als
}
end Go.Proofs.YtefphimaggjihaaGreatDoor
namespace Go.Proofs.YtefphimaggjihaaGreatDoor.Pi
open Go.Shelf Go.RowKit Go.Gv
theorem QE(w:World)(g n:Nat):w.grownBy(w.drew.freeze⟨g,0,none⟩n)(some g):=by
 unfold World.freeze
 split
 ·exact⟨rfl,rfl,rfl,Nat.le_refl _,fun _ _ _=>rfl⟩
 ·refine⟨rfl,rfl,rfl,by simp,fun k _ hk=>?_⟩
  have hne:g≠k:=fun e=>hk(by rw[e])
  show(w.heap.modify g _)[k]?=_
  rw[Array.getElem?_modify,if_neg hne]
theorem Yr(b g cap:Nat)(p y0 y1:Value)(cur:Array Value)(l:List UInt8)(w:World)(h0:l≠[])(hbk:w.heap[b]?=some(.cells #[p,.slice(some⟨g,0,none⟩)l.length cap,y0,y1] 82(0,0)))
  (hg:w.heap[g]?=some(.cells cur 5(0,0)))(hcap:l.length≤cap)(hsz:cur.size=cap)(hcm:cap≤maxLen)(hel:∀(j:Nat)(x:UInt8),l[j]?=some x→cur[j]?=some(.int .u8(x.toNat:Nat))) :
  Calls Tryz.prog 32 #[.pointer(some⟨b,0,none⟩)]w fun e w'=>e=.returned(.string⟨l.toArray⟩)∧w'=w.drew.freeze⟨g,0,none⟩l.length:=by
 have hl0:l.length≠0:=by simpa using h0
 have c1:w.drew.cell?⟨b,1,none⟩=some(.slice(some⟨g,0,none⟩)l.length cap):=by
  have h:w.drew.heap[b]?=some(.cells #[p,.slice(some⟨g,0,none⟩)l.length cap,y0,y1] 82(0,0)):=hbk
  rw[Lib.cell_of_heap h];rfl
 have hSD:(Builtin.unsafeSliceData_ #[78] 135 #[.slice(some⟨g,0,none⟩)l.length cap]).run Tryz.prog w.drew=.ok(.pointer(some⟨g,0,none⟩))w.drew :=
  Lib.run_unsafeSliceData_row _ _ _ _ _ _(by omega)
 have hUS:(Builtin.unsafeString_ #[135,3] 9 #[.pointer(some⟨g,0,none⟩),.int .i64 l.length]).run Tryz.prog w.drew=.ok(.string⟨l.toArray⟩)(w.drew.freeze⟨g,0,none⟩l.length):=by
  have hg':w.drew.heap[g]?=some(.cells cur 5(0,0)):=hg
  refine Lib.run_unsafeString_row w.drew 135 3 9 5 Tryz.Cc(by kernel_rfl)g cur.size(by simp[World.shape?,hg'])l h0(by omega)(by unfold maxLen at hcm;omega) ?_
  intro j x hx
  rw[Addr.add_lit,Lib.cell_of_heap hg']
  simpa using hel j x hx
 have aDB:=Tryz.alo
 have u80:=run_underlying Tryz.ES
 have u77:=run_underlying Tryz.ER
 have u78:=run_underlying Tryz.EP
 have aDC:=run_underlying Tryz.Cc
 have u3:=run_underlying Tryz.pG
 have u9:=run_underlying Tryz.underlying9
 have u5:=run_underlying Tryz.underlying5
 go_enter Tryz.func32,Tryz.ntmps32
 go_wp2
 go_region
 all_goals(go_wp2;go_ret;exact⟨rfl,rfl⟩)
theorem agE {mem:List Row}{k k2:Nat}{P0 Y0 Y1:AV}{l:List UInt8}(hk:mem[k]?=some(.t 82 [P0,.fJ k2 1 0 l.length,Y0,Y1]))(hk2:mem[k2]?=some(bR l))(h0:l≠[]):bP Tryz.prog 32 [.own k 0]mem(zA(lB l))(mem.set k2 .dead):=by
 refine⟨⟨_,Tryz.func32,by kernel_rfl,by kernel_rfl⟩,fun A0 R w0 E aZ hW hgl hr=>?_⟩
 obtain⟨u0,t0,e0,r0,hr⟩:=aH.1 hr
 have e1:=bK.1 hr
 subst e1
 obtain⟨b,c,hO,rfl⟩:=jh.1 r0
 have ec:aZ=#[.pointer(some⟨b,0,none⟩)]:=by apply Array.ext';simpa using e0
 subst ec
 obtain⟨row,hrow,hrel⟩:=hW.rows k b c hO
 rw[hk]at hrow
 cases hrow
 obtain⟨cs,hcs,hpre,hsz⟩:=hrel
 obtain⟨p,us,e2,rp,hpre⟩:=bE.1 hpre
 obtain⟨v,us1,e3,rv,hpre⟩:=bE.1 hpre
 obtain⟨y0,us2,e4,ry0,hpre⟩:=bE.1 hpre
 obtain⟨y1,us3,e5,ry1,_⟩:=bE.1 hpre
 have hus:us3=[]:=by
  have:=congrArg List.length e2
  rw[e3,e4,e5]at this
  simp only[Array.length_toList,List.length_cons,hsz]at this
  exact List.eq_nil_of_length_eq_zero(by simpa using this.symm)
 subst hus e5 e4 e3
 have hcs2:cs=#[p,v,y0,y1]:=by apply Array.ext';simpa using e2
 subst hcs2
 have hl0:l.length≠0:=by simpa using h0
 rcases fM.1 rv with⟨_,h,_⟩ | ⟨g,cap,n,hO2,hn1,hn2,rfl⟩
 ·exact absurd h hl0
 obtain⟨aAX,hrow2,awN⟩:=hW.rows k2 g(cap,n)hO2
 rw[hk2]at hrow2
 cases hrow2
 obtain⟨cur,hcur,hcz,hn,hnc,hcm,hel⟩:=awN
 have hn:n=l.length:=hn
 subst hn
 have hlive:aK mem k2=true:=by unfold aK;rw[hk2];rfl
 refine(Yr b g cap p y0 y1 cur l E.w h0(by simpa using hcs)hcur hn2(by simpa using hcz)hcm ?_).mono ?_
 ·intro j x hx
  have hj:j<l.length:=(List.getElem?_eq_some_iff.1 hx).1
  obtain⟨u,us,e4,r4,_⟩:=bE.1(hel j hj).2
  have e5:=bI.1 r4
  have e6:cur.toList[j]?=some u:=by
   have:=congrArg(fun l:List Value=>l[0]?)e4
   simpa using this
  rw[←Array.getElem?_toList,e6,e5,List.getD_eq_getElem?_getD,hx]
  rfl
 ·rintro e w'⟨rfl,rfl⟩
  have hg:=QE E.w g l.length
  obtain⟨hA,hR⟩:=hW.own k2 g(cap,l.length)hO2 hlive
  have hlt:g<E.w.heap.size:=hW.small g hA
  refine⟨_,E.row(E.w.drew.freeze⟨g,0,none⟩l.length)k2 g(cap,l.length),rfl,rfl,Env.kN hg(Or.inl hA)(Or.inr hO2),?_,bI.2 rfl⟩
  refine hW.row(WZ:=.dead)hg(Nat.lt_of_lt_of_le hlt hg.size)hR(Or.inl hA)(Or.inr hO2)(List.getElem?_set_self(List.getElem?_eq_some_iff.1 hk2).1)(fun k' hk' b' c' hb'=>Or.inl⟨List.getElem?_set_ne(fun h=>hk' h.symm),fun hl e=>?_⟩)trivial
  subst e
  exact hk'(hW.one k' k2 b' c'(cap,l.length)hb' hO2 hl hlive)
open Hs.Sc (fT)
section
variable(s:fT)(l:List UInt8)(u:Bool)(e:Int)
def awn:List Row:=[.c s.c,.t 82 [.x(.pointer none),.x(.slice none 0 0),bA false,bA false]]
def pnM:List Row:=[.c s.c,.t 82 [.own 1 0,.fJ 2 1 0 l.length,bA false,bA u],bR l]
def pnD:List Row:=[.c s.c,.t 82 [.own 1 0,.fJ 2 1 0 l.length,bA false,bA u],.dead]
def pnW:List bH:=[wQ Tryz.prog 31(fun _ _=>.aN [])(fun _ _=>pnM s l u),wQ Tryz.prog 32(fun _ _=>zA(lB l))(fun _ _=>pnD s l u)]
theorem anv:evW Tryz.prog [] [kS Tryz.prog 14 fun _=>iA e] [typed 82](pnW s l u) []aM Tryz.f12 [.agg s.c]ret =
 gate(aj Tryz.prog 14 [.agg s.c](iA e))(cond(!(e==0))(some(Out.of(.aN [zA⟨#[]⟩,iA e])))
  (cond(iY(bP Tryz.prog 31 [.own 1 0,.agg s.c](awn s)(.aN [])(pnM s l u)))(cond u(some(Out.of(.aN [zA⟨#[]⟩,iA 11])))
   (cond(iY(bP Tryz.prog 32 [.own 1 0](pnM s l u)(zA(lB l))(pnD s l u)))(some(Out.of(.aN [zA(lB l),iA 0])))none))none)):=by kernel_rfl
end
open Hs.Sc (yP IQ)
theorem NJ {s:fT}(h:yP s≠0):aj Tryz.prog 12 [.agg s.c](.aN [zA⟨#[]⟩,iA(yP s)]):=by
 refine agD aB(ak aD av)(jl(UD _)bO)(aC aX(aC aX bJ))bS Tryz.func12(by kernel_rfl)(by kernel_rfl)aA rfl((anv s []false(yP s)).trans ?_)
 rw[ah(IQ s),beq_false_of_ne h]
 rfl
section
variable {dc:Int→List UInt8}{tn:Nat→Int}{tb:Nat→Bool}{s:fT}
theorem Yl {l:List UInt8}{u:Bool}(h:cu Tryz.prog 31 [.own 0 0,.agg s.c](HY false false)(.aN [])(pM l false u)):bP Tryz.prog 31 [.own 1 0,.agg s.c](awn s)(.aN [])(pnM s l u):=by
 refine xM(v:=.aN [])h [1]rfl rfl ?_(fun i j hi=>?_)⟨fun j hj hl=>?_,fun i j r hi hr=>?_,fun i r hi hr=>?_⟩
 ·rfl
 ·match i,hi with
  | 0,hi=>simp at hi;subst hi;exact⟨_,rfl,rfl,rfl⟩
  |n+1,hi=>simp at hi
 ·match j,hj,hl with
  | 0,_,_=>rfl
  | 1,hj,_=>exact absurd(by simp)hj
  |n+2,_,hl=>exact absurd hl(by show ¬n+2<2;omega)
 ·match i,hi with
  | 0,hi=>simp at hi;subst hi;cases hr;rfl
  |n+1,hi=>simp at hi
 ·match i,hi,hr with
  | 0,hi,_=>exact absurd hi(by show ¬ 1≤0;omega)
  | 1,_,hr=>cases hr;rfl
  |n+2,_,hr=>cases hr
theorem awo:x0 dc tn s≠[]:=by
 unfold x0 iD eyT
 simp[FD]
theorem awp:x6 dc tn tb s≠[]:=fun h=>awo(dc:=dc)(tn:=tn)(s:=s)(by
 unfold x6 x5 x4 x3 x2 x1 at h
 simp only[List.append_eq_nil_iff]at h
 exact h.1.1.1.1.1.1)
theorem WG(h0:yP s=0)(h:ScN dc tn tb s)(hl:(x6 dc tn tb s).length≤900000):aj Tryz.prog 12 [.agg s.c](cond(w6 dc tn tb s)(.aN [zA⟨#[]⟩,iA 11])(.aN [zA(lB(x6 dc tn tb s)),iA 0])):=by
 have hm:=IQ s
 rw[h0]at hm
 have hw:=Yl(Xp h hl)
 have hS:bP Tryz.prog 32 [.own 1 0](pnM s(x6 dc tn tb s)(w6 dc tn tb s))(zA(lB(x6 dc tn tb s)))(pnD s(x6 dc tn tb s)(w6 dc tn tb s)):=agE(mem:=pnM s(x6 dc tn tb s)(w6 dc tn tb s))(k:=1)(k2:=2)rfl rfl awp
 refine agD aB(ak aD av)(jl(UD _)bO)(aC aX(aC aX bJ))bS Tryz.func12(by kernel_rfl)(by kernel_rfl)aA rfl((anv s(x6 dc tn tb s)(w6 dc tn tb s)0).trans ?_)
 rw[ah hm,fH hw,fH hS]
 cases w6 dc tn tb s<;>rfl
end
end Go.Proofs.YtefphimaggjihaaGreatDoor.Pi
namespace Go.Gv
open Go.RowKit Go.Ev
def Ai(j:Nat)(v:Int):mg:=fun s k=>match s.slots[j]? with
 |some(.x(.int .u64 n),c)=>gate(n=v)(k⟨s.slots.set j(.x(.int .u64 v),c),s.mem⟩)
 |_=>none
theorem ahE {np:Nat}(j:Nat)(v:Int):fZ np(Ai j v):=fun s k r h=>by
 unfold Ai at h
 split at h
 ·rename_i n c hm
  obtain⟨hp,h⟩:=gY h
  subst hp
  have e:s.slots.set j(.x(.int .u64 n),c)=s.slots:=by
   obtain⟨hl,he⟩:=List.getElem?_eq_some_iff.1 hm
   rw[←he]
   exact List.set_getElem_self hl
  rw[e]at h
  exact⟨s,h,iV.refl s⟩
 ·cases h
end Go.Gv
namespace Go.Proofs.YtefphimaggjihaaGreatDoor.Pi
open Go.Shelf Go.RowKit Go.Gv
def gFb:List AV→AV
 | [.f w]=>.x(.int .u64(w:Int))
 |_=>.any
def cFb(nn:Nat→Bool):List AV→Bool
 | [.f w]=>nn w
 |_=>false
def gFf(ff:Int→Nat):List AV→AV
 | [.x(.int .u64 n)]=>.f(ff n)
 |_=>.any
def cFf:List AV→Bool
 | [.x(.int .u64 _)]=>true
 |_=>false
def Bj(nn:Nat→Bool):aV:=kIf 197(cFb nn)gFb
def Bl(ff:Int→Nat):aV:=kIf 198 cFf(gFf ff)
def uB(op:BitVec 64→BitVec 64→BitVec 64)(x y:Int):Int:=IntKind.u64.wrap((op(BitVec.ofInt 64 x)(BitVec.ofInt 64 y)).toNat:Nat)
def ac0(x y:Int):Int:=uB(fun a b=>a &&& b)x y
def uOr(x y:Int):Int:=uB(fun a b=>a |||b)x y
def uAn(x y:Int):Int:=uB(fun a b=>a &&& ~~~b)x y
section
variable(w:Nat)(ff:Int→Nat)(nn:Nat→Bool)
def rE(w:Nat):Int:=ac0((w:Int).fdiv(2 ^ 52))2047
def rG(e c1 c2:Int):Option Out:=cond(nn w)(cond(decide(rE w<1023))(cond(rE w==1022)(some(Out.of(.f(ff(uOr(ac0 w 9223372036854775808)4607182418800017408)))))(some(Out.of(.f(ff(ac0 w 9223372036854775808))))))
   (cond(decide(rE w<1075))(gate(IntKind.u64.wrap(rE w - 1023)=e)(some(Out.of(.f(ff(uAn(IntKind.u64.wrap((w:Int)+c1))c2))))))
     (some(Out.of(.f(ff(w:Int)))))))none
theorem rd0:qX Tryz.prog [] [Bj nn,Bl ff] []aM(iH 9(Ai 4 0))Tryz.f171 [.f w]ret=rG w ff nn 0 2251799813685248 4503599627370495:=by kernel_rfl
theorem rd1:qX Tryz.prog [] [Bj nn,Bl ff] []aM(iH 9(Ai 4 1))Tryz.f171 [.f w]ret=rG w ff nn 1 1125899906842624 2251799813685247:=by kernel_rfl
theorem rd2:qX Tryz.prog [] [Bj nn,Bl ff] []aM(iH 9(Ai 4 2))Tryz.f171 [.f w]ret=rG w ff nn 2 562949953421312 1125899906842623:=by kernel_rfl
theorem rd3:qX Tryz.prog [] [Bj nn,Bl ff] []aM(iH 9(Ai 4 3))Tryz.f171 [.f w]ret=rG w ff nn 3 281474976710656 562949953421311:=by kernel_rfl
theorem rd4:qX Tryz.prog [] [Bj nn,Bl ff] []aM(iH 9(Ai 4 4))Tryz.f171 [.f w]ret=rG w ff nn 4 140737488355328 281474976710655:=by kernel_rfl
theorem rd5:qX Tryz.prog [] [Bj nn,Bl ff] []aM(iH 9(Ai 4 5))Tryz.f171 [.f w]ret=rG w ff nn 5 70368744177664 140737488355327:=by kernel_rfl
theorem NI:qX Tryz.prog [] [Bj nn,Bl ff] []aM(iH 9(Ai 4 6))Tryz.f171 [.f w]ret=rG w ff nn 6 35184372088832 70368744177663:=by kernel_rfl
theorem rd7:qX Tryz.prog [] [Bj nn,Bl ff] []aM(iH 9(Ai 4 7))Tryz.f171 [.f w]ret=rG w ff nn 7 17592186044416 35184372088831:=by kernel_rfl
theorem rd8:qX Tryz.prog [] [Bj nn,Bl ff] []aM(iH 9(Ai 4 8))Tryz.f171 [.f w]ret=rG w ff nn 8 8796093022208 17592186044415:=by kernel_rfl
theorem rd9:qX Tryz.prog [] [Bj nn,Bl ff] []aM(iH 9(Ai 4 9))Tryz.f171 [.f w]ret=rG w ff nn 9 4398046511104 8796093022207:=by kernel_rfl
theorem aB6:qX Tryz.prog [] [Bj nn,Bl ff] []aM(iH 9(Ai 4 10))Tryz.f171 [.f w]ret=rG w ff nn 10 2199023255552 4398046511103:=by kernel_rfl
theorem aB7:qX Tryz.prog [] [Bj nn,Bl ff] []aM(iH 9(Ai 4 11))Tryz.f171 [.f w]ret=rG w ff nn 11 1099511627776 2199023255551:=by kernel_rfl
theorem aB8:qX Tryz.prog [] [Bj nn,Bl ff] []aM(iH 9(Ai 4 12))Tryz.f171 [.f w]ret=rG w ff nn 12 549755813888 1099511627775:=by kernel_rfl
theorem aB9:qX Tryz.prog [] [Bj nn,Bl ff] []aM(iH 9(Ai 4 13))Tryz.f171 [.f w]ret=rG w ff nn 13 274877906944 549755813887:=by kernel_rfl
theorem aCa:qX Tryz.prog [] [Bj nn,Bl ff] []aM(iH 9(Ai 4 14))Tryz.f171 [.f w]ret=rG w ff nn 14 137438953472 274877906943:=by kernel_rfl
theorem aCb:qX Tryz.prog [] [Bj nn,Bl ff] []aM(iH 9(Ai 4 15))Tryz.f171 [.f w]ret=rG w ff nn 15 68719476736 137438953471:=by kernel_rfl
theorem aCc:qX Tryz.prog [] [Bj nn,Bl ff] []aM(iH 9(Ai 4 16))Tryz.f171 [.f w]ret=rG w ff nn 16 34359738368 68719476735:=by kernel_rfl
theorem aCd:qX Tryz.prog [] [Bj nn,Bl ff] []aM(iH 9(Ai 4 17))Tryz.f171 [.f w]ret=rG w ff nn 17 17179869184 34359738367:=by kernel_rfl
theorem aCe:qX Tryz.prog [] [Bj nn,Bl ff] []aM(iH 9(Ai 4 18))Tryz.f171 [.f w]ret=rG w ff nn 18 8589934592 17179869183:=by kernel_rfl
theorem aCf:qX Tryz.prog [] [Bj nn,Bl ff] []aM(iH 9(Ai 4 19))Tryz.f171 [.f w]ret=rG w ff nn 19 4294967296 8589934591:=by kernel_rfl
theorem aCg:qX Tryz.prog [] [Bj nn,Bl ff] []aM(iH 9(Ai 4 20))Tryz.f171 [.f w]ret=rG w ff nn 20 2147483648 4294967295:=by kernel_rfl
theorem aCh:qX Tryz.prog [] [Bj nn,Bl ff] []aM(iH 9(Ai 4 21))Tryz.f171 [.f w]ret=rG w ff nn 21 1073741824 2147483647:=by kernel_rfl
theorem aCi:qX Tryz.prog [] [Bj nn,Bl ff] []aM(iH 9(Ai 4 22))Tryz.f171 [.f w]ret=rG w ff nn 22 536870912 1073741823:=by kernel_rfl
theorem aCj:qX Tryz.prog [] [Bj nn,Bl ff] []aM(iH 9(Ai 4 23))Tryz.f171 [.f w]ret=rG w ff nn 23 268435456 536870911:=by kernel_rfl
theorem aCk:qX Tryz.prog [] [Bj nn,Bl ff] []aM(iH 9(Ai 4 24))Tryz.f171 [.f w]ret=rG w ff nn 24 134217728 268435455:=by kernel_rfl
theorem aCl:qX Tryz.prog [] [Bj nn,Bl ff] []aM(iH 9(Ai 4 25))Tryz.f171 [.f w]ret=rG w ff nn 25 67108864 134217727:=by kernel_rfl
theorem aCm:qX Tryz.prog [] [Bj nn,Bl ff] []aM(iH 9(Ai 4 26))Tryz.f171 [.f w]ret=rG w ff nn 26 33554432 67108863:=by kernel_rfl
theorem aCn:qX Tryz.prog [] [Bj nn,Bl ff] []aM(iH 9(Ai 4 27))Tryz.f171 [.f w]ret=rG w ff nn 27 16777216 33554431:=by kernel_rfl
theorem aCo:qX Tryz.prog [] [Bj nn,Bl ff] []aM(iH 9(Ai 4 28))Tryz.f171 [.f w]ret=rG w ff nn 28 8388608 16777215:=by kernel_rfl
theorem aCp:qX Tryz.prog [] [Bj nn,Bl ff] []aM(iH 9(Ai 4 29))Tryz.f171 [.f w]ret=rG w ff nn 29 4194304 8388607:=by kernel_rfl
theorem aCq:qX Tryz.prog [] [Bj nn,Bl ff] []aM(iH 9(Ai 4 30))Tryz.f171 [.f w]ret=rG w ff nn 30 2097152 4194303:=by kernel_rfl
theorem aCr:qX Tryz.prog [] [Bj nn,Bl ff] []aM(iH 9(Ai 4 31))Tryz.f171 [.f w]ret=rG w ff nn 31 1048576 2097151:=by kernel_rfl
theorem ahF:∀k:Nat,k<32→qX Tryz.prog [] [Bj nn,Bl ff] []aM(iH 9(Ai 4(k:Nat)))Tryz.f171 [.f w]ret=rG w ff nn(k:Nat)((2 ^ (51 - k):Nat):Int)((2 ^ (52 - k) - 1:Nat):Int):=fun k hk=>by
 match k,hk with
 | 0,_=>exact rd0 w ff nn
 | 1,_=>exact rd1 w ff nn
 | 2,_=>exact rd2 w ff nn
 | 3,_=>exact rd3 w ff nn
 | 4,_=>exact rd4 w ff nn
 | 5,_=>exact rd5 w ff nn
 | 6,_=>exact NI w ff nn
 | 7,_=>exact rd7 w ff nn
 | 8,_=>exact rd8 w ff nn
 | 9,_=>exact rd9 w ff nn
 | 10,_=>exact aB6 w ff nn
 | 11,_=>exact aB7 w ff nn
 | 12,_=>exact aB8 w ff nn
 | 13,_=>exact aB9 w ff nn
 | 14,_=>exact aCa w ff nn
 | 15,_=>exact aCb w ff nn
 | 16,_=>exact aCc w ff nn
 | 17,_=>exact aCd w ff nn
 | 18,_=>exact aCe w ff nn
 | 19,_=>exact aCf w ff nn
 | 20,_=>exact aCg w ff nn
 | 21,_=>exact aCh w ff nn
 | 22,_=>exact aCi w ff nn
 | 23,_=>exact aCj w ff nn
 | 24,_=>exact aCk w ff nn
 | 25,_=>exact aCl w ff nn
 | 26,_=>exact aCm w ff nn
 | 27,_=>exact aCn w ff nn
 | 28,_=>exact aCo w ff nn
 | 29,_=>exact aCp w ff nn
 | 30,_=>exact aCq w ff nn
 | 31,_=>exact aCr w ff nn
 |n+32,h=>exact absurd h(by omega)
end
def bB(op:BitVec 64→BitVec 64→BitVec 64)(x y:Int):Int:=(((op(BitVec.ofInt 64 x)(BitVec.ofInt 64 y)).toNat:Nat):Int)
theorem ahG {n:Int}(h0:0≤n)(h1:n<18446744073709551616):IntKind.u64.wrap n=n:=by
 have e:IntKind.u64.wrap n=n % 18446744073709551616:=by
  unfold IntKind.wrap
  simp only[IntKind.bits,IntKind.signed,Bool.false_and]
  rfl
 rw[e]
 omega
theorem ahH(op:BitVec 64→BitVec 64→BitVec 64)(x y:Int):uB op x y=bB op x y:=by
 unfold uB bB
 exact ahG(by omega)(by have:=(op(BitVec.ofInt 64 x)(BitVec.ofInt 64 y)).isLt;omega)
theorem Gn {x:Nat}(h:x<2 ^ 64):(BitVec.ofInt 64(x:Int)).toNat=x:=by
 rw[BitVec.toNat_ofInt]
 omega
theorem al4 {x:Nat}(h:x<2 ^ 64):bB(fun a b=>a &&& b)(x:Int)2047=((x % 2048:Nat):Int):=by
 unfold bB
 rw[BitVec.toNat_and,Gn h,show(2047:Int)=((2047:Nat):Int)from rfl,Gn(by decide)]
 congr 1
 exact Nat.and_two_pow_sub_one_eq_mod x 11
theorem al5 {x:Nat}(h:x<2 ^ 64):bB(fun a b=>a &&& b)(x:Int)9223372036854775808=((x / 9223372036854775808*9223372036854775808:Nat):Int):=by
 unfold bB
 rw[BitVec.toNat_and,Gn h,show(9223372036854775808:Int)=((9223372036854775808:Nat):Int)from rfl,Gn(by decide)]
 congr 1
 apply Nat.eq_of_testBit_eq
 intro i
 rw[show x / 9223372036854775808*9223372036854775808=(x >>> 63) <<< 63 by rw[Nat.shiftLeft_eq,Nat.shiftRight_eq_div_pow],Nat.testBit_shiftLeft,Nat.testBit_shiftRight,Nat.testBit_and,show(9223372036854775808:Nat)=2 ^ 63 from rfl,Nat.testBit_two_pow]
 by_cases hi:i<63
 ·simp[Nat.not_le.2 hi,show ¬ 63=i by omega]
 ·by_cases h63:i=63
  ·subst h63;simp
  ·have:x.testBit i=false:=Nat.testBit_lt_two_pow(Nat.lt_of_lt_of_le h(Nat.pow_le_pow_right(by decide)(by omega)))
   rw[show 63+(i - 63)=i by omega,this];simp
theorem ase {x q:Nat}(h:x<2 ^ 64)(hq:q≤52):bB(fun a b=>a &&& ~~~b)(x:Int)((2 ^ q - 1:Nat):Int)=((x / 2 ^ q*2 ^ q:Nat):Int):=by
 unfold bB
 congr 1
 have hp:2 ^ q≤2 ^ 52:=Nat.pow_le_pow_right(by decide)hq
 have h0:0<2 ^ q:=Nat.two_pow_pos q
 apply Nat.eq_of_testBit_eq
 intro i
 rw[show x / 2 ^ q*2 ^ q=(x >>> q) <<< q by rw[Nat.shiftLeft_eq,Nat.shiftRight_eq_div_pow],Nat.testBit_shiftLeft,Nat.testBit_shiftRight]
 rw[BitVec.toNat_and,Nat.testBit_and,Gn h,BitVec.testBit_toNat,BitVec.getLsbD_not,←BitVec.testBit_toNat,Gn(by omega),Nat.testBit_two_pow_sub_one]
 by_cases hi:i<q
 ·simp[hi,Nat.not_le.2 hi]
 ·rw[decide_eq_false hi,decide_eq_true(show i≥q by omega)]
  by_cases h64:i<64
  ·rw[decide_eq_true h64];simp;congr 1;omega
  ·have:x.testBit i=false:=Nat.testBit_lt_two_pow(Nat.lt_of_lt_of_le h(Nat.pow_le_pow_right(by decide)(by omega)))
   rw[show q+(i - q)=i by omega,this];simp
def kY(w:Nat):Nat:=if w / 2 ^ 52 % 2048<1023 then(if w / 2 ^ 52 % 2048=1022 then w / 9223372036854775808*9223372036854775808+4607182418800017408 else w / 9223372036854775808*9223372036854775808)else(w+2 ^ (1074 - w / 2 ^ 52 % 2048)) / 2 ^ (1075 - w / 2 ^ 52 % 2048)*2 ^ (1075 - w / 2 ^ 52 % 2048)
open Go.Ev (cn aL)
def nnF(w:Nat):Bool:=!(aL w)&&decide(w<18446744073709551616)
theorem al6 {b w:Nat}(h:cn b=w)(hn:aL w=false):b=w:=by
 unfold cn at h
 cases hb:aL b
 ·rw[hb]at h;exact h
 ·rw[hb]at h
  have h:Go.Ev.uT=w:=h
  subst h
  exact absurd hn(by decide +kernel)
theorem aCs {w:Nat}(hn:aL w=false):EW Tryz.prog 197 [.f w](.x(.int .u64(w:Int))):=fun E aZ hv=>by
 obtain⟨l⟩:=aZ
 obtain⟨v,t,e1,h1,h2⟩:=aH.1 hv
 have e2:=bK.1 h2
 obtain⟨b,rfl,hb⟩:=jB.1 h1
 obtain rfl:=al6 hb hn
 have e3:l=[.float .f64 b]:=by rw[e2]at e1;exact e1
 subst e3
 refine⟨.int .u64 b,E.w,?_,Or.inl rfl,bI.2 rfl⟩
 rw[run_callFunc_extern Tryz.az1(by kernel_rfl)rfl(by kernel_rfl)(e:=Extern.MathFloatBits.float64bits)(by kernel_rfl)]
 rfl
theorem aCt(n:Int):EW Tryz.prog 198 [.x(.int .u64 n)](.f(cn n.toNat)):=fun E aZ hv=>by
 obtain⟨l⟩:=aZ
 obtain⟨v,t,e1,h1,h2⟩:=aH.1 hv
 have e2:=bK.1 h2
 have e0:=bI.1 h1
 subst e0
 have e3:l=[.int .u64 n]:=by rw[e2]at e1;exact e1
 subst e3
 refine⟨.float .f64 n.toNat,E.w,?_,Or.inl rfl,jB.2⟨_,rfl,rfl⟩⟩
 rw[run_callFunc_extern Tryz.az2(by kernel_rfl)rfl(by kernel_rfl)(e:=Extern.MathFloatBits.float64frombits)(by kernel_rfl)]
 rfl
theorem anH {P:Program}{f:Nat}{c:List AV→Bool}{g:List AV→AV}(h:∀args,c args=true→EW P f args(g args)):tX P(kIf f c g):=by
 constructor
 ·intro args k o ho
  simp only[kIf]at ho ⊢
  cases hc:c args
  ·rw[hc]at ho;cases ho
  ·rw[hc]at ho
   exact⟨g args,ho,fun k'=>rfl⟩
 ·intro args v hv
  have h1:=hv fun x=>some(Out.of x)
  simp only[kIf]at h1
  cases hc:c args
  ·rw[hc]at h1;cases h1
  ·rw[hc]at h1
   simp only[cond_true,Option.some.injEq,Out.of,Out.mk.injEq,true_and]at h1
   subst h1
   exact Or.inr(h args hc)
theorem ahI:tX Tryz.prog(Bj nnF):=anH fun args h=>by
 unfold cFb at h
 split at h
 ·unfold nnF at h
  simp only[Bool.and_eq_true,Bool.not_eq_true']at h
  exact aCs h.1
 ·cases h
theorem ahJ:tX Tryz.prog(Bl fun n=>cn n.toNat):=anH fun args h=>by
 unfold cFf at h
 split at h
 ·exact aCt _
 ·cases h
theorem qm {l : List Entry} {ks : List aV} {ms : List fQ} {L : Nat → Option dN} {Z : Nat → Option mg} (hZ : ∀ i h, Z i = some h → fZ 0 h) (hl : ∀ e, e ∈ l → lg Tryz.prog e) (hks : ∀ e, e ∈ ks → tX Tryz.prog e) (hms : ∀ e, e ∈ ms → vZ Tryz.prog e) {f : Nat} {fn : Func} (hf : Tryz.prog.funcs[f]? = some fn) (hnm : (fn.name == "runtime.NumGoroutine") = false) (hb : fn.body = some (dG fn)) (hL : yS Tryz.prog L (dG fn))
  {args:List AV}(hlen:Nat.ble args.length fn.ntmps=true) {r:AV}(h:qX Tryz.prog l ks ms L Z fn args ret=some(Out.of r)):aj Tryz.prog f args r:=pF hZ(qQ hl hks hms)(iJ(qQ hl hks hms)(by kernel_rfl))40 hf hnm hb hL hlen h
theorem axv {w:Nat}(hw:w<18446744073709551616):rE w=((w / 2 ^ 52 % 2048:Nat):Int):=by
 unfold rE ac0
 have e:(w:Int).fdiv(2 ^ 52)=((w / 2 ^ 52:Nat):Int):=by
  rw[Int.fdiv_eq_ediv_of_nonneg _(by decide)]
  rfl
 rw[e,ahH]
 exact al4(by omega)
theorem CJ {w:Nat}(hw:w<18446744073709551616)(hn:aL w=false)(hE:w / 2 ^ 52 % 2048<1055):aj Tryz.prog 171 [.f w](.f(cn(kY w))):=by
 have hnn:nnF w=true:=by unfold nnF;rw[hn,decide_eq_true hw];rfl
 have hr:=axv hw
 by_cases h1:w / 2 ^ 52 % 2048<1023
 ·refine qm(gK(ahE 4((0:Nat):Int)))aB(ak ahI(ak ahJ av))bO Tryz.al7(by kernel_rfl)(by kernel_rfl)aA rfl((ahF w(fun n=>cn n.toNat)nnF 0(by omega)).trans ?_)
  unfold rG kY
  have ht:ac0(w:Int)9223372036854775808=((w / 9223372036854775808*9223372036854775808:Nat):Int):=by unfold ac0;rw[ahH];exact al5(by omega)
  rw[hnn,hr,decide_eq_true(by omega),if_pos h1,ht]
  by_cases h2:w / 2 ^ 52 % 2048=1022
  ·rw[h2,if_pos rfl]
   have ho:uOr((w / 9223372036854775808*9223372036854775808:Nat):Int)4607182418800017408=((w / 9223372036854775808*9223372036854775808+4607182418800017408:Nat):Int):=by
    have:w / 9223372036854775808=0∨w / 9223372036854775808=1:=by omega
    rcases this with h |h<;>rw[h]<;>rfl
   rw[ho]
   rfl
  ·rw[if_neg h2,beq_false_of_ne(by omega)]
   rfl
 ·obtain⟨k,hk⟩:∃k,w / 2 ^ 52 % 2048=1023+k:=⟨w / 2 ^ 52 % 2048 - 1023,by omega⟩
  refine qm(gK(ahE 4((k:Nat):Int)))aB(ak ahI(ak ahJ av))bO Tryz.al7(by kernel_rfl)(by kernel_rfl)aA rfl((ahF w(fun n=>cn n.toNat)nnF k(by omega)).trans ?_)
  unfold rG kY
  have h0:0<2 ^ (51 - k):=Nat.two_pow_pos _
  have hp:2 ^ (51 - k)≤2 ^ 51:=Nat.pow_le_pow_right(by decide)(by omega)
  have hw2:w<2 ^ 63+2047*2 ^ 52:=by
   have h3:w / 2 ^ 52 % 2048≤1054:=by omega
   omega
  have hs:IntKind.u64.wrap((w:Int)+((2 ^ (51 - k):Nat):Int))=((w+2 ^ (51 - k):Nat):Int):=by
   generalize 2 ^ (51 - k)=d at h0 hp ⊢
   rw[ahG(by omega)(by omega)];omega
  have ha:uAn((w+2 ^ (51 - k):Nat):Int)((2 ^ (52 - k) - 1:Nat):Int)=(((w+2 ^ (51 - k)) / 2 ^ (52 - k)*2 ^ (52 - k):Nat):Int):=by unfold uAn;rw[ahH];exact ase(by omega)(by omega)
  rw[hnn,hr,hk,decide_eq_false(by omega),decide_eq_true(by omega),if_neg(by omega),ah(by rw[ahG(by omega)(by omega)];omega),hs,ha,show 1074 - (1023+k)=51 - k by omega,show 1075 - (1023+k)=52 - k by omega]
  rfl
end Go.Proofs.YtefphimaggjihaaGreatDoor.Pi
namespace Go.Proofs.YtefphimaggjihaaGreatDoor.Hs
open Go.Gv
open Go.Ev (cn bq dI bT fdiv d9 fI dK jO kL gN lK fabs)
def ai9(c:Int):Int:=cond(decide(c<0))(aI(0 - aI(c+1)))c
def dO(c n:Int):Int:=(ai9 c).tmod n
theorem adL(c n:Int):ev Tryz.prog [] []aM Tryz.f21 [iA c,iA n]ret=cond(decide(c<0))(cond((!(n==0))&&true)(some(Out.of(iA((aI(0 - aI(c+1))).tmod n))))none)(cond((!(n==0))&&true)(some(Out.of(iA(c.tmod n))))none):=by kernel_rfl
theorem adM {c n:Int}(hn:(!(n==0))=true):aj Tryz.prog 21 [iA c,iA n](iA(dO c n)):=by
 refine sp aB Tryz.func21(by kernel_rfl)(by kernel_rfl)rfl((adL c n).trans ?_)
 rw[hn]
 unfold dO ai9
 cases decide(c<0)<;>rfl
def ePk(pf:Int→Int→Int):List AV→Option AV
 | [.x(.int .i64 c),.x(.int .i64 n)]=>cond(!(n==0))(some(iA(pf c n)))none
 |_=>none
theorem VP:lg Tryz.prog⟨21,ePk dO⟩:=fun args r hr=>by
 simp only[ePk]at hr
 split at hr
 ·rename_i c n
  cases hn:!(n==0)
  ·rw[hn]at hr;cases hr
  ·rw[hn]at hr;cases hr;exact Or.inl(adM hn)
 ·cases hr
def yU:Nat:=4652007308841189376
def gJ(n:Int):Nat:=fdiv(cn(FloatKind.f64.nearest n))yU
theorem adN(n:Int):aj Tryz.prog 37 [iA n](.f(gJ n)):=sp aB Tryz.func37(by kernel_rfl)(by kernel_rfl)rfl(by kernel_rfl)
def eI(g:Int→AV):List AV→Option AV
 | [.x(.int .i64 n)]=>some(g n)
 |_=>none
theorem adO {f:Nat}{g:Int→AV}(h:∀n,aj Tryz.prog f [iA n](g n)):lg Tryz.prog⟨f,eI g⟩:=fun args r hr=>by
 simp only[eI]at hr
 split at hr
 ·cases hr;exact Or.inl(h _)
 ·cases hr
def M0(pf:Int→Int→Int)(tf:Int→Nat):List Entry:=⟨21,ePk pf⟩::⟨37,eI fun n=>.f(tf n)⟩::R4
theorem tY:∀e,e∈M0 dO gJ→lg Tryz.prog e:=bn VP <|bn(adO adN)Dq
section
variable(n:Nat)(hs:Nat→Int)(pf:Int→Int→Int)(tf:Int→Nat)(rf:Int→Int)(k fr mo c:Int)
def dU:Int:=cond((n:Int)==0)0(hs(k.tmod(n:Int)).toNat)
theorem aja:ev Tryz.prog [] []aM Tryz.f22 [sI n hs,iA k]ret=cond((n:Int)==0)(some(Out.of(iA 0)))(cond((!((n:Int)==0))&&true)(cond(mJ(k.tmod(n:Int))n||false)(some(Out.of(iA(hs(k.tmod(n:Int)).toNat))))none)none):=by kernel_rfl
theorem auw {n:Nat}{hs:Nat→Int}{k:Int}(hk:0≤k):aj Tryz.prog 22 [sI n hs,iA k](iA(dU n hs k)):=by
 refine sp aB Tryz.func22(by kernel_rfl)(by kernel_rfl)rfl((aja n hs k).trans ?_)
 unfold dU
 cases hn:((n:Int)==0)
 ·have h0:(n:Int)≠0:=fun e=>by rw[e]at hn;cases hn
  have e:k.tmod(n:Int)=k % (n:Int):=Int.tmod_eq_emod_of_nonneg hk
  have a:=Int.emod_nonneg k h0
  have b:=Int.emod_lt_of_pos k(show(0:Int)<n by omega)
  have hi:mJ(k.tmod(n:Int))n=true:=by
   unfold mJ
   rw[e,decide_eq_true a,decide_eq_true b]
   rfl
  rw[hi];rfl
 ·rfl
def RP(pf:Int→Int→Int)(tf:Int→Nat)(c mo:Int):Nat:=tf(aI(pf c(aI(aI(2*mo)+1)) - mo))
theorem ajb:ev Tryz.prog(M0 pf tf) []aM Tryz.f63 [iA c,iA 4000]ret=some(Out.of(.f(RP pf tf c 4000))):=by kernel_rfl
theorem ajc:ev Tryz.prog(M0 pf tf) []aM Tryz.f63 [iA c,iA 3000]ret=some(Out.of(.f(RP pf tf c 3000))):=by kernel_rfl
theorem ajd:ev Tryz.prog(M0 pf tf) []aM Tryz.f63 [iA c,iA 6000]ret=some(Out.of(.f(RP pf tf c 6000))):=by kernel_rfl
theorem aje:ev Tryz.prog(M0 pf tf) []aM Tryz.f63 [iA c,iA 1500]ret=some(Out.of(.f(RP pf tf c 1500))):=by kernel_rfl
theorem ajf:ev Tryz.prog(M0 pf tf) []aM Tryz.f63 [iA c,iA 5000]ret=some(Out.of(.f(RP pf tf c 5000))):=by kernel_rfl
end
def ajg(mo:Int):Prop:=mo=4000∨mo=3000∨mo=6000∨mo=1500∨mo=5000
theorem aoj {mo:Int}(h:ajg mo)(c:Int):aj Tryz.prog 63 [iA c,iA mo](.f(RP dO gJ c mo)):=by
 rcases h with rfl |rfl |rfl |rfl |rfl
 ·exact sp tY Tryz.Jo(by kernel_rfl)(by kernel_rfl)rfl(ajb dO gJ c)
 ·exact sp tY Tryz.Jo(by kernel_rfl)(by kernel_rfl)rfl(ajc dO gJ c)
 ·exact sp tY Tryz.Jo(by kernel_rfl)(by kernel_rfl)rfl(ajd dO gJ c)
 ·exact sp tY Tryz.Jo(by kernel_rfl)(by kernel_rfl)rfl(aje dO gJ c)
 ·exact sp tY Tryz.Jo(by kernel_rfl)(by kernel_rfl)rfl(ajf dO gJ c)
section
variable(n:Nat)(hs:Nat→Int)(rf:Int→Int)(mf:Int→Int→Nat)(fr mo:Int)
def rwG(rf:Int→Int):List AV→AV
 | [_,.x(.int .i64 k)]=>iA(rf k)
 |_=>.any
def auy(mf:Int→Int→Nat):List AV→AV
 | [.x(.int .i64 c),.x(.int .i64 mo)]=>.f(mf c mo)
 |_=>.any
def gR(k:Int)(o:Option Out):Option Out:=gate(aj Tryz.prog 22 [sI n hs,iA k](iA(rf k)))o
def gMi(c mo:Int)(o:Option Out):Option Out:=gate(aj Tryz.prog 63 [iA c,iA mo](.f(mf c mo)))o
def GI:aV:=kS Tryz.prog 22(rwG rf)
def veX:Option Out:=gR n hs rf fr(gMi mf(rf fr)mo(gR n hs rf(aI(fr+1))(gMi mf(rf(aI(fr+1)))mo(gR n hs rf(aI(fr+2))(gMi mf(rf(aI(fr+2)))mo(some(Out.of(V(mf(rf fr)mo)(mf(rf(aI(fr+1)))mo)(mf(rf(aI(fr+2)))mo)))))))))
theorem adP:ev Tryz.prog R4 [GI rf,kS Tryz.prog 63(auy mf)]aM Tryz.f64 [sI n hs,iA fr,iA mo]ret=veX n hs rf mf fr mo:=by kernel_rfl
end
def pI(n:Nat)(hs:Nat→Int)(fr mo:Int)(i:Nat):Nat:=RP dO gJ(dU n hs(aI(fr+(i:Nat))))mo
theorem cO {n:Nat}{hs:Nat→Int}{k:Int}{o:Option Out}(h:0≤k):gR n hs(dU n hs)k o=o:=ah(auw h)
theorem O3 {c mo:Int}{o:Option Out}(h:ajg mo):gMi(RP dO gJ)c mo o=o:=ah(aoj h c)
theorem aAF {n:Nat}{hs:Nat→Int}{fr mo:Int}(h0:0≤fr)(h1:fr≤1000)(hm:ajg mo):aj Tryz.prog 64 [sI n hs,iA fr,iA mo](V(pI n hs fr mo 0)(pI n hs fr mo 1)(pI n hs fr mo 2)):=by
 refine aP Dq(ak aD(ak aD av))Tryz.aAG(by kernel_rfl)(by kernel_rfl)aA rfl((adP n hs(dU n hs)(RP dO gJ)fr mo).trans ?_)
 have e0:aI(fr+((0:Nat):Int))=fr:=by rw[aO(by omega)(by omega)];omega
 have a1:0≤aI(fr+1):=by rw[aO(by omega)(by omega)];omega
 have a2:0≤aI(fr+2):=by rw[aO(by omega)(by omega)];omega
 unfold veX pI
 rw[cO h0,O3 hm,cO a1,O3 hm,cO a2,O3 hm,e0]
 rfl
section
variable(n:Nat)(hs:Nat→Int)(pf:Int→Int→Int)(tf:Int→Nat)(rf:Int→Int)(vf:Int→Int→Nat→Nat)
def vcG(vf:Int→Int→Nat→Nat):List AV→AV
 | [_,.x(.int .i64 fr),.x(.int .i64 mo)]=>V(vf fr mo 0)(vf fr mo 1)(vf fr mo 2)
 |_=>.any
def vcK:aV:=kS Tryz.prog 64(vcG vf)
def gV(fr mo:Int)(o:Option Out):Option Out:=gate(aj Tryz.prog 64 [sI n hs,iA fr,iA mo](V(vf fr mo 0)(vf fr mo 1)(vf fr mo 2)))o
end
theorem yY {n:Nat}{hs:Nat→Int}{fr mo:Int}{o:Option Out}(h0:0≤fr)(h1:fr≤1000)(hm:ajg mo):gV n hs(pI n hs)fr mo o=o:=ah(aAF h0 h1 hm)
section
variable(n:Nat)(hs:Nat→Int)(pf:Int→Int→Int)(tf:Int→Nat)(rf:Int→Int)(vf:Int→Int→Nat→Nat)(x y w:Nat)
def z3:Nat→Nat:=fun _=>0
def M1(pf:Int→Int→Int)(tf:Int→Nat):List Entry:=⟨21,ePk pf⟩::⟨37,eI fun n=>.f(tf n)⟩::⟨96,eV fun a b c=>bA(jv a b c)⟩::R3
theorem amT:∀e,e∈M1 dO gJ→lg Tryz.prog e:=bn VP <|bn(adO adN) <|bn(tZ O4)pJ
end
theorem kH {c m:Int}(hc:-9223372036854775808≤c)(hc':c≤9223372036854775807)(hm:0<m):0≤dO c m∧dO c m<m:=by
 have h0:0≤ai9 c:=by
  unfold ai9
  by_cases h:c<0
  ·rw[decide_eq_true h,cond_true,aO(n:=c+1)(by omega)(by omega),aO(by omega)(by omega)]
   omega
  ·rw[decide_eq_false h];show 0≤c;omega
 unfold dO
 rw[Int.tmod_eq_emod_of_nonneg h0]
 exact⟨Int.emod_nonneg _(by omega),Int.emod_lt_of_pos _ hm⟩
theorem gH {n:Nat}{hs:Nat→Int}(h:∀i,i<n→-9223372036854775808≤hs i∧hs i≤9223372036854775807) {k:Int}(hk:0≤k):-9223372036854775808≤dU n hs k∧dU n hs k≤9223372036854775807:=by
 unfold dU
 cases hn:((n:Int)==0)
 ·have h0:(n:Int)≠0:=fun e=>by rw[e]at hn;cases hn
  rw[cond_false,Int.tmod_eq_emod_of_nonneg hk]
  have a:=Int.emod_nonneg k h0
  have b:=Int.emod_lt_of_pos k(show(0:Int)<n by omega)
  exact h _(by omega)
 ·show -9223372036854775808≤(0:Int)∧(0:Int)≤9223372036854775807;omega
end Go.Proofs.YtefphimaggjihaaGreatDoor.Hs
namespace Go.Proofs.YtefphimaggjihaaGreatDoor.Hs.So
open Go.Gv
open Go.Ev (cn bq dI bT fdiv d9 fI dK jO kL gN lK fabs aL)
def bl'(i:Int)(n:Nat):Bool:=Nat.blt(0+i.toNat)n||false
def ow'(i:Int)(n:Nat)(o:Option Out):Option Out:=cond(mJ i n||false)(cond(bl' i n)o none)none
theorem avL {i n:Nat}(h:i<n)(o:Option Out):ow'(i:Nat)n o=o:=by
 unfold ow' bl'
 rw[gy h,Int.toNat_natCast,Nat.zero_add,Je h]
 rfl
def xE(p:Option Addr)(c:Nat):AV:=.x(.slice p 0 c)
theorem aj.apI {f:Nat}{args args':List AV}{r:AV}(h:∀E:Env,∀us:List Value,dB E args us→∃Ym,dB E Ym us∧aj Tryz.prog f Ym r)(hE:qJ Tryz.prog f)(_:args'=args):aj Tryz.prog f args r :=
 ⟨hE,fun A w aZ hA hr hg=>by
  obtain⟨Ym,h1,h2⟩:=h _ _ hr
  exact h2.2 A w aZ hA h1 hg⟩
theorem ab8 {E:Env}{sz:Nat}{el:Nat→List AV}{u:Value}(h:rel E(.sl sz 0 el)u):∃p c,rel E(xE p c)u:=by
 obtain⟨a,c,e,_⟩:=iM.1 h
 exact⟨a,c,bI.2 e⟩
end Go.Proofs.YtefphimaggjihaaGreatDoor.Hs.So
namespace Go.Proofs.YtefphimaggjihaaGreatDoor.Hs.So
open Go.Gv
open Go.Ev (cn bq dI bT fdiv d9 fI dK jO kL gN lK fabs)
section
variable(n:Nat)(hs:Nat→Int)(pf:Int→Int→Int)(tf:Int→Nat)(rf:Int→Int)(vf:Int→Int→Nat→Nat)(x y w:Nat)(fr:Int)
def xK:Int:=aI(1+pf(rf fr)6)
def xR:Nat:=tf(aI(1+pf(rf(aI(fr+8)))2500))
def xA(B C:Nat→Nat)(R Q:Nat):List AV:=[iA(xK pf rf fr),.f(vf(aI(fr+1))4000 0),.f(vf(aI(fr+1))4000 1),.f(vf(aI(fr+1))4000 2),.f(B 0),.f(B 1),.f(B 2),.f(C 0),.f(C 1),.f(C 2),.f R,.f Q,iA(pf(rf(aI(fr+7)))1)]
def xO(B C:Nat→Nat)(R Q:Nat):Option Out:=some(Out.of(.agg(xA pf rf vf fr B C R Q)))
def xB2:Nat→Nat:=ls [bq(vf(aI(fr+1))4000 0)(xR pf tf rf fr),bq(vf(aI(fr+1))4000 1)(tf(pf(rf(aI(fr+5)))2000)),bq(vf(aI(fr+1))4000 2)(tf(pf(rf(aI(fr+6)))2000))]
def xB3:Nat→Nat:=ls [bq(vf(aI(fr+1))4000 0)(vf(aI(fr+4))3000 0),bq(vf(aI(fr+1))4000 1)(vf(aI(fr+4))3000 1),bq(vf(aI(fr+1))4000 2)(vf(aI(fr+4))3000 2)]
def xD:Int:=aI(1+pf(rf(aI(fr+4)))3)
def xQ:Nat:=tf(aI(1+aI((pf(rf(aI(fr+8)))2500).tdiv(xD pf rf fr))))
def xPu(o:Option Out):Option Out:=gate(aj Tryz.prog 141 [V 0 0 0,iA(pf(rf(aI(fr+6)))3),.f(tf(aI(1+pf(rf(aI(fr+5)))3000)))](V x y w))o
def x56:Option Out:=gR n hs rf(aI(fr+6))(gR n hs rf(aI(fr+5))(xPu pf tf rf x y w fr(cond(xK pf rf fr==6)(gR n hs rf(aI(fr+8))(gR n hs rf(aI(fr+4))(cond((!(xD pf rf fr==0))&&true)(xO pf rf vf fr(ls [x,y,w])z3(xR pf tf rf fr)(xQ pf tf rf fr))none)))(xO pf rf vf fr(ls [x,y,w])z3(xR pf tf rf fr)0))))
def x4:Option Out:=cond(jv(vf(aI(fr+4))3000 0)(vf(aI(fr+4))3000 1)(vf(aI(fr+4))3000 2))(xO pf rf vf fr(ls [0,one,0])z3(xR pf tf rf fr)0)(xO pf rf vf fr(vf(aI(fr+4))3000)z3(xR pf tf rf fr)0)
def xX:Option Out:=gR n hs rf fr(gV n hs vf(aI(fr+1))4000(gR n hs rf(aI(fr+7))(gV n hs vf(aI(fr+4))3000(gR n hs rf(aI(fr+8))
 (cond(xK pf rf fr==1)(xO pf rf vf fr z3 z3(xR pf tf rf fr)0)(cond(xK pf rf fr==2)(gR n hs rf(aI(fr+5))(gR n hs rf(aI(fr+6))(xO pf rf vf fr(xB2 pf tf rf vf fr)z3 0 0)))(cond(xK pf rf fr==3)(gV n hs vf(aI(fr+9))4000(xO pf rf vf fr(xB3 vf fr)(ls [vf(aI(fr+9))4000 0,vf(aI(fr+9))4000 1,vf(aI(fr+9))4000 2])0 0))
  (cond(xK pf rf fr==5)(cond(xK pf rf fr==5)(x56 n hs pf tf rf vf x y w fr)(x4 pf tf rf vf fr))(cond(xK pf rf fr==6)(x56 n hs pf tf rf vf x y w fr)(x4 pf tf rf vf fr))))))))))
theorem aee:ev Tryz.prog(M1 pf tf) [GI rf,vcK vf,kS Tryz.prog 141 fun _=>V x y w]aM Tryz.f111 [sI n hs,iA fr,iA 1]ret=xX n hs pf tf rf vf x y w fr:=by kernel_rfl
end
def Aq(x:Nat):Nat:=bq(bT x yU)4602678819172646912
def rdB(x:Nat):Bool:=Cr .i64(Aq(cond(jO x 0)(fI x)x))
def rdI(x:Nat):Int:=cond(jO x 0)(aI(0 - Mf .i64(Aq(fI x))))(Mf .i64(Aq x))
theorem aef(tf:Int→Nat)(x:Nat):ev Tryz.prog [⟨37,eI fun n=>.f(tf n)⟩] []aM Tryz.f147 [.f x]ret=cond(jO x 0)(cond(Cr .i64(Aq(fI x))||false)(some(Out.of(.f(tf(aI(0 - Mf .i64(Aq(fI x))))))))none)(cond(Cr .i64(Aq x)||false)(some(Out.of(.f(tf(Mf .i64(Aq x))))))none):=by kernel_rfl
theorem ajw {x:Nat}(h:rdB x=true):aj Tryz.prog 147 [.f x](.f(gJ(rdI x))):=by
 refine sp(bn(adO adN)aB)Tryz.ayx(by kernel_rfl)(by kernel_rfl)rfl((aef gJ x).trans ?_)
 unfold rdB at h
 unfold rdI
 cases hf:jO x 0<;>rw[hf]at h
 ·rw[show Cr .i64(Aq x)=true from h];rfl
 ·rw[show Cr .i64(Aq(fI x))=true from h];rfl
end Go.Proofs.YtefphimaggjihaaGreatDoor.Hs.So
namespace Go.Ev
open Ieee
theorem Tq(d e:Datum):d.sum e=e.sum d:=by
 cases d<;>cases e<;>simp only[Datum.sum]
 ·rename_i s m i t n j
  rw[Int.min_comm i j,Int.add_comm,Bool.and_comm]
 ·rename_i s t
  by_cases h:s=t
  ·subst h;rfl
  ·rw[if_neg h,if_neg(Ne.symm h)]
theorem Ei(d e:Datum):d.product e=e.product d:=by
 cases d<;>cases e<;>simp only[Datum.product]
 ·rename_i s m i t n j
  rw[Nat.mul_comm,Int.add_comm,Bool.xor_comm]
 ·rename_i s t;rw[Bool.xor_comm]
theorem uS:double.leastPlace=-1074:=by decide +kernel
theorem Ns:(double.fractionBits:Int)=52:=rfl
theorem Tt {m:Nat}(k:Nat)(hm:m≠0):(m <<< k).log2=m.log2+k:=by
 have hp:0<2 ^ k:=Nat.two_pow_pos k
 have hne:m <<< k≠0:=by rw[Nat.shiftLeft_eq];exact Nat.mul_ne_zero hm(Nat.pos_iff_ne_zero.1 hp)
 rw[Nat.log2_eq_iff hne,Nat.shiftLeft_eq]
 refine⟨by rw[Nat.pow_add];exact Nat.mul_le_mul_right _(Nat.log2_self_le hm),?_⟩
 rw[show m.log2+k+1=m.log2+1+k by omega,Nat.pow_add]
 exact Nat.mul_lt_mul_of_pos_right Nat.lt_log2_self hp
theorem abZ {m:Nat}(h:m<9007199254740992):m.log2≤52:=by
 by_cases h0:m=0
 ·subst h0;decide
 ·have:=(Nat.log2_lt h0).2(show m<2 ^ 53 by omega)
  omega
theorem xP(s:Bool)(p:Int):double.nearest s 0 p=double.word s 0:=by simp[Format.nearest]
theorem ae5(s:Bool) {r:Nat}(h:r≤9218868437227405312):double.word s r ^^^ 9223372036854775808=double.word(!s)r:=by
 have h63:r<2 ^ 63:=by omega
 unfold Format.word
 rw[Ej]
 have e:(9223372036854775808:Nat)=2 ^ 63:=by decide
 rw[e]
 cases s
 ·simp only[Bool.false_eq_true,if_false,Bool.not_false,if_true]
  have hor:=Nat.two_pow_add_eq_or_of_lt h63 1
  rw[Nat.mul_one]at hor
  rw[hor]
  apply Nat.eq_of_testBit_eq
  intro n
  simp only[Nat.testBit_xor,Nat.testBit_or,Nat.testBit_two_pow]
  by_cases hn:63=n
  ·subst hn;simp[Nat.testBit_lt_two_pow h63]
  ·simp[hn]
 ·simp only[if_true,Bool.not_true,Bool.false_eq_true,if_false]
  have hor:=Nat.two_pow_add_eq_or_of_lt h63 1
  rw[Nat.mul_one]at hor
  rw[hor]
  apply Nat.eq_of_testBit_eq
  intro n
  simp only[Nat.testBit_xor,Nat.testBit_or,Nat.testBit_two_pow]
  by_cases hn:63=n
  ·subst hn;simp[Nat.testBit_lt_two_pow h63]
  ·simp[hn]
theorem abI(s:Bool) {r:Nat}(h:r≤9218868437227405312):fI(double.word s r)=double.word(!s)r:=by
 unfold fI
 rw[rz s h,cond_false,ae5 s h]
def xV(a g:Nat):Nat:=a / g+(decide(g<2*(a % g))||(g==2*(a % g)&&a / g % 2==1)).toNat
theorem Gi {a g:Nat}(h:2*a<g):xV a g=0:=by
 have h1:a / g=0:=Nat.div_eq_of_lt(by omega)
 have h2:a % g=a:=Nat.mod_eq_of_lt(by omega)
 have h3:decide(g<2*a)=false:=decide_eq_false(by omega)
 have h4:(g==2*a)=false:=by simp;omega
 unfold xV
 rw[h1,h2,h3,h4];rfl
theorem yh(b:Bool):b.toNat≤1:=by cases b<;>decide
theorem QI(a g:Nat):xV a g≤a / g+1:=Nat.add_le_add_left(yh _)_
theorem QJ(a g:Nat):a / g≤xV a g:=Nat.le_add_right _ _
theorem ag7 {a b g:Nat}(h:a≤b):xV a g≤xV b g:=by
 have hd:a / g≤b / g:=Nat.div_le_div_right h
 rcases Nat.eq_or_lt_of_le hd with e |e
 ·have h1:=Nat.div_add_mod a g
  have h2:=Nat.div_add_mod b g
  have hm:a % g≤b % g:=by rw[e]at h1;omega
  unfold xV
  rw[e]
  refine Nat.add_le_add_left ?_ _
  cases hx:(decide(g<2*(a % g))||(g==2*(a % g)&&b / g % 2==1))
  ·exact Nat.zero_le _
  ·have:(decide(g<2*(b % g))||(g==2*(b % g)&&b / g % 2==1))=true:=by
    simp only[Bool.or_eq_true,Bool.and_eq_true,decide_eq_true_eq,beq_iff_eq]at hx ⊢
    omega
   rw[this];exact Nat.le_refl _
 ·exact Nat.le_trans(QI a g)(Nat.le_trans e(QJ b g))
theorem AQ(a g:Nat) {c:Nat}(hc:0<c):xV(a*c)(g*c)=xV a g:=by
 unfold xV
 rw[Nat.mul_div_mul_right _ _ hc,Nat.mul_mod_mul_right]
 have h1:decide(g*c<2*(a % g*c))=decide(g<2*(a % g)):=by
  rw[←Nat.mul_assoc]
  exact decide_eq_decide.2(Nat.mul_lt_mul_right hc)
 have h2:(g*c==2*(a % g*c))=(g==2*(a % g)):=by
  rw[←Nat.mul_assoc,Bool.eq_iff_iff,beq_iff_eq,beq_iff_eq]
  exact Nat.mul_left_inj(by omega)
 rw[h1,h2]
theorem aa0(s:Bool)(n d:Nat):Toward.even.cut s n d=xV n(2 ^ d):=by
 have hn:n<2 ^ (n.log2+1):=Nat.lt_log2_self
 by_cases h:d≤n.log2+2
 ·unfold Toward.cut xV
  rw[Nat.min_eq_left h,Nat.one_shiftLeft]
 ·have hL:2*n<2 ^ (n.log2+2):=by rw[Nat.pow_succ];omega
  have hd:2*n<2 ^ d:=Nat.lt_of_lt_of_le hL(Nat.pow_le_pow_right(by decide)(by omega))
  rw[Gi hd]
  have:=Gi hL
  unfold xV at this
  unfold Toward.cut
  rw[Nat.min_eq_right(by omega),Nat.one_shiftLeft]
  exact this
theorem Yu(d n k:Nat)(hn:0<n):xV(2*(d / n)+(d % n!=0).toNat)(2 ^ (k+2))=xV d(n*2 ^ (k+1)):=by
 have hp:0<2 ^ k:=Nat.two_pow_pos k
 have e1:2 ^ (k+1)=2*2 ^ k:=by rw[Nat.pow_succ];omega
 have e2:2 ^ (k+2)=2*(2*2 ^ k):=by rw[Nat.pow_succ,e1];omega
 rw[e1,e2]
 generalize 2 ^ k=H at hp
 have hr:d % n<n:=Nat.mod_lt _ hn
 have hd:=Nat.div_add_mod d n
 generalize hst:(d % n!=0).toNat=st
 have hs:(st=0∧d % n=0)∨(st=1∧0<d % n):=by
  cases hb:(d % n!=0)
  ·rw[hb]at hst;left;exact⟨hst.symm,by simpa using hb⟩
  ·rw[hb]at hst;right;refine⟨hst.symm,?_⟩
   have:d % n≠0:=by simpa using hb
   omega
 generalize d % n=r at hr hd hs
 have hQ:=Nat.div_add_mod(d / n)(2*H)
 have hB:d / n % (2*H)<2*H:=Nat.mod_lt _(by omega)
 have w1:(2*(d / n)+st) / (2*(2*H))=d / n / (2*H):=by
  rw[←Nat.div_div_eq_div_mul]
  congr 1
  omega
 have w2:d / (n*(2*H))=d / n / (2*H):=(Nat.div_div_eq_div_mul d n(2*H)).symm
 generalize hA:d / n / (2*H)=A at *
 generalize hBe:d / n % (2*H)=Bq at *
 generalize hq:d / n=Q at *
 have m1:(2*Q+st) % (2*(2*H))=2*Bq+st:=by
  have:=Nat.div_add_mod(2*Q+st)(2*(2*H))
  rw[w1]at this
  have e:2*(2*H)*A=2*(2*H*A):=by rw[Nat.mul_assoc]
  omega
 have m2:d % (n*(2*H))=n*Bq+r:=by
  have:=Nat.div_add_mod d(n*(2*H))
  rw[w2]at this
  have e:n*Q=n*(2*H)*A+n*Bq:=by rw[←hQ,Nat.mul_add,Nat.mul_assoc n]
  omega
 unfold xV
 rw[w1,w2,m1,m2]
 congr 2
 have c1:(2*(2*H)<2*(2*Bq+st))↔(n*(2*H)<2*(n*Bq+r)):=by
  have q1:n*(2*H)=2*(n*H):=by rw[Nat.mul_left_comm]
  rw[q1]
  constructor
  ·intro h
   have:H≤Bq:=by omega
   rcases Nat.eq_or_lt_of_le this with e |e
   ·subst e;omega
   ·have:=Nat.mul_le_mul_left n(show H+1≤Bq from e)
    rw[Nat.mul_add]at this;omega
  ·intro h
   by_cases hl:Bq<H
   ·have:=Nat.mul_le_mul_left n(show Bq+1≤H from hl)
    rw[Nat.mul_add]at this;omega
   ·rcases Nat.eq_or_lt_of_le(Nat.le_of_not_lt hl)with e |e
    ·subst e;omega
    ·omega
 have c2:(2*(2*H)=2*(2*Bq+st))↔(n*(2*H)=2*(n*Bq+r)):=by
  have q1:n*(2*H)=2*(n*H):=by rw[Nat.mul_left_comm]
  rw[q1]
  constructor
  ·intro h
   have:H=Bq:=by omega
   subst this;omega
  ·intro h
   rcases Nat.lt_trichotomy Bq H with hl |e |hl
   ·have:=Nat.mul_le_mul_left n(show Bq+1≤H from hl)
    rw[Nat.mul_add]at this;omega
   ·subst e;omega
   ·have:=Nat.mul_le_mul_left n(show H+1≤Bq from hl)
    rw[Nat.mul_add]at this;omega
 have d1:decide(2*(2*H)<2*(2*Bq+st))=decide(n*(2*H)<2*(n*Bq+r)):=decide_eq_decide.2 c1
 have d2:(2*(2*H)==2*(2*Bq+st))=(n*(2*H)==2*(n*Bq+r)):=by
  rw[Bool.eq_iff_iff,beq_iff_eq,beq_iff_eq];exact c2
 rw[d1,d2]
def rq(b a g:Nat):Nat:=((a / g).log2 - b)*2 ^ b+xV a(g*2 ^ ((a / g).log2 - b))
theorem Cn(b a g:Nat) {c:Nat}(hc:0<c):rq b(a*c)(g*c)=rq b a g:=by
 unfold rq
 rw[Nat.mul_div_mul_right _ _ hc,Nat.mul_right_comm,AQ _ _ hc]
theorem vD(b:Nat) {a c g:Nat}(h:a≤c):rq b a g≤rq b c g:=by
 have hd:a / g≤c / g:=Nat.div_le_div_right h
 have hl:(a / g).log2≤(c / g).log2:=by
  by_cases h0:a / g=0
  ·rw[h0];simp
  ·exact(Nat.le_log2(fun hc=>h0(Nat.le_zero.1(hc▸hd)))).2(Nat.le_trans(Nat.log2_self_le h0)hd)
 unfold rq
 have hl2:(a / g).log2 - b≤(c / g).log2 - b:=by omega
 rcases Nat.eq_or_lt_of_le hl2 with e |e
 ·rw[e]
  exact Nat.add_le_add_left(ag7 h)_
 ·
  have h1:xV a(g*2 ^ ((a / g).log2 - b))≤2 ^ (b+1):=by
   refine Nat.le_trans(QI _ _) ?_
   rw[←Nat.div_div_eq_div_mul]
   have:a / g<2 ^ ((a / g).log2+1):=Nat.lt_log2_self
   have h2:a / g / 2 ^ ((a / g).log2 - b)<2 ^ (b+1):=by
    rw[Nat.div_lt_iff_lt_mul(Nat.two_pow_pos _),←Nat.pow_add]
    exact Nat.lt_of_lt_of_le this(Nat.pow_le_pow_right(by decide)(by omega))
   omega
  have h2:2 ^ b≤xV c(g*2 ^ ((c / g).log2 - b)):=by
   refine Nat.le_trans ?_(QJ _ _)
   rw[←Nat.div_div_eq_div_mul,Nat.le_div_iff_mul_le(Nat.two_pow_pos _),←Nat.pow_add]
   have h0:c / g≠0:=by
    intro h0;rw[h0]at e;simp at e
   refine Nat.le_trans(Nat.pow_le_pow_right(by decide)(by omega))(Nat.log2_self_le h0)
  have h3:=Nat.mul_le_mul_right(2 ^ b)e
  rw[Nat.succ_mul]at h3
  rw[Nat.pow_succ]at h1
  omega
theorem alx(b:Nat) {a c g h:Nat}(hg:0<g)(hh:0<h)(hle:a*h≤c*g):rq b a g≤rq b c h:=by
 rw[←Cn b a g hh,←Cn b c h hg,Nat.mul_comm h g]
 exact vD b hle
theorem uF(b:Nat) {g:Nat}(hg:0<g):rq b 0 g=0:=by
 unfold rq
 rw[Nat.zero_div,Nat.log2_zero,Nat.zero_sub,Nat.zero_mul,Nat.zero_add]
 exact Gi(by rw[Nat.mul_zero];exact Nat.mul_pos hg(Nat.two_pow_pos _))
theorem adn(n:Nat):(n / 2).log2=n.log2 - 1:=by
 rw[Nat.log2_def n]
 by_cases h:n≥2
 ·rw[if_pos h];simp
 ·rw[if_neg h]
  have:n / 2=0:=by omega
  rw[this];simp
theorem Vs(n:Nat):∀v,(n / 2 ^ v).log2=n.log2 - v
 | 0=>by simp
 |v+1=>by rw[Nat.pow_succ,←Nat.div_div_eq_div_mul,adn,Vs n v];omega
theorem Vt(s:Bool)(m u:Nat)(p:Int)(hp:p=u - 1074):double.nearest s m p=double.word s(min(rq 52(m*2 ^ u)1)double.infRung):=by
 by_cases hm:m=0
 ·subst hm;rw[xP,Nat.zero_mul,uF 52(by decide),Nat.zero_min]
 ·have hl:(m*2 ^ u / 1).log2=m.log2+u:=by rw[Nat.div_one,←Nat.shiftLeft_eq,Tt u hm]
  have e1:(max(p+m.log2 - (double.fractionBits:Int))double.leastPlace - double.leastPlace).toNat=m.log2+u - 52:=by rw[uS,Ns];omega
  have e2:(p - max(p+m.log2 - (double.fractionBits:Int))double.leastPlace).toNat=u - (m.log2+u - 52):=by rw[uS,Ns];omega
  have e3:(max(p+m.log2 - (double.fractionBits:Int))double.leastPlace - p).toNat=(m.log2+u - 52) - u:=by rw[uS,Ns];omega
  unfold Format.nearest rq
  rw[if_neg hm,hl]
  simp only[e1,e2,e3]
  generalize m.log2+u - 52=l
  rw[aa0,Nat.shiftLeft_eq,Nat.one_mul]
  have:xV(m*2 ^ (u - l))(2 ^ (l - u))=xV(m*2 ^ u)(2 ^ l):=by
   rw[←AQ _ _(Nat.two_pow_pos(min u l)),Nat.mul_assoc,←Nat.pow_add,←Nat.pow_add]
   congr 3<;>omega
  rw[this]
  rfl
theorem Vu(s:Bool)(m v:Nat)(p:Int)(hp:p=-1074 - v):double.nearest s m p=double.word s(min(rq 52 m(2 ^ v))double.infRung):=by
 by_cases hm:m=0
 ·subst hm;rw[xP,uF 52(Nat.two_pow_pos _),Nat.zero_min]
 ·have e1:(max(p+m.log2 - (double.fractionBits:Int))double.leastPlace - double.leastPlace).toNat=m.log2 - v - 52:=by rw[uS,Ns];omega
  have e2:(p - max(p+m.log2 - (double.fractionBits:Int))double.leastPlace).toNat=0:=by rw[uS,Ns];omega
  have e3:(max(p+m.log2 - (double.fractionBits:Int))double.leastPlace - p).toNat=v+(m.log2 - v - 52):=by rw[uS,Ns];omega
  unfold Format.nearest rq
  rw[if_neg hm,Vs]
  simp only[e1,e2,e3]
  rw[aa0,Nat.shiftLeft_eq,Nat.pow_zero,Nat.mul_one,Nat.pow_add]
  rfl
theorem Ka(s:Bool)(m u v:Nat)(p:Int)(hp:p+1074=u - v):double.nearest s m p=double.word s(min(rq 52(m*2 ^ u)(2 ^ v))double.infRung):=by
 by_cases h:v≤u
 ·rw[Vt s m(u - v)p(by omega)]
  have:=Cn 52(m*2 ^ (u - v))1(Nat.two_pow_pos v)
  rw[Nat.mul_assoc,←Nat.pow_add,Nat.one_mul,Nat.sub_add_cancel h]at this
  rw[this]
 ·rw[Vu s m(v - u)p(by omega)]
  have:=Cn 52 m(2 ^ (v - u))(Nat.two_pow_pos u)
  rw[←Nat.pow_add,Nat.sub_add_cancel(by omega)]at this
  rw[this]
theorem Vv {x y:Nat}(h:∀k,2 ^ k≤x↔2 ^ k≤y):x.log2=y.log2:=by
 by_cases hx:x=0
 ·have:y=0:=by
   by_cases hy:y=0
   ·exact hy
   ·have:=(h 0).2(by rw[Nat.pow_zero];omega)
    rw[Nat.pow_zero]at this;omega
  rw[hx,this]
 ·have hy:y≠0:=by
   have:=(h 0).1(by rw[Nat.pow_zero];omega)
   rw[Nat.pow_zero]at this;omega
  exact Nat.le_antisymm((Nat.le_log2 hy).2((h _).1(Nat.log2_self_le hx)))((Nat.le_log2 hx).2((h _).2(Nat.log2_self_le hy)))
theorem ab0(b d n u v:Nat)(hn:0<n)(hq:2 ^ (b+1)≤d / n):rq b((2*(d / n)+(d % n!=0).toNat)*2 ^ u)(2 ^ v)=rq b(2*d*2 ^ u)(n*2 ^ v):=by
 have hp:0<2 ^ (b+1):=Nat.two_pow_pos _
 have hst:=yh(d % n!=0)
 have aC1:((2*(d / n)+(d % n!=0).toNat)*2 ^ u / 2 ^ v).log2=(2*d*2 ^ u / (n*2 ^ v)).log2:=by
  refine Vv fun k=>?_
  rw[Nat.le_div_iff_mul_le(Nat.two_pow_pos _),Nat.le_div_iff_mul_le(Nat.mul_pos hn(Nat.two_pow_pos _)),←Nat.pow_add,Nat.mul_left_comm,←Nat.pow_add]
  have hnd:n≤d:=by
   have:=(Nat.le_div_iff_mul_le hn(x:=1)(y:=d)).1(by omega)
   omega
  by_cases hk:k+v≤u
  ·have hle:2 ^ (k+v)≤2 ^ u:=Nat.pow_le_pow_right(by decide)hk
   constructor
   ·intro _;exact Nat.le_trans(Nat.mul_le_mul hnd hle)(Nat.mul_le_mul_right _(by omega))
   ·intro _
    exact Nat.le_trans hle(Nat.le_mul_of_pos_left _(by omega))
  ·obtain⟨w,hw⟩:∃w,k+v=w+1+u:=⟨k+v - u - 1,by omega⟩
   rw[hw,Nat.pow_add,←Nat.mul_assoc,Nat.mul_le_mul_right_iff(Nat.two_pow_pos u),Nat.mul_le_mul_right_iff(Nat.two_pow_pos u),Nat.pow_succ]
   have hiff:=Nat.le_div_iff_mul_le hn(x:=2 ^ w)(y:=d)
   have e:n*(2 ^ w*2)=2*(2 ^ w*n):=by rw[Nat.mul_comm,Nat.mul_assoc,Nat.mul_left_comm]
   rw[e]
   omega
 have hl:u+2≤v+(((2*(d / n)+(d % n!=0).toNat)*2 ^ u / 2 ^ v).log2 - b):=by
  by_cases h:v≤b+2+u
  ·have h1:2 ^ (b+2+u - v)≤(2*(d / n)+(d % n!=0).toNat)*2 ^ u / 2 ^ v:=by
    rw[Nat.le_div_iff_mul_le(Nat.two_pow_pos _),←Nat.pow_add,Nat.sub_add_cancel h,Nat.pow_add]
    refine Nat.mul_le_mul_right _ ?_
    rw[Nat.pow_succ];omega
   have h0:(2*(d / n)+(d % n!=0).toNat)*2 ^ u / 2 ^ v≠0:=by
    have:=Nat.two_pow_pos(b+2+u - v)
    intro h0;rw[h0]at h1;omega
   have:=(Nat.le_log2 h0).2 h1
   omega
  ·omega
 unfold rq
 rw[aC1]at hl ⊢
 generalize(2*d*2 ^ u / (n*2 ^ v)).log2 - b=l at hl
 obtain⟨k,hk⟩:∃k,v+l=k+2+u:=⟨v+l - u - 2,by omega⟩
 congr 1
 rw[←Nat.pow_add,Nat.mul_assoc n,←Nat.pow_add,hk,Nat.pow_add,AQ _ _(Nat.two_pow_pos u),Yu d n k hn,←Nat.mul_assoc,AQ _ _(Nat.two_pow_pos u)]
 have:=AQ d(n*2 ^ (k+1))(c:=2)(by decide)
 rw[←this,Nat.mul_comm d 2,Nat.mul_assoc n,←Nat.pow_succ]
theorem Jf(s:Bool)(m k:Nat):signed s m k=signed s 1 0*((m:Int)*2 ^ k):=by
 cases s<;>simp[signed,Nat.shiftLeft_eq]
theorem wX(s:Bool)(m a b:Nat):signed s m(a+b)=signed s m a*2 ^ b:=by
 rw[Jf,Jf s m a,Int.mul_assoc,Int.mul_assoc,Int.pow_add]
def rv(b r:Nat):Nat:=if r<2 ^ b then r else(2 ^ b+r % 2 ^ b)*2 ^ (r / 2 ^ b - 1)
theorem aag(b r:Nat):rv b r<rv b(r+1):=by
 have hN:0<2 ^ b:=Nat.two_pow_pos b
 unfold rv
 generalize 2 ^ b=N at hN
 by_cases h1:r+1<N
 ·rw[if_pos(by omega),if_pos h1];omega
 ·rw[if_neg h1]
  by_cases h2:r<N
  ·rw[if_pos h2]
   have e:r+1=N:=by omega
   rw[e,Nat.mod_self,Nat.div_self hN,Nat.sub_self,Nat.pow_zero];omega
  ·rw[if_neg h2]
   have hd:=Nat.div_add_mod r N
   have hm:r % N<N:=Nat.mod_lt _ hN
   have hq:1≤r / N:=(Nat.le_div_iff_mul_le hN).2(by omega)
   by_cases h3:r % N+1<N
   ·have e1:(r+1) / N=r / N:=by
     rw[Nat.div_eq_iff hN]
     have:r / N*N=N*(r / N):=Nat.mul_comm _ _
     omega
    have e2:(r+1) % N=r % N+1:=by
     have:=Nat.div_add_mod(r+1)N
     rw[e1]at this;omega
    rw[e1,e2]
    exact Nat.mul_lt_mul_of_pos_right(by omega)(Nat.two_pow_pos _)
   ·have h4:r % N+1=N:=by omega
    have e0:r+1=N*(r / N+1):=by rw[Nat.mul_add];omega
    have e1:(r+1) / N=r / N+1:=by rw[e0,Nat.mul_div_cancel_left _ hN]
    have e2:(r+1) % N=0:=by rw[e0,Nat.mul_mod_right]
    rw[e1,e2]
    obtain⟨q,hq'⟩:∃q,r / N=q+1:=⟨r / N - 1,by omega⟩
    rw[hq',Nat.add_sub_cancel,Nat.add_sub_cancel,Nat.pow_succ,Nat.add_zero,Nat.mul_comm(2 ^ q)2,←Nat.mul_assoc]
    exact Nat.mul_lt_mul_of_pos_right(by omega)(Nat.two_pow_pos _)
theorem BL(b:Nat) {r:Nat}:∀{q:Nat},r<q→rv b r<rv b q
 | 0,h=>by omega
 |q+1,h=>by
  rcases Nat.eq_or_lt_of_le(Nat.lt_succ_iff.1 h)with e |e
  ·rw[e];exact aag b q
  ·exact Nat.lt_trans(BL b e)(aag b q)
theorem AP(b r q:Nat):rv b r<rv b q↔r<q:=by
 constructor
 ·intro h
  rcases Nat.lt_trichotomy r q with e |e |e
  ·exact e
  ·rw[e]at h;omega
  ·have:=BL b e;omega
 ·exact BL b
theorem Dt(b:Nat):rv b 0=0:=by unfold rv;rw[if_pos(Nat.two_pow_pos b)]
theorem Ep {m:Nat}(k:Nat)(hm:m≠0):(m*2 ^ k).log2=m.log2+k:=by rw[←Nat.shiftLeft_eq,Tt k hm]
theorem aah(a:Nat):xV a 1=a:=by
 unfold xV
 rw[Nat.div_one,Nat.mod_one];rfl
theorem adS(b r:Nat):rq b(rv b r)1=r:=by
 have hN:0<2 ^ b:=Nat.two_pow_pos b
 unfold rq rv
 rw[Nat.div_one]
 by_cases h:r<2 ^ b
 ·rw[if_pos h]
  have hl:r.log2 - b=0:=by
   by_cases h0:r=0
   ·rw[h0];simp
   ·have:=(Nat.log2_lt h0).2 h;omega
  rw[hl,Nat.zero_mul,Nat.zero_add,Nat.pow_zero,aah]
 ·rw[if_neg h]
  have hm:r % 2 ^ b<2 ^ b:=Nat.mod_lt _ hN
  have hd:=Nat.div_add_mod r(2 ^ b)
  have hq:1≤r / 2 ^ b:=(Nat.le_div_iff_mul_le hN).2(by omega)
  have hl:((2 ^ b+r % 2 ^ b)*2 ^ (r / 2 ^ b - 1)).log2=b+(r / 2 ^ b - 1):=by
   rw[Ep _(by omega)]
   congr 1
   rw[Nat.log2_eq_iff(by omega),Nat.pow_succ]
   omega
  rw[hl,Nat.add_sub_cancel_left,AQ _ 1(Nat.two_pow_pos _),aah]
  obtain⟨q,hq'⟩:∃q,r / 2 ^ b=q+1:=⟨r / 2 ^ b - 1,by omega⟩
  rw[hq',Nat.mul_add]at hd
  rw[hq',Nat.add_sub_cancel,Nat.mul_comm q]
  omega
def jT(x:Nat):Bool:=x / 9223372036854775808 % 2==1
def rung(x:Nat):Nat:=x % 9223372036854775808
def key(x:Nat):Int:=cond(jT x)(-(rung x:Int))(rung x)
def isFin(x:Nat):Bool:=Nat.blt(rung x)9218868437227405312
def val(x:Nat):Int:=cond(jT x)(-(rv 52(rung x):Int))(rv 52(rung x))
theorem y8 {x:Nat}(h:isFin x=true):rung x<9218868437227405312:=Nat.le_of_ble_eq_true h
theorem afg {r:Nat}(h:r<4503599627370496):rv 52 r=r:=by unfold rv;rw[if_pos(show r<2 ^ 52 from h)]
theorem Ar {r:Nat}(h:¬r<4503599627370496):rv 52 r=(4503599627370496+r % 4503599627370496)*2 ^ (r / 4503599627370496 - 1):=by
 unfold rv;rw[if_neg(show ¬r<2 ^ 52 from h)]
theorem o7(s:Bool)(m k:Nat):signed s m k=cond s(-((m*2 ^ k:Nat):Int))((m*2 ^ k:Nat):Int):=by
 unfold signed;rw[Nat.shiftLeft_eq];cases s<;>rfl
theorem iQ {x:Nat}(h:isFin x=true):∃m i,double.read x=.number(jT x)m i∧-1074≤i∧m<9007199254740992∧rv 52(rung x)=m*2 ^ (i+1074).toNat:=by
 have hl:=y8 h
 unfold rung at hl ⊢
 unfold Format.read jT
 simp only[Ej,PS,Er,uS]
 by_cases h1:x % 9223372036854775808<4503599627370496
 ·rw[if_pos h1]
  refine⟨_,_,rfl,by omega,by omega,?_⟩
  rw[afg h1,show(-1074+1074:Int).toNat=0 from rfl,Nat.pow_zero,Nat.mul_one]
 ·rw[if_neg h1,if_pos hl]
  have:=Nat.mod_lt(x % 9223372036854775808)(show 0<4503599627370496 by decide)
  refine⟨_,_,rfl,by omega,by omega,?_⟩
  rw[Ar h1]
  congr 2
  omega
theorem zM {x:Nat}(h:rung x=9218868437227405312):double.read x=.infinity(jT x):=by
 unfold rung at h
 unfold Format.read jT
 simp only[Ej,PS,Er,uS,h]
 rfl
theorem oL {x:Nat}(h:aL x=false):isFin x=true∨rung x=9218868437227405312:=by
 cases hf:isFin x
 ·right
  have h1:¬rung x<9218868437227405312:=fun hl=>by
   have:isFin x=true:=Nat.ble_eq_true_of_le hl
   rw[hf]at this;cases this
  unfold rung at h1 ⊢
  unfold aL Format.read at h
  simp only[Ej,PS,Er,uS]at h
  rw[if_neg(by omega),if_neg h1]at h
  by_cases he:x % 9223372036854775808=9218868437227405312
  ·exact he
  ·rw[if_neg he]at h;simp[Datum.isNaN]at h
 ·exact Or.inl rfl
theorem jP {x:Nat}(h:isFin x=true):aL x=false:=by
 obtain⟨m,i,hr,_⟩:=iQ h
 unfold aL;rw[hr];rfl
theorem q8 {a b c d:Int}(h1:a<b↔c<d)(h2:a=b↔c=d):compare a b=compare c d:=by
 show compareOfLessAndEq a b=compareOfLessAndEq c d
 unfold compareOfLessAndEq
 simp only[h1,h2]
theorem ab1 {x y:Nat}(hx:isFin x=true)(hy:isFin y=true):double.order x y=some(compare(val x)(val y)):=by
 obtain⟨m,i,hrx,hi,_,hvx⟩:=iQ hx
 obtain⟨n,j,hry,hj,_,hvy⟩:=iQ hy
 unfold Format.order
 rw[hrx,hry]
 simp only[Datum.order,Option.some.injEq]
 have e1:val x=signed(jT x)m(i - min i j).toNat*2 ^ (min i j+1074).toNat:=by
  rw[←wX,show(i - min i j).toNat+(min i j+1074).toNat=(i+1074).toNat by omega,o7,←hvx];rfl
 have e2:val y=signed(jT y)n(j - min i j).toNat*2 ^ (min i j+1074).toNat:=by
  rw[←wX,show(j - min i j).toNat+(min i j+1074).toNat=(j+1074).toNat by omega,o7,←hvy];rfl
 have hp:(0:Int)<2 ^ (min i j+1074).toNat:=Int.pow_pos(by decide)
 rw[e1,e2]
 generalize(2:Int) ^ (min i j+1074).toNat=c at hp
 refine q8 ?_ ?_
 ·exact(Int.mul_lt_mul_right hp).symm
 ·exact(Int.mul_eq_mul_right_iff(by omega)).symm
theorem Kh {x y:Nat}:val x<val y↔key x<key y:=by
 unfold val key
 have a1:=AP 52(rung x)(rung y)
 have a2:=AP 52(rung y)(rung x)
 have a3:=AP 52 0(rung x)
 have a4:=AP 52 0(rung y)
 rw[Dt]at a3 a4
 cases jT x<;>cases jT y<;>simp only[cond_true,cond_false]<;>omega
theorem oH {x y:Nat}:val x≤val y↔key x≤key y:=by
 have:=Kh(x:=y)(y:=x);omega
theorem AL {x y:Nat}(hx:aL x=false)(hy:aL y=false):double.order x y=some(compare(key x)(key y)):=by
 rcases oL hx with fx |ix
 ·rcases oL hy with fy |iy
  ·rw[ab1 fx fy]
   have:=Kh(x:=x)(y:=y)
   have:=Kh(x:=y)(y:=x)
   exact congrArg some(q8(by omega)(by omega))
  ·obtain⟨m,i,hr,_⟩:=iQ fx
   have hl:=y8 fx
   unfold Format.order
   rw[hr,zM iy]
   simp only[Datum.order,Option.some.injEq]
   unfold key
   rw[iy]
   cases jT y
   ·exact(show compare _ _=compare(0:Int)1 from q8(by cases jT x<;>simp only[cond_true,cond_false]<;>omega)(by cases jT x<;>simp only[cond_true,cond_false]<;>omega)).symm
   ·exact(show compare _ _=compare(1:Int)0 from q8(by cases jT x<;>simp only[cond_true,cond_false]<;>omega)(by cases jT x<;>simp only[cond_true,cond_false]<;>omega)).symm
 ·rcases oL hy with fy |iy
  ·obtain⟨m,i,hr,_⟩:=iQ fy
   have hl:=y8 fy
   unfold Format.order
   rw[hr,zM ix]
   simp only[Datum.order,Option.some.injEq]
   unfold key
   rw[ix]
   cases jT x
   ·exact(show compare _ _=compare(1:Int)0 from q8(by cases jT y<;>simp only[cond_true,cond_false]<;>omega)(by cases jT y<;>simp only[cond_true,cond_false]<;>omega)).symm
   ·exact(show compare _ _=compare(0:Int)1 from q8(by cases jT y<;>simp only[cond_true,cond_false]<;>omega)(by cases jT y<;>simp only[cond_true,cond_false]<;>omega)).symm
  ·unfold Format.order key
   rw[zM ix,zM iy,ix,iy]
   cases jT x<;>cases jT y<;>decide
theorem afa(a b:Int):(compare a b==Ordering.lt)=decide(a<b):=by
 show(compareOfLessAndEq a b==Ordering.lt)=_
 unfold compareOfLessAndEq
 by_cases h:a<b
 ·simp[h]
 ·by_cases h2:a=b
  ·simp[h2]
  ·simp[h,h2]
theorem cmp_eq(a b:Int):(compare a b==Ordering.eq)=decide(a=b):=by
 show(compareOfLessAndEq a b==Ordering.eq)=_
 unfold compareOfLessAndEq
 by_cases h:a<b
 ·have:a≠b:=by omega
  simp[h,this]
 ·by_cases h2:a=b
  ·simp[h2]
  ·simp[h,h2]
theorem ao6(a b:Int):(compare a b==Ordering.gt)=decide(b<a):=by
 show(compareOfLessAndEq a b==Ordering.gt)=_
 unfold compareOfLessAndEq
 by_cases h:a<b
 ·have:¬b<a:=by omega
  simp[h,this]
 ·by_cases h2:a=b
  ·simp[h2]
  ·have:b<a:=by omega
   simp[h,h2,this]
theorem wo(a b:Ordering):(some a==some b)=(a==b):=rfl
theorem O0 {x y:Nat}(hx:aL x=false)(hy:aL y=false):jO x y=decide(key x<key y):=by
 unfold jO;rw[AL hx hy,wo,afa]
theorem Ii {x y:Nat}(hx:aL x=false)(hy:aL y=false):dK x y=decide(key x=key y):=by
 unfold dK;rw[AL hx hy,wo,cmp_eq]
theorem OZ {x y:Nat}(hx:aL x=false)(hy:aL y=false):kL x y=decide(key x≤key y):=by
 unfold kL;rw[AL hx hy,wo,wo,afa,cmp_eq,Bool.eq_iff_iff];simp;omega
theorem OY {x y:Nat}(hx:aL x=false)(hy:aL y=false):lK x y=decide(key y≤key x):=by
 unfold lK;rw[AL hx hy,wo,wo,ao6,cmp_eq,Bool.eq_iff_iff];simp;omega
theorem CK {x y:Nat}{o:Ordering}(h:double.order x y=some o):aL x=false∧aL y=false:=by
 constructor
 ·cases hx:aL x
  ·rfl
  ·have:double.order x y=none:=nR hx
   rw[this]at h;cases h
 ·cases hy:aL y
  ·rfl
  ·have:double.order x y=none:=qy hy
   rw[this]at h;cases h
theorem afb {x y:Nat}(h:kL x y=true):aL x=false∧aL y=false∧key x≤key y:=by
 have h':=h
 unfold kL at h
 cases ho:double.order x y with
 |none=>rw[ho]at h;cases h
 |some o =>
  obtain⟨a,b⟩:=CK ho
  rw[OZ a b]at h'
  exact⟨a,b,of_decide_eq_true h'⟩
theorem afc {x y:Nat}(h:lK x y=true):aL x=false∧aL y=false∧key y≤key x:=by
 have h':=h
 unfold lK at h
 cases ho:double.order x y with
 |none=>rw[ho]at h;cases h
 |some o =>
  obtain⟨a,b⟩:=CK ho
  rw[OY a b]at h'
  exact⟨a,b,of_decide_eq_true h'⟩
theorem vw {x y:Nat}(h:dK x y=true):aL x=false∧aL y=false∧key x=key y:=by
 have h':=h
 unfold dK at h
 cases ho:double.order x y with
 |none=>rw[ho]at h;cases h
 |some o =>
  obtain⟨a,b⟩:=CK ho
  rw[Ii a b]at h'
  exact⟨a,b,of_decide_eq_true h'⟩
def KR(v:Int)(g:Nat):Int:=cond(decide(v<0))(-((min(rq 52 v.natAbs g)9218868437227405312:Nat):Int))((min(rq 52 v.natAbs g)9218868437227405312:Nat):Int)
theorem Em {v w:Int}(g:Nat)(h:v≤w):KR v g≤KR w g:=by
 unfold KR
 by_cases h1:v<0
 ·rw[decide_eq_true h1,cond_true]
  by_cases h2:w<0
  ·rw[decide_eq_true h2,cond_true]
   have:=vD 52(g:=g)(show w.natAbs≤v.natAbs by omega)
   omega
  ·rw[decide_eq_false h2,cond_false];omega
 ·rw[decide_eq_false h1,decide_eq_false(show ¬w<0 by omega),cond_false,cond_false]
  have:=vD 52(g:=g)(show v.natAbs≤w.natAbs by omega)
  omega
theorem VK(v:Int) {g:Nat}(hg:0<g):KR(-v)g=- KR v g:=by
 unfold KR
 rw[Int.natAbs_neg]
 rcases Int.lt_trichotomy v 0 with h |h |h
 ·rw[decide_eq_true h,decide_eq_false(show ¬ -v<0 by omega),cond_true,cond_false,Int.neg_neg]
 ·subst h
  rw[Int.neg_zero,Int.natAbs_zero,uF 52 hg];decide
 ·rw[decide_eq_false(show ¬v<0 by omega),decide_eq_true(show -v<0 by omega),cond_true,cond_false]
theorem aj2 {g:Nat}(hg:0<g):KR 0 g=0:=by
 unfold KR
 rw[Int.natAbs_zero,uF 52 hg];decide
theorem IC {v:Int}{g:Nat}:(0≤v→0≤KR v g)∧(v≤0→0<g→KR v g≤0):=by
 unfold KR
 constructor
 ·intro h;rw[decide_eq_false(show ¬v<0 by omega),cond_false];omega
 ·intro h hg
  by_cases h0:v=0
  ·subst h0;rw[Int.natAbs_zero,uF 52 hg];decide
  ·rw[decide_eq_true(show v<0 by omega),cond_true];omega
theorem Jq(s:Bool) {r:Nat}(h:r≤9218868437227405312):key(double.word s r)=cond s(-(r:Int))r:=by
 unfold key rung jT Format.word
 rw[Ej]
 cases s
 ·have h1:r / 9223372036854775808=0:=Nat.div_eq_of_lt(by omega)
  have h2:r % 9223372036854775808=r:=Nat.mod_eq_of_lt(by omega)
  simp[h1,h2]
 ·have h1:(9223372036854775808+r) / 9223372036854775808=1:=by omega
  have h2:(9223372036854775808+r) % 9223372036854775808=r:=by omega
  simp[h1,h2]
theorem uG {s:Bool}{m u w:Nat}{p:Int}{v:Int}{g:Nat}(hg:0<g)(hp:p+1074=u - w)(ha:rq 52(m*2 ^ u)(2 ^ w)=rq 52 v.natAbs g)(hs:v≠0→s=decide(v<0)):key(double.nearest s m p)=KR v g:=by
 rw[Ka s m u w p hp,ha,PS,Jq _(Nat.min_le_right _ _)]
 unfold KR
 by_cases h0:v=0
 ·subst h0
  rw[Int.natAbs_zero,uF 52 hg]
  cases s<;>decide
 ·rw[hs h0]
theorem Kc {x m:Nat}{i base:Int}(hv:rv 52(rung x)=m*2 ^ (i+1074).toNat)(h1:base≤i)(h2:-1074≤base):val x=signed(jT x)m(i - base).toNat*2 ^ (base+1074).toNat:=by
 rw[←wX,show(i - base).toNat+(base+1074).toNat=(i+1074).toNat by omega,o7,←hv];rfl
theorem aj3 {x:Nat}{s t:Bool}{m n:Nat}{i j:Int}{r:Bool}{a b:Int}(hi:-1074≤i)(hj:-1074≤j)
  (ea:a=signed s m(i - min i j).toNat*2 ^ (min i j+1074).toNat)(eb:b=signed t n(j - min i j).toNat*2 ^ (min i j+1074).toNat)
  (hr:x=double.write(.number r(signed s m(i - min i j).toNat+signed t n(j - min i j).toNat).natAbs(min i j)))
  (hs:signed s m(i - min i j).toNat+signed t n(j - min i j).toNat≠0→r=decide(signed s m(i - min i j).toNat+signed t n(j - min i j).toNat<0)):key x=KR(a+b)1:=by
 generalize signed s m(i - min i j).toNat=A at *
 generalize signed t n(j - min i j).toNat=B at *
 have e:a+b=(A+B)*2 ^ (min i j+1074).toNat:=by rw[ea,eb,Int.add_mul]
 have hc:(0:Int)<2 ^ (min i j+1074).toNat:=Int.pow_pos(by decide)
 rw[hr,e]
 refine uG(u:=(min i j+1074).toNat)(w:=0)(by decide)(by omega) ?_ ?_
 ·rw[Int.natAbs_mul,Int.natAbs_pow];rfl
 ·intro h0
  have hAB:A+B≠0:=fun h=>h0(by rw[h,Int.zero_mul])
  rw[hs hAB]
  refine decide_eq_decide.2 ?_
  constructor
  ·intro h;exact Int.mul_neg_of_neg_of_pos h hc
  ·intro h
   rcases Int.lt_trichotomy(A+B)0 with h1 |h1 |h1
   ·exact h1
   ·exact absurd h1 hAB
   ·have:=Int.mul_pos h1 hc;omega
theorem xU {x y:Nat}(hx:isFin x=true)(hy:isFin y=true):key(bq x y)=KR(val x+val y)1∧aL(bq x y)=false:=by
 obtain⟨m,i,hrx,hi,_,hvx⟩:=iQ hx
 obtain⟨n,j,hry,hj,_,hvy⟩:=iQ hy
 constructor
 ·unfold bq Format.add
  rw[hrx,hry]
  simp only[Datum.sum,Option.map_some,Option.getD_some]
  refine aj3 hi hj(Kc hvx(by omega)(by omega))(Kc hvy(by omega)(by omega))rfl ?_
  intro h;rw[if_neg h]
 ·have:∃r,double.add x y=some r:=by unfold Format.add;rw[hrx,hry];exact⟨_,rfl⟩
  obtain⟨r,hr⟩:=this
  unfold bq;rw[hr];exact Nt hr
theorem gF(x:Nat):(val x).natAbs=rv 52(rung x):=by unfold val;cases jT x<;>simp only[cond_true,cond_false]<;>omega
theorem val_neg {x:Nat}(h:val x≠0):jT x=decide(val x<0):=by
 unfold val at h ⊢
 cases hs:jT x
 ·rw[cond_false,decide_eq_false(by omega)]
 ·rw[hs,cond_true]at h;rw[cond_true,decide_eq_true(by omega)]
theorem Ke {a b:Int}(h:a*b≠0):(decide(a<0) ^^ decide(b<0))=decide(a*b<0):=by
 have ha:a≠0:=fun e=>h(by rw[e,Int.zero_mul])
 have hb:b≠0:=fun e=>h(by rw[e,Int.mul_zero])
 rcases Int.lt_or_gt_of_ne ha with h1 |h1<;>rcases Int.lt_or_gt_of_ne hb with h2 |h2
 ·have:=Int.mul_pos_of_neg_of_neg h1 h2
  rw[decide_eq_true h1,decide_eq_true h2,decide_eq_false(by omega)];rfl
 ·have:=Int.mul_neg_of_neg_of_pos h1 h2
  rw[decide_eq_true h1,decide_eq_false(by omega),decide_eq_true this];rfl
 ·have:=Int.mul_neg_of_pos_of_neg h1 h2
  rw[decide_eq_false(by omega),decide_eq_true h2,decide_eq_true this];rfl
 ·have:=Int.mul_pos h1 h2
  rw[decide_eq_false(by omega),decide_eq_false(by omega),decide_eq_false(by omega)];rfl
theorem OJ {x y c:Nat}(hc:c=1074)(hx:isFin x=true)(hy:isFin y=true):key(bT x y)=KR(val x*val y)(2 ^ c)∧aL(bT x y)=false:=by
 obtain⟨m,i,hrx,hi,_,hvx⟩:=iQ hx
 obtain⟨n,j,hry,hj,_,hvy⟩:=iQ hy
 constructor
 ·unfold bT Format.mul
  rw[hrx,hry]
  simp only[Datum.product,Option.map_some,Option.getD_some,Format.write]
  refine uG(u:=(i+1074).toNat+(j+1074).toNat)(w:=c)(Nat.two_pow_pos _)(by omega) ?_ ?_
  ·rw[Int.natAbs_mul,gF,gF,hvx,hvy,Nat.pow_add]
   congr 1
   rw[Nat.mul_assoc,Nat.mul_assoc,Nat.mul_left_comm n]
  ·intro h
   have ha:val x≠0:=fun e=>h(by rw[e,Int.zero_mul])
   have hb:val y≠0:=fun e=>h(by rw[e,Int.mul_zero])
   rw[val_neg ha,val_neg hb,Ke h]
 ·have:∃r,double.mul x y=some r:=by unfold Format.mul;rw[hrx,hry];exact⟨_,rfl⟩
  obtain⟨r,hr⟩:=this
  unfold bT;rw[hr];exact Nv hr
def sg(v:Int):Int:=cond(decide(v<0))(-1)1
theorem IE {x y c:Nat}(hc:c=1074)(hx:isFin x=true)(hy:isFin y=true)(h0:val y≠0):key(fdiv x y)=KR(val x*sg(val y)*((2 ^ c:Nat):Int))(val y).natAbs∧aL(fdiv x y)=false:=by
 obtain⟨m,i,hrx,hi,hm,hvx⟩:=iQ hx
 obtain⟨n,j,hry,hj,hn,hvy⟩:=iQ hy
 have hn0:n≠0:=fun e=>h0(by
  have:(val y).natAbs=0:=by rw[gF,hvy,e,Nat.zero_mul]
  omega)
 have hr:double.div x y=some(double.write(.number(jT x ^^ jT y)(2*(m <<< (54+n.log2 - m.log2) / n)+(m <<< (54+n.log2 - m.log2) % n!=0).toNat)(i - j - (54+n.log2 - m.log2:Nat) - 1))):=by
  unfold Format.div
  rw[hrx,hry]
  simp only[Datum.quotient]
  rw[if_neg hn0]
  rfl
 refine⟨?_,by unfold fdiv;rw[hr];exact Nw hr⟩
 unfold fdiv
 rw[hr,Option.getD_some]
 have hsg:(sg(val y)).natAbs=1:=by unfold sg;cases decide(val y<0)<;>rfl
 have hP:0<(2 ^ c:Nat):=Nat.two_pow_pos _
 refine uG(u:=(i+1074).toNat+c)(w:=(j+1074).toNat+(54+n.log2 - m.log2)+1)(by omega)(by omega) ?_ ?_
 ·rw[Int.natAbs_mul,Int.natAbs_mul,hsg,Nat.mul_one,Int.natAbs_natCast,gF,gF,hvx,hvy]
  by_cases hm0:m=0
  ·rw[hm0,Nat.zero_shiftLeft,Nat.zero_div,Nat.zero_mod,Nat.zero_mul,Nat.zero_mul]
   show rq 52(0*_)_=_
   rw[Nat.zero_mul,uF 52(Nat.two_pow_pos _),uF 52(Nat.mul_pos(by omega)(Nat.two_pow_pos _))]
  ·have hl:=abZ hm
   have hq:2 ^ (52+1)≤m <<< (54+n.log2 - m.log2) / n:=by
    rw[Nat.le_div_iff_mul_le(by omega)]
    have h1:2 ^ (54+n.log2)≤m <<< (54+n.log2 - m.log2):=by
     rw[Nat.shiftLeft_eq]
     have:=Nat.mul_le_mul_right(2 ^ (54+n.log2 - m.log2))(Nat.log2_self_le hm0)
     rw[←Nat.pow_add,show m.log2+(54+n.log2 - m.log2)=54+n.log2 by omega]at this
     exact this
    refine Nat.le_trans ?_ h1
    rw[show 54+n.log2=(52+1)+(n.log2+1)by omega,Nat.pow_add 2(52+1)]
    exact Nat.mul_le_mul_left _(Nat.le_of_lt Nat.lt_log2_self)
   rw[ab0 52 _ n _ _(by omega)hq,Nat.shiftLeft_eq]
   generalize 54+n.log2 - m.log2=k
   have:=Cn 52(m*2 ^ (i+1074).toNat*2 ^ c)(n*2 ^ (j+1074).toNat)(Nat.two_pow_pos(k+1))
   rw[←this]
   congr 1
   ·rw[Nat.pow_add,Nat.pow_succ]
    generalize 2 ^ (i+1074).toNat=a
    generalize 2 ^ c=b
    generalize 2 ^ k=d
    simp only[Nat.mul_assoc,Nat.mul_comm,Nat.mul_left_comm]
   ·rw[Nat.mul_assoc,←Nat.pow_add,Nat.add_assoc]
 ·intro h
  have hP':(0:Int)<((2 ^ c:Nat):Int):=Int.ofNat_lt.2 hP
  generalize((2 ^ c:Nat):Int)=P at h hP'
  have h1:val x*sg(val y)≠0:=fun e=>h(by rw[e,Int.zero_mul])
  have ha:val x≠0:=fun e=>h1(by rw[e,Int.zero_mul])
  have h2:=Ke h
  rw[←h2,decide_eq_false(show ¬P<0 by omega),Bool.xor_false,←Ke h1,val_neg ha,val_neg h0]
  congr 1
  unfold sg
  cases decide(val y<0)<;>decide
theorem NG {a b o:Nat}(ha:isFin a=true)(hb:isFin b=true)(ho:isFin o=true)(h:key a≤key b):key(bq a o)≤key(bq b o):=by
 rw[(xU ha ho).1,(xU hb ho).1]
 have:=oH.2 h
 exact Em 1(by omega)
theorem Am {x:Nat}:0<val x↔0<key x:=by
 have h:=Kh(x:=0)(y:=x)
 have h1:val 0=0:=by decide +kernel
 have h2:key 0=0:=by decide +kernel
 rw[h1,h2]at h;exact h
theorem qH {x:Nat}:val x<0↔key x<0:=by
 have h:=Kh(x:=x)(y:=0)
 have h1:val 0=0:=by decide +kernel
 have h2:key 0=0:=by decide +kernel
 rw[h1,h2]at h;exact h
theorem acO {a b d:Nat}(ha:isFin a=true)(hb:isFin b=true)(hd:isFin d=true)(h0:0<key d)(h:key a≤key b):key(fdiv a d)≤key(fdiv b d):=by
 have hv:=Am.2 h0
 obtain⟨c,hc⟩:∃c,c=1074:=⟨_,rfl⟩
 rw[(IE hc ha hd(by omega)).1,(IE hc hb hd(by omega)).1]
 have hsg:sg(val d)=1:=by unfold sg;rw[decide_eq_false(by omega)];rfl
 rw[hsg,Int.mul_one,Int.mul_one]
 exact Em _(Int.mul_le_mul_of_nonneg_right(oH.2 h)(Int.natCast_nonneg _))
theorem yV {x lo hi:Nat}(h0:aL x=false)(h1:key lo≤key x)(h2:key x≤key hi)(hl:-9218868437227405312<key lo)(hh:key hi<9218868437227405312):isFin x=true:=by
 rcases oL h0 with h |h
 ·exact h
 ·exfalso
  have e:key x=9218868437227405312∨key x=-9218868437227405312:=by
   unfold key;rw[h];cases jT x
   ·exact Or.inl rfl
   ·exact Or.inr rfl
  omega
def pw(n:Nat):Nat:=(n - 51)*4503599627370496
theorem ZM {n:Nat}(h:52≤n):rv 52(pw n)=2 ^ n:=by
 obtain⟨k,rfl⟩:∃k,n=52+k:=⟨n - 52,by omega⟩
 have e:pw(52+k)=(k+1)*4503599627370496:=by unfold pw;congr 1;omega
 rw[e,Ar(by omega),Nat.mul_mod_left,Nat.mul_div_cancel _(by decide),Nat.add_zero,Nat.add_sub_cancel,Nat.pow_add]
def Bd(n x:Nat):Prop:=rung x≤pw n
theorem Bd.fin {n x:Nat}(h:Bd n x)(hn:n≤2097):isFin x=true:=by
 unfold Bd pw at h
 unfold isFin
 exact Nat.ble_eq_true_of_le(by show rung x+1≤_;omega)
theorem Bd.val {n x:Nat}(h:Bd n x)(hn:52≤n):(val x).natAbs≤2 ^ n:=by
 rw[gF,←ZM hn]
 rcases Nat.lt_or_ge(rung x)(pw n)with e |e
 ·exact Nat.le_of_lt(BL 52 e)
 ·rw[show rung x=pw n from Nat.le_antisymm h e];exact Nat.le_refl _
theorem kQ(x:Nat):(key x).natAbs=rung x:=by unfold key;cases jT x<;>simp only[cond_true,cond_false]<;>omega
theorem adR(v:Int)(g:Nat):(KR v g).natAbs≤rq 52 v.natAbs g:=by
 unfold KR
 cases decide(v<0)
 ·rw[cond_false,Int.natAbs_natCast];exact Nat.min_le_left _ _
 ·rw[cond_true,Int.natAbs_neg,Int.natAbs_natCast];exact Nat.min_le_left _ _
theorem Zp {x g n:Nat}{v:Int}(hk:key x=KR v g)(hg:0<g)(hv:v.natAbs≤2 ^ n*g)(hn:52≤n):Bd n x:=by
 unfold Bd
 rw[←kQ,hk]
 refine Nat.le_trans(adR v g)(Nat.le_trans(vD 52 hv) ?_)
 have:=Cn 52(2 ^ n)1 hg
 rw[Nat.one_mul]at this
 rw[this,←ZM hn,adS]
 exact Nat.le_refl _
theorem Bd.mono {n m x:Nat}(h:Bd n x)(hm:n≤m):Bd m x :=
 Nat.le_trans h(Nat.mul_le_mul_right _(Nat.sub_le_sub_right hm _))
theorem Zr {r q:Nat}(h:r≤q):rv 52 r≤rv 52 q:=by
 rcases Nat.lt_or_ge r q with e |e
 ·exact Nat.le_of_lt(BL 52 e)
 ·rw[Nat.le_antisymm h e];exact Nat.le_refl _
theorem val_zero {x:Nat}:val x=0↔rung x=0:=by
 constructor
 ·intro h
  have h1:=gF x
  rw[h,Int.natAbs_zero]at h1
  rcases Nat.eq_zero_or_pos(rung x)with e |e
  ·exact e
  ·have:=BL 52 e;rw[Dt]at this;omega
 ·intro h
  have h1:=gF x
  rw[h,Dt]at h1
  omega
theorem RO {x:Nat}(h:aL x=false):key(fI x)=- key x∧aL(fI x)=false:=by
 have hx:∀s r,r≤9218868437227405312→key(fI(double.word s r))=- key(double.word s r)∧aL(fI(double.word s r))=false:=fun s r hr=>by
  rw[abI s hr,Jq _ hr,Jq _ hr,rz _ hr]
  cases s<;>simp
 have e:fI x=x ^^^ 9223372036854775808:=by unfold fI;rw[h];rfl
 have hr:rung x≤9218868437227405312:=by
  rcases oL h with h |h
  ·have:=y8 h;omega
  ·omega
 have hb:(x ^^^ 9223372036854775808) % 9223372036854775808=x % 9223372036854775808:=by
  rw[show(9223372036854775808:Nat)=2 ^ 63 from by decide]
  rw[Nat.xor_mod_two_pow,Nat.mod_self];simp
 have hs:jT(x ^^^ 9223372036854775808)=!jT x:=by
  unfold jT
  have:(x ^^^ 9223372036854775808) / 9223372036854775808=x / 9223372036854775808 ^^^ 1:=by
   rw[show(9223372036854775808:Nat)=2 ^ 63 from by decide,←Nat.shiftRight_eq_div_pow,←Nat.shiftRight_eq_div_pow,Nat.shiftRight_xor_distrib]
   rfl
  rw[this]
  have h2:(x / 9223372036854775808 ^^^ 1) % 2=(x / 9223372036854775808 % 2) ^^^ 1:=by
   rw[show(2:Nat)=2 ^ 1 from rfl,Nat.xor_mod_two_pow]
  rw[h2]
  have:x / 9223372036854775808 % 2=0∨x / 9223372036854775808 % 2=1:=by omega
  rcases this with e |e<;>rw[e]<;>rfl
 rw[e]
 constructor
 ·unfold key
  rw[hs]
  have:rung(x ^^^ 9223372036854775808)=rung x:=hb
  rw[this]
  cases jT x<;>simp
 ·unfold aL at *
  rw[rA]at *
  rw[hb];exact h
structure Sc(j x y:Nat):Prop where
 s:jT x=jT y
 fx:isFin x=true
 fy:isFin y=true
 r:(rung x=0∧rung y=0)∨(2 ^ 52≤rung x∧rung y=rung x+j*2 ^ 52)
theorem agF {r:Nat}(j:Nat)(h:2 ^ 52≤r):rv 52(r+j*2 ^ 52)=rv 52 r*2 ^ j:=by
 have p:0<2 ^ 52:=Nat.two_pow_pos 52
 unfold rv
 generalize 2 ^ 52=b at *
 rw[if_neg(by have:r≤r+j*b:=Nat.le_add_right _ _;omega),if_neg(by omega),Nat.add_mul_mod_self_right,Nat.add_mul_div_right _ _ p]
 have:1≤r / b:=(Nat.le_div_iff_mul_le p).2(by omega)
 rw[show r / b+j - 1=(r / b - 1)+j by omega,Nat.pow_add,Nat.mul_assoc]
theorem Sc.val {j x y:Nat}(h:Sc j x y):val y=val x*((2 ^ j:Nat):Int):=by
 unfold Go.Ev.val
 rw[←h.s]
 have e:rv 52(rung y)=rv 52(rung x)*2 ^ j:=by
  rcases h.r with⟨a,b⟩ | ⟨a,b⟩
  ·rw[a,b,Dt,Nat.zero_mul]
  ·rw[b];exact agF j a
 rw[e]
 cases jT x
 ·simp only[cond_false];push_cast;rfl
 ·simp only[cond_true];push_cast;rw[Int.neg_mul]
theorem agc {v:Int}{g:Nat}(h:rq 52 v.natAbs g<9218868437227405312):(KR v g).natAbs=rq 52 v.natAbs g:=by
 unfold KR
 rw[Nat.min_eq_left(Nat.le_of_lt h)]
 cases decide(v<0)
 ·rw[cond_false,Int.natAbs_natCast]
 ·rw[cond_true,Int.natAbs_neg,Int.natAbs_natCast]
theorem agL(v:Int)(g:Nat) {m:Nat}(hm:0<m):KR(v*(m:Int))(g*m)=KR v g:=by
 unfold KR
 have e:=Cn 52 v.natAbs g hm
 rw[Int.natAbs_mul,Int.natAbs_natCast,e]
 have hg':(0:Int)<(m:Int):=by omega
 by_cases h:v<0
 ·rw[decide_eq_true h,decide_eq_true(Int.mul_neg_of_neg_of_pos h hg')]
 ·rw[decide_eq_false h,decide_eq_false(Int.not_lt.2(Int.mul_nonneg(by omega)(by omega)))]
theorem zN {x:Nat}(h:rung x=0):double.read x=.number(jT x)0(-1074):=by
 unfold rung at h
 unfold Format.read jT
 simp only[Ej,PS,Er,uS]
 rw[h,if_pos(by decide)]
theorem acp {a g:Nat}(hg:0<g)(h:g∣a):xV a g=a / g:=by
 obtain⟨t,rfl⟩:=h
 unfold xV
 rw[Nat.mul_mod_right,Nat.mul_zero]
 have h1:decide(g<0)=false:=decide_eq_false(Nat.not_lt_zero _)
 have h2:(g==0)=false:=by
  cases h3:g==0
  ·rfl
  ·have:=eq_of_beq h3;omega
 rw[h1,h2]
 rfl
theorem atb {a:Nat}(h:2 ^ 52≤a):2 ^ 52≤xV a(2 ^ (a.log2 - 52))∧xV a(2 ^ (a.log2 - 52))≤2 ^ 53:=by
 have h0:a≠0:=by have:=Nat.two_pow_pos 52;omega
 have hL:52≤a.log2:=(Nat.le_log2 h0).2 h
 have l1:=Nat.log2_self_le h0
 have l2:=Nat.lt_log2_self(n:=a)
 constructor
 ·refine Nat.le_trans ?_(QJ _ _)
  rw[Nat.le_div_iff_mul_le(Nat.two_pow_pos _),←Nat.pow_add,show 52+(a.log2 - 52)=a.log2 by omega]
  exact l1
 ·refine Nat.le_trans(QI _ _) ?_
  have:a / 2 ^ (a.log2 - 52)<2 ^ 53:=by
   rw[Nat.div_lt_iff_lt_mul(Nat.two_pow_pos _),←Nat.pow_add,show 53+(a.log2 - 52)=a.log2+1 by omega]
   exact l2
  exact this
theorem awh {a:Nat}(h:2 ^ 52≤a):rv 52(rq 52 a 1)=xV a(2 ^ (a.log2 - 52))*2 ^ (a.log2 - 52):=by
 obtain⟨r1,r2⟩:=atb h
 unfold rq
 rw[Nat.div_one,Nat.one_mul]
 generalize xV a(2 ^ (a.log2 - 52))=R at *
 generalize a.log2 - 52=k
 have p52:(2:Nat) ^ 52=4503599627370496:=by decide
 have p53:(2:Nat) ^ 53=9007199254740992:=by decide
 rw[p52]at r1
 rw[p53]at r2
 rw[p52,Ar(by omega)]
 rcases Nat.lt_or_ge R 9007199254740992 with e |e
 ·have h1:(k*4503599627370496+R) % 4503599627370496=R - 4503599627370496:=by omega
  have h2:(k*4503599627370496+R) / 4503599627370496=k+1:=by omega
  rw[h1,h2,Nat.add_sub_cancel,show 4503599627370496+(R - 4503599627370496)=R by omega]
 ·have h0:R=9007199254740992:=by omega
  subst h0
  have h1:(k*4503599627370496+9007199254740992) % 4503599627370496=0:=by omega
  have h2:(k*4503599627370496+9007199254740992) / 4503599627370496=k+2:=by omega
  rw[h1,h2,Nat.add_zero,show k+2 - 1=k+1 by omega,Nat.pow_succ,show(9007199254740992:Nat)=4503599627370496*2 by decide,Nat.mul_assoc,Nat.mul_comm(2 ^ k)2]
def Gr(k x:Nat):Prop:=2 ^ k∣(val x).natAbs
theorem Gr.mono {k l x:Nat}(h:Gr k x)(hl:l≤k):Gr l x:=Nat.dvd_trans(Nat.pow_dvd_pow 2 hl)h
structure Wh(c x:Nat)(a:Int):Prop where
 fin:isFin x=true
 val:val x=a*((2 ^ c:Nat):Int)
theorem ano {c n:Nat}(hc:52≤c)(h0:n≠0)(h:n<2 ^ 53):rv 52(rq 52(n*2 ^ c)1)=n*2 ^ c:=by
 have h52:2 ^ 52≤n*2 ^ c:=Nat.le_trans(Nat.pow_le_pow_right(by decide)hc)(Nat.le_mul_of_pos_left _(by omega))
 have hl:n.log2<53:=(Nat.log2_lt h0).2 h
 have hd:2 ^ ((n*2 ^ c).log2 - 52)∣n*2 ^ c:=by
  rw[Ep c h0]
  exact Nat.dvd_trans(Nat.pow_dvd_pow 2(by omega))(Nat.dvd_mul_left _ _)
 rw[awh h52,acp(Nat.two_pow_pos _)hd,Nat.div_mul_cancel hd]
theorem aaJ {c z:Nat}{a:Int}(hc:c=1074)(hz:key z=KR(a*((2 ^ c:Nat):Int))1)(ha:a.natAbs<2 ^ 53):Wh c z a:=by
 have hP:0<2 ^ c:=Nat.two_pow_pos c
 have en:(a*((2 ^ c:Nat):Int)).natAbs=a.natAbs*2 ^ c:=by rw[Int.natAbs_mul,Int.natAbs_natCast]
 have hb:Bd(53+c)z:=by
  refine Zp hz(by decide) ?_(by omega)
  rw[en,Nat.mul_one,Nat.pow_add]
  exact Nat.mul_le_mul_right _(by omega)
 have hf:isFin z=true:=hb.fin(by omega)
 refine⟨hf,?_⟩
 by_cases h0:a=0
 ·subst h0
  rw[Int.zero_mul,aj2(by decide)]at hz
  rw[Int.zero_mul]
  refine val_zero.2 ?_
  rw[←kQ,hz];rfl
 ·have hn:a.natAbs≠0:=by omega
  have hr:rung z=rq 52(a.natAbs*2 ^ c)1:=by
   have hlt:rq 52(a*((2 ^ c:Nat):Int)).natAbs 1<9218868437227405312:=by
    rw[en]
    refine Nat.lt_of_le_of_lt(vD 52(Nat.mul_le_mul_right _(Nat.le_of_lt ha))) ?_
    rw[←Nat.pow_add,←ZM(by omega),adS]
    unfold pw
    omega
   rw[←kQ,hz,agc hlt,en]
  have hv:(val z).natAbs=a.natAbs*2 ^ c:=by rw[gF,hr,ano(by omega)hn ha]
  have hk0:key z≠0:=fun e=>by
   have e1:rung z=0:=by rw[←kQ,e];rfl
   have e2:=val_zero.2 e1
   rw[e2]at hv
   have:=Nat.mul_pos(Nat.pos_of_ne_zero hn)hP
   have e3:(0:Int).natAbs=0:=rfl
   omega
  generalize(2 ^ c:Nat)=P at *
  rcases Int.lt_or_gt_of_ne h0 with h |h
  ·have hk:key z<0:=by
    have:=(IC(v:=a*(P:Int))(g:=1)).2(by have:=Int.mul_neg_of_neg_of_pos h(show(0:Int)<P by omega);omega)(by decide)
    omega
   have h1:=qH.2 hk
   have e:((a.natAbs*P:Nat):Int)=-a*P:=by rw[Int.natCast_mul,show((a.natAbs:Nat):Int)=-a by omega]
   rw[Int.neg_mul]at e
   omega
  ·have hk:0<key z:=by
    have:=(IC(v:=a*(P:Int))(g:=1)).1(by have:=Int.mul_pos h(show(0:Int)<P by omega);omega)
    omega
   have h1:=Am.2 hk
   have e:((a.natAbs*P:Nat):Int)=a*P:=by rw[Int.natCast_mul,show((a.natAbs:Nat):Int)=a by omega]
   omega
section
variable {c x y:Nat}{a b:Int}(hc:c=1074)
include hc
omit hc
end
def VB(a j x:Nat):Prop:=isFin x=true∧(val x).natAbs≤a*2 ^ j
theorem VB.up {a j k x:Nat}(h:VB a j x)(hk:a≤2 ^ k):VB 1(j+k)x:=⟨h.1,Nat.le_trans h.2(by rw[Nat.one_mul,Nat.pow_add,Nat.mul_comm];exact Nat.mul_le_mul_left _ hk)⟩
theorem aay {z g a j:Nat}{v:Int}(hz:key z=KR v g)(hg:0<g)(hv:v.natAbs≤a*2 ^ j*g)(ha:a≠0)(ha':a<2 ^ 53)(hj:52≤j)(hj':j≤2000):VB a j z:=by
 have h1:rung z≤rq 52(a*2 ^ j)1:=by
  rw[←kQ,hz]
  exact Nat.le_trans(adR v g)(alx 52 hg(by decide)(by rw[Nat.mul_one];exact hv))
 constructor
 ·have h2:rq 52(a*2 ^ j)1≤pw(53+j):=by
   refine Nat.le_trans(vD 52(Nat.mul_le_mul_right _(Nat.le_of_lt ha'))) ?_
   rw[←Nat.pow_add,←ZM(by omega),adS]
   exact Nat.le_refl _
  have h3:Bd(53+j)z:=Nat.le_trans h1 h2
  exact h3.fin(by omega)
 ·rw[gF]
  have h4:=Zr h1
  rw[ano hj ha ha']at h4
  exact h4
theorem akp(a j:Nat):VB a j 0:=⟨by decide +kernel,by
 have:val 0=0:=val_zero.2(by decide)
 rw[this];exact Nat.zero_le _⟩
section
variable {c x y a b i j:Nat}(hc:c=1074)
theorem afX(hx:VB a j x)(hy:VB b j y)(h0:a+b≠0)(h:a+b<2 ^ 53)(hj:52≤j)(hj':j≤2000):VB(a+b)j(bq x y):=by
 refine aay(xU hx.1 hy.1).1(by decide) ?_ h0 h hj hj'
 have h1:=hx.2
 have h2:=hy.2
 rw[Nat.mul_one,Nat.add_mul]
 generalize a*2 ^ j=A at *
 generalize b*2 ^ j=B at *
 omega
include hc
theorem afW {k:Nat}(hx:VB a i x)(hy:VB 1 j y)(hk:k+c=i+j)(h0:a≠0)(h:a<2 ^ 53)(hj:52≤k)(hj':k≤2000):VB a k(bT x y):=by
 refine aay(OJ hc hx.1 hy.1).1(Nat.two_pow_pos _) ?_ h0 h hj hj'
 rw[Int.natAbs_mul,Nat.mul_assoc,←Nat.pow_add,hk,Nat.pow_add,←Nat.mul_assoc]
 have:=hy.2
 rw[Nat.one_mul]at this
 exact Nat.mul_le_mul hx.2 this
end
theorem ath(way:Toward)(s:Bool)(n d:Nat):way.cut s n d≤n+1:=by
 unfold Toward.cut
 exact Nat.add_le_add(Nat.div_le_self n _)(yh _)
theorem T9 {c j x:Nat}(way:Toward)(hc:c=1074)(hx:VB 1(c+j)x)(hj:53≤j):∃s M,(double.read x).integral way=.number s M 0∧M≤2 ^ j+1:=by
 obtain⟨m,i,h1,h2,h3,h4⟩:=iQ hx.1
 have hv:=hx.2
 rw[gF,h4,Nat.one_mul]at hv
 rw[h1]
 refine⟨_,_,rfl,Nat.le_trans(ath _ _ _ _)(Nat.add_le_add_right ?_ 1)⟩
 rw[Nat.shiftLeft_eq]
 by_cases hi:0≤i
 ·obtain⟨u,rfl⟩:∃u:Nat,i=u:=⟨i.toNat,by omega⟩
  rw[show((u:Int)+1074).toNat=u+c by omega,Nat.pow_add,←Nat.mul_assoc,Nat.add_comm c j,Nat.pow_add]at hv
  have:=Nat.le_of_mul_le_mul_right hv(Nat.two_pow_pos c)
  rw[Int.toNat_natCast]
  exact this
 ·rw[show i.toNat=0 by omega,Nat.pow_zero,Nat.mul_one]
  have:2 ^ 53≤2 ^ j:=Nat.pow_le_pow_right(by decide)hj
  have e:2 ^ 53=9007199254740992:=by decide
  omega
theorem XA {c j x:Nat}(hc:c=1074)(hx:VB 1(c+j)x)(hj:53≤j)(hj':j≤60):Go.Gv.Cr .i64 x=true:=by
 obtain⟨s,M,h1,h2⟩:=T9 .zero hc hx hj
 have hM:M≤2 ^ 60+1:=Nat.le_trans h2(Nat.add_le_add_right(Nat.pow_le_pow_right(by decide)hj')1)
 have e60:2 ^ 60=1152921504606846976:=by decide
 unfold Go.Gv.Cr floatToIntVal
 have ht:(FloatKind.f64.decode x).toInt .zero=some(signed s M 0):=by
  show(double.read x).toInt .zero=_
  unfold Datum.toInt
  rw[h1]
 rw[ht]
 have hs:signed s M 0=cond s(-(M:Int))(M:Int):=by
  rw[o7,Nat.pow_zero,Nat.mul_one]
 have h3:IntKind.i64.min≤signed s M 0∧signed s M 0≤IntKind.i64.max:=by
  rw[hs,show IntKind.i64.min=-9223372036854775808 by decide,show IntKind.i64.max=9223372036854775807 by decide]
  cases s
  ·rw[cond_false];omega
  ·rw[cond_true];omega
 simp only[h3,and_self,if_true]
 rfl
theorem FV {j k x:Nat}(h:VB 1 j x)(hk:j≤k):VB 1 k x:=⟨h.1,Nat.le_trans h.2(Nat.mul_le_mul_left _(Nat.pow_le_pow_right(by decide)hk))⟩
theorem wh {c j x:Nat}(hc:c=1074)(h:(isFin x&&Nat.ble(val x).natAbs(1*2 ^ (1074+j)))=true):VB 1(c+j)x:=by
 subst hc
 simp only[Bool.and_eq_true]at h
 exact⟨h.1,Nat.le_of_ble_eq_true h.2⟩
end Go.Ev
namespace Go.Proofs.YtefphimaggjihaaGreatDoor
open Go.Gv
end Go.Proofs.YtefphimaggjihaaGreatDoor
namespace Go.Proofs.YtefphimaggjihaaGreatDoor.Hs
open Go.Gv
open Go.Ev (cn bq dI bT fdiv d9 fI dK jO kL gN lK fabs aL VB)
end Go.Proofs.YtefphimaggjihaaGreatDoor.Hs
namespace Go.Ev
open Ieee
theorem AY {c:Nat}(hc:c=1074)(n:Int):key(cn(FloatKind.f64.nearest n))=KR(n*((2 ^ c:Nat):Int))1∧aL(cn(FloatKind.f64.nearest n))=false:=by
 have hd:FloatKind.f64.nearest n=Ieee.double.nearest(decide(n<0))n.natAbs 0:=rfl
 have hn:aL(FloatKind.f64.nearest n)=false:=by rw[hd];exact BS _ _ _
 rw[iI hn]
 refine⟨?_,hn⟩
 rw[hd]
 refine uG(u:=c)(w:=0)(by decide)(by omega) ?_ ?_
 ·rw[Int.natAbs_mul,Int.natAbs_natCast,Nat.pow_zero]
 ·intro h
  have hp:(0:Int)<((2 ^ c:Nat):Int):=by have:=Nat.two_pow_pos c;omega
  by_cases h0:n<0
  ·rw[decide_eq_true h0,decide_eq_true(Int.mul_neg_of_neg_of_pos h0 hp)]
  ·rw[decide_eq_false h0,decide_eq_false(Int.not_lt.2(Int.mul_nonneg(by omega)(by omega)))]
theorem Qf {c j:Nat}(hc:c=1074)(hj:j≤70) {n:Int}(h:n.natAbs≤2 ^ j):VB 1(c+j)(cn(FloatKind.f64.nearest n)):=by
 refine aay(AY hc n).1(by decide) ?_(by decide)(by decide)(by omega)(by omega)
 rw[Int.natAbs_mul,Int.natAbs_natCast,Nat.mul_one,Nat.one_mul,Nat.pow_add,Nat.mul_comm]
 exact Nat.mul_le_mul_left _ h
theorem aaz {j x:Nat}(h:VB 1 j x):VB 1 j(fI x):=by
 obtain⟨e1,e2⟩:=RO(jP h.1)
 have er:rung(fI x)=rung x:=by rw[←kQ,←kQ,e1,Int.natAbs_neg]
 refine⟨?_,?_⟩
 ·have:=h.1
  unfold isFin at this ⊢
  rw[er];exact this
 ·have:=h.2
  rw[gF]at this ⊢
  rw[er];exact this
theorem aqe {c j x:Nat}(hc:c=1074)(hx:VB 1(c+j)x)(hj:53≤j)(hj':j≤60):(Go.Gv.Mf .i64 x).natAbs≤2 ^ j+1:=by
 obtain⟨s,M,h1,h2⟩:=T9 .zero hc hx hj
 have hM:M≤2 ^ 60+1:=Nat.le_trans h2(Nat.add_le_add_right(Nat.pow_le_pow_right(by decide)hj')1)
 have e60:2 ^ 60=1152921504606846976:=by decide
 unfold Go.Gv.Mf floatToIntVal
 have ht:(FloatKind.f64.decode x).toInt .zero=some(signed s M 0):=by
  show(double.read x).toInt .zero=_
  unfold Datum.toInt
  rw[h1]
 rw[ht]
 have hs:signed s M 0=cond s(-(M:Int))(M:Int):=by
  rw[o7,Nat.pow_zero,Nat.mul_one]
 have h3:IntKind.i64.min≤signed s M 0∧signed s M 0≤IntKind.i64.max:=by
  rw[hs,show IntKind.i64.min=-9223372036854775808 by decide,show IntKind.i64.max=9223372036854775807 by decide]
  cases s
  ·rw[cond_false];omega
  ·rw[cond_true];omega
 simp only[h3,and_self,if_true,Option.getD_some]
 rw[hs]
 generalize 2 ^ j=B at *
 cases s
 ·rw[cond_false];omega
 ·rw[cond_true];omega
end Go.Ev
namespace Go.Proofs.YtefphimaggjihaaGreatDoor.Hs.So
open Go.Gv
open Go.Ev (cn bq dI bT fdiv d9 fI dK jO kL gN lK fabs VB key aL isFin val)
theorem XE {c j:Nat}(hc:c=1074)(hj:j≤60) {n:Int}(h:n.natAbs≤2 ^ (j+9)):VB 1(c+j)(gJ n):=by
 have h1:=Go.Ev.Qf hc(j:=j+9)(by omega)h
 have ev:val yU=((1000*2 ^ c:Nat):Int):=by subst hc;decide +kernel
 have hp:=Nat.two_pow_pos c
 have hk:=(Go.Ev.IE hc h1.1(show isFin yU=true by decide +kernel)(by rw[ev];omega)).1
 unfold gJ
 refine Go.Ev.aay hk ?_ ?_(by decide)(by decide)(by omega)(by omega)
 ·rw[ev,Int.natAbs_natCast];omega
 ·rw[ev,Int.natAbs_mul,Int.natAbs_mul,Int.natAbs_natCast,Int.natAbs_natCast]
  have es:(Go.Ev.sg((1000*2 ^ c:Nat):Int)).natAbs=1:=by
   unfold Go.Ev.sg
   rw[decide_eq_false(by omega)];rfl
  rw[es,Nat.mul_one,Nat.one_mul,←Nat.mul_assoc]
  refine Nat.mul_le_mul_right _(Nat.le_trans h1.2 ?_)
  rw[Nat.one_mul,←Nat.add_assoc,Nat.pow_add _ _ 9]
  exact Nat.mul_le_mul_left _(by decide)
theorem afV {c j x:Nat}(hc:c=1074)(hj:j≤46)(h:VB 1(c+j)x):VB 1(c+(j+11))(Aq x):=by
 have h1:=Go.Ev.afW hc h(Go.Ev.wh(j:=10)(x:=yU)hc(by decide +kernel))(k:=c+(j+10))(by omega)(by decide)(by decide)(by omega)(by omega)
 have h2:=Go.Ev.FV(Go.Ev.wh(j:=0)(x:=4602678819172646912)hc(by decide +kernel))(show c+0≤c+(j+10)by omega)
 have h3:=Go.Ev.afX h1 h2(by decide)(by decide)(by omega)(by omega)
 exact Go.Ev.VB.up(k:=1)h3(by decide)
theorem apz {c j x:Nat}(hc:c=1074)(hj:j≤46)(h:VB 1(c+j)x):rdB x=true:=by
 have go:∀{x},VB 1(c+j)x→Cr .i64(Aq x)=true:=fun {x} h=>Go.Ev.XA(j:=57)hc(Go.Ev.FV(afV hc hj h)(by omega))(by omega)(by omega)
 unfold rdB
 cases jO x 0
 ·exact go h
 ·exact go(Go.Ev.aaz h)
theorem aqf {c j x:Nat}(hc:c=1074)(hj:j≤42)(h:VB 1(c+j)x):(rdI x).natAbs≤2 ^ 54:=by
 have e53:2 ^ 53=9007199254740992:=by decide
 have e54:2 ^ 54=18014398509481984:=by decide
 have go:∀{x},VB 1(c+j)x→(Mf .i64(Aq x)).natAbs≤2 ^ 53+1:=fun {x} h=>Go.Ev.aqe(j:=53)hc(Go.Ev.FV(afV hc(by omega)h)(by omega))(by omega)(by omega)
 unfold rdI
 cases jO x 0
 ·have:=go h
  rw[cond_false];omega
 ·have:=go(Go.Ev.aaz h)
  rw[cond_true,aO(by omega)(by omega)];omega
theorem afD {c j x:Nat}(hc:c=1074)(hj:j≤42)(h:VB 1(c+j)x):VB 1(c+45)(gJ(rdI x)):=XE hc(by decide)(aqf hc hj h)
theorem XF {c j x:Nat}(hc:c=1074)(hj:j≤60)(h:VB 1(c+j)x):VB 1(c+j)(bT x 4598175219545276416) :=
 Go.Ev.afW hc h(Go.Ev.wh(j:=0)(x:=4598175219545276416)hc(by decide +kernel))(k:=c+j)(by omega)(by decide)(by decide)(by omega)(by omega)
theorem Qa {c j x y:Nat}(hc:c=1074)(hj:j≤60)(h:VB 1(c+j)x)(g:VB 1(c+j)y):VB 1(c+(j+1))(bq x y):=by
 have h3:=Go.Ev.afX h g(by decide)(by decide)(by omega)(by omega)
 exact Go.Ev.VB.up(k:=1)h3(by decide)
end Go.Proofs.YtefphimaggjihaaGreatDoor.Hs.So
namespace Go.Ev
open Ieee
theorem as2(s:Bool)(n d:Nat):Toward.zero.cut s n d=n / 2 ^ d:=by
 unfold Toward.cut
 show n / (1 <<< min d(n.log2+2))+0=n / 2 ^ d
 rw[Nat.add_zero,Nat.one_shiftLeft]
 by_cases h:d≤n.log2+2
 ·rw[Nat.min_eq_left h]
 ·rw[Nat.min_eq_right(by omega)]
  have h1:n<2 ^ (n.log2+1):=Nat.lt_log2_self
  have h2:2 ^ (n.log2+1)≤2 ^ (n.log2+2):=Nat.pow_le_pow_right(by decide)(by omega)
  have h3:2 ^ (n.log2+1)≤2 ^ d:=Nat.pow_le_pow_right(by decide)(by omega)
  rw[Nat.div_eq_of_lt(by omega),Nat.div_eq_of_lt(by omega)]
theorem Y9 {c x:Nat}(hc:c=1074)(hx:isFin x=true):(double.read x).integral .zero=.number(jT x)((val x).natAbs / 2 ^ c)0:=by
 obtain⟨m,i,h1,h2,h3,h4⟩:=iQ hx
 rw[h1,gF,h4]
 show Datum.number(jT x)(Toward.zero.cut(jT x)(m <<< i.toNat)(-i).toNat)0=_
 congr 1
 rw[as2,Nat.shiftLeft_eq]
 by_cases hi:0≤i
 ·obtain⟨u,rfl⟩:∃u:Nat,i=u:=⟨i.toNat,by omega⟩
  rw[show(-(u:Int)).toNat=0 by omega,Nat.pow_zero,Nat.div_one,Int.toNat_natCast,show((u:Int)+1074).toNat=u+c by omega,Nat.pow_add,←Nat.mul_assoc,Nat.mul_div_cancel _(Nat.two_pow_pos c)]
 ·obtain⟨d,hd⟩:∃d:Nat,i=-(d:Int)∧d≤c:=⟨(-i).toNat,by omega,by omega⟩
  rw[hd.1,show(-(d:Int)).toNat=0 by omega,Nat.pow_zero,Nat.mul_one,show(- -(d:Int)).toNat=d by omega,show(-(d:Int)+1074).toNat=c - d by omega]
  have e:2 ^ c=2 ^ d*2 ^ (c - d):=by rw[←Nat.pow_add];congr 1;omega
  rw[e,Nat.mul_div_mul_right _ _(Nat.two_pow_pos _)]
theorem Fp {c x:Nat}(hc:c=1074)(hx:isFin x=true)(hb:(val x).natAbs / 2 ^ c≤4611686018427387904):Go.Gv.Mf .i64 x=cond(jT x)(-(((val x).natAbs / 2 ^ c:Nat):Int))(((val x).natAbs / 2 ^ c:Nat):Int):=by
 have h1:=Y9 hc hx
 generalize(val x).natAbs / 2 ^ c=M at h1 hb ⊢
 unfold Go.Gv.Mf floatToIntVal
 have ht:(FloatKind.f64.decode x).toInt .zero=some(signed(jT x)M 0):=by
  show(double.read x).toInt .zero=_
  unfold Datum.toInt
  rw[h1]
 rw[ht]
 have hs:signed(jT x)M 0=cond(jT x)(-(M:Int))(M:Int):=by
  rw[o7,Nat.pow_zero,Nat.mul_one]
 have h3:IntKind.i64.min≤signed(jT x)M 0∧signed(jT x)M 0≤IntKind.i64.max:=by
  rw[hs,show IntKind.i64.min=-9223372036854775808 by decide,show IntKind.i64.max=9223372036854775807 by decide]
  cases jT x
  ·rw[cond_false];omega
  ·rw[cond_true];omega
 simp only[h3,and_self,if_true,Option.getD_some]
 exact hs
theorem xu {c x:Nat}(hc:c=1074)(hx:isFin x=true)(h0:0≤val x)(hb:(val x).natAbs / 2 ^ c≤4611686018427387904):Go.Gv.Mf .i64 x=(((val x).natAbs / 2 ^ c:Nat):Int):=by
 rw[Fp hc hx hb]
 cases hs:jT x
 ·rfl
 ·have e:val x=-(rv 52(rung x):Int):=by unfold val;rw[hs];rfl
  have z:(val x).natAbs=0:=by omega
  rw[z,Nat.zero_div];rfl
theorem aft {c x y:Nat}(hc:c=1074)(hx:isFin x=true)(hy:isFin y=true)(h0:0≤val x)(h:key x≤key y)(hb:(val y).natAbs / 2 ^ c≤4611686018427387904):Go.Gv.Mf .i64 x≤Go.Gv.Mf .i64 y:=by
 have hv:=oH.2 h
 have h1:(val x).natAbs / 2 ^ c≤(val y).natAbs / 2 ^ c:=Nat.div_le_div_right(by omega)
 rw[xu hc hx h0(by omega),xu hc hy(by omega)hb]
 omega
theorem VB.cut {c a j x:Nat}(h:VB a j x):(val x).natAbs / 2 ^ c≤a*2 ^ j / 2 ^ c:=Nat.div_le_div_right h.2
end Go.Ev
namespace Go.Proofs.YtefphimaggjihaaGreatDoor.Hs.So
open Go.Gv
open Go.Ev (cn bq dI bT fdiv d9 fI dK jO kL gN lK fabs VB key aL isFin val)
theorem Jk {c:Nat}(hc:c=1074) {m n:Int}(h:m≤n)(h1:m.natAbs≤2 ^ 60)(h2:n.natAbs≤2 ^ 60):key(gJ m)≤key(gJ n):=by
 have f1:=(Go.Ev.Qf hc(j:=60)(by decide)h1).1
 have f2:=(Go.Ev.Qf hc(j:=60)(by decide)h2).1
 unfold gJ
 refine Go.Ev.acO f1 f2(by decide +kernel)(by decide +kernel) ?_
 rw[(Go.Ev.AY hc m).1,(Go.Ev.AY hc n).1]
 exact Go.Ev.Em 1(Int.mul_le_mul_of_nonneg_right h(Int.natCast_nonneg _))
end Go.Proofs.YtefphimaggjihaaGreatDoor.Hs.So
namespace Go.Ev
open Ieee
theorem alQ(a:Nat) {g:Nat}(hg:0<g):2*(xV a g*g)≤2*a+g∧2*a≤2*(xV a g*g)+g:=by
 have hd:=Nat.div_add_mod a g
 have hm:=Nat.mod_lt a hg
 unfold xV
 generalize ha:a / g=q at *
 generalize hr:a % g=r at *
 rw[Nat.mul_comm g q]at hd
 cases hb:(decide(g<2*r)||(g==2*r&&q % 2==1))with
 |true =>
  have h2:g≤2*r:=by
   simp only[Bool.or_eq_true,decide_eq_true_eq,Bool.and_eq_true,beq_iff_eq]at hb
   omega
  have e:(q+true.toNat)*g=q*g+g:=by rw[Nat.add_mul];simp
  rw[e]
  generalize q*g=Q at *
  omega
 |false =>
  have h2:2*r≤g:=by
   simp only[Bool.or_eq_false_iff,decide_eq_false_iff_not]at hb
   omega
  have e:(q+false.toNat)*g=q*g:=by simp
  rw[e]
  generalize q*g=Q at *
  omega
theorem arq {a g:Nat}(hg:0<g):rv 52(rq 52 a g)=xV a(g*2 ^ ((a / g).log2 - 52))*2 ^ ((a / g).log2 - 52):=by
 unfold rq
 generalize hE:(a / g).log2 - 52=E
 have hG:0<g*2 ^ E:=Nat.mul_pos hg(Nat.two_pow_pos E)
 have hup:xV a(g*2 ^ E)≤2 ^ 53:=by
  refine Nat.le_trans(QI _ _) ?_
  rw[←Nat.div_div_eq_div_mul]
  have h1:a / g / 2 ^ E<2 ^ 53:=by
   rw[Nat.div_lt_iff_lt_mul(Nat.two_pow_pos E),←Nat.pow_add]
   by_cases h0:a / g=0
   ·rw[h0];exact Nat.two_pow_pos _
   ·exact(Nat.log2_lt h0).1(by omega)
  omega
 have hlo:E=0∨2 ^ 52≤xV a(g*2 ^ E):=by
  by_cases h:E=0
  ·exact Or.inl h
  ·refine Or.inr(Nat.le_trans ?_(QJ _ _))
   rw[←Nat.div_div_eq_div_mul,Nat.le_div_iff_mul_le(Nat.two_pow_pos E),←Nat.pow_add]
   have h0:a / g≠0:=fun h0=>by rw[h0]at hE;simp at hE;omega
   exact(Nat.le_log2 h0).1(by omega)
 have e52:(2:Nat) ^ 52=4503599627370496:=by decide
 have e53:(2:Nat) ^ 53=9007199254740992:=by decide
 generalize xV a(g*2 ^ E)=R at *
 rw[e52]at hlo ⊢
 rw[e53]at hup
 by_cases hR:R<4503599627370496
 ·have h0:E=0:=by omega
  subst h0
  rw[Nat.zero_mul,Nat.zero_add,afg hR];omega
 ·rw[Ar(by omega)]
  by_cases hS:R=9007199254740992
  ·subst hS
   rw[show(E*4503599627370496+9007199254740992) % 4503599627370496=0 by omega,show(E*4503599627370496+9007199254740992) / 4503599627370496 - 1=E+1 by omega,Nat.pow_succ]
   generalize 2 ^ E=P
   omega
  ·rw[show(E*4503599627370496+R) % 4503599627370496=R - 4503599627370496 by omega,show(E*4503599627370496+R) / 4503599627370496 - 1=E by omega,show 4503599627370496+(R - 4503599627370496)=R by omega]
theorem ars {a g b:Nat}(hg:0<g)(hb:53≤b)(ha:a≤2 ^ b*g):rv 52(rq 52 a g)*g≤a+2 ^ (b - 53)*g∧a≤rv 52(rq 52 a g)*g+2 ^ (b - 53)*g:=by
 rw[arq hg]
 generalize hE:(a / g).log2 - 52=E
 have hG:0<g*2 ^ E:=Nat.mul_pos hg(Nat.two_pow_pos E)
 obtain⟨h1,h2⟩:=alQ a hG
 have hle:2 ^ E≤2*2 ^ (b - 53):=by
  rw[←Nat.pow_succ']
  refine Nat.pow_le_pow_right(by decide) ?_
  by_cases h0:a / g=0
  ·rw[h0]at hE;simp at hE;omega
  ·have:a / g≤2 ^ b:=Nat.div_le_of_le_mul(by rw[Nat.mul_comm];exact ha)
   have h3:(a / g).log2<b+1:=(Nat.log2_lt h0).2(by rw[Nat.pow_succ];have:=Nat.two_pow_pos b;omega)
   omega
 have hg2:g*2 ^ E≤2*(2 ^ (b - 53)*g):=by
  rw[Nat.mul_comm g,←Nat.mul_assoc]
  exact Nat.mul_le_mul_right g hle
 have e:xV a(g*2 ^ E)*2 ^ E*g=xV a(g*2 ^ E)*(g*2 ^ E):=by rw[Nat.mul_assoc,Nat.mul_comm(2 ^ E)g]
 rw[e]
 generalize xV a(g*2 ^ E)*(g*2 ^ E)=Q at *
 generalize g*2 ^ E=G at *
 generalize 2 ^ (b - 53)*g=W at *
 omega
theorem Gb {z g b:Nat}{v:Int}(hz:key z=KR v g)(hf:isFin z=true)(hg:0<g)(hb:53≤b)(hv:v.natAbs≤2 ^ b*g):(val z*(g:Int) - v).natAbs≤2 ^ (b - 53)*g:=by
 have hlt:rung z<9218868437227405312:=y8 hf
 have hq:rq 52 v.natAbs g<9218868437227405312∨(KR v g).natAbs=9218868437227405312:=by
  by_cases h:rq 52 v.natAbs g<9218868437227405312
  ·exact Or.inl h
  ·refine Or.inr ?_
   unfold KR
   rw[Nat.min_eq_right(by omega)]
   cases decide(v<0)
   ·rw[cond_false,Int.natAbs_natCast]
   ·rw[cond_true,Int.natAbs_neg,Int.natAbs_natCast]
 have hrz:rung z=rq 52 v.natAbs g:=by
  rcases hq with h |h
  ·rw[←kQ,hz,agc h]
  ·rw[←kQ,hz,h]at hlt;omega
 obtain⟨h1,h2⟩:=ars hg hb hv
 rw[←hrz,←gF]at h1 h2
 have hpos:0≤v→0≤val z:=fun h=>by
  have:=(IC(v:=v)(g:=g)).1 h
  rw[←hz]at this
  have hn:¬val z<0:=fun hc=>by have:=qH.1 hc;omega
  omega
 have hneg:v≤0→val z≤0:=fun h=>by
  have:=(IC(v:=v)(g:=g)).2 h hg
  rw[←hz]at this
  have hn:¬ 0<val z:=fun hc=>by have:=Am.1 hc;omega
  omega
 generalize 2 ^ (b - 53)*g=W at *
 rcases Int.le_total 0 v with h |h
 ·have h3:=hpos h
  have e:(((val z).natAbs*g:Nat):Int)=val z*(g:Int):=by rw[Int.natCast_mul,show(((val z).natAbs:Nat):Int)=val z by omega]
  generalize(val z).natAbs*g=Q at *
  omega
 ·have h3:=hneg h
  have e:(((val z).natAbs*g:Nat):Int)=-(val z*(g:Int)):=by rw[Int.natCast_mul,show(((val z).natAbs:Nat):Int)=-val z by omega,Int.neg_mul]
  generalize(val z).natAbs*g=Q at *
  omega
open Go.Proofs.YtefphimaggjihaaGreatDoor.Hs (gJ)
open Go.Proofs.YtefphimaggjihaaGreatDoor.Pi (kY)
theorem mul_lt {x y:Nat}(hx:isFin x=true)(hy:isFin y=true):bT x y<18446744073709551616:=by
 obtain⟨m,i,hrx,hi,_,hvx⟩:=iQ hx
 obtain⟨n,j,hry,hj,_,hvy⟩:=iQ hy
 unfold bT Format.mul
 rw[hrx,hry]
 simp only[Datum.product,Option.map_some,Option.getD_some,Format.write]
 rw[Ka _ _((i+1074).toNat+(j+1074).toNat)1074 _(by omega),PS]
 have hr:=Nat.min_le_right(rq 52(m*n*2 ^ ((i+1074).toNat+(j+1074).toNat))(2 ^ 1074))9218868437227405312
 generalize min(rq 52(m*n*2 ^ ((i+1074).toNat+(j+1074).toNat))(2 ^ 1074))9218868437227405312=r at hr ⊢
 unfold Format.word
 rw[Ej]
 by_cases hs:jT x=jT y
 ·simp[hs];omega
 ·simp[hs];omega
section
variable {c:Nat}
theorem Dn(hc:c=1074):2 ^ c=8796093022208*2 ^ (c - 43)∧2 ^ (c+10 - 53)=2 ^ (c - 43)∧2 ^ (c+10)=9007199254740992*2 ^ (c - 43)∧2 ^ (c+21)=18446744073709551616*2 ^ (c - 43)∧2 ^ (c+21 - 53)=2048*2 ^ (c - 43)∧2 ^ (c - 1)=4398046511104*2 ^ (c - 43):=by
 have f:∀a b:Nat,a=b+(c - 43)→2 ^ a=2 ^ b*2 ^ (c - 43):=fun a b h=>by rw[h,Nat.pow_add]
 refine⟨f c 43(by omega),by rw[show c+10 - 53=c - 43 by omega],f(c+10)53(by omega),f(c+21)64(by omega),f(c+21 - 53)11(by omega),f(c - 1)42(by omega)⟩
theorem kr3(v:Int) {P:Nat}(hP:0<P):KR(v*((1000*P:Nat):Int))P=KR(v*1000)1:=by
 have:=agL(v*1000)1 hP
 rw[Nat.one_mul]at this
 rw[←this,Int.natCast_mul,←Int.mul_assoc]
 rfl
def qV(n:Int):Nat:=bT(gJ n)4652007308841189376
theorem tV(hc:c=1074) {n:Int}(h:n.natAbs≤1000000):key(gJ n)=KR(n*((2 ^ c:Nat):Int))1000∧isFin(gJ n)=true:=by
 have hp:=Nat.two_pow_pos c
 have hw:=(AY hc n)
 have hW:Wh c(cn(FloatKind.f64.nearest n))n:=aaJ hc hw.1(by omega)
 have ev:val 4652007308841189376=((1000*2 ^ c:Nat):Int):=by subst hc;decide +kernel
 have hk:=(IE hc hW.fin(show isFin 4652007308841189376=true by decide +kernel)(by rw[ev];omega)).1
 refine⟨?_,(Go.Proofs.YtefphimaggjihaaGreatDoor.Hs.So.XE hc(j:=12)(by omega)(show n.natAbs≤2 ^ 21 by omega)).1⟩
 have es:sg((1000*2 ^ c:Nat):Int)=1:=by unfold sg;rw[decide_eq_false(by omega)];rfl
 rw[hW.val,ev,es,Int.mul_one,Int.natAbs_natCast,agL _ _ hp]at hk
 exact hk
theorem VJ(hc:c=1074) {n:Int}(h:n.natAbs≤1000000):isFin(qV n)=true∧(val(qV n) - n*((2 ^ c:Nat):Int)).natAbs≤8192*2 ^ (c - 43):=by
 obtain⟨hk,hf⟩:=tV hc h
 obtain⟨p0,p1,p2,p3,p4,_⟩:=Dn hc
 have hq:=Nat.two_pow_pos(c - 43)
 have e1:=Gb hk hf(by decide)(b:=c+10)(by omega)(by
  rw[Int.natAbs_mul,Int.natAbs_natCast,p0,p2]
  generalize 2 ^ (c - 43)=Q at hq ⊢
  calc n.natAbs*(8796093022208*Q)≤1000000*(8796093022208*Q):=Nat.mul_le_mul_right _ h
   _≤9007199254740992*Q*1000:=by omega)
 rw[p1,p0]at e1
 have ev:val 4652007308841189376=((1000*2 ^ c:Nat):Int):=by subst hc;decide +kernel
 have hfK:isFin 4652007308841189376=true:=by decide +kernel
 have hk2:=(OJ hc hf hfK).1
 have hp:=Nat.two_pow_pos c
 have hk3:key(qV n)=KR(val(gJ n)*1000)1:=by
  unfold qV
  rw[hk2,ev]
  exact kr3 _ hp
 have hv:(val(gJ n)*1000).natAbs≤2 ^ (c+21)*1:=by
  have hn:(n*((8796093022208*2 ^ (c - 43):Nat):Int)).natAbs≤1000000*(8796093022208*2 ^ (c - 43)):=by rw[Int.natAbs_mul,Int.natAbs_natCast];exact Nat.mul_le_mul_right _ h
  rw[p3]
  generalize n*((8796093022208*2 ^ (c - 43):Nat):Int)=z at *
  generalize 2 ^ (c - 43)=Q at *
  omega
 have hF:isFin(qV n)=true:=by
  have hb:Bd(c+21)(qV n):=Zp hk3(by decide)hv(by omega)
  exact hb.fin(by omega)
 have e2:=Gb hk3 hF(by decide)(b:=c+21)(by omega)hv
 rw[p4]at e2
 refine⟨hF,?_⟩
 rw[p0]
 generalize n*((8796093022208*2 ^ (c - 43):Nat):Int)=z at *
 generalize 2 ^ (c - 43)=Q at *
 omega
theorem afu(hc:c=1074) {n:Nat}(h:n≤1000000):Go.Gv.Mf .i64(bq(qV n)4602678819172646912)=(n:Int)∧isFin(bq(qV n)4602678819172646912)=true:=by
 obtain⟨hf,hy⟩:=VJ hc(n:=(n:Int))(by simpa using h)
 obtain⟨p0,p1,p2,p3,p4,p5⟩:=Dn hc
 have hq:=Nat.two_pow_pos(c - 43)
 have ev:val 4602678819172646912=((2 ^ (c - 1):Nat):Int):=by subst hc;decide +kernel
 have hk:=(xU hf(show isFin 4602678819172646912=true by decide +kernel)).1
 rw[ev,p5]at hk
 have hn:(n:Int)*((2 ^ c:Nat):Int)=((n*(8796093022208*2 ^ (c - 43)):Nat):Int):=by rw[p0,Int.natCast_mul n]
 have hn2:n*(8796093022208*2 ^ (c - 43))≤1000000*(8796093022208*2 ^ (c - 43)):=Nat.mul_le_mul_right _ h
 rw[hn]at hy
 have hv:(val(qV n)+((4398046511104*2 ^ (c - 43):Nat):Int)).natAbs≤2 ^ (c+21)*1:=by
  rw[p3]
  generalize n*(8796093022208*2 ^ (c - 43))=z at *
  generalize 2 ^ (c - 43)=Q at *
  omega
 have hF:isFin(bq(qV n)4602678819172646912)=true:=by
  have hb:Bd(c+21)(bq(qV n)4602678819172646912):=Zp hk(by decide)hv(by omega)
  exact hb.fin(by omega)
 have e2:=Gb hk hF(by decide)(b:=c+21)(by omega)hv
 rw[p4]at e2
 have hlo:n*(8796093022208*2 ^ (c - 43))≤(val(bq(qV n)4602678819172646912)).natAbs∧(val(bq(qV n)4602678819172646912)).natAbs<(n+1)*(8796093022208*2 ^ (c - 43))∧0≤val(bq(qV n)4602678819172646912):=by
  rw[Nat.succ_mul n]
  generalize n*(8796093022208*2 ^ (c - 43))=z at *
  generalize 2 ^ (c - 43)=Q at *
  omega
 have hd:(val(bq(qV n)4602678819172646912)).natAbs / 2 ^ c=n:=by
  rw[p0]
  exact Nat.div_eq_of_lt_le hlo.1 hlo.2.1
 rw[xu hc hF hlo.2.2(by rw[hd];omega),hd]
 exact⟨rfl,hF⟩
end
theorem aed {E K A H m n t:Nat}(hKA:K*A=4503599627370496)(hH:A=2*H)(ht:t<H)(h1:n*A≤4503599627370496+m+t)(h2:4503599627370496+m≤n*A+t)(hA:0<A):(E*4503599627370496+m+H) / A*A=E*4503599627370496+(n*A - 4503599627370496)∧4503599627370496≤n*A:=by
 have hn:K≤n:=by
  apply Nat.le_of_not_lt
  intro hc
  have h3:(n+1)*A≤K*A:=Nat.mul_le_mul_right _ hc
  rw[Nat.succ_mul n]at h3
  omega
 have hKn:K*A≤n*A:=Nat.mul_le_mul_right _ hn
 have hq:(E*K+(n - K))*A=E*4503599627370496+(n*A - 4503599627370496):=by rw[Nat.add_mul,Nat.mul_assoc,hKA,Nat.sub_mul,hKA]
 have hd:(E*4503599627370496+m+H) / A=E*K+(n - K):=by
  refine Nat.div_eq_of_lt_le ?_ ?_
  ·rw[hq];omega
  ·rw[Nat.succ_mul(E*K+(n - K)),hq];omega
 rw[hd,hq]
 exact⟨rfl,by omega⟩
theorem am1 {E g:Nat}(hE:1≤E)(hg:g≤4503599627370496):rv 52(E*4503599627370496+g)=(4503599627370496+g)*2 ^ (E - 1):=by
 by_cases h:g=4503599627370496
 ·subst h
  rw[show E*4503599627370496+4503599627370496=(E+1)*4503599627370496 by omega,Ar(by omega),Nat.mul_mod_left,Nat.mul_div_cancel _(by decide),show E+1 - 1=(E - 1)+1 by omega,Nat.pow_succ]
  generalize 2 ^ (E - 1)=D
  omega
 ·rw[Ar(by omega),show(E*4503599627370496+g) % 4503599627370496=g by omega,show(E*4503599627370496+g) / 4503599627370496=E by omega]
section
variable {c:Nat}
theorem RF(hc:c=1074) {n:Nat}(h0:1≤n)(h:n≤1000000):qV n<9223372036854775808∧qV n / 2 ^ 52 % 2048<1055∧isFin(kY(qV n))=true∧Go.Gv.Mf .i64(kY(qV n))=(n:Int)∧kY(qV n)<9223372036854775808:=by
 obtain⟨hf,hy⟩:=VJ hc(n:=(n:Int))(by simpa using h)
 obtain⟨p0,_,_,_,_,_⟩:=Dn hc
 have hq:=Nat.two_pow_pos(c - 43)
 have hlt:=mul_lt(tV hc(n:=(n:Int))(by simpa using h)).2(show isFin 4652007308841189376=true by decide +kernel)
 have hlt:qV n<18446744073709551616:=hlt
 have hn:(n:Int)*((2 ^ c:Nat):Int)=((n*2 ^ c:Nat):Int):=by rw[Int.natCast_mul n]
 have hnP:2 ^ c≤n*2 ^ c:=Nat.le_mul_of_pos_left _ h0
 have aAR:n*2 ^ c≤1000000*2 ^ c:=Nat.mul_le_mul_right _ h
 rw[hn]at hy
 have hpos:0<val(qV n):=by
  rw[p0]at hnP hy
  generalize n*(8796093022208*2 ^ (c - 43))=z at *
  generalize 2 ^ (c - 43)=Q at *
  omega
 have hsg:jT(qV n)=false:=by
  cases hs:jT(qV n)
  ·rfl
  ·unfold val at hpos;rw[hs]at hpos;simp at hpos;omega
 have hw:qV n<9223372036854775808:=by
  unfold jT at hsg
  have:qV n / 9223372036854775808 % 2≠1:=by simpa using hsg
  omega
 have hr:rung(qV n)=qV n:=by unfold rung;omega
 have hval:val(qV n)=((rv 52(qV n):Nat):Int):=by unfold val;rw[hsg,hr];rfl
 rw[hval]at hy
 generalize qV n=y at hf hy hlt hsg hw hr hval ⊢
 have hb1:n*2 ^ c≤rv 52 y+8192*2 ^ (c - 43):=by omega
 have hb2:rv 52 y≤n*2 ^ c+8192*2 ^ (c - 43):=by omega
 have hE0:1022*4503599627370496≤y:=by
  apply Nat.le_of_not_lt
  intro hc'
  have h1:=BL 52 hc'
  have h2:rv 52(1022*4503599627370496)=4398046511104*2 ^ (c - 43):=by subst hc;decide +kernel
  rw[p0]at hnP hb1
  generalize n*(8796093022208*2 ^ (c - 43))=z at *
  generalize 2 ^ (c - 43)=Q at *
  omega
 have hE1:y<1044*4503599627370496:=by
  apply Nat.lt_of_not_le
  intro hc'
  have h1:=Zr hc'
  have h2:rv 52(1044*4503599627370496)=18446744073709551616*2 ^ (c - 43):=by subst hc;decide +kernel
  rw[p0]at aAR hb2
  generalize n*(8796093022208*2 ^ (c - 43))=z at *
  generalize 2 ^ (c - 43)=Q at *
  omega
 have e52:(2:Nat) ^ 52=4503599627370496:=by decide
 obtain⟨E,m,hym,hm⟩:∃E m,y=E*4503599627370496+m∧m<4503599627370496:=⟨y / 4503599627370496,y % 4503599627370496,by omega,by omega⟩
 have hEd:y / 4503599627370496=E:=by omega
 have hEr:1022≤E∧E≤1043:=by omega
 have hEm:y / 2 ^ 52 % 2048=E:=by rw[e52,hEd];omega
 refine⟨hw,by rw[hEm];omega,?_⟩
 by_cases hc1:E=1022
 ·have hn1:n=1:=by
   have h1:y<1023*4503599627370496:=by omega
   have h2:=BL 52 h1
   have h3:rv 52(1023*4503599627370496)=8796093022208*2 ^ (c - 43):=by subst hc;decide +kernel
   apply Nat.le_antisymm _ h0
   apply Nat.le_of_not_lt
   intro hc2
   have h4:2*2 ^ c≤n*2 ^ c:=Nat.mul_le_mul_right _ hc2
   rw[p0]at h4 hb1
   generalize n*(8796093022208*2 ^ (c - 43))=z at *
   generalize 2 ^ (c - 43)=Q at *
   omega
  have hR:kY y=4607182418800017408:=by
   unfold kY
   rw[hEm,hc1,if_pos(by omega),if_pos rfl,show y / 9223372036854775808=0 by omega]
  rw[hR,hn1]
  decide +kernel
 ·obtain⟨k,hk,hk2⟩:∃k,E=1023+k∧k≤20:=⟨E - 1023,by omega,by omega⟩
  have hA:2 ^ (1075 - E)=2*2 ^ (51 - k):=by rw[show 1075 - E=(51 - k)+1 by omega,Nat.pow_succ,Nat.mul_comm]
  have hAk:2 ^ k*2 ^ (1075 - E)=4503599627370496:=by rw[←Nat.pow_add,show k+(1075 - E)=52 by omega]
  have hPD:2 ^ c=2 ^ (1075 - E)*2 ^ (E - 1):=by rw[←Nat.pow_add,show 1075 - E+(E - 1)=c by omega]
  have hQD:8192*2 ^ (c - 43)=2 ^ (22 - k)*2 ^ (E - 1):=by rw[show(8192:Nat)=2 ^ 13 from rfl,←Nat.pow_add,←Nat.pow_add,show 13+(c - 43)=22 - k+(E - 1)by omega]
  have ht:2 ^ (22 - k)<2 ^ (51 - k):=Nat.pow_lt_pow_right(by decide)(by omega)
  have hD:=Nat.two_pow_pos(E - 1)
  have hrv:rv 52 y=(4503599627370496+m)*2 ^ (E - 1):=by rw[hym];exact am1(by omega)(by omega)
  rw[hrv,hPD,hQD,←Nat.mul_assoc,←Nat.add_mul]at hb1
  rw[hrv,hPD,hQD,←Nat.mul_assoc,←Nat.add_mul]at hb2
  have g1:=Nat.le_of_mul_le_mul_right hb1 hD
  have g2:=Nat.le_of_mul_le_mul_right hb2 hD
  obtain⟨r1,r2⟩:=aed(E:=E)hAk hA ht g1 g2(Nat.two_pow_pos _)
  have hR:kY y=E*4503599627370496+(n*2 ^ (1075 - E) - 4503599627370496):=by
   unfold kY
   rw[hEm,if_neg(by omega),show 1074 - E=51 - k by omega,hym]
   exact r1
  have hsm:2 ^ (22 - k)≤4194304:=Nat.pow_le_pow_right(n:=2)(by decide)(show 22 - k≤22 by omega)
  have aAS:n*2 ^ (1075 - E) - 4503599627370496≤4503599627370496:=by
   obtain⟨j,hj⟩:∃j,n*2 ^ (1075 - E)≤(2 ^ k*2+j)*2 ^ (1075 - E)∧j=0:=by
    refine⟨0,?_,rfl⟩
    refine Nat.mul_le_mul_right _ ?_
    apply Nat.le_of_not_lt
    intro hc3
    have h5:(2 ^ k*2+1)*2 ^ (1075 - E)≤n*2 ^ (1075 - E):=Nat.mul_le_mul_right _(by omega)
    rw[Nat.add_mul,Nat.mul_right_comm,hAk,Nat.one_mul,hA]at h5
    rw[hA]at g1
    omega
   rw[hj.2,Nat.add_zero,Nat.mul_right_comm,hAk]at hj
   omega
  have hRv:rv 52(kY y)=n*2 ^ c:=by
   have e3:4503599627370496+(n*2 ^ (1075 - E) - 4503599627370496)=n*2 ^ (1075 - E):=by omega
   rw[hR,am1(by omega)aAS,hPD,←Nat.mul_assoc,e3]
  have aAT:kY y<9223372036854775808:=by rw[hR];omega
  have hRr:rung(kY y)=kY y:=by unfold rung;omega
  have hRs:jT(kY y)=false:=by
   unfold jT
   rw[show kY y / 9223372036854775808=0 by omega]
   rfl
  have hRf:isFin(kY y)=true:=by
   unfold isFin
   rw[hRr,hR]
   exact Nat.ble_eq_true_of_le(by omega)
  have am2:val(kY y)=((n*2 ^ c:Nat):Int):=by unfold val;rw[hRs,hRr,hRv];rfl
  have hdv:(val(kY y)).natAbs / 2 ^ c=n:=by rw[am2,Int.natAbs_natCast,Nat.mul_div_cancel _(Nat.two_pow_pos c)]
  refine⟨hRf,?_,aAT⟩
  rw[xu hc hRf(by rw[am2];omega)(by rw[hdv];omega),hdv]
end
end Go.Ev
namespace Go.Proofs.YtefphimaggjihaaGreatDoor.Pi
open Go.Shelf Go.RowKit Go.Gv
open Go.Ev (cn bq dI bT fdiv fI dK jO kL gN lK aL key val isFin)
open Hs (gJ yU)
def Xy(rf:Nat→Nat):List AV→AV
 | [.f w]=>.f(rf w)
 |_=>.any
def gBy(bf:Int→Bool):List AV→AV
 | [.x(.int _ n)]=>bA(bf n)
 |_=>.any
section
variable(x:Nat)(rf:Nat→Nat)(bf:Int→Bool)(n:Int)(it:Int→List UInt8)(s t:ByteArray)
def yX(x:Nat):Nat:=bT x 4652007308841189376
def nX:Int:=Mf .i64(rf(yX x))
theorem avB:ev Tryz.prog [] []aM Tryz.f172 [iA n]ret=some(Out.of(bA(cond(decide(n<-1000000))true(decide(n>1000000))))):=by kernel_rfl
theorem avC:ev Tryz.prog [] [kS Tryz.prog 171(Xy rf),kS Tryz.prog 172(gBy bf)]aM Tryz.f153 [.f x]ret =
 gate(aj Tryz.prog 171 [.f(yX x)](.f(rf(yX x))))(cond(Cr .i64(rf(yX x))||false)(gate(aj Tryz.prog 172 [iA(nX x rf)](bA(bf(nX x rf))))
  (cond(cond(bf(nX x rf))true(!(dK(gJ(nX x rf))x)))(some(Out.of(.aN [iA 0,bA false])))(some(Out.of(.aN [iA(nX x rf),bA true])))))none):=by kernel_rfl
theorem avD(k:Int):ev Tryz.prog [] [kIt]aM Tryz.f130 [iA k]ret=gate(J7 k)(cond(mq⟨#[115]⟩(lB(Lib.itoa k))||false)(some(Out.of(zA(⟨#[115]⟩++lB(Lib.itoa k)))))none):=by kernel_rfl
end
section
variable(n:Int)(tf:ByteArray→ByteArray)
def gTr(tf:ByteArray→ByteArray):List AV→AV
 | [.x(.string s),_]=>zA(tf s)
 |_=>.any
def dtS:ByteArray:=⟨#[46]⟩
def dQ(a:Int):ByteArray:=lB(Lib.itoa(aI(a.tdiv 1000)))
def dR(a:Int):ByteArray:=lB(Lib.itoa(aI(1000+a.tmod 1000)))
def dSl(a:Int):ByteArray:=(dR a).extract 1(dR a).size
def dmR(sg:ByteArray)(a:Int):Option Out:=gate(J7(aI(a.tdiv 1000)))(cond(mq sg(dQ a)||false)(cond(a.tmod 1000==0)(some(Out.of(zA(sg++dQ a))))
 (gate(J7(aI(1000+a.tmod 1000)))(cond(Bu(some 1)none none(dR a).size||false)(cond(mq(sg++dQ a)dtS||false)(gate(aj Tryz.prog 156 [zA(dSl a),zA⟨#[48]⟩](zA(tf(dSl a))))(cond(mq((sg++dQ a)++dtS)(tf(dSl a))||false)(some(Out.of(zA(((sg++dQ a)++dtS)++tf(dSl a)))))none))none)none)))none)
theorem avE:ev Tryz.prog [] [kIt,kS Tryz.prog 156(gTr tf)]aM Tryz.f131 [iA n]ret=cond(decide(n<0))(dmR tf⟨#[45]⟩(aI(0 - n)))(dmR tf⟨#[]⟩n):=by kernel_rfl
end
theorem IJ {n:Int}(h0:-9223372036854775808≤n)(h1:n≤9223372036854775807):J7 n:=ab4 h0 h1
theorem lu {n:Int}(h0:0≤n)(h1:n<100000000):Lib.itoa n≠[]∧(Lib.itoa n).length≤8:=by
 obtain⟨k,rfl⟩:=Int.eq_ofNat_of_zero_le h0
 unfold Lib.itoa
 rw[if_neg(by omega),Int.toNat_natCast]
 have key:∀(d k:Nat),k<10 ^ (d+1)→Lib.decDigits k≠[]∧(Lib.decDigits k).length≤d+1:=fun d=>by
  induction d with
  |zero=>intro k hk;rw[Lib.decDigits_one(by omega)];simp
  |succ d ih =>
   intro k hk
   by_cases h:k<10
   ·rw[Lib.decDigits_one h];simp
   ·rw[Lib.decDigits,dif_neg h]
    have:=ih(k / 10)(by rw[Nat.pow_succ]at hk;omega)
    simp only[ne_eq,List.append_eq_nil_iff,List.length_append]
    exact⟨fun hc=>this.1 hc.1,by simp;omega⟩
 exact key 7 k(by omega)
theorem kW {a b:ByteArray}(h:a.size+b.size≤1000000000):mq a b=true:=by
 rw[aal]
 exact decide_eq_true(by show((a.size+b.size:Nat):Int)≤9223372036854775807;omega)
theorem gZ(a b:List UInt8):lB a++lB b=lB(a++b):=by
 apply ByteArray.ext
 simp[lB]
theorem IK {k:Int}(h0:0≤k)(h1:k<100000000):Xn oM k:=by
 have hi:=lu h0 h1
 refine aP aB(ak aD av)Tryz.ayD(by kernel_rfl)(by kernel_rfl)aA rfl((avD k).trans ?_)
 have e:(⟨#[115]⟩:ByteArray)=lB [115]:=rfl
 rw[ah(IJ(by omega)(by omega)),e,kW(by rw[aY,aY];simp;omega),gZ]
 rfl
def dcA(a:Nat):List UInt8:=Lib.itoa((a / 1000:Nat):Int)++(if a % 1000=0 then []else 46::Lib.trimRightB((Lib.itoa((1000+a % 1000:Nat):Int)).drop 1)48)
def cK(n:Int):List UInt8:=(if n<0 then [45]else [])++dcA n.natAbs
theorem TJ(l:List UInt8)(b:UInt8):(Lib.trimRightB l b).length≤l.length:=by
 unfold Lib.trimRightB
 rw[List.length_reverse]
 exact Nat.le_trans(List.dropWhile_sublist _).length_le(by rw[List.length_reverse];exact Nat.le_refl _)
def trF(s:ByteArray):ByteArray:=lB(Lib.trimRightB(bL s)48)
theorem aph(l:List UInt8):trF(lB l)=lB(Lib.trimRightB l 48):=by unfold trF;rw[jr]
theorem TK {sg:List UInt8}{a:Nat}(hs:sg.length≤1)(ha:a≤10000000):dmR trF(lB sg)(a:Nat)=some(Out.of(zA(lB(sg++dcA a)))):=by
 have e1:aI(((a:Nat):Int).tdiv 1000)=((a / 1000:Nat):Int):=by rw[Int.tdiv_eq_ediv_of_nonneg(by omega),aO(by omega)(by omega)];omega
 have e2:((a:Nat):Int).tmod 1000=((a % 1000:Nat):Int):=by rw[Int.tmod_eq_emod_of_nonneg(by omega)];omega
 have e3:aI(1000+((a % 1000:Nat):Int))=((1000+a % 1000:Nat):Int):=by rw[aO(by omega)(by omega)];omega
 have i1:=lu(n:=((a / 1000:Nat):Int))(by omega)(by omega)
 have i2:=lu(n:=((1000+a % 1000:Nat):Int))(by omega)(by omega)
 have l1:(lB sg++lB(Lib.itoa((a / 1000:Nat):Int))).size≤20:=by rw[gZ,aY,List.length_append];omega
 unfold dmR dSl dQ dR
 rw[e1,e2,e3,ah(IJ(by omega)(by omega)),kW(by rw[aY,aY];omega)]
 unfold dcA
 by_cases h0:a % 1000=0
 ·rw[h0,if_pos rfl,List.append_nil,gZ]
  rfl
 ·have hx:(lB(Lib.itoa((1000+a % 1000:Nat):Int))).extract 1(lB(Lib.itoa((1000+a % 1000:Nat):Int))).size=lB((Lib.itoa((1000+a % 1000:Nat):Int)).drop 1):=by
   apply apj
   rw[oJ,jr,jr,aY,List.take_length]
  have hsb:Bu(some 1)none none(lB(Lib.itoa((1000+a % 1000:Nat):Int))).size=true:=by
   unfold Bu
   have:1≤(Lib.itoa((1000+a % 1000:Nat):Int)).length:=List.length_pos_iff.2 i2.1
   rw[aY]
   generalize(Lib.itoa((1000+a % 1000:Nat):Int)).length=z at this ⊢
   show(decide((0:Int)≤1)&&(decide((1:Int)≤((z:Nat):Int))&&(decide(((z:Nat):Int)≤((z:Nat):Int))&&decide(((z:Nat):Int)≤((z:Nat):Int)))))=true
   rw[decide_eq_true(show(1:Int)≤((z:Nat):Int)by omega)]
   simp
  have ht:=TJ((Lib.itoa((1000+a % 1000:Nat):Int)).drop 1)48
  have hd:((Lib.itoa((1000+a % 1000:Nat):Int)).drop 1).length≤8:=by rw[List.length_drop];omega
  have hT:aj Tryz.prog 156 [zA(lB((Lib.itoa((1000+a % 1000:Nat):Int)).drop 1)),zA⟨#[48]⟩](zA(trF(lB((Lib.itoa((1000+a % 1000:Nat):Int)).drop 1)))):=Xz(lB((Lib.itoa((1000+a % 1000:Nat):Int)).drop 1))(by rw[aY];omega)
  have edt:dtS=lB [46]:=rfl
  rw[beq_false_of_ne(by omega),ah(IJ(by omega)(by omega)),hsb,hx,ah hT,if_neg h0,edt,kW(by have:(lB [46]).size=1:=rfl;omega),gZ,gZ,aph,kW(by rw[aY,aY,List.length_append,List.length_append];have:([46]:List UInt8).length=1:=rfl;omega),gZ]
  simp
theorem P6 {n:Int}(h:n.natAbs≤10000000):FDc cK n:=by
 refine aP aB(ak aD(ak aD av))Tryz.ayE(by kernel_rfl)(by kernel_rfl)aA rfl((avE n trF).trans ?_)
 unfold cK
 by_cases h0:n<0
 ·have e:aI(0 - n)=((n.natAbs:Nat):Int):=by rw[aO(by omega)(by omega)];omega
  have es:(⟨#[45]⟩:ByteArray)=lB [45]:=rfl
  rw[decide_eq_true h0,if_pos h0,e,es,cond_true]
  exact TK(by simp)h
 ·have e:n=((n.natAbs:Nat):Int):=by omega
  have es:(⟨#[]⟩:ByteArray)=lB []:=rfl
  rw[decide_eq_false h0,if_neg h0,es,cond_false]
  conv=>lhs;rw[e]
  exact TK(by simp)h
theorem zk(n:Int)(h:n.natAbs≤10000000):cK n≠[]∧(cK n).length≤20:=by
 have i1:=lu(n:=((n.natAbs / 1000:Nat):Int))(by omega)(by omega)
 have i2:=lu(n:=((1000+n.natAbs % 1000:Nat):Int))(by omega)(by omega)
 have ht:=TJ((Lib.itoa((1000+n.natAbs % 1000:Nat):Int)).drop 1)48
 rw[List.length_drop]at ht
 unfold cK dcA
 constructor
 ·intro hc
  simp only[List.append_eq_nil_iff]at hc
  exact i1.1 hc.2.1
 ·have h1:(if n<0 then([45]:List UInt8)else []).length≤1:=by split<;>simp
  have h2:(if n.natAbs % 1000=0 then([]:List UInt8)else 46::Lib.trimRightB((Lib.itoa((1000+n.natAbs % 1000:Nat):Int)).drop 1)48).length≤9:=by
   split
   ·simp
   ·rw[List.length_cons];omega
  rw[List.length_append,List.length_append]
  omega
end Go.Proofs.YtefphimaggjihaaGreatDoor.Pi
namespace Go.Ev
open Ieee
open Go.Proofs.YtefphimaggjihaaGreatDoor.Hs (gJ)
open Go.Proofs.YtefphimaggjihaaGreatDoor.Pi (kY)
theorem Zo {w:Nat}(hw:w<9223372036854775808)(hE:w / 2 ^ 52 % 2048<1075):kY(9223372036854775808+w)=9223372036854775808+kY w:=by
 have e52:(2:Nat) ^ 52=4503599627370496:=by decide
 have e1:(9223372036854775808+w) / 2 ^ 52 % 2048=w / 2 ^ 52 % 2048:=by rw[e52];omega
 unfold kY
 rw[e1,show(9223372036854775808+w) / 9223372036854775808=1 by omega,show w / 9223372036854775808=0 by omega]
 by_cases h1:w / 2 ^ 52 % 2048<1023
 ·rw[if_pos h1,if_pos h1]
  split<;>omega
 ·rw[if_neg h1,if_neg h1]
  generalize w / 2 ^ 52 % 2048=E at *
  have hB:9223372036854775808=2 ^ (1075 - E)*2 ^ (E - 1012):=by rw[←Nat.pow_add,show 1075 - E+(E - 1012)=63 by omega]
  have hA:=Nat.two_pow_pos(1075 - E)
  rw[Nat.add_assoc]
  conv=>lhs;rw[hB]
  rw[Nat.mul_add_div hA,Nat.add_mul,Nat.mul_comm(2 ^ (E - 1012)),←hB]
theorem RD {w:Nat}(hw:w<18446744073709551616)(hr:rung w≤1053*4503599627370496):rung(kY w)≤1054*4503599627370496∧kY w<18446744073709551616:=by
 have e52:(2:Nat) ^ 52=4503599627370496:=by decide
 have base:∀{v:Nat},v<9223372036854775808→v≤1053*4503599627370496→kY v≤1054*4503599627370496:=fun {v} hv hv2=>by
  unfold kY
  rw[show v / 9223372036854775808=0 by omega]
  have hE:v / 2 ^ 52 % 2048≤1053:=by rw[e52];omega
  by_cases h1:v / 2 ^ 52 % 2048<1023
  ·rw[if_pos h1]
   clear e52
   generalize(v / 2 ^ 52 % 2048:Nat)=E at *
   rw[Nat.zero_mul,Nat.zero_add]
   have hu:∀{p:Prop} [Decidable p],(if p then 4607182418800017408 else 0)≤4607182418800017408:=fun {p} _=>by
    by_cases hp:p
    ·exact Nat.le_of_eq(if_pos hp)
    ·exact Nat.le_trans(Nat.le_of_eq(if_neg hp))(Nat.zero_le _)
   exact Nat.le_trans hu(by decide)
  ·rw[if_neg h1]
   have h3:=Nat.div_mul_le_self(v+2 ^ (1074 - v / 2 ^ 52 % 2048))(2 ^ (1075 - v / 2 ^ 52 % 2048))
   have h4:2 ^ (1074 - v / 2 ^ 52 % 2048)≤2 ^ 51:=Nat.pow_le_pow_right(by decide)(by omega)
   have e51:(2:Nat) ^ 51=2251799813685248:=by decide
   omega
 unfold rung at hr
 by_cases h:w<9223372036854775808
 ·have:=base h(by omega)
  unfold rung
  omega
 ·obtain⟨v,rfl⟩:∃v,w=9223372036854775808+v:=⟨w - 9223372036854775808,by omega⟩
  have hv:v<9223372036854775808:=by omega
  have:=base hv(by omega)
  rw[Zo hv(by rw[e52];omega)]
  unfold rung
  omega
section
variable {c:Nat}
structure cB(x:Nat):Prop where
 fin:isFin x=true
 le:(val x).natAbs≤1000000*2 ^ 1074
theorem BK(hc:c=1074) {x:Nat}(h:cB x):isFin(bT x 4652007308841189376)=true∧rung(bT x 4652007308841189376)≤1053*4503599627370496∧bT x 4652007308841189376<18446744073709551616∧key(bT x 4652007308841189376)=KR(val x*1000)1:=by
 have hfK:isFin 4652007308841189376=true:=by decide +kernel
 have ev:val 4652007308841189376=((1000*2 ^ c:Nat):Int):=by subst hc;decide +kernel
 have hp:=Nat.two_pow_pos c
 have hk:key(bT x 4652007308841189376)=KR(val x*1000)1:=by rw[(OJ hc h.fin hfK).1,ev];exact kr3 _ hp
 have hle:(val x).natAbs≤1000000*2 ^ c:=by rw[hc];exact h.le
 have e30:2 ^ (c+30)=1073741824*2 ^ c:=by rw[Nat.pow_add,Nat.mul_comm]
 have hv:(val x*1000).natAbs≤2 ^ (c+30)*1:=by
  rw[e30]
  generalize 2 ^ c=P at *
  omega
 have hb:Bd(c+30)(bT x 4652007308841189376):=Zp hk(by decide)hv(by omega)
 refine⟨hb.fin(by omega),?_,mul_lt h.fin hfK,hk⟩
 have h2:=hb.val(by omega)
 rw[gF]at h2
 have h3:rv 52(1053*4503599627370496)=1073741824*2 ^ c:=by subst hc;decide +kernel
 apply Nat.le_of_not_lt
 intro hc2
 have:=BL 52 hc2
 rw[h3,←e30]at this
 omega
theorem Zq {x y:Nat}(hx:x<18446744073709551616)(hy:y<18446744073709551616)(h:key x=key y)(h0:key x≠0):x=y:=by
 have h1:rung x=rung y:=by rw[←kQ,←kQ,h]
 have hs:jT x=jT y:=by
  unfold key at h h0
  cases a:jT x<;>cases b:jT y
  ·rfl
  ·rw[a,b]at h;rw[a]at h0;simp only[cond_true,cond_false]at h h0;omega
  ·rw[a,b]at h;rw[a]at h0;simp only[cond_true,cond_false]at h h0;omega
  ·rfl
 unfold rung at h1
 unfold jT at hs
 have:x / 9223372036854775808 % 2=1↔y / 9223372036854775808 % 2=1:=by
  constructor
  ·intro hh;rw[hh]at hs;simpa using hs.symm
  ·intro hh;rw[hh]at hs;simpa using hs
 omega
theorem Dm {x y:Nat}(h:key x=key y):val x=val y:=Int.le_antisymm(oH.2(by omega))(oH.2(by omega))
theorem adr {x:Nat}(h:key x=0):val x=0:=by
 have h0:key 0=0:=by decide +kernel
 have:=Dm(h.trans h0.symm)
 rw[this]
 decide +kernel
theorem anW {x y:Nat}(h:key x=- key y):val x=- val y:=by
 have h1:rung x=rung y:=by rw[←kQ,←kQ,h,Int.natAbs_neg]
 have h2:(val x).natAbs=(val y).natAbs:=by rw[gF,gF,h1]
 have a1:=@Am x
 have a2:=@Am y
 have a3:=@qH x
 have a4:=@qH y
 omega
theorem anX {y:Nat}(h:y<9223372036854775808):key(9223372036854775808+y)=- key y:=by
 have hrg:rung(9223372036854775808+y)=rung y:=by unfold rung;omega
 have hs1:jT y=false:=by unfold jT;rw[Nat.div_eq_of_lt h];rfl
 have hs2:jT(9223372036854775808+y)=true:=by unfold jT;rw[show(9223372036854775808+y) / 9223372036854775808=1 by omega];rfl
 unfold key
 rw[hs1,hs2,hrg]
 rfl
theorem tell(hc:c=1074) {x:Nat}(h:cB x) {n:Int}(hn:n.natAbs≤1000000)(hk:key(gJ n)=key x):Go.Gv.Mf .i64(kY(bT x 4652007308841189376))=n:=by
 obtain⟨hyf,hyr,hyl,hyk⟩:=BK hc h
 obtain⟨hmk,hmf⟩:=tV hc hn
 have hv:=Dm hk.symm
 have hm:cB(gJ n):=⟨hmf,by rw[←hv];exact h.le⟩
 obtain⟨aDt,aDu,aua,aub⟩:=BK hc hm
 have hkk:key(bT x 4652007308841189376)=key(qV n):=by unfold qV;rw[hyk,aub,hv]
 by_cases h0:key(qV n)=0
 ·have z1:key(bT x 4652007308841189376)=0:=hkk.trans h0
  have z2:rung(bT x 4652007308841189376)=0:=by rw[←kQ,z1];rfl
  have hyn:=(VJ hc hn).2
  have hz:val(qV n)=0:=adr h0
  have hn0:n=0:=by
   obtain⟨p0,_,_,_,_,_⟩:=Dn hc
   have hq:=Nat.two_pow_pos(c - 43)
   rw[hz,p0]at hyn
   apply Classical.byContradiction
   intro hne
   have h1:8796093022208*2 ^ (c - 43)≤(n*((8796093022208*2 ^ (c - 43):Nat):Int)).natAbs:=by
    rw[Int.natAbs_mul,Int.natAbs_natCast]
    exact Nat.le_mul_of_pos_left _(by omega)
   generalize n*((8796093022208*2 ^ (c - 43):Nat):Int)=z at *
   generalize 2 ^ (c - 43)=Q at *
   omega
  have hw:bT x 4652007308841189376=0∨bT x 4652007308841189376=9223372036854775808:=by
   unfold rung at z2
   omega
  rw[hn0]
  rcases hw with hw |hw<;>rw[hw]<;>decide +kernel
 ·have hyw:bT x 4652007308841189376=qV n:=Zq hyl aua hkk(by rw[hkk];exact h0)
  rw[hyw]
  have hn0:n≠0:=by
   intro e
   apply h0
   subst e
   unfold qV
   decide +kernel
  by_cases hp:0<n
  ·obtain⟨k,rfl⟩:=Int.eq_ofNat_of_zero_le(show 0≤n by omega)
   exact(RF hc(n:=k)(by omega)(by omega)).2.2.2.1
  ·obtain⟨k,hk'⟩:=Int.eq_ofNat_of_zero_le(show 0≤-n by omega)
   have hkn:n=-(k:Int):=by omega
   subst hkn
   obtain⟨b1,b2,b3,b4,b5⟩:=RF hc(n:=k)(by omega)(by omega)
   obtain⟨mk2,mf2⟩:=tV hc(n:=(k:Int))(by simp at hn;simpa using hn)
   have hneg:val(gJ(-(k:Int)))=- val(gJ k):=anW(by rw[hmk,mk2,Int.neg_mul,VK _(by decide)])
   have hm2:cB(gJ k):=⟨mf2,by have:=hm.le;rw[hneg,Int.natAbs_neg]at this;exact this⟩
   obtain⟨q1,q2,q3,q4⟩:=BK hc hm2
   have hyy:qV(-(k:Int))=9223372036854775808+qV k:=by
    apply Zq aua(by omega)_ h0
    rw[anX b1]
    unfold qV
    rw[aub,q4,hneg,Int.neg_mul,VK _(by decide)]
   rw[hyy,Zo b1(by omega)]
   obtain⟨r1,_⟩:=RD(show qV k<18446744073709551616 by omega)q2
   have hbig:(val(kY(qV k))).natAbs / 2 ^ c≤4611686018427387904:=by
    rw[gF]
    have h5:=Zr r1
    have h6:rv 52(1054*4503599627370496)=2147483648*2 ^ c:=by subst hc;decide +kernel
    have hp:=Nat.two_pow_pos c
    rw[h6]at h5
    exact Nat.div_le_of_le_mul(Nat.le_trans h5(by rw[Nat.mul_comm];exact Nat.mul_le_mul_left _(by decide)))
   generalize kY(qV k)=r at *
   have hrg:rung(9223372036854775808+r)=rung r:=by unfold rung;omega
   have hfr:isFin(9223372036854775808+r)=true:=by
    unfold isFin at b3 ⊢
    rw[hrg];exact b3
   have hs1:jT r=false:=by unfold jT;rw[Nat.div_eq_of_lt b5];rfl
   have hs2:jT(9223372036854775808+r)=true:=by unfold jT;rw[show(9223372036854775808+r) / 9223372036854775808=1 by omega];rfl
   rw[Fp hc b3 hbig,hs1,cond_false]at b4
   rw[Fp hc hfr(by rw[gF,hrg,←gF];exact hbig),hs2,cond_true,gF,hrg,←gF,b4]
end
end Go.Ev
namespace Go.Proofs.YtefphimaggjihaaGreatDoor.Pi
open Go.Shelf Go.RowKit Go.Gv
open Go.Ev (cn bq dI bT fdiv fI dK jO kL gN lK aL key val isFin rung cB qV)
open Hs (gJ yU)
def rfR(w:Nat):Nat:=cn(kY w)
def bfR(n:Int):Bool:=cond(decide(n<-1000000))true(decide(n>1000000))
def nnX(x:Nat):Int:=nX x rfR
def bG(x:Nat):Bool:=!(cond(bfR(nnX x))true(!(dK(gJ(nnX x))x)))
def dF(x:Nat):Int:=cond(bG x)(nnX x)0
theorem agA(n:Int):aj Tryz.prog 172 [iA n](bA(bfR n)) :=
 aP aB av Tryz.ak5(by kernel_rfl)(by kernel_rfl)aA rfl(avB n)
theorem awk {x:Nat}(h:cB x):Cr .i64(rfR(yX x))=true∧aL(kY(yX x))=false:=by
 obtain⟨c,hc⟩:∃c,c=1074:=⟨_,rfl⟩
 obtain⟨q1,q2,q3,q4⟩:=Go.Ev.BK hc h
 obtain⟨r1,r2⟩:=Go.Ev.RD q3 q2
 have hf:isFin(kY(yX x))=true:=by
  unfold isFin
  exact Nat.ble_eq_true_of_le(Nat.lt_of_le_of_lt r1(by decide))
 have hn:=Go.Ev.jP hf
 have hbig:(val(kY(yX x))).natAbs≤2 ^ (c+53):=by
  rw[Go.Ev.gF]
  have h5:=Go.Ev.Zr r1
  have h6:Go.Ev.rv 52(1054*4503599627370496)=2147483648*2 ^ c:=by subst hc;decide +kernel
  rw[h6]at h5
  rw[Nat.pow_add,Nat.mul_comm]
  exact Nat.le_trans h5(Nat.mul_le_mul_right _(by decide))
 refine⟨?_,hn⟩
 unfold rfR
 rw[Go.Ev.iI hn]
 exact Go.Ev.XA hc(j:=53)⟨hf,by rw[Nat.one_mul];exact hbig⟩(by decide)(by decide)
theorem Qq {x:Nat}(h:cB x):FTh dF bG x:=by
 obtain⟨c,hc⟩:∃c,c=1074:=⟨_,rfl⟩
 obtain⟨q1,q2,q3,q4⟩:=Go.Ev.BK hc h
 obtain⟨f1,f2⟩:=awk h
 have hE:yX x / 2 ^ 52 % 2048<1055:=by
  have e52:(2:Nat) ^ 52=4503599627370496:=by decide
  unfold rung at q2
  unfold yX
  rw[e52]
  omega
 refine aP aB(ak aD(ak aD av))Tryz.ay3(by kernel_rfl)(by kernel_rfl)aA rfl((avC x rfR bfR).trans ?_)
 have hr:aj Tryz.prog 171 [.f(yX x)](.f(rfR(yX x))):=CJ q3(Go.Ev.jP q1)hE
 rw[ah hr,f1,ah(agA _)]
 show cond _ _ _=_
 unfold dF bG nnX
 cases cond(bfR(nX x rfR))true(!(dK(gJ(nX x rfR))x))<;>rfl
theorem aut {x:Nat}(h:cB x) {n:Int}(hn:n.natAbs≤1000000)(he:dK(gJ n)x=true):bG x=true∧dF x=n:=by
 obtain⟨c,hc⟩:∃c,c=1074:=⟨_,rfl⟩
 obtain⟨_,_,hk⟩:=Go.Ev.vw he
 have ht:=Go.Ev.tell hc h hn hk
 have hx:nnX x=n:=by
  unfold nnX nX rfR
  rw[Go.Ev.iI(awk h).2]
  exact ht
 have hb:bfR n=false:=by
  unfold bfR
  rw[decide_eq_false(by omega),cond_false,decide_eq_false(by omega)]
 have h1:bG x=true:=by unfold bG;rw[hx,hb,he];rfl
 exact⟨h1,by unfold dF;rw[h1,cond_true,hx]⟩
theorem OX {x:Nat}(h:bG x=true):(dF x).natAbs≤1000000∧dK(gJ(dF x))x=true:=by
 have e:dF x=nnX x:=by unfold dF;rw[h];rfl
 rw[e]
 unfold bG bfR at h
 by_cases h1:nnX x<-1000000
 ·rw[decide_eq_true h1]at h;cases h
 ·by_cases h2:nnX x>1000000
  ·rw[decide_eq_false h1,decide_eq_true h2]at h;cases h
  ·rw[decide_eq_false h1,decide_eq_false h2]at h
   refine⟨by omega,?_⟩
   cases hf:dK(gJ(nnX x))x
   ·rw[hf]at h;cases h
   ·rfl
theorem qp(x:Nat):(dF x).natAbs≤1000000:=by
 cases h:bG x
 ·unfold dF;rw[h,cond_false];decide
 ·exact(OX h).1
theorem ak6 {x:Nat}(h:cB x):Nu cK dF bG x:=⟨Qq h,P6(Nat.le_trans(qp x)(by decide)),(zk _(Nat.le_trans(qp x)(by decide))).1⟩
end Go.Proofs.YtefphimaggjihaaGreatDoor.Pi
namespace Go.Proofs.YtefphimaggjihaaGreatDoor.Pi
open Go.Shelf Go.RowKit Go.Gv
open Go.Ev (cn bq dI bT fdiv fI dK jO kL gN lK aL key val isFin cB)
open Hs Hs.So Hs.Sc Hs.Fm
theorem eG {x:Nat}(h:eP x=true):cB x:=by
 unfold eP at h
 have e1:key 13920209183539462144=-4696837146684686336:=by decide +kernel
 have e2:key 4696837146684686336=4696837146684686336:=by decide +kernel
 cases h1:lK x 13920209183539462144
 ·rw[h1]at h;cases h
 ·rw[h1,cond_true]at h
  obtain⟨n1,_,k1⟩:=Go.Ev.afc h1
  obtain⟨_,_,k2⟩:=Go.Ev.afb h
  have hf:isFin x=true:=Go.Ev.yV n1 k1 k2(by rw[e1];decide)(by rw[e2];decide)
  obtain⟨c,hc⟩:∃c,c=1074:=⟨_,rfl⟩
  have t1:val 4696837146684686336=((1000000*2 ^ c:Nat):Int):=by subst hc;decide +kernel
  have t2:val 13920209183539462144=-((1000000*2 ^ c:Nat):Int):=by subst hc;decide +kernel
  have a1:=Go.Ev.oH.2 k1
  have a2:=Go.Ev.oH.2 k2
  rw[t2]at a1
  rw[t1]at a2
  refine⟨hf,?_⟩
  rw[←hc]
  generalize 1000000*2 ^ c=B at *
  omega
theorem LQ {x:Nat}(h:eP x=true):Nu cK dF bG x:=ak6(eG h)
theorem oo {a b c:Nat}(h:dL a b c=true):eP a=true∧eP b=true∧eP c=true:=by
 unfold dL at h
 revert h
 cases eP a<;>cases eP b<;>cases eP c<;>intro h<;>first |exact⟨rfl,rfl,rfl⟩ | (cases h;done)
theorem Hw {a:Nat→Nat}{i:Nat}(h:dL(a i)(a(i+1))(a(i+2))=true):NV cK dF bG a i:=by
 obtain⟨h1,h2,h3⟩:=oo h
 exact⟨LQ h1,LQ h2,LQ h3⟩
theorem ahM {a:Nat→Nat}(h:Im a=false):dL(a 0)(a 1)(a 2)=true∧dL(a 3)(a 4)(a 5)=true∧dL(a 6)(a 7)(a 8)=true∧eP(a 9)=true∧eP(a 10)=true:=by
 unfold Im at h
 revert h
 cases dL(a 0)(a 1)(a 2)<;>cases dL(a 3)(a 4)(a 5)<;>cases dL(a 6)(a 7)(a 8)<;>cases eP(a 9)<;>cases eP(a 10)<;>intro h<;>first |exact⟨rfl,rfl,rfl,rfl,rfl⟩ | (cases h;done)
theorem anR {k:Int}{a:Nat→Nat}{sk:Int}(h:jG(fC k a sk)=0):ShN cK dF bG k a∧Xn oM sk:=by
 obtain⟨h1,h2,h3,h4⟩:=kI h
 obtain⟨r0,r3,r6,r9,r10⟩:=ahM h1
 exact⟨⟨h2,Hw r0,fun _=>Hw r3,fun _=>Hw r6,fun _ _=>LQ r9,fun _=>LQ r10⟩,IK h3(by omega)⟩
theorem OE {n:Int}(h0:0≤n)(h1:n<100000000):J7 n∧Lib.itoa n≠[]:=⟨IJ(by omega)(by omega),(lu h0 h1).1⟩
theorem c4 {b:Bool}{e x:Int}(he:e≠0)(h:cond b e x=0):b=false∧x=0:=by
 cases b
 ·exact⟨rfl,h⟩
 ·exact absurd h he
theorem c0 {e x:Int}(h:cond(e==0)x e=0):e=0∧x=0:=by
 by_cases he:e=0
 ·subst he;exact⟨rfl,h⟩
 ·rw[beq_false_of_ne he]at h;exact absurd h he
theorem cn0 {e x:Int}(h:cond(!(e==0))e x=0):e=0∧x=0:=by
 by_cases he:e=0
 ·subst he;exact⟨rfl,h⟩
 ·rw[beq_false_of_ne he]at h;exact absurd h he
theorem Sl {e sk:Int}{n:Nat}(h:Dk e sk n=0):e=0:=(cn0 h).1
theorem uh {a b:Bool}(h:cond a true b=false):a=false∧b=false:=by
 cases a
 ·exact⟨rfl,h⟩
 ·cases h
theorem zm {l:Nat→Int}(h:ND l=true):∀q,q<3→0≤l q∧l q≤65536:=by
 unfold ND at h
 have hb:∀{x:Int}{b:Bool},cond(VF x)false b=true→(0≤x∧x≤65536)∧b=true:=fun {x b} h=>by
  cases hx:VF x
  ·rw[hx]at h
   obtain⟨h1,h2⟩:=uh hx
   have h1:=of_decide_eq_false h1
   have h2:=of_decide_eq_false h2
   exact⟨by omega,h⟩
  ·rw[hx]at h;cases h
 obtain⟨a0,h⟩:=hb h
 obtain⟨a1,h⟩:=hb h
 obtain⟨a2,_⟩:=hb h
 intro q hq
 match q,hq with
 | 0,_=>exact a0
 | 1,_=>exact a1
 | 2,_=>exact a2
theorem aaJ {l:Nat→Int}(h:∀q,q<3→0≤l q∧l q≤65536):Wh l:=⟨fun q hq=>OE(h q hq).1(by have:=(h q hq).2;omega)⟩
theorem Zh {s m g:Int}(h:(!Xv s m g)=false):(0≤s∧s≤1000)∧(0≤m∧m≤1000)∧0≤g∧g≤1000:=by
 unfold Xv at h
 have hb:∀{x:Int}{b:Bool},(!cond(cbB x)false b)=false→(0≤x∧x≤1000)∧(!b)=false:=fun {x b} h=>by
  cases hx:cbB x
  ·rw[hx]at h
   obtain⟨h1,h2⟩:=uh hx
   have h1:=of_decide_eq_false h1
   have h2:=of_decide_eq_false h2
   exact⟨by omega,h⟩
  ·rw[hx]at h;cases h
 obtain⟨a0,h⟩:=hb h
 obtain⟨a1,h⟩:=hb h
 obtain⟨a2,_⟩:=hb h
 exact⟨a0,a1,a2⟩
theorem Pk {k:Nat→Int}(h:skE k=0):(∀q,q<9→0≤k q∧k q≤1000)∧100≤k 9∧k 9≤10000:=by
 unfold skE at h
 obtain⟨h0,h⟩:=c4(by decide)h
 obtain⟨h1,h⟩:=c4(by decide)h
 obtain⟨h2,h⟩:=c4(by decide)h
 obtain⟨h3,_⟩:=c4(by decide)h
 have m0:=Zh h0
 have m1:=Zh h1
 have m2:=Zh h2
 obtain⟨b1,b2⟩:=uh h3
 have b1:=of_decide_eq_false b1
 have b2:=of_decide_eq_false b2
 refine⟨fun q hq=>?_,by omega,by omega⟩
 match q,hq with
 | 0,_=>omega
 | 1,_=>omega
 | 2,_=>omega
 | 3,_=>omega
 | 4,_=>omega
 | 5,_=>omega
 | 6,_=>omega
 | 7,_=>omega
 | 8,_=>omega
theorem Uv {n:Nat}{P:Nat→dM}(h:∀i,i<n→IZ P i=0):PM n P∧∀i,i<n→(P i).op=0→jG(fC(P i).k(P i).a(P i).sk)=0:=by
 refine⟨fun j hj=>?_,fun i hi h0=>?_⟩
 ·have h1:=h j hj
  unfold IZ Rf at h1
  by_cases h0:(P j).op=0
  ·exact Or.inl h0
  ·right
   rw[beq_false_of_ne h0,cond_false]at h1
   cases ho:opB(P j).op
   ·rw[ho]at h1;exact absurd(show(11:Int)=0 from h1)(by decide)
   ·rw[ho,cond_true]at h1
    obtain⟨h2,_⟩:=c4(by decide)h1
    unfold nmB at h2
    obtain⟨h2,r2⟩:=uh h2
    obtain⟨h2,r1⟩:=uh h2
    obtain⟨l1,l2⟩:=uh h2
    have r2:=of_decide_eq_false r2
    have r1:=of_decide_eq_false r1
    have l1:=of_decide_eq_false l1
    have l2:=of_decide_eq_false l2
    have:(P j).op=1∨(P j).op=2∨(P j).op=3:=by
     unfold opB at ho
     simpa using ho
    omega
 ·have h1:=h i hi
  unfold IZ Rf at h1
  rw[h0]at h1
  have h1:mlE(jG(P i).s)(P i).k=0:=h1
  exact(cn0 h1).1
theorem am3 {n:Nat}{P:Nat→dM}{sn:Int}(h:Nb n P sn=0):((1≤n∧n≤16)∧PM n P∧∀i,i<n→(P i).op=0→ShN cK dF bG(P i).k(P i).a)∧Xn oM sn:=by
 unfold Nb at h
 obtain⟨h1,h⟩:=c4(by decide)h
 obtain⟨h2,h⟩:=c4(by decide)h
 obtain⟨n1,n2⟩:=uh h1
 have n1:=of_decide_eq_false n1
 have n2:=of_decide_eq_false n2
 obtain⟨p1,p2⟩:=Uv(dh _ h)
 obtain⟨s1,s2⟩:=DK h2
 exact⟨⟨by omega,p1,fun i hi h0=>(anR(p2 i hi h0)).1⟩,IK s1(by omega)⟩
theorem axU {F:Hs.Fm.Fd}(h:L8 F.c=0):((J7 F.W∧Lib.itoa F.W≠[])∧(J7 F.H∧Lib.itoa F.H≠[])∧NV cK dF bG F.at_ 0∧Nu cK dF bG F.sd∧F.n≤1000∧∀q,q<F.n→FDc cK(F.hs q)∧cK(F.hs q)≠[])∧Xn oM F.sk:=by
 obtain⟨h1,h2,h3,h4,h5,h6,_⟩:dL(F.at_ 0)(F.at_ 1)(F.at_ 2)=true∧eP F.sd=true∧F.n≤64∧(2≤F.W∧F.W≤8∧2≤F.H∧F.H≤8)∧(0≤F.sk∧F.sk<16)∧(∀q,q<F.n→oU(F.hs q)=false)∧F.jM=0∧(kM(bx F)==0)=true:=(uN F).2 h
 refine⟨⟨OE(by omega)(by omega),OE(by omega)(by omega),Hw h1,LQ h2,by omega,fun q hq=>?_⟩,IK h5.1(by omega)⟩
 obtain⟨b1,b2⟩:=uh(h6 q hq)
 have b1:=of_decide_eq_false b1
 have b2:=of_decide_eq_false b2
 exact⟨P6(by omega),(zk _(by omega)).1⟩
theorem anJ {e:Nat→Nat}(h:ZP e=0):dL(e 0)(e 1)(e 2)=true∧dL(e 3)(e 4)(e 5)=true∧dL(e 6)(e 7)(e 8)=true∧eP(e 9)=true:=by
 unfold ZP at h
 obtain⟨h1,_⟩:=c4(by decide)h
 unfold feB at h1
 revert h1
 cases dL(e 0)(e 1)(e 2)<;>cases dL(e 3)(e 4)(e 5)<;>cases dL(e 6)(e 7)(e 8)<;>cases eP(e 9)<;>intro h<;>first |exact⟨rfl,rfl,rfl,rfl⟩ | (cases h;done)
theorem jC {b:Bool}(h:(!b)=false):b=true:=by cases b<;>first |rfl |cases h
theorem WE {s:fT}(h:yP s=0):ScN cK dF bG s∧(s.nS≤64∧s.nO≤8∧s.nF≤2∧s.nK≤16∧s.nL≤4):=by
 unfold yP at h
 obtain⟨h1,h⟩:=c4(by decide)h
 obtain⟨hK,h⟩:=c0 h
 obtain⟨hT,h⟩:=c0 h
 obtain⟨hL,h⟩:=c0 h
 obtain⟨hY,h⟩:=c4(by decide)h
 have few:=Qr s h1
 unfold thE at hT
 obtain⟨hS,hT⟩:=c0 hT
 obtain⟨hO,hF⟩:=c0 hT
 obtain⟨y0,y3,y6,y9⟩:=anJ h
 refine⟨⟨Hw y0,Hw y3,Hw y6,LQ y9,aaJ(zm(jC hY)),fun j hj=>?_,fun j hj=>?_,fun j hj=>?_,fun j hj=>?_,fun j hj=>?_,by omega⟩,few⟩
 ·obtain⟨k1,k2,k3⟩:=Pk(k:=s.K j)(dh _ hK j hj)
  refine⟨IK(by omega)(by omega),⟨fun q hq=>?_⟩,⟨fun q hq=>?_⟩,⟨fun q hq=>?_⟩,P6(by omega),(zk _(by omega)).1⟩
  ·have:=k1 q(by omega);exact OE this.1(by omega)
  ·have:=k1(3+q)(by omega);exact OE this.1(by omega)
  ·have:=k1(6+q)(by omega);exact OE this.1(by omega)
 ·have hl:lmE(s.LA j)(s.LL j)=0:=dh _ hL j hj
  unfold lmE at hl
  obtain⟨a1,hl⟩:=c4(by decide)hl
  obtain⟨a2,_⟩:=c4(by decide)hl
  exact⟨Hw(jC a1),aaJ(zm(jC a2))⟩
 ·exact anR(Sl(dh _ hS j hj))
 ·exact am3(Sl(dh _ hO j hj))
 ·exact axU(Sl(dh _ hF j hj))
end Go.Proofs.YtefphimaggjihaaGreatDoor.Pi
namespace Go.Proofs.YtefphimaggjihaaGreatDoor.Pi
open Go.Shelf Go.RowKit Go.Gv
open Hs Hs.So Hs.Sc Hs.Fm
structure Hz(k:Nat)(ts:List(List UInt8)):Prop where
 n:ts.length≤k
 w:∀t,t∈ts→t.length≤20
theorem iU:Hz 0 []:=⟨Nat.le_refl _,fun _ h=>by cases h⟩
theorem aW {k:Nat}{t:List UInt8}{ts:List(List UInt8)}(ht:t.length≤20)(h:Hz k ts):Hz(k+1)(t::ts):=⟨by simp;exact h.n,fun x hx=>by
 rcases List.mem_cons.1 hx with rfl |hx
 ·exact ht
 ·exact h.w x hx⟩
theorem iC {j k:Nat}{A B:List(List UInt8)}(ha:Hz j A)(hb:Hz k B):Hz(j+k)(A++B):=⟨by simp;exact Nat.add_le_add ha.n hb.n,fun x hx=>by
 rcases List.mem_append.1 hx with hx |hx
 ·exact ha.w x hx
 ·exact hb.w x hx⟩
theorem Hz.up {j k:Nat}{A:List(List UInt8)}(h:Hz j A)(hk:j≤k):Hz k A:=⟨Nat.le_trans h.n hk,h.w⟩
theorem jX:∀{ts:List(List UInt8)}{k:Nat}(b:Bool),Hz k ts→(tks b ts).length≤21*k
 | [],_,_,_=>by simp[tks]
 |t::r,k,b,h=>by
  have h1:=h.w t(by simp)
  have hn:=h.n
  simp at hn
  obtain⟨k,rfl⟩:∃j,k=j+1:=⟨k - 1,by omega⟩
  have h2:=jX(ts:=r)(k:=k)true⟨by omega,fun x hx=>h.w x(List.mem_cons_of_mem _ hx)⟩
  simp only[tks,List.length_append]
  have:(if b then([32]:List UInt8)else []).length≤1:=by cases b<;>simp
  omega
theorem DC {ts:List(List UInt8)}{k:Nat}(b:Bool)(h:Hz k ts):(iD b ts).length≤21*k+22:=by
 unfold iD
 have:=jX b(iC h(aW(t:=[59])(by decide)iU))
 rw[List.length_append]
 simp only[List.length_cons,List.length_nil]
 omega
theorem qZ {E:Nat→List UInt8}{m:Nat}:∀n,(∀j,j<n→(E j).length≤m)→(bY E n).length≤n*m
 | 0,_=>by simp[bY]
 |n+1,h=>by
  have:=qZ n fun j hj=>h j(by omega)
  have h1:=h n(by omega)
  simp only[bY,List.length_append]
  rw[Nat.add_mul,Nat.one_mul]
  omega
theorem lN(x:Nat):(Jy cK dF x).length≤20:=(zk _(Nat.le_trans(qp x)(by decide))).2
theorem oQ(a:Nat→Nat)(i:Nat):Hz 3(vT cK dF a i):=aW(lN _)(aW(lN _)(aW(lN _)iU))
theorem Ph {w t:List UInt8}(hw:w.length≤20)(ht:t.length≤20)(a:Nat→Nat):Hz 10(DF cK dF w t a) :=
 aW hw(iC(k:=6)(oQ a 0)(aW ht(iC(k:=2)(oQ a 3)(aW(by decide)(aW(lN _)iU))))) |>.up(by decide)
theorem DI(k:Int)(a:Nat→Nat):Hz 13(yE cK dF k a):=by
 unfold yE
 split
 ·exact(aW(by decide)(iC(oQ a 0)(aW(by decide)(aW(lN _)iU)))).up(by decide)
 ·split
  ·exact(aW(by decide)(iC(oQ a 0)(aW(by decide)(oQ a 3)))).up(by decide)
  ·split
   ·exact(aW(by decide)(iC(oQ a 0)(aW(by decide)(iC(oQ a 3)(aW(by decide)(oQ a 6)))))).up(by decide)
   ·split
    ·exact(Ph(by decide)(by decide)a).up(by decide)
    ·split
     ·exact(Ph(by decide)(by decide)a).up(by decide)
     ·exact(iC(Ph(by decide)(by decide)a)(aW(lN _)iU)).up(by decide)
theorem ZX(o:Int):(zi o).length≤20:=by unfold zi;split<;>(try split)<;>decide
theorem upd_ne(g:Nat→Int) {i j:Nat}(h:i≠j)(v:Int):upd g j v i=g i:=if_neg h
theorem ZY(P:Nat→dM)(i:Nat):∀d,(sd P(i+1+d)).1 i=(sd P(i+1)).1 i∧(sd P(i+1+d)).2 i=(sd P(i+1)).2 i
 | 0=>⟨rfl,rfl⟩
 |d+1=>by
  have h:=ZY P i d
  rw[show i+1+(d+1)=(i+1+d)+1 by omega,kU]
  have hne:i≠i+1+d:=by omega
  split
  ·exact⟨(upd_ne _ hne _).trans h.1,h.2⟩
  ·exact⟨(upd_ne _ hne _).trans h.1,(upd_ne _ hne _).trans h.2⟩
theorem zl {P:Nat→dM}{i j:Nat}(h:i<j):(sd P j).1 i=(sd P(i+1)).1 i∧(sd P j).2 i=(sd P(i+1)).2 i:=by
 have:=ZY P i(j - (i+1))
 rwa [show i+1+(j - (i+1))=j by omega]at this
theorem aoB {n:Nat}{P:Nat→dM}(hP:PM n P) {i:Nat}(hi:i<n)(h0:(P i).op≠0):(sd P n).2 i=1+mx((sd P n).2(P i).l.toNat)((sd P n).2(P i).r.toNat):=by
 rcases hP i hi with h | ⟨_,⟨l0,l1⟩,r0,r1⟩
 ·exact absurd h h0
 ·rw[(zl hi).2,kU,if_neg h0]
  show upd _ i _ i=_
  unfold upd
  rw[if_pos rfl,(zl(show(P i).l.toNat<n by omega)).2,(zl(show(P i).r.toNat<n by omega)).2,(zl(show(P i).l.toNat<i by omega)).2,(zl(show(P i).r.toNat<i by omega)).2]
theorem Pj {n:Nat}{P:Nat→dM}(hP:PM n P):∀(f i d:Nat),i<n→(sd P n).2 i≤d→∃k,Hz k(FI cK dF P f i)∧k+3≤16*2 ^ d
 | 0,_,d,_,_=>⟨0,iU,by have:=Nat.two_pow_pos d;omega⟩
 |f+1,i,d,hi,hd=>by
  unfold FI
  by_cases h0:(P i).op=0
  ·rw[if_pos h0]
   exact⟨13,DI _ _,by have:=Nat.two_pow_pos d;omega⟩
  ·rw[if_neg h0]
   rcases hP i hi with h | ⟨_,⟨l0,l1⟩,r0,r1⟩
   ·exact absurd h h0
   ·rw[aoB hP hi h0]at hd
    have g1:=(qw P n(P i).l.toNat).2.1
    have g2:=(qw P n(P i).r.toNat).2.1
    obtain⟨d,rfl⟩:∃e,d=e+1:=⟨d - 1,by unfold mx at hd;split at hd<;>omega⟩
    obtain⟨k1,f1,e1⟩:=Pj hP f(P i).l.toNat d(by omega)(by unfold mx at hd;split at hd<;>omega)
    obtain⟨k2,f2,e2⟩:=Pj hP f(P i).r.toNat d(by omega)(by unfold mx at hd;split at hd<;>omega)
    refine⟨_,iC(aW(ZX _)(aW(t:=[123])(by decide)iU))(iC f1(iC f2(aW(t:=[125])(by decide)iU))),?_⟩
    rw[Nat.pow_succ]
    omega
theorem ajx {n:Nat}{P:Nat→dM}(h1:1≤n)(hP:PM n P):Hz 130(soT cK dF n P):=by
 unfold soT
 cases ha:FH n P
 ·exact(aW(by decide)iU).up(by decide)
 ·unfold FH at ha
  have ha:arP n P:=by simpa using ha
  obtain⟨k,hk,he⟩:=Pj hP n(n - 1)3(by omega)ha.2.2
  exact(aW(by decide)hk).up(by omega)
theorem Jz {n:Int}(h0:0≤n)(h1:n<100000000):(Lib.itoa n).length≤20:=Nat.le_trans(lu h0 h1).2(by decide)
theorem aeg {n:Int}(h0:0≤n)(h1:n<100000000):(oM n).length≤20:=by
 have:=(lu h0 h1).2
 show(115::Lib.itoa n).length≤20
 simp
 omega
theorem JA {l:Nat→Int}(h:∀q,q<3→0≤l q∧l q≤65536):Hz 3(Bz l):=by
 have a0:=h 0(by decide)
 have a1:=h 1(by decide)
 have a2:=h 2(by decide)
 exact aW(Jz a0.1(by omega))(aW(Jz a1.1(by omega))(aW(Jz a2.1(by omega))iU))
theorem aoC {F:Hs.Fm.Fd}(h:∀q,q<F.n→oU(F.hs q)=false):Hz F.n(vJ cK F F.n):=⟨by unfold vJ;simp,fun t ht=>by
 unfold vJ at ht
 obtain⟨q,hq,rfl⟩:=List.mem_map.1 ht
 obtain⟨b1,b2⟩:=uh(h q(List.mem_range.1 hq))
 have b1:=of_decide_eq_false b1
 have b2:=of_decide_eq_false b2
 exact(zk _(by omega)).2⟩
theorem ajy(e:Nat→Nat):Hz 14(eyT cK dF e) :=
 (aW(by decide)(iC(oQ e 0)(aW(by decide)(iC(oQ e 3)(aW(by decide)(iC(oQ e 6)(aW(by decide)(aW(lN _)iU)))))))).up(by decide)
theorem DJ {k:Int}(h0:0≤k)(h1:k<16)(b:Bool):(iD b [oM k]).length≤43:=DC b(aW(aeg h0(by omega))iU)
theorem ajz {s:fT}(h:∀q,q<3→0≤s.jE q∧s.jE q≤65536):(comp(yN s)false).length≤110:=by
 have e:comp(yN s)false=tks false [FE]++(tks true(Bz s.jE)++((tks true [[59]]++[10])++[])):=rfl
 rw[e]
 have h1:=jX false(aW(t:=FE)(by decide)iU)
 have h2:=jX true(JA h)
 have h3:=jX true(aW(t:=[59])(by decide)iU)
 simp only[List.length_append,List.length_cons,List.length_nil]
 omega
theorem ajA {s:fT}{j:Nat}(hj:j<16)(h:skE(s.K j)=0):(comp(skI cK s j)false).length≤400:=by
 obtain⟨k1,k2,k3⟩:=Pk h
 have e:comp(skI cK s j)false=iD false(skT cK(s.K j)(fun q=>s.K j(3+q))(fun q=>s.K j(6+q))(s.K j 9)(j:Nat))++[]:=rfl
 rw[e,List.append_nil]
 have a:∀d,d≤6→Hz 3(Bz fun q=>s.K j(d+q)):=fun d hd=>JA fun q hq=>by have:=k1(d+q)(by omega);omega
 have a0:Hz 3(Bz(s.K j)):=JA fun q hq=>by have:=k1 q(by omega);omega
 have f:Hz 16(skT cK(s.K j)(fun q=>s.K j(3+q))(fun q=>s.K j(6+q))(s.K j 9)(j:Nat)) :=
  (iC(aW(by decide)(aW(aeg(by omega)(by omega))(aW(by decide)iU)))(iC a0(aW(by decide)(iC(a 3(by omega))(aW(by decide)(iC(a 6(by omega))(aW(by decide)(aW(zk _(by omega)).2 iU)))))))).up(by decide)
 exact Nat.le_trans(DC false f)(by decide)
theorem ajB {s:fT}{j:Nat}(h:∀q,q<3→0≤s.LL j q∧s.LL j q≤65536):(comp(lmI cK dF bG s j)false).length≤200:=by
 have e:comp(lmI cK dF bG s j)false=iD false(WC cK dF(s.LA j)(s.LL j))++[]:=rfl
 rw[e,List.append_nil]
 have f:Hz 8(WC cK dF(s.LA j)(s.LL j)):=(aW(by decide)(iC(oQ _ 0)(aW(by decide)(JA h)))).up(by decide)
 exact Nat.le_trans(DC false f)(by decide)
theorem ajC {s:fT}{j:Nat}(h0:0≤(s.S j).sk)(h1:(s.S j).sk<16):(comp(shI cK dF bG s j)false).length≤320:=by
 have e:comp(shI cK dF bG s j)false=tks false(yE cK dF(s.S j).k(s.S j).a)++(iD true [oM(s.S j).sk]++[]):=rfl
 rw[e]
 have a:=jX false(DI(s.S j).k(s.S j).a)
 have b:=DJ h0 h1 true
 simp only[List.length_append,List.length_nil]
 omega
theorem ajD {s:fT}{j:Nat}(h0:0≤(s.O j).sk)(h1:(s.O j).sk<16)(hn:1≤(s.O j).n)(hP:PM(s.O j).n(s.O j).P):(comp(ZW cK dF bG s j)false).length≤2800:=by
 have e:comp(ZW cK dF bG s j)false=tks false(soT cK dF(s.O j).n(s.O j).P)++(iD true [oM(s.O j).sk]++[]):=rfl
 rw[e]
 have a:=jX false(ajx hn hP)
 have b:=DJ h0 h1 true
 simp only[List.length_append,List.length_nil]
 omega
theorem ajE {s:fT}{j:Nat}(h:L8(s.F j).c=0):(comp(feI cK dF bG s j)false).length≤1600:=by
 obtain⟨h1,h2,h3,h4,h5,h6,_⟩:dL((s.F j).at_ 0)((s.F j).at_ 1)((s.F j).at_ 2)=true∧eP(s.F j).sd=true∧(s.F j).n≤64∧(2≤(s.F j).W∧(s.F j).W≤8∧2≤(s.F j).H∧(s.F j).H≤8)∧(0≤(s.F j).sk∧(s.F j).sk<16)∧(∀q,q<(s.F j).n→oU((s.F j).hs q)=false)∧(s.F j).jM=0∧(kM(bx(s.F j))==0)=true:=(uN(s.F j)).2 h
 have e:comp(feI cK dF bG s j)false=tks false(ZV cK dF(s.F j))++(iD true [oM(s.F j).sk]++[]):=rfl
 rw[e]
 have f:Hz 74(ZV cK dF(s.F j)):=(iC(aW(by decide)(aW(Jz(by omega)(by omega))(aW(Jz(by omega)(by omega))(aW(by decide)iU))))(iC(oQ _ 0)(aW(by decide)(aW(lN _)(aW(by decide)(aoC h6)))))).up(by omega)
 have a:=jX false f
 have b:=DJ h5.1 h5.2 true
 simp only[List.length_append,List.length_nil]
 omega
theorem aeh {s:fT}(h:yP s=0):(x6 cK dF bG s).length≤900000:=by
 have few:=(WE h).2
 unfold yP at h
 obtain⟨h1,h⟩:=c4(by decide)h
 obtain⟨hK,h⟩:=c0 h
 obtain⟨hT,h⟩:=c0 h
 obtain⟨hL,h⟩:=c0 h
 obtain⟨hY,h⟩:=c4(by decide)h
 unfold thE at hT
 obtain⟨hS,hT⟩:=c0 hT
 obtain⟨hO,hF⟩:=c0 hT
 have a0:(x0 cK dF s).length≤316:=DC false(ajy s.eye)
 have a1:=ajz(s:=s)(zm(jC hY))
 have a2:=qZ(E:=fun j=>comp(skI cK s j)false)(m:=400)s.nK fun j hj=>ajA(by omega)(dh _ hK j hj)
 have a3:=qZ(E:=fun j=>comp(lmI cK dF bG s j)false)(m:=200)s.nL fun j hj=>by
  have hl:lmE(s.LA j)(s.LL j)=0:=dh _ hL j hj
  unfold lmE at hl
  obtain⟨_,hl⟩:=c4(by decide)hl
  obtain⟨b2,_⟩:=c4(by decide)hl
  exact ajB(zm(jC b2))
 have a4:=qZ(E:=fun j=>comp(shI cK dF bG s j)false)(m:=320)s.nS fun j hj=>by
  have hm:jG(fC(s.S j).k(s.S j).a(s.S j).sk)=0:=Sl(dh _ hS j hj)
  have:=(kI hm).2.2
  exact ajC this.1 this.2
 have a5:=qZ(E:=fun j=>comp(ZW cK dF bG s j)false)(m:=2800)s.nO fun j hj=>by
  have hm:Nb(s.O j).n(s.O j).P(s.O j).sk=0:=Sl(dh _ hO j hj)
  have hm':=(am3 hm).1
  unfold Nb at hm
  obtain⟨_,hm⟩:=c4(by decide)hm
  obtain⟨b2,_⟩:=c4(by decide)hm
  have:=DK b2
  exact ajD this.1 this.2 hm'.1.1 hm'.2.1
 have a6:=qZ(E:=fun j=>comp(feI cK dF bG s j)false)(m:=1600)s.nF fun j hj=>ajE(Sl(dh _ hF j hj))
 unfold x6 x5 x4 x3 x2 x1
 simp only[List.length_append]
 omega
theorem JB {s:fT}(h:yP s=0):aj Tryz.prog 12 [.agg s.c](cond(w6 cK dF bG s)(.aN [zA⟨#[]⟩,iA 11])(.aN [zA(lB(x6 cK dF bG s)),iA 0])):=WG h(WE h).1(aeh h)
end Go.Proofs.YtefphimaggjihaaGreatDoor.Pi
namespace Go.Proofs.YtefphimaggjihaaGreatDoor.Pi.Rd
open Go.Shelf Go.RowKit Go.Gv
theorem ari:∀d:Fin 10,(UInt8.ofNat(48+d.val)).toNat=48+d.val:=by decide
theorem Gh {d:Nat}(h:d<10):(UInt8.ofNat(48+d)).toNat=48+d:=ari⟨d,h⟩
theorem aaY:∀d:Fin 10,(UInt8.ofNat(48+d.val)=48)↔d.val=0:=by decide
theorem am4:∀(d k:Nat),k<10 ^ (d+1)→ZB(Lib.decDigits k)∧qI(Lib.decDigits k)=(k:Int)∧(1≤(Lib.decDigits k).length∧(Lib.decDigits k).length≤d+1)∧(1≤k→(Lib.decDigits k).head?≠some 48)∧(k<10→(Lib.decDigits k).length=1):=fun d=>by
 have one:∀k,k<10→ZB(Lib.decDigits k)∧qI(Lib.decDigits k)=(k:Int)∧(Lib.decDigits k).length=1∧(1≤k→(Lib.decDigits k).head?≠some 48):=fun k h=>by
  rw[Lib.decDigits_one h]
  refine⟨fun b hb=>?_,?_,rfl,fun h1=>?_⟩
  ·simp only[List.mem_singleton]at hb
   subst hb
   rw[Gh h]
   omega
  ·show dv 0 _=_
   unfold dv
   rw[Gh h]
   omega
  ·simp only[List.head?_cons,ne_eq,Option.some.injEq]
   rw[aaY⟨k,h⟩]
   show ¬k=0
   omega
 induction d with
 |zero =>
  intro k hk
  obtain⟨h1,h2,h3,h4⟩:=one k(by omega)
  exact⟨h1,h2,by omega,h4,fun _=>h3⟩
 |succ d ih =>
  intro k hk
  by_cases h:k<10
  ·obtain⟨h1,h2,h3,h4⟩:=one k h
   exact⟨h1,h2,by omega,h4,fun _=>h3⟩
  ·obtain⟨h1,h2,h3,h4,_⟩:=ih(k / 10)(by rw[Nat.pow_succ]at hk;omega)
   have hm:=Gh(show k % 10<10 by omega)
   rw[Lib.decDigits,dif_neg h]
   refine⟨fun b hb=>?_,?_,?_,fun _=>?_,fun hc=>absurd hc h⟩
   ·rcases List.mem_append.1 hb with hb |hb
    ·exact h1 b hb
    ·simp only[List.mem_singleton]at hb
     subst hb
     rw[hm]
     omega
   ·rw[UN,h2]
    unfold dv
    rw[hm]
    omega
   ·rw[List.length_append,List.length_singleton];omega
   ·have:=h4(by omega)
    cases hx:Lib.decDigits(k / 10)with
    |nil=>rw[hx]at h3;simp at h3
    |cons a r=>rw[hx]at this;exact this
theorem WI(k:Nat):Lib.itoa(k:Int)=Lib.decDigits k:=by
 unfold Lib.itoa
 rw[if_neg(by omega),Int.toNat_natCast]
theorem yg {k:Nat}(h:k<1000000000):Pln(Lib.itoa(k:Int))∧qI(Lib.itoa(k:Int))=(k:Int):=by
 obtain⟨h1,h2,h3,h4,h5⟩:=am4 8 k(by omega)
 rw[WI]
 refine⟨⟨h3.1,h3.2,h1,fun hl=>?_⟩,h2⟩
 refine h4 ?_
 by_cases h':k<10
 ·have:=h5 h';omega
 ·omega
def WH(r:Nat):List UInt8:=Lib.trimRightB((Lib.itoa((1000+r:Nat):Int)).drop 1)48
theorem aaZ(l:List UInt8):Lib.trimRightB(l++[48])48=Lib.trimRightB l 48:=by
 unfold Lib.trimRightB
 rw[List.reverse_append]
 rfl
theorem K9 {l:List UInt8}{b:UInt8}(h:b≠48):Lib.trimRightB(l++[b])48=l++[b]:=by
 unfold Lib.trimRightB
 rw[List.reverse_append]
 show(List.dropWhile(·==48)(b::l.reverse)).reverse=_
 rw[List.dropWhile_cons,if_neg(by simpa using h)]
 simp
theorem d3 {r:Nat}(h:r<1000):(Lib.itoa((1000+r:Nat):Int)).drop 1=[UInt8.ofNat(48+r / 100),UInt8.ofNat(48+r / 10 % 10),UInt8.ofNat(48+r % 10)]:=by
 rw[WI,Lib.decDigits,dif_neg(by omega),Lib.decDigits,dif_neg(by omega),Lib.decDigits,dif_neg(by omega),Lib.decDigits_one(by omega)]
 show [_,_,_]=_
 rw[show(1000+r) / 10 / 10 % 10=r / 100 by omega,show(1000+r) / 10 % 10=r / 10 % 10 by omega,show(1000+r) % 10=r % 10 by omega]
theorem ael {r:Nat}(h0:0<r)(h:r<1000):ZB(WH r)∧WH r≠[]∧(WH r).length≤3∧qI(WH r)*(if(WH r).length=1 then 100 else if(WH r).length=2 then 10 else 1)=(r:Int):=by
 have n1:=Gh(show r / 100<10 by omega)
 have n2:=Gh(show r / 10 % 10<10 by omega)
 have n3:=Gh(show r % 10<10 by omega)
 have z3:=aaY⟨r % 10,by omega⟩
 have z2:=aaY⟨r / 10 % 10,by omega⟩
 have z1:=aaY⟨r / 100,by omega⟩
 simp only at z1 z2 z3
 unfold WH
 rw[d3 h]
 generalize UInt8.ofNat(48+r / 100)=x at *
 generalize UInt8.ofNat(48+r / 10 % 10)=y at *
 generalize UInt8.ofNat(48+r % 10)=w at *
 by_cases c3:w=48
 ·subst c3
  rw[show [x,y,48]=[x,y]++[48]from rfl,aaZ]
  have e3:r % 10=0:=z3.1 rfl
  by_cases c2:y=48
  ·subst c2
   have e2:r / 10 % 10=0:=z2.1 rfl
   rw[show [x,48]=[x]++[48]from rfl,aaZ]
   have c1:x≠48:=fun c=>by have:=z1.1 c;omega
   rw[show [x]=[]++[x]from rfl,K9 c1]
   refine⟨fun b hb=>?_,by simp,by simp,?_⟩
   ·simp at hb;subst hb;omega
   ·simp[qI,dv];omega
  ·rw[show [x,y]=[x]++[y]from rfl,K9 c2]
   refine⟨fun b hb=>?_,by simp,by simp,?_⟩
   ·simp at hb;rcases hb with rfl |rfl<;>omega
   ·simp[qI,dv];omega
 ·rw[show [x,y,w]=[x,y]++[w]from rfl,K9 c3]
  refine⟨fun b hb=>?_,by simp,by simp,?_⟩
  ·simp at hb;rcases hb with rfl |rfl |rfl<;>omega
  ·simp[qI,dv];omega
def ajO(p:List UInt8 × Int):Prop:=aj Tryz.prog 234 [zA(lB p.1)](.aN [iA p.2,bA true])∧-1000000≤p.2∧p.2≤1000000
def arj(m:Int)(p:List UInt8 × Int):Prop:=aj Tryz.prog 245 [zA(lB p.1)](.aN [iA p.2,bA true])∧0≤p.2∧p.2≤m
theorem Xj {n:Int}(h:n.natAbs≤1000000):ajO(cK n,n):=by
 refine⟨?_,by show -1000000≤n;omega,by show n≤1000000;omega⟩
 obtain⟨h1,h2⟩:=yg(k:=n.natAbs / 1000)(by omega)
 have key:∀b:List UInt8,ZB b→b.length≤3→qI b*(if b.length=1 then 100 else if b.length=2 then 10 else 1)=((n.natAbs % 1000:Nat):Int)→dcA n.natAbs=Lib.itoa((n.natAbs / 1000:Nat):Int)++(if b=[]then []else 46::b)→aj Tryz.prog 234 [zA(lB(cK n))](.aN [iA n,bA true]):=fun b hb hl hv hd=>by
  have e1:cK n=adG(decide(n<0))(Lib.itoa((n.natAbs / 1000:Nat):Int))b:=by
   unfold cK adG sg
   rw[hd]
   by_cases h0:n<0
   ·simp[h0]
   ·simp[h0]
  have e2:adH(decide(n<0))(Lib.itoa((n.natAbs / 1000:Nat):Int))b=n:=by
   unfold adH
   rw[hv,h2]
   by_cases h0:n<0
   ·simp only[h0,decide_true,if_true];omega
   ·simp only[h0,decide_false,Bool.false_eq_true,if_false];omega
  have:=RJ(neg:=decide(n<0))h1 hb hl
  rw[←e1,e2]at this
  exact this
 by_cases hr:n.natAbs % 1000=0
 ·refine key [](fun _ h=>by cases h)(by simp)(by rw[hr];rfl) ?_
  unfold dcA
  rw[if_pos hr]
  rfl
 ·obtain⟨g1,g2,g3,g4⟩:=ael(r:=n.natAbs % 1000)(by omega)(by omega)
  refine key _ g1 g3 g4 ?_
  unfold dcA
  rw[if_neg hr,if_neg g2]
  rfl
theorem ark {k:Nat}(h:k≤1000):ajO(Lib.itoa(k:Int),(k:Int)*1000):=by
 obtain⟨h1,h2⟩:=yg(k:=k)(by omega)
 refine⟨?_,by show -1000000≤(k:Int)*1000;omega,by show(k:Int)*1000≤1000000;omega⟩
 have:=RJ(neg:=false)(b:=[])h1(fun _ h=>by cases h)(by simp)
 unfold adG adH sg at this
 simp[h2]at this
 simpa[qI]using this
theorem arl {k:Nat}{m:Int}(h:(k:Int)≤m)(hm:m≤100000000):arj m(Lib.itoa(k:Int),(k:Int)):=by
 obtain⟨h1,h2⟩:=yg(k:=k)(by omega)
 have:=VU h1
 rw[h2]at this
 exact⟨this,by show 0≤(k:Int);omega,h⟩
theorem I8 {b:UInt8}(h:48≤b.toNat∧b.toNat≤57):inW b=true:=by
 unfold inW iwB dgB
 rw[decide_eq_true(show(48:Int)≤(b.toNat:Int)by omega),decide_eq_true(show((b.toNat:Nat):Int)≤57 by omega),decide_eq_true(show b.toNat<128 by omega)]
 cases ltB(b.toNat:Int)<;>rfl
theorem alZ {l:List UInt8}(h:ZB l)(h0:l≠[]):xq l:=Or.inl⟨h0,fun b hb=>I8(h b hb)⟩
theorem YD {k:Nat}(h:k<1000000000):xq(Lib.itoa(k:Int)):=by
 obtain⟨h1,_⟩:=yg h
 exact alZ h1.d(fun e=>by have:=h1.n;rw[e]at this;simp at this)
theorem YE:inW 46=true∧inW 45=true∧inW 115=true:=by decide
theorem YF {n:Int}(h:n.natAbs≤1000000):xq(cK n):=by
 refine Or.inl⟨(zk n(by omega)).1,fun b hb=>?_⟩
 obtain⟨h1,_⟩:=yg(k:=n.natAbs / 1000)(by omega)
 unfold cK dcA at hb
 rcases List.mem_append.1 hb with hb |hb
 ·split at hb
  ·simp at hb;subst hb;exact YE.2.1
  ·cases hb
 ·rcases List.mem_append.1 hb with hb |hb
  ·exact I8(h1.d b hb)
  ·split at hb
   ·cases hb
   ·rename_i hr
    rcases List.mem_cons.1 hb with rfl |hb
    ·exact YE.1
    ·exact I8((ael(r:=n.natAbs % 1000)(by omega)(by omega)).1 b hb)
theorem arJ {k:Nat}(h:k<1000000000):xq(oM(k:Int)):=by
 obtain⟨h1,_⟩:=yg h
 refine Or.inl⟨by unfold oM;simp,fun b hb=>?_⟩
 unfold oM at hb
 rcases List.mem_cons.1 hb with rfl |hb
 ·exact YE.2.2
 ·exact I8(h1.d b hb)
def Low(l:List UInt8):Bool:=!l.isEmpty&&l.all inW
theorem al0 {l:List UInt8}(h:Low l=true):xq l:=by
 unfold Low at h
 simp only[Bool.and_eq_true,Bool.not_eq_true',List.all_eq_true]at h
 exact Or.inl⟨fun e=>by rw[e]at h;simp at h,h.2⟩
theorem QU {c:UInt8}(h:Pnc c):xq [c]:=Or.inr⟨c,h,rfl⟩
theorem aa7:∀(w:List UInt8) {F pre:List UInt8}(n:Nat),F=pre++w→1≤n→ZB w→Nms(lB F)pre.length n w.length
 | [],F,pre,n,hF,_,_=>by show(lB F).size≤pre.length;rw[aY,hF];simp
 |b::w,F,pre,n,hF,hn,h=>by
  have hb:=h b(by simp)
  obtain⟨h1,h2,h3⟩:=Ld(F:=F)(pre:=pre)(rest:=w)(b:=b)hF(by omega)
  refine⟨h1,?_,?_⟩
  ·rw[h2]
   unfold nlB dgB
   rw[decide_eq_true(show(48:Int)≤(b.toNat:Int)by omega),decide_eq_true(show((b.toNat:Nat):Int)≤57 by omega),beq_false_of_ne(show((n:Nat):Int)≠0 by omega)]
   cases ltB(b.toNat:Int)<;>rfl
  ·have ih:=aa7 w(F:=F)(pre:=pre++[b])(n+1)(by rw[hF];simp)(by omega)fun x hx=>h x(by simp[hx])
   rw[List.length_append,List.length_singleton]at ih
   rw[h3]
   exact ih
theorem aa8 {k:Nat}(h:k<1000000000):aj Tryz.prog 237 [zA(lB(oM(k:Int)))](bA true):=by
 obtain⟨h1,_⟩:=yg h
 have hm:=h1.m
 refine abD(k:=1+(Lib.itoa(k:Int)).length)(by omega)(by omega) ?_
 obtain⟨g1,g2,g3⟩:=Ld(F:=oM(k:Int))(pre:=[])(rest:=Lib.itoa(k:Int))(b:=115)rfl(by decide)
 rw[Nat.add_comm]
 refine⟨g1,?_,?_⟩
 ·show nlB(Dh _ 0)_=false
  have g2:Dh(lB(oM(k:Int)))0=((115:UInt8).toNat:Int):=g2
  rw[g2]
  decide
 ·have g3:yT(lB(oM(k:Int)))0=1:=g3
  rw[g3]
  exact aa7(Lib.itoa(k:Int))(F:=oM(k:Int))(pre:=[115])1 rfl(Nat.le_refl _)h1.d
theorem arM {j k:Nat}(hj:j<1000000000)(hk:k<1000000000)(h:Lib.itoa(j:Int)=Lib.itoa(k:Int)):j=k:=by
 have h1:=(yg hj).2
 have h2:=(yg hk).2
 rw[h,h2]at h1
 omega
abbrev TP:=List UInt8 × Int
def At(t:Tk):Nat→List TP→Prop
 |a,[]=>a≤t.n∧t.n≤1000000
 |a,p::r=>(t.T a=lB p.1∧t.N a=p.2)∧At t(a+1)r
theorem At.le {t:Tk}:∀{l:List TP}{a:Nat},At t a l→a+l.length≤t.n∧t.n≤1000000
 | [],_,h=>h
 |_::r,a,h=>by have:=At.le h.2;rw[List.length_cons];omega
theorem At.has {t:Tk}{l:List TP}{a:Nat}(h:At t a l)(k:Nat)(hk:k≤l.length):Has t a k:=⟨by have:=h.le;omega,h.le.2⟩
theorem At.app {t:Tk}:∀{x y:List TP}{a:Nat},At t a(x++y)→At t a x∧At t(a+x.length)y
 | [],y,a,h=>⟨⟨by have:=h.le;omega,h.le.2⟩,h⟩
 |p::r,y,a,h=>by
  obtain⟨h1,h2⟩:=At.app(x:=r)h.2
  refine⟨⟨h.1,h1⟩,?_⟩
  rw[List.length_cons,show a+(r.length+1)=a+1+r.length by omega]
  exact h2
theorem At.get {t:Tk}:∀{l:List TP}{a i:Nat}{p:TP},At t a l→l[i]?=some p→t.T(a+i)=lB p.1∧t.N(a+i)=p.2
 | [],_,_,_,_,h=>by simp at h
 |q::r,a,0,p,h,hp=>by simp at hp;subst hp;exact h.1
 |q::r,a,i+1,p,h,hp=>by
  have:=At.get(l:=r)h.2(i:=i)(p:=p)(by simpa using hp)
  rw[show a+(i+1)=a+1+i by omega]
  exact this
theorem At.is {t:Tk}{l:List TP}{a i:Nat}{w:List UInt8}{x:Int}(h:At t a l)(hp:l[i]?=some(w,x)):Is t(a+i)w:=(h.get hp).1
theorem At.num {t:Tk}{l:List TP}{a i:Nat}{p:TP}(h:At t a l)(hp:l[i]?=some p)(hn:ajO p):mY t(a+i):=by
 obtain⟨h1,h2⟩:=h.get hp
 unfold mY
 rw[h1,h2]
 exact hn
theorem At.who {t:Tk}{l:List TP}{a i:Nat}{p:TP}{m:Int}(h:At t a l)(hp:l[i]?=some p)(hn:arj m p):BU t m(a+i):=by
 obtain⟨h1,h2⟩:=h.get hp
 unfold BU
 rw[h1,h2]
 exact hn
def abL(ps:List TP):Tk:=⟨ps.length,fun q=>(ps.map fun p=>lB p.1).getD q eB,fun q=>(ps.map Prod.snd).getD q 0⟩
theorem anq:∀(r pre:List TP) {ps:List TP},ps=pre++r→ps.length≤1000000→At(abL ps)pre.length r
 | [],pre,ps,h,hl=>⟨by show pre.length≤ps.length;rw[h];simp,hl⟩
 |p::r,pre,ps,h,hl=>by
  refine⟨⟨?_,?_⟩,?_⟩
  ·show(ps.map fun p=>lB p.1).getD pre.length eB=lB p.1
   rw[h,List.getD_eq_getElem?_getD,List.map_append,List.getElem?_append_right(by simp)]
   simp
  ·show(ps.map Prod.snd).getD pre.length 0=p.2
   rw[h,List.getD_eq_getElem?_getD,List.map_append,List.getElem?_append_right(by simp)]
   simp
  ·have:=anq r(pre++[p])(ps:=ps)(by rw[h];simp)hl
   rw[List.length_append,List.length_singleton]at this
   exact this
open Hs.So (dM pQ)
open Hs.Sc (fT)
def nP(x:Nat):TP:=(cK(dF x),dF x)
def vP(a:Nat→Nat)(i:Nat):List TP:=[nP(a i),nP(a(i+1)),nP(a(i+2))]
def hP(f:Nat→Int):List TP:=[(Lib.itoa(f 0),f 0),(Lib.itoa(f 1),f 1),(Lib.itoa(f 2),f 2)]
def kP(w:List UInt8):TP:=(w,0)
def LZ(k:Int):TP:=(oM k,0)
def eyP(e:Nat→Nat):List TP:=kP FD::(vP e 0++(kP [116,111]::(vP e 3++(kP [117,112]::(vP e 6++[kP [119,105,100,101],nP(e 9)])))))
def Jw(f:Nat→Int):List TP:=kP FE::hP f
def skP(f g h:Nat→Int)(bd k:Int):List TP:=[kP W1,LZ k,kP W2]++(hP f++(kP W3::(hP g++(kP W4::(hP h++[kP W5,(cK bd,bd)])))))
def lmP(a:Nat→Nat)(f:Nat→Int):List TP:=kP [108,97,109,112]::(vP a 0++(kP [108,105,103,104,116]::hP f))
def Wz(w t:List UInt8)(a:Nat→Nat):List TP:=kP w::(vP a 0++(kP t::(vP a 3++[kP L6,nP(a 9)])))
def Av(k:Int)(a:Nat→Nat):List TP:=if k=1 then kP [98,97,108,108]::(vP a 0++[kP L6,nP(a 9)])else if k=2 then kP [98,108,111,99,107]::(vP a 0++(kP [116,111]::vP a 3))else if k=3 then kP [116,114,105]::(vP a 0++(kP [44]::(vP a 3++(kP [44]::vP a 6))))else if k=4 then Wz [112,108,97,116,101] [117,112]a else if k=5 then Wz [116,117,98,101] [97,108,111,110,103]a else Wz [114,105,110,103] [117,112]a++[nP(a 10)]
def BO(P:Nat→dM):Nat→Nat→List TP
 | 0,_=>[]
 |f+1,i=>if(P i).op=0 then Av(P i).k(P i).a else [kP(zi(P i).op),kP [123]]++(BO P f(P i).l.toNat++(BO P f(P i).r.toNat++[kP [125]]))
def soP(n:Nat)(P:Nat→dM):List TP:=kP soW::cond(FH n P)(BO P n(n - 1)) []
def hiP(hs:Nat→Int)(j:Nat):List TP:=(List.range j).map fun q=>(cK(hs q),hs q)
def ZU(F:Hs.Fm.Fd):List TP:=[kP [102,105,101,108,100],(Lib.itoa F.W,F.W*1000),(Lib.itoa F.H,F.H*1000),kP [97,116]]++(vP F.at_ 0++(kP [115,105,100,101]::(nP F.sd::(kP [104,105,103,104]::hiP F.hs F.n))))
theorem am0(k:Int)(a:Nat→Nat):(Av k a).map Prod.fst=yE cK dF k a:=by
 unfold Av yE
 repeat' split
 all_goals rfl
theorem aea(P:Nat→dM):∀f i,(BO P f i).map Prod.fst=FI cK dF P f i
 | 0,_=>rfl
 |f+1,i=>by
  unfold BO FI
  split
  ·exact am0 _ _
  ·rw[List.map_append,List.map_append,List.map_append,aea P f,aea P f]
   rfl
theorem au9(n:Nat)(P:Nat→dM):(soP n P).map Prod.fst=soT cK dF n P:=by
 unfold soP soT
 rw[List.map_cons]
 cases FH n P
 ·rfl
 ·show _::(BO P n(n - 1)).map Prod.fst=_
  rw[aea]
  rfl
theorem ava(F:Hs.Fm.Fd):(ZU F).map Prod.fst=ZV cK dF F:=by
 unfold ZU ZV
 simp only[List.map_append,List.map_cons]
 have:(hiP F.hs F.n).map Prod.fst=vJ cK F F.n:=by
  unfold hiP vJ
  rw[List.map_map]
  rfl
 rw[this]
 rfl
section
variable(s:fT)
def ln1:List(List TP):=[eyP s.eye,Jw s.jE]
def ln2(j:Nat):List TP:=skP(s.K j)(fun q=>s.K j(3+q))(fun q=>s.K j(6+q))(s.K j 9)(j:Nat)
def ln3(j:Nat):List TP:=lmP(s.LA j)(s.LL j)
def ln4(j:Nat):List TP:=Av(s.S j).k(s.S j).a++[LZ(s.S j).sk]
def ln5(j:Nat):List TP:=soP(s.O j).n(s.O j).P++[LZ(s.O j).sk]
def ln6(j:Nat):List TP:=ZU(s.F j)++[LZ(s.F j).sk]
def lns:List(List TP):=ln1 s++((List.range s.nK).map(ln2 s)++((List.range s.nL).map(ln3 s)++((List.range s.nS).map(ln4 s)++((List.range s.nO).map(ln5 s)++(List.range s.nF).map(ln6 s)))))
def Dx(l:List TP):List UInt8:=Dy(l.map Prod.fst)
theorem vM(E:Nat→List UInt8)(L:Nat→List TP)(h:∀j,E j=Dx(L j)):∀n,bY E n=((List.range n).map L).flatMap Dx
 | 0=>rfl
 |n+1=>by
  rw[List.range_succ,List.map_append,List.flatMap_append,←vM E L h n]
  show _++E n=_
  rw[h]
  simp
theorem WA {A:List(List UInt8)}(h:A≠[])(k:Int):tks false A++(iD true [oM k]++[])=Dy(A++[oM k]):=by
 show _++((tks true([oM k]++[[59]])++[10])++[])=tks false(A++[oM k]++[[59]])++[10]
 rw[List.append_nil,List.append_assoc,qK A _ false h,List.append_assoc]
theorem WB(k:Int)(a:Nat→Nat):yE cK dF k a≠[]:=by
 unfold yE
 repeat' split
 all_goals exact fun h=>by cases h
theorem Dz:x6 cK dF bG s=(lns s).flatMap Dx:=by
 have e2:∀j,comp(skI cK s j)false=Dx(ln2 s j):=fun j=>List.append_nil _
 have e3:∀j,comp(lmI cK dF bG s j)false=Dx(ln3 s j):=fun j=>List.append_nil _
 have e4:∀j,comp(shI cK dF bG s j)false=Dx(ln4 s j):=fun j=>by
  unfold Dx ln4
  rw[List.map_append,am0]
  exact WA(WB _ _)_
 have e5:∀j,comp(ZW cK dF bG s j)false=Dx(ln5 s j):=fun j=>by
  unfold Dx ln5
  rw[List.map_append,au9]
  exact WA(fun h=>by cases h)_
 have e6:∀j,comp(feI cK dF bG s j)false=Dx(ln6 s j):=fun j=>by
  unfold Dx ln6
  rw[List.map_append,ava]
  exact WA(fun h=>by cases h)_
 have e1:comp(yN s)false=Dx(Jw s.jE):=by
  show tks false [FE]++(tks true(Bz s.jE)++((tks true [[59]]++[10])++[]))=tks false(FE::Bz s.jE++[[59]])++[10]
  have:=qK [FE](Bz s.jE++[[59]])false(by simp)
  rw[List.append_nil,show FE::Bz s.jE++[[59]]=[FE]++(Bz s.jE++[[59]])from rfl,this,rJ,List.append_assoc,List.append_assoc]
 unfold x6 x5 x4 x3 x2 x1 x0 lns ln1
 rw[vM _ _ e2,vM _ _ e3,vM _ _ e4,vM _ _ e5,vM _ _ e6,e1]
 simp only[List.flatMap_append,List.append_assoc]
 rw[List.flatMap_cons,List.flatMap_cons,List.flatMap_nil,List.append_nil,List.append_assoc]
 rfl
def yO:List TP:=(lns s).flatMap fun l=>l++[kP [59]]
theorem aoA:(yO s).map Prod.fst=((lns s).map fun l=>l.map Prod.fst).flatMap Sg:=by
 unfold yO
 rw[List.map_flatMap,List.flatMap_map]
 congr 1
 funext l
 rw[List.map_append]
 rfl
end
theorem avb {s:fT}(h:∀l,l∈lns s→∀p,p∈l→xq p.1):Cut(lB(x6 cK dF bG s))0((yO s).map fun p=>lB p.1):=by
 have:=M9((lns s).map fun l=>l.map Prod.fst)(fun ts hts t ht=>by
  obtain⟨l,hl,rfl⟩:=List.mem_map.1 hts
  obtain⟨p,hp,rfl⟩:=List.mem_map.1 ht
  exact h l hl p hp)(F:=x6 cK dF bG s)(pre:=[])(by rw[Dz,List.flatMap_map];rfl)
 rw[←aoA,List.map_map]at this
 exact this
theorem avc {s:fT}(h:∀l,l∈lns s→∀p,p∈l→xq p.1)(hl:(yO s).length≤1000000):aj Tryz.prog 25 [zA(lB(x6 cK dF bG s))](Wq(abL(yO s))):=by
 have:=Si(avb h)(by rw[List.length_map];exact hl)
 rw[List.length_map]at this
 exact this
end Go.Proofs.YtefphimaggjihaaGreatDoor.Pi.Rd
namespace Go.Proofs.YtefphimaggjihaaGreatDoor.Pi.Rd
open Go.Shelf Go.RowKit Go.Gv
open Hs.So (dM pQ)
open Hs (fC)
def Z0(z:Nat→Int):Prop:=z 24=0∧z 25=0∧z 26=0
theorem qp(x:Nat):(dF x).natAbs≤1000000:=by
 cases h:bG x
 ·unfold dF
  rw[h]
  show(0:Int).natAbs≤_
  decide
 ·exact(OX h).1
theorem CG(x:Nat):ajO(nP x):=Xj(qp x)
def dW(x:Nat):Nat:=yI(dF x)
def rd(b:Nat→Nat)(q:Nat):Nat:=dW(b q)
def cX(k:Int)(a:Nat→Nat):Nat→Nat:=if k=1 then t1 a else if k=2 then t2 a else if k=3 then t3 a else if k=4 then t4 a else if k=5 then t4 a else t6 a
section
variable {t:Tk}{a:Nat}{z:Nat→Int}{b:Nat→Nat}{l:List TP}
theorem qE {i0:Nat}(h:At t a(vP b i0++l))(hz:Z0 z):FU t z a∧∀i,i<3→fS t z yI a i=dW(b(i0+i)):=by
 have key:∀i,i<3→(vP b i0++l)[i]?=some(nP(b(i0+i))):=fun i hi=>by
  match i,hi with
  | 0,_=>rfl
  | 1,_=>rfl
  | 2,_=>rfl
 have hs:∀i,i<3→Iy t z a i=dF(b(i0+i)):=fun i hi=>by
  have e:=(h.get(key i hi)).2
  have e:t.N(a+i)=dF(b(i0+i)):=e
  have hf:=qp(b(i0+i))
  have ez:z(24+i)=0:=by
   match i,hi with
   | 0,_=>exact hz.1
   | 1,_=>exact hz.2.1
   | 2,_=>exact hz.2.2
  unfold Iy
  rw[e,ez,aO(by omega)(by omega)]
  omega
 refine⟨fun i hi=>⟨h.num(key i hi)(CG _),?_⟩,fun i hi=>?_⟩
 ·rw[hs i hi]
  have hf:=qp(b(i0+i))
  omega
 ·unfold fS
  rw[hs i hi]
  rfl
theorem aeU {i0:Nat}(h:At t a(vP b i0++l)):(∀i,i<3→mY t(a+i))∧∀i,i<3→fN t yI(a+i)=dW(b(i0+i)):=by
 have key:∀i,i<3→(vP b i0++l)[i]?=some(nP(b(i0+i))):=fun i hi=>by
  match i,hi with
  | 0,_=>rfl
  | 1,_=>rfl
  | 2,_=>rfl
 refine⟨fun i hi=>h.num(key i hi)(CG _),fun i hi=>?_⟩
 unfold fN
 rw[(h.get(key i hi)).2]
 rfl
theorem Nr {i:Nat}{x:Nat}(h:At t a l)(hp:l[i]?=some(nP x)):fN t yI(a+i)=dW x:=by
 unfold fN
 rw[(h.get hp).2]
 rfl
theorem aeV(h:At t a(Av 1 b++l))(hz:Z0 z):Lf t 187 [](.agg(fC 1(cX 1(rd b))0))(a+1)5 z z:=by
 have hB:At t(a+1)(vP b 0++([kP L6,nP(b 9)]++l)):=h.2
 obtain⟨p1,p2⟩:=qE hB hz
 have e:=abW(hB.has 5(by simp[vP]))p1(hB.is(i:=3)rfl)(hB.num(i:=4)rfl(CG _))
 unfold cBa at e
 rw[p2 0(by omega),p2 1(by omega),p2 2(by omega),Nr hB(i:=4)rfl]at e
 exact e
theorem aeW(h:At t a(Av 2 b++l))(hz:Z0 z):Lf t 188 [](.agg(fC 2(cX 2(rd b))0))(a+1)7 z z:=by
 have hB:At t(a+1)(vP b 0++((kP [116,111]::vP b 3)++l)):=h.2
 have hC:At t(a+1+4)(vP b 3++l):=(At.app(x:=vP b 0++[kP [116,111]])(y:=vP b 3++l)hB).2
 obtain⟨p1,p2⟩:=qE hB hz
 obtain⟨q1,q2⟩:=qE hC hz
 have e:=Xk(hB.has 7(by simp[vP]))p1(hB.is(i:=3)rfl)q1
 unfold cBk at e
 rw[p2 0(by omega),p2 1(by omega),p2 2(by omega),q2 0(by omega),q2 1(by omega),q2 2(by omega)]at e
 exact e
theorem aoU(h:At t a(Av 3 b++l))(hz:Z0 z):Lf t 190 [](.agg(fC 3(cX 3(rd b))0))(a+1)11 z z:=by
 have hB:At t(a+1)(vP b 0++((kP [44]::(vP b 3++(kP [44]::vP b 6)))++l)):=h.2
 have hC:At t(a+1+4)(vP b 3++((kP [44]::vP b 6)++l)):=(At.app(x:=vP b 0++[kP [44]])(y:=vP b 3++((kP [44]::vP b 6)++l))hB).2
 have hD:At t(a+1+8)(vP b 6++l):=(At.app(x:=vP b 0++[kP [44]]++vP b 3++[kP [44]])(y:=vP b 6++l)hB).2
 obtain⟨p1,p2⟩:=qE hB hz
 obtain⟨q1,q2⟩:=qE hC hz
 obtain⟨r1,r2⟩:=qE hD hz
 have e:=aeX(hB.has 11(by simp[vP]))p1(hB.is(i:=3)rfl)q1(hB.is(i:=7)rfl)r1
 unfold cTr at e
 rw[p2 0(by omega),p2 1(by omega),p2 2(by omega),q2 0(by omega),q2 1(by omega),q2 2(by omega),r2 0(by omega),r2 1(by omega),r2 2(by omega)]at e
 exact e
theorem Xl {w u:List UInt8}{k:Int}(h:At t a(Wz w u b++l))(hz:Z0 z):Lf t 220 [iA k,zA(lB u)](.agg(fC k(t4(rd b))0))(a+1)9 z z∧VA t z yI k(a+1)=fC k(t4(rd b))0:=by
 have hB:At t(a+1)(vP b 0++((kP u::(vP b 3++[kP L6,nP(b 9)]))++l)):=h.2
 have hC:At t(a+1+4)(vP b 3++([kP L6,nP(b 9)]++l)):=(At.app(x:=vP b 0++[kP u])(y:=vP b 3++([kP L6,nP(b 9)]++l))hB).2
 obtain⟨p1,p2⟩:=qE hB hz
 obtain⟨q1,q2⟩:=aeU hC
 have e:=CJ(k:=k)(hB.has 9(by simp[vP]))p1(hB.is(i:=3)rfl)q1(hB.is(i:=7)rfl)(hB.num(i:=8)rfl(CG _))
 have ec:VA t z yI k(a+1)=fC k(t4(rd b))0:=by
  have q0:fN t yI(a+1+4)=dW(b 3):=q2 0(by omega)
  have q1:fN t yI(a+1+5)=dW(b 4):=q2 1(by omega)
  have q3:fN t yI(a+1+6)=dW(b 5):=q2 2(by omega)
  unfold VA
  rw[p2 0(by omega),p2 1(by omega),p2 2(by omega),q0,q1,q3,Nr hB(i:=8)rfl]
  rfl
 rw[ec]at e
 exact⟨e,ec⟩
theorem aoV(h:At t a(Av 4 b++l))(hz:Z0 z):Lf t 191 [](.agg(fC 4(cX 4(rd b))0))(a+1)9 z z:=by
 have h:At t a(Wz [112,108,97,116,101] [117,112]b++l):=h
 obtain⟨e,ec⟩:=Xl(k:=4)h hz
 have:=Xm(t:=t)(z:=z)(a:=a+1)(by rw[ec];exact e)
 rw[ec]at this
 exact this
theorem aeY(h:At t a(Av 5 b++l))(hz:Z0 z):Lf t 189 [](.agg(fC 5(cX 5(rd b))0))(a+1)9 z z:=by
 have h:At t a(Wz [116,117,98,101] [97,108,111,110,103]b++l):=h
 obtain⟨e,ec⟩:=Xl(k:=5)h hz
 have:=abX(t:=t)(z:=z)(a:=a+1)(by rw[ec];exact e)
 rw[ec]at this
 exact this
theorem aoW(h:At t a(Av 6 b++l))(hz:Z0 z):Lf t 192 [](.agg(fC 6(cX 6(rd b))0))(a+1)10 z z:=by
 have h:At t a(Wz [114,105,110,103] [117,112]b++([nP(b 10)]++l)):=by
  have h:At t a((Wz [114,105,110,103] [117,112]b++[nP(b 10)])++l):=h
  rwa [List.append_assoc]at h
 obtain⟨e,ec⟩:=Xl(k:=6)h hz
 have hB:At t(a+1)(vP b 0++((kP [117,112]::(vP b 3++[kP L6,nP(b 9)]))++([nP(b 10)]++l))):=h.2
 have:=abY(t:=t)(z:=z)(a:=a+1)(by rw[ec];exact e)⟨by have:=(hB.has 10(by simp[vP])).1;omega,hB.le.2⟩(hB.num(i:=9)rfl(CG _))
 have er:cRi t z yI(a+1)=fC 6(cX 6(rd b))0:=by
  have h10:fN t yI(a+1+9)=dW(b 10):=Nr hB(i:=9)rfl
  have hC:At t(a+1+4)(vP b 3++([kP L6,nP(b 9)]++([nP(b 10)]++l))):=(At.app(x:=vP b 0++[kP [117,112]])(y:=vP b 3++([kP L6,nP(b 9)]++([nP(b 10)]++l)))hB).2
  obtain⟨p1,p2⟩:=qE hB hz
  obtain⟨q1,q2⟩:=aeU hC
  have q0:fN t yI(a+1+4)=dW(b 3):=q2 0(by omega)
  have q1:fN t yI(a+1+5)=dW(b 4):=q2 1(by omega)
  have q3:fN t yI(a+1+6)=dW(b 5):=q2 2(by omega)
  unfold cRi
  rw[h10,p2 0(by omega),p2 1(by omega),p2 2(by omega),q0,q1,q3,Nr hB(i:=8)rfl]
  rfl
 rw[er]at this
 exact this
theorem aoX {k:Int}(hk:1≤k∧k≤6)(h:At t a(Av k b++l))(hz:Z0 z):Tj t z a k(cX k(rd b))(Av k b).length:=by
 have hk':k=1∨k=2∨k=3∨k=4∨k=5∨k=6:=by omega
 rcases hk' with rfl |rfl |rfl |rfl |rfl |rfl
 ·exact .ba(h.has 1(by simp[Av]))(h.is(i:=0)rfl)(aeV h hz)
 ·exact .bk(h.has 1(by simp[Av]))(h.is(i:=0)rfl)(aeW h hz)
 ·exact .tr(h.has 1(by simp[Av]))(h.is(i:=0)rfl)(aoU h hz)
 ·exact .pl(h.has 1(by simp[Av,Wz]))(h.is(i:=0)rfl)(aoV h hz)
 ·exact .tu(h.has 1(by simp[Av,Wz]))(h.is(i:=0)rfl)(aeY h hz)
 ·exact .ri(h.has 1(by simp[Av,Wz]))(h.is(i:=0)rfl)(aoW h hz)
theorem Z0.set(hz:Z0 z) {i:Nat}(hi:i<24∨26<i)(x:Int):Z0(dw z i x):=by
 have key:∀q,24≤q→q≤26→dw z i x q=z q:=fun q h1 h2=>by
  unfold dw
  rw[show Nat.beq q i=false from by
   cases hb:Nat.beq q i
   ·rfl
   ·have:=Nat.eq_of_beq_eq_true hb;omega]
  rfl
 exact⟨(key 24(by omega)(by omega)).trans hz.1,(key 25(by omega)(by omega)).trans hz.2.1,(key 26(by omega)(by omega)).trans hz.2.2⟩
theorem aoY {k:Int}(hk:k=1∨k=2∨k=5)(h:At t a(Av k b++l))(hz:Z0 z):abF t z a k(cX k(rd b))(Av k b).length:=by
 rcases hk with rfl |rfl |rfl
 ·exact .ba(h.has 1(by simp[Av]))(h.is(i:=0)rfl)fun x=>aeV h(hz.set(Or.inr(by omega))x)
 ·exact .bk(h.has 1(by simp[Av]))(h.is(i:=0)rfl)fun x=>aeW h(hz.set(Or.inr(by omega))x)
 ·exact .tu(h.has 1(by simp[Av,Wz]))(h.is(i:=0)rfl)fun x=>aeY h(hz.set(Or.inr(by omega))x)
end
variable {P:Nat→dM}
def Vm(P:Nat→dM)(k:Nat):Int:=(sd P(k+1)).1 k
def L9(P:Nat→dM)(k:Nat):Int:=(sd P(k+1)).2 k
theorem Fb {j:Nat}:∀{n:Nat},j<n→(sd P n).1 j=Vm P j∧(sd P n).2 j=L9 P j:=fun {n} h=>by
 induction n with
 |zero=>omega
 |succ n ih =>
  by_cases hj:j=n
  ·subst hj;exact⟨rfl,rfl⟩
  ·obtain⟨h1,h2⟩:=ih(by omega)
   rw[kU]
   by_cases h0:(P n).op=0
   ·rw[if_pos h0]
    exact⟨by show upd _ n 1 j=_;unfold upd;rw[if_neg hj];exact h1,h2⟩
   ·rw[if_neg h0]
    exact⟨by show upd _ n _ j=_;unfold upd;rw[if_neg hj];exact h1,by show upd _ n _ j=_;unfold upd;rw[if_neg hj];exact h2⟩
theorem Zk:∀(j q:Nat),j≤q→(sd P j).2 q=0
 | 0,_,_=>rfl
 |j+1,q,h=>by
  rw[kU]
  split
  ·exact Zk j q(by omega)
  ·show upd _ j _ q=0
   unfold upd
   rw[if_neg(by omega)]
   exact Zk j q(by omega)
theorem LP {k:Nat}(h0:(P k).op=0):Vm P k=1∧L9 P k=0:=by
 unfold Vm L9
 rw[kU,if_pos h0]
 exact⟨if_pos rfl,Zk k k(Nat.le_refl _)⟩
theorem DL {k:Nat}(h0:(P k).op≠0)(l0:0≤(P k).l)(l1:(P k).l<(k:Nat))(_:0≤(P k).r)(r1:(P k).r<(k:Nat)):Vm P k=1+(Vm P(P k).l.toNat+Vm P(P k).r.toNat)∧L9 P k=1+mx(L9 P(P k).l.toNat)(L9 P(P k).r.toNat):=by
 obtain⟨a1,a2⟩:=Fb(P:=P)(j:=(P k).l.toNat)(n:=k)(by omega)
 obtain⟨b1,b2⟩:=Fb(P:=P)(j:=(P k).r.toNat)(n:=k)(by omega)
 rw[←a1,←a2,←b1,←b2]
 unfold Vm L9
 rw[kU,if_neg h0]
 exact⟨if_pos rfl,if_pos rfl⟩
theorem air(k:Nat):0≤Vm P k:=(qw P(k+1)k).1.1
theorem Pn(k:Nat):0≤L9 P k:=(qw P(k+1)k).2.1
theorem aen {a b M:Int}(h:mx a b≤M):a≤M∧b≤M:=by unfold mx at h;split at h<;>omega
def sJ(p:dM):dM:=if p.op=0 then⟨0,0,0,p.k,cX p.k(rd p.a),0⟩else⟨p.op,p.l,p.r,0,fun _=>0,0⟩
theorem Jb {n k:Nat}(hP:PM n P)(hk:k<n):1≤Vm P k:=by
 by_cases h0:(P k).op=0
 ·rw[(LP h0).1];omega
 ·rcases hP k hk with h | ⟨_,h2,h3⟩
  ·exact absurd h h0
  ·rw[(DL h0 h2.1 h2.2 h3.1 h3.2).1]
   have:=air(P:=P)(P k).l.toNat
   have:=air(P:=P)(P k).r.toNat
   omega
theorem Y8 {t:Tk}{z:Nat→Int}{n:Nat}(hn:n≤16)(hP:PM n P)(hz:Z0 z)(hS:∀i,i<n→(P i).op=0→(P i).k=1∨(P i).k=2∨(P i).k=5):∀(f k:Nat)(fr:Nat)(d a:Nat)(l:List TP),k<f→k<n→fr≤k→(∀j,fr≤j→j≤k→okJ P j)→Vm P k=(k:Int) - fr+1→L9 P k≤(d:Nat) →
  At t a(BO P f k++l)→Wj t z(fun i=>sJ(P i))d a fr(a+(BO P f k).length)(k+1)
 | 0,_,_,_,_,_,h,_,_,_,_,_,_=>absurd h(Nat.not_lt_zero _)
 |f+1,k,fr,d,a,l,hf,hk,hfr,hok,hsz,hd,hA=>by
  by_cases h0:(P k).op=0
  ·have e:fr=k:=by have:=(LP h0).1;omega
   subst e
   have ep:BO P(f+1)fr=Av(P fr).k(P fr).a:=by show(if _ then _ else _)=_;rw[if_pos h0]
   rw[ep]at hA ⊢
   exact .leaf(aoY(hS fr hk h0)hA hz)(by show sJ _=_;unfold sJ;rw[if_pos h0])(by omega)
  ·have ep:BO P(f+1)k=[kP(zi(P k).op),kP [123]]++(BO P f(P k).l.toNat++(BO P f(P k).r.toNat++[kP [125]])):=by show(if _ then _ else _)=_;rw[if_neg h0]
   rcases hP k hk with h | ⟨ho,hl,hr⟩
   ·exact absurd h h0
   obtain⟨_,hj⟩:=hok k hfr(Nat.le_refl _)
   rcases hj with h | ⟨er,el⟩
   ·exact absurd h h0
   obtain⟨s1,s2⟩:=DL h0 hl.1 hl.2 hr.1 hr.2
   have hkp:0<k:=by omega
   rw[show(sd P k).1(k - 1)=Vm P(k - 1)from(Fb(by omega)).1]at el
   have er2:(P k).r.toNat=k - 1:=by omega
   have hlk:(P k).l.toNat<n:=by omega
   have p1:=Jb hP hlk
   rw[er2]at s1 s2
   have hl2:fr≤(P k).l.toNat:=by omega
   obtain⟨d',rfl⟩:∃d',d=d'+1:=⟨d - 1,by have:=Pn(P:=P)(k - 1);have:=Pn(P:=P)(P k).l.toNat;have:0≤mx(L9 P(P k).l.toNat)(L9 P(k - 1)):=by { unfold mx;split<;>omega };omega⟩
   obtain⟨m1,m2⟩:=aen(a:=L9 P(P k).l.toNat)(b:=L9 P(k - 1))(M:=(d':Nat))(by omega)
   rw[ep,er2]at hA ⊢
   have hA0:At t a([kP(zi(P k).op),kP [123]]++(BO P f(P k).l.toNat++(BO P f(k - 1)++([kP [125]]++l)))):=by
    simpa only[List.append_assoc]using hA
   have hA1:At t(a+2)(BO P f(P k).l.toNat++(BO P f(k - 1)++([kP [125]]++l))):=hA0.app.2
   have hA2:=hA1.app.2
   have hA3:=hA2.app.2
   have L:=Y8 hn hP hz hS f(P k).l.toNat fr d'(a+2)_(by omega)hlk hl2(fun j h1 h2=>hok j h1(by omega))(by omega)m1 hA1
   have R:=Y8 hn hP hz hS f(k - 1)((P k).l.toNat+1)d' _ _(by omega)(by omega)(by have:=Jb(P:=P)hP(show k - 1<n by omega);omega)(fun j h1 h2=>hok j(by omega)(by omega))(by omega)m2 hA2
   have eR:k - 1+1=k:=by omega
   rw[eR]at R
   have hop:((P k).op=1∧Is t a wBo)∨((P k).op=2∧Is t a wEi)∨((P k).op=3∧Is t a wLe):=by
    have hi:Is t a(zi(P k).op):=hA0.is(i:=0)rfl
    have ho':(P k).op=1∨(P k).op=2∨(P k).op=3:=by omega
    rcases ho' with h |h |h
    ·rw[h]at hi;exact Or.inl⟨h,hi⟩
    ·rw[h]at hi;exact Or.inr(Or.inl⟨h,hi⟩)
    ·rw[h]at hi;exact Or.inr(Or.inr⟨h,hi⟩)
   have N:=Wj.node hop(hA0.has 2(by simp))(hA0.is(i:=1)rfl)L R(hA3.has 1(by simp))(hA3.is(i:=0)rfl)(by
    show sJ _=_
    unfold sJ
    rw[if_neg h0]
    have e1:(P k).l=(((P k).l.toNat+1 - 1:Nat):Int):=by omega
    have e2:(P k).r=((k - 1:Nat):Int):=by omega
    rw[←e1,←e2])(by omega)
   have amr:a+([kP(zi(P k).op),kP [123]]++(BO P f(P k).l.toNat++(BO P f(k - 1)++[kP [125]]))).length=a+2+(BO P f(P k).l.toNat).length+(BO P f(k - 1)).length+1:=by
    simp only[List.length_append,List.length_cons,List.length_nil]
    omega
   rw[amr]
   exact N
end Go.Proofs.YtefphimaggjihaaGreatDoor.Pi.Rd
namespace Go.Proofs.YtefphimaggjihaaGreatDoor.Pi.Rd
open Go.Shelf Go.RowKit Go.Gv
open Hs.So (dM pQ)
open Hs (fC)
open Hs.Sc (fT)
def Wn(m:Int)(x:Int):Prop:=∃k:Nat,x=(k:Int)∧(k:Int)≤m
theorem YQ {m x:Int}(h:Wn m x)(hm:m≤100000000):arj m(Lib.itoa x,x):=by
 obtain⟨k,rfl,hk⟩:=h
 exact arl hk hm
section
variable {t:Tk}{a:Nat}{z:Nat→Int}{c:Ct}{l:List TP}
theorem ahD {i0:Nat}{f:Nat→Int}{m:Int}(h:At t a l)(h0:l[i0]?=some(Lib.itoa(f 0),f 0))(h1:l[i0+1]?=some(Lib.itoa(f 1),f 1))(h2:l[i0+2]?=some(Lib.itoa(f 2),f 2))(hf:∀q,q<3→Wn m(f q))(hm:m≤100000000):∀i,i<3→BU t m(a+i0+i):=fun i hi=>by
 match i,hi with
 | 0,_=>exact h.who h0(YQ(hf 0(by omega))hm)
 | 1,_=>exact h.who h1(YQ(hf 1(by omega))hm)
 | 2,_=>exact h.who h2(YQ(hf 2(by omega))hm)
structure acr(c:Ct)(j:Nat):Prop where
 n:c.nN=j
 few:j≤16
 N:∀q,c.N q=lB(oM(q:Nat))
theorem asa {x y:List UInt8}(h:lB x=lB y):x=y:=by
 have:=congrArg bL h
 rwa [jr,jr]at this
theorem abh {j k:Nat}(hj:j<1000000000)(hk:k<1000000000)(h:j≠k):lB(oM(j:Nat))≠lB(oM(k:Nat)):=fun e=>by
 have:=asa e
 unfold oM at this
 simp only[List.cons.injEq,true_and]at this
 exact h(arM hj hk this)
theorem YR {j w:Nat}{i:Nat}(hc:acr c j)(h:At t a l)(hp:l[i]?=some(LZ(w:Nat)))(hw:w<j):Nam t c(a+i)w:=by
 have e:t.T(a+i)=lB(oM(w:Nat)):=(h.get hp).1
 have hf:=hc.few
 exact⟨by have:=hc.n;omega,by rw[e];exact aa8(by omega),by rw[hc.n];exact hw,by rw[e];exact hc.N w,fun q hq=>by rw[e,hc.N];exact abh(by omega)(by omega)(by omega)⟩
theorem agu {e:Nat→Nat}(h:At t a(eyP e++([kP [59]]++l)))(hz:Z0 z)(h23:z 23=0)(h21:z 21=0)(hm:aj Tryz.prog 16 [.agg(eyK [dW(e 0),dW(e 1),dW(e 2),dW(e 3),dW(e 4),dW(e 5),dW(e 6),dW(e 7),dW(e 8),dW(e 9)])](iA 0)) :
  Stp t a z c(a+15)(dw z 21 1)(acv c [dW(e 0),dW(e 1),dW(e 2),dW(e 3),dW(e 4),dW(e 5),dW(e 6),dW(e 7),dW(e 8),dW(e 9)]):=by
 have hB:At t(a+1)(vP e 0++((kP [116,111]::(vP e 3++(kP [117,112]::(vP e 6++[kP [119,105,100,101],nP(e 9)]))))++([kP [59]]++l))):=h.2
 have hC:At t(a+1+4)(vP e 3++((kP [117,112]::(vP e 6++[kP [119,105,100,101],nP(e 9)]))++([kP [59]]++l))):=(At.app(x:=vP e 0++[kP [116,111]])hB).2
 have hD:At t(a+1+8)(vP e 6++([kP [119,105,100,101],nP(e 9)]++([kP [59]]++l))):=(At.app(x:=vP e 0++[kP [116,111]]++vP e 3++[kP [117,112]])hB).2
 have hz1:Z0(dw z 21 1):=hz.set(Or.inl(by omega))1
 obtain⟨p1,p2⟩:=qE hB hz1
 obtain⟨q1,q2⟩:=qE hC hz1
 obtain⟨r1,r2⟩:=aeU hD
 have r20:fN t yI(a+1+8)=dW(e 6):=r2 0(by omega)
 have r21:fN t yI(a+1+9)=dW(e 7):=r2 1(by omega)
 have r22:fN t yI(a+1+10)=dW(e 8):=r2 2(by omega)
 have e4:ey4 t z yI(a+1)=[dW(e 0),dW(e 1),dW(e 2),dW(e 3),dW(e 4),dW(e 5),dW(e 6),dW(e 7),dW(e 8),dW(e 9)]:=by
  unfold ey4
  rw[p2 0(by omega),p2 1(by omega),p2 2(by omega),q2 0(by omega),q2 1(by omega),q2 2(by omega),r20,r21,r22,Nr hB(i:=12)rfl]
 have g:=J8(c:=c)(hB.has 14(by simp[vP]))h23 h21 p1(hB.is(i:=3)rfl)q1(hB.is(i:=7)rfl)r1(hB.is(i:=11)rfl)(hB.num(i:=12)rfl(CG _))(hB.is(i:=13)rfl)(by rw[e4];exact hm)
 rw[e4]at g
 exact anA(h.has 1(by simp[eyP]))(h.is(i:=0)rfl)(by rfl)(ace(h.has 1(by simp[eyP]))(h.is(i:=0)rfl)g)
theorem agv {f:Nat→Int}(h:At t a(Jw f++([kP [59]]++l)))(h23:z 23=0)(h22:z 22=0)(hf:∀q,q<3→Wn 65536(f q)):Stp t a z c(a+5)(dw z 22 1) { c with jE:=fun q=>t.N(a+1+q) }:=by
 have hB:At t(a+1)(hP f++([kP [59]]++l)):=h.2
 have g:=agP(c:=c)(hB.has 4(by simp[hP]))h23 h22(ahD hB(i0:=0)rfl rfl rfl hf(by omega))(hB.is(i:=3)rfl)
 exact anA(h.has 1(by simp[Jw]))(h.is(i:=0)rfl)(by rfl)(acf(h.has 1(by simp[Jw]))(h.is(i:=0)rfl)g)
theorem acs {f g k:Nat→Int}{bd:Int}{j:Nat}(h:At t a(skP f g k bd(j:Nat)++([kP [59]]++l)))(h23:z 23=0)(hc:acr c j)(hj:j<16)(hk:c.nK<1000)(hf:∀q,q<3→Wn 1000(f q))(hg:∀q,q<3→Wn 1000(g q))(hh:∀q,q<3→Wn 1000(k q))(hb:bd.natAbs≤1000000)
  (hm:aj Tryz.prog 18 [.agg(skK [f 0,f 1,f 2,g 0,g 1,g 2,k 0,k 1,k 2,bd])](iA 0))(hx:c.K c.nK=skK [f 0,f 1,f 2,g 0,g 1,g 2,k 0,k 1,k 2,bd])(hmx:∀q,q≤c.nK→Mx(c.K q)(skK [f 0,f 1,f 2,g 0,g 1,g 2,k 0,k 1,k 2,bd])) :
  Stp t a z c(a+17)z { c with nN:=c.nN+1,nK:=c.nK+1 }:=by
 have hB:At t(a+1)([LZ(j:Nat),kP W2]++((hP f++(kP W3::(hP g++(kP W4::(hP k++[kP W5,(cK bd,bd)])))))++([kP [59]]++l))):=h.2
 have e:t.T(a+1)=lB(oM(j:Nat)):=hB.1.1
 have e4:sk4 t(a+1)=[f 0,f 1,f 2,g 0,g 1,g 2,k 0,k 1,k 2,bd]:=by
  have n:=fun(i:Nat)(x:TP)(hp:_=some x)=>(hB.get(i:=i)(p:=x)hp).2
  have n0:t.N(a+1+2)=f 0:=n 2 _ rfl
  have n1:t.N(a+1+3)=f 1:=n 3 _ rfl
  have n2:t.N(a+1+4)=f 2:=n 4 _ rfl
  have n3:t.N(a+1+6)=g 0:=n 6 _ rfl
  have n4:t.N(a+1+7)=g 1:=n 7 _ rfl
  have n5:t.N(a+1+8)=g 2:=n 8 _ rfl
  have n6:t.N(a+1+10)=k 0:=n 10 _ rfl
  have n7:t.N(a+1+11)=k 1:=n 11 _ rfl
  have n8:t.N(a+1+12)=k 2:=n 12 _ rfl
  have n9:t.N(a+1+14)=bd:=n 14 _ rfl
  unfold sk4
  rw[n0,n1,n2,n3,n4,n5,n6,n7,n8,n9]
 have s:=acF(c:=c)(hB.has 16(by simp[hP]))h23(by rw[e];exact aa8(by omega))(fun q hq=>by rw[e,hc.N];have:=hc.n;exact abh(by omega)(by omega)(by omega))(by have:=hc.n;omega)hk(hB.is(i:=1)rfl)(ahD hB(i0:=2)rfl rfl rfl hf(by omega))(hB.is(i:=5)rfl)(ahD hB(i0:=6)rfl rfl rfl hg(by omega))(hB.is(i:=9)rfl)(ahD hB(i0:=10)rfl rfl rfl hh(by omega))(hB.is(i:=13)rfl)(hB.num(i:=14)rfl(Xj hb))(hB.is(i:=15)rfl)(by rw[e4];exact hm)
 rw[e4]at s
 exact awZ(h.has 1(by simp[skP]))(h.is(i:=0)rfl)(by rfl)(XL(h.has 1(by simp[skP]))(h.is(i:=0)rfl)s)hx hmx(by rw[e,hc.N,hc.n])
theorem acu {b:Nat→Nat}{f:Nat→Int}(h:At t a(lmP b f++([kP [59]]++l)))(hz:Z0 z)(hf:∀q,q<3→Wn 65536(f q))(hn:c.nL<4)(hx:c.L c.nL=lmK(dW(b 0))(dW(b 1))(dW(b 2))(f 0)(f 1)(f 2))(hmx:∀q,q≤c.nL→Mx(c.L q)(lmK(dW(b 0))(dW(b 1))(dW(b 2))(f 0)(f 1)(f 2))):Stp t a z c(a+9)z { c with nL:=c.nL+1 }:=by
 have hB:At t(a+1)(vP b 0++((kP [108,105,103,104,116]::hP f)++([kP [59]]++l))):=h.2
 obtain⟨p1,p2⟩:=qE hB hz
 have e2:lm2 t z yI(a+1)=lmK(dW(b 0))(dW(b 1))(dW(b 2))(f 0)(f 1)(f 2):=by
  have n0:t.N(a+1+4)=f 0:=(hB.get(i:=4)rfl).2
  have n1:t.N(a+1+5)=f 1:=(hB.get(i:=5)rfl).2
  have n2:t.N(a+1+6)=f 2:=(hB.get(i:=6)rfl).2
  unfold lm2
  rw[n0,n1,n2,p2 0(by omega),p2 1(by omega),p2 2(by omega)]
 have g:=acE(c:=c)(hB.has 8(by simp[vP,hP]))p1(hB.is(i:=3)rfl)(ahD hB(i0:=4)rfl rfl rfl hf(by omega))(hB.is(i:=7)rfl)hn
 rw[e2]at g
 exact awW(h.has 1(by simp[lmP]))(h.is(i:=0)rfl)(by rfl)(XM(h.has 1(by simp[lmP]))(h.is(i:=0)rfl)g)hx hmx
end
end Go.Proofs.YtefphimaggjihaaGreatDoor.Pi.Rd
end
