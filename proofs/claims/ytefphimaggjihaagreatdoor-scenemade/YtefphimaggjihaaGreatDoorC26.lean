/- Texts, one behind the other. -/
import Derived.Test.YtefphimaggjihaaGreatDoorC25
import Derived.Test.YtefphimaggjihaaGreatDoorC18
import Derived.Test.YtefphimaggjihaaGreatDoorRows
import Derived.Test.YtefphimaggjihaaGreatDoorTie
import Derived.Test.YtefphimaggjihaaGreatDoorCards
import Derived.Carry
import Derived.ChangeSlices
import Derived.SizedLaws
import Derived.Deep.DeepHandedRow
import Derived.ProofKit
import Derived.OpenShut
import Derived.Lib.LaidTab
import Derived.Test.YtefphimaggjihaaGreatDoorC22
import Derived.Test.YtefphimaggjihaaGreatDoorC21
noncomputable section
namespace Go.Proofs.YtefphimaggjihaaGreatDoor.Pi.Rd
open Go.Shelf Go.RowKit Go.Gv
open Hs.So (dM pQ)
open Hs (fC)
open Hs.Sc (fT)
section
variable {t:Tk}{a:Nat}{z:Nat→Int}{c:Ct}{l:List TP}
theorem ah8 {k:Int}{b:Nat→Nat}(hk:1≤k∧k≤6):∃w,(∀r,(Av k b++r)[0]?=some(w,0))∧Not w:=by
 have hk':k=1∨k=2∨k=3∨k=4∨k=5∨k=6:=by omega
 rcases hk' with rfl |rfl |rfl |rfl |rfl |rfl
 ·exact⟨Cj,fun _=>rfl,by rfl⟩
 ·exact⟨Ck,fun _=>rfl,by rfl⟩
 ·exact⟨Fe,fun _=>rfl,by rfl⟩
 ·exact⟨Fg,fun _=>rfl,by rfl⟩
 ·exact⟨Cm,fun _=>rfl,by rfl⟩
 ·exact⟨Fh,fun _=>rfl,by rfl⟩
theorem Yc {k:Int}{b:Nat→Nat}{j w:Nat}(hk:1≤k∧k≤6)(h:At t a(Av k b++([LZ(w:Nat)]++([kP [59]]++l))))(hz:Z0 z)(hc:acr c j)(hw:w<j)(hn:c.nS<64)(hm:aj Tryz.prog 98 [.agg(fC k(cX k(rd b))(w:Nat))](iA 0))
  (hx:c.S c.nS=fC k(cX k(rd b))(w:Nat))(hmx:∀q,q≤c.nS→Mx(c.S q)(fC k(cX k(rd b))(w:Nat))):Stp t a z c(a+(Av k b).length+2)z { c with nS:=c.nS+1 }:=by
 obtain⟨w',f1,f2⟩:=ah8(b:=b)hk
 have hB:=h.app.2
 have hle:1≤(Av k b++([LZ(w:Nat)]++([kP [59]]++l))).length:=by simp only[List.length_append,List.length_cons];omega
 have g:=TY(c:=c)(w:=w)(aoX hk h hz)(hB.has 2(by simp))(YR(i:=0)hc hB rfl hw)(hB.is(i:=1)rfl)hm hn
 exact awV(h.has 1 hle)(h.is(i:=0)(f1 _))f2 g hx hmx
theorem amq {i:Nat}{x:Int}(h:z i=x):dw z i x=z:=by
 funext q
 unfold dw
 cases hb:Nat.beq q i
 ·rfl
 ·rw[Nat.eq_of_beq_eq_true hb];exact h.symm
theorem Yd {n:Nat}{P:Nat→dM}{j w:Nat}(h1:1≤n)(hn:n≤16)(hP:PM n P)(har:FH n P=true)(hS:∀i,i<n→(P i).op=0→(P i).k=1∨(P i).k=2∨(P i).k=5)(h:At t a(soP n P++([LZ(w:Nat)]++([kP [59]]++l))))(hz:Z0 z)(h28:z 28=0)(hc:acr c j)(hw:w<j)(hO:c.nO<8)
  (hm:aj Tryz.prog 99 [.agg(Wy n(fun i=>sJ(P i))(w:Nat))](iA 0))(hx:c.O c.nO=Wy n(fun i=>sJ(P i))(w:Nat))(hmx:∀q,q≤c.nO→Mx(c.O q)(Wy n(fun i=>sJ(P i))(w:Nat))):Stp t a z c(a+(soP n P).length+2)z { c with nO:=c.nO+1 }:=by
 have es:soP n P=kP soW::BO P n(n - 1):=by unfold soP;rw[har];rfl
 have ha:arP n P:=by
  unfold FH at har
  exact @of_decide_eq_true _(_)har
 rw[es]at h ⊢
 have hA:At t(a+1)(BO P n(n - 1)++([LZ(w:Nat)]++([kP [59]]++l))):=h.2
 have hB:=hA.app.2
 have e1:n - 1+1=n:=by omega
 have hsz:Vm P(n - 1)=(n:Nat):=by unfold Vm;rw[e1];exact ha.2.1
 have hdp:L9 P(n - 1)≤(3:Nat):=by unfold L9;rw[e1];exact ha.2.2
 have hp:=Fx(Y8 hn hP hz hS n(n - 1)0 3(a+1)_(by omega)(by omega)(by omega)(fun j _ hj=>ha.1 j(by omega))(by omega)hdp hA)0(by omega)(by decide)
 rw[e1,amq h28]at hp
 have g:=TU(t:=t)(z:=z)(c:=c)(h.has 1(by simp))(h.is(i:=0)rfl)(XB hp(hB.has 2(by simp))(YR(i:=0)hc hB rfl hw)(hB.is(i:=1)rfl)hm hO)
 have el:a+(kP soW::BO P n(n - 1)).length+2=a+1+(BO P n(n - 1)).length+2:=by rw[List.length_cons];omega
 rw[el]
 exact awY(h.has 1(by simp))(h.is(i:=0)rfl)(by rfl)g hx hmx
theorem Vn {W:Nat}{i:Nat}(h:At t a l)(hp:l[i]?=some(Lib.itoa(W:Int),(W:Int)*1000))(hW:W≤8):Lf t 217 [iA 8](iA(W:Nat))(a+i)1 z z:=by
 have e:t.N(a+i)=(W:Int)*1000:=(h.get hp).2
 have hl:i<l.length:=(List.getElem?_eq_some_iff.1 hp).1
 have:=XW(m:=8)z⟨by have:=h.le.1;omega,h.le.2⟩(h.num hp(ark(by omega)))(by rw[e,Int.mul_tmod_left])(by rw[e];omega)(by rw[e];omega)(by omega)
 rw[e,Int.mul_tdiv_cancel _(by omega)]at this
 exact this
theorem anN {hs:Nat→Int}{n q:Nat}(hq:q<n)(r:List TP):(hiP hs n++r)[q]?=some(cK(hs q),hs q):=by
 unfold hiP
 rw[List.getElem?_append_left(by simpa using hq),List.getElem?_map,List.getElem?_range hq]
 rfl
theorem Ye {F:Hs.Fm.Fd}{W H j w:Nat}(eW:F.W=(W:Nat))(eH:F.H=(H:Nat))(hW:W≤8)(hH:H≤8)(hWH:W*H=F.n)(hh:∀q,q<F.n→(F.hs q).natAbs≤1000000)(h:At t a(ZU F++([LZ(w:Nat)]++([kP [59]]++l))))(hz:Z0 z)(hc:acr c j)(hw:w<j)(hF:c.nF<2)
  (hm:aj Tryz.prog 100 [.agg(yF F.W F.H(dW(F.at_ 0))(dW(F.at_ 1))(dW(F.at_ 2))(dW F.sd)(slI F.n F.hs)(w:Nat))](iA 0))
  (hx:c.F c.nF=yF F.W F.H(dW(F.at_ 0))(dW(F.at_ 1))(dW(F.at_ 2))(dW F.sd)(slI F.n F.hs)(w:Nat))(hmx:∀q,q≤c.nF→Mx(c.F q)(yF F.W F.H(dW(F.at_ 0))(dW(F.at_ 1))(dW(F.at_ 2))(dW F.sd)(slI F.n F.hs)(w:Nat))):Stp t a z c(a+(ZU F).length+2)z { c with nF:=c.nF+1 }:=by
 have hn:F.n≤64:=by rw[←hWH];exact Nat.mul_le_mul hW hH
 have amr:(ZU F).length=10+F.n:=by unfold ZU hiP vP;simp;omega
 have hA:At t(a+1)([(Lib.itoa F.W,F.W*1000),(Lib.itoa F.H,F.H*1000),kP [97,116]]++(vP F.at_ 0++([kP [115,105,100,101],nP F.sd,kP [104,105,103,104]]++(hiP F.hs F.n++([LZ(w:Nat)]++([kP [59]]++l)))))):=by
  have e:ZU F++([LZ(w:Nat)]++([kP [59]]++l))=kP [102,105,101,108,100]::([(Lib.itoa F.W,F.W*1000),(Lib.itoa F.H,F.H*1000),kP [97,116]]++(vP F.at_ 0++([kP [115,105,100,101],nP F.sd,kP [104,105,103,104]]++(hiP F.hs F.n++([LZ(w:Nat)]++([kP [59]]++l)))))):=by
   unfold ZU
   simp only[List.cons_append,List.nil_append,List.append_assoc]
  rw[e]at h
  exact h.2
 have hP:At t(a+1+3)(vP F.at_ 0++([kP [115,105,100,101],nP F.sd,kP [104,105,103,104]]++(hiP F.hs F.n++([LZ(w:Nat)]++([kP [59]]++l))))):=hA.app.2
 have hH':At t(a+1+9)(hiP F.hs F.n++([LZ(w:Nat)]++([kP [59]]++l))):=(At.app(x:=[(Lib.itoa F.W,F.W*1000),(Lib.itoa F.H,F.H*1000),kP [97,116]]++vP F.at_ 0++[kP [115,105,100,101],nP F.sd,kP [104,105,103,104]])hA).2
 have hN':At t(a+1+9+F.n)([LZ(w:Nat)]++([kP [59]]++l)):=by
  have:=hH'.app.2
  have e:(hiP F.hs F.n).length=F.n:=by unfold hiP;simp
  rwa [e]at this
 obtain⟨p1,p2⟩:=qE hP hz
 have hpt:=sN(hP.has 3(by simp[vP]))p1
 unfold ptV at hpt
 have hpt:Lf t 210 [](vA(fS t z yI(a+1+3)0)(fS t z yI(a+1+3)1)(fS t z yI(a+1+3)2))(a+1+3)3 z z:=hpt
 rw[p2 0(by omega),p2 1(by omega),p2 2(by omega)]at hpt
 have hfl:=CU(t:=t)(a:=a+1+7)z⟨by have:=hN'.le.1;omega,hN'.le.2⟩(hA.num(i:=7)rfl(CG F.sd))
 have hfl:Lf t 212 [](.f(fN t yI(a+1+7)))(a+1+7)1 z z:=hfl
 rw[Nr hA(i:=7)rfl]at hfl
 obtain⟨K,k1,k2⟩:∃K:Nat→Int,K(a+1)=(W:Int)∧K(a+1+1)=(H:Int):=⟨fun q=>if q=a+1 then W else H,if_pos rfl,if_neg(by omega)⟩
 have c1:Lf t 217 [iA 8](iA(K(a+1)))(a+1)1 z z:=by rw[k1];exact Vn hA(i:=0)(by rw[eW];rfl)hW
 have c2:Lf t 217 [iA 8](iA(K(a+1+1)))(a+1+1)1 z z:=by rw[k2];exact Vn hA(i:=1)(by rw[eH];rfl)hH
 have hle:1≤(ZU F++([LZ(w:Nat)]++([kP [59]]++l))).length:=by rw[List.length_append,amr];omega
 have g:=CR(c:=c)(K:=K)(n:=F.n)(w:=w)(hv:=F.hs)⟨by have:=hN'.le.1;simp at this;omega,hN'.le.2⟩c1 c2(by rw[k1,k2,←hWH];simp)(by omega)(hA.is(i:=2)rfl)hpt(hA.is(i:=6)rfl)hfl(hA.is(i:=8)rfl)(fun q hq=>⟨hH'.num(anN hq _)(Xj(hh q hq)),((hH'.get(anN hq _)).2).symm⟩)(YR(i:=0)hc hN' rfl hw)(hN'.is(i:=1)rfl)(by rw[k1,k2,←eW,←eH];exact hm)hF
 rw[k1,k2,←eW,←eH]at g
 have e:a+1+9+F.n+2=a+(ZU F).length+2:=by rw[amr];omega
 rw[e]at g
 exact awX(h.has 1 hle)(h.is(i:=0)rfl)(by rfl)(TV(h.has 1 hle)(h.is(i:=0)rfl)g)hx hmx
end
def yQ(l:List TP):Prop:=∀p,p∈l→xq p.1
theorem iR:yQ []:=fun _ h=>by cases h
theorem aQ {p:TP}{l:List TP}(h:xq p.1)(hl:yQ l):yQ(p::l):=fun q hq=>by
 rcases List.mem_cons.1 hq with rfl |hq
 ·exact h
 ·exact hl q hq
theorem fB {x y:List TP}(hx:yQ x)(hy:yQ y):yQ(x++y):=fun q hq=>(List.mem_append.1 hq).elim(hx q)(hy q)
theorem Al(x:Nat):xq(nP x).1:=YF(qp x)
theorem o8(a:Nat→Nat)(i:Nat):yQ(vP a i):=aQ(Al _)(aQ(Al _)(aQ(Al _)iR))
theorem Zj {m x:Int}(h:Wn m x)(hm:m≤100000000):xq(Lib.itoa x):=by
 obtain⟨k,rfl,hk⟩:=h
 exact YD(by omega)
theorem FZ {f:Nat→Int}{m:Int}(h:∀q,q<3→Wn m(f q))(hm:m≤100000000):yQ(hP f):=aQ(Zj(h 0(by omega))hm)(aQ(Zj(h 1(by omega))hm)(aQ(Zj(h 2(by omega))hm)iR))
theorem ig {w:List UInt8}(h:Low w=true):xq(kP w).1:=al0 h
theorem Rs {k:Nat}(h:k<1000000000):xq(LZ(k:Nat)).1:=arJ h
theorem aar(e:Nat→Nat):yQ(eyP e):=aQ(ig rfl)(fB(o8 _ _)(aQ(ig rfl)(fB(o8 _ _)(aQ(ig rfl)(fB(o8 _ _)(aQ(ig rfl)(aQ(Al _)iR)))))))
theorem Rt {w u:List UInt8}(hw:Low w=true)(hu:Low u=true)(a:Nat→Nat):yQ(Wz w u a):=aQ(ig hw)(fB(o8 _ _)(aQ(ig hu)(fB(o8 _ _)(aQ(ig rfl)(aQ(Al _)iR)))))
theorem OG:xq(kP [44]).1:=QU(Or.inr(Or.inl rfl))
theorem abv(k:Int)(a:Nat→Nat):yQ(Av k a):=by
 unfold Av
 split
 ·exact aQ(ig rfl)(fB(o8 _ _)(aQ(ig rfl)(aQ(Al _)iR)))
 split
 ·exact aQ(ig rfl)(fB(o8 _ _)(aQ(ig rfl)(o8 _ _)))
 split
 ·exact aQ(ig rfl)(fB(o8 _ _)(aQ OG(fB(o8 _ _)(aQ OG(o8 _ _)))))
 split
 ·exact Rt rfl rfl a
 split
 ·exact Rt rfl rfl a
 ·exact fB(Rt rfl rfl a)(aQ(Al _)iR)
theorem Ru(P:Nat→dM):∀f i,yQ(BO P f i)
 | 0,_=>iR
 |f+1,i=>by
  unfold BO
  split
  ·exact abv _ _
  ·refine fB(aQ(ig ?_)(aQ(p:=kP [123])(QU(Or.inr(Or.inr(Or.inl rfl))))iR))(fB(Ru P f _)(fB(Ru P f _)(aQ(p:=kP [125])(QU(Or.inr(Or.inr(Or.inr rfl))))iR)))
   unfold zi
   split
   ·rfl
   split<;>rfl
theorem amx(n:Nat)(P:Nat→dM):yQ(soP n P):=by
 unfold soP
 refine aQ(ig rfl) ?_
 cases FH n P
 ·exact iR
 ·exact Ru _ _ _
structure Good(s:fT):Prop where
 fK:s.nK≤16
 fL:s.nL≤4
 fS:s.nS≤64
 fO:s.nO≤8
 fF:s.nF≤2
 jE:∀q,q<3→Wn 65536(s.jE q)
 K:∀j,j<s.nK→(∀q,q<9→Wn 1000(s.K j q))∧(s.K j 9).natAbs≤1000000
 LL:∀j,j<s.nL→∀q,q<3→Wn 65536(s.LL j q)
 S:∀j,j<s.nS→(1≤(s.S j).k∧(s.S j).k≤6)∧∃w:Nat,(s.S j).sk=(w:Nat)∧w<s.nK
 O:∀j,j<s.nO→(1≤(s.O j).n∧(s.O j).n≤16)∧PM(s.O j).n(s.O j).P∧FH(s.O j).n(s.O j).P=true∧(∀i,i<(s.O j).n→((s.O j).P i).op=0→((s.O j).P i).k=1∨((s.O j).P i).k=2∨((s.O j).P i).k=5)∧∃w:Nat,(s.O j).sk=(w:Nat)∧w<s.nK
 F:∀j,j<s.nF→∃W H w:Nat,(s.F j).W=(W:Nat)∧(s.F j).H=(H:Nat)∧W≤8∧H≤8∧W*H=(s.F j).n∧(∀q,q<(s.F j).n→((s.F j).hs q).natAbs≤1000000)∧(s.F j).sk=(w:Nat)∧w<s.nK
def Rz(e:Nat→Nat):List Nat:=[dW(e 0),dW(e 1),dW(e 2),dW(e 3),dW(e 4),dW(e 5),dW(e 6),dW(e 7),dW(e 8),dW(e 9)]
def apZ(f:Nat→Int):List Int:=[f 0,f 1,f 2,f 3,f 4,f 5,f 6,f 7,f 8,f 9]
def agp(p:Hs.Sc.Jd):List AV:=fC p.k(cX p.k(rd p.a))p.sk
def agr(p:Hs.Sc.RG):List AV:=Wy p.n(fun i=>sJ(p.P i))p.sk
def agt(F:Hs.Fm.Fd):List AV:=yF F.W F.H(dW(F.at_ 0))(dW(F.at_ 1))(dW(F.at_ 2))(dW F.sd)(slI F.n F.hs)F.sk
structure Yb(s:fT):Prop where
 eye:aj Tryz.prog 16 [.agg(eyK(Rz s.eye))](iA 0)
 K:∀j,j<s.nK→aj Tryz.prog 18 [.agg(skK(apZ(s.K j)))](iA 0)
 S:∀j,j<s.nS→aj Tryz.prog 98 [.agg(agp(s.S j))](iA 0)
 O:∀j,j<s.nO→aj Tryz.prog 99 [.agg(agr(s.O j))](iA 0)
 F:∀j,j<s.nF→aj Tryz.prog 100 [.agg(agt(s.F j))](iA 0)
def cc(s:fT)(k l m o f:Nat):Ct:={ nS:=m,nO:=o,nF:=f,nK:=k,nL:=l,nN:=k,S:=fun q=>agp(s.S q),O:=fun q=>agr(s.O q),F:=fun q=>agt(s.F q),K:=fun q=>skK(apZ(s.K q)),L:=fun q=>lmK(dW(s.LA q 0))(dW(s.LA q 1))(dW(s.LA q 2))(s.LL q 0)(s.LL q 1)(s.LL q 2),N:=fun q=>lB(oM(q:Nat)),jE:=fun q=>(abL(yO s)).N(15+1+q),eye:=F8(Rz s.eye) }
def Ya(s:fT):Ct:=cc s s.nK s.nL s.nS s.nO s.nF
theorem P9 {s:fT}(h:Good s):∀l,l∈lns s→yQ l:=by
 intro l hl
 unfold lns at hl
 rcases List.mem_append.1 hl with hl |hl
 ·unfold ln1 at hl
  simp only[List.mem_cons,List.not_mem_nil,or_false]at hl
  rcases hl with rfl |rfl
  ·exact aar _
  ·exact aQ(ig rfl)(FZ h.jE(by omega))
 rcases List.mem_append.1 hl with hl |hl
 ·obtain⟨j,hj,rfl⟩:=List.mem_map.1 hl
  have hj:=List.mem_range.1 hj
  obtain⟨h1,h2⟩:=h.K j hj
  have:=h.fK
  exact fB(aQ(ig rfl)(aQ(Rs(by omega))(aQ(ig rfl)iR)))(fB(FZ(m:=1000)(fun q hq=>h1 q(by omega))(by omega))(aQ(ig rfl)(fB(FZ(m:=1000)(fun q hq=>h1(3+q)(by omega))(by omega))(aQ(ig rfl)(fB(FZ(m:=1000)(fun q hq=>h1(6+q)(by omega))(by omega))(aQ(ig rfl)(aQ(YF h2)iR)))))))
 rcases List.mem_append.1 hl with hl |hl
 ·obtain⟨j,hj,rfl⟩:=List.mem_map.1 hl
  have hj:=List.mem_range.1 hj
  exact aQ(ig rfl)(fB(o8 _ _)(aQ(ig rfl)(FZ(h.LL j hj)(by omega))))
 rcases List.mem_append.1 hl with hl |hl
 ·obtain⟨j,hj,rfl⟩:=List.mem_map.1 hl
  have hj:=List.mem_range.1 hj
  obtain⟨_,w,e,hw⟩:=h.S j hj
  have:=h.fK
  unfold ln4
  rw[e]
  exact fB(abv _ _)(aQ(Rs(by omega))iR)
 rcases List.mem_append.1 hl with hl |hl
 ·obtain⟨j,hj,rfl⟩:=List.mem_map.1 hl
  have hj:=List.mem_range.1 hj
  obtain⟨_,_,_,_,w,e,hw⟩:=h.O j hj
  have:=h.fK
  unfold ln5
  rw[e]
  exact fB(amx _ _)(aQ(Rs(by omega))iR)
 ·obtain⟨j,hj,rfl⟩:=List.mem_map.1 hl
  have hj:=List.mem_range.1 hj
  obtain⟨W,H,w,eW,eH,hW,hH,_,hh,e,hw⟩:=h.F j hj
  have:=h.fK
  unfold ln6 ZU
  rw[e,eW,eH]
  refine fB(fB(aQ(ig rfl)(aQ(YD(by omega))(aQ(YD(by omega))(aQ(ig rfl)iR))))(fB(o8 _ _)(aQ(ig rfl)(aQ(Al _)(aQ(ig rfl) ?_)))))(aQ(Rs(by omega))iR)
  intro p hp
  unfold hiP at hp
  obtain⟨q,hq,rfl⟩:=List.mem_map.1 hp
  exact YF(hh q(List.mem_range.1 hq))
section
variable {t:Tk}{z zf:Nat→Int}{cf:Ct}
def blk(L:Nat→List TP)(i m:Nat):List TP:=(List.range' i m).flatMap fun j=>L j++[kP [59]]
theorem many {L:Nat→List TP}{C:Nat→Ct}{n:Nat}{r:List TP}(hs:∀j,j<n→∀a l,At t a((L j++[kP [59]])++l)→Stp t a z(C j)(a+(L j++[kP [59]]).length)z(C(j+1)))(hr:∀b,At t b r→b+r.length=t.n→Rest t zf cf b z(C n)) :
  ∀m i,i+m=n→∀a,At t a(blk L i m++r)→a+(blk L i m++r).length=t.n→Rest t zf cf a z(C i)
 | 0,i,h,a,hA,hl=>by
  have:i=n:=by omega
  subst this
  exact hr a hA hl
 |m+1,i,h,a,hA,hl=>by
  have e:blk L i(m+1)++r=(L i++[kP [59]])++(blk L(i+1)m++r):=by
   unfold blk
   rw[List.range'_succ,List.flatMap_cons,List.append_assoc]
  rw[e]at hA hl
  exact(hs i(by omega)a _ hA).go(many hs hr m(i+1)(by omega)_ hA.app.2(by simp only[List.length_append]at hl ⊢;omega))
end
theorem zV(L:Nat→List TP)(n:Nat):((List.range n).map L).flatMap(fun l=>l++[kP [59]])=blk L 0 n:=by
 unfold blk
 rw[List.flatMap_map,List.range_eq_range']
theorem aaK(s:fT):yO s=(eyP s.eye++[kP [59]])++((Jw s.jE++[kP [59]])++(blk(ln2 s)0 s.nK++(blk(ln3 s)0 s.nL++(blk(ln4 s)0 s.nS++(blk(ln5 s)0 s.nO++(blk(ln6 s)0 s.nF++[])))))):=by
 unfold yO lns ln1
 rw[List.flatMap_append,List.flatMap_append,List.flatMap_append,List.flatMap_append,List.flatMap_append,zV,zV,zV,zV,zV,List.append_nil]
 simp only[List.flatMap_cons,List.flatMap_nil,List.append_nil,List.append_assoc]
def z1:Nat→Int:=dw z0 21 1
def z2:Nat→Int:=dw z1 22 1
theorem akX:Z0 z2:=⟨rfl,rfl,rfl⟩
section
variable {s:fT}{t:Tk}{k l m o f:Nat}
theorem Qo(hk:k≤16):acr(cc s k l m o f)k:=⟨rfl,hk,fun _=>rfl⟩
theorem akY(h:Good s)(hm:Yb s) {j:Nat}(hj:j<s.nK) {a:Nat}{r:List TP}(hA:At t a((ln2 s j++[kP [59]])++r)):Stp t a z2(cc s j l m o f)(a+(ln2 s j++[kP [59]]).length)z2(cc s(j+1)l m o f):=by
 obtain⟨h1,h2⟩:=h.K j hj
 have h3:=h.fK
 rw[List.append_assoc]at hA
 exact acs(f:=s.K j)(g:=fun q=>s.K j(3+q))(k:=fun q=>s.K j(6+q))hA rfl(Qo(by omega))(by omega)(show j<1000 by omega)(fun q hq=>h1 q(by omega))(fun q hq=>h1(3+q)(by omega))(fun q hq=>h1(6+q)(by omega))h2(hm.K j hj)rfl fun _ _=>⟨rfl,rfl⟩
theorem akZ(h:Good s) {j:Nat}(hj:j<s.nL) {a:Nat}{r:List TP}(hA:At t a((ln3 s j++[kP [59]])++r)):Stp t a z2(cc s k j m o f)(a+(ln3 s j++[kP [59]]).length)z2(cc s k(j+1)m o f):=by
 have h3:=h.fL
 rw[List.append_assoc]at hA
 exact acu hA akX(h.LL j hj)(show j<4 by omega)rfl fun _ _=>⟨rfl,rfl⟩
theorem agn(h:Good s)(hm:Yb s) {j:Nat}(hj:j<s.nS) {a:Nat}{r:List TP}(hA:At t a((ln4 s j++[kP [59]])++r)):Stp t a z2(cc s s.nK l j o f)(a+(ln4 s j++[kP [59]]).length)z2(cc s s.nK l(j+1)o f):=by
 obtain⟨h1,w,e,hw⟩:=h.S j hj
 have h3:=h.fS
 have hM:=hm.S j hj
 unfold ln4 at hA ⊢
 unfold agp at hM
 rw[e]at hA hM
 rw[List.append_assoc,List.append_assoc]at hA
 have:=Yc(c:=cc s s.nK l j o f)h1 hA akX(Qo h.fK)hw(show j<64 by omega)hM(by show agp(s.S j)=_;unfold agp;rw[e])fun _ _=>⟨rfl,rfl⟩
 rw[List.length_append,List.length_append]
 exact this
theorem agq(h:Good s)(hm:Yb s) {j:Nat}(hj:j<s.nO) {a:Nat}{r:List TP}(hA:At t a((ln5 s j++[kP [59]])++r)):Stp t a z2(cc s s.nK l m j f)(a+(ln5 s j++[kP [59]]).length)z2(cc s s.nK l m(j+1)f):=by
 obtain⟨h1,h2,h3,h4,w,e,hw⟩:=h.O j hj
 have h5:=h.fO
 have hM:=hm.O j hj
 unfold ln5 at hA ⊢
 unfold agr at hM
 rw[e]at hA hM
 rw[List.append_assoc,List.append_assoc]at hA
 have:=Yd(c:=cc s s.nK l m j f)h1.1 h1.2 h2 h3 h4 hA akX rfl(Qo h.fK)hw(show j<8 by omega)hM(by show agr(s.O j)=_;unfold agr;rw[e])fun _ _=>⟨rfl,rfl⟩
 rw[List.length_append,List.length_append]
 exact this
theorem ags(h:Good s)(hm:Yb s) {j:Nat}(hj:j<s.nF) {a:Nat}{r:List TP}(hA:At t a((ln6 s j++[kP [59]])++r)):Stp t a z2(cc s s.nK l m o j)(a+(ln6 s j++[kP [59]]).length)z2(cc s s.nK l m o(j+1)):=by
 obtain⟨W,H,w,eW,eH,hW,hH,hWH,hh,e,hw⟩:=h.F j hj
 have h5:=h.fF
 have hM:=hm.F j hj
 unfold ln6 at hA ⊢
 unfold agt at hM
 rw[e]at hA hM
 rw[List.append_assoc,List.append_assoc]at hA
 have:=Ye(c:=cc s s.nK l m o j)eW eH hW hH hWH hh hA akX(Qo h.fK)hw(show j<2 by omega)hM(by show agt(s.F j)=_;unfold agt;rw[e])fun _ _=>⟨rfl,rfl⟩
 rw[List.length_append,List.length_append]
 exact this
end
theorem aqI {s:fT}(h:Good s)(hm:Yb s)(hl:(yO s).length≤1000000):Rest(abL(yO s))z2(Ya s)0 z0(WL(Ya s)):=by
 have hA:=anq(yO s) []rfl hl
 have hA:At(abL(yO s))0(yO s):=hA
 obtain⟨t,ht⟩:∃t,t=abL(yO s):=⟨_,rfl⟩
 have hn:t.n=(yO s).length:=by rw[ht];rfl
 rw[←ht]at hA ⊢
 rw[aaK]at hA hn
 have hA0:=hA
 rw[List.append_assoc]at hA0
 have hA1:=hA.app.2
 have awj:=hA1
 rw[List.append_assoc]at awj
 have e1:Stp t 0 z0(WL(Ya s))15 z1(acv(WL(Ya s))(Rz s.eye)):=by
  have:=agu(c:=WL(Ya s))hA0(z:=z0)⟨rfl,rfl,rfl⟩rfl rfl hm.eye
  exact this
 have e2:Stp t 15 z1(acv(WL(Ya s))(Rz s.eye))20 z2(cc s 0 0 0 0 0):=by
  have:=agv(a:=15)(c:=acv(WL(Ya s))(Rz s.eye))awj(z:=z1)rfl rfl h.jE
  rw[ht]at this ⊢
  exact this
 refine e1.go(e2.go ?_)
 have hA2:At t 20 _:=hA1.app.2
 have hN:20+(blk(ln2 s)0 s.nK++(blk(ln3 s)0 s.nL++(blk(ln4 s)0 s.nS++(blk(ln5 s)0 s.nO++(blk(ln6 s)0 s.nF++[]))))).length=t.n:=by
  rw[hn,@List.length_append _(eyP s.eye++[kP [59]]),@List.length_append _(Jw s.jE++[kP [59]])]
  show 20+_=15+(5+_)
  omega
 refine many(C:=fun j=>cc s j 0 0 0 0)(n:=s.nK)(fun j hj a r hA=>akY h hm hj hA)(fun b hb hn=>?_)s.nK 0(by omega)20 hA2 hN
 refine many(C:=fun j=>cc s s.nK j 0 0 0)(n:=s.nL)(fun j hj a r hA=>akZ h hj hA)(fun b hb hn=>?_)s.nL 0(by omega)b hb hn
 refine many(C:=fun j=>cc s s.nK s.nL j 0 0)(n:=s.nS)(fun j hj a r hA=>agn h hm hj hA)(fun b hb hn=>?_)s.nS 0(by omega)b hb hn
 refine many(C:=fun j=>cc s s.nK s.nL s.nS j 0)(n:=s.nO)(fun j hj a r hA=>agq h hm hj hA)(fun b hb hn=>?_)s.nO 0(by omega)b hb hn
 refine many(C:=fun j=>cc s s.nK s.nL s.nS s.nO j)(n:=s.nF)(fun j hj a r hA=>ags h hm hj hA)(fun b hb hn=>?_)s.nF 0(by omega)b hb hn
 have:b=t.n:=by simpa using hn
 rw[this]
 exact aqJ z2(Ya s)
theorem Uw:∀(ts:List(List UInt8))(b:Bool),(∀x,x∈ts→x≠[])→ts.length≤(tks b ts).length
 | [],_,_=>Nat.zero_le _
 |x::r,b,h=>by
  have ih:=Uw r true fun y hy=>h y(by simp[hy])
  have hx:=List.length_pos_iff.2(h x(by simp))
  show r.length+1≤((if b then [32]else [])++(x++tks true r)).length
  rw[List.length_append,List.length_append]
  omega
theorem afB {x:List UInt8}(h:xq x):x≠[]:=by
 rcases h with h | ⟨c,_,rfl⟩
 ·exact h.1
 ·simp
theorem ak0 {s:fT}(h:Good s):(yO s).length≤(x6 cK dF bG s).length:=by
 rw[Dz]
 unfold yO
 have key:∀ls:List(List TP),(∀l,l∈ls→yQ l)→(ls.flatMap fun l=>l++[kP [59]]).length≤(ls.flatMap Dx).length:=fun ls=>by
  induction ls with
  |nil=>intro _;exact Nat.le_refl _
  |cons l r ih =>
   intro hl
   have i1:=ih fun x hx=>hl x(by simp[hx])
   have i2:=Uw(l.map Prod.fst++[[59]])false fun x hx=>by
    rcases List.mem_append.1 hx with hx |hx
    ·obtain⟨p,hp,rfl⟩:=List.mem_map.1 hx
     exact afB(hl l(by simp)p hp)
    ·simp at hx;subst hx;simp
   rw[List.length_append,List.length_map]at i2
   rw[List.flatMap_cons,List.flatMap_cons,List.length_append,List.length_append,List.length_append]
   have e:(Dx l).length=(tks false(l.map Prod.fst++[[59]])).length+1:=List.length_append
   simp only[List.length_cons,List.length_nil]at i2 ⊢
   omega
 exact key _(P9 h)
theorem akk {s:fT}(h:Good s)(hm:Yb s)(hl:(x6 cK dF bG s).length≤20000):aj Tryz.prog 8 [zA(lB(x6 cK dF bG s))](.aN [.agg(scF(Ya s)),iA 0]):=by
 have hf:=ak0 h
 exact Yf(by rw[aY];exact hl)(avc(P9 h)(by omega))(aqI h hm(by omega))rfl
open Hs Hs.So Hs.Sc Hs.Fm
theorem aio {m x:Int}(h0:0≤x)(h1:x≤m):Wn m x:=⟨x.toNat,by omega,by omega⟩
theorem F4 {B:Nat→Bool}:∀{n:Nat},mh B n=false→∀j,j<n→B j=false
 | 0,_,j,hj=>absurd hj(Nat.not_lt_zero j)
 |n+1,h,j,hj=>by
  have h:(mh B n||B n)=false:=h
  rw[Bool.or_eq_false_iff]at h
  by_cases e:j=n
  ·subst e;exact h.2
  ·exact F4 h.1 j(by omega)
theorem aip {e sk:Int}{n:Nat}(h:Dk e sk n=0):sk<(n:Int):=by
 have h:=(cn0 h).2
 cases hb:decide(sk≥(n:Int))
 ·have:=of_decide_eq_false hb;omega
 ·rw[hb]at h;exact absurd h(by decide)
theorem atc {m k:Int}(h:mlE m k=0):k=1∨k=2∨k=5:=by
 have h:=(cn0 h).2
 cases hb:kin k
 ·rw[hb]at h;exact absurd h(by decide)
 ·unfold kin at hb
  simpa using hb
theorem atd {F:Hs.Fm.Fd}(h:L8 F.c=0):∃W H:Nat,F.W=(W:Nat)∧F.H=(H:Nat)∧W≤8∧H≤8∧W*H=F.n∧∀q,q<F.n→(F.hs q).natAbs≤1000000:=by
 obtain⟨_,_,h3,h4,h5,h6,h7,_⟩:dL(F.at_ 0)(F.at_ 1)(F.at_ 2)=true∧eP F.sd=true∧F.n≤64∧(2≤F.W∧F.W≤8∧2≤F.H∧F.H≤8)∧(0≤F.sk∧F.sk<16)∧(∀q,q<F.n→oU(F.hs q)=false)∧F.jM=0∧(kM(bx F)==0)=true:=(uN F).2 h
 have hn:(F.n:Int)=F.W*F.H:=by
  unfold Fd.jM at h7
  obtain⟨_,h7⟩:=c4(by decide)h7
  obtain⟨h8,_⟩:=c4(by decide)h7
  have h8:((F.n:Int)==aI(F.W*F.H))=true:=jC h8
  have h9:=beq_iff_eq.1 h8
  have l1:F.W*F.H≤8*8:=Int.mul_le_mul h4.2.1 h4.2.2.2(by omega)(by omega)
  have l0:0≤F.W*F.H:=Int.mul_nonneg(by omega)(by omega)
  rw[aO(by omega)(by omega)]at h9
  exact h9
 obtain⟨W,eW⟩:=Int.eq_ofNat_of_zero_le(show 0≤F.W by omega)
 obtain⟨H,eH⟩:=Int.eq_ofNat_of_zero_le(show 0≤F.H by omega)
 refine⟨W,H,eW,eH,by omega,by omega,?_,fun q hq=>?_⟩
 ·rw[eW,eH]at hn
  exact_mod_cast hn.symm
 ·obtain⟨b1,b2⟩:=uh(h6 q hq)
  have b1:=of_decide_eq_false b1
  have b2:=of_decide_eq_false b2
  omega
theorem aki {s:fT}(h:yP s=0)(hw:w6 cK dF bG s=false):Good s:=by
 unfold yP at h
 obtain⟨h1,h⟩:=c4(by decide)h
 obtain⟨hK,h⟩:=c0 h
 obtain⟨hT,h⟩:=c0 h
 obtain⟨hL,h⟩:=c0 h
 obtain⟨hY,h⟩:=c4(by decide)h
 have few:=Qr s h1
 unfold thE at hT
 obtain⟨hS,hT⟩:=c0 hT
 obtain⟨hO,hF⟩:=c0 hT
 have w5':w5 cK dF bG s=false:=by unfold w6 at hw;exact(Bool.or_eq_false_iff.1 hw).1
 have wO:mh(fun j=>fU(ZW cK dF bG s j))s.nO=false:=by unfold w5 at w5';exact(Bool.or_eq_false_iff.1 w5').2
 have axS:=zm(jC hY)
 refine⟨few.2.2.2.1,few.2.2.2.2,few.1,few.2.1,few.2.2.1,fun q hq=>aio(axS q hq).1(axS q hq).2,fun j hj=>?_,fun j hj=>?_,fun j hj=>?_,fun j hj=>?_,fun j hj=>?_⟩
 ·obtain⟨k1,k2,k3⟩:=Pk(k:=s.K j)(dh _ hK j hj)
  exact⟨fun q hq=>aio(k1 q hq).1(k1 q hq).2,by omega⟩
 ·have hl:lmE(s.LA j)(s.LL j)=0:=dh _ hL j hj
  unfold lmE at hl
  obtain⟨a1,hl⟩:=c4(by decide)hl
  obtain⟨a2,_⟩:=c4(by decide)hl
  have:=zm(jC a2)
  exact fun q hq=>aio(this q hq).1(this q hq).2
 ·have hs:Dk(jG(s.S j).c)(s.S j).sk s.nK=0:=dh _ hS j hj
  obtain⟨_,g2,g3,_⟩:=kI(Sl hs)
  have:=aip hs
  exact⟨g2,(s.S j).sk.toNat,by omega,by omega⟩
 ·have hs:=dh _ hO j hj
  have hso:Nb(s.O j).n(s.O j).P(s.O j).sk=0:=Sl hs
  have hlt:(s.O j).sk<(s.nK:Int):=aip hs
  have har:FH(s.O j).n(s.O j).P=true:=by
   have:=F4 wO j hj
   have hb:PO bG(s.O j).n(s.O j).P=false:=(Bool.or_eq_false_iff.1 this).1
   unfold PO at hb
   cases ha:FH(s.O j).n(s.O j).P
   ·rw[ha]at hb;cases hb
   ·rfl
  unfold Nb at hso
  obtain⟨g1,hso⟩:=c4(by decide)hso
  obtain⟨g2,hso⟩:=c4(by decide)hso
  obtain⟨n1,n2⟩:=uh g1
  have n1:=of_decide_eq_false n1
  have n2:=of_decide_eq_false n2
  have hpa:=dh _ hso
  obtain⟨p1,_⟩:=Uv hpa
  obtain⟨s1,s2⟩:=DK g2
  refine⟨by omega,p1,har,fun i hi h0=>?_,(s.O j).sk.toNat,by omega,by omega⟩
  have h1:=hpa i hi
  unfold IZ Rf at h1
  rw[h0]at h1
  exact atc(show mlE(jG((s.O j).P i).s)((s.O j).P i).k=0 from h1)
 ·have hs:=dh _ hF j hj
  have hf:L8(s.F j).c=0:=Sl hs
  have hlt:(s.F j).sk<(s.nK:Int):=aip hs
  obtain⟨W,H,eW,eH,hW,hH,hWH,hh⟩:=atd hf
  have h5:0≤(s.F j).sk:=by
   obtain⟨_,_,_,_,h5,_⟩:dL((s.F j).at_ 0)((s.F j).at_ 1)((s.F j).at_ 2)=true∧eP(s.F j).sd=true∧(s.F j).n≤64∧(2≤(s.F j).W∧(s.F j).W≤8∧2≤(s.F j).H∧(s.F j).H≤8)∧(0≤(s.F j).sk∧(s.F j).sk<16)∧(∀q,q<(s.F j).n→oU((s.F j).hs q)=false)∧(s.F j).jM=0∧(kM(bx(s.F j))==0)=true:=(uN(s.F j)).2 hf
   exact h5.1
  exact⟨W,H,(s.F j).sk.toNat,eW,eH,hW,hH,hWH,hh,by omega,by omega⟩
end Go.Proofs.YtefphimaggjihaaGreatDoor.Pi.Rd
namespace Go.Proofs.YtefphimaggjihaaGreatDoor.Pi.Rd
open Go.Shelf Go.RowKit Go.Gv
open Hs.So (dM pQ)
open Hs.Sc (fT)
def wt:List TP→Nat
 | []=>0
 |p::r=>p.1.length+1+wt r
theorem iE:∀x y:List TP,wt(x++y)=wt x+wt y
 | [],y=>by simp[wt]
 |p::r,y=>by show p.1.length+1+wt(r++y)=_;rw[iE r y];show _=p.1.length+1+wt r+wt y;omega
theorem aej:∀(l:List TP)(b:Bool),(tks b(l.map Prod.fst)).length≤wt l
 | [],_=>Nat.le_refl _
 |p::r,b=>by
  have ih:=aej r true
  show((if b then [32]else [])++(p.1++tks true(r.map Prod.fst))).length≤p.1.length+1+wt r
  rw[List.length_append,List.length_append]
  have:(if b then([32]:List UInt8)else []).length≤1:=by cases b<;>simp
  omega
theorem aek(l:List TP):(Dx l).length≤wt l+3:=by
 have h:=aej(l++[kP [59]])false
 rw[iE,List.map_append]at h
 have e:(Dx l).length=(tks false(l.map Prod.fst++[[59]])).length+1:=List.length_append
 have e2:wt [kP [59]]=2:=rfl
 rw[e2]at h
 have h:(tks false(l.map Prod.fst++[[59]])).length≤wt l+2:=h
 omega
theorem FJ {d k:Nat}(h:k<10 ^ (d+1)):(Lib.itoa(k:Int)).length≤d+1:=by rw[WI];exact(am4 d k h).2.2.1.2
theorem Cu {n:Int}(h:n.natAbs≤1000000):(cK n).length≤8:=by
 unfold cK dcA
 have hs:(if n<0 then([45]:List UInt8)else []).length≤1:=by split<;>simp
 rw[List.length_append,List.length_append]
 by_cases hr:n.natAbs % 1000=0
 ·have:=FJ(d:=3)(k:=n.natAbs / 1000)(by omega)
  rw[if_pos hr]
  simp only[List.length_nil]
  omega
 ·have:=FJ(d:=2)(k:=n.natAbs / 1000)(by omega)
  obtain⟨_,_,g3,_⟩:=ael(r:=n.natAbs % 1000)(by omega)(by omega)
  rw[if_neg hr,List.length_cons]
  have g3:(Lib.trimRightB((Lib.itoa((1000+n.natAbs % 1000:Nat):Int)).drop 1)48).length≤3:=g3
  omega
theorem JC(x:Nat):(nP x).1.length≤8:=Cu(qp x)
theorem GR(a:Nat→Nat)(i:Nat):wt(vP a i)≤27:=by
 have h1:=JC(a i)
 have h2:=JC(a(i+1))
 have h3:=JC(a(i+2))
 show(nP(a i)).1.length+1+((nP(a(i+1))).1.length+1+((nP(a(i+2))).1.length+1+0))≤27
 omega
theorem WJ {d:Nat}{m x:Int}(h:Wn m x)(hm:m<10 ^ (d+1)):(Lib.itoa x).length≤d+1:=by
 obtain⟨k,rfl,hk⟩:=h
 exact FJ(by exact_mod_cast Int.lt_of_le_of_lt hk hm)
theorem Sn {d:Nat}{m:Int}{f:Nat→Int}(h:∀q,q<3→Wn m(f q))(hm:m<10 ^ (d+1)):wt(hP f)≤3*(d+2):=by
 have h1:=WJ(h 0(by omega))hm
 have h2:=WJ(h 1(by omega))hm
 have h3:=WJ(h 2(by omega))hm
 show(Lib.itoa(f 0)).length+1+((Lib.itoa(f 1)).length+1+((Lib.itoa(f 2)).length+1+0))≤_
 omega
theorem Z4 {k:Nat}(h:k<16):wt [LZ(k:Nat)]≤4:=by
 have:=FJ(d:=1)(k:=k)(by omega)
 show(115::Lib.itoa(k:Int)).length+1+0≤4
 rw[List.length_cons]
 omega
theorem dP(p:TP)(r:List TP):wt(p::r)=p.1.length+1+wt r:=rfl
theorem FK:wt []=0:=rfl
theorem aem(k:Int)(a:Nat→Nat):wt(Av k a)≤89∧(k=1∨k=2∨k=5→wt(Av k a)≤81):=by
 have v0:=GR a 0
 have v3:=GR a 3
 have v6:=GR a 6
 have n9:=JC(a 9)
 have n10:=JC(a 10)
 have hr:∀w u,wt(Wz w u a)=w.length+1+(wt(vP a 0)+(u.length+1+(wt(vP a 3)+(7+((nP(a 9)).1.length+1))))):=fun w u=>by
  unfold Wz
  rw[dP,iE,dP,iE,dP,dP,FK]
  rfl
 unfold Av
 split
 ·rw[dP,iE,dP,dP,FK]
  simp only[kP,L6,List.length_cons,List.length_nil]
  omega
 split
 ·rw[dP,iE,dP]
  simp only[kP,List.length_cons,List.length_nil]
  omega
 split
 ·rw[dP,iE,dP,iE,dP]
  simp only[kP,List.length_cons,List.length_nil]
  omega
 split
 ·rw[hr]
  simp only[List.length_cons,List.length_nil]
  omega
 split
 ·rw[hr]
  simp only[List.length_cons,List.length_nil]
  omega
 ·rw[iE,hr,dP,FK]
  simp only[List.length_cons,List.length_nil]
  omega
theorem WK {P:Nat→dM}{n:Nat}(hP:PM n P)(hS:∀i,i<n→(P i).op=0→(P i).k=1∨(P i).k=2∨(P i).k=5):∀(f k d:Nat),k<n→L9 P k≤(d:Nat)→wt(BO P f k)+11≤92*2 ^ d
 | 0,k,d,_,_=>by
  have:1≤2 ^ d:=Nat.one_le_two_pow
  show 0+11≤_
  omega
 |f+1,k,d,hk,hd=>by
  have h2:1≤2 ^ d:=Nat.one_le_two_pow
  by_cases h0:(P k).op=0
  ·have ep:BO P(f+1)k=Av(P k).k(P k).a:=by show(if _ then _ else _)=_;rw[if_pos h0]
   have:=(aem(P k).k(P k).a).2(hS k hk h0)
   rw[ep]
   omega
  ·have ep:BO P(f+1)k=[kP(zi(P k).op),kP [123]]++(BO P f(P k).l.toNat++(BO P f(P k).r.toNat++[kP [125]])):=by show(if _ then _ else _)=_;rw[if_neg h0]
   rcases hP k hk with h | ⟨ho,hl,hr⟩
   ·exact absurd h h0
   obtain⟨_,s2⟩:=DL h0 hl.1 hl.2 hr.1 hr.2
   obtain⟨d',rfl⟩:∃d',d=d'+1:=⟨d - 1,by have:=Pn(P:=P)(P k).r.toNat;have:=Pn(P:=P)(P k).l.toNat;have:0≤mx(L9 P(P k).l.toNat)(L9 P(P k).r.toNat):=by { unfold mx;split<;>omega };omega⟩
   obtain⟨m1,m2⟩:=aen(a:=L9 P(P k).l.toNat)(b:=L9 P(P k).r.toNat)(M:=(d':Nat))(by omega)
   have i1:=WK hP hS f(P k).l.toNat d'(by omega)m1
   have i2:=WK hP hS f(P k).r.toNat d'(by omega)m2
   have ho':(zi(P k).op).length≤6:=by unfold zi;split<;>(try split)<;>simp
   rw[ep,iE,iE,iE,dP,dP,dP,FK,Nat.pow_succ]
   have e1:(kP(zi(P k).op)).1.length=(zi(P k).op).length:=rfl
   have e2:(kP [123]).1.length=1:=rfl
   have e3:(kP [125]).1.length=1:=rfl
   rw[e1,e2,e3]
   omega
theorem aoE {P:Nat→dM}{n:Nat}(h1:1≤n)(hP:PM n P)(har:FH n P=true)(hS:∀i,i<n→(P i).op=0→(P i).k=1∨(P i).k=2∨(P i).k=5):wt(soP n P)≤731:=by
 have ha:arP n P:=by
  unfold FH at har
  exact @of_decide_eq_true _(_)har
 have e1:n - 1+1=n:=by omega
 have hdp:L9 P(n - 1)≤(3:Nat):=by unfold L9;rw[e1];exact ha.2.2
 have:=WK hP hS n(n - 1)3(by omega)hdp
 have es:soP n P=kP soW::BO P n(n - 1):=by unfold soP;rw[har];rfl
 rw[es,dP]
 have e:(kP soW).1.length=5:=rfl
 omega
theorem am5 {hs:Nat→Int}:∀n:Nat,(∀q,q<n→(hs q).natAbs≤1000000)→wt(hiP hs n)≤9*n
 | 0,_=>Nat.le_refl _
 |n+1,h=>by
  have ih:=am5 n fun q hq=>h q(by omega)
  have:=Cu(h n(by omega))
  unfold hiP at ih ⊢
  rw[List.range_succ,List.map_append,iE]
  show _+((cK(hs n)).length+1+0)≤_
  omega
theorem aoF {F:Hs.Fm.Fd}{W H:Nat}(eW:F.W=(W:Nat))(eH:F.H=(H:Nat))(hW:W≤8)(hH:H≤8)(hWH:W*H=F.n)(hh:∀q,q<F.n→(F.hs q).natAbs≤1000000):wt(ZU F)≤635:=by
 have hn:F.n≤64:=by rw[←hWH];exact Nat.mul_le_mul hW hH
 have h1:=am5 F.n hh
 have v:=GR F.at_ 0
 have n9:=JC F.sd
 have w1:=FJ(d:=0)(k:=W)(by omega)
 have w2:=FJ(d:=0)(k:=H)(by omega)
 unfold ZU
 rw[iE,iE,dP,dP,dP,dP,FK,dP,dP,dP,eW,eH]
 simp only[kP,List.length_cons,List.length_nil]
 omega
theorem vN {L:Nat→List TP}{B:Nat}:∀n:Nat,(∀j,j<n→wt(L j)+3≤B)→(((List.range n).map L).flatMap Dx).length≤n*B
 | 0,_=>Nat.zero_le _
 |n+1,h=>by
  have ih:=vN n fun j hj=>h j(by omega)
  have:=aek(L n)
  have h2:=h n(by omega)
  rw[List.range_succ,List.map_append,List.flatMap_append,List.length_append,Nat.succ_mul]
  have e:(([n].map L).flatMap Dx).length=(Dx(L n)).length:=by simp
  omega
theorem aeo {s:fT}(h:Good s):(x6 cK dF bG s).length≤20000:=by
 rw[Dz]
 unfold lns
 rw[List.flatMap_append,List.flatMap_append,List.flatMap_append,List.flatMap_append,List.flatMap_append,List.length_append,List.length_append,List.length_append,List.length_append,List.length_append]
 have fK:=h.fK
 have fL:=h.fL
 have fS:=h.fS
 have fO:=h.fO
 have fF:=h.fF
 have b1:((ln1 s).flatMap Dx).length≤133:=by
  have a1:=aek(eyP s.eye)
  have a2:=aek(Jw s.jE)
  have v0:=GR s.eye 0
  have v3:=GR s.eye 3
  have v6:=GR s.eye 6
  have n9:=JC(s.eye 9)
  have hk:=Sn(d:=4)h.jE(by decide)
  have e1:wt(eyP s.eye)=4+(wt(vP s.eye 0)+(3+(wt(vP s.eye 3)+(3+(wt(vP s.eye 6)+(5+((nP(s.eye 9)).1.length+1))))))):=by
   unfold eyP
   rw[dP,iE,dP,iE,dP,iE,dP,dP,FK]
   rfl
  have e2:wt(Jw s.jE)=4+wt(hP s.jE):=rfl
  unfold ln1
  rw[List.flatMap_cons,List.flatMap_cons,List.flatMap_nil,List.append_nil,List.length_append]
  omega
 have b2:(((List.range s.nK).map(ln2 s)).flatMap Dx).length≤s.nK*91:=vN _ fun j hj=>by
  obtain⟨k1,k2⟩:=h.K j hj
  have a1:=Sn(d:=3)(m:=1000)(f:=s.K j)(fun q hq=>k1 q(by omega))(by decide)
  have a2:=Sn(d:=3)(m:=1000)(f:=fun q=>s.K j(3+q))(fun q hq=>k1(3+q)(by omega))(by decide)
  have a3:=Sn(d:=3)(m:=1000)(f:=fun q=>s.K j(6+q))(fun q hq=>k1(6+q)(by omega))(by decide)
  have a4:=Cu k2
  have a5:=Z4(k:=j)(by omega)
  have a5:(LZ(j:Nat)).1.length+1+0≤4:=a5
  have e:wt(ln2 s j)=5+((LZ(j:Nat)).1.length+1+(7+0))+(wt(hP(s.K j))+(7+(wt(hP fun q=>s.K j(3+q))+(6+(wt(hP fun q=>s.K j(6+q))+(5+((cK(s.K j 9)).length+1+0))))))):=by
   unfold ln2 skP
   rw[iE,iE,dP(kP W3),iE,dP(kP W4),iE]
   rfl
  rw[e]
  omega
 have b3:(((List.range s.nL).map(ln3 s)).flatMap Dx).length≤s.nL*59:=vN _ fun j hj=>by
  have a1:=Sn(d:=4)(h.LL j hj)(by decide)
  have v0:=GR(s.LA j)0
  have e:wt(ln3 s j)=5+(wt(vP(s.LA j)0)+(6+wt(hP(s.LL j)))):=by
   unfold ln3 lmP
   rw[dP,iE,dP]
   rfl
  rw[e]
  omega
 have b4:(((List.range s.nS).map(ln4 s)).flatMap Dx).length≤s.nS*96:=vN _ fun j hj=>by
  obtain⟨_,w,e,hw⟩:=h.S j hj
  have a1:=(aem(s.S j).k(s.S j).a).1
  have a2:=Z4(k:=w)(by omega)
  unfold ln4
  rw[e,iE]
  omega
 have b5:(((List.range s.nO).map(ln5 s)).flatMap Dx).length≤s.nO*738:=vN _ fun j hj=>by
  obtain⟨h1,h2,h3,h4,w,e,hw⟩:=h.O j hj
  have a1:=aoE h1.1 h2 h3 h4
  have a2:=Z4(k:=w)(by omega)
  unfold ln5
  rw[e,iE]
  omega
 have b6:(((List.range s.nF).map(ln6 s)).flatMap Dx).length≤s.nF*642:=vN _ fun j hj=>by
  obtain⟨W,H,w,eW,eH,hW,hH,hWH,hh,e,hw⟩:=h.F j hj
  have a1:=aoF eW eH hW hH hWH hh
  have a2:=Z4(k:=w)(by omega)
  unfold ln6
  rw[e,iE]
  omega
 omega
end Go.Proofs.YtefphimaggjihaaGreatDoor.Pi.Rd
namespace Go.Proofs.YtefphimaggjihaaGreatDoor.Pi.Rd
open Go.Shelf Go.RowKit Go.Gv
open Hs.Sc (fT)
open Hs Hs.So Hs.Sc Hs.Fm
open Go.Ev (dK)
theorem jc {x:Nat}(h:bG x=true):dK(dW x)x=true:=(OX h).2
theorem oD {a:Nat→Nat}{i:Nat}(h:vB bG a i=false):bG(a i)=true∧bG(a(i+1))=true∧bG(a(i+2))=true:=by
 unfold vB aky at h
 revert h
 cases bG(a i)<;>cases bG(a(i+1))<;>cases bG(a(i+2))<;>intro h<;>first |exact⟨rfl,rfl,rfl⟩ | (cases h;done)
theorem apY {e:Nat→Nat}(h:G7 bG e=false):∀i,i<10→bG(e i)=true:=by
 unfold G7 at h
 obtain⟨h0,h⟩:=Bool.or_eq_false_iff.1 h
 obtain⟨h3,h⟩:=Bool.or_eq_false_iff.1 h
 obtain⟨h6,h9⟩:=Bool.or_eq_false_iff.1 h
 obtain⟨a0,a1,a2⟩:=oD h0
 obtain⟨a3,a4,a5⟩:=oD h3
 obtain⟨a6,a7,a8⟩:=oD h6
 have a9:=jC h9
 intro i hi
 match i,hi with
 | 0,_=>exact a0
 | 1,_=>exact a1
 | 2,_=>exact a2
 | 3,_=>exact a3
 | 4,_=>exact a4
 | 5,_=>exact a5
 | 6,_=>exact a6
 | 7,_=>exact a7
 | 8,_=>exact a8
 | 9,_=>exact a9
structure Told(s:fT):Prop where
 eye:∀i,i<10→bG(s.eye i)=true
 L:∀j,j<s.nL→vB bG(s.LA j)0=false
 S:∀j,j<s.nS→Di bG(s.S j).k(s.S j).a(s.S j).sk=false
 O:∀j,j<s.nO→PO bG(s.O j).n(s.O j).P=false
 F:∀j,j<s.nF→J6 bG(s.F j)=false
theorem akj {s:fT}(hw:w6 cK dF bG s=false):Told s:=by
 unfold w6 at hw
 obtain⟨hw,h6⟩:=Bool.or_eq_false_iff.1 hw
 unfold w5 at hw
 obtain⟨hw,h5⟩:=Bool.or_eq_false_iff.1 hw
 unfold w4 at hw
 obtain⟨hw,h4⟩:=Bool.or_eq_false_iff.1 hw
 unfold w3 at hw
 obtain⟨hw,h3⟩:=Bool.or_eq_false_iff.1 hw
 unfold w2 at hw
 obtain⟨hw,_⟩:=Bool.or_eq_false_iff.1 hw
 unfold w1 at hw
 obtain⟨h1,_⟩:=Bool.or_eq_false_iff.1 hw
 exact⟨apY h1,fun j hj=>(Bool.or_eq_false_iff.1(F4 h3 j hj)).1,fun j hj=>(Bool.or_eq_false_iff.1(F4 h4 j hj)).1,fun j hj=>(Bool.or_eq_false_iff.1(F4 h5 j hj)).1,fun j hj=>(Bool.or_eq_false_iff.1(F4 h6 j hj)).1⟩
theorem afR {s:fT}(h:yP s=0) {j:Nat}(hj:j<s.nK):aj Tryz.prog 18 [.agg(skK(apZ(s.K j)))](iA 0):=by
 unfold yP at h
 obtain⟨_,h⟩:=c4(by decide)h
 obtain⟨hK,_⟩:=c0 h
 have e:skE(s.K j)=0:=dh _ hK j hj
 have:=PZ(s.K j)
 rw[e]at this
 exact this
theorem Ao {t a:Nat→Nat}{i:Nat}(h:Fw t a i=true):dK(t i)(a i)=true∧dK(t(i+1))(a(i+1))=true∧dK(t(i+2))(a(i+2))=true:=by
 unfold Fw at h
 simp only[Bool.and_eq_true]at h
 exact⟨h.1,h.2.1,h.2.2.1⟩
theorem Ap {k:Int}{t a:Nat→Nat}{sk:Int}(h:(!(Pi.cZ k t a sk))=false):∀i,i<11→dK(t i)(a i)=true:=by
 have h:=jC h
 unfold Pi.cZ at h
 simp only[Bool.and_eq_true]at h
 obtain⟨_,h0,h3,h6,h9,h10,_⟩:=h
 obtain⟨a0,a1,a2⟩:=Ao h0
 obtain⟨a3,a4,a5⟩:=Ao h3
 obtain⟨a6,a7,a8⟩:=Ao h6
 intro i hi
 match i,hi with
 | 0,_=>exact a0
 | 1,_=>exact a1
 | 2,_=>exact a2
 | 3,_=>exact a3
 | 4,_=>exact a4
 | 5,_=>exact a5
 | 6,_=>exact a6
 | 7,_=>exact a7
 | 8,_=>exact a8
 | 9,_=>exact h9
 | 10,_=>exact h10
theorem cell_of {T:(Nat→Nat)→Nat→Nat}{a:Nat→Nat}{i:Nat}(h:dK(T a i)(a i)=true)(hT:(T(rd a)i=rd a i∧bG(a i)=true)∨(T a i=0∧T(rd a)i=0)):dK(T(rd a)i)(a i)=true:=by
 rcases hT with⟨h1,h2⟩ | ⟨h1,h2⟩
 ·rw[h1];exact jc h2
 ·rw[h2,←h1];exact h
theorem Ij {k:Int}{a:Nat→Nat}{sk:Int}(hk:1≤k∧k≤6)(h:Di bG k a sk=false):∀i,i<11→dK(cX k(rd a)i)(a i)=true:=by
 have hk':k=1∨k=2∨k=3∨k=4∨k=5∨k=6:=by omega
 have go:∀(T:(Nat→Nat)→Nat→Nat),(∀i,i<11→dK(T a i)(a i)=true)→(∀i,i<11→(T(rd a)i=rd a i∧bG(a i)=true)∨(T a i=0∧T(rd a)i=0))→∀i,i<11→dK(T(rd a)i)(a i)=true:=fun T h1 h2 i hi=>cell_of(h1 i hi)(h2 i hi)
 rcases hk' with rfl |rfl |rfl |rfl |rfl |rfl
 ·have h:VX bG a sk=false:=h
  unfold VX at h
  obtain⟨h0,h⟩:=Bool.or_eq_false_iff.1 h
  obtain⟨h9,he⟩:=Bool.or_eq_false_iff.1 h
  obtain⟨a0,a1,a2⟩:=oD h0
  have a9:=jC h9
  refine go t1(Ap he)fun i hi=>?_
  match i,hi with
  | 0,_=>exact Or.inl⟨rfl,a0⟩
  | 1,_=>exact Or.inl⟨rfl,a1⟩
  | 2,_=>exact Or.inl⟨rfl,a2⟩
  | 3,_=>exact Or.inr⟨rfl,rfl⟩
  | 4,_=>exact Or.inr⟨rfl,rfl⟩
  | 5,_=>exact Or.inr⟨rfl,rfl⟩
  | 6,_=>exact Or.inr⟨rfl,rfl⟩
  | 7,_=>exact Or.inr⟨rfl,rfl⟩
  | 8,_=>exact Or.inr⟨rfl,rfl⟩
  | 9,_=>exact Or.inl⟨rfl,a9⟩
  | 10,_=>exact Or.inr⟨rfl,rfl⟩
 ·have h:VY bG a sk=false:=h
  unfold VY at h
  obtain⟨h0,h⟩:=Bool.or_eq_false_iff.1 h
  obtain⟨h3,he⟩:=Bool.or_eq_false_iff.1 h
  obtain⟨a0,a1,a2⟩:=oD h0
  obtain⟨a3,a4,a5⟩:=oD h3
  refine go t2(Ap he)fun i hi=>?_
  match i,hi with
  | 0,_=>exact Or.inl⟨rfl,a0⟩
  | 1,_=>exact Or.inl⟨rfl,a1⟩
  | 2,_=>exact Or.inl⟨rfl,a2⟩
  | 3,_=>exact Or.inl⟨rfl,a3⟩
  | 4,_=>exact Or.inl⟨rfl,a4⟩
  | 5,_=>exact Or.inl⟨rfl,a5⟩
  | 6,_=>exact Or.inr⟨rfl,rfl⟩
  | 7,_=>exact Or.inr⟨rfl,rfl⟩
  | 8,_=>exact Or.inr⟨rfl,rfl⟩
  | 9,_=>exact Or.inr⟨rfl,rfl⟩
  | 10,_=>exact Or.inr⟨rfl,rfl⟩
 ·have h:VZ bG a sk=false:=h
  unfold VZ at h
  obtain⟨h0,h⟩:=Bool.or_eq_false_iff.1 h
  obtain⟨h3,h⟩:=Bool.or_eq_false_iff.1 h
  obtain⟨h6,he⟩:=Bool.or_eq_false_iff.1 h
  obtain⟨a0,a1,a2⟩:=oD h0
  obtain⟨a3,a4,a5⟩:=oD h3
  obtain⟨a6,a7,a8⟩:=oD h6
  refine go t3(Ap he)fun i hi=>?_
  match i,hi with
  | 0,_=>exact Or.inl⟨rfl,a0⟩
  | 1,_=>exact Or.inl⟨rfl,a1⟩
  | 2,_=>exact Or.inl⟨rfl,a2⟩
  | 3,_=>exact Or.inl⟨rfl,a3⟩
  | 4,_=>exact Or.inl⟨rfl,a4⟩
  | 5,_=>exact Or.inl⟨rfl,a5⟩
  | 6,_=>exact Or.inl⟨rfl,a6⟩
  | 7,_=>exact Or.inl⟨rfl,a7⟩
  | 8,_=>exact Or.inl⟨rfl,a8⟩
  | 9,_=>exact Or.inr⟨rfl,rfl⟩
  | 10,_=>exact Or.inr⟨rfl,rfl⟩
 ·have h:adJ bG a sk=false:=h
  unfold adJ at h
  obtain⟨h,he⟩:=Bool.or_eq_false_iff.1 h
  obtain⟨h0,h⟩:=Bool.or_eq_false_iff.1 h
  obtain⟨h3,h9⟩:=Bool.or_eq_false_iff.1 h
  obtain⟨a0,a1,a2⟩:=oD h0
  obtain⟨a3,a4,a5⟩:=oD h3
  have a9:=jC h9
  refine go t4(Ap he)fun i hi=>?_
  match i,hi with
  | 0,_=>exact Or.inl⟨rfl,a0⟩
  | 1,_=>exact Or.inl⟨rfl,a1⟩
  | 2,_=>exact Or.inl⟨rfl,a2⟩
  | 3,_=>exact Or.inl⟨rfl,a3⟩
  | 4,_=>exact Or.inl⟨rfl,a4⟩
  | 5,_=>exact Or.inl⟨rfl,a5⟩
  | 6,_=>exact Or.inr⟨rfl,rfl⟩
  | 7,_=>exact Or.inr⟨rfl,rfl⟩
  | 8,_=>exact Or.inr⟨rfl,rfl⟩
  | 9,_=>exact Or.inl⟨rfl,a9⟩
  | 10,_=>exact Or.inr⟨rfl,rfl⟩
 ·have h:adK bG a sk=false:=h
  unfold adK at h
  obtain⟨h,he⟩:=Bool.or_eq_false_iff.1 h
  obtain⟨h0,h⟩:=Bool.or_eq_false_iff.1 h
  obtain⟨h3,h9⟩:=Bool.or_eq_false_iff.1 h
  obtain⟨a0,a1,a2⟩:=oD h0
  obtain⟨a3,a4,a5⟩:=oD h3
  have a9:=jC h9
  refine go t4(Ap he)fun i hi=>?_
  match i,hi with
  | 0,_=>exact Or.inl⟨rfl,a0⟩
  | 1,_=>exact Or.inl⟨rfl,a1⟩
  | 2,_=>exact Or.inl⟨rfl,a2⟩
  | 3,_=>exact Or.inl⟨rfl,a3⟩
  | 4,_=>exact Or.inl⟨rfl,a4⟩
  | 5,_=>exact Or.inl⟨rfl,a5⟩
  | 6,_=>exact Or.inr⟨rfl,rfl⟩
  | 7,_=>exact Or.inr⟨rfl,rfl⟩
  | 8,_=>exact Or.inr⟨rfl,rfl⟩
  | 9,_=>exact Or.inl⟨rfl,a9⟩
  | 10,_=>exact Or.inr⟨rfl,rfl⟩
 ·have h:Wi bG a sk=false:=h
  unfold Wi at h
  obtain⟨h,h'⟩:=Bool.or_eq_false_iff.1 h
  obtain⟨h10,he⟩:=Bool.or_eq_false_iff.1 h'
  obtain⟨h0,h⟩:=Bool.or_eq_false_iff.1 h
  obtain⟨h3,h9⟩:=Bool.or_eq_false_iff.1 h
  obtain⟨a0,a1,a2⟩:=oD h0
  obtain⟨a3,a4,a5⟩:=oD h3
  have a9:=jC h9
  have Hy:=jC h10
  refine go t6(Ap he)fun i hi=>?_
  match i,hi with
  | 0,_=>exact Or.inl⟨rfl,a0⟩
  | 1,_=>exact Or.inl⟨rfl,a1⟩
  | 2,_=>exact Or.inl⟨rfl,a2⟩
  | 3,_=>exact Or.inl⟨rfl,a3⟩
  | 4,_=>exact Or.inl⟨rfl,a4⟩
  | 5,_=>exact Or.inl⟨rfl,a5⟩
  | 6,_=>exact Or.inr⟨rfl,rfl⟩
  | 7,_=>exact Or.inr⟨rfl,rfl⟩
  | 8,_=>exact Or.inr⟨rfl,rfl⟩
  | 9,_=>exact Or.inl⟨rfl,a9⟩
  | 10,_=>exact Or.inl⟨rfl,Hy⟩
end Go.Proofs.YtefphimaggjihaaGreatDoor.Pi.Rd
namespace Go.Ev
open Ieee
def Sm(x y:Nat):Prop:=double.read x=double.read y∨((double.read x).isZero=true∧(double.read y).isZero=true)
theorem Sm.refl(x:Nat):Sm x x:=Or.inl rfl
theorem Sm.trans {x y z:Nat}(h:Sm x y)(h':Sm y z):Sm x z:=by
 rcases h with h | ⟨h1,h2⟩
 ·rcases h' with h' | ⟨h3,h4⟩
  ·exact Or.inl(h.trans h')
  ·exact Or.inr⟨by rw[h];exact h3,h4⟩
 ·rcases h' with h' | ⟨h3,h4⟩
  ·exact Or.inr⟨h1,by rw[←h'];exact h2⟩
  ·exact Or.inr⟨h1,h4⟩
theorem aj4 {x y:Nat}(hs:jT x=jT y)(hr:rung x=rung y):double.read x=double.read y:=by
 have key:∀x,double.read x=(fun(n:Bool)(r:Nat)=>if r<double.binade then Datum.number n r double.leastPlace else if r<double.infRung then .number n(double.binade+r % double.binade)(double.leastPlace+(r / double.binade - 1:Nat))else if r=double.infRung then .infinity n else .nan n(r - double.infRung))(jT x)(rung x):=fun x=>rfl
 rw[key x,key y,hs,hr]
theorem jo {x:Nat}(h:(double.read x).isZero=true):double.read x=.number(jT x)0(-1074):=by
 by_cases hr:rung x=0
 ·exact zN hr
 exfalso
 cases hn:aL x
 ·rcases oL hn with hf |hf
  ·obtain⟨m,i,e,_,_,hv⟩:=iQ hf
   have hp:rv 52 0<rv 52(rung x):=BL 52(by omega)
   rw[Dt,hv]at hp
   rw[e]at h
   cases m with
   |zero=>rw[Nat.zero_mul]at hp;exact absurd hp(Nat.lt_irrefl 0)
   |succ m=>cases h
  ·rw[zM hf]at h;cases h
 ·unfold aL at hn
  cases hd:double.read x with
  |number s m i=>rw[hd]at hn;cases hn
  |infinity s=>rw[hd]at hn;cases hn
  |nan s f=>rw[hd]at h;cases h
theorem mV {x y:Nat}(h:dK x y=true):Sm x y:=by
 obtain⟨_,_,hk⟩:=vw h
 have ax:∀x,(key x).natAbs=rung x:=fun x=>by unfold key;cases jT x<;>simp only[cond_true,cond_false]<;>omega
 have sx:∀x,key x≠0→jT x=decide(key x<0):=fun x h=>by
  have e:key x=cond(jT x)(-(rung x:Int))(rung x):=rfl
  cases hs:jT x
  ·rw[hs,cond_false]at e;rw[decide_eq_false(by omega)]
  ·rw[hs,cond_true]at e;rw[decide_eq_true(by omega)]
 have hr:rung x=rung y:=by rw[←ax,←ax,hk]
 by_cases h0:key x=0
 ·have r0:rung x=0:=by rw[←ax,h0];rfl
  exact Or.inr⟨by rw[zN r0];rfl,by rw[zN(hr▸r0)];rfl⟩
 ·exact Or.inl(aj4(by rw[sx x h0,sx y(hk▸h0),hk])hr)
theorem zO(s:Bool)(k:Nat):signed s 0 k=0:=by cases s<;>simp[signed]
theorem zP {x x' y y':Nat}(hx:Sm x x')(hy:Sm y y'):double.order x y=double.order x' y':=by
 have L:∀(s s':Bool)(e:Datum),(Datum.number s 0(-1074)).order e=(Datum.number s' 0(-1074)).order e:=fun s s' e=>by
  cases e with
  |nan=>rfl
  |infinity t=>rfl
  |number t n j=>simp only[Datum.order,zO]
 have R:∀(s s':Bool)(e:Datum),e.order(Datum.number s 0(-1074))=e.order(Datum.number s' 0(-1074)):=fun s s' e=>by
  cases e with
  |nan=>rfl
  |infinity t=>rfl
  |number t n j=>simp only[Datum.order,zO]
 have a:(double.read x).order(double.read y)=(double.read x').order(double.read y):=by
  rcases hx with h | ⟨h1,h2⟩
  ·rw[h]
  ·rw[jo h1,jo h2];exact L _ _ _
 have b:(double.read x').order(double.read y)=(double.read x').order(double.read y'):=by
  rcases hy with h | ⟨h1,h2⟩
  ·rw[h]
  ·rw[jo h1,jo h2];exact R _ _ _
 exact a.trans b
theorem za {x x' y y':Nat}(hx:Sm x x')(hy:Sm y y'):dK x y=dK x' y':=by unfold dK;rw[zP hx hy]
theorem adT {x x' y y':Nat}(hx:Sm x x')(hy:Sm y y'):jO x y=jO x' y':=by unfold jO;rw[zP hx hy]
theorem adU {x x' y y':Nat}(hx:Sm x x')(hy:Sm y y'):kL x y=kL x' y':=by unfold kL;rw[zP hx hy]
theorem nD {x x' y y':Nat}(hx:Sm x x')(hy:Sm y y'):gN x y=gN x' y':=by unfold gN;rw[zP hx hy]
theorem Ws {x x' y y':Nat}(hx:Sm x x')(hy:Sm y y'):lK x y=lK x' y':=by unfold lK;rw[zP hx hy]
def SmO(o o':Option Datum):Prop:=o=o'∨∃s s' i i',o=some(.number s 0 i)∧o'=some(.number s' 0 i')
theorem NC(s:Bool):(double.read(double.word s 0)).isZero=true:=by cases s<;>decide +kernel
theorem SmO.sm {o o':Option Datum}(h:SmO o o'):Sm((o.map double.write).getD uT)((o'.map double.write).getD uT):=by
 rcases h with h | ⟨s,s',i,i',h1,h2⟩
 ·rw[h];exact Sm.refl _
 ·rw[h1,h2]
  have e:∀s i,((some(Datum.number s 0 i)).map double.write).getD uT=double.word s 0:=fun s i=>xP s i
  rw[e,e]
  exact Or.inr⟨NC s,NC s'⟩
theorem afh {f:Datum→Datum→Option Datum}(hl:∀s s' e,SmO(f(.number s 0(-1074))e)(f(.number s' 0(-1074))e))(hr:∀s s' e,SmO(f e(.number s 0(-1074)))(f e(.number s' 0(-1074)))) {x x' y y':Nat}(hx:Sm x x')(hy:Sm y y') :
  Sm(((f(double.read x)(double.read y)).map double.write).getD uT)(((f(double.read x')(double.read y')).map double.write).getD uT):=by
 refine Sm.trans(y:=((f(double.read x')(double.read y)).map double.write).getD uT) ?_ ?_
 ·rcases hx with h | ⟨h1,h2⟩
  ·rw[h];exact Sm.refl _
  ·rw[jo h1,jo h2];exact(hl _ _ _).sm
 ·rcases hy with h | ⟨h1,h2⟩
  ·rw[h];exact Sm.refl _
  ·rw[jo h1,jo h2];exact(hr _ _ _).sm
theorem Xt(s s':Bool)(e:Datum):SmO((Datum.number s 0(-1074)).sum e)((Datum.number s' 0(-1074)).sum e):=by
 cases e with
 |nan=>exact Or.inl rfl
 |infinity t=>exact Or.inl rfl
 |number t n j =>
  have key:∀s,(Datum.number s 0(-1074)).sum(.number t n j)=some(.number(if(0:Int)+signed t n(j - min(-1074)j).toNat=0 then s&&t else decide((0:Int)+signed t n(j - min(-1074)j).toNat<0))((0:Int)+signed t n(j - min(-1074)j).toNat).natAbs(min(-1074)j)):=fun s=>by
   simp only[Datum.sum,zO]
  rw[key s,key s']
  by_cases h:(0:Int)+signed t n(j - min(-1074)j).toNat=0
  ·rw[if_pos h,if_pos h,h]
   exact Or.inr⟨_,_,_,_,rfl,rfl⟩
  ·rw[if_neg h,if_neg h];exact Or.inl rfl
theorem afi(s s':Bool)(e:Datum):SmO(e.sum(Datum.number s 0(-1074)))(e.sum(Datum.number s' 0(-1074))):=by
 rw[Tq e,Tq e];exact Xt s s' e
theorem jW {x x' y y':Nat}(hx:Sm x x')(hy:Sm y y'):Sm(bq x y)(bq x' y'):=afh Xt afi hx hy
theorem nE {x x' y y':Nat}(hx:Sm x x')(hy:Sm y y'):Sm(dI x y)(dI x' y'):=by
 refine afh(f:=fun d e=>d.sum e.opposite)(fun s s' e=>Xt s s' _)(fun s s' e=>?_)hx hy
 exact afi(!s)(!s')e
theorem Ki(s s':Bool)(e:Datum):SmO((Datum.number s 0(-1074)).product e)((Datum.number s' 0(-1074)).product e):=by
 cases e with
 |nan=>exact Or.inl rfl
 |infinity t=>exact Or.inl rfl
 |number t n j =>
  refine Or.inr⟨s ^^ t,s' ^^ t,-1074+j,-1074+j,?_,?_⟩
  ·simp only[Datum.product,Nat.zero_mul]
  ·simp only[Datum.product,Nat.zero_mul]
theorem Xu(s s':Bool)(e:Datum):SmO(e.product(Datum.number s 0(-1074)))(e.product(Datum.number s' 0(-1074))):=by
 rw[Ei e,Ei e];exact Ki s s' e
theorem ze {x x' y y':Nat}(hx:Sm x x')(hy:Sm y y'):Sm(bT x y)(bT x' y'):=afh Ki Xu hx hy
theorem ZN {x x':Nat}(hx:Sm x x'):Sm(d9 x)(d9 x'):=by
 have key:∀x,d9 x=(((double.read x).root 54).map double.write).getD uT:=fun x=>rfl
 rw[key,key]
 rcases hx with h | ⟨h1,h2⟩
 ·rw[h];exact Sm.refl _
 ·rw[jo h1,jo h2]
  exact(show SmO _ _ from Or.inr⟨_,_,_,_,rfl,rfl⟩).sm
theorem aj5(s s':Bool)(e:Datum):SmO((Datum.number s 0(-1074)).quotient 54 e)((Datum.number s' 0(-1074)).quotient 54 e):=by
 cases e with
 |nan=>exact Or.inl rfl
 |infinity t=>exact Or.inr⟨_,_,_,_,rfl,rfl⟩
 |number t n j =>
  cases n with
  |zero=>exact Or.inl rfl
  |succ n =>
   have key:∀s,(Datum.number s 0(-1074)).quotient 54(.number t(n+1)j)=some(.number(s ^^ t)0(-1074 - j - ((54+(n+1).log2 - (0:Nat).log2:Nat):Int) - 1)):=fun s=>by
    simp only[Datum.quotient,Nat.add_one_ne_zero,if_false,Nat.zero_shiftLeft,Nat.zero_div,Nat.zero_mod,Nat.mul_zero,bne_self_eq_false,Bool.toNat_false,Nat.add_zero]
   exact Or.inr⟨_,_,_,_,key s,key s'⟩
theorem adV {x x' y y':Nat}(hx:Sm x x')(hy:Sm y y')(h0:dK y 0=false):Sm(fdiv x y)(fdiv x' y'):=by
 have key:∀x y,fdiv x y=(((double.read x).quotient 54(double.read y)).map double.write).getD uT:=fun x y=>rfl
 rw[key,key]
 have hy:double.read y=double.read y':=by
  rcases hy with h | ⟨h1,_⟩
  ·exact h
  ·exfalso
   have z0:(double.read 0).isZero=true:=by decide +kernel
   have:dK y 0=dK 0 0:=za(Or.inr⟨h1,z0⟩)(Sm.refl 0)
   rw[this]at h0
   exact absurd h0(by decide +kernel)
 rw[hy]
 rcases hx with h | ⟨h1,h2⟩
 ·rw[h];exact Sm.refl _
 ·rw[jo h1,jo h2]
  exact(aj5 _ _ _).sm
end Go.Ev
namespace Go.Proofs.YtefphimaggjihaaGreatDoor.Pi.Rd
open Go.Shelf Go.RowKit Go.Gv
open Hs.Sc (fT)
open Hs Hs.So Hs.Sc Hs.Fm
open Go.Ev (dK jO kL gN lK bq dI bT fdiv d9 Sm mV za adT adU nD Ws jW nE ze ZN adV)
theorem w9 {x y:Nat}(h:Sm x y):eP x=eP y:=by unfold eP;rw[Ws h(Sm.refl _),adU h(Sm.refl _)]
theorem nG {a b c a' b' c':Nat}(ha:Sm a a')(hb:Sm b b')(hc:Sm c c'):dL a b c=dL a' b' c':=by unfold dL;rw[w9 ha,w9 hb,w9 hc]
theorem O9 {b b':Bool}{x y x' y':Nat}(hb:b=b')(hx:Sm x x')(hy:Sm y y'):Sm(cond b x y)(cond b' x' y'):=by
 subst hb
 cases b
 ·exact hy
 ·exact hx
theorem Pb {x y x' y':Nat}(hx:Sm x x')(hy:Sm y y'):Sm(uf x y)(uf x' y'):=O9(adT hy hx)hy hx
theorem Pf {x y x' y':Nat}(hx:Sm x x')(hy:Sm y y'):Sm(ug x y)(ug x' y'):=O9(nD hy hx)hy hx
theorem Jr {x y:Nat}(h:Sm x y):vo x=vo y:=by unfold vo;rw[za h(Sm.refl _)]
abbrev Wt(b b':Nat→Nat):Prop:=∀i,i<6→Sm(b i)(b' i)
theorem six {x0 x1 x2 x3 x4 x5 y0 y1 y2 y3 y4 y5:Nat}(h0:Sm x0 y0)(h1:Sm x1 y1)(h2:Sm x2 y2)(h3:Sm x3 y3)(h4:Sm x4 y4)(h5:Sm x5 y5):Wt(ls [x0,x1,x2,x3,x4,x5])(ls [y0,y1,y2,y3,y4,y5]):=fun i hi =>
 match i,hi with
 | 0,_=>h0
 | 1,_=>h1
 | 2,_=>h2
 | 3,_=>h3
 | 4,_=>h4
 | 5,_=>h5
theorem Il {b b' c c':Nat→Nat}(hb:Wt b b')(hc:Wt c c'):Wt(BN b c)(BN b' c'):=by
 unfold BN
 exact six(Pb(hb 0(by omega))(hc 0(by omega)))(Pb(hb 1(by omega))(hc 1(by omega)))(Pb(hb 2(by omega))(hc 2(by omega)))(Pf(hb 3(by omega))(hc 3(by omega)))(Pf(hb 4(by omega))(hc 4(by omega)))(Pf(hb 5(by omega))(hc 5(by omega)))
theorem ZO {b b':Nat→Nat}(h:Wt b b'):kM b=kM b':=by
 have h0:=h 0(by omega)
 have h1:=h 1(by omega)
 have h2:=h 2(by omega)
 have h3:=h 3(by omega)
 have h4:=h 4(by omega)
 have h5:=h 5(by omega)
 unfold kM abJ adW
 rw[nG h0 h1 h2,nG h3 h4 h5,nD h0 h3,nD h1 h4,nD h2 h5]
theorem Pg {a b c a' b' c':Nat}(ha:Sm a a')(hb:Sm b b')(hc:Sm c c'):Sm(iT a b c)(iT a' b' c'):=by
 unfold iT abK
 exact ZN(jW(jW(ze ha ha)(ze hb hb))(ze hc hc))
theorem adX {a b c a' b' c':Nat}(ha:Sm a a')(hb:Sm b b')(hc:Sm c c'):Vx a b c=Vx a' b' c':=by
 unfold Vx
 rw[nG ha hb hc,za(Pg ha hb hc)(Sm.refl 0)]
theorem Wu {a b c x a' b' c' x':Nat}(ha:Sm a a')(hb:Sm b b')(hc:Sm c c')(hx:Sm x x'):Sm(unN a b c x)(unN a' b' c' x'):=by
 unfold unN
 rw[←nG ha hb hc,←za(Pg ha hb hc)(Sm.refl 0)]
 cases dL a b c
 ·exact Sm.refl 0
 ·cases h0:dK(iT a b c)0
  ·exact adV hx(Pg ha hb hc)h0
  ·exact Sm.refl 0
theorem Wv {b c e f b' c' e' f':Nat}(hb:Sm b b')(hc:Sm c c')(he:Sm e e')(hf:Sm f f'):Sm(RU b c e f)(RU b' c' e' f'):=nE(ze hb hf)(ze hc he)
theorem aon {e e':Nat→Nat}(h:∀i,i<10→Sm(e i)(e' i)):ZP e=ZP e':=by
 have h0:=h 0(by omega)
 have h1:=h 1(by omega)
 have h2:=h 2(by omega)
 have h3:=h 3(by omega)
 have h4:=h 4(by omega)
 have h5:=h 5(by omega)
 have h6:=h 6(by omega)
 have h7:=h 7(by omega)
 have h8:=h 8(by omega)
 have h9:=h 9(by omega)
 have dx:Sm(dX e)(dX e'):=nE h3 h0
 have dy:Sm(dY e)(dY e'):=nE h4 h1
 have dz:Sm(dZ e)(dZ e'):=nE h5 h2
 have ux:Sm(uX e)(uX e'):=Wu dx dy dz dx
 have uy:Sm(uY e)(uY e'):=Wu dx dy dz dy
 have uz:Sm(uZ e)(uZ e'):=Wu dx dy dz dz
 have up:upB e=upB e':=by
  unfold upB
  exact za(Pg(Wv uy uz h7 h8)(Wv uz ux h8 h6)(Wv ux uy h6 h7))(Sm.refl 0)
 unfold ZP feB
 rw[nG h0 h1 h2,nG h3 h4 h5,nG h6 h7 h8,w9 h9,nD h9(Sm.refl 0),adX dx dy dz,up]
section
variable {a a':Nat→Nat}(h:∀i,i<11→Sm(a i)(a' i))
include h
theorem auS:Im a=Im a':=by
 unfold Im
 rw[nG(h 0(by omega))(h 1(by omega))(h 2(by omega)),nG(h 3(by omega))(h 4(by omega))(h 5(by omega)),nG(h 6(by omega))(h 7(by omega))(h 8(by omega)),w9(h 9(by omega)),w9(h 10(by omega))]
theorem Fy {sk m m':Int}{b b':Nat→Nat}(hm:m=m')(hb:Wt b b'):Rx a sk m b=Rx a' sk m' b':=by
 unfold Rx
 rw[auS h,hm,ZO hb]
theorem ZQ:Wt(nH a)(nH a'):=by
 have h9:=h 9(by omega)
 unfold nH
 exact six(nE(h 0(by omega))h9)(nE(h 1(by omega))h9)(nE(h 2(by omega))h9)(jW(h 0(by omega))h9)(jW(h 1(by omega))h9)(jW(h 2(by omega))h9)
theorem adY:Wt(rC a)(rC a'):=by
 unfold rC
 exact six(h 0(by omega))(h 1(by omega))(h 2(by omega))(h 3(by omega))(h 4(by omega))(h 5(by omega))
theorem aoo:Wt(Js a)(Js a'):=by
 unfold Js Hs.jg
 exact Il(Il(six(h 0(by omega))(h 1(by omega))(h 2(by omega))(h 0(by omega))(h 1(by omega))(h 2(by omega)))(six(h 3(by omega))(h 4(by omega))(h 5(by omega))(h 3(by omega))(h 4(by omega))(h 5(by omega))))(six(h 6(by omega))(h 7(by omega))(h 8(by omega))(h 6(by omega))(h 7(by omega))(h 8(by omega)))
theorem amV:zB a=zB a':=by
 unfold zB
 rw[Jr(h 5(by omega)),Jr(h 4(by omega))]
theorem adZ:LW(a 3)(a 4)(a 5)=LW(a' 3)(a' 4)(a' 5):=by
 unfold LW
 rw[Jr(h 3(by omega)),Jr(h 4(by omega)),Jr(h 5(by omega))]
omit h in
theorem Jt(z i:Nat) {x y:Nat}(h:Sm x y):Sm(fl3 z i x)(fl3 z i y):=O9 rfl(Sm.refl 0)h
theorem ajh(z:Nat):Wt(pK a z)(pK a' z):=by
 have h9:=h 9(by omega)
 have t:Wt(tuE a)(tuE a'):=by
  unfold tuE Hs.jg
  refine Il(six(h 0(by omega))(h 1(by omega))(h 2(by omega))(h 0(by omega))(h 1(by omega))(h 2(by omega))) ?_
  have s0:=jW(h 0(by omega))(h 3(by omega))
  have s1:=jW(h 1(by omega))(h 4(by omega))
  have s2:=jW(h 2(by omega))(h 5(by omega))
  exact six s0 s1 s2 s0 s1 s2
 unfold pK
 exact six(nE(t 0(by omega))(Jt z 0 h9))(nE(t 1(by omega))(Jt z 1 h9))(nE(t 2(by omega))(Jt z 2 h9))(jW(t 3(by omega))(Jt z 0 h9))(jW(t 4(by omega))(Jt z 1 h9))(jW(t 5(by omega))(Jt z 2 h9))
theorem aji(z:Nat):Wt(pO a z)(pO a' z):=by
 have r:∀i,Sm(riA a z i)(riA a' z i):=fun i=>jW(Jt z i(h 9(by omega)))(h 10(by omega))
 unfold pO
 exact six(nE(h 0(by omega))(r 0))(nE(h 1(by omega))(r 1))(nE(h 2(by omega))(r 2))(jW(h 0(by omega))(r 0))(jW(h 1(by omega))(r 1))(jW(h 2(by omega))(r 2))
theorem auT(sk:Int):e1 a sk=e1 a' sk:=Fy h(by unfold Du;rw[nD(h 9(by omega))(Sm.refl 0)])(ZQ h)
theorem auU(sk:Int):e2 a sk=e2 a' sk:=Fy h(by unfold xg Co;rw[nD(h 0(by omega))(h 3(by omega)),nD(h 1(by omega))(h 4(by omega)),nD(h 2(by omega))(h 5(by omega))])(adY h)
theorem auV(sk:Int):e3 a sk=e3 a' sk:=Fy h rfl(aoo h)
theorem auW(sk:Int):e4 a sk=e4 a' sk:=Fy h(by unfold xk;rw[nD(h 9(by omega))(Sm.refl 0),adX(h 3(by omega))(h 4(by omega))(h 5(by omega))])(ZQ h)
theorem auX(sk:Int):e5 a sk=e5 a' sk:=Fy h(by unfold Dv;rw[adZ h,nD(h 9(by omega))(Sm.refl 0)])(by rw[amV h];exact ajh h _)
theorem auY(sk:Int):e6 a sk=e6 a' sk:=Fy h(by unfold Dw;rw[adZ h,nD(h 10(by omega))(Sm.refl 0),Ws(h 9(by omega))(h 10(by omega))])(by rw[amV h];exact aji h _)
end
theorem RV {k:Int}{a a':Nat→Nat}{sk:Int}(h:∀i,i<11→Sm(a' i)(a i))(hm:jG(fC k a sk)=0):aj Tryz.prog 98 [SH k a' sk](iA 0):=by
 obtain⟨_,hk,_⟩:=kI hm
 obtain⟨z1,z2,z3,z4,z5,z6⟩:=ajj hm
 have hk':k=1∨k=2∨k=3∨k=4∨k=5∨k=6:=by omega
 rcases hk' with rfl |rfl |rfl |rfl |rfl |rfl
 ·exact yC(RX a' sk((auT h sk).trans(z1 rfl)))
 ·exact yC(RY a' sk((auU h sk).trans(z2 rfl)))
 ·exact yC(RZ a' sk((auV h sk).trans(z3 rfl)))
 ·exact yC(R7 a' sk((auW h sk).trans(z4 rfl)))
 ·exact yC(R8 a' sk((auX h sk).trans(z5 rfl)))
 ·exact yC(R9 a' sk((auY h sk).trans(z6 rfl)))
section
variable {F G:Hs.Fm.Fd}(hW:F.W=G.W)(hH:F.H=G.H)(hn:F.n=G.n)(hs:F.hs=G.hs)(hk:F.sk=G.sk)(ha:∀i,i<3→Sm(F.at_ i)(G.at_ i))(hd:Sm F.sd G.sd)
include hW hH hn hs hk ha hd
theorem ajk:F.jM=G.jM:=by
 unfold Fd.jM Fd.Fz Fd.far Fd.rD
 rw[hW,hH,hn,hs,hk,nG(ha 0(by omega))(ha 1(by omega))(ha 2(by omega)),w9 hd,nD hd(Sm.refl 0)]
omit hH hn hk in
theorem auZ(q:Nat):∀i,i<3→Sm(pt F q i)(pt G q i):=by
 unfold pt
 rw[hW,hs]
 intro i hi
 match i,hi with
 | 0,_=>exact jW(ha 0(by omega))(ze(Sm.refl _)hd)
 | 1,_=>exact jW(ha 1(by omega))(Sm.refl _)
 | 2,_=>exact jW(ha 2(by omega))(ze(Sm.refl _)hd)
omit hH hk in
theorem au0:Wt(bx F)(bx G):=by
 have p:∀q,Wt(pp(pt F q))(pp(pt G q)):=fun q=>by
  have t:=auZ hW hs ha hd q
  unfold pp
  exact six(t 0(by omega))(t 1(by omega))(t 2(by omega))(t 0(by omega))(t 1(by omega))(t 2(by omega))
 unfold bx
 rw[hn]
 have key:∀n,Wt(mM(pt F)n)(mM(pt G)n):=fun n=>by
  induction n with
  |zero=>exact p 0
  |succ n ih=>exact Il ih(p n)
 exact key _
theorem Ww(hm:G.jM=0)(hb:(kM(bx G)==0)=true):aj Tryz.prog 100 [.agg F.c](iA 0):=by
 have e1:=(ajk hW hH hn hs hk ha hd).trans hm
 have e2:(kM(bx F)==0)=true:=by rw[ZO(au0 hW hn hs ha hd)];exact hb
 obtain⟨⟨w,h,d⟩,_⟩:=Ju e1
 have k:=Sb d e1
 rw[e2]at k
 exact ZR k
end
end Go.Proofs.YtefphimaggjihaaGreatDoor.Pi.Rd
namespace Go.Gv
open Go.RowKit
theorem Vq {P:Program}{f:FuncId}{args:Array Value}{w:World}{R R':Value→World→Prop}
  (h:Calls P f args w fun e w'=>∃v,e=.returned v∧R v w')(h':Calls P f args w fun e w'=>∃v,e=.returned v∧R' v w')(hi:P.inits.idxOf? f=none):∃v w',R v w'∧R' v w':=by
 have g:Calls P f args w fun |.returned v,w'=>R v w' |_,_=>False:=h.mono fun e w'⟨v,he,q⟩=>by subst he;exact q
 have g':Calls P f args w fun |.returned v,w'=>R' v w' |_,_=>False:=h'.mono fun e w'⟨v,he,q⟩=>by subst he;exact q
 obtain⟨n,v,w1,e1,r1⟩:=g.done hi
 obtain⟨m,v',w2,e2,r2⟩:=g'.done hi
 have a:=runN_ended e1 m
 have b:=runN_ended e2 n
 rw[Nat.add_comm,a]at b
 injection b with ho hw
 injection ho with hv
 subst hv hw
 exact⟨_,_,r1,r2⟩
def Zg:Prop:=∃(A:Nat→Prop)(w:World),(∀b,A b→b<w.heap.size)∧vH⟨w,A,fun _=>none⟩
theorem ain {P:Program}{f:Nat}{args:List AV}{m m':Int}(h:aj P f args(.x(.int .i64 m)))(h':aj P f args(.x(.int .i64 m')))(hi:P.inits.idxOf? f=none)(hw:Zg)(ht:∀E:Env,∃aZ:Array Value,dB E args aZ.toList):m=m':=by
 obtain⟨A,w,hA,hg⟩:=hw
 obtain⟨aZ,hr⟩:=ht⟨w,A,fun _=>none⟩
 obtain⟨v,w',⟨r1,_⟩,⟨r2,_⟩⟩:=Vq(R:=fun v w'=>rel⟨w',A,fun _=>none⟩(.x(.int .i64 m))v∧Below w.heap.size w w')(R':=fun v w'=>rel⟨w',A,fun _=>none⟩(.x(.int .i64 m'))v∧Below w.heap.size w w')(h.2 A w aZ hA hr hg)(h'.2 A w aZ hA hr hg)hi
 have e1:=bI.1 r1
 have e2:=bI.1 r2
 rw[e1]at e2
 injection e2
end Go.Gv
namespace Go.Proofs.YtefphimaggjihaaGreatDoor.Pi.Rd
open Go.Shelf Go.RowKit Go.Gv
open Hs.Sc (fT)
open Hs Hs.So Hs.Sc Hs.Fm
open Go.Ev (dK aL Sm mV vw)
theorem amu(k:Int) {a:Nat→Nat}(sk:Int)(hn:∀i,i<11→aL(a i)=false)(E:Env):∃aZ:Array Value,dB E [SH k a sk]aZ.toList:=by
 have f:∀i,i<11→rel E(.f(a i))(.float .f64(a i)):=fun i hi=>jB.2⟨a i,rfl,Go.Ev.iI(hn i hi)⟩
 refine⟨#[.agg #[.int .i64 k,.float .f64(a 0),.float .f64(a 1),.float .f64(a 2),.float .f64(a 3),.float .f64(a 4),.float .f64(a 5),.float .f64(a 6),.float .f64(a 7),.float .f64(a 8),.float .f64(a 9),.float .f64(a 10),.int .i64 sk]],aH.2⟨_,[],rfl,kV.2⟨_,rfl,?_⟩,bK.2 rfl⟩⟩
 exact aH.2⟨_,_,rfl,bI.2 rfl,aH.2⟨_,_,rfl,f 0(by decide),aH.2⟨_,_,rfl,f 1(by decide),aH.2⟨_,_,rfl,f 2(by decide),aH.2⟨_,_,rfl,f 3(by decide),aH.2⟨_,_,rfl,f 4(by decide),aH.2⟨_,_,rfl,f 5(by decide),aH.2⟨_,_,rfl,f 6(by decide),aH.2⟨_,_,rfl,f 7(by decide),aH.2⟨_,_,rfl,f 8(by decide),aH.2⟨_,_,rfl,f 9(by decide),aH.2⟨_,_,rfl,f 10(by decide),aH.2⟨_,_,rfl,bI.2 rfl,bK.2 rfl⟩⟩⟩⟩⟩⟩⟩⟩⟩⟩⟩⟩⟩
theorem ata {k:Int}{a:Nat→Nat}{sk:Int}(h:aj Tryz.prog 98 [SH k a sk](iA 0))(hn:∀i,i<11→aL(a i)=false)(hw:Zg):jG(fC k a sk)=0 :=
 ain(A9 k a sk).1 h(by kernel_rfl)hw(amu k sk hn)
theorem Gy {tb:Nat→Bool}{P:Nat→dM}{n:Nat}(hP:PM n P):∀(f k fr:Nat),k<f→k<n→fr≤k→(∀j,fr≤j→j≤k→okJ P j)→Vm P k=(k:Int) - fr+1→qc tb P f k=false→∀i,fr≤i→i≤k→(P i).op=0→Di tb(P i).k(P i).a(P i).sk=false
 | 0,_,_,h,_,_,_,_,_,_,_,_,_=>absurd h(Nat.not_lt_zero _)
 |f+1,k,fr,hf,hk,hfr,hok,hsz,hb,i,hi,hik,hi0=>by
  by_cases h0:(P k).op=0
  ·have e:fr=k:=by have:=(LP h0).1;omega
   have e2:i=k:=by omega
   subst e2
   have eb:qc tb P(f+1)i=Di tb(P i).k(P i).a(P i).sk:=by show(if _ then _ else _)=_;rw[if_pos h0]
   rw[←eb];exact hb
  ·have eb:qc tb P(f+1)k=(qc tb P f(P k).l.toNat||qc tb P f(P k).r.toNat):=by show(if _ then _ else _)=_;rw[if_neg h0]
   rw[eb]at hb
   obtain⟨bl,br⟩:=Bool.or_eq_false_iff.1 hb
   rcases hP k hk with h | ⟨_,hl,hr⟩
   ·exact absurd h h0
   obtain⟨_,hj⟩:=hok k hfr(Nat.le_refl _)
   rcases hj with h | ⟨er,el⟩
   ·exact absurd h h0
   obtain⟨s1,_⟩:=DL h0 hl.1 hl.2 hr.1 hr.2
   rw[show(sd P k).1(k - 1)=Vm P(k - 1)from(Fb(by omega)).1]at el
   have er2:(P k).r.toNat=k - 1:=by omega
   have hlk:(P k).l.toNat<n:=by omega
   have p1:=Jb hP hlk
   have p2:=Jb(P:=P)hP(show k - 1<n by omega)
   rw[er2]at s1 br
   have hl2:fr≤(P k).l.toNat:=by omega
   have hk':i≠k:=fun e=>by subst e;exact h0 hi0
   by_cases hm:i≤(P k).l.toNat
   ·exact Gy hP f(P k).l.toNat fr(by omega)hlk hl2(fun j h1 h2=>hok j h1(by omega))(by omega)bl i hi hm hi0
   ·exact Gy hP f(k - 1)((P k).l.toNat+1)(by omega)(by omega)(by omega)(fun j h1 h2=>hok j(by omega)(by omega))(by omega)br i(by omega)(by omega)hi0
theorem leaves {n:Nat}{P:Nat→dM}(h1:1≤n)(hP:PM n P)(hb:PO bG n P=false):(∀j,j<n→lV(P j)=true)∧∀i,i<n→(P i).op=0→Di bG(P i).k(P i).a(P i).sk=false:=by
 unfold PO at hb
 have har:FH n P=true:=by
  cases ha:FH n P
  ·rw[ha]at hb;cases hb
  ·rfl
 rw[har]at hb
 have ha:arP n P:=by
  unfold FH at har
  exact @of_decide_eq_true _(_)har
 have e1:n - 1+1=n:=by omega
 have hsz:Vm P(n - 1)=(n:Nat):=by unfold Vm;rw[e1];exact ha.2.1
 exact⟨fun j hj=>(ha.1 j hj).1,fun i hi h0=>Gy hP n(n - 1)0(by omega)(by omega)(by omega)(fun j _ hj=>ha.1 j(by omega))(by omega)hb i(by omega)(by omega)h0⟩
theorem axP {k:Int}{a:Nat→Nat}{sk:Int}(hk:1≤k∧k≤6)(h:Di bG k a sk=false):∀i,i<11→Sm(cX k(rd a)i)(a i):=fun i hi=>mV(Ij hk h i hi)
theorem agm {p:dM}(h:lV p=true)(h0:p.op=0):p.l=0∧p.r=0∧p.sk=0:=by
 unfold lV at h
 rw[h0]at h
 have h:cond(cond(p.l==0)(p.r==0)false)(p.sk==0)false=true:=h
 cases h1:(p.l==0)
 ·rw[h1]at h;cases h
 ·cases h2:(p.r==0)
  ·rw[h1,h2]at h;cases h
  ·rw[h1,h2]at h
   exact⟨eq_of_beq h1,eq_of_beq h2,eq_of_beq h⟩
theorem adi {n:Nat}{P:Nat→dM}{sk:Int}(hs:Nb n P sk=0)(hb:PO bG n P=false):aj Tryz.prog 99 [.agg(Wy n(fun i=>sJ(P i))sk)](iA 0):=by
 have sp:=Od n(fun i=>sJ(P i))sk
 by_cases H:Zg
 ·have e:Nb n(fun i=>sJ(P i))sk=0:=by
   have h1:1≤n:=by
    unfold Nb at hs
    obtain⟨g1,_⟩:=c4(by decide)hs
    have:=of_decide_eq_false(uh g1).1
    omega
   have hp:∀i,i<n→IZ P i=0:=by
    unfold Nb at hs
    obtain⟨_,hs⟩:=c4(by decide)hs
    obtain⟨_,hs⟩:=c4(by decide)hs
    exact dh _ hs
   obtain⟨pm,hm⟩:=Uv hp
   obtain⟨hbare,hsh⟩:=leaves h1 pm hb
   have hp':∀i,i<n→IZ(fun i=>sJ(P i))i=0:=fun i hi=>by
    have h:=hp i hi
    unfold IZ at h ⊢
    by_cases h0:(P i).op=0
    ·have e:sJ(P i)=⟨0,0,0,(P i).k,cX(P i).k(rd(P i).a),0⟩:=by unfold sJ;rw[if_pos h0]
     have m:=hm i hi h0
     obtain⟨_,_,s0⟩:=agm(hbare i hi)h0
     rw[s0]at m
     have hk:=(kI m).2.1
     have S:=Ij hk(hsh i hi h0)
     have m':jG(fC(P i).k(cX(P i).k(rd(P i).a))0)=0:=ata(RV(fun j hj=>mV(S j hj))m)(fun j hj=>(vw(S j hj)).1)H
     unfold Rf at h
     rw[h0]at h
     have h:mlE(jG(fC(P i).k(P i).a(P i).sk))(P i).k=0:=h
     rw[s0,m]at h
     show Rf(sJ(P i))(i:Nat)=0
     rw[e]
     show mlE(jG(fC(P i).k(cX(P i).k(rd(P i).a))0))(P i).k=0
     rw[m']
     exact h
    ·have e:sJ(P i)=⟨(P i).op,(P i).l,(P i).r,0,fun _=>0,0⟩:=by unfold sJ;rw[if_neg h0]
     show Rf(sJ(P i))(i:Nat)=0
     rw[e]
     unfold Rf at h ⊢
     rw[beq_false_of_ne h0]at h
     show cond((P i).op==0)_(cond(opB(P i).op)(cond(nmB(P i).l(P i).r(i:Nat))9 0)11)=0
     rw[beq_false_of_ne h0]
     exact h
   have e2:=Aw n hp'
   unfold Nb at hs ⊢
   obtain⟨g1,hs⟩:=c4(by decide)hs
   obtain⟨g2,_⟩:=c4(by decide)hs
   rw[g1,g2,e2]
   rfl
  rw[e]at sp
  exact sp
 ·exact⟨sp.1,fun A w aZ hA _ hg=>absurd⟨A,w,hA,hg⟩H⟩
theorem amv {F:Hs.Fm.Fd}(h:L8 F.c=0):F.jM=0∧(kM(bx F)==0)=true:=by
 obtain⟨_,_,_,_,_,_,h7,h8⟩:dL(F.at_ 0)(F.at_ 1)(F.at_ 2)=true∧eP F.sd=true∧F.n≤64∧(2≤F.W∧F.W≤8∧2≤F.H∧F.H≤8)∧(0≤F.sk∧F.sk<16)∧(∀q,q<F.n→oU(F.hs q)=false)∧F.jM=0∧(kM(bx F)==0)=true:=(uN F).2 h
 exact⟨h7,h8⟩
def aqG(F:Hs.Fm.Fd):Hs.Fm.Fd:=⟨F.W,F.H,fun i=>dW(F.at_ i),dW F.sd,F.n,F.hs,F.sk⟩
theorem axQ {F:Hs.Fm.Fd}(h:J6 bG F=false):(∀i,i<3→Sm(dW(F.at_ i))(F.at_ i))∧Sm(dW F.sd)F.sd:=by
 unfold J6 at h
 obtain⟨h1,h2⟩:=Bool.or_eq_false_iff.1 h
 obtain⟨a0,a1,a2⟩:=oD h1
 refine⟨fun i hi=>?_,mV(jc(jC h2))⟩
 match i,hi with
 | 0,_=>exact mV(jc a0)
 | 1,_=>exact mV(jc a1)
 | 2,_=>exact mV(jc a2)
theorem amw {e:Nat→Nat}(h:∀i,i<10→bG(e i)=true):∀i,i<10→Sm(F8(Rz e)i)(e i):=fun i hi=>by
 match i,hi with
 | 0,hi=>exact mV(jc(h 0 hi))
 | 1,hi=>exact mV(jc(h 1 hi))
 | 2,hi=>exact mV(jc(h 2 hi))
 | 3,hi=>exact mV(jc(h 3 hi))
 | 4,hi=>exact mV(jc(h 4 hi))
 | 5,hi=>exact mV(jc(h 5 hi))
 | 6,hi=>exact mV(jc(h 6 hi))
 | 7,hi=>exact mV(jc(h 7 hi))
 | 8,hi=>exact mV(jc(h 8 hi))
 | 9,hi=>exact mV(jc(h 9 hi))
theorem akl {s:fT}(h:yP s=0)(ht:Told s):Yb s:=by
 have hsk:=fun j hj=>afR(s:=s)h(j:=j)hj
 unfold yP at h
 obtain⟨_,h⟩:=c4(by decide)h
 obtain⟨_,h⟩:=c0 h
 obtain⟨hT,h⟩:=c0 h
 obtain⟨_,h⟩:=c0 h
 obtain⟨_,hE⟩:=c4(by decide)h
 unfold thE at hT
 obtain⟨hS,hT⟩:=c0 hT
 obtain⟨hO,hF⟩:=c0 hT
 refine⟨?_,hsk,fun j hj=>?_,fun j hj=>?_,fun j hj=>?_⟩
 ·have e:=P5(F8(Rz s.eye))
  rw[aon(amw ht.eye),hE]at e
  exact e
 ·have m:jG(fC(s.S j).k(s.S j).a(s.S j).sk)=0:=Sl(dh _ hS j hj)
  exact RV(axP(kI m).2.1(ht.S j hj))m
 ·exact adi(Sl(dh _ hO j hj))(ht.O j hj)
 ·have hf:L8(s.F j).c=0:=Sl(dh _ hF j hj)
  obtain⟨h7,h8⟩:=amv hf
  obtain⟨g1,g2⟩:=axQ(ht.F j hj)
  exact Ww(F:=aqG(s.F j))(G:=s.F j)rfl rfl rfl rfl rfl g1 g2 h7 h8
end Go.Proofs.YtefphimaggjihaaGreatDoor.Pi.Rd
namespace Go.Proofs.YtefphimaggjihaaGreatDoor.Pi.Rd
open Go.Shelf Go.RowKit Go.Gv
open Hs Hs.So Hs.Sc Hs.Fm
open Go.Ev (dK)
def BM(a b:Nat):Bool:=cond(dK a b)true(cond(!dK a a)(!dK b b)false)
theorem aiO(a b:Nat):aj Tryz.prog 85 [.f a,.f b](bA(BM a b)):=aP aB av Tryz.aAz(by kernel_rfl)(by kernel_rfl)aA rfl(show ev Tryz.prog [] []aM Tryz.f85 [.f a,.f b]ret=oB(BM a b)by kernel_rfl)
def VL(a b c d e f:Nat):Bool:=cond(cond(BM a d)(BM b e)false)(BM c f)false
def LK1:List Entry:=[⟨85,eFF fun a b=>bA(BM a b)⟩]
theorem ads:∀e,e∈LK1→lg Tryz.prog e:=bn(Fq aiO)aB
theorem adt(a b c d e f:Nat):aj Tryz.prog 84 [V a b c,V d e f](bA(VL a b c d e f)):=aP ads av Tryz.aAA(by kernel_rfl)(by kernel_rfl)aA rfl(show ev Tryz.prog LK1 []aM Tryz.f84 [V a b c,V d e f]ret=oB(VL a b c d e f)by kernel_rfl)
def LK2:List Entry:=⟨84,Zt fun a b c d e f=>bA(VL a b c d e f)⟩::LK1
theorem anY:∀e,e∈LK2→lg Tryz.prog e:=bn(ql adt)ads
def sSh(s u:Jd):Bool:=cond(cond(cond(cond(cond(cond(s.k==u.k)(s.sk==u.sk)false)(VL(s.a 0)(s.a 1)(s.a 2)(u.a 0)(u.a 1)(u.a 2))false)(VL(s.a 3)(s.a 4)(s.a 5)(u.a 3)(u.a 4)(u.a 5))false)(VL(s.a 6)(s.a 7)(s.a 8)(u.a 6)(u.a 7)(u.a 8))false)(BM(s.a 9)(u.a 9))false)(BM(s.a 10)(u.a 10))false
theorem auc(s u:Jd):ev Tryz.prog LK2 []aM Tryz.f29 [.agg s.c,.agg u.c]ret=oB(sSh s u):=by kernel_rfl
theorem Zu(s u:Jd):aj Tryz.prog 29 [.agg s.c,.agg u.c](bA(sSh s u)):=aP anY av Tryz.func29(by kernel_rfl)(by kernel_rfl)aA rfl(auc s u)
def aud:List AV→Jd
 | [.x(.int .i64 k),.f a0,.f a1,.f a2,.f a3,.f a4,.f a5,.f a6,.f a7,.f a8,.f a9,.f Hy,.x(.int .i64 sk)]=>⟨k,ls [a0,a1,a2,a3,a4,a5,a6,a7,a8,a9,Hy],sk⟩
 |_=>⟨0,fun _=>0,0⟩
def gSS(c d:List AV):Bool:=sSh(aud c)(aud d)
def eSS(g:List AV→List AV→Bool):List AV→Option AV
 | [.agg [.x(.int .i64 k),.f a0,.f a1,.f a2,.f a3,.f a4,.f a5,.f a6,.f a7,.f a8,.f a9,.f Hy,.x(.int .i64 sk)],.agg [.x(.int .i64 k'),.f b0,.f b1,.f b2,.f b3,.f b4,.f b5,.f b6,.f b7,.f b8,.f b9,.f b10,.x(.int .i64 sk')]]=>some(bA(g [.x(.int .i64 k),.f a0,.f a1,.f a2,.f a3,.f a4,.f a5,.f a6,.f a7,.f a8,.f a9,.f Hy,.x(.int .i64 sk)] [.x(.int .i64 k'),.f b0,.f b1,.f b2,.f b3,.f b4,.f b5,.f b6,.f b7,.f b8,.f b9,.f b10,.x(.int .i64 sk')]))
 |_=>none
theorem anZ:lg Tryz.prog⟨29,eSS gSS⟩:=fun args r hr=>by
 simp only[eSS]at hr
 split at hr
 ·cases hr;exact Or.inl(Zu⟨_,ls [_,_,_,_,_,_,_,_,_,_,_],_⟩⟨_,ls [_,_,_,_,_,_,_,_,_,_,_],_⟩)
 ·cases hr
def dxB(i:Int)(n m:Nat):Bool:=(mJ i n||false)&&((mJ i m||false)&&true)
def v3B(a b c a' b' c':Nat):Bool:=dK a a'&&(dK b b'&&(dK c c'&&true))
section
variable(F G:Hs.Fm.Fd)(i:Int)
def fdN:Bool:=cond(cond(cond(cond(cond(!(F.W==G.W))true(!(F.H==G.H)))true(!v3B(F.at_ 0)(F.at_ 1)(F.at_ 2)(G.at_ 0)(G.at_ 1)(G.at_ 2)))true(!dK F.sd G.sd))true(!(F.sk==G.sk)))true(!((F.n:Int)==G.n))
def yM:St:=mkS 66 [(2,.own 0 0),(3,.own 1 0),(5,iA i)] [.c F.c,.c G.c]
def sfC(o oe:Option Out):Option Out:=cond(decide(i<F.n))(cond(dxB i F.n G.n)(cond(!(F.hs i.toNat==G.hs i.toNat))none o)none)oe
theorem OM:gD Tryz.prog [] []aM(au Tryz.f30 0)(yM F G i)(fu [2,3,5] [some 0,some 1])=sfC F G i(some⟨.normal,yM F G(aI(i+1)),.any⟩)none:=by kernel_rfl
theorem VN:gD Tryz.prog [] []aM(au Tryz.f30 0)(yM F G i)(gM [2,3,5] [some 0,some 1])=sfC F G i none(some⟨.exit 0,yM F G i,.any⟩):=by kernel_rfl
theorem adu:ev Tryz.prog [] [](gu 4(fE [2,3,5] [some 0,some 1](yM F G 0)(.exit 0)(yM F G F.n)))Tryz.f30 [.agg F.c,.agg G.c]ret=cond(fdN F G)(oB false)(gate(Sub(yM F G 0)(yM F G 0))(oB true)):=by kernel_rfl
end
section
variable(s u:fT)(i k:Int)
def e10(e f:Nat→Nat):Bool:=v3B(e 0)(e 1)(e 2)(f 0)(f 1)(f 2)&&(v3B(e 3)(e 4)(e 5)(f 3)(f 4)(f 5)&&(v3B(e 6)(e 7)(e 8)(f 6)(f 7)(f 8)&&(dK(e 9)(f 9)&&true)))
def i3(e f:Nat→Int):Bool:=(e 0==f 0)&&((e 1==f 1)&&((e 2==f 2)&&true))
def hdN:Bool:=cond(cond(cond(cond(cond(cond(!((s.nS:Int)==u.nS))true(!((s.nK:Int)==u.nK)))true(!((s.nL:Int)==u.nL)))true(!((s.nO:Int)==u.nO)))true(!((s.nF:Int)==u.nF)))true(!i3 s.jE u.jE))true(!e10 s.eye u.eye)
def wV(sl:Nat):St:=mkS 223 [(2,.own 0 0),(3,.own 1 0),(sl,iA i)] [.c s.c,.c u.c]
def gB(b:Bool):List AV→AV:=fun _=>bA b
def n1C(f n m:Nat)(c d:Nat→List AV)(o oe:Option Out):Option Out:=cond(decide(i<n))(gate(aj Tryz.prog f [.agg(c i.toNat),.agg(d i.toNat)](bA true))(cond(dxB i n m)o none))oe
theorem aiP:gD Tryz.prog [] [kS Tryz.prog 29(gB true)]aM(au Tryz.f10 0)(wV s u i 5)(fu [2,3,5] [some 0,some 1])=n1C i 29 s.nS u.nS(fun q=>(s.S q).c)(fun q=>(u.S q).c)(some⟨.normal,wV s u(aI(i+1))5,.any⟩)none:=by kernel_rfl
theorem an0:gD Tryz.prog [] [kS Tryz.prog 29(gB true)]aM(au Tryz.f10 0)(wV s u i 5)(gM [2,3,5] [some 0,some 1])=n1C i 29 s.nS u.nS(fun q=>(s.S q).c)(fun q=>(u.S q).c)none(some⟨.exit 0,wV s u i 5,.any⟩):=by kernel_rfl
theorem aiQ:gD Tryz.prog [] [kS Tryz.prog 30(gB true)]aM(au Tryz.f10 3)(wV s u i 12)(fu [2,3,12] [some 0,some 1])=n1C i 30 s.nF u.nF(fun q=>(s.F q).c)(fun q=>(u.F q).c)(some⟨.normal,wV s u(aI(i+1))12,.any⟩)none:=by kernel_rfl
theorem an1:gD Tryz.prog [] [kS Tryz.prog 30(gB true)]aM(au Tryz.f10 3)(wV s u i 12)(gM [2,3,12] [some 0,some 1])=n1C i 30 s.nF u.nF(fun q=>(s.F q).c)(fun q=>(u.F q).c)none(some⟨.exit 6,wV s u i 12,.any⟩):=by kernel_rfl
def j3(a b c a' b' c':Int):Bool:=(a==a')&&((b==b')&&((c==c')&&true))
def i10(e f:Nat→Int):Bool:=j3(e 0)(e 1)(e 2)(f 0)(f 1)(f 2)&&(j3(e 3)(e 4)(e 5)(f 3)(f 4)(f 5)&&(j3(e 6)(e 7)(e 8)(f 6)(f 7)(f 8)&&((e 9==f 9)&&true)))
def n5C(n m:Nat)(b:Bool)(o oe:Option Out):Option Out:=cond(decide(i<n))(cond(dxB i n m)(cond(!b)none o)none)oe
theorem aiU:gD Tryz.prog [] []aM(au Tryz.f10 4)(wV s u i 14)(fu [2,3,14] [some 0,some 1])=n5C i s.nK u.nK(i10(s.K i.toNat)(u.K i.toNat))(some⟨.normal,wV s u(aI(i+1))14,.any⟩)none:=by kernel_rfl
theorem an2:gD Tryz.prog [] []aM(au Tryz.f10 4)(wV s u i 14)(gM [2,3,14] [some 0,some 1])=n5C i s.nK u.nK(i10(s.K i.toNat)(u.K i.toNat))none(some⟨.exit 8,wV s u i 14,.any⟩):=by kernel_rfl
def lm6(a b:Nat→Nat)(l m:Nat→Int):Bool:=v3B(a 0)(a 1)(a 2)(b 0)(b 1)(b 2)&&(j3(l 0)(l 1)(l 2)(m 0)(m 1)(m 2)&&true)
theorem aiV:gD Tryz.prog [] []aM(au Tryz.f10 5)(wV s u i 15)(fu [2,3,15] [some 0,some 1])=n5C i s.nL u.nL(lm6(s.LA i.toNat)(u.LA i.toNat)(s.LL i.toNat)(u.LL i.toNat))(some⟨.normal,wV s u(aI(i+1))15,.any⟩)none:=by kernel_rfl
theorem an3:gD Tryz.prog [] []aM(au Tryz.f10 5)(wV s u i 15)(gM [2,3,15] [some 0,some 1])=n5C i s.nL u.nL(lm6(s.LA i.toNat)(u.LA i.toNat)(s.LL i.toNat)(u.LL i.toNat))none(some⟨.exit 10,wV s u i 15,.any⟩):=by kernel_rfl
end
section
variable(g:List AV→List AV→Bool)(s u:fT)(i:Int)(o w:RG)(k:Int)
def n3S:St:=mkS 223 [(2,.own 0 0),(3,.own 1 0),(6,iA i),(7,.own 2 0),(8,.own 3 0),(9,iA k)] [.c s.c,.c u.c,.c o.c,.c w.c]
def VO:List Nat:=[2,3,6,7,8,9]
def an4:List(Option Nat):=[some 0,some 1,some 2,some 3]
def pB(p q:dM):Bool:=cond(cond(cond(!(p.op==q.op))true(!(p.l==q.l)))true(!(p.r==q.r)))true(!g p.s q.s)
def n3C(x xe:Option Out):Option Out:=cond(decide(k<o.n))(cond(mJ k o.n||false)(cond(mJ k w.n||false)(cond(pB g(o.P k.toNat)(w.P k.toNat))none x)none)none)xe
theorem aiW:gD Tryz.prog [⟨29,eSS g⟩] []aM(au Tryz.f10 2)(n3S s u i o w k)(fu VO an4)=n3C g o w k(some⟨.normal,n3S s u i o w(aI(k+1)),.any⟩)none:=by kernel_rfl
theorem an5:gD Tryz.prog [⟨29,eSS g⟩] []aM(au Tryz.f10 2)(n3S s u i o w k)(gM VO an4)=n3C g o w k none(some⟨.exit 4,n3S s u i o w k,.any⟩):=by kernel_rfl
def n2C(x xe:Option Out):Option Out:=cond(decide(i<s.nO))(cond(mJ i s.nO||false)(cond(mJ i u.nO||false)(cond(cond(!((s.O i.toNat).sk==(u.O i.toNat).sk))true(!(((s.O i.toNat).n:Int)==(u.O i.toNat).n)))none x)none)none)xe
def n2L(j:Nat):Nat→Option dN:=gu 16(fE VO an4(n3S s u i(s.O j)(u.O j)0)(.exit 4)(n3S s u i(s.O j)(u.O j)(s.O j).n))
theorem aiX:gD Tryz.prog [] [](n2L s u i i.toNat)(au Tryz.f10 1)(wV s u i 6)(fu [2,3,6] [some 0,some 1])=n2C s u i(gate(Sub(n3S s u i(s.O i.toNat)(u.O i.toNat)0)(n3S s u i(s.O i.toNat)(u.O i.toNat)0))(some⟨.normal,wV s u(aI(i+1))6,.any⟩))none:=by kernel_rfl
theorem an6:gD Tryz.prog [] [](gu 16 fun _ _=>none)(au Tryz.f10 1)(wV s u i 6)(gM [2,3,6] [some 0,some 1])=n2C s u i none(some⟨.exit 2,wV s u i 6,.any⟩):=by kernel_rfl
def snT(sl:Nat)(ex:Exit)(n:Nat):dN:=fE [2,3,sl] [some 0,some 1](wV s u 0 sl)ex(wV s u n sl)
def snL:Nat→Option dN:=nA [(4,snT s u 5(.exit 0)s.nS),(9,snT s u 6(.exit 2)s.nO),(23,snT s u 12(.exit 6)s.nF),(29,snT s u 14(.exit 8)s.nK),(34,snT s u 15(.exit 10)s.nL)]
def sG(sl:Nat)(x:Option Out):Option Out:=gate(Sub(wV s u 0 sl)(wV s u 0 sl))x
theorem aue:ev Tryz.prog [] [](snL s u)Tryz.f10 [.agg s.c,.agg u.c]ret=cond(hdN s u)(oB false)(sG s u 5(sG s u 6(sG s u 12(sG s u 14(sG s u 15(oB true)))))):=by kernel_rfl
end
end Go.Proofs.YtefphimaggjihaaGreatDoor.Pi.Rd
namespace Go.Proofs.YtefphimaggjihaaGreatDoor.Pi.Rd
open Go.Shelf Go.RowKit Go.Gv
open Hs Hs.So Hs.Sc Hs.Fm
open Go.Ev (dK Sm mV za)
structure Alike(s u:fT):Prop where
 few:s.nS≤1000∧s.nO≤1000∧s.nF≤1000∧s.nK≤1000∧s.nL≤1000
 n:s.nS=u.nS∧s.nO=u.nO∧s.nF=u.nF∧s.nK=u.nK∧s.nL=u.nL
 S:∀q,q<s.nS→sSh(s.S q)(u.S q)=true
 O:∀q,q<s.nO→(s.O q).n≤1000∧(s.O q).n=(u.O q).n∧(s.O q).sk=(u.O q).sk∧∀i,i<(s.O q).n→pB gSS((s.O q).P i)((u.O q).P i)=false
 F:∀q,q<s.nF→(s.F q).n≤1000∧fdN(s.F q)(u.F q)=false∧(s.F q).hs=(u.F q).hs∧(s.F q).n=(u.F q).n
 K:∀q,q<s.nK→s.K q=u.K q
 LA:∀q,q<s.nL→v3B(s.LA q 0)(s.LA q 1)(s.LA q 2)(u.LA q 0)(u.LA q 1)(u.LA q 2)=true
 LL:∀q,q<s.nL→s.LL q=u.LL q
 jE:i3 s.jE u.jE=true
 eye:e10 s.eye u.eye=true
theorem Ut {k n m:Nat}(h:k<n)(e:n=m):dxB(k:Nat)n m=true:=by subst e;unfold dxB;rw[gy h];rfl
theorem akV {F G:Hs.Fm.Fd}(h:F.n≤1000)(hb:fdN F G=false)(hh:F.hs=G.hs)(hn:F.n=G.n):aj Tryz.prog 30 [.agg F.c,.agg G.c](bA true):=by
 have lead:bF Tryz.prog(.loop(au Tryz.f30 0))(yM F G 0)(.exit 0)(yM F G F.n):=by
  refine aU(fun k=>yM F G(k:Nat))F.n(.exit 0)_(by simp)(fun k hk=>?_) ?_
  ·refine aF(aT _ _)aB av aA((OM F G(k:Nat)).trans ?_)
   unfold sfC
   rw[dec_lt hk,Ut hk hn,hh,BEq.rfl,bD(by omega)];rfl
  ·refine aF(bU _ _)aB av aA((VN F G(F.n:Nat)).trans ?_)
   unfold sfC
   rw[bQ,cond_false]
 refine aP aB av Tryz.func30(by kernel_rfl)(by kernel_rfl)(eZ 0 1(by kernel_rfl)(by kernel_rfl)(aR lead))rfl((adu F G).trans ?_)
 rw[hb,ah(Sub.refl _)];rfl
section
variable {s u:fT}
theorem agd(ok:Alike s u):bF Tryz.prog(.loop(au Tryz.f10 0))(wV s u 0 5)(.exit 0)(wV s u s.nS 5):=by
 have few:=ok.few
 refine aU(fun k=>wV s u(k:Nat)5)s.nS(.exit 0)_(by simp)(fun k hk=>?_) ?_
 ·have sp:=Zu(s.S k)(u.S k)
  rw[ok.S k hk]at sp
  refine aF(aT _ _)aB jS aA((aiP s u(k:Nat)).trans ?_)
  unfold n1C
  rw[dec_lt hk,Ut hk ok.n.1,Int.toNat_natCast,ah sp,bD(by omega)];rfl
 ·refine aF(bU _ _)aB jS aA((an0 s u(s.nS:Nat)).trans ?_)
  unfold n1C
  rw[bQ,cond_false]
theorem agf(ok:Alike s u):bF Tryz.prog(.loop(au Tryz.f10 3))(wV s u 0 12)(.exit 6)(wV s u s.nF 12):=by
 have few:=ok.few
 refine aU(fun k=>wV s u(k:Nat)12)s.nF(.exit 6)_(by simp)(fun k hk=>?_) ?_
 ·obtain⟨h1,h2,h3,h4⟩:=ok.F k hk
  refine aF(aT _ _)aB jS aA((aiQ s u(k:Nat)).trans ?_)
  unfold n1C
  rw[dec_lt hk,Ut hk ok.n.2.2.1,Int.toNat_natCast,ah(akV h1 h2 h3 h4),bD(by omega)];rfl
 ·refine aF(bU _ _)aB jS aA((an1 s u(s.nF:Nat)).trans ?_)
  unfold n1C
  rw[bQ,cond_false]
theorem akW(a b c:Int):j3 a b c a b c=true:=by unfold j3;rw[BEq.rfl,BEq.rfl,BEq.rfl];rfl
theorem awi(e:Nat→Int):i10 e e=true:=by unfold i10;rw[akW,akW,akW,BEq.rfl];rfl
theorem agh(ok:Alike s u):bF Tryz.prog(.loop(au Tryz.f10 4))(wV s u 0 14)(.exit 8)(wV s u s.nK 14):=by
 have few:=ok.few
 refine aU(fun k=>wV s u(k:Nat)14)s.nK(.exit 8)_(by simp)(fun k hk=>?_) ?_
 ·refine aF(aT _ _)aB av aA((aiU s u(k:Nat)).trans ?_)
  unfold n5C
  rw[dec_lt hk,Ut hk ok.n.2.2.2.1,Int.toNat_natCast,ok.K k hk,awi,bD(by omega)];rfl
 ·refine aF(bU _ _)aB av aA((an2 s u(s.nK:Nat)).trans ?_)
  unfold n5C
  rw[bQ,cond_false]
theorem agi(ok:Alike s u):bF Tryz.prog(.loop(au Tryz.f10 5))(wV s u 0 15)(.exit 10)(wV s u s.nL 15):=by
 have few:=ok.few
 refine aU(fun k=>wV s u(k:Nat)15)s.nL(.exit 10)_(by simp)(fun k hk=>?_) ?_
 ·refine aF(aT _ _)aB av aA((aiV s u(k:Nat)).trans ?_)
  unfold n5C lm6
  rw[dec_lt hk,Ut hk ok.n.2.2.2.2,Int.toNat_natCast,ok.LA k hk,ok.LL k hk,akW,bD(by omega)];rfl
 ·refine aF(bU _ _)aB av aA((an3 s u(s.nL:Nat)).trans ?_)
  unfold n5C
  rw[bQ,cond_false]
theorem agj(i:Int) {o w:RG}(h:o.n≤1000)(hn:o.n=w.n)(hp:∀q,q<o.n→pB gSS(o.P q)(w.P q)=false):bF Tryz.prog(.loop(au Tryz.f10 2))(n3S s u i o w 0)(.exit 4)(n3S s u i o w o.n):=by
 have en:=bn anZ aB
 refine aU(fun k=>n3S s u i o w(k:Nat))o.n(.exit 4)_(by simp)(fun k hk=>?_) ?_
 ·refine aF(aT _ _)en av aA((aiW gSS s u i o w(k:Nat)).trans ?_)
  unfold n3C
  rw[dec_lt hk,gy hk,gy(show k<w.n by omega),Int.toNat_natCast,hp k hk,bD(by omega)];rfl
 ·refine aF(bU _ _)en av aA((an5 gSS s u i o w(o.n:Nat)).trans ?_)
  unfold n3C
  rw[bQ,cond_false]
theorem aqF {i:Int}{j:Nat}(ok:Alike s u)(hj:j<s.nO):yS Tryz.prog(n2L s u i j)(au Tryz.f10 1) :=
 eZ 0 1(by kernel_rfl)(by kernel_rfl)(aR(agj i(ok.O j hj).1(ok.O j hj).2.1(ok.O j hj).2.2.2))
theorem agk(ok:Alike s u):bF Tryz.prog(.loop(au Tryz.f10 1))(wV s u 0 6)(.exit 2)(wV s u s.nO 6):=by
 have few:=ok.few
 refine aU(fun k=>wV s u(k:Nat)6)s.nO(.exit 2)_(by simp)(fun k hk=>?_) ?_
 ·obtain⟨_,h2,h3,_⟩:=ok.O k hk
  refine aF(aT _ _)aB av(aqF ok(by rw[Int.toNat_natCast];exact hk))((aiX s u(k:Nat)).trans ?_)
  unfold n2C
  rw[dec_lt hk,gy hk,gy(show k<u.nO by have:=ok.n.2.1;omega),Int.toNat_natCast,h2,h3,BEq.rfl,BEq.rfl,ah(Sub.refl _),bD(by omega)];rfl
 ·refine aF(bU _ _)aB av(iG 16)((an6 s u(s.nO:Nat)).trans ?_)
  unfold n2C
  rw[bQ,cond_false]
theorem akm(ok:Alike s u):aj Tryz.prog 10 [.agg s.c,.agg u.c](bA true):=by
 refine aP aB av Tryz.func10(by kernel_rfl)(by kernel_rfl)(dD(eZ 0 6(by kernel_rfl)(by kernel_rfl)(aR(agd ok)))(dD(eZ 1 6(by kernel_rfl)(by kernel_rfl)(aR(agk ok)))(dD(eZ 3 6(by kernel_rfl)(by kernel_rfl)(aR(agf ok)))(dD(eZ 4 6(by kernel_rfl)(by kernel_rfl)(aR(agh ok)))(dD(eZ 5 6(by kernel_rfl)(by kernel_rfl)(aR(agi ok)))o9)))))rfl((aue s u).trans ?_)
 have hd:hdN s u=false:=by
  unfold hdN
  rw[ok.eye,ok.jE,ok.n.1,ok.n.2.1,ok.n.2.2.1,ok.n.2.2.2.1,ok.n.2.2.2.2,BEq.rfl,BEq.rfl,BEq.rfl,BEq.rfl,BEq.rfl];rfl
 unfold sG
 rw[hd,ah(Sub.refl _),ah(Sub.refl _),ah(Sub.refl _),ah(Sub.refl _),ah(Sub.refl _)];rfl
end
def NI(s:fT):fT:=⟨s.nS,fun q=>⟨(s.S q).k,cX(s.S q).k(rd(s.S q).a),(s.S q).sk⟩,s.nO,fun q=>⟨(s.O q).n,fun i=>sJ((s.O q).P i),(s.O q).sk⟩,s.nF,fun q=>aqG(s.F q),s.nK,s.K,s.nL,fun q i=>dW(s.LA q i),s.LL,s.jE,F8(Rz s.eye)⟩
theorem X9(s:fT):∀q,q<3→(Ya s).jE q=s.jE q:=fun q hq=>by
 show(((yO s).map Prod.snd).getD(15+1+q)0)=s.jE q
 rw[aaK]
 match q,hq with
 | 0,_=>rfl
 | 1,_=>rfl
 | 2,_=>rfl
theorem apx(s:fT):scF(Ya s)=(NI s).c:=by
 have e:scF(Ya s)=[(NI s).vS,(NI s).vO,(NI s).vF,(NI s).vK,(NI s).vL,iA((Ya s).jE 0),iA((Ya s).jE 1),iA((Ya s).jE 2),.f((NI s).eye 0),.f((NI s).eye 1),.f((NI s).eye 2),.f((NI s).eye 3),.f((NI s).eye 4),.f((NI s).eye 5),.f((NI s).eye 6),.f((NI s).eye 7),.f((NI s).eye 8),.f((NI s).eye 9)]:=rfl
 rw[e,X9 s 0(by omega),X9 s 1(by omega),X9 s 2(by omega)]
 rfl
theorem nZ {x y:Nat}(h:dK x y=true):BM x y=true:=by unfold BM;rw[h];rfl
theorem agl {s u:Jd}(hk:s.k=u.k)(hs:s.sk=u.sk)(h:∀i,i<11→dK(s.a i)(u.a i)=true):sSh s u=true:=by
 unfold sSh VL
 rw[hk,hs,BEq.rfl,BEq.rfl,nZ(h 0(by omega)),nZ(h 1(by omega)),nZ(h 2(by omega)),nZ(h 3(by omega)),nZ(h 4(by omega)),nZ(h 5(by omega)),nZ(h 6(by omega)),nZ(h 7(by omega)),nZ(h 8(by omega)),nZ(h 9(by omega)),nZ(h 10(by omega))]
 rfl
theorem Uu {a b c a' b' c':Nat}(h0:dK a a'=true)(h1:dK b b'=true)(h2:dK c c'=true):v3B a b c a' b' c'=true:=by unfold v3B;rw[h0,h1,h2];rfl
theorem aqH {p:dM}(h:eqZ p=true):p.k=0∧p.sk=0∧∀i,i<11→dK 0(p.a i)=true:=by
 unfold eqZ at h
 simp only[Bool.and_eq_true]at h
 obtain⟨h0,h1,h2,h3,h4,h5,h6,_⟩:=h
 obtain⟨a0,a1,a2⟩:=Ao h1
 obtain⟨a3,a4,a5⟩:=Ao h2
 obtain⟨a6,a7,a8⟩:=Ao h3
 have z:∀{x:Nat},dK x 0=true→dK 0 x=true:=fun {x} h=>by
  rw[za(Sm.refl 0)(mV h)]
  decide +kernel
 refine⟨eq_of_beq h0,eq_of_beq h6,fun i hi=>?_⟩
 match i,hi with
 | 0,_=>exact z a0
 | 1,_=>exact z a1
 | 2,_=>exact z a2
 | 3,_=>exact z a3
 | 4,_=>exact z a4
 | 5,_=>exact z a5
 | 6,_=>exact z a6
 | 7,_=>exact z a7
 | 8,_=>exact z a8
 | 9,_=>exact z h4
 | 10,_=>exact z h5
theorem anp {p q:dM}(h1:p.op=q.op)(h2:p.l=q.l)(h3:p.r=q.r)(hk:p.k=q.k)(hs:p.sk=q.sk)(h:∀i,i<11→dK(p.a i)(q.a i)=true):pB gSS p q=false:=by
 have e:gSS p.s q.s=true:=agl(s:=⟨p.k,ls [p.a 0,p.a 1,p.a 2,p.a 3,p.a 4,p.a 5,p.a 6,p.a 7,p.a 8,p.a 9,p.a 10],p.sk⟩)(u:=⟨q.k,ls [q.a 0,q.a 1,q.a 2,q.a 3,q.a 4,q.a 5,q.a 6,q.a 7,q.a 8,q.a 9,q.a 10],q.sk⟩)hk hs fun i hi=>by
  match i,hi with
  | 0,hi=>exact h 0 hi
  | 1,hi=>exact h 1 hi
  | 2,hi=>exact h 2 hi
  | 3,hi=>exact h 3 hi
  | 4,hi=>exact h 4 hi
  | 5,hi=>exact h 5 hi
  | 6,hi=>exact h 6 hi
  | 7,hi=>exact h 7 hi
  | 8,hi=>exact h 8 hi
  | 9,hi=>exact h 9 hi
  | 10,hi=>exact h 10 hi
 unfold pB
 rw[e,h1,h2,h3,BEq.rfl,BEq.rfl,BEq.rfl]
 rfl
theorem afC {s:fT}(h:yP s=0)(g:Good s)(t:Told s):Alike(NI s)s:=by
 unfold yP at h
 obtain⟨_,h⟩:=c4(by decide)h
 obtain⟨_,h⟩:=c0 h
 obtain⟨hT,h⟩:=c0 h
 unfold thE at hT
 obtain⟨hS,hT⟩:=c0 hT
 obtain⟨hO,hF⟩:=c0 hT
 have k1:=g.fK
 have k2:=g.fL
 have k3:=g.fS
 have k4:=g.fO
 have k5:=g.fF
 refine⟨⟨by show s.nS≤1000;omega,by show s.nO≤1000;omega,by show s.nF≤1000;omega,by show s.nK≤1000;omega,by show s.nL≤1000;omega⟩,⟨rfl,rfl,rfl,rfl,rfl⟩,fun q hq=>?_,fun q hq=>?_,fun q hq=>?_,fun _ _=>rfl,fun q hq=>?_,fun _ _=>rfl,?_,?_⟩
 ·exact agl rfl rfl(Ij(g.S q hq).1(t.S q hq))
 ·obtain⟨h1,pm,_,_,_⟩:=g.O q hq
  obtain⟨hbare,hsh⟩:=leaves h1.1 pm(t.O q hq)
  have hso:Nb(s.O q).n(s.O q).P(s.O q).sk=0:=Sl(dh _ hO q hq)
  have hp:∀i,i<(s.O q).n→IZ(s.O q).P i=0:=by
   unfold Nb at hso
   obtain⟨_,hso⟩:=c4(by decide)hso
   obtain⟨_,hso⟩:=c4(by decide)hso
   exact dh _ hso
  obtain⟨_,hm⟩:=Uv hp
  refine⟨by show(s.O q).n≤1000;omega,rfl,rfl,fun i hi=>?_⟩
  have hi:i<(s.O q).n:=hi
  show pB gSS(sJ((s.O q).P i))((s.O q).P i)=false
  by_cases h0:((s.O q).P i).op=0
  ·obtain⟨b1,b2,b3⟩:=agm(hbare i hi)h0
   have hk:=(kI(hm i hi h0)).2.1
   unfold sJ
   rw[if_pos h0]
   exact anp h0.symm b1.symm b2.symm rfl b3.symm(Ij hk(hsh i hi h0))
  ·have hz:=hbare i hi
   unfold lV at hz
   rw[beq_false_of_ne h0]at hz
   obtain⟨z1,z2,z3⟩:=aqH hz
   unfold sJ
   rw[if_neg h0]
   exact anp rfl rfl rfl z1.symm z2.symm z3
 ·have hf:L8(s.F q).c=0:=Sl(dh _ hF q hq)
  have fb:=t.F q hq
  unfold J6 at fb
  obtain⟨f1,f2⟩:=Bool.or_eq_false_iff.1 fb
  obtain⟨a0,a1,a2⟩:=oD f1
  obtain⟨W,H,_,_,_,hW,hH,hWH,_⟩:=g.F q hq
  have hn:(s.F q).n≤1000:=by
   have:W*H≤8*8:=Nat.mul_le_mul hW hH
   omega
  refine⟨hn,?_,rfl,rfl⟩
  show fdN(aqG(s.F q))(s.F q)=false
  have e3:v3B(dW((s.F q).at_ 0))(dW((s.F q).at_ 1))(dW((s.F q).at_ 2))((s.F q).at_ 0)((s.F q).at_ 1)((s.F q).at_ 2)=true:=Uu(jc a0)(jc a1)(jc a2)
  have e4:=jc(jC f2)
  unfold fdN
  show cond(cond(cond(cond(cond(!((s.F q).W==(s.F q).W))true(!((s.F q).H==(s.F q).H)))true(!v3B(dW((s.F q).at_ 0))(dW((s.F q).at_ 1))(dW((s.F q).at_ 2))((s.F q).at_ 0)((s.F q).at_ 1)((s.F q).at_ 2)))true(!dK(dW(s.F q).sd)(s.F q).sd))true(!((s.F q).sk==(s.F q).sk)))true(!(((s.F q).n:Int)==(s.F q).n))=false
  rw[e3,e4,BEq.rfl,BEq.rfl,BEq.rfl,BEq.rfl]
  rfl
 ·obtain⟨a0,a1,a2⟩:=oD(t.L q hq)
  exact Uu(jc a0)(jc a1)(jc a2)
 ·show i3 s.jE s.jE=true
  unfold i3
  rw[BEq.rfl,BEq.rfl,BEq.rfl]
  rfl
 ·have e:=t.eye
  show e10(F8(Rz s.eye))s.eye=true
  have r:∀i,i<10→dK(dW(s.eye i))(s.eye i)=true:=fun i hi=>jc(e i hi)
  unfold e10
  show(v3B(dW(s.eye 0))(dW(s.eye 1))(dW(s.eye 2))(s.eye 0)(s.eye 1)(s.eye 2)&&(v3B(dW(s.eye 3))(dW(s.eye 4))(dW(s.eye 5))(s.eye 3)(s.eye 4)(s.eye 5)&&(v3B(dW(s.eye 6))(dW(s.eye 7))(dW(s.eye 8))(s.eye 6)(s.eye 7)(s.eye 8)&&(dK(dW(s.eye 9))(s.eye 9)&&true))))=true
  rw[Uu(r 0(by omega))(r 1(by omega))(r 2(by omega)),Uu(r 3(by omega))(r 4(by omega))(r 5(by omega)),Uu(r 6(by omega))(r 7(by omega))(r 8(by omega)),r 9(by omega)]
  rfl
end Go.Proofs.YtefphimaggjihaaGreatDoor.Pi.Rd
namespace Go.Proofs.YtefphimaggjihaaGreatDoor.Pi.Rd
open Go.Shelf Go.RowKit Go.Gv
open Hs Hs.So Hs.Sc Hs.Fm
def hvB(s:fT):Bool:=decide(aI(aI(aI(aI((s.nS:Int)+s.nK)+s.nL)+s.nO)+s.nF)>99)
theorem TM(s:fT):aj Tryz.prog 11 [.agg s.c](bA(hvB s)):=aP aB av Tryz.func11(by kernel_rfl)(by kernel_rfl)aA rfl(show ev Tryz.prog [] []aM Tryz.f11 [.agg s.c]ret=oB(hvB s)by kernel_rfl)
section
variable(s u:fT)(e:Int)(hv b:Bool)(t:ByteArray)
def aBr:List aV:=[kS Tryz.prog 11(fun _=>bA hv),kS Tryz.prog 12(fun _=>.aN [zA⟨#[]⟩,iA e])]
theorem akg:ev Tryz.prog [](aBr e hv)aM Tryz.f5 [.agg s.c]ret =
 gate(aj Tryz.prog 11 [.agg s.c](bA hv))(cond hv(oB true)(gate(aj Tryz.prog 12 [.agg s.c](.aN [zA⟨#[]⟩,iA e]))(cond(!(e==0))(oB true)none))):=by kernel_rfl
def bkK:List aV:=[kS Tryz.prog 11(fun _=>bA hv),kS Tryz.prog 12(fun _=>.aN [zA t,iA 0]),kS Tryz.prog 8(fun _=>.aN [.agg u.c,iA 0]),kS Tryz.prog 10(fun _=>bA b)]
theorem apw:ev Tryz.prog [](bkK u hv b t)aM Tryz.f5 [.agg s.c]ret =
 gate(aj Tryz.prog 11 [.agg s.c](bA hv))(cond hv(oB true)(gate(aj Tryz.prog 12 [.agg s.c](.aN [zA t,iA 0]))(gate(aj Tryz.prog 8 [zA t](.aN [.agg u.c,iA 0]))(gate(aj Tryz.prog 10 [.agg u.c,.agg s.c](bA b))(oB(cond b(decide((t.size:Int)>40))false)))))):=by kernel_rfl
end
theorem aap:∀(ts:List(List UInt8)),(∀x,x∈ts→x≠[])→2*ts.length≤(tks true ts).length
 | [],_=>Nat.zero_le _
 |x::r,h=>by
  have ih:=aap r fun y hy=>h y(by simp[hy])
  have hx:=List.length_pos_iff.2(h x(by simp))
  show 2*(r.length+1)≤([32]++(x++tks true r)).length
  rw[List.length_append,List.length_append,List.length_singleton]
  omega
theorem aaq {p:TP}{l:List TP}(h:yQ(p::l)):p.1.length+2*l.length+3≤(Dx(p::l)).length:=by
 have h2:=aap(l.map Prod.fst++[[59]])fun x hx=>by
  rcases List.mem_append.1 hx with hx |hx
  ·obtain⟨q,hq,rfl⟩:=List.mem_map.1 hx
   exact afB(h q(by simp[hq]))
  ·simp at hx;subst hx;simp
 have e:(Dx(p::l)).length=(p.1++tks true(l.map Prod.fst++[[59]])).length+1:=List.length_append
 rw[e,List.length_append]
 rw[List.length_append,List.length_map,List.length_singleton]at h2
 omega
theorem akh {s:fT}(h:Good s):40<(x6 cK dF bG s).length:=by
 rw[Dz]
 unfold lns ln1
 have ht:=P9 h
 have t1:yQ(eyP s.eye):=aar _
 have t2:yQ(Jw s.jE):=aQ(ig rfl)(FZ h.jE(by omega))
 have a1:3+2*13+3≤(Dx(eyP s.eye)).length:=aaq(p:=kP FD)t1
 have a2:3+2*3+3≤(Dx(Jw s.jE)).length:=aaq(p:=kP FE)t2
 rw[List.flatMap_append,List.flatMap_cons,List.flatMap_cons,List.length_append,List.length_append,List.length_append]
 omega
theorem Mq(s:fT):aj Tryz.prog 5 [.agg s.c](bA true):=by
 have bad:∀e:Int,e≠0→aj Tryz.prog 12 [.agg s.c](.aN [zA⟨#[]⟩,iA e])→aj Tryz.prog 5 [.agg s.c](bA true):=fun e he hp=>by
  refine aP aB(ak aD(ak aD av))Tryz.avK(by kernel_rfl)(by kernel_rfl)aA rfl((akg s e(hvB s)).trans ?_)
  rw[ah(TM s),ah hp,beq_false_of_ne he]
  cases hvB s<;>rfl
 by_cases h:yP s=0
 ·have p:=JB h
  cases hw:w6 cK dF bG s
  ·rw[hw,cond_false]at p
   have g:=aki h hw
   have t:=akj hw
   have r:=akk g(akl h t)(aeo g)
   rw[apx]at r
   refine aP aB(ak aD(ak aD(ak aD(ak aD av))))Tryz.avK(by kernel_rfl)(by kernel_rfl)aA rfl((apw s(NI s)(hvB s)true(lB(x6 cK dF bG s))).trans ?_)
   rw[ah(TM s),ah p,ah r,ah(akm(afC h g t)),aY,decide_eq_true(by have:=akh g;omega)]
   cases hvB s<;>rfl
  ·rw[hw,cond_true]at p
   exact bad 11(by decide)p
 ·exact bad _ h(NJ h)
end Go.Proofs.YtefphimaggjihaaGreatDoor.Pi.Rd
namespace Go.Proofs.YtefphimaggjihaaGreatDoor
open Go.Gv Go.RowKit Go.ChangeShapes Go.WideShapes Go.ChangeAt
def rsl(n:Nat)(hs:Nat→Int):AV:=.sl 1 n fun i=>[iA(hs i)]
theorem aeb {H:Type}{enc:TypeId × Value→H}{P:Program}{w:World}{r:Reach}{b0:Nat}{t:TypeId}{v:Value}{d:DataW H}{p:List MemPlace}{k:IntKind}(hu:P.underlying t=some(.int k))(hk:Na P 1 t=some [.i k])(hv:Value.okWide P w r b0 t v)
  (h:DataW.Trod enc P w 0(fun _=>true)true t v d p):∃n,rel(Env.all w)(.x(.int k n))v∧(Lit.int k n).wf=true:=by
 have hone:v.cells=#[v]:=by
  obtain⟨n,rfl,_⟩:=okWide_int hu hv
  rfl
 obtain⟨fuel,hf⟩:=h
 obtain⟨a,h1,h2⟩:=Sj hf hk hone
 rw[BA]at h1
 obtain⟨n,rfl,hw⟩:=h1
 exact⟨n,h2,hw⟩
def numOf(el:Nat→List AV)(i:Nat):Int:=match el i with
 | [.x(.int .i64 h)]=>h
 |_=>0
theorem ajv {E:Env}{sz n:Nat}{el tJ:Nat→List AV}{v:Value}(h:rel E(.sl sz n el)v)(he:∀i,i<n→tJ i=el i):rel E(.sl sz n tJ)v:=by
 have h:bN _ _ _:=h
 show bN _ _ _
 rw[bN]at h ⊢
 obtain⟨a,c,h1,h2,h3⟩:=h
 refine⟨a,c,h1,h2,?_⟩
 rcases h3 with h3 | ⟨b,o,cs,e,fz,h4,h5,h6,h7⟩
 ·exact Or.inl h3
 ·exact Or.inr⟨b,o,cs,e,fz,h4,h5,h6,fun i hi=>by rw[he i hi];exact h7 i hi⟩
theorem Sk {k:Kd}{zs:List AV}(h:pR [k]zs):∃a,zs=[a]∧BA k a:=by
 match zs,h with
 | [a],h=>exact⟨a,rfl,(oO.1 h).1⟩
 | [],h=>have:=pU h;simp at this
 |_::_::_,h=>have:=pU h;simp at this
theorem aec {H:Type}{enc:TypeId × Value→H}{P:Program}{w:World}{r:Reach}{b0:Nat}{t e:TypeId}{v:Value}{d:DataW H}{p:List MemPlace}(hu:P.underlying t=some(.slice e))(hk:Na P 2 t=some [.l 1 [.i .i64]])(hv:Value.okWide P w r b0 t v)
  (h:DataW.Trod enc P w 0(fun _=>true)true t v d p):∃n hs,rel(Env.all w)(rsl n hs)v∧∀i,i<n→(Lit.int .i64(hs i)).wf=true:=by
 have hone:v.cells=#[v]:=by
  obtain⟨a,len,cap,rfl⟩:=okWide_slice hu hv
  rfl
 obtain⟨fuel,hf⟩:=h
 obtain⟨a,h1,h2⟩:=Sj hf hk hone
 rw[BA]at h1
 obtain⟨n,el,rfl,_,hel⟩:=h1
 have key:∀i,i<n→el i=[iA(numOf el i)]∧(Lit.int .i64(numOf el i)).wf=true:=fun i hi=>by
  obtain⟨a,ha,hf⟩:=Sk(hel i hi)
  rw[BA]at hf
  obtain⟨m,rfl,hw⟩:=hf
  have e:numOf el i=m:=by unfold numOf;rw[ha]
  rw[e]
  exact⟨ha,hw⟩
 exact⟨n,numOf el,ajv h2 fun i hi=>(key i hi).1.symm,fun i hi=>(key i hi).2⟩
end Go.Proofs.YtefphimaggjihaaGreatDoor
namespace Go.Proofs.YtefphimaggjihaaGreatDoor.Hs.Sc
open Go.Gv Go.RowKit So Fm
end Go.Proofs.YtefphimaggjihaaGreatDoor.Hs.Sc
namespace Go.Proofs.YtefphimaggjihaaGreatDoor.Pi
open Go.Gv Go.RowKit Go.ChangeShapes Go.WideShapes Go.ChangeAt
theorem gn1 : Tryz.prog.globalNamed "rayhouse/scene.opWords" = some 1 := by kernel_rfl
theorem gn2 : Tryz.prog.globalNamed "internal/strconv.uint64pow10" = some 2 := by kernel_rfl
theorem gt1:(Tryz.prog.globals[1]?).map(·.type)=some 184:=by kernel_rfl
theorem gt2:(Tryz.prog.globals[2]?).map(·.type)=some 243:=by kernel_rfl
theorem Ze(E:Env):∀vs:List Value,pre E(vs.map .x)vs
 | []=>pre_nil
 |v::vs=>bE.2⟨v,vs,rfl,bI.2 rfl,Ze E vs⟩
theorem M5 {H:Type}{enc:TypeId × Value→H}{P:Program}{w:World}{base:Nat}{sp:Nat→Bool}{held:Bool}{fuel:Nat}{t e:TypeId}{n:Nat}{cs:List Value}{zs:List(List UInt8)}{p:List MemPlace}
  (ht:P.underlying t=some(.array n e))(he:P.underlying e=some .string)(hce:P.cellsOf e=1)(hct:P.cellsOf t=n)
  (h:DataW.trod enc P w base sp held fuel t cs=some(.agg(zs.map fun z=>.lit(.string z)),p)):cs=zs.map fun z=>Value.string⟨z.toArray⟩:=by
 cases fuel with
 |zero=>simp[DataW.trod]at h
 |succ fuel =>
  simp only[DataW.trod,ht,hce,hct,Nat.mul_one]at h
  split at h
  ·rename_i hl
   obtain⟨xs,hm,hx⟩:=Option.map_eq_some_iff.1 h
   have hxs:xs.map(·.1)=zs.map fun z=>(DataW.lit(.string z):DataW H):=by
    have:=congrArg Prod.fst hx
    simpa using this
   have hxl:xs.length=n:=by simpa using Lib.mapM_length hm
   have hzl:zs.length=n:=by
    have:=congrArg List.length hxs
    simp at this
    omega
   apply List.ext_getElem?
   intro i
   by_cases hi:i<n
   ·obtain⟨b,hb,hf⟩:=Lib.mapM_at hm i i(by simp[hi])
    obtain⟨z,hc,rfl,_⟩:=DataW.trod_string he hf
    have h1:cs[i]?=some(.string z):=by
     have:=congrArg(·[0]?)hc
     simpa[List.getElem?_take,List.getElem?_drop]using this
    have h2:(xs.map(·.1))[i]?=some(DataW.lit(.string z.data.toList):DataW H):=by simp[hb]
    rw[hxs]at h2
    simp only[List.getElem?_map,Option.map_eq_some_iff,DataW.lit.injEq,Lit.string.injEq]at h2
    obtain⟨z',hz',e'⟩:=h2
    rw[h1,List.getElem?_map,hz',e']
    rfl
   ·rw[List.getElem?_eq_none(by omega),List.getElem?_eq_none(by simp;omega)]
  ·cases h
def opS:List(List UInt8):=[[],[98,111,116,104],[101,105,116,104,101,114],[108,101,115,115]]
theorem tabs {W : World} (h : laidMet Tryz.prog Rows.scenePrintsRow.laid W) : Lib.TabIs Tryz.prog W "internal/strconv.uint64pow10" .u64 Lib.pow10Tab ∧ W.var? Tryz.prog "rayhouse/scene.opWords" = some (opS.map fun z => Value.string ⟨z.toArray⟩).toArray := by
 obtain⟨ps,⟨_,_,_,_,_,_,_,_,_,_,⟨_,_,_,_,_,_,_,_,_,_,⟨g,t,cs,fuel,p,q,hg,ht,hvar,hd,⟨_,_,_,_,_,_,_,_,_,_,⟨g',t',cs',fuel',p',q',hg',ht',axN,hd',_,_⟩,_⟩,_⟩,_⟩,_⟩,_⟩:=h
 constructor
 ·obtain rfl:=Option.some.inj(gn2.symm.trans hg)
  obtain rfl:=Option.some.inj(gt2.symm.trans ht)
  unfold Lib.TabIs
  rw[hvar,←Lib.cells_of_tab(zs:=Lib.pow10Tab)Tryz.MW Tryz.MV(by kernel_rfl)(by kernel_rfl)hd]
 ·obtain rfl:=Option.some.inj(gn1.symm.trans hg')
  obtain rfl:=Option.some.inj(gt1.symm.trans ht')
  rw[axN,←M5(zs:=opS)Tryz.aiN Tryz.underlying9(by kernel_rfl)(by kernel_rfl)hd']
theorem aln {W:World}(h:laidMet Tryz.prog Rows.scenePrintsRow.laid W):vH⟨W,fun _=>False,fun _=>none⟩:=by
 obtain⟨h2,h1⟩:=tabs h
 have k2:known 2=some((Lib.pow10Tab.map fun z=>Value.int .u64 z).map .x):=by kernel_rfl
 have k1:known 1=some((opS.map fun z=>Value.string⟨z.toArray⟩).map .x):=by kernel_rfl
 unfold Lib.TabIs World.var? at h2
 unfold World.var? at h1
 rw[gn2]at h2
 rw[gn1]at h1
 simp only[Option.bind_some]at h1 h2
 intro g l hl
 have hg:g=1∨g=2:=by
  unfold known at hl
  cases e1:Nat.beq g 1
  ·cases e2:Nat.beq g 2
   ·rw[e1,e2]at hl;cases hl
   ·exact Or.inr(Nat.eq_of_beq_eq_true e2)
  ·exact Or.inl(Nat.eq_of_beq_eq_true e1)
 rcases hg with rfl |rfl
 ·obtain rfl:=Option.some.inj(k1.symm.trans hl)
  split at h1
  ·rename_i cs e fz hh
   simp only[Option.some.injEq]at h1
   constructor
   ·show bN _ _ _
    rw[bN]
    refine⟨1,0,cs,e,fz,rfl,fun hf=>hf,hh,?_⟩
    rw[h1]
    show pre _ _ _
    simpa using Ze(Env.fz⟨W,fun _=>False,fun _=>none⟩)(opS.map fun z=>Value.string⟨z.toArray⟩)
   ·intro cs' e' fz' hh'
    have:=hh.symm.trans hh'
    simp only[Option.some.injEq,Obj.cells.injEq]at this
    rw[←this.1,h1]
    simp
  ·cases h1
 ·obtain rfl:=Option.some.inj(k2.symm.trans hl)
  split at h2
  ·rename_i cs e fz hh
   simp only[Option.some.injEq]at h2
   constructor
   ·show bN _ _ _
    rw[bN]
    refine⟨2,0,cs,e,fz,rfl,fun hf=>hf,hh,?_⟩
    rw[h2]
    show pre _ _ _
    simpa using Ze(Env.fz⟨W,fun _=>False,fun _=>none⟩)(Lib.pow10Tab.map fun z=>Value.int .u64 z)
   ·intro cs' e' fz' hh'
    have:=hh.symm.trans hh'
    simp only[Option.some.injEq,Obj.cells.injEq]at this
    rw[←this.1,h2]
    simp
  ·cases h2
def cell1 {H:Type}:DataW H→List Value
 |.lit(.int k n)=>[.int k n]
 |.lit(.string s)=>[.string⟨s.toArray⟩]
 |_=>[]
def anQ {H:Type}:DataW H→List Value
 |.agg ds=>ds.flatMap cell1
 |d=>cell1 d
def cellsOf {H:Type}:DataW H→List Value
 |.agg ds=>ds.flatMap anQ
 |d=>anQ d
def lay(cs:List Value):Obj→Obj
 |.cells _ t frozen=>.cells cs.toArray t frozen
 |o=>o
def Gg(os:Os):World :=
 let w0:=World.holding Tryz.prog os⟨#[],#[],[]⟩
 { w0 with heap:=(((((w0.heap.modify 6(lay(cellsOf Rows.laid_unicode_utf8_acceptRanges(H:=Unit)))).modify 5(lay(cellsOf Rows.laid_unicode_utf8_first))).modify 2(lay(cellsOf Rows.laid_internal_strconv_uint64pow10(H:=Unit)))).modify 3(lay(cellsOf Rows.laid_math_bits_deBruijn32tab(H:=Unit)))).modify 4(lay(cellsOf Rows.laid_math_bits_deBruijn64tab(H:=Unit)))).modify 1(lay(cellsOf Rows.laid_rayhouse_scene_opWords(H:=Unit))) }
end Go.Proofs.YtefphimaggjihaaGreatDoor.Pi
namespace Go.Proofs.YtefphimaggjihaaGreatDoor.Hs.So
open Go.Gv
open Go.Ev (cn bq dI bT fdiv d9 fI dK jO kL gN lK fabs)
def sfE(n:Nat)(hs:Nat→Int)(F N sk i:Int)(m:Nat)(pel:Nat→List AV)(k:Nat)(oel:Nat→List AV):St:=mkS 104 [(0,sI n hs),(1,iA F),(6,.own 0 0),(7,.own 1 0),(8,iA N),(9,.fJ 3 1 0 k),(10,iA i)] [.c [.x(.slice none 0 0),iA 0],.c [.fJ 2 16 0 m,iA sk],.a 71 16 m pel,.a 3 1 k oel]
def yM(n:Nat)(hs:Nat→Int)(F N sk i:Int)(m:Nat)(PL:Nat→dM)(k:Nat)(OL:Nat→Int):St:=sfE n hs F N sk i m(fun q=>(PL q).c)k fun q=>[iA(OL q)]
def sfN(n:Nat)(hs:Nat→Int)(F N sk:Int):St:=mkS 104 [(0,sI n hs),(1,iA F),(6,.own 0 0),(7,.own 1 0),(8,iA N),(9,.x(.slice none 0 0)),(10,iA 0)] [.c [.x(.slice none 0 0),iA 0],.c [.x(.slice none 0 0),iA sk]]
def nC:List Nat:=[0,1,6,7,8,9,10]
section
variable(n:Nat)(hs:Nat→Int)(F:Int)(pf:Int→Int→Int)(rf:Int→Int)(N sk i:Int)(m:Nat)(PL:Nat→dM)(k:Nat)(OL:Nat→Int)(K:Int→Int)(A:Int→Nat→Nat)(S:Int→Int)
def sfT:Bool:=cond(decide((k:Int)>1))(cond(i==aI(N - 1))true(pf(rf(aI(F+i)))2==0))false
def k2(k:Nat):Int:=aI((k:Int) - 2)
def k1(k:Nat):Int:=aI((k:Int) - 1)
def adx:Bool:=(mJ(k2 k)k||false)&&((bl'(k2 k)k)&&((mJ(k1 k)k||false)&&((bl'(k1 k)k)&&((Nz m 128||false)&&true))))
def Mg:Nat:=KZ none(some(k2 k))k
def ady:Bool:=(Bu none(some(k2 k))none k||false)&&((((Nat.ble(Mg k)k)&&Nat.ble((Mg k+1)*8)140737488355328)||false)&&true)
def zsP(op l r:Int):dM:=⟨op,l,r,0,fun _=>0,0⟩
def sfP:dM:=zsP(aI(1+pf(rf(aI(aI(F+3)+i)))3))(OL(0+(k2 k).toNat))(OL(0+(k1 k).toNat))
def sfC(o oe:Option Out):Option Out:=gR n hs rf(aI(F+i))(cond(sfT F pf rf N i k)(gR n hs rf(aI(aI(F+3)+i))(cond(adx m k)(cond(ady k)o none)none))oe)
def MP(pf:Int→Int→Int):List Entry:=[⟨21,ePk pf⟩]
theorem aui:gD Tryz.prog(MP pf) [GI rf]aM(au Tryz.f66 1)(yM n hs F N sk i m PL k OL)(fu nC [some 0,some 1,some 5,some 7])=sfC n hs F pf rf N i m k(some⟨.normal,sfE n hs F N sk i(m+1)(fun q=>dn(Nat.blt q m)(PL q).c(sfP F pf rf i k OL).c)(Mg k+1)(fun q=>dn(Nat.blt q(Mg k)) [iA(OL q)] [iA(aI(((m+1:Nat):Int) - 1))]),.any⟩)none:=by kernel_rfl
theorem an8:gD Tryz.prog(MP pf) [GI rf]aM(au Tryz.f66 1)(yM n hs F N sk i m PL k OL)(gM nC [some 0,some 1,some 2,some 3])=sfC n hs F pf rf N i m k none(some⟨.exit 2,yM n hs F N sk i m PL k OL,.any⟩):=by kernel_rfl
def lkG(K:Int→Int)(A:Int→Nat→Nat)(S:Int→Int):List AV→AV
 | [_,.x(.int .i64 f)]=>SH(K f)(A f)(S f)
 |_=>.any
def lkK:aV:=kS Tryz.prog 112(lkG K A S)
def sfF(i:Int):Int:=aI(aI(F+2)+aI(9*i))
def lfP(f:Int):dM:=⟨0,0,0,K f,A f,S f⟩
def gLf(f:Int)(o:Option Out):Option Out:=gate(aj Tryz.prog 112 [sI n hs,iA f](SH(K f)(A f)(S f)))o
theorem adA:gD Tryz.prog(MP pf) [GI rf,lkK K A S]aM(au Tryz.f66 0)(sfN n hs F N sk)(fu nC [some 0,some 1,some 3,some 5])=cond(decide(0<N))(gLf n hs K A S(sfF F 0)(gR n hs rf(aI(F+0))(some⟨.normal,sfE n hs F N sk(aI(0+1))1(fun q=>dn(Nat.blt q 0) [](lfP K A S(sfF F 0)).c)1(fun q=>dn(Nat.blt q 0) [] [iA 0]),.any⟩)))none:=by kernel_rfl
variable(m2:Nat)(PL1 PL2:Nat→dM)(k2':Nat)(OL1 OL2:Nat→Int)
def sfL:Nat→Option dN:=gu 9(fE nC [some 0,some 1,some 5,some 7](yM n hs F N sk i(m+1)PL1(k+1)OL1)(.exit 2)(yM n hs F N sk i m2 PL2 k2' OL2))
def sfO(o:Option Out):Option Out:=cond((Nz m 128||false)&&true)(cond((Nat.ble k k&&Nat.ble((k+1)*8)140737488355328)||false)(gate(Sub(sfE n hs F N sk i(m+1)(fun q=>dn(Nat.blt q m)(PL q).c(lfP K A S(sfF F i)).c)(k+1)(fun q=>dn(Nat.blt q k) [iA(OL q)] [iA(aI(((m+1:Nat):Int) - 1))]))(yM n hs F N sk i(m+1)PL1(k+1)OL1))o)none)none
theorem OM:gD Tryz.prog(MP pf) [GI rf,lkK K A S](sfL n hs F N sk i m k m2 PL1 PL2 k2' OL1 OL2)(au Tryz.f66 0)(yM n hs F N sk i m PL k OL)(fu nC [some 0,some 1,some 2,some 3])=cond(decide(i<N))(gLf n hs K A S(sfF F i)(sfO n hs F N sk i m PL k OL K A S PL1 OL1(some⟨.normal,yM n hs F N sk(aI(i+1))m2 PL2 k2' OL2,.any⟩)))none:=by kernel_rfl
theorem VN:gD Tryz.prog(MP pf) [GI rf,lkK K A S](gu 9 fun _ _=>none)(au Tryz.f66 0)(yM n hs F N sk i m PL k OL)(gM nC [some 0,some 1,some 2,some 3])=cond(decide(i<N))(gLf n hs K A S(sfF F i)(cond((Nz m 128||false)&&true)(cond((Nat.ble k k&&Nat.ble((k+1)*8)140737488355328)||false)none none)none))(some⟨.exit 0,yM n hs F N sk i m PL k OL,.any⟩):=by kernel_rfl
end
def q25:Nat:=4598175219545276416
def TN:Nat:=4602678819172646912
def z13:List AV:=[iA 0,.f 0,.f 0,.f 0,.f 0,.f 0,.f 0,.f 0,.f 0,.f 0,.f 0,.f 0,iA 0]
def llR(raw:AV)(fr:Int)(m:Nat)(el:Nat→List AV):St:=mkS 80 [(0,raw),(1,iA fr),(4,.own 0 0),(5,.fJ 1 1 0 m)] [.c z13,.a 3 1 m el]
def vv(raw:AV)(fr:Int)(m:Nat)(X:Nat→Int):St:=llR raw fr m fun q=>[iA(X q)]
def lG:List Nat:=[0,1,4,5]
def aqB(n m:Nat):Bool:=(Nat.ble m n&&Nat.ble((m+1)*8)140737488355328)||false
section
variable(raw:AV)(n:Nat)(hs:Nat→Int)(p:Option Addr)(c:Nat)(rf:Int→Int)(fr:Int)(m:Nat)(X:Nat→Int)
def llC(raw:AV)(f:(Nat→List AV)→Option Out)(oe:Option Out):Option Out:=cond(decide((m:Int)<aI(fr+9)))(gate(aj Tryz.prog 22 [raw,iA m](iA(rf m)))(cond(aqB m m)(f fun q=>dn(Nat.blt q m) [iA(X q)] [iA(rf m)])none))oe
theorem akr:gD Tryz.prog [] [GI rf]aM(au Tryz.f112 0)(vv(sI n hs)fr m X)(fu lG [some 0,some 3])=llC rf fr m X(sI n hs)(fun el=>some⟨.normal,llR(sI n hs)fr(m+1)el,.any⟩)none:=by kernel_rfl
theorem apA:gD Tryz.prog [] [GI rf]aM(au Tryz.f112 0)(vv(sI n hs)fr m X)(gM lG [some 0,some 1])=llC rf fr m X(sI n hs)(fun _=>none)(some⟨.exit 0,vv(sI n hs)fr m X,.any⟩):=by kernel_rfl
theorem afH:gD Tryz.prog [] [GI rf]aM(au Tryz.f112 0)(vv(xE p c)fr m X)(fu lG [some 0,some 3])=llC rf fr m X(xE p c)(fun el=>some⟨.normal,llR(xE p c)fr(m+1)el,.any⟩)none:=by kernel_rfl
theorem aks:gD Tryz.prog [] [GI rf]aM(au Tryz.f112 0)(vv(xE p c)fr m X)(gM lG [some 0,some 1])=llC rf fr m X(xE p c)(fun _=>none)(some⟨.exit 0,vv(xE p c)fr m X,.any⟩):=by kernel_rfl
end
section
variable(raw:AV)(n:Nat)(hs:Nat→Int)(p:Option Addr)(c:Nat)(fr:Int)(m:Nat)(X:Nat→Int)(k:Int)(a:Nat→Nat)(sk:Int)(rd:Nat→Nat)
def rdG(rd:Nat→Nat):List AV→AV
 | [.f x]=>.f(rd x)
 |_=>.any
def Xy(x:Nat)(o:Option Out):Option Out:=gate(aj Tryz.prog 147 [.f x](.f(rd x)))o
def lX(v:Int):Nat→Int:=fun q=>cond(q==0+fr.toNat)v(X q)
def lA(i:Nat):Nat:=rd(bT(a i)q25)
def lO(B:Nat→Nat):Option Out:=some(Out.of(.agg [iA k,.f(lA a rd 0),.f(lA a rd 1),.f(lA a rd 2),.f(B 0),.f(B 1),.f(B 2),.f(a 6),.f(a 7),.f(a 8),.f(a 9),.f(a 10),iA sk]))
def lB:Nat→Nat:=ls [bq(lA a rd 0)(bq(a 9)one),bq(lA a rd 1)one,bq(lA a rd 2)TN]
def acd(e:Int):List aV:=[kS Tryz.prog 21 fun _=>iA e,kS Tryz.prog 111 fun _=>SH k a sk,kS Tryz.prog 147(rdG rd)]
def fz3(m:Nat):Bool:=((Nat.beq m m)&&((Nat.beq m m)&&((Nat.beq m m)&&true)))||false
def ZK(e v:Int):Option Out:=ow' fr m(gate(aj Tryz.prog 21 [iA(X(0+fr.toNat)),iA 3](iA e))(ow' fr m(cond(fz3 m)(gate(aj Tryz.prog 111 [sI m(lX fr X v),iA fr,iA 1](SH k a sk))(Xy rd(bT(a 0)q25)(Xy rd(bT(a 1)q25)(Xy rd(bT(a 2)q25)
 (cond(k==2)(Xy rd(lB a rd 0)(Xy rd(lB a rd 1)(Xy rd(lB a rd 2)(lO k a sk rd(ls [rd(lB a rd 0),rd(lB a rd 1),rd(lB a rd 2)])))))(lO k a sk rd(ls [a 3,a 4,a 5])))))))none)))
def lfG(n:Nat):Bool:=((Nat.ble 0 0)&&(Nat.blt 0 n&&(Pv n(fun _=>true)&&Nat.ble((0+n)*8)140737488355328)))||false
theorem apC:qX Tryz.prog R4(acd k a sk rd 0) [](gu 2(fE lG [some 0,some 2](vv(sI n hs)fr n X)(.exit 0)(vv(sI n hs)fr m X)))(iH 5(wW 1))Tryz.f112 [sI n hs,iA fr]ret=cond(lfG n)(gate(Sub(llR(sI n hs)fr(0+n)fun q=>dn(Nat.blt q 0) [] [iA(hs(q - 0))])(vv(sI n hs)fr n X))(ZK fr m X k a sk rd 0 0))none:=by kernel_rfl
theorem apD:qX Tryz.prog R4(acd k a sk rd 1) [](gu 2(fE lG [some 0,some 2](vv(sI n hs)fr n X)(.exit 0)(vv(sI n hs)fr m X)))(iH 5(wW 1))Tryz.f112 [sI n hs,iA fr]ret=cond(lfG n)(gate(Sub(llR(sI n hs)fr(0+n)fun q=>dn(Nat.blt q 0) [] [iA(hs(q - 0))])(vv(sI n hs)fr n X))(ZK fr m X k a sk rd 1 1))none:=by kernel_rfl
theorem apE:qX Tryz.prog R4(acd k a sk rd 2) [](gu 2(fE lG [some 0,some 2](vv(sI n hs)fr n X)(.exit 0)(vv(sI n hs)fr m X)))(iH 5(wW 1))Tryz.f112 [sI n hs,iA fr]ret=cond(lfG n)(gate(Sub(llR(sI n hs)fr(0+n)fun q=>dn(Nat.blt q 0) [] [iA(hs(q - 0))])(vv(sI n hs)fr n X))(ZK fr m X k a sk rd 2 4))none:=by kernel_rfl
theorem apF:qX Tryz.prog R4(acd k a sk rd 0) [](gu 2(fE lG [some 0,some 1](vv(xE p c)fr 0 X)(.exit 0)(vv(xE p c)fr m X)))(iH 5(wW 1))Tryz.f112 [xE p c,iA fr]ret=gate(Sub(llR(xE p c)fr 0 fun _=>[])(vv(xE p c)fr 0 X))(ZK fr m X k a sk rd 0 0):=by kernel_rfl
theorem apG:qX Tryz.prog R4(acd k a sk rd 1) [](gu 2(fE lG [some 0,some 1](vv(xE p c)fr 0 X)(.exit 0)(vv(xE p c)fr m X)))(iH 5(wW 1))Tryz.f112 [xE p c,iA fr]ret=gate(Sub(llR(xE p c)fr 0 fun _=>[])(vv(xE p c)fr 0 X))(ZK fr m X k a sk rd 1 1):=by kernel_rfl
theorem apH:qX Tryz.prog R4(acd k a sk rd 2) [](gu 2(fE lG [some 0,some 1](vv(xE p c)fr 0 X)(.exit 0)(vv(xE p c)fr m X)))(iH 5(wW 1))Tryz.f112 [xE p c,iA fr]ret=gate(Sub(llR(xE p c)fr 0 fun _=>[])(vv(xE p c)fr 0 X))(ZK fr m X k a sk rd 2 4):=by kernel_rfl
end
end Go.Proofs.YtefphimaggjihaaGreatDoor.Hs.So
namespace Go.Proofs.YtefphimaggjihaaGreatDoor.Hs.So
open Go.Gv
open Go.Ev (cn bq dI bT fdiv d9 fI dK jO kL gN lK fabs VB)
theorem qm {l : List Entry} {ks : List aV} {ms : List fQ} {L : Nat → Option dN} {Z : Nat → Option mg} (hZ : ∀ i h, Z i = some h → fZ 0 h) (hl : ∀ e, e ∈ l → lg Tryz.prog e) (hks : ∀ e, e ∈ ks → tX Tryz.prog e) (hms : ∀ e, e ∈ ms → vZ Tryz.prog e) {f : Nat} {fn : Func} (hf : Tryz.prog.funcs[f]? = some fn) (hnm : (fn.name == "runtime.NumGoroutine") = false) (hb : fn.body = some (dG fn)) (hL : yS Tryz.prog L (dG fn))
  {args:List AV}(hlen:Nat.ble args.length fn.ntmps=true) {r:AV}(h:qX Tryz.prog l ks ms L Z fn args ret=some(Out.of r)):aj Tryz.prog f args r:=pF hZ(qQ hl hks hms)(iJ(qQ hl hks hms)(by kernel_rfl))40 hf hnm hb hL hlen h
theorem jU {l l':List AV}(h:l=l'):l'.length=l.length∧∀(E:Env)(cs:List Value),pre E l cs→pre E l' cs:=by subst h;exact⟨rfl,fun _ _ h=>h⟩
def Zx(n:Nat)(hs:Nat→Int):Prop:=∀i,i<n→-9223372036854775808≤hs i∧hs i≤9223372036854775807
theorem XC {n:Nat}{hs:Nat→Int}(h:Zx n hs) {f:Nat}(hf:f≤200):∃(B C:Nat→Nat)(R Q:Nat),aj Tryz.prog 111 [sI n hs,iA(f:Nat),iA 1](SH(xK dO(dU n hs)(f:Nat))(ls [pI n hs(aI((f:Nat)+1))4000 0,pI n hs(aI((f:Nat)+1))4000 1,pI n hs(aI((f:Nat)+1))4000 2,B 0,B 1,B 2,C 0,C 1,C 2,R,Q])(dO(dU n hs(aI((f:Nat)+7)))1))∧(xK dO(dU n hs)(f:Nat)=2→R=0):=by
 have h:∀i,i<n→-9223372036854775808≤hs i∧hs i≤9223372036854775807:=h
 have P:∀j:Int,0≤j→j≤20→0≤aI((f:Int)+j)∧aI((f:Int)+j)≤1000:=fun j h1 h2=>by rw[aO(by omega)(by omega)];omega
 have p0:(0:Int)≤(f:Nat):=Int.natCast_nonneg f
 have p1:=P 1(by decide)(by decide)
 have p4:=P 4(by decide)(by decide)
 have p5:=P 5(by decide)(by decide)
 have p6:=P 6(by decide)(by decide)
 have p7:=P 7(by decide)(by decide)
 have p8:=P 8(by decide)(by decide)
 have p9:=P 9(by decide)(by decide)
 have ax:=kH(m:=3)(gH h p6.1).1(gH h p6.1).2(by decide)
 have dd:=kH(m:=3)(gH h p4.1).1(gH h p4.1).2(by decide)
 have hD:xD dO(dU n hs)(f:Nat)≠0:=by
  unfold xD
  generalize dO(dU n hs(aI((f:Nat)+4)))3=z at dd ⊢
  rw[aO(by omega)(by omega)];omega
 obtain⟨x,y,w,hp⟩:∃x y w,aj Tryz.prog 141 [V 0 0 0,iA(dO(dU n hs(aI((f:Nat)+6)))3),.f(gJ(aI(1+dO(dU n hs(aI((f:Nat)+5)))3000)))](V x y w):=by
  generalize gJ(aI(1+dO(dU n hs(aI((f:Nat)+5)))3000))=t
  have:dO(dU n hs(aI((f:Nat)+6)))3=0∨dO(dU n hs(aI((f:Nat)+6)))3=1∨dO(dU n hs(aI((f:Nat)+6)))3=2:=by omega
  rcases this with e |e |e<;>rw[e]
  ·exact⟨_,_,_,ae6 0 0 0 t⟩
  ·exact⟨_,_,_,ae7 0 0 0 t⟩
  ·exact⟨_,_,_,ae8 0 0 0 t⟩
 have go:∃B C R Q,xX n hs dO gJ(dU n hs)(pI n hs)x y w(f:Nat)=xO dO(dU n hs)(pI n hs)(f:Nat)B C R Q∧(xK dO(dU n hs)(f:Nat)=2→R=0):=by
  have g56:∃B C R Q,x56 n hs dO gJ(dU n hs)(pI n hs)x y w(f:Nat)=xO dO(dU n hs)(pI n hs)(f:Nat)B C R Q:=by
   unfold x56 xPu
   rw[cO p6.1,cO p5.1,ah hp,cO p8.1,cO p4.1,beq_false_of_ne hD]
   cases xK dO(dU n hs)(f:Nat)==6
   ·exact⟨_,_,_,_,rfl⟩
   ·exact⟨_,_,_,_,rfl⟩
  unfold xX
  rw[cO p0,yY p1.1 p1.2(Or.inl rfl),cO p7.1,yY p4.1 p4.2(Or.inr(Or.inl rfl)),cO p8.1,cO p5.1,cO p6.1,yY p9.1 p9.2(Or.inl rfl)]
  cases h1:xK dO(dU n hs)(f:Nat)==1
  ·cases h2:xK dO(dU n hs)(f:Nat)==2
   ·have no:∀R:Nat,xK dO(dU n hs)(f:Nat)=2→R=0:=fun R e=>by rw[e]at h2;cases h2
    cases xK dO(dU n hs)(f:Nat)==3
    ·cases xK dO(dU n hs)(f:Nat)==5
     ·cases xK dO(dU n hs)(f:Nat)==6
      ·show ∃B C R Q,x4 dO gJ(dU n hs)(pI n hs)(f:Nat)=_∧_
       unfold x4
       cases jv(pI n hs(aI((f:Nat)+4))3000 0)(pI n hs(aI((f:Nat)+4))3000 1)(pI n hs(aI((f:Nat)+4))3000 2)
       ·exact⟨_,_,_,_,rfl,no _⟩
       ·exact⟨_,_,_,_,rfl,no _⟩
      ·obtain⟨B,C,R,Q,e⟩:=g56
       exact⟨B,C,R,Q,e,no _⟩
     ·obtain⟨B,C,R,Q,e⟩:=g56
      exact⟨B,C,R,Q,e,no _⟩
    ·exact⟨_,_,_,_,rfl,no _⟩
   ·exact⟨_,_,_,_,rfl,fun _=>rfl⟩
  ·exact⟨_,_,_,_,rfl,fun e=>by rw[e]at h1;cases h1⟩
 obtain⟨B,C,R,Q,e,hR⟩:=go
 exact⟨B,C,R,Q,aP amT(ak aD(ak aD(ak aD av)))Tryz.akn(by kernel_rfl)(by kernel_rfl)aA rfl((aee n hs dO gJ(dU n hs)(pI n hs)x y w(f:Nat)).trans e),hR⟩
theorem XD {c:Nat}(hc:c=1074) {n:Nat}{hs:Nat→Int}(h:Zx n hs) {fr:Int}(h0:0≤fr)(h1:fr≤1000)(i:Nat)(hi:i≤10):VB 1(c+4)(pI n hs fr 4000 i):=by
 have h:∀i,i<n→-9223372036854775808≤hs i∧hs i≤9223372036854775807:=h
 have p:0≤aI(fr+(i:Nat)):=by rw[aO(by omega)(by omega)];omega
 unfold pI RP
 rw[show aI(aI(2*4000)+1)=8001 by decide]
 have z:=kH(m:=8001)(gH h p).1(gH h p).2(by decide)
 generalize dO(dU n hs(aI(fr+(i:Nat))))8001=q at z ⊢
 rw[aO(by omega)(by omega)]
 refine XE hc(by decide) ?_
 show _≤8192
 omega
def dW(x:Nat):Nat:=gJ(rdI x)
theorem ako {c:Nat}(hc:c=1074) {k:Int}{a:Nat→Nat}{sk:Int}(v0:VB 1(c+4)(a 0))(v1:VB 1(c+4)(a 1))(v2:VB 1(c+4)(a 2))(h9:k=2→a 9=0):∃a',(Xy dW(bT(a 0)q25)(Xy dW(bT(a 1)q25)(Xy dW(bT(a 2)q25)
 (cond(k==2)(Xy dW(lB a dW 0)(Xy dW(lB a dW 1)(Xy dW(lB a dW 2)(lO k a sk dW(ls [dW(lB a dW 0),dW(lB a dW 1),dW(lB a dW 2)])))))(lO k a sk dW(ls [a 3,a 4,a 5]))))))=some(Out.of(SH k a' sk)):=by
 have b0:VB 1(c+4)(bT(a 0)q25):=XF hc(by decide)v0
 have b1:VB 1(c+4)(bT(a 1)q25):=XF hc(by decide)v1
 have b2:VB 1(c+4)(bT(a 2)q25):=XF hc(by decide)v2
 have gr:∀{j x:Nat}{o:Option Out},j≤46→VB 1(c+j)x→Xy dW x o=o:=fun hj h=>ah(ajw(apz hc hj h))
 have d0:VB 1(c+45)(lA a dW 0):=afD hc(by decide)b0
 have d1:VB 1(c+45)(lA a dW 1):=afD hc(by decide)b1
 have d2:VB 1(c+45)(lA a dW 2):=afD hc(by decide)b2
 rw[gr(by decide)b0,gr(by decide)b1,gr(by decide)b2]
 cases h2:k==2
 ·exact⟨ls [lA a dW 0,lA a dW 1,lA a dW 2,a 3,a 4,a 5,a 6,a 7,a 8,a 9,a 10],rfl⟩
 ·have h9:=h9(by simpa using h2)
  have o1:VB 1(c+45)one:=Go.Ev.FV(Go.Ev.wh(j:=0)hc(by decide +kernel))(by omega)
  have oh:VB 1(c+45)TN:=Go.Ev.FV(Go.Ev.wh(j:=0)hc(by decide +kernel))(by omega)
  have o2:VB 1(c+45)(bq(a 9)one):=by
   rw[h9]
   have z0:VB 1(c+0)0:=Go.Ev.akp 1(c+0)
   have z1:VB 1(c+0)one:=Go.Ev.wh(j:=0)hc(by decide +kernel)
   have z2:VB 1(c+(0+1))(bq 0 one):=Qa hc(by decide)z0 z1
   exact Go.Ev.FV z2(by omega)
  have e0:VB 1(c+(45+1))(bq(lA a dW 0)(bq(a 9)one)):=Qa(j:=45)hc(by decide)d0 o2
  have e1:VB 1(c+(45+1))(bq(lA a dW 1)one):=Qa(j:=45)hc(by decide)d1 o1
  have e2:VB 1(c+(45+1))(bq(lA a dW 2)TN):=Qa(j:=45)hc(by decide)d2 oh
  have l0:lB a dW 0=bq(lA a dW 0)(bq(a 9)one):=by unfold lB;rfl
  have l1:lB a dW 1=bq(lA a dW 1)one:=by unfold lB;rfl
  have l2:lB a dW 2=bq(lA a dW 2)TN:=by unfold lB;rfl
  rw[l0,l1,l2,cond_true,gr(j:=45+1)(by decide)e0,gr(j:=45+1)(by decide)e1,gr(j:=45+1)(by decide)e2]
  generalize dW(bq(lA a dW 0)(bq(a 9)one))=y0
  generalize dW(bq(lA a dW 1)one)=y1
  generalize dW(bq(lA a dW 2)TN)=y2
  exact⟨ls [lA a dW 0,lA a dW 1,lA a dW 2,y0,y1,y2,a 6,a 7,a 8,a 9,a 10],rfl⟩
theorem AU {m:Nat}{X:Nat→Int}(hX:Zx m X) {f:Nat}(hf:f≤100)(hm:f+9≤m) {e v:Int}(he:dO(X f)3=e)(hv:0≤v∧v≤4):∃k a sk a',ZK(f:Nat)m X k a sk dW e v=some(Out.of(SH k a' sk)):=by
 obtain⟨c,hc⟩:∃c,c=1074:=⟨_,rfl⟩
 have hY:Zx m(lX(f:Nat)X v):=fun i hi=>by
  unfold lX
  cases i==0+((f:Nat):Int).toNat
  ·exact hX i hi
  ·show -9223372036854775808≤v∧v≤9223372036854775807;omega
 obtain⟨B,C,R,Q,hS,hR⟩:=XC hY(f:=f)(by omega)
 have p1:0≤aI(((f:Nat):Int)+1)∧aI(((f:Nat):Int)+1)≤1000:=by rw[aO(by omega)(by omega)];omega
 have v0:=XD hc hY p1.1 p1.2 0(by decide)
 have v1:=XD hc hY p1.1 p1.2 1(by decide)
 have v2:=XD hc hY p1.1 p1.2 2(by decide)
 generalize pI m(lX(f:Nat)X v)(aI((f:Nat)+1))4000 0=x0 at hS v0
 generalize pI m(lX(f:Nat)X v)(aI((f:Nat)+1))4000 1=x1 at hS v1
 generalize pI m(lX(f:Nat)X v)(aI((f:Nat)+1))4000 2=x2 at hS v2
 generalize xK dO(dU m(lX(f:Nat)X v))(f:Nat)=k at hS hR
 generalize dO(dU m(lX(f:Nat)X v)(aI((f:Nat)+7)))1=sk at hS
 have hp:aj Tryz.prog 21 [iA(X(0+((f:Nat):Int).toNat)),iA 3](iA e):=by
  subst he
  rw[Int.toNat_natCast,Nat.zero_add]
  exact adM rfl
 have f3:fz3 m=true:=by unfold fz3;rw[show Nat.beq m m=true from Nat.beq_refl m];rfl
 obtain⟨a',ht⟩:=ako hc(k:=k)(a:=ls [x0,x1,x2,B 0,B 1,B 2,C 0,C 1,C 2,R,Q])(sk:=sk)v0 v1 v2 hR
 refine⟨k,ls [x0,x1,x2,B 0,B 1,B 2,C 0,C 1,C 2,R,Q],sk,a',?_⟩
 unfold ZK
 rw[avL(show f<m by omega),ah hp,avL(show f<m by omega),f3,cond_true,ah hS]
 exact ht
def Mr(n:Nat)(hs:Nat→Int)(q:Nat):Int:=cond(Nat.blt q n)(hs q)(dU n hs(q:Nat))
theorem xY {n:Nat}{hs:Nat→Int}(h:Zx n hs)(m:Nat):Zx m(Mr n hs):=fun i _=>by
 unfold Mr
 cases hb:Nat.blt i n
 ·exact gH h(Int.natCast_nonneg i)
 ·exact h i(Nat.le_of_ble_eq_true hb)
theorem akq {raw:AV}{fr:Int}{m:Nat}{X:Nat→Int}{v:Int}(h:X m=v):Sub(llR raw fr(m+1)fun q=>dn(Nat.blt q m) [iA(X q)] [iA v])(vv raw fr(m+1)X):=by
 refine fP⟨Or.inl rfl,Or.inr(Or.inl⟨3,1,m+1,_,_,rfl,rfl,fun q hq=>jU ?_⟩),trivial⟩
 cases hb:Nat.blt q m
 ·have:=uH hb
  have eq:q=m:=by omega
  subst eq;subst h;rfl
 ·rfl
theorem avM {m:Nat}(h:m≤1000):aqB m m=true:=by
 unfold aqB
 rw[Nat.ble_eq_true_of_le(Nat.le_refl m),Nat.ble_eq_true_of_le(show(m+1)*8≤140737488355328 by omega)];rfl
theorem TQ {raw:AV}{n:Nat}{hs:Nat→Int}{f m:Nat}{X:Nat→Int}(hR:aj Tryz.prog 22 [raw,iA(m:Nat)](iA(dU n hs(m:Nat))))(hX:X m=dU n hs(m:Nat))(hm:m<f+9)(hf:f≤100)
  (ev:gD Tryz.prog [] [GI(dU n hs)]aM(au Tryz.f112 0)(vv raw(f:Nat)m X)(fu lG [some 0,some 3])=llC(dU n hs)(f:Nat)m X raw(fun el=>some⟨.normal,llR raw(f:Nat)(m+1)el,.any⟩)none):bF Tryz.prog(au Tryz.f112 0)(vv raw(f:Nat)m X) .normal(vv raw(f:Nat)(m+1)X):=by
 refine(aF(aT lG [some 0,some 3])aB(ak aD av)aA(ev.trans ?_)).sub(Sub.refl _)(akq hX)
 unfold llC
 rw[decide_eq_true(show((m:Nat):Int)<aI(((f:Nat):Int)+9)by rw[aO(by omega)(by omega)];omega),ah hR,avM(by omega)];rfl
theorem aas {raw:AV}{n:Nat}{hs:Nat→Int}{f m:Nat}{X:Nat→Int}(hm:f+9≤m)(hf:f≤100)
  (ev:gD Tryz.prog [] [GI(dU n hs)]aM(au Tryz.f112 0)(vv raw(f:Nat)m X)(gM lG [some 0,some 1])=llC(dU n hs)(f:Nat)m X raw(fun _=>none)(some⟨.exit 0,vv raw(f:Nat)m X,.any⟩)):bF Tryz.prog(au Tryz.f112 0)(vv raw(f:Nat)m X)(.exit 0)(vv raw(f:Nat)m X):=by
 refine aF(bU lG [some 0,some 1])aB(ak aD av)aA(ev.trans ?_)
 unfold llC
 rw[decide_eq_false(show ¬((m:Nat):Int)<aI(((f:Nat):Int)+9)by rw[aO(by omega)(by omega)];omega)];rfl
theorem afE {n:Nat}{hs:Nat→Int}{q:Nat}(h:n≤q):Mr n hs q=dU n hs(q:Nat):=by
 unfold Mr
 cases hb:Nat.blt q n
 ·rfl
 ·have:q<n:=Nat.le_of_ble_eq_true hb
  omega
theorem afF(n:Nat)(hs:Nat→Int) {f:Nat}(hf:f≤100):bF Tryz.prog(.loop(au Tryz.f112 0))(vv(sI n hs)(f:Nat)n(Mr n hs))(.exit 0)(vv(sI n hs)(f:Nat)(n+(f+9 - n))(Mr n hs)):=by
 refine aU(fun k=>vv(sI n hs)(f:Nat)(n+k)(Mr n hs))(f+9 - n)(.exit 0)_(by simp)(fun k hk=>?_) ?_
 ·exact TQ(auw(Int.natCast_nonneg _))(afE(by omega))(by omega)hf(akr n hs(dU n hs)(f:Nat)(n+k)(Mr n hs))
 ·exact aas(by omega)hf(apA n hs(dU n hs)(f:Nat)(n+(f+9 - n))(Mr n hs))
theorem ab7(p:Option Addr)(c:Nat)(hs:Nat→Int)(k:Nat):aj Tryz.prog 22 [xE p c,iA(k:Nat)](iA(dU 0 hs(k:Nat))) :=
 sp aB Tryz.func22(by kernel_rfl)(by kernel_rfl)rfl(by kernel_rfl)
theorem afG(p:Option Addr)(c:Nat)(hs:Nat→Int) {f:Nat}(hf:f≤100):bF Tryz.prog(.loop(au Tryz.f112 0))(vv(xE p c)(f:Nat)0(Mr 0 hs))(.exit 0)(vv(xE p c)(f:Nat)(f+9)(Mr 0 hs)):=by
 refine aU(fun k=>vv(xE p c)(f:Nat)k(Mr 0 hs))(f+9)(.exit 0)_(by simp)(fun k hk=>?_) ?_
 ·exact TQ(ab7 p c hs k)(afE(Nat.zero_le _))hk hf(afH p c(dU 0 hs)(f:Nat)k(Mr 0 hs))
 ·exact aas(Nat.le_refl _)hf(aks p c(dU 0 hs)(f:Nat)(f+9)(Mr 0 hs))
theorem Ko {n:Nat}{hs:Nat→Int}{fr:Int}:Sub(llR(sI n hs)fr(0+n)fun q=>dn(Nat.blt q 0) [] [iA(hs(q - 0))])(vv(sI n hs)fr n(Mr n hs)):=by
 rw[Nat.zero_add]
 refine fP⟨Or.inl rfl,Or.inr(Or.inl⟨3,1,n,_,_,rfl,rfl,fun q hq=>jU ?_⟩),trivial⟩
 unfold Mr
 rw[Je hq]
 rfl
theorem Kq {raw:AV}{fr:Int}{X:Nat→Int}:Sub(llR raw fr 0 fun _=>[])(vv raw fr 0 X):=fP⟨Or.inl rfl,Or.inr(Or.inl⟨3,1,0,_,_,rfl,rfl,fun q hq=>absurd hq(Nat.not_lt_zero q)⟩),trivial⟩
theorem auj {n:Nat}{hs:Nat→Int}(h:Zx n hs)(hn:n≤512) {f:Nat}(hf:f≤100):∃k a sk,aj Tryz.prog 112 [sI n hs,iA(f:Nat)](SH k a sk):=by
 have hr:=xY h(f+1)f(by omega)
 have e3:=kH(m:=3)hr.1 hr.2(by decide)
 have e3:dO(Mr n hs f)3=0∨dO(Mr n hs f)3=1∨dO(Mr n hs f)3=2:=by omega
 by_cases h0:0<n
 ·have hg:lfG n=true:=by
   unfold lfG
   rw[Je h0,NK(fun _ _=>rfl),Nat.ble_eq_true_of_le(show(0+n)*8≤140737488355328 by omega)];rfl
  have hL:=eZ(c:=dG Tryz.f112)(i:=2)0 1(by kernel_rfl)(by kernel_rfl)(aR(keep:=lG)(τ:=[some 0,some 2])(afF n hs hf))
  have hm:f+9≤n+(f+9 - n):=by omega
  rcases e3 with he |he |he
  ·obtain⟨k,a,sk,a',hb⟩:=AU(xY h _)hf hm he(v:=0)(by decide)
   refine⟨k,a',sk,qm(gK(jq 1))Dq(ak aD(ak aD(ak aD av)))bO Tryz.Et(by kernel_rfl)(by kernel_rfl)hL rfl((apC n hs(f:Nat)_ _ k a sk dW).trans ?_)⟩
   rw[hg,cond_true,ah Ko,hb]
  ·obtain⟨k,a,sk,a',hb⟩:=AU(xY h _)hf hm he(v:=1)(by decide)
   refine⟨k,a',sk,qm(gK(jq 1))Dq(ak aD(ak aD(ak aD av)))bO Tryz.Et(by kernel_rfl)(by kernel_rfl)hL rfl((apD n hs(f:Nat)_ _ k a sk dW).trans ?_)⟩
   rw[hg,cond_true,ah Ko,hb]
  ·obtain⟨k,a,sk,a',hb⟩:=AU(xY h _)hf hm he(v:=4)(by decide)
   refine⟨k,a',sk,qm(gK(jq 1))Dq(ak aD(ak aD(ak aD av)))bO Tryz.Et(by kernel_rfl)(by kernel_rfl)hL rfl((apE n hs(f:Nat)_ _ k a sk dW).trans ?_)⟩
   rw[hg,cond_true,ah Ko,hb]
 ·have e0:n=0:=by omega
  subst e0
  have hL:∀p c,yS Tryz.prog(gu 2(fE lG [some 0,some 1](vv(xE p c)(f:Nat)0(Mr 0 hs))(.exit 0)(vv(xE p c)(f:Nat)(f+9)(Mr 0 hs))))(dG Tryz.f112):=fun p c=>eZ(c:=dG Tryz.f112)(i:=2)0 1(by kernel_rfl)(by kernel_rfl)(aR(keep:=lG)(τ:=[some 0,some 1])(afG p c hs hf))
  have key:∃k a sk,∀p c,aj Tryz.prog 112 [xE p c,iA(f:Nat)](SH k a sk):=by
   rcases e3 with he |he |he
   ·obtain⟨k,a,sk,a',hb⟩:=AU(xY h(f+9))hf(Nat.le_refl _)he(v:=0)(by decide)
    refine⟨k,a',sk,fun p c=>qm(gK(jq 1))Dq(ak aD(ak aD(ak aD av)))bO Tryz.Et(by kernel_rfl)(by kernel_rfl)(hL p c)rfl((apF p c(f:Nat)_ _ k a sk dW).trans ?_)⟩
    rw[ah Kq,hb]
   ·obtain⟨k,a,sk,a',hb⟩:=AU(xY h(f+9))hf(Nat.le_refl _)he(v:=1)(by decide)
    refine⟨k,a',sk,fun p c=>qm(gK(jq 1))Dq(ak aD(ak aD(ak aD av)))bO Tryz.Et(by kernel_rfl)(by kernel_rfl)(hL p c)rfl((apG p c(f:Nat)_ _ k a sk dW).trans ?_)⟩
    rw[ah Kq,hb]
   ·obtain⟨k,a,sk,a',hb⟩:=AU(xY h(f+9))hf(Nat.le_refl _)he(v:=4)(by decide)
    refine⟨k,a',sk,fun p c=>qm(gK(jq 1))Dq(ak aD(ak aD(ak aD av)))bO Tryz.Et(by kernel_rfl)(by kernel_rfl)(hL p c)rfl((apH p c(f:Nat)_ _ k a sk dW).trans ?_)⟩
    rw[ah Kq,hb]
  obtain⟨k,a,sk,hk⟩:=key
  refine⟨k,a,sk,aj.apI(args':=[sI 0 hs,iA(f:Nat)])(fun E us hr=>?_)(hk none 0).1 rfl⟩
  obtain⟨u,us',e0,r1,hr⟩:=aH.1 hr
  obtain⟨p,c,q1⟩:=ab8 r1
  exact⟨[xE p c,iA(f:Nat)],aH.2⟨u,us',e0,q1,hr⟩,hk p c⟩
end Go.Proofs.YtefphimaggjihaaGreatDoor.Hs.So
namespace Go.Proofs.YtefphimaggjihaaGreatDoor.Hs.So
open Go.Gv
open Go.Ev (cn bq dI bT fdiv d9 fI dK jO kL gN lK fabs)
def Runs(c:Code)(s:St)(e:Exit)(sf:St):Prop:=∃(S:Nat→St)(n:Nat),S 0=s∧(∀j,j<n→bF Tryz.prog c(S j) .normal(S(j+1)))∧bF Tryz.prog c(S n)e sf
theorem Runs.last {c:Code}{s sf:St}{e:Exit}(h:bF Tryz.prog c s e sf):Runs c s e sf:=⟨fun _=>s,0,rfl,fun j hj=>absurd hj(Nat.not_lt_zero j),h⟩
theorem Runs.cons {c:Code}{s s1 sf:St}{e:Exit}(h:bF Tryz.prog c s .normal s1)(g:Runs c s1 e sf):Runs c s e sf:=by
 obtain⟨S,n,h0,h1,h2⟩:=g
 refine⟨fun j=>match j with | 0=>s |j+1=>S j,n+1,rfl,fun j hj=>?_,h2⟩
 cases j with
 |zero=>show bF Tryz.prog c s .normal(S 0);rw[h0];exact h
 |succ j=>exact h1 j(by omega)
theorem Runs.loop {c:Code}{s sf:St}{e:Exit}(he:e≠.normal)(h:Runs c s e sf):bF Tryz.prog(.loop c)s e sf:=by
 obtain⟨S,n,rfl,h1,h2⟩:=h
 exact aU S n e sf he h1 h2
theorem Dp:∀e,e∈MP dO→lg Tryz.prog e:=bn VP aB
theorem auf(b:Bool)(P Q:dM):dn b P.c Q.c=(cond b P Q).c:=by cases b<;>rfl
theorem abA(b:Bool)(x y:Int):dn b [iA x] [iA y]=[iA(cond b x y)]:=by cases b<;>rfl
section
variable {n:Nat}{hs:Nat→Int}{F:Nat}{N:Nat}{sk:Int}{i m k:Nat}{PL:Nat→dM}{OL:Nat→Int}
theorem an7(h:2≤k)(h':k≤100):k2 k=((k - 2:Nat):Int):=by unfold k2;rw[aO(by omega)(by omega)];omega
theorem aAB(h:2≤k)(h':k≤100):k1 k=((k - 1:Nat):Int):=by unfold k1;rw[aO(by omega)(by omega)];omega
theorem adw(h:2≤k)(h':k≤100):Mg k=k - 2:=by
 unfold Mg
 rw[an7 h h']
 show(((k - 2:Nat):Int) - 0).toNat=k - 2
 omega
theorem aiZ(h:2≤k)(h':k≤100)(hm:m≤100):adx m k=true:=by
 unfold adx bl'
 rw[an7 h h',aAB h h',gy(show k - 2<k by omega),gy(show k - 1<k by omega),Int.toNat_natCast,Int.toNat_natCast,Nat.zero_add,Nat.zero_add,Je(show k - 2<k by omega),Je(show k - 1<k by omega),qD(by omega)]
 rfl
theorem ai0(h:2≤k)(h':k≤100):ady k=true:=by
 unfold ady
 rw[adw h h',an7 h h',Nat.ble_eq_true_of_le(show k - 2≤k by omega),Nat.ble_eq_true_of_le(show(k - 2+1)*8≤140737488355328 by omega)]
 have:Bu none(some((k - 2:Nat):Int))none k=true:=by
  unfold Bu
  show(decide((0:Int)≤0)&&(decide((0:Int)≤((k - 2:Nat):Int))&&(decide(((k - 2:Nat):Int)≤(k:Int))&&decide((k:Int)≤(k:Int)))))=true
  rw[decide_eq_true(show(0:Int)≤((k - 2:Nat):Int)by omega),decide_eq_true(show((k - 2:Nat):Int)≤(k:Int)by omega),decide_eq_true(show(k:Int)≤(k:Int)by omega)]
  rfl
 rw[this];rfl
theorem aug(hF:F≤50)(hi:i≤10):0≤aI((F:Int)+(i:Int)):=by rw[aO(by omega)(by omega)];omega
theorem auh(hF:F≤50)(hi:i≤10):0≤aI(aI((F:Int)+3)+(i:Int)):=by rw[aO(n:=(F:Int)+3)(by omega)(by omega),aO(by omega)(by omega)];omega
theorem ai1(hF:F≤50)(hk:2≤k)(hk':k≤10)(hm:m≤100)(hi:i≤10)(hT:sfT(F:Nat)dO(dU n hs)(N:Nat)(i:Nat)k=true):∃PL' OL',bF Tryz.prog(au Tryz.f66 1)(yM n hs(F:Nat)(N:Nat)sk(i:Nat)m PL k OL) .normal(yM n hs(F:Nat)(N:Nat)sk(i:Nat)(m+1)PL'(k - 1)OL'):=by
 have hl:bF Tryz.prog(au Tryz.f66 1)(yM n hs(F:Nat)(N:Nat)sk(i:Nat)m PL k OL) .normal(sfE n hs(F:Nat)(N:Nat)sk(i:Nat)(m+1)(fun q=>dn(Nat.blt q m)(PL q).c(sfP(F:Nat)dO(dU n hs)(i:Nat)k OL).c)(Mg k+1)(fun q=>dn(Nat.blt q(Mg k)) [iA(OL q)] [iA(aI(((m+1:Nat):Int) - 1))])):=by
  refine aF(aT nC [some 0,some 1,some 5,some 7])Dp(ak aD av)aA((aui n hs(F:Nat)dO(dU n hs)(N:Nat)sk(i:Nat)m PL k OL).trans ?_)
  unfold sfC
  rw[cO(aug hF hi),hT,cond_true,cO(auh hF hi),aiZ hk(by omega)hm,cond_true,ai0 hk(by omega)]
  rfl
 refine⟨fun q=>cond(Nat.blt q m)(PL q)(sfP(F:Nat)dO(dU n hs)(i:Nat)k OL),fun q=>cond(Nat.blt q(Mg k))(OL q)(aI(((m+1:Nat):Int) - 1)),hl.sub(Sub.refl _) ?_⟩
 rw[show Mg k+1=k - 1 by rw[adw hk(by omega)];omega]
 exact fP⟨Or.inl rfl,Or.inl rfl,Or.inr(Or.inl⟨71,16,m+1,_,_,rfl,rfl,fun q hq=>jU(auf _ _ _)⟩),Or.inr(Or.inl⟨3,1,k - 1,_,_,rfl,rfl,fun q hq=>jU(abA _ _ _)⟩),trivial⟩
theorem adz(hF:F≤50)(hi:i≤10)(hT:sfT(F:Nat)dO(dU n hs)(N:Nat)(i:Nat)k=false):bF Tryz.prog(au Tryz.f66 1)(yM n hs(F:Nat)(N:Nat)sk(i:Nat)m PL k OL)(.exit 2)(yM n hs(F:Nat)(N:Nat)sk(i:Nat)m PL k OL):=by
 refine aF(bU nC [some 0,some 1,some 2,some 3])Dp(ak aD av)aA((an8 n hs(F:Nat)dO(dU n hs)(N:Nat)sk(i:Nat)m PL k OL).trans ?_)
 unfold sfC
 rw[cO(aug hF hi),hT]
 rfl
end
theorem Zv {n:Nat}{hs:Nat→Int}{F:Nat}(hF:F≤50) {N:Nat}{sk:Int}{i:Nat}(hi:i≤10):∀(j:Nat)(m k:Nat)(PL:Nat→dM)(OL:Nat→Int),k=j+1→k≤10→m+k≤50→∃m2 PL2 k2 OL2,Runs(au Tryz.f66 1)(yM n hs(F:Nat)(N:Nat)sk(i:Nat)m PL k OL)(.exit 2)(yM n hs(F:Nat)(N:Nat)sk(i:Nat)m2 PL2 k2 OL2)∧1≤k2∧m≤m2∧m2+k2=m+k
 | 0,m,k,PL,OL,hk,_,_=>by
  subst hk
  exact⟨m,PL,0+1,OL,Runs.last(adz hF hi rfl),by omega,by omega,rfl⟩
 |j+1,m,k,PL,OL,hk,h1,h2=>by
  cases hT:sfT(F:Nat)dO(dU n hs)(N:Nat)(i:Nat)k
  ·exact⟨m,PL,k,OL,Runs.last(adz hF hi hT),by omega,by omega,rfl⟩
  ·obtain⟨PL',OL',hs1⟩:=ai1(n:=n)(hs:=hs)(F:=F)(N:=N)(sk:=sk)(PL:=PL)(OL:=OL)hF(show 2≤k by omega)h1(show m≤100 by omega)hi hT
   obtain⟨m2,PL2,k2,OL2,g1,g2,g3,g4⟩:=Zv(n:=n)(hs:=hs)hF(N:=N)(sk:=sk)hi j(m+1)(k - 1)PL' OL'(by omega)(by omega)(by omega)
   exact⟨m2,PL2,k2,OL2,Runs.cons hs1 g1,g2,by omega,by omega⟩
section
variable {n:Nat}{hs:Nat→Int}{F:Nat}{N:Nat}{sk:Int}{K:Int→Int}{A:Int→Nat→Nat}{S:Int→Int}(hK:∀f:Nat,f≤100→aj Tryz.prog 112 [sI n hs,iA(f:Nat)](SH(K(f:Nat))(A(f:Nat))(S(f:Nat))))
include hK
theorem Zw(hF:F≤50) {i:Nat}(hi:i≤4) {o:Option Out}:gLf n hs K A S(sfF(F:Nat)(i:Nat))o=o:=by
 have e:sfF(F:Nat)(i:Nat)=((F+2+9*i:Nat):Int):=by
  unfold sfF
  rw[aO(n:=(F:Int)+2)(by omega)(by omega),aO(n:=9*(i:Int))(by omega)(by omega),aO(by omega)(by omega)];omega
 unfold gLf
 rw[e]
 exact ah(hK _(by omega))
theorem abB(hF:F≤50)(hN:0<N):∃PL OL,bF Tryz.prog(au Tryz.f66 0)(sfN n hs(F:Nat)(N:Nat)sk) .normal(yM n hs(F:Nat)(N:Nat)sk((1:Nat):Int)1 PL 1 OL):=by
 have hl:bF Tryz.prog(au Tryz.f66 0)(sfN n hs(F:Nat)(N:Nat)sk) .normal(sfE n hs(F:Nat)(N:Nat)sk(aI(0+1))1(fun q=>dn(Nat.blt q 0) [](lfP K A S(sfF(F:Nat)0)).c)1(fun q=>dn(Nat.blt q 0) [] [iA 0])):=by
  refine aF(aT nC [some 0,some 1,some 3,some 5])Dp(ak aD(ak aD av))aA((adA n hs(F:Nat)dO(dU n hs)(N:Nat)sk K A S).trans ?_)
  rw[decide_eq_true(show(0:Int)<(N:Nat)by omega),cond_true]
  have h:=Zw hK hF(i:=0)(by decide)(o:=gR n hs(dU n hs)(aI((F:Int)+0))(some⟨.normal,sfE n hs(F:Nat)(N:Nat)sk(aI(0+1))1(fun q=>dn(Nat.blt q 0) [](lfP K A S(sfF(F:Nat)0)).c)1(fun q=>dn(Nat.blt q 0) [] [iA 0]),.any⟩))
  exact h.trans(cO(by rw[aO(by omega)(by omega)];omega))
 refine⟨fun _=>lfP K A S(sfF(F:Nat)0),fun _=>0,hl.sub(Sub.refl _) ?_⟩
 rw[show aI(0+1)=((1:Nat):Int)by decide]
 refine fP⟨Or.inl rfl,Or.inl rfl,Or.inr(Or.inl⟨71,16,1,_,_,rfl,rfl,fun q hq=>?_⟩),Or.inr(Or.inl⟨3,1,1,_,_,rfl,rfl,fun q hq=>?_⟩),trivial⟩
 ·obtain rfl:q=0:=Nat.lt_one_iff.1 hq
  exact jU rfl
 ·obtain rfl:q=0:=Nat.lt_one_iff.1 hq
  exact jU rfl
theorem adB(hF:F≤50) {i m k:Nat}{PL:Nat→dM}{OL:Nat→Int}(hi:i<N)(hN:N≤4)(hk:1≤k)(hm:1≤m)(hmk:m+k≤20)(hk':k≤8):∃m' PL' k' OL',bF Tryz.prog(au Tryz.f66 0)(yM n hs(F:Nat)(N:Nat)sk(i:Nat)m PL k OL) .normal(yM n hs(F:Nat)(N:Nat)sk((i+1:Nat):Int)m' PL' k' OL')∧1≤k'∧1≤m'∧m'+k'=m+k+2∧k'≤k+1:=by
 obtain⟨m2,PL2,k2,OL2,g1,g2,g3,g4⟩:=Zv(n:=n)(hs:=hs)hF(N:=N)(sk:=sk)(i:=i)(by omega)k(m+1)(k+1)(fun q=>cond(Nat.blt q m)(PL q)(lfP K A S(sfF(F:Nat)(i:Nat))))(fun q=>cond(Nat.blt q k)(OL q)(aI(((m+1:Nat):Int) - 1)))rfl(by omega)(by omega)
 refine⟨m2,PL2,k2,OL2,?_,g2,by omega,by omega,by omega⟩
 have hL:yS Tryz.prog(sfL n hs(F:Nat)(N:Nat)sk(i:Nat)m k m2(fun q=>cond(Nat.blt q m)(PL q)(lfP K A S(sfF(F:Nat)(i:Nat))))PL2 k2(fun q=>cond(Nat.blt q k)(OL q)(aI(((m+1:Nat):Int) - 1)))OL2)(au Tryz.f66 0):=eZ(c:=au Tryz.f66 0)(i:=9)0 1(by kernel_rfl)(by kernel_rfl)(aR(keep:=nC)(τ:=[some 0,some 1,some 5,some 7])(Runs.loop(by simp)g1))
 refine aF(aT nC [some 0,some 1,some 2,some 3])Dp(ak aD(ak aD av))hL((OM n hs(F:Nat)dO(dU n hs)(N:Nat)sk(i:Nat)m PL k OL K A S m2 _ PL2 k2 _ OL2).trans ?_)
 unfold sfO
 rw[decide_eq_true(show((i:Nat):Int)<(N:Nat)by omega),cond_true,Zw hK hF(by omega),qD(by omega),Nat.ble_eq_true_of_le(Nat.le_refl k),Nat.ble_eq_true_of_le(show(k+1)*8≤140737488355328 by omega),bD(n:=i)(by omega)]
 refine ah(fP⟨Or.inl rfl,Or.inl rfl,Or.inr(Or.inl⟨71,16,m+1,_,_,rfl,rfl,fun q hq=>jU(auf _ _ _)⟩),Or.inr(Or.inl⟨3,1,k+1,_,_,rfl,rfl,fun q hq=>jU(abA _ _ _)⟩),trivial⟩)
omit hK in
theorem ai2(c:Code):gI Tryz.prog c fun _ _=>none:=⟨fun s k r h=>(by cases h),fun s s' e h=>(by have:=h fun _ _=>some⟨.normal,s,.any⟩;cases this)⟩
omit hK in
theorem ai3 {m k:Nat}{PL:Nat→dM}{OL:Nat→Int}:bF Tryz.prog(au Tryz.f66 0)(yM n hs(F:Nat)(N:Nat)sk(N:Nat)m PL k OL)(.exit 0)(yM n hs(F:Nat)(N:Nat)sk(N:Nat)m PL k OL):=by
 have hL:yS Tryz.prog(gu 9 fun _ _=>none)(au Tryz.f66 0):=eZ(c:=au Tryz.f66 0)(i:=9)0 1(by kernel_rfl)(by kernel_rfl)(ai2 _)
 refine aF(bU nC [some 0,some 1,some 2,some 3])Dp(ak aD(ak aD av))hL((VN n hs(F:Nat)dO(dU n hs)(N:Nat)sk(N:Nat)m PL k OL(fun _=>0)(fun _ _=>0)(fun _=>0)).trans ?_)
 rw[bQ];rfl
theorem RH(hF:F≤50)(hN:N≤4):∀(j i m k:Nat)(PL:Nat→dM)(OL:Nat→Int),i+j=N→1≤k→1≤m→m+k≤2*i→k≤i→∃m' PL' k' OL',Runs(au Tryz.f66 0)(yM n hs(F:Nat)(N:Nat)sk(i:Nat)m PL k OL)(.exit 0)(yM n hs(F:Nat)(N:Nat)sk(N:Nat)m' PL' k' OL')∧1≤m'∧m'≤8
 | 0,i,m,k,PL,OL,e,_,h2,h3,_=>by
  obtain rfl:i=N:=by omega
  exact⟨m,PL,k,OL,Runs.last ai3,h2,by omega⟩
 |j+1,i,m,k,PL,OL,e,h1,h2,h3,h4=>by
  obtain⟨m1,PL1,k1,OL1,g1,g2,g3,g4,g5⟩:=adB hK hF(N:=N)(sk:=sk)(i:=i)(PL:=PL)(OL:=OL)(by omega)hN h1 h2(by omega)(by omega)
  obtain⟨m',PL',k',OL',r1,r2,r3⟩:=RH hF hN j(i+1)m1 k1 PL1 OL1(by omega)g2 g3(by omega)(by omega)
  exact⟨m',PL',k',OL',Runs.cons g1 r1,r2,r3⟩
end
def sfW(n:Nat)(hs:Nat→Int)(F:Int)(pf:Int→Int→Int)(rf:Int→Int)(N sk:Int)(m:Nat)(PL:Nat→dM):Option Out:=gR n hs rf F(gR n hs rf(aI(F+1))(gate(Sub(sfN n hs F(aI(1+pf(rf(aI(F+1)))4))(pf(rf F)3))(sfN n hs F N sk))(cond(((Nat.beq m m)&&true)||false)(some(Out.of(.agg(M6 m PL sk))))none)))
theorem adu(n:Nat)(hs:Nat→Int)(F:Int)(pf:Int→Int→Int)(rf:Int→Int)(N sk i:Int)(m:Nat)(PL:Nat→dM)(k:Nat)(OL:Nat→Int):qX Tryz.prog(MP pf) [GI rf] [](gu 5(fE nC [some 0,some 1](sfN n hs F N sk)(.exit 0)(yM n hs F N sk i m PL k OL)))(iH 13(wW 2))Tryz.f66 [sI n hs,iA F,iA 3]ret=sfW n hs F pf rf N sk m PL:=by kernel_rfl
theorem OO {n:Nat}{hs:Nat→Int}(h:Zx n hs)(hn:n≤512) {F:Nat}(hF:F≤50):∃m PL sk,aj Tryz.prog 66 [sI n hs,iA(F:Nat),iA 3](.agg(M6 m PL sk)):=by
 have h1:∀f:Int,∃y:Int × (Nat→Nat) × Int,∀g:Nat,f=(g:Nat)→g≤100→aj Tryz.prog 112 [sI n hs,iA(g:Nat)](SH y.1 y.2.1 y.2.2):=fun f=>by
  by_cases hf:0≤f∧f≤100
  ·obtain⟨k,a,sk,hk⟩:=auj h hn(f:=f.toNat)(by omega)
   refine⟨(k,a,sk),fun g hg _=>?_⟩
   have:f.toNat=g:=by omega
   subst this
   exact hk
  ·exact⟨(0,fun _=>0,0),fun g hg hg'=>absurd⟨by omega,by omega⟩hf⟩
 obtain⟨G,hG⟩:=Classical.axiomOfChoice h1
 have hK:∀f:Nat,f≤100→aj Tryz.prog 112 [sI n hs,iA(f:Nat)](SH((fun f=>(G f).1)((f:Nat):Int))((fun f=>(G f).2.1)((f:Nat):Int))((fun f=>(G f).2.2)((f:Nat):Int))):=fun f hf=>hG(f:Nat)f rfl hf
 have p0:0≤((F:Nat):Int):=Int.natCast_nonneg F
 have p1:0≤aI((F:Int)+1):=by rw[aO(by omega)(by omega)];omega
 have hr:=gH(n:=n)(hs:=hs)h p1
 have e4:=kH(m:=4)hr.1 hr.2(by decide)
 obtain⟨N,hN⟩:∃N:Nat,aI(1+dO(dU n hs(aI((F:Int)+1)))4)=((N:Nat):Int)∧1≤N∧N≤4:=⟨(1+dO(dU n hs(aI((F:Int)+1)))4).toNat,by rw[aO(by omega)(by omega)];omega,by omega,by omega⟩
 obtain⟨PL,OL,o1⟩:=abB(K:=fun f=>(G f).1)(A:=fun f=>(G f).2.1)(S:=fun f=>(G f).2.2)hK hF(N:=N)(sk:=dO(dU n hs(F:Nat))3)hN.2.1
 obtain⟨m',PL',k',OL',r1,r2,r3⟩:=RH(K:=fun f=>(G f).1)(A:=fun f=>(G f).2.1)(S:=fun f=>(G f).2.2)hK hF(N:=N)(sk:=dO(dU n hs(F:Nat))3)hN.2.2(N - 1)1 1 1 PL OL(by omega)(by omega)(by omega)(by omega)(by omega)
 refine⟨m',PL',dO(dU n hs(F:Nat))3,qm(gK(jq 2))Dp(ak aD av)bO Tryz.aAC(by kernel_rfl)(by kernel_rfl)
  (eZ(c:=dG Tryz.f66)(i:=5)0 2(by kernel_rfl)(by kernel_rfl)(aR(keep:=nC)(τ:=[some 0,some 1])(Runs.loop(by simp)(Runs.cons o1 r1))))rfl((adu n hs(F:Nat)dO(dU n hs)(N:Nat)(dO(dU n hs(F:Nat))3)(N:Nat)m' PL' k' OL').trans ?_)⟩
 unfold sfW
 rw[cO p0,cO p1,hN.1,ah(Sub.refl _),show Nat.beq m' m'=true from Nat.beq_refl m']
 rfl
end Go.Proofs.YtefphimaggjihaaGreatDoor.Hs.So
namespace Go.Gv
def aaX(h g:mg):mg:=fun s k=>h s fun s1=>g s1 k
theorem K8 {np:Nat}{h g:mg}(hh:fZ np h)(hg:fZ np g):fZ np(aaX h g):=fun s k r e=>by
 obtain⟨s1,e1,p1⟩:=hh s _ r e
 obtain⟨s2,e2,p2⟩:=hg s1 k r e1
 exact⟨s2,e2,p1.trans p2⟩
end Go.Gv
namespace Go.Proofs.YtefphimaggjihaaGreatDoor.Hs.Sc
open Go.Gv So Fm
open Go.Ev (cn bq dI bT fdiv d9 fI dK jO kL gN lK fabs aL)
theorem aj.Qx {f:Nat}{args:List AV}{r r':AV}(h:aj Tryz.prog f args r)(hr:∀(E:Env)(v:Value),rel E r v→rel E r' v):aj Tryz.prog f args r' :=
 ⟨h.1,fun A w aZ hA hv hg=>(h.2 A w aZ hA hv hg).mono fun _ _⟨v,he,h1,h2⟩=>⟨v,he,hr _ _ h1,h2⟩⟩
theorem aaQ {E:Env}{sz:Nat}{el:Nat→List AV}{v:Value}(h:rel E(.x(.slice none 0 0))v):rel E(.sl sz 0 el)v :=
 iM.2⟨none,0,bI.1 h,Nat.le_refl _,Or.inl rfl⟩
def Z0:fT:=⟨0,fun _=>⟨0,fun _=>0,0⟩,0,fun _=>⟨0,fun _=>⟨0,0,0,0,fun _=>0,0⟩,0⟩,0,fun _=>⟨0,0,fun _=>0,0,0,fun _=>0,0⟩,0,fun _ _=>0,0,fun _ _=>0,fun _ _=>0,fun _=>0,fun _=>0⟩
theorem aw0(e:Bool)(a b:Jd):dn e a.c b.c=(cond e a b).c:=by cases e<;>rfl
def zS:List AV:=[.x(.slice none 0 0),.x(.slice none 0 0),.x(.slice none 0 0),.x(.slice none 0 0),.x(.slice none 0 0),iA 0,iA 0,iA 0,.f 0,.f 0,.f 0,.f 0,.f 0,.f 0,.f 0,.f 0,.f 0,.f 0]
def fzB(n:Nat):Bool:=(Nat.beq n n&&true)&&true
theorem anw(n:Nat):fzB n=true:=by unfold fzB;rw[Nat.beq_refl];rfl
end Go.Proofs.YtefphimaggjihaaGreatDoor.Hs.Sc
namespace Go.Proofs.YtefphimaggjihaaGreatDoor.Hs.So.T3
open Go.Gv
open Go.Ev (cn bq dI bT fdiv d9 fI dK jO kL gN lK fabs)
section
variable(n:Nat)(hs:Nat→Int)(pf:Int→Int→Int)(tf:Int→Nat)(rf:Int→Int)(vf:Int→Int→Nat→Nat)(x y w:Nat)(fr:Int)
def xK:Int:=aI(1+pf(rf fr)6)
def xR:Nat:=tf(aI(1+pf(rf(aI(fr+8)))2500))
def xA(B C:Nat→Nat)(R Q:Nat):List AV:=[iA(xK pf rf fr),.f(vf(aI(fr+1))4000 0),.f(vf(aI(fr+1))4000 1),.f(vf(aI(fr+1))4000 2),.f(B 0),.f(B 1),.f(B 2),.f(C 0),.f(C 1),.f(C 2),.f R,.f Q,iA(pf(rf(aI(fr+7)))3)]
def xO(B C:Nat→Nat)(R Q:Nat):Option Out:=some(Out.of(.agg(xA pf rf vf fr B C R Q)))
def xB2:Nat→Nat:=ls [bq(vf(aI(fr+1))4000 0)(xR pf tf rf fr),bq(vf(aI(fr+1))4000 1)(tf(pf(rf(aI(fr+5)))2000)),bq(vf(aI(fr+1))4000 2)(tf(pf(rf(aI(fr+6)))2000))]
def xB3:Nat→Nat:=ls [bq(vf(aI(fr+1))4000 0)(vf(aI(fr+4))3000 0),bq(vf(aI(fr+1))4000 1)(vf(aI(fr+4))3000 1),bq(vf(aI(fr+1))4000 2)(vf(aI(fr+4))3000 2)]
def xD:Int:=aI(1+pf(rf(aI(fr+4)))3)
def xQ:Nat:=tf(aI(1+aI((pf(rf(aI(fr+8)))2500).tdiv(xD pf rf fr))))
def xPu(o:Option Out):Option Out:=gate(aj Tryz.prog 141 [V 0 0 0,iA(pf(rf(aI(fr+6)))3),.f(tf(aI(1+pf(rf(aI(fr+5)))3000)))](V x y w))o
def x56:Option Out:=gR n hs rf(aI(fr+6))(gR n hs rf(aI(fr+5))(xPu pf tf rf x y w fr(cond(xK pf rf fr==6)(gR n hs rf(aI(fr+8))(gR n hs rf(aI(fr+4))(cond((!(xD pf rf fr==0))&&true)(xO pf rf vf fr(ls [x,y,w])z3(xR pf tf rf fr)(xQ pf tf rf fr))none)))(xO pf rf vf fr(ls [x,y,w])z3(xR pf tf rf fr)0))))
def x4:Option Out:=cond(jv(vf(aI(fr+4))3000 0)(vf(aI(fr+4))3000 1)(vf(aI(fr+4))3000 2))(xO pf rf vf fr(ls [0,one,0])z3(xR pf tf rf fr)0)(xO pf rf vf fr(vf(aI(fr+4))3000)z3(xR pf tf rf fr)0)
def xX:Option Out:=gR n hs rf fr(gV n hs vf(aI(fr+1))4000(gR n hs rf(aI(fr+7))(gV n hs vf(aI(fr+4))3000(gR n hs rf(aI(fr+8))
 (cond(xK pf rf fr==1)(xO pf rf vf fr z3 z3(xR pf tf rf fr)0)(cond(xK pf rf fr==2)(gR n hs rf(aI(fr+5))(gR n hs rf(aI(fr+6))(xO pf rf vf fr(xB2 pf tf rf vf fr)z3 0 0)))(cond(xK pf rf fr==3)(gV n hs vf(aI(fr+9))4000(xO pf rf vf fr(xB3 vf fr)(ls [vf(aI(fr+9))4000 0,vf(aI(fr+9))4000 1,vf(aI(fr+9))4000 2])0 0))
  (cond(xK pf rf fr==5)(cond(xK pf rf fr==5)(x56 n hs pf tf rf vf x y w fr)(x4 pf tf rf vf fr))(cond(xK pf rf fr==6)(x56 n hs pf tf rf vf x y w fr)(x4 pf tf rf vf fr))))))))))
theorem aee:ev Tryz.prog(M1 pf tf) [GI rf,vcK vf,kS Tryz.prog 141 fun _=>V x y w]aM Tryz.f111 [sI n hs,iA fr,iA 3]ret=xX n hs pf tf rf vf x y w fr:=by kernel_rfl
end
theorem XC {n:Nat}{hs:Nat→Int}(h:Zx n hs) {f:Nat}(hf:f≤200):∃k a sk,aj Tryz.prog 111 [sI n hs,iA(f:Nat),iA 3](.agg(fC k a sk)):=by
 have h:∀i,i<n→-9223372036854775808≤hs i∧hs i≤9223372036854775807:=h
 have P:∀j:Int,0≤j→j≤20→0≤aI((f:Int)+j)∧aI((f:Int)+j)≤1000:=fun j h1 h2=>by rw[aO(by omega)(by omega)];omega
 have p0:(0:Int)≤(f:Nat):=Int.natCast_nonneg f
 have p1:=P 1(by decide)(by decide)
 have p4:=P 4(by decide)(by decide)
 have p5:=P 5(by decide)(by decide)
 have p6:=P 6(by decide)(by decide)
 have p7:=P 7(by decide)(by decide)
 have p8:=P 8(by decide)(by decide)
 have p9:=P 9(by decide)(by decide)
 have ax:=kH(m:=3)(gH h p6.1).1(gH h p6.1).2(by decide)
 have dd:=kH(m:=3)(gH h p4.1).1(gH h p4.1).2(by decide)
 have hD:xD dO(dU n hs)(f:Nat)≠0:=by
  unfold xD
  generalize dO(dU n hs(aI((f:Nat)+4)))3=z at dd ⊢
  rw[aO(by omega)(by omega)];omega
 obtain⟨x,y,w,hp⟩:∃x y w,aj Tryz.prog 141 [V 0 0 0,iA(dO(dU n hs(aI((f:Nat)+6)))3),.f(gJ(aI(1+dO(dU n hs(aI((f:Nat)+5)))3000)))](V x y w):=by
  generalize gJ(aI(1+dO(dU n hs(aI((f:Nat)+5)))3000))=t
  have:dO(dU n hs(aI((f:Nat)+6)))3=0∨dO(dU n hs(aI((f:Nat)+6)))3=1∨dO(dU n hs(aI((f:Nat)+6)))3=2:=by omega
  rcases this with e |e |e<;>rw[e]
  ·exact⟨_,_,_,ae6 0 0 0 t⟩
  ·exact⟨_,_,_,ae7 0 0 0 t⟩
  ·exact⟨_,_,_,ae8 0 0 0 t⟩
 have go:∃B C R Q,xX n hs dO gJ(dU n hs)(pI n hs)x y w(f:Nat)=xO dO(dU n hs)(pI n hs)(f:Nat)B C R Q∧(xK dO(dU n hs)(f:Nat)=2→R=0):=by
  have g56:∃B C R Q,x56 n hs dO gJ(dU n hs)(pI n hs)x y w(f:Nat)=xO dO(dU n hs)(pI n hs)(f:Nat)B C R Q:=by
   unfold x56 xPu
   rw[cO p6.1,cO p5.1,ah hp,cO p8.1,cO p4.1,beq_false_of_ne hD]
   cases xK dO(dU n hs)(f:Nat)==6
   ·exact⟨_,_,_,_,rfl⟩
   ·exact⟨_,_,_,_,rfl⟩
  unfold xX
  rw[cO p0,yY p1.1 p1.2(Or.inl rfl),cO p7.1,yY p4.1 p4.2(Or.inr(Or.inl rfl)),cO p8.1,cO p5.1,cO p6.1,yY p9.1 p9.2(Or.inl rfl)]
  cases h1:xK dO(dU n hs)(f:Nat)==1
  ·cases h2:xK dO(dU n hs)(f:Nat)==2
   ·have no:∀R:Nat,xK dO(dU n hs)(f:Nat)=2→R=0:=fun R e=>by rw[e]at h2;cases h2
    cases xK dO(dU n hs)(f:Nat)==3
    ·cases xK dO(dU n hs)(f:Nat)==5
     ·cases xK dO(dU n hs)(f:Nat)==6
      ·show ∃B C R Q,x4 dO gJ(dU n hs)(pI n hs)(f:Nat)=_∧_
       unfold x4
       cases jv(pI n hs(aI((f:Nat)+4))3000 0)(pI n hs(aI((f:Nat)+4))3000 1)(pI n hs(aI((f:Nat)+4))3000 2)
       ·exact⟨_,_,_,_,rfl,no _⟩
       ·exact⟨_,_,_,_,rfl,no _⟩
      ·obtain⟨B,C,R,Q,e⟩:=g56
       exact⟨B,C,R,Q,e,no _⟩
     ·obtain⟨B,C,R,Q,e⟩:=g56
      exact⟨B,C,R,Q,e,no _⟩
    ·exact⟨_,_,_,_,rfl,no _⟩
   ·exact⟨_,_,_,_,rfl,fun _=>rfl⟩
  ·exact⟨_,_,_,_,rfl,fun e=>by rw[e]at h1;cases h1⟩
 obtain⟨B,C,R,Q,e,_⟩:=go
 exact⟨xK dO(dU n hs)(f:Nat),ls [pI n hs(aI((f:Nat)+1))4000 0,pI n hs(aI((f:Nat)+1))4000 1,pI n hs(aI((f:Nat)+1))4000 2,B 0,B 1,B 2,C 0,C 1,C 2,R,Q],dO(dU n hs(aI((f:Nat)+7)))3,aP amT(ak aD(ak aD(ak aD av)))Tryz.akn(by kernel_rfl)(by kernel_rfl)aA rfl((aee n hs dO gJ(dU n hs)(pI n hs)x y w(f:Nat)).trans e)⟩
end Go.Proofs.YtefphimaggjihaaGreatDoor.Hs.So.T3
namespace Go.Proofs.YtefphimaggjihaaGreatDoor.Hs.Sc
open Go.Gv So Fm
def shG(g:Int→Jd):List AV→AV
 | [_,.x(.int .i64 f),_]=>.agg(g f).c
 |_=>.any
section
variable(n:Nat)(hs:Nat→Int)(g:Int→Jd)(N i:Int)(m:Nat)(el:Nat→List AV)(S:Nat→Jd)
def Iy:St:=mkS 25 [(0,sI n hs),(1,iA N),(2,iA 3),(7,.x(.slice none 0 0)),(8,iA 0)] []
def shE:St:=mkS 25 [(0,sI n hs),(1,iA N),(2,iA 3),(7,.fJ 0 13 0 m),(8,iA i)] [.a 67 13 m el]
def shS:St:=shE n hs N i m fun q=>(S q).c
def EX:List Nat:=[0,1,2,7,8]
def shO(f:Int)(o:Option Out):Option Out:=gate(aj Tryz.prog 111 [sI n hs,iA f,iA 3](.agg(g f).c))o
theorem ahe:gD Tryz.prog [] [kS Tryz.prog 111(shG g)]aM(au Tryz.f65 0)(Iy n hs N)(fu EX [some 2])=cond(decide(0<N))(shO n hs g(aI(13*0))(some⟨.normal,shE n hs N(aI(0+1))1(fun q=>dn(Nat.blt q 0) [](g(aI(13*0))).c),.any⟩))none:=by kernel_rfl
theorem alU:gD Tryz.prog [] [kS Tryz.prog 111(shG g)]aM(au Tryz.f65 0)(shS n hs N i m S)(fu EX [some 3])=cond(decide(i<N))(shO n hs g(aI(13*i))(cond(Nz m 104||false)(some⟨.normal,shE n hs N(aI(i+1))(m+1)(fun q=>dn(Nat.blt q m)(S q).c(g(aI(13*i))).c),.any⟩)none))none:=by kernel_rfl
theorem arx:gD Tryz.prog [] [kS Tryz.prog 111(shG g)]aM(au Tryz.f65 0)(shS n hs N i m S)(gM EX [some 0])=cond(decide(i<N))(shO n hs g(aI(13*i))(cond(Nz m 104||false)none none))(some⟨.exit 0,shS n hs N i m S,.any⟩):=by kernel_rfl
theorem agZ:ev Tryz.prog [] [](gu 3(fE EX [](Iy n hs N)(.exit 0)(shS n hs N i m S)))Tryz.f65 [sI n hs,iA N,iA 3]ret=gate(Sub(Iy n hs N)(Iy n hs N))(some(Out.of(.sl 13 m fun q=>(S(0+q)).c))):=by kernel_rfl
end
open Go.Ev (cn bq dI bT fdiv d9 fI dK jO kL gN lK fabs)
section
variable(n:Nat)(hs:Nat→Int)(pf:Int→Int→Int)(tf:Int→Nat)(rf:Int→Int)(vf:Int→Int→Nat→Nat)(W H:Int)(x y z d:Nat)(sk i:Int)(m:Nat)(el:Nat→List AV)(h:Nat→Int)
def zF:List AV:=[iA 0,iA 0,.f 0,.f 0,.f 0,.f 0,.x(.slice none 0 0),iA 0]
def fc(a:AV):List AV:=[iA W,iA H,.f x,.f y,.f z,.f d,a,iA sk]
def foN:St:=mkS 61 [(0,sI n hs),(1,iA 4),(6,.own 0 0),(7,.own 1 0),(8,iA 0)] [.c zF,.c(fc W H x y z d sk(.x(.slice none 0 0)))]
def foE:St:=mkS 61 [(0,sI n hs),(1,iA 4),(6,.own 0 0),(7,.own 1 0),(8,iA i)] [.c zF,.c(fc W H x y z d sk(.fJ 2 1 0 m)),.a 3 1 m el]
def foS:St:=foE n hs W H x y z d sk i m fun q=>[iA(h q)]
def aa4:List Nat:=[0,1,6,7,8]
def aq8(m:Nat):Bool:=((Nat.ble m m&&Nat.ble((m+1)*8)140737488355328)||false)&&true
def hgV(i:Int):Int:=aI(pf(rf(aI(aI(4+7)+i)))2000 - 1000)
theorem ahd:gD Tryz.prog(MP pf) [GI rf]aM(au Tryz.f67 0)(foN n hs W H x y z d sk)(fu aa4 [some 0,some 1,some 3])=cond(decide(0<aI(W*H)))(gR n hs rf(aI(aI(4+7)+0))(some⟨.normal,foE n hs W H x y z d sk(aI(0+1))1(fun q=>dn(Nat.blt q 0) [] [iA(hgV pf rf 0)]),.any⟩))none:=by kernel_rfl
theorem alT:gD Tryz.prog(MP pf) [GI rf]aM(au Tryz.f67 0)(foS n hs W H x y z d sk i m h)(fu aa4 [some 0,some 1,some 4])=cond(decide(i<aI(W*H)))(gR n hs rf(aI(aI(4+7)+i))(cond(aq8 m)(some⟨.normal,foE n hs W H x y z d sk(aI(i+1))(m+1)(fun q=>dn(Nat.blt q m) [iA(h q)] [iA(hgV pf rf i)]),.any⟩)none))none:=by kernel_rfl
theorem arw:gD Tryz.prog(MP pf) [GI rf]aM(au Tryz.f67 0)(foS n hs W H x y z d sk i m h)(gM aa4 [some 0,some 1,some 2])=cond(decide(i<aI(W*H)))(gR n hs rf(aI(aI(4+7)+i))(cond(aq8 m)none none))(some⟨.exit 0,foS n hs W H x y z d sk i m h,.any⟩):=by kernel_rfl
def dm(k:Int):Int:=aI(2+pf(rf k)3)
def foW:Option Out:=gR n hs rf 4(gR n hs rf(aI(4+1))(gV n hs vf(aI(4+2))3000(gR n hs rf(aI(4+5))(gR n hs rf(aI(4+6))(gate(Sub(foN n hs(dm pf rf 4)(dm pf rf(aI(4+1)))(vf(aI(4+2))3000 0)(vf(aI(4+2))3000 1)(vf(aI(4+2))3000 2)(tf(aI(300+pf(rf(aI(4+5)))1500)))(pf(rf(aI(4+6)))3))(foN n hs W H x y z d sk))(cond(((Nat.beq m m)&&true)||false)(some(Out.of(.agg(fc W H x y z d sk(.sl 1 m fun q=>[iA(h q)])))))none))))))
theorem axk:qX Tryz.prog(M0 pf tf) [GI rf,vcK vf] [](gu 3(fE aa4 [some 0,some 1](foN n hs W H x y z d sk)(.exit 0)(foS n hs W H x y z d sk i m h)))(iH 6(wW 2))Tryz.f67 [sI n hs,iA 4,iA 3]ret=foW n hs pf tf rf vf W H x y z d sk m h:=by kernel_rfl
end
theorem axl {m:Nat}(h:m≤1000):aq8 m=true:=by
 unfold aq8
 rw[Nat.ble_eq_true_of_le(Nat.le_refl m),Nat.ble_eq_true_of_le(show(m+1)*8≤140737488355328 by omega)];rfl
theorem Qz {n:Nat}{hs:Nat→Int}(h:Zx n hs):∃F:Fm.Fd,aj Tryz.prog 67 [sI n hs,iA 4,iA 3](.agg F.c):=by
 have h':∀i,i<n→-9223372036854775808≤hs i∧hs i≤9223372036854775807:=h
 have rg:∀k m:Int,0≤k→0<m→0≤dO(dU n hs k)m∧dO(dU n hs k)m<m:=fun k m hk hm=>kH(gH h' hk).1(gH h' hk).2 hm
 have r1:=rg 4 3(by decide)(by decide)
 have r2:=rg(aI(4+1))3(by decide)(by decide)
 obtain⟨N,hN,h1,h2⟩:∃N:Nat,aI(dm dO(dU n hs)4*dm dO(dU n hs)(aI(4+1)))=(N:Int)∧1≤N∧N≤16:=by
  unfold dm
  generalize dO(dU n hs 4)3=a at r1 ⊢
  generalize dO(dU n hs(aI(4+1)))3=b at r2 ⊢
  have ha:a=0∨a=1∨a=2:=by omega
  have hb:b=0∨b=1∨b=2:=by omega
  rcases ha with rfl |rfl |rfl<;>rcases hb with rfl |rfl |rfl<;>first |exact⟨4,by decide,by decide,by decide⟩ |exact⟨6,by decide,by decide,by decide⟩ |exact⟨8,by decide,by decide,by decide⟩ |exact⟨9,by decide,by decide,by decide⟩ |exact⟨12,by decide,by decide,by decide⟩ |exact⟨16,by decide,by decide,by decide⟩
 generalize hW:dm dO(dU n hs)4=W at hN
 generalize hH:dm dO(dU n hs)(aI(4+1))=H at hN
 generalize hx:pI n hs(aI(4+2))3000 0=x
 generalize hy:pI n hs(aI(4+2))3000 1=y
 generalize hz:pI n hs(aI(4+2))3000 2=z
 generalize hd:gJ(aI(300+dO(dU n hs(aI(4+5)))1500))=d
 generalize hk:dO(dU n hs(aI(4+6)))3=sk
 have pos:∀k:Nat,k≤100→0≤aI(aI(4+7)+(k:Int)):=fun k hk=>by rw[show aI(4+7)=11 by decide,aO(by omega)(by omega)];omega
 have lead:bF Tryz.prog(.loop(au Tryz.f67 0))(foN n hs W H x y z d sk)(.exit 0)(foS n hs W H x y z d sk(N:Nat)N fun q=>hgV dO(dU n hs)(q:Nat)):=by
  refine aU(fun k=>match k with | 0=>foN n hs W H x y z d sk |k+1=>foS n hs W H x y z d sk((k+1:Nat):Int)(k+1)fun q=>hgV dO(dU n hs)(q:Nat))N(.exit 0)_(by simp)(fun k hk=>?_) ?_
  ·cases k with
   |zero =>
    have hl:bF Tryz.prog(au Tryz.f67 0)(foN n hs W H x y z d sk) .normal(foE n hs W H x y z d sk((0+1:Nat):Int)1(fun q=>dn(Nat.blt q 0) [] [iA(hgV dO(dU n hs)0)])):=by
     refine aF(aT _ _)Dp(ak aD av)aA((ahd n hs dO(dU n hs)W H x y z d sk).trans ?_)
     rw[hN,decide_eq_true(show(0:Int)<(N:Nat)by omega),cond_true]
     exact cO(by decide)
    refine hl.sub(Sub.refl _)(fP⟨Or.inl rfl,Or.inl rfl,Or.inr(Or.inl⟨3,1,1,_,_,rfl,rfl,fun q hq=>?_⟩),trivial⟩)
    obtain rfl:q=0:=Nat.lt_one_iff.1 hq
    exact jU rfl
   |succ k =>
    have hl:bF Tryz.prog(au Tryz.f67 0)(foS n hs W H x y z d sk((k+1:Nat):Int)(k+1)fun q=>hgV dO(dU n hs)(q:Nat)) .normal(foE n hs W H x y z d sk((k+1+1:Nat):Int)(k+1+1)(fun q=>dn(Nat.blt q(k+1)) [iA(hgV dO(dU n hs)(q:Nat))] [iA(hgV dO(dU n hs)((k+1:Nat):Int))])):=by
     refine aF(aT _ _)Dp(ak aD av)aA((alT n hs dO(dU n hs)W H x y z d sk((k+1:Nat):Int)(k+1)fun q=>hgV dO(dU n hs)(q:Nat)).trans ?_)
     rw[hN,dec_lt hk,cond_true,cO(pos _(by omega)),axl(by omega),bD(n:=k+1)(by omega)];rfl
    refine hl.sub(Sub.refl _)(fP⟨Or.inl rfl,Or.inl rfl,Or.inr(Or.inl⟨3,1,k+1+1,_,_,rfl,rfl,fun q hq=>jU ?_⟩),trivial⟩)
    rw[abA]
    cases hb:Nat.blt q(k+1)
    ·have:=uH hb
     obtain rfl:q=k+1:=by omega
     rfl
    ·rfl
  ·obtain⟨k,rfl⟩:∃k,N=k+1:=⟨N - 1,by omega⟩
   refine aF(bU _ _)Dp(ak aD av)aA((arw n hs dO(dU n hs)W H x y z d sk((k+1:Nat):Int)(k+1)fun q=>hgV dO(dU n hs)(q:Nat)).trans ?_)
   rw[hN,bQ,cond_false]
 refine⟨⟨W,H,ls [x,y,z],d,N,fun q=>hgV dO(dU n hs)(q:Nat),sk⟩,So.qm(gK(jq 2))tY(ak aD(ak aD av))bO Tryz.aBY(by kernel_rfl)(by kernel_rfl)(eZ 0 1(by kernel_rfl)(by kernel_rfl)(aR lead))rfl((axk n hs dO gJ(dU n hs)(pI n hs)W H x y z d sk(N:Nat)N fun q=>hgV dO(dU n hs)(q:Nat)).trans ?_)⟩
 unfold foW
 rw[cO(by decide),cO(by decide),yY(by decide)(by decide)(Or.inr(Or.inl rfl)),cO(by decide),cO(by decide),hW,hH,hx,hy,hz,hd,hk,ah(Sub.refl _),show Nat.beq N N=true from Nat.beq_refl N]
 rfl
theorem MJ {n:Nat}{hs:Nat→Int}(h:Zx n hs) {N:Nat}(h1:1≤N)(h2:N≤10):∃S:Nat→Jd,aj Tryz.prog 65 [sI n hs,iA(N:Nat),iA 3](.sl 13 N fun q=>(S q).c):=by
 have hx:∀f:Int,∃y:Jd,∀g:Nat,f=(g:Nat)→g≤200→aj Tryz.prog 111 [sI n hs,iA(g:Nat),iA 3](.agg y.c):=fun f=>by
  by_cases hf:0≤f∧f≤200
  ·obtain⟨k,a,sk,hk⟩:=So.T3.XC h(f:=f.toNat)(by omega)
   refine⟨⟨k,a,sk⟩,fun g hg _=>?_⟩
   have:f.toNat=g:=by omega
   subst this
   exact hk
  ·exact⟨⟨0,fun _=>0,0⟩,fun g hg hg'=>absurd⟨by omega,by omega⟩hf⟩
 obtain⟨G,hG⟩:=Classical.axiomOfChoice hx
 have pos:∀k:Nat,k≤10→∀o,shO n hs G(aI(13*(k:Int)))o=o:=fun k hk o=>by
  have e:aI(13*(k:Int))=((13*k:Nat):Int):=by rw[aO(by omega)(by omega)];omega
  unfold shO
  rw[e]
  exact ah(hG _(13*k)rfl(by omega))
 have lead:bF Tryz.prog(.loop(au Tryz.f65 0))(Iy n hs(N:Nat))(.exit 0)(shS n hs(N:Nat)(N:Nat)N fun q=>G(aI(13*((q:Nat):Int)))):=by
  refine aU(fun k=>match k with | 0=>Iy n hs(N:Nat) |k+1=>shS n hs(N:Nat)((k+1:Nat):Int)(k+1)fun q=>G(aI(13*((q:Nat):Int))))N(.exit 0)_(by simp)(fun k hk=>?_) ?_
  ·cases k with
   |zero =>
    have hl:bF Tryz.prog(au Tryz.f65 0)(Iy n hs(N:Nat)) .normal(shE n hs(N:Nat)((0+1:Nat):Int)1(fun q=>dn(Nat.blt q 0) [](G(aI(13*0))).c)):=by
     refine aF(aT _ _)aB jS aA((ahe n hs G(N:Nat)).trans ?_)
     rw[decide_eq_true(show(0:Int)<(N:Nat)by omega),cond_true]
     exact pos 0(by decide)_
    refine hl.sub(Sub.refl _)(fP⟨Or.inr(Or.inl⟨67,13,1,_,_,rfl,rfl,fun q hq=>?_⟩),trivial⟩)
    obtain rfl:q=0:=Nat.lt_one_iff.1 hq
    exact jU rfl
   |succ k =>
    have hl:bF Tryz.prog(au Tryz.f65 0)(shS n hs(N:Nat)((k+1:Nat):Int)(k+1)fun q=>G(aI(13*((q:Nat):Int)))) .normal(shE n hs(N:Nat)((k+1+1:Nat):Int)(k+1+1)(fun q=>dn(Nat.blt q(k+1))(G(aI(13*((q:Nat):Int)))).c(G(aI(13*((k+1:Nat):Int)))).c)):=by
     refine aF(aT _ _)aB jS aA((alU n hs G(N:Nat)((k+1:Nat):Int)(k+1)fun q=>G(aI(13*((q:Nat):Int)))).trans ?_)
     rw[dec_lt hk,cond_true,pos _(by omega),qD(by omega),bD(n:=k+1)(by omega)];rfl
    refine hl.sub(Sub.refl _)(fP⟨Or.inr(Or.inl⟨67,13,k+1+1,_,_,rfl,rfl,fun q hq=>jU ?_⟩),trivial⟩)
    rw[aw0]
    cases hb:Nat.blt q(k+1)
    ·have:=uH hb
     obtain rfl:q=k+1:=by omega
     rfl
    ·rfl
  ·obtain⟨k,rfl⟩:∃k,N=k+1:=⟨N - 1,by omega⟩
   refine aF(bU _ _)aB jS aA((arx n hs G((k+1:Nat):Int)((k+1:Nat):Int)(k+1)fun q=>G(aI(13*((q:Nat):Int)))).trans ?_)
   rw[bQ,cond_false]
 refine⟨fun q=>G(aI(13*((q:Nat):Int))),aj.Qx(aP aB av Tryz.ara(by kernel_rfl)(by kernel_rfl)(eZ 0 1(by kernel_rfl)(by kernel_rfl)(aR lead))rfl((agZ n hs(N:Nat)(N:Nat)N fun q=>G(aI(13*((q:Nat):Int)))).trans(ah(Sub.refl _))))fun _ _ hr=>?_⟩
 exact El hr fun q _=>by rw[Nat.zero_add]
abbrev pV:AV:=.x(.slice none 0 0)
def RA(a b c d e:AV)(u v w:Int)(x y r:Nat):List AV:=[a,b,c,d,e,iA u,iA v,iA w,.f x,.f y,.f 13842939354630062080,.f 0,.f 0,.f 0,.f 0,.f 4607182418800017408,.f 0,.f r]
def soG(G:Int→RG):List AV→AV
 | [_,.x(.int .i64 f),_]=>.agg(G f).c
 |_=>.any
section
variable(n:Nat)(hs:Nat→Int)(pf:Int→Int→Int)(tf:Int→Nat)(rf:Int→Int)(vf:Int→Int→Nat→Nat)(G:Int→RG)(N:Int)(x y r:Nat)(u v w:Int)(i:Int)(m l:Nat)(el tJ:Nat→List AV)(K:Nat→Nat→Int)(A:Nat→Nat→Nat)(L:Nat→Nat→Int)(s:AV)(O:Nat→RG)
def c1E:St:=mkS 169 [(0,sI n hs),(1,iA N),(4,.own 0 0),(5,.own 1 0),(6,iA i)] [.c zS,.c(RA pV pV pV(.fJ 2 10 0 m)pV 0 0 0 x y r),.a 47 10 m el]
def c1S:St:=c1E n hs N x y r i m fun q=>xJ(K q)
def Yg:List Nat:=[0,1,4,5,6]
def sk3(c:Int)(o:Option Out):Option Out:=gR n hs rf(aI(aI(11+aI(3*i))+c))(gR n hs rf(aI(aI(12+aI(2*i))+c))(gR n hs rf(aI(aI(13+aI(5*i))+c))o))
def skN(q:Nat):Int:=match q with
 | 0=>pf(rf(aI(aI(11+aI(3*i))+0)))401
 | 1=>pf(rf(aI(aI(11+aI(3*i))+1)))401
 | 2=>pf(rf(aI(aI(11+aI(3*i))+2)))401
 | 3=>aI(pf(rf(aI(aI(12+aI(2*i))+0)))301*i.tmod 2)
 | 4=>aI(pf(rf(aI(aI(12+aI(2*i))+1)))301*i.tmod 2)
 | 5=>aI(pf(rf(aI(aI(12+aI(2*i))+2)))301*i.tmod 2)
 | 6=>aI(pf(rf(aI(aI(13+aI(5*i))+0)))301*aI(i.tdiv 2))
 | 7=>aI(pf(rf(aI(aI(13+aI(5*i))+1)))301*aI(i.tdiv 2))
 | 8=>aI(pf(rf(aI(aI(13+aI(5*i))+2)))301*aI(i.tdiv 2))
 |_=>aI(700+pf(rf(aI(6+i)))1500)
def c1C(o oe:Option Out):Option Out:=cond(decide(i<3))(gR n hs rf(aI(6+i))(sk3 n hs rf i 0(sk3 n hs rf i 1(sk3 n hs rf i 2(cond(Nz m 80||false)o none)))))oe
theorem ak2:gD Tryz.prog(M0 pf tf) [GI rf]aM(au Tryz.f20 0)(c1S n hs N x y r i m K)(fu Yg [some 0,some 1,some 5])=c1C n hs rf i m(some⟨.normal,c1E n hs N x y r(aI(i+1))(m+1)(fun q=>dn(Nat.blt q m)(xJ(K q))(xJ(skN pf rf i))),.any⟩)none:=by kernel_rfl
theorem aqM:gD Tryz.prog(M0 pf tf) [GI rf]aM(au Tryz.f20 0)(c1S n hs N x y r i m K)(gM Yg [some 0,some 1,some 2])=c1C n hs rf i m none(some⟨.exit 0,c1S n hs N x y r i m K,.any⟩):=by kernel_rfl
def c3E:St:=mkS 169 [(0,sI n hs),(1,iA N),(4,.own 0 0),(5,.own 1 0),(9,iA i)] [.c zS,.c(RA pV pV pV(.fJ 2 10 0 3)(.fJ 3 6 0 m)0 0 0 x y r),.a 47 10 3 fun q=>xJ(K q),.a 76 6 m el]
def c3S:St:=c3E n hs N x y r i m(fun q=>IB(A q)(L q))K
def Yh:List Nat:=[0,1,4,5,9]
def Yi(c:Int):Int:=pf(aI(rf(aI(aI(21+i)+c))*977))65537
def lmN:List AV:=[.f(vf(aI(17+aI(4*i)))6000 0),.f(vf(aI(17+aI(4*i)))6000 1),.f(vf(aI(17+aI(4*i)))6000 2),iA(Yi pf rf i 0),iA(Yi pf rf i 1),iA(Yi pf rf i 2)]
def c3C(o oe:Option Out):Option Out:=gR n hs rf 1(cond(decide(i<pf(rf 1)3))(gV n hs vf(aI(17+aI(4*i)))6000(gR n hs rf(aI(aI(21+i)+0))(gR n hs rf(aI(aI(21+i)+1))(gR n hs rf(aI(aI(21+i)+2))(cond(Nz m 48||false)o none)))))oe)
theorem ak3:gD Tryz.prog(M0 pf tf) [GI rf,vcK vf]aM(au Tryz.f20 2)(c3S n hs N x y r i m K A L)(fu Yh [some 0,some 1,some 2,some 6])=c3C n hs pf rf vf i m(some⟨.normal,c3E n hs N x y r(aI(i+1))(m+1)(fun q=>dn(Nat.blt q m)(IB(A q)(L q))(lmN pf rf vf i))K,.any⟩)none:=by kernel_rfl
theorem aqN:gD Tryz.prog(M0 pf tf) [GI rf,vcK vf]aM(au Tryz.f20 2)(c3S n hs N x y r i m K A L)(gM Yh [some 0,some 1,some 2,some 3])=c3C n hs pf rf vf i m none(some⟨.exit 4,c3S n hs N x y r i m K A L,.any⟩):=by kernel_rfl
def c6E:St:=mkS 169 [(0,sI n hs),(1,iA N),(4,.own 0 0),(5,.own 1 0),(13,iA i)] [.c zS,.c(RA s(.fJ 4 2 0 m)pV(.fJ 2 10 0 3)(.fJ 3 6 0 l)u v w x y r),.a 47 10 3 fun q=>xJ(K q),.a 76 6 l fun q=>IB(A q)(L q),.a 69 2 m el]
def c6S(S:Nat→Jd)(NS:Nat):St:=c6E n hs N x y r u v w i m l(fun q=>(O q).c)K A L(.sl 13 NS fun q=>(S q).c)
def Yj:List Nat:=[0,1,4,5,13]
def c6C(o oe:Option Out):Option Out:=gR n hs rf 9(cond(decide(i<pf(rf 9)3))(gate(aj Tryz.prog 66 [sI n hs,iA(aI(5+aI(7*i))),iA 3](.agg(G(aI(5+aI(7*i)))).c))(cond((Nz m 32||false)&&true)o none))oe)
theorem ak4(S:Nat→Jd)(NS:Nat):gD Tryz.prog(M0 pf tf) [GI rf,kS Tryz.prog 66(soG G)]aM(au Tryz.f20 5)(c6S n hs N x y r u v w i m l K A L O S NS)(fu Yj [some 0,some 1,some 2,some 3,some 6])=c6C n hs pf rf G i m(some⟨.normal,c6E n hs N x y r u v w(aI(i+1))(m+1)l(fun q=>dn(Nat.blt q m)(O q).c(G(aI(5+aI(7*i)))).c)K A L(.sl 13 NS fun q=>(S q).c),.any⟩)none:=by kernel_rfl
theorem aqO(S:Nat→Jd)(NS:Nat):gD Tryz.prog(M0 pf tf) [GI rf,kS Tryz.prog 66(soG G)]aM(au Tryz.f20 5)(c6S n hs N x y r u v w i m l K A L O S NS)(gM Yj [some 0,some 1,some 2,some 3,some 4])=c6C n hs pf rf G i m none(some⟨.exit 10,c6S n hs N x y r u v w i m l K A L O S NS,.any⟩):=by kernel_rfl
end
end Go.Proofs.YtefphimaggjihaaGreatDoor.Hs.Sc
namespace Go.Gv
def as0(k:Nat):mg:=fun s MG=>match s.mem[k]? with
 |some(.a _ _ _ _)=>wW k s MG
 |_=>MG s
theorem amn(k:Nat):fZ 0(as0 k):=fun s MG r h=>by
 unfold as0 at h
 split at h
 ·exact jq k s MG r h
 ·exact⟨s,h,Sub.refl s⟩
end Go.Gv
namespace Go.Proofs.YtefphimaggjihaaGreatDoor.Hs.Sc
open Go.Gv So Fm
open Go.Ev (cn bq dI bT fdiv d9 fI dK jO kL gN lK fabs)
section
variable(n:Nat)(hs:Nat→Int)(pf:Int→Int→Int)(tf:Int→Nat)(rf:Int→Int)(vf:Int→Int→Nat→Nat)(mf:Int→Int→Nat)(G:Int→RG)(F:Fm.Fd)(N:Int)(NL NO:Nat)(K:Nat→Nat→Int)(A:Nat→Nat→Nat)(L:Nat→Nat→Int)(O:Nat→RG)(S:Nat→Jd)(NS:Nat)
abbrev eX:Nat:=mf(rf 3)2000
abbrev eY:Nat:=mf(rf 4)2000
abbrev eW:Nat:=tf(aI(500+pf(rf 5)1500))
abbrev yR(c:Int):Int:=pf(aI(rf(aI(2+c))*661))65537
def scL:Nat→Option dN:=nA [(3,Ce Yg 1 [(3,2,10)](.a 47 10 0 fun q=>xJ(K q)) [some 0,some 1,none](c1S n hs N(eX rf mf)(eY rf mf)(eW pf tf rf)0 0 K)(.exit 0)(c1S n hs N(eX rf mf)(eY rf mf)(eW pf tf rf)3 3 K)),
 (14,Ce Yh 1 [(4,3,6)](.a 76 6 0 fun q=>IB(A q)(L q)) [some 0,some 1,some 2,none](c3S n hs N(eX rf mf)(eY rf mf)(eW pf tf rf)0 0 K A L)(.exit 4)(c3S n hs N(eX rf mf)(eY rf mf)(eW pf tf rf)NL NL K A L)),
 (28,Ce Yj 1 [(1,4,2)](.a 69 2 0 fun q=>(O q).c) [some 0,some 1,some 2,some 3,none](c6S n hs N(eX rf mf)(eY rf mf)(eW pf tf rf)(yR pf rf 0)(yR pf rf 1)(yR pf rf 2)0 0 NL K A L O S NS)(.exit 10)(c6S n hs N(eX rf mf)(eY rf mf)(eW pf tf rf)(yR pf rf 0)(yR pf rf 1)(yR pf rf 2)NO NO NL K A L O S NS))]
def XZ:Nat→Option mg:=fun j=>cond(Nat.beq j 33)(some(aaX(wW 2)(aaX(wW 3)(aaX(wW 4)(as0 6)))))none
def Me:List aV:=[GI rf,vcK vf,kS Tryz.prog 63(auy mf),kS Tryz.prog 65(fun _=>.sl 13 NS fun q=>(S q).c),kS Tryz.prog 67(fun _=>.agg F.c)]
def scO(f:AV):Option Out:=cond(fzB NL)(cond(fzB NO)(some(Out.of(.agg(RA(.sl 13 NS fun q=>(S q).c)(.sl 2 NO fun q=>(O q).c)f(.sl 10 3 fun q=>xJ(K q))(.sl 6 NL fun q=>IB(A q)(L q))(yR pf rf 0)(yR pf rf 1)(yR pf rf 2)(eX rf mf)(eY rf mf)(eW pf tf rf)))))none)none
def scX:Option Out:=gR n hs rf 3(gMi mf(rf 3)2000(gR n hs rf 4(gMi mf(rf 4)2000(gR n hs rf 5(gate(Sub(c1S n hs N(eX rf mf)(eY rf mf)(eW pf tf rf)0 0 K)(c1S n hs N(eX rf mf)(eY rf mf)(eW pf tf rf)0 0 K))(gate(Sub(c3S n hs N(eX rf mf)(eY rf mf)(eW pf tf rf)0 0 K A L)(c3S n hs N(eX rf mf)(eY rf mf)(eW pf tf rf)0 0 K A L))(gR n hs rf(aI(2+0))(gR n hs rf(aI(2+1))(gR n hs rf(aI(2+2))(gate(aj Tryz.prog 65 [sI n hs,iA N,iA 3](.sl 13 NS fun q=>(S q).c))(gate(Sub(c6S n hs N(eX rf mf)(eY rf mf)(eW pf tf rf)(yR pf rf 0)(yR pf rf 1)(yR pf rf 2)0 0 NL K A L O S NS)(c6S n hs N(eX rf mf)(eY rf mf)(eW pf tf rf)(yR pf rf 0)(yR pf rf 1)(yR pf rf 2)0 0 NL K A L O S NS))(gR n hs rf 8(cond(pf(rf 8)3==0)(gate(aj Tryz.prog 67 [sI n hs,iA 4,iA 3](.agg F.c))(scO pf tf rf mf NL NO K A L O S NS(.sl 8 1 fun q=>dn(Nat.blt q 0) []F.c)))(scO pf tf rf mf NL NO K A L O S NS pV))))))))))))))
theorem ae4:qX Tryz.prog(M0 pf tf)(Me rf vf mf F S NS) [](scL n hs pf tf rf mf N NL NO K A L O S NS)XZ Tryz.f20 [sI n hs,iA N]ret=scX n hs pf tf rf mf F N NL NO K A L O S NS:=by kernel_rfl
theorem amo(c:Int):ev Tryz.prog(M0 pf tf) []aM Tryz.f63 [iA c,iA 2000]ret=some(Out.of(.f(RP pf tf c 2000))):=by kernel_rfl
end
theorem aaR(c:Int):aj Tryz.prog 63 [iA c,iA 2000](.f(RP dO gJ c 2000)):=aP tY av Tryz.Jo(by kernel_rfl)(by kernel_rfl)aA rfl(amo dO gJ c)
theorem arb:∀i h,XZ i=some h→fZ 0 h:=fun i h e=>by
 unfold XZ at e
 cases h1:Nat.beq i 33
 ·rw[h1]at e;cases e
 ·rw[h1,cond_true]at e;cases e;exact K8(jq 2)(K8(jq 3)(K8(jq 4)(amn 6)))
section
variable {n:Nat}{hs:Nat→Int}{N:Int}{x y r:Nat}
theorem p2 {a b c:Int}{k:Nat}(ha:0≤a)(ha':a≤100)(hb:0≤b)(hb':b≤10)(hc:0≤c)(hc':c≤10)(hk:k≤10):0≤aI(aI(a+aI(b*(k:Int)))+c):=by
 have h1:0≤b*(k:Int)∧b*(k:Int)≤100:=by
  refine⟨Int.mul_nonneg hb(by omega),?_⟩
  have:b*(k:Int)≤10*10:=Int.mul_le_mul hb'(by omega)(by omega)(by decide)
  omega
 rw[aO(n:=b*(k:Int))(by omega)(by omega),aO(n:=a+b*(k:Int))(by omega)(by omega),aO(by omega)(by omega)]
 omega
theorem axF(b:Bool)(k j:Nat→Int):dn b(xJ k)(xJ j)=xJ(cond b k j):=by cases b<;>rfl
theorem axH(b:Bool)(a c:Nat→Nat)(k j:Nat→Int):dn b(IB a k)(IB c j)=IB(cond b a c)(cond b k j):=by cases b<;>rfl
theorem as1(b:Bool)(a c:RG):dn b a.c c.c=(cond b a c).c:=by cases b<;>rfl
theorem agT:bF Tryz.prog(.loop(au Tryz.f20 0))(c1S n hs N x y r 0 0 fun q=>skN dO(dU n hs)(q:Nat))(.exit 0)(c1S n hs N x y r 3 3 fun q=>skN dO(dU n hs)(q:Nat)):=by
 refine aU(fun k=>c1S n hs N x y r(k:Nat)k fun q=>skN dO(dU n hs)(q:Nat))3(.exit 0)_(by simp)(fun k hk=>?_) ?_
 ·have hl:bF Tryz.prog(au Tryz.f20 0)(c1S n hs N x y r(k:Nat)k fun q=>skN dO(dU n hs)(q:Nat)) .normal(c1E n hs N x y r((k+1:Nat):Int)(k+1)(fun q=>dn(Nat.blt q k)(xJ(skN dO(dU n hs)(q:Nat)))(xJ(skN dO(dU n hs)(k:Nat))))):=by
   refine aF(aT _ _)tY(ak aD av)aA((ak2 n hs dO gJ(dU n hs)N x y r(k:Nat)k fun q=>skN dO(dU n hs)(q:Nat)).trans ?_)
   unfold c1C sk3
   rw[decide_eq_true(show((k:Nat):Int)<3 by omega),cond_true,cO(show 0≤aI(6+(k:Int))by rw[aO(by omega)(by omega)];omega)]
   iterate 3 rw[cO(p2(by decide)(by decide)(by decide)(by decide)(by decide)(by decide)(by omega)),cO(p2(by decide)(by decide)(by decide)(by decide)(by decide)(by decide)(by omega)),cO(p2(by decide)(by decide)(by decide)(by decide)(by decide)(by decide)(by omega))]
   rw[qD(by omega),bD(n:=k)(by omega)];rfl
  refine hl.sub(Sub.refl _)(fP⟨Or.inl rfl,Or.inl rfl,Or.inr(Or.inl⟨47,10,k+1,_,_,rfl,rfl,fun q hq=>jU ?_⟩),trivial⟩)
  rw[axF]
  cases hb:Nat.blt q k
  ·have:=uH hb
   obtain rfl:q=k:=by omega
   rfl
  ·rfl
 ·exact aF(bU _ _)tY(ak aD av)aA((aqM n hs dO gJ(dU n hs)N x y r((3:Nat):Int)3 fun q=>skN dO(dU n hs)(q:Nat)).trans rfl)
theorem agU {NL:Nat}(K:Nat→Nat→Int)(hN:dO(dU n hs 1)3=(NL:Nat))(h3:NL≤3):bF Tryz.prog(.loop(au Tryz.f20 2))(c3S n hs N x y r 0 0 K(fun q=>pI n hs(aI(17+aI(4*(q:Int))))6000)fun q c=>Yi dO(dU n hs)(q:Nat)(c:Nat))(.exit 4)(c3S n hs N x y r NL NL K(fun q=>pI n hs(aI(17+aI(4*(q:Int))))6000)fun q c=>Yi dO(dU n hs)(q:Nat)(c:Nat)):=by
 refine aU(fun k=>c3S n hs N x y r(k:Nat)k K(fun q=>pI n hs(aI(17+aI(4*(q:Int))))6000)fun q c=>Yi dO(dU n hs)(q:Nat)(c:Nat))NL(.exit 4)_(by simp)(fun k hk=>?_) ?_
 ·have e:aI(17+aI(4*(k:Int)))=17+4*(k:Int):=by rw[aO(n:=4*(k:Int))(by omega)(by omega),aO(by omega)(by omega)]
  have pl:∀c:Int,0≤c→c≤2→0≤aI(aI(21+(k:Int))+c):=fun c h0 h2=>by rw[aO(n:=21+(k:Int))(by omega)(by omega),aO(by omega)(by omega)];omega
  have hl:bF Tryz.prog(au Tryz.f20 2)(c3S n hs N x y r(k:Nat)k K(fun q=>pI n hs(aI(17+aI(4*(q:Int))))6000)fun q c=>Yi dO(dU n hs)(q:Nat)(c:Nat)) .normal(c3E n hs N x y r((k+1:Nat):Int)(k+1)(fun q=>dn(Nat.blt q k)(IB(pI n hs(aI(17+aI(4*(q:Int))))6000)fun c=>Yi dO(dU n hs)(q:Nat)(c:Nat))(IB(pI n hs(aI(17+aI(4*(k:Int))))6000)fun c=>Yi dO(dU n hs)(k:Nat)(c:Nat)))K):=by
   refine aF(aT _ _)tY(ak aD(ak aD av))aA((ak3 n hs dO gJ(dU n hs)(pI n hs)N x y r(k:Nat)k K(fun q=>pI n hs(aI(17+aI(4*(q:Int))))6000)fun q c=>Yi dO(dU n hs)(q:Nat)(c:Nat)).trans ?_)
   unfold c3C
   rw[cO(by decide),hN,dec_lt hk,cond_true,yY(by rw[e];omega)(by rw[e];omega)(Or.inr(Or.inr(Or.inl rfl))),cO(pl 0(by decide)(by decide)),cO(pl 1(by decide)(by decide)),cO(pl 2(by decide)(by decide)),qD(by omega),bD(n:=k)(by omega)];rfl
  refine hl.sub(Sub.refl _)(fP⟨Or.inl rfl,Or.inl rfl,Or.inl rfl,Or.inr(Or.inl⟨76,6,k+1,_,_,rfl,rfl,fun q hq=>jU ?_⟩),trivial⟩)
  rw[axH]
  cases hb:Nat.blt q k
  ·have:=uH hb
   obtain rfl:q=k:=by omega
   rfl
  ·rfl
 ·refine aF(bU _ _)tY(ak aD(ak aD av))aA((aqN n hs dO gJ(dU n hs)(pI n hs)N x y r(NL:Nat)NL K(fun q=>pI n hs(aI(17+aI(4*(q:Int))))6000)fun q c=>Yi dO(dU n hs)(q:Nat)(c:Nat)).trans ?_)
  unfold c3C
  rw[cO(by decide),hN,bQ,cond_false]
theorem agV {G:Int→RG}(hG:∀F:Nat,F≤50→aj Tryz.prog 66 [sI n hs,iA(F:Nat),iA 3](.agg(G(F:Nat)).c)) {NO:Nat}(u v w:Int)(l:Nat)(K:Nat→Nat→Int)(A:Nat→Nat→Nat)(L:Nat→Nat→Int)(S:Nat→Jd)(NS:Nat)(hN:dO(dU n hs 9)3=(NO:Nat))(h3:NO≤3):bF Tryz.prog(.loop(au Tryz.f20 5))(c6S n hs N x y r u v w 0 0 l K A L(fun q=>G(aI(5+aI(7*(q:Int)))))S NS)(.exit 10)(c6S n hs N x y r u v w NO NO l K A L(fun q=>G(aI(5+aI(7*(q:Int)))))S NS):=by
 refine aU(fun k=>c6S n hs N x y r u v w(k:Nat)k l K A L(fun q=>G(aI(5+aI(7*(q:Int)))))S NS)NO(.exit 10)_(by simp)(fun k hk=>?_) ?_
 ·have e:aI(5+aI(7*(k:Int)))=((5+7*k:Nat):Int):=by rw[aO(n:=7*(k:Int))(by omega)(by omega),aO(by omega)(by omega)];omega
  have hs':aj Tryz.prog 66 [sI n hs,iA(aI(5+aI(7*(k:Int)))),iA 3](.agg(G(aI(5+aI(7*(k:Int))))).c):=by rw[e];exact hG _(by omega)
  have hl:bF Tryz.prog(au Tryz.f20 5)(c6S n hs N x y r u v w(k:Nat)k l K A L(fun q=>G(aI(5+aI(7*(q:Int)))))S NS) .normal(c6E n hs N x y r u v w((k+1:Nat):Int)(k+1)l(fun q=>dn(Nat.blt q k)(G(aI(5+aI(7*(q:Int))))).c(G(aI(5+aI(7*(k:Int))))).c)K A L(.sl 13 NS fun q=>(S q).c)):=by
   refine aF(aT _ _)tY(ak aD(ak aD av))aA((ak4 n hs dO gJ(dU n hs)G N x y r u v w(k:Nat)k l K A L(fun q=>G(aI(5+aI(7*(q:Int)))))S NS).trans ?_)
   unfold c6C
   rw[cO(by decide),hN,dec_lt hk,cond_true,ah hs',qD(by omega),bD(n:=k)(by omega)];rfl
  refine hl.sub(Sub.refl _)(fP⟨Or.inl rfl,Or.inl rfl,Or.inl rfl,Or.inl rfl,Or.inr(Or.inl⟨69,2,k+1,_,_,rfl,rfl,fun q hq=>jU ?_⟩),trivial⟩)
  rw[as1]
  cases hb:Nat.blt q k
  ·have:=uH hb
   obtain rfl:q=k:=by omega
   rfl
  ·rfl
 ·refine aF(bU _ _)tY(ak aD(ak aD av))aA((aqO n hs dO gJ(dU n hs)G N x y r u v w(NO:Nat)NO l K A L(fun q=>G(aI(5+aI(7*(q:Int)))))S NS).trans ?_)
  unfold c6C
  rw[cO(by decide),hN,bQ,cond_false]
end
end Go.Proofs.YtefphimaggjihaaGreatDoor.Hs.Sc
namespace Go.Proofs.YtefphimaggjihaaGreatDoor.Pi
open Go.Shelf Go.RowKit Go.Gv
open Go.Ev (cn bq dI bT fdiv fI dK jO kL gN lK aL key val isFin cB)
open Hs (gJ yU)
def by8(n:Int):Int:=IntKind.u8.wrap n
def dcC(c:Int):ByteArray:=acI 1 fun i=>Go.Gv.byteOf(chunk [yA c] 1 i)
def dcK(s:ByteArray):List aV:=[kS Tryz.prog 23 fun _=>zA s]
theorem ahc(n:Int)(s:ByteArray):evM Tryz.prog [](dcK s) [born 78]aM Tryz.f23 [iA n]ret =
  cond(decide(n<0))(gate(aj Tryz.prog 23 [iA(aI(0 - n))](zA s))(cond(mq⟨#[45]⟩s||false)(some(Out.of(zA(⟨#[45]⟩++s))))none))
   (cond(decide(n<10))(some(Out.of(zA(dcC(by8(aI(48+n)))))))
    (gate(aj Tryz.prog 23 [iA(aI(n.tdiv 10))](zA s))(cond((mq s(dcC(by8(aI(48+n.tmod 10))))||false)&&true)(some(Out.of(zA(s++dcC(by8(aI(48+n.tmod 10)))))))none))):=by kernel_rfl
theorem aru(c:Nat):dcC(c:Nat)=lB [UInt8.ofNat c]:=by
 unfold dcC
 rw[QO]
 show ByteArray.push ByteArray.empty(UInt8.ofNat((c:Int)).toNat)=_
 rw[Int.toNat_natCast]
 rfl
theorem aa3 {k:Nat}(h:k<10):dcC(by8(aI(48+(k:Int))))=lB [UInt8.ofNat(48+k)]:=by
 rw[aO(by omega)(by omega),show by8(48+(k:Int))=((48+k:Nat):Int)by unfold by8;rw[awm(by omega)(by omega)];omega,aru]
theorem zo(k:Nat):Lib.itoa(k:Int)=Lib.decDigits k:=by unfold Lib.itoa;rw[if_neg(by omega),Int.toNat_natCast]
theorem decs:∀(d k:Nat),d≤7→k<10 ^ (d+1)→aj Tryz.prog 23 [iA(k:Nat)](zA(lB(Lib.itoa(k:Nat))))
 |d,k,hd,hk=>by
  by_cases h:k<10
  ·rw[zo,Lib.decDigits_one h]
   refine qz aB(ak aD av)(jl(iK _)bO)Tryz.arv(by kernel_rfl)(by kernel_rfl)aA rfl((ahc(k:Nat)⟨#[]⟩).trans ?_)
   rw[decide_eq_false(show ¬(k:Int)<0 by omega),decide_eq_true(show(k:Int)<10 by omega),aa3 h]
   rfl
  ·match d with
   | 0=>exact absurd hk(by omega)
   |d+1 =>
    have ih:=decs d(k / 10)(by omega)(by rw[Nat.pow_succ]at hk;omega)
    have hk8:k<100000000:=Nat.lt_of_lt_of_le hk(Nat.le_trans(Nat.pow_le_pow_right(by decide)(show d+1+1≤8 by omega))(by decide))
    have hl:=(lu(n:=((k / 10:Nat):Int))(by omega)(by omega)).2
    refine qz aB(ak aD av)(jl(iK _)bO)Tryz.arv(by kernel_rfl)(by kernel_rfl)aA rfl((ahc(k:Nat)(lB(Lib.itoa((k / 10:Nat):Int)))).trans ?_)
    have e1:aI((k:Int).tdiv 10)=((k / 10:Nat):Int):=by rw[Int.tdiv_eq_ediv_of_nonneg(by omega),aO(by omega)(by omega)];omega
    have e2:(k:Int).tmod 10=((k % 10:Nat):Int):=by rw[Int.tmod_eq_emod_of_nonneg(by omega)];omega
    have e3:Lib.itoa(k:Int)=Lib.itoa((k / 10:Nat):Int)++[UInt8.ofNat(48+k % 10)]:=by rw[zo,zo,Lib.decDigits,dif_neg h]
    rw[decide_eq_false(show ¬(k:Int)<0 by omega),cond_false,decide_eq_false(show ¬(k:Int)<10 by omega),cond_false,e1,e2,ah ih,aa3(k:=k % 10)(by omega),kW(by rw[aY,aY];show _+1≤_;omega),gZ,e3]
    rfl
theorem sK {n:Int}(h0:0≤n)(h1:n<100000000):aj Tryz.prog 23 [iA n](zA(lB(Lib.itoa n))):=by
 obtain⟨k,rfl⟩:=Int.eq_ofNat_of_zero_le h0
 exact decs 7 k(by decide)(by omega)
def gDd(dd:Int→ByteArray):List AV→AV
 | [.x(.int _ n)]=>zA(dd n)
 |_=>.any
def gTf(tf:Int→Nat):List AV→AV
 | [.x(.int _ n)]=>.f(tf n)
 |_=>.any
section
variable(dd:Int→ByteArray)(tf:Int→Nat)(x:Nat)
def VE(n:Int):Prop:=aj Tryz.prog 23 [iA n](zA(dd n))
def Jm:Option Out:=some(Out.of(.aN [zA⟨#[]⟩,bA false]))
def toF(s:ByteArray):Option Out:=cond(jO x 0)(cond(mq⟨#[45]⟩s||false)(some(Out.of(.aN [zA(⟨#[45]⟩++s),bA true])))none)(some(Out.of(.aN [zA s,bA true])))
def toD(n:Int)(s:ByteArray)(K:ByteArray→Option Out):Option Out:=gate(VE dd n)(cond(mq s(dd n)||false)(K(s++dd n))none)
def toE(d:Int)(s:ByteArray):Option Out:=cond(decide(d.tmod 10>0))(toD dd(d.tmod 10)s(toF x))(toF x s)
def toG(d:Int)(s:ByteArray):Option Out:=cond(decide(d.tmod 100>0))(toD dd((aI(d.tdiv 10)).tmod 10)s(toE dd x d))(toE dd x d s)
def toC(d:Int)(s:ByteArray):Option Out:=cond(decide(d>0))(cond(mq s dtS||false)(toD dd(aI(d.tdiv 100))(s++dtS)(toG dd x d))none)(toF x s)
def toB(n:Int):Option Out:=gate(VE dd(aI(n.tdiv 1000)))(toC dd x(n.tmod 1000)(dd(aI(n.tdiv 1000))))
def HZ(a:Nat):Nat:=bq(bT a 4652007308841189376)4602678819172646912
def tNn(a:Nat):Int:=Mf .i64(HZ a)
def toA(a:Nat):Option Out:=cond(Cr .i64(HZ a)||false)(gate(aj Tryz.prog 37 [iA(tNn a)](.f(tf(tNn a))))(cond(!(dK(tf(tNn a))a))Jm(toB dd x(tNn a))))none
theorem auv:ev Tryz.prog [] [kS Tryz.prog 23(gDd dd),kS Tryz.prog 37(gTf tf)]aM Tryz.f36 [.f x]ret =
 cond(!(cond(lK x 13875379345695965184)(kL x 4652007308841189376)false))Jm(cond(jO x 0)(toA dd tf x(fI x))(toA dd tf x x)):=by kernel_rfl
end
end Go.Proofs.YtefphimaggjihaaGreatDoor.Pi
namespace Go.Proofs.YtefphimaggjihaaGreatDoor.Pi
open Go.Shelf Go.RowKit Go.Gv
def dg(k:Nat):UInt8:=UInt8.ofNat(48+k)
theorem Pm:∀k,k<10→(dg k==48)=decide(k=0):=by decide
theorem aoD {k:Nat}(h:k<10):Lib.itoa((k:Nat):Int)=[dg k]:=by rw[zo,Lib.decDigits_one h];rfl
theorem ajF {d:Nat}(h:d<1000):Lib.itoa((1000+d:Nat):Int)=[49,dg(d / 100),dg(d / 10 % 10),dg(d % 10)]:=by
 rw[zo,Lib.decDigits,dif_neg(by omega),Lib.decDigits,dif_neg(by omega),Lib.decDigits,dif_neg(by omega),Lib.decDigits_one(by omega)]
 have e0:(1000+d) / 10 / 10 / 10=1:=by omega
 have e1:(1000+d) / 10 / 10 % 10=d / 100:=by omega
 have e2:(1000+d) / 10 % 10=d / 10 % 10:=by omega
 have e3:(1000+d) % 10=d % 10:=by omega
 rw[e0,e1,e2,e3]
 rfl
def WH(d:Nat):List UInt8:=dg(d / 100)::((if d % 100>0 then [dg(d / 10 % 10)]else [])++(if d % 10>0 then [dg(d % 10)]else []))
theorem ave {d:Nat}(h0:0<d)(h:d<1000):Lib.trimRightB((Lib.itoa((1000+d:Nat):Int)).drop 1)48=WH d:=by
 rw[ajF h]
 unfold Lib.trimRightB WH
 have z1:=Pm(d % 10)(by omega)
 have z2:=Pm(d / 10 % 10)(by omega)
 have z3:=Pm(d / 100)(by omega)
 show(List.dropWhile _ [dg(d % 10),dg(d / 10 % 10),dg(d / 100)]).reverse=_
 by_cases c1:d % 10=0
 ·rw[decide_eq_true c1]at z1
  by_cases c2:d / 10 % 10=0
  ·rw[decide_eq_true c2]at z2
   rw[decide_eq_false(show ¬d / 100=0 by omega)]at z3
   rw[if_neg(by omega),if_neg(by omega)]
   simp[List.dropWhile,z1,z2,z3]
  ·rw[decide_eq_false c2]at z2
   rw[if_pos(by omega),if_neg(by omega)]
   simp[List.dropWhile,z1,z2]
 ·rw[decide_eq_false c1]at z1
  rw[if_pos(by omega),if_pos(by omega)]
  simp[List.dropWhile,z1]
open Go.Ev (cn bq dI bT fdiv fI dK jO kL gN lK aL key val isFin cB)
open Hs (gJ yU)
def ru(n:Int):ByteArray:=lB(Lib.itoa n)
theorem as3(x:Nat) {l:List UInt8}(h:l.length≤100):toF x(lB l)=some(Out.of(.aN [zA(lB((if jO x 0 then [45]else [])++l)),bA true])):=by
 unfold toF
 cases jO x 0
 ·rfl
 ·rw[show(⟨#[45]⟩:ByteArray)=lB [45]from rfl,kW(by rw[aY,aY];show 1+_≤_;omega),gZ]
  rfl
theorem Za {n:Nat}(hn:n<10) {l:List UInt8}(h:l.length≤100)(K:ByteArray→Option Out):toD ru(n:Nat)(lB l)K=K(lB(l++[dg n])):=by
 unfold toD
 have hd:VE ru(n:Nat):=sK(by omega)(by omega)
 have e:ru(n:Nat)=lB [dg n]:=by unfold ru;rw[aoD hn]
 rw[ah hd,e,kW(by rw[aY,aY];show _+1≤_;omega),gZ]
 rfl
theorem tq(d k:Nat)(hd:d<100000000):aI(((d:Nat):Int).tdiv(k:Nat))=((d / k:Nat):Int):=by
 rw[Int.tdiv_eq_ediv_of_nonneg(by omega),←Int.natCast_ediv]
 have:d / k≤d:=Nat.div_le_self _ _
 generalize d / k=q at *
 exact aO(by omega)(by omega)
theorem tm(d k:Nat):((d:Nat):Int).tmod(k:Nat)=((d % k:Nat):Int):=by
 rw[Int.tmod_eq_emod_of_nonneg(by omega),Int.natCast_emod]
theorem axJ(d:Nat):((d:Nat):Int).tmod 10=((d % 10:Nat):Int):=tm d 10
theorem aCz {d:Nat}(h:d<100000000):aI(((d:Nat):Int).tdiv 10)=((d / 10:Nat):Int):=tq d 10 h
theorem axL(d:Nat):((d:Nat):Int).tmod 100=((d % 100:Nat):Int):=tm d 100
theorem axM {d:Nat}(h:d<100000000):aI(((d:Nat):Int).tdiv 100)=((d / 100:Nat):Int):=tq d 100 h
theorem as4(d:Nat):((d:Nat):Int).tmod 1000=((d % 1000:Nat):Int):=tm d 1000
theorem as5 {d:Nat}(h:d<100000000):aI(((d:Nat):Int).tdiv 1000)=((d / 1000:Nat):Int):=tq d 1000 h
theorem aii(x:Nat) {d:Nat}{l:List UInt8}(h:l.length≤50):toE ru x(d:Nat)(lB l)=toF x(lB(l++(if d % 10>0 then [dg(d % 10)]else []))):=by
 unfold toE
 rw[axJ]
 by_cases h0:d % 10>0
 ·rw[decide_eq_true(by omega),cond_true,Za(by omega)(by omega),if_pos h0]
 ·rw[decide_eq_false(by omega),cond_false,if_neg h0,List.append_nil]
theorem as6(x:Nat) {d:Nat}{l:List UInt8}(hd:d<1000)(h:l.length≤40):toG ru x(d:Nat)(lB l)=toF x(lB(l++((if d % 100>0 then [dg(d / 10 % 10)]else [])++(if d % 10>0 then [dg(d % 10)]else [])))):=by
 unfold toG
 rw[axL,aCz(by omega),axJ]
 by_cases h0:d % 100>0
 ·rw[decide_eq_true(by omega),cond_true,Za(by omega)(by omega),if_pos h0,aii x(by simp;omega),List.append_assoc]
 ·rw[decide_eq_false(by omega),cond_false,aii x(by omega),if_neg h0,List.nil_append]
theorem as7(x:Nat) {d:Nat}{l:List UInt8}(hd:d<1000)(h:l.length≤30):toC ru x(d:Nat)(lB l)=toF x(lB(l++(if d=0 then []else 46::WH d))):=by
 unfold toC
 by_cases h0:d=0
 ·rw[decide_eq_false(by omega),cond_false,if_pos h0,List.append_nil]
 ·rw[decide_eq_true(by omega),cond_true,show dtS=lB [46]from rfl,kW(by rw[aY,aY];show _+1≤_;omega),gZ,axM(by omega)]
  show toD ru _ _ _=_
  rw[Za(by omega)(by simp;omega),as6 x hd(by simp;omega),if_neg h0]
  unfold WH
  simp
theorem aij(n:Nat):dcA n=Lib.itoa((n / 1000:Nat):Int)++(if n % 1000=0 then []else 46::WH(n % 1000)):=by
 unfold dcA
 by_cases h:n % 1000=0
 ·rw[if_pos h,if_pos h]
 ·rw[if_neg h,if_neg h,ave(by omega)(by omega)]
theorem ams(d:Nat):(WH d).length≤3:=by
 unfold WH
 split<;>split<;>simp
theorem aoh(x:Nat) {n:Nat}(hn:n≤1000000):toB ru x(n:Nat)=some(Out.of(.aN [zA(lB((if jO x 0 then [45]else [])++dcA n)),bA true])):=by
 unfold toB
 have hd:VE ru((n / 1000:Nat):Int):=sK(by omega)(by omega)
 have hl:=(lu(n:=((n / 1000:Nat):Int))(by omega)(by omega)).2
 have hf:=ams(n % 1000)
 rw[as5(by omega),as4,ah hd]
 show toC ru x _(lB _)=_
 rw[as7 x(by omega)(by omega),←aij,as3]
 rw[aij,List.length_append]
 split
 ·rw[List.length_nil];omega
 ·rw[List.length_cons];omega
end Go.Proofs.YtefphimaggjihaaGreatDoor.Pi
namespace Go.Ev
open Ieee
open Go.Proofs.YtefphimaggjihaaGreatDoor.Hs (gJ)
open Go.Proofs.YtefphimaggjihaaGreatDoor.Pi (HZ tNn)
section
variable {c:Nat}
theorem Kl {a:Nat}(hf:isFin a=true)(h0:-4652007308841189376≤key a)(h1:key a≤4652007308841189376):cB a:=by
 obtain⟨c,hc⟩:∃c,c=1074:=⟨_,rfl⟩
 have e1:key 13875379345695965184=-4652007308841189376:=by decide +kernel
 have e2:key 4652007308841189376=4652007308841189376:=by decide +kernel
 have t1:val 4652007308841189376=((1000*2 ^ c:Nat):Int):=by subst hc;decide +kernel
 have t2:val 13875379345695965184=-((1000*2 ^ c:Nat):Int):=by subst hc;decide +kernel
 have a1:=oH.2(show key 13875379345695965184≤key a by omega)
 have a2:=oH.2(show key a≤key 4652007308841189376 by omega)
 refine⟨hf,?_⟩
 rw[←hc]
 have:1000*2 ^ c≤1000000*2 ^ c:=Nat.mul_le_mul_right _(by decide)
 generalize 1000*2 ^ c=A at *
 generalize 1000000*2 ^ c=B at *
 omega
theorem zQ:isFin 4602678819172646912=true:=by decide +kernel
theorem ZI(hc:c=1074) {a:Nat}(hf:isFin a=true)(h0:0≤key a)(h1:key a≤4652007308841189376) :
    isFin(HZ a)=true∧0≤val(HZ a)∧key(HZ a)≤key(HZ 4652007308841189376)∧(0≤tNn a∧tNn a≤1000000)∧Go.Gv.Cr .i64(HZ a)=true:=by
  have hK:isFin 4652007308841189376=true:=by decide +kernel
  have e2:key 4652007308841189376=4652007308841189376:=by decide +kernel
  obtain⟨a1,_,_,a4⟩:=BK hc(Kl hf(by omega)h1)
  obtain⟨b1,_,_,b4⟩:=BK hc(Kl hK(by omega)(by omega))
  obtain⟨d1,_,_,d4⟩:=BK hc(Kl(a:=0)(by decide +kernel)(by decide +kernel)(by decide +kernel))
  have v0:=oH.2(show key 0≤key a by     have:key 0=0:=by decide +kernel
                                             omega)
  have v1:=oH.2(show key a≤key 4652007308841189376 by omega)
  have k1:key(bT a 4652007308841189376)≤key(bT 4652007308841189376 4652007308841189376):=by rw[a4,b4];exact Em 1(by omega)
  have k0:key(bT 0 4652007308841189376)≤key(bT a 4652007308841189376):=by rw[a4,d4];exact Em 1(by omega)
  have m1:key(HZ a)≤key(HZ 4652007308841189376):=NG a1 b1 zQ k1
  have m0:key(HZ 0)≤key(HZ a):=NG d1 a1 zQ k0
  have z0:key(HZ 0)=4602678819172646912:=by decide +kernel
  have z1:key(HZ 4652007308841189376)<9218868437227405312:=by decide +kernel
  have hfn:isFin(HZ a)=true:=yV(xU a1 zQ).2 m0 m1(by omega)z1
  have hv:0≤val(HZ a):=Int.le_of_lt(Am.2(by omega))
  have hB:(val(HZ 4652007308841189376)).natAbs / 2 ^ c≤4611686018427387904:=by subst hc;decide +kernel
  have hm:=aft hc hfn(show isFin(HZ 4652007308841189376)=true by decide +kernel)hv m1 hB
  have hM:Go.Gv.Mf .i64(HZ 4652007308841189376)=1000000:=by decide +kernel
  have v2:=oH.2 m1
  have hb:(val(HZ a)).natAbs / 2 ^ c≤4611686018427387904:=Nat.le_trans(Nat.div_le_div_right(by omega))hB
  have hp:=xu hc hfn hv hb
  refine⟨hfn,hv,m1,⟨by unfold tNn;rw[hp];exact Int.natCast_nonneg _,by unfold tNn;omega⟩,?_⟩
  refine XA hc(j:=53)⟨hfn,?_⟩(by decide)(by decide)
  have hC:(val(HZ 4652007308841189376)).natAbs≤1*2 ^ (c+53):=by subst hc;decide +kernel
  omega
theorem auu(hc:c=1074) {a:Nat}(hf:isFin a=true)(h0:0≤key a)(h1:key a≤4652007308841189376) {m:Nat}(hm:m≤1000000)(hk:key(gJ m)=key a):tNn a=m:=by
 obtain⟨f1,p1,k1,_,_⟩:=ZI hc hf h0 h1
 obtain⟨a1,_,_,a4⟩:=BK hc(Kl hf(by omega)h1)
 obtain⟨mk,mf⟩:=tV hc(n:=(m:Int))(by simpa using hm)
 obtain⟨b1,_,_,b4⟩:=BK hc(Kl mf(by omega)(by omega))
 have hv:=Dm hk
 have hkk:key(bT a 4652007308841189376)=key(qV m):=by unfold qV;rw[a4,b4,hv]
 have aBd:key(HZ a)=key(bq(qV m)4602678819172646912):=by
  unfold HZ
  rw[(xU a1 zQ).1,(xU(x:=qV m)b1 zQ).1,Dm hkk]
 obtain⟨r1,r2⟩:=afu hc hm
 have hB:(val(HZ 4652007308841189376)).natAbs / 2 ^ c≤4611686018427387904:=by subst hc;decide +kernel
 have v2:=oH.2 k1
 have hb:(val(HZ a)).natAbs / 2 ^ c≤4611686018427387904:=Nat.le_trans(Nat.div_le_div_right(by omega))hB
 have hvv:=Dm aBd
 unfold tNn
 rw[xu hc f1 p1 hb,←r1,xu hc r2(by rw[←hvv];exact p1)(by rw[←hvv];exact hb),hvv]
end
end Go.Ev
namespace Go.Proofs.YtefphimaggjihaaGreatDoor.Pi
open Go.Shelf Go.RowKit Go.Gv
open Go.Ev (cn bq dI bT fdiv fI dK jO kL gN lK aL key val isFin cB)
open Hs (gJ yU)
def toV(x:Nat):AV:=cond(bG x)(.aN [zA(lB(cK(dF x))),bA true])(.aN [zA⟨#[]⟩,bA false])
theorem M8(n:Int):aj Tryz.prog 37 [iA n](.f(gJ n)):=aP aB av Tryz.func37(by kernel_rfl)(by kernel_rfl)aA rfl(show ev Tryz.prog [] []aM Tryz.f37 [iA n]ret=some(Out.of(.f(gJ n)))by kernel_rfl)
theorem ai8:key 0=0:=by decide +kernel
theorem ZF {n:Int}(h:n.natAbs≤1000000):aL(gJ n)=false:=by
 obtain⟨c,hc⟩:∃c,c=1074:=⟨_,rfl⟩
 exact Go.Ev.jP(Go.Ev.tV hc h).2
theorem ZG {n:Int}(h:n.natAbs≤1000000):-4652007308841189376≤key(gJ n)∧key(gJ n)≤4652007308841189376:=by
 obtain⟨c,hc⟩:∃c,c=1074:=⟨_,rfl⟩
 have a:=Hs.So.Jk hc(m:=-1000000)(n:=n)(by omega)(by decide)(by omega)
 have b:=Hs.So.Jk hc(m:=n)(n:=1000000)(by omega)(by omega)(by decide)
 have e1:key(gJ(-1000000))=-4652007308841189376:=by decide +kernel
 have e2:key(gJ 1000000)=4652007308841189376:=by decide +kernel
 omega
theorem Jl {n:Int}(h:n.natAbs≤1000000):key(gJ(-n))=- key(gJ n):=by
 obtain⟨c,hc⟩:∃c,c=1074:=⟨_,rfl⟩
 rw[(Go.Ev.tV hc(n:=-n)(by omega)).1,(Go.Ev.tV hc h).1,Int.neg_mul,Go.Ev.VK _(by decide)]
theorem RN {n:Int}(h:n.natAbs≤1000000)(h0:0≤n):0≤key(gJ n):=by
 obtain⟨c,hc⟩:∃c,c=1074:=⟨_,rfl⟩
 have a:=Hs.So.Jk hc(m:=0)(n:=n)h0(by decide)(by omega)
 have e1:key(gJ 0)=0:=by decide +kernel
 omega
def IsT(x:Nat)(n:Int):Prop:=n.natAbs≤1000000∧key(gJ n)=key x
theorem ZH {x:Nat}(hx:aL x=false) {n:Int}(h:n.natAbs≤1000000):dK(gJ n)x=decide(key(gJ n)=key x):=Go.Ev.Ii(ZF h)hx
theorem OW {x:Nat}(h:cB x) {n:Int}(ht:IsT x n):bG x=true∧dF x=n:=aut h ht.1(by rw[ZH(Go.Ev.jP h.fin)ht.1];exact decide_eq_true ht.2)
theorem VW {x:Nat}(h:bG x=true):IsT x(dF x):=by
 obtain⟨a,b⟩:=OX h
 exact⟨a,(Go.Ev.vw b).2.2⟩
theorem adI {a:Nat}(hf:isFin a=true)(h0:0≤key a)(h1:key a≤4652007308841189376)(y:Nat) :
  (∃m:Nat,IsT a m∧toA ru gJ y a=some(Out.of(.aN [zA(lB((if jO y 0 then [45]else [])++dcA m)),bA true])))∨((∀m:Nat,¬IsT a m)∧toA ru gJ y a=Jm):=by
 obtain⟨c,hc⟩:∃c,c=1074:=⟨_,rfl⟩
 obtain⟨_,_,_,⟨n0,n1⟩,hfit⟩:=Go.Ev.ZI hc hf h0 h1
 obtain⟨m,hm⟩:=Int.eq_ofNat_of_zero_le n0
 have hmr:m≤1000000:=by omega
 have e:toA ru gJ y a=cond(!(dK(gJ(m:Nat))a))Jm(toB ru y(m:Nat)):=by
  unfold toA
  rw[hfit,ah(M8 _),hm]
  rfl
 rw[e,ZH(Go.Ev.jP hf)(n:=(m:Int))(by omega)]
 by_cases hk:key(gJ(m:Nat))=key a
 ·exact Or.inl⟨m,⟨by omega,hk⟩,by rw[decide_eq_true hk,aoh y hmr];rfl⟩
 ·refine Or.inr⟨fun m' ht=>hk ?_,by rw[decide_eq_false hk];rfl⟩
  have:=Go.Ev.auu hc hf h0 h1(m:=m')(by have:=ht.1;omega)ht.2
  rw[show m=m' by omega]
  exact ht.2
theorem abE {x:Nat}(h:cB x):aj Tryz.prog 36 [.f x](toV x):=by
 refine aP aB(ak aD(ak aD av))Tryz.func36(by kernel_rfl)(by kernel_rfl)aA rfl((auv ru gJ x).trans ?_)
 have hx:=Go.Ev.jP h.fin
 have n1:aL 13875379345695965184=false:=by decide +kernel
 have n2:aL 4652007308841189376=false:=by decide +kernel
 have n3:aL 0=false:=by decide +kernel
 have c1:key 13875379345695965184=-4652007308841189376:=by decide +kernel
 have c2:key 4652007308841189376=4652007308841189376:=by decide +kernel
 rw[Go.Ev.OY hx n1,Go.Ev.OZ hx n2,Go.Ev.O0 hx n3,c1,c2,ai8]
 have no:bG x=false→Jm=some(Out.of(toV x)):=fun hb=>by unfold toV;rw[hb];rfl
 have yes:bG x=true→some(Out.of(.aN [zA(lB(cK(dF x))),bA true]))=some(Out.of(toV x)):=fun hb=>by unfold toV;rw[hb];rfl
 by_cases hr:-4652007308841189376≤key x∧key x≤4652007308841189376
 ·rw[decide_eq_true hr.1,cond_true,decide_eq_true hr.2]
  by_cases hs:key x<0
  ·rw[decide_eq_true hs]
   obtain⟨fk,fn⟩:=Go.Ev.RO hx
   have ff:isFin(fI x)=true:=Go.Ev.yV(lo:=13875379345695965184)(hi:=4652007308841189376)fn(by omega)(by omega)(by omega)(by omega)
   show toA ru gJ x(fI x)=_
   rcases adI ff(by omega)(by omega)x with⟨m,ht,he⟩ | ⟨hn,he⟩
   ·have ht':IsT x(-(m:Int)):=⟨by have:=ht.1;omega,by rw[Jl ht.1,ht.2,fk];omega⟩
    obtain⟨b1,b2⟩:=OW h ht'
    rw[he,←yes b1,b2,Go.Ev.O0 hx n3,ai8,decide_eq_true hs,if_pos rfl]
    have hm0:m≠0:=by
     intro e0
     subst e0
     have e1:key(gJ 0)=0:=by decide +kernel
     have:=ht.2
     have:key(gJ 0)=key(fI x):=this
     omega
    unfold cK
    rw[if_pos(by omega),show(-(m:Int)).natAbs=m by omega]
   ·rw[he]
    apply no
    cases hb:bG x
    ·rfl
    ·have ht:=VW hb
     by_cases hn0:0≤dF x
     ·have:=RN ht.1 hn0
      have:=ht.2
      omega
     ·exact absurd(show IsT(fI x)((dF x).natAbs:Nat)from⟨by have:=ht.1;omega,by rw[show(((dF x).natAbs:Nat):Int)=-(dF x)by omega,Jl ht.1,ht.2,fk]⟩)(hn _)
  ·rw[decide_eq_false hs]
   show toA ru gJ x x=_
   rcases adI h.fin(by omega)hr.2 x with⟨m,ht,he⟩ | ⟨hn,he⟩
   ·obtain⟨b1,b2⟩:=OW h ht
    rw[he,←yes b1,b2,Go.Ev.O0 hx n3,ai8,decide_eq_false hs,if_neg(by decide)]
    unfold cK
    rw[if_neg(by omega),Int.natAbs_natCast]
   ·rw[he]
    apply no
    cases hb:bG x
    ·rfl
    ·have ht:=VW hb
     by_cases hn0:0≤dF x
     ·obtain⟨k,hk⟩:=Int.eq_ofNat_of_zero_le hn0
      rw[hk]at ht
      exact absurd ht(hn k)
     ·have a:=RN(n:=-(dF x))(by have:=ht.1;omega)(by omega)
      rw[Jl ht.1]at a
      have kz:key x=0:=by have:=ht.2;omega
      have:IsT x 0:=⟨by decide,by rw[kz];decide +kernel⟩
      exact absurd this(hn 0)
 ·have hb:bG x=false:=by
   cases hb:bG x
   ·rfl
   ·have ht:=VW hb
    have:=ZG ht.1
    have:=ht.2
    omega
  rw[←no hb]
  by_cases h1:-4652007308841189376≤key x
  ·rw[decide_eq_true h1,cond_true,decide_eq_false(by omega)];rfl
  ·rw[decide_eq_false h1];rfl
end Go.Proofs.YtefphimaggjihaaGreatDoor.Pi
namespace Go.Proofs.YtefphimaggjihaaGreatDoor.Pi
open Go.Shelf Go.RowKit Go.Gv
def gTo(ts:Nat→ByteArray)(tb:Nat→Bool):List AV→AV
 | [.f w]=>.aN [zA(ts w),bA(tb w)]
 |_=>.any
def VD:ByteArray:=⟨#[32]⟩
section
variable(ts:Nat→ByteArray)(tb:Nat→Bool)(dd:Int→ByteArray)
def FTo(x:Nat):Prop:=aj Tryz.prog 36 [.f x](.aN [zA(ts x),bA(tb x)])
def taS(x:Nat)(s:ByteArray)(K:ByteArray→Option Out):Option Out:=gate(FTo ts tb x)(cond(!(tb x))Jm(cond(mq s VD||false)(cond(mq(s++VD)(ts x)||false)(K((s++VD)++ts x))none)none))
def taE(s:ByteArray):Option Out:=some(Out.of(.aN [zA s,bA true]))
theorem aqK(x:Nat):ev Tryz.prog [] [kS Tryz.prog 36(gTo ts tb)]aM Tryz.f34 [Zn [x]]ret=taS ts tb x⟨#[]⟩taE:=by kernel_rfl
theorem aqL(x y z:Nat):ev Tryz.prog [] [kS Tryz.prog 36(gTo ts tb)]aM Tryz.f34 [Zn [x,y,z]]ret=taS ts tb x⟨#[]⟩fun s=>taS ts tb y s fun s=>taS ts tb z s taE:=by kernel_rfl
theorem aep(k:Int):ev Tryz.prog [] [kS Tryz.prog 23(gDd dd)]aM Tryz.f39 [iA k]ret=gate(VE dd k)(cond(mq⟨#[32,115]⟩(dd k)||false)(cond(mq(⟨#[32,115]⟩++dd k)⟨#[32,59,10]⟩||false)(some(Out.of(zA((⟨#[32,115]⟩++dd k)++⟨#[32,59,10]⟩))))none)none):=by kernel_rfl
end
open Go.Ev (cB)
def KT(x:Nat):ByteArray:=cond(bG x)(lB(cK(dF x)))⟨#[]⟩
theorem aaL {x:Nat}(h:cB x):FTo KT bG x:=by
 have:=abE h
 unfold FTo KT
 unfold toV at this
 cases hb:bG x
 ·rw[hb]at this;exact this
 ·rw[hb]at this;exact this
def qd(xs:List Nat):List UInt8:=tks true(xs.map fun x=>cK(dF x))
theorem agx(x:Nat)(xs:List Nat):qd(x::xs)=32::(cK(dF x)++qd xs):=rfl
theorem Qp {x:Nat}(h:cB x) {l:List UInt8}(hl:l.length≤1000)(K:ByteArray→Option Out):taS KT bG x(lB l)K=cond(bG x)(K(lB(l++(32::cK(dF x)))))Jm:=by
 unfold taS
 rw[ah(aaL h)]
 cases hb:bG x
 ·rfl
 ·have e:KT x=lB(cK(dF x)):=by unfold KT;rw[hb];rfl
  have hd:=(zk _(Nat.le_trans(qp x)(by decide))).2
  rw[e,show VD=lB [32]from rfl,kW(by rw[aY,aY];show _+1≤_;omega),gZ,kW(by rw[aY,aY,List.length_append];show _+1+_≤_;omega),gZ,List.append_assoc]
  rfl
def taV(ok:Bool)(l:List UInt8):AV:=cond ok(.aN [zA(lB l),bA true])(.aN [zA(lB []),bA false])
theorem agy {x:Nat}(h:cB x):aj Tryz.prog 34 [Zn [x]](taV(bG x)(qd [x])):=by
 refine aP aB(ak aD av)Tryz.func34(by kernel_rfl)(by kernel_rfl)aA rfl((aqK KT bG x).trans ?_)
 rw[show(⟨#[]⟩:ByteArray)=lB []from rfl,Qp h(by simp)]
 have e:qd [x]=32::cK(dF x):=by rw[agx];show 32::(cK(dF x)++[])=_;rw[List.append_nil]
 rw[e]
 cases bG x<;>rfl
theorem agz {x y z:Nat}(hx:cB x)(hy:cB y)(hz:cB z):aj Tryz.prog 34 [Zn [x,y,z]](taV(bG x&&(bG y&&bG z))(qd [x,y,z])):=by
 refine aP aB(ak aD av)Tryz.func34(by kernel_rfl)(by kernel_rfl)aA rfl((aqL KT bG x y z).trans ?_)
 have dx:=(zk _(Nat.le_trans(qp x)(by decide))).2
 have dy:=(zk _(Nat.le_trans(qp y)(by decide))).2
 rw[show(⟨#[]⟩:ByteArray)=lB []from rfl,Qp hx(by simp)]
 cases bG x
 ·rfl
 ·rw[cond_true,Qp hy(by simp;omega)]
  cases bG y
  ·rfl
  ·rw[cond_true,Qp hz(by simp;omega)]
   have e:qd [x,y,z]=(([]++(32::cK(dF x)))++(32::cK(dF y)))++(32::cK(dF z)):=by simp[qd,tks]
   rw[e]
   cases bG z<;>rfl
def uI(k:Int):List UInt8:=[32,115]++(Lib.itoa k++[32,59,10])
theorem ak1 {k:Int}(h0:0≤k)(h1:k<100000000):aj Tryz.prog 39 [iA k](zA(lB(uI k))):=by
 refine aP aB(ak aD av)Tryz.func39(by kernel_rfl)(by kernel_rfl)aA rfl((aep ru k).trans ?_)
 have hd:VE ru k:=sK h0 h1
 have hl:=(lu h0 h1).2
 rw[ah hd,show(⟨#[32,115]⟩:ByteArray)=lB [32,115]from rfl,show(⟨#[32,59,10]⟩:ByteArray)=lB [32,59,10]from rfl,show ru k=lB(Lib.itoa k)from rfl,kW(by rw[aY,aY];show 2+_≤_;omega),gZ,kW(by rw[aY,aY,List.length_append];show 2+_+3≤_;omega),gZ,List.append_assoc]
 rfl
theorem IV(k:Int):iD true [oM k]=uI k:=by simp[iD,tks,uI,oM]
end Go.Proofs.YtefphimaggjihaaGreatDoor.Pi
namespace Go.Proofs.YtefphimaggjihaaGreatDoor.Pi
open Go.Shelf Go.RowKit Go.Gv
section
variable(x y z:Nat)(s:ByteArray)(b:Bool)
theorem at7:evM Tryz.prog [] [kS Tryz.prog 34(fun _=>.aN [zA s,bA b])] [born 88]aM Tryz.f33 [.agg [.f x,.f y,.f z]]ret=gate(aj Tryz.prog 34 [Zn [x,y,z]](.aN [zA s,bA b]))(some(Out.of(.aN [zA s,bA b]))):=by kernel_rfl
end
section
variable(dd:Int→ByteArray)(a b c:Int)
def tw1:ByteArray:=VD++dd a
def tw2:ByteArray:=tw1 dd a++VD
def tw3:ByteArray:=tw2 dd a++dd b
def tw4:ByteArray:=tw3 dd a b++VD
def tw5:ByteArray:=tw4 dd a b++dd c
def twB:Bool:=((mq VD(dd a)||false)&&((mq(tw1 dd a)VD||false)&&((mq(tw2 dd a)(dd b)||false)&&((mq(tw3 dd a b)VD||false)&&((mq(tw4 dd a b)(dd c)||false)&&true)))))
theorem avv:ev Tryz.prog [] [kS Tryz.prog 23(gDd dd)]aM Tryz.f35 [.agg [iA a,iA b,iA c]]ret=gate(VE dd a)(gate(VE dd b)(gate(VE dd c)(cond(twB dd a b c)(some(Out.of(zA(tw5 dd a b c))))none))):=by kernel_rfl
end
open Go.Ev (cB)
theorem QN(ok:Bool)(l:List UInt8):taV ok l=.aN [zA(lB(cond ok l [])),bA ok]:=by cases ok<;>rfl
theorem alR {x y z:Nat}(hx:cB x)(hy:cB y)(hz:cB z):aj Tryz.prog 33 [.agg [.f x,.f y,.f z]](taV(bG x&&(bG y&&bG z))(qd [x,y,z])):=by
 have h:=agz hx hy hz
 rw[QN]at h ⊢
 exact qz aB(ak aD av)(jl(iK _)bO)Tryz.func33(by kernel_rfl)(by kernel_rfl)aA rfl((at7 x y z _ _).trans(ah h))
theorem alS {f:Nat→Int}(h:∀q,q<3→0≤f q∧f q≤65536):aj Tryz.prog 35 [.agg [iA(f 0),iA(f 1),iA(f 2)]](zA(lB(tks true(Bz f)))):=by
 have a0:=h 0(by decide)
 have a1:=h 1(by decide)
 have a2:=h 2(by decide)
 refine aP aB(ak aD av)Tryz.func35(by kernel_rfl)(by kernel_rfl)aA rfl((avv ru(f 0)(f 1)(f 2)).trans ?_)
 have h0:VE ru(f 0):=sK a0.1(by omega)
 have h1:VE ru(f 1):=sK a1.1(by omega)
 have h2:VE ru(f 2):=sK a2.1(by omega)
 have l0:=(lu(n:=f 0)a0.1(by omega)).2
 have l1:=(lu(n:=f 1)a1.1(by omega)).2
 have l2:=(lu(n:=f 2)a2.1(by omega)).2
 have e0:VD=lB [32]:=rfl
 have d0:ru(f 0)=lB(Lib.itoa(f 0)):=rfl
 have d1:ru(f 1)=lB(Lib.itoa(f 1)):=rfl
 have d2:ru(f 2)=lB(Lib.itoa(f 2)):=rfl
 have t1:tw1 ru(f 0)=lB([32]++Lib.itoa(f 0)):=by unfold tw1;rw[e0,d0,gZ]
 have t2:tw2 ru(f 0)=lB(([32]++Lib.itoa(f 0))++[32]):=by unfold tw2;rw[t1,e0,gZ]
 have t3:tw3 ru(f 0)(f 1)=lB((([32]++Lib.itoa(f 0))++[32])++Lib.itoa(f 1)):=by unfold tw3;rw[t2,d1,gZ]
 have t4:tw4 ru(f 0)(f 1)=lB(((([32]++Lib.itoa(f 0))++[32])++Lib.itoa(f 1))++[32]):=by unfold tw4;rw[t3,e0,gZ]
 have t5:tw5 ru(f 0)(f 1)(f 2)=lB(tks true(Bz f)):=by unfold tw5;rw[t4,d2,gZ];congr 1;simp[tks,Bz]
 have hB:twB ru(f 0)(f 1)(f 2)=true:=by
  unfold twB
  rw[t1,t2,t3,t4,e0,d0,d1,d2,kW(by rw[aY,aY];simp;omega),kW(by rw[aY,aY];simp;omega),kW(by rw[aY,aY];simp;omega),kW(by rw[aY,aY];simp;omega),kW(by rw[aY,aY];simp;omega)]
  rfl
 rw[ah h0,ah h1,ah h2,hB,t5]
 rfl
end Go.Proofs.YtefphimaggjihaaGreatDoor.Pi
namespace Go.Proofs.YtefphimaggjihaaGreatDoor.Pi
open Go.Shelf Go.RowKit Go.Gv Hs
open Go.Ev (dK)
def gTv(vs:Nat→Nat→Nat→ByteArray)(vb:Nat→Nat→Nat→Bool):List AV→AV
 | [.agg [.f x,.f y,.f z]]=>.aN [zA(vs x y z),bA(vb x y z)]
 |_=>.any
def gT1(ws:Nat→ByteArray)(wb:Nat→Bool):List AV→AV
 | [.sl _ _ el]=>match el 0 with
  | [.f x]=>.aN [zA(ws x),bA(wb x)]
  |_=>.any
 |_=>.any
def YC:ByteArray→List ByteArray→Bool
 |_,[]=>true
 |s,t::r=>(mq s t||false)&&YC(s++t)r
def apL:ByteArray→List ByteArray→ByteArray
 |s,[]=>s
 |s,t::r=>apL(s++t)r
section
variable(vs:Nat→Nat→Nat→ByteArray)(vb:Nat→Nat→Nat→Bool)(ws:Nat→ByteArray)(wb:Nat→Bool)(a:Nat→Nat)(sk:Int)
def Qg(i:Nat):Prop:=aj Tryz.prog 33 [.agg [.f(a i),.f(a(i+1)),.f(a(i+2))]](.aN [zA(vs(a i)(a(i+1))(a(i+2))),bA(vb(a i)(a(i+1))(a(i+2)))])
def FT1(i:Nat):Prop:=aj Tryz.prog 34 [Zn [a i]](.aN [zA(ws(a i)),bA(wb(a i))])
def Ou(i:Nat):Bool:=jv(a i)(a(i+1))(a(i+2))
def vS(i:Nat):ByteArray:=vs(a i)(a(i+1))(a(i+2))
def vK(i:Nat):Bool:=vb(a i)(a(i+1))(a(i+2))
def tfX(o:Option Out):Option Out:=gate(Qg vs vb a 0)(gate(Qg vs vb a 3)(gate(Qg vs vb a 6)(gate(FT1 ws wb a 9)(gate(FT1 ws wb a 10)
 (cond(cond(cond(cond(cond(!(vK vb a 0))true(!(vK vb a 3)))true(!(vK vb a 6)))true(!(wb(a 9))))true(!(wb(a 10))))Jm o)))))
def tfK:List aV:=[kS Tryz.prog 33(gTv vs vb),kS Tryz.prog 34(gT1 ws wb)]
def tfP(b:Bool):ByteArray→List ByteArray→Option Out
 |s,[]=>some(Out.of(.aN [zA s,bA b]))
 |s,t::r=>cond(mq s t||false)(tfP b(s++t)r)none
def tfO(s:ByteArray)(l:List ByteArray)(b:Bool):Option Out:=cond(YC s l)(some(Out.of(.aN [zA(apL s l),bA b])))none
theorem asv:evM Tryz.prog [⟨96,eV fun a b c=>bA(jv a b c)⟩](tfK vs vb ws wb) [born 88]aM Tryz.f38 [.agg(fC 1 a sk)]ret =
 tfX vs vb ws wb a(tfO⟨#[98,97,108,108]⟩ [vS vs a 0,⟨#[32,114,97,100,105,117,115]⟩,ws(a 9)](cond(cond(Ou a 3)(Ou a 6)false)(dK(a 10)0)false)):=by kernel_rfl
theorem asw:evM Tryz.prog [⟨96,eV fun a b c=>bA(jv a b c)⟩](tfK vs vb ws wb) [born 88]aM Tryz.f38 [.agg(fC 2 a sk)]ret =
 tfX vs vb ws wb a(tfO⟨#[98,108,111,99,107]⟩ [vS vs a 0,⟨#[32,116,111]⟩,vS vs a 3](cond(cond(Ou a 6)(dK(a 9)0)false)(dK(a 10)0)false)):=by kernel_rfl
theorem asx:evM Tryz.prog [⟨96,eV fun a b c=>bA(jv a b c)⟩](tfK vs vb ws wb) [born 88]aM Tryz.f38 [.agg(fC 3 a sk)]ret =
 tfX vs vb ws wb a(tfO⟨#[116,114,105]⟩ [vS vs a 0,⟨#[32,44]⟩,vS vs a 3,⟨#[32,44]⟩,vS vs a 6](cond(dK(a 9)0)(dK(a 10)0)false)):=by kernel_rfl
theorem asy:evM Tryz.prog [⟨96,eV fun a b c=>bA(jv a b c)⟩](tfK vs vb ws wb) [born 88]aM Tryz.f38 [.agg(fC 4 a sk)]ret =
 tfX vs vb ws wb a(tfO⟨#[112,108,97,116,101]⟩ [vS vs a 0,⟨#[32,117,112]⟩,vS vs a 3,⟨#[32,114,97,100,105,117,115]⟩,ws(a 9)](cond(Ou a 6)(dK(a 10)0)false)):=by kernel_rfl
theorem asz:evM Tryz.prog [⟨96,eV fun a b c=>bA(jv a b c)⟩](tfK vs vb ws wb) [born 88]aM Tryz.f38 [.agg(fC 5 a sk)]ret =
 tfX vs vb ws wb a(tfO⟨#[116,117,98,101]⟩ [vS vs a 0,⟨#[32,97,108,111,110,103]⟩,vS vs a 3,⟨#[32,114,97,100,105,117,115]⟩,ws(a 9)](cond(Ou a 6)(dK(a 10)0)false)):=by kernel_rfl
theorem asA:evM Tryz.prog [⟨96,eV fun a b c=>bA(jv a b c)⟩](tfK vs vb ws wb) [born 88]aM Tryz.f38 [.agg(fC 6 a sk)]ret =
 tfX vs vb ws wb a(tfP(Ou a 6)⟨#[114,105,110,103]⟩ [vS vs a 0,⟨#[32,117,112]⟩,vS vs a 3,⟨#[32,114,97,100,105,117,115]⟩,ws(a 9),ws(a 10)]):=by kernel_rfl
end
end Go.Proofs.YtefphimaggjihaaGreatDoor.Pi
namespace Go.Proofs.YtefphimaggjihaaGreatDoor.Pi
open Go.Shelf Go.RowKit Go.Gv Hs
open Go.Ev (dK aL key cB)
theorem Gj:∀(l:List UInt8)(r:List(List UInt8)),apL(lB l)(r.map lB)=lB(l++r.flatten)
 |l,[]=>by simp[apL]
 |l,t::r=>by
  show apL(lB l++lB t)(r.map lB)=_
  rw[gZ,Gj(l++t)r,List.flatten_cons,List.append_assoc]
theorem I7:∀(l:List UInt8)(r:List(List UInt8)),l.length+r.flatten.length≤1000000000→YC(lB l)(r.map lB)=true
 |_,[],_=>rfl
 |l,t::r,h=>by
  rw[List.flatten_cons,List.length_append]at h
  show((mq(lB l)(lB t)||false)&&YC(lB l++lB t)(r.map lB))=true
  rw[kW(by rw[aY,aY];omega),gZ,I7(l++t)r(by rw[List.length_append];omega)]
  rfl
theorem LG {l:List UInt8}{r:List(List UInt8)}(h:l.length+r.flatten.length≤1000000000)(b:Bool):tfO(lB l)(r.map lB)b=some(Out.of(.aN [zA(lB(l++r.flatten)),bA b])):=by
 unfold tfO
 rw[I7 l r h,Gj]
 rfl
theorem ahR(b:Bool):∀(l:List UInt8)(r:List(List UInt8)),l.length+r.flatten.length≤1000000000→tfP b(lB l)(r.map lB)=some(Out.of(.aN [zA(lB(l++r.flatten)),bA b]))
 |l,[],_=>by simp[tfP]
 |l,t::r,h=>by
  rw[List.flatten_cons,List.length_append]at h
  show cond(mq(lB l)(lB t)||false)(tfP b(lB l++lB t)(r.map lB))none=_
  rw[kW(by rw[aY,aY];omega),gZ,ahR b(l++t)r(by rw[List.length_append];omega),List.flatten_cons,List.append_assoc]
  rfl
theorem sZ {x:Nat}(h:cB x):aL x=false:=Go.Ev.jP h.fin
theorem Db {x:Nat}(h:cB x):dK x x=true:=by rw[Go.Ev.afL,sZ h];rfl
theorem EZ {x:Nat}(h:cB x):dK 0 x=dK x 0:=by
 have n0:aL 0=false:=by decide +kernel
 rw[Go.Ev.Ii n0(sZ h),Go.Ev.Ii(sZ h)n0]
 by_cases hk:key 0=key x
 ·rw[decide_eq_true hk,decide_eq_true hk.symm]
 ·rw[decide_eq_false hk,decide_eq_false fun e=>hk e.symm]
theorem Q9 {x:Nat}(h:cB x)(h0:dK x 0=true):bG x=true:=by
 obtain⟨_,_,hk⟩:=Go.Ev.vw h0
 exact(OW(n:=0)h⟨by decide,by rw[hk,ai8];decide +kernel⟩).1
def uU(x y z:Nat):Bool:=bG x&&(bG y&&bG z)
def sH(x y z:Nat):ByteArray:=lB(cond(uU x y z)(qd [x,y,z]) [])
def LC(x:Nat):ByteArray:=lB(cond(bG x)(qd [x]) [])
def vX(a:Nat→Nat)(i:Nat):Bool:=uU(a i)(a(i+1))(a(i+2))
def allT(a:Nat→Nat):Bool:=vX a 0&&(vX a 3&&(vX a 6&&(bG(a 9)&&bG(a 10))))
section
variable {a:Nat→Nat}
theorem Ua {x y z:Nat}(hx:cB x)(hy:cB y)(hz:cB z):aj Tryz.prog 33 [.agg [.f x,.f y,.f z]](.aN [zA(sH x y z),bA(uU x y z)]):=by
 have h:=alR hx hy hz
 rw[QN]at h
 exact h
theorem asu {x:Nat}(hx:cB x):aj Tryz.prog 34 [Zn [x]](.aN [zA(LC x),bA(bG x)]):=by
 have h:=agy hx
 rw[QN]at h
 exact h
theorem Gp(h:∀i,i<11→cB(a i))(o:Option Out):tfX sH uU LC bG a o=cond(allT a)o Jm:=by
 unfold tfX
 rw[ah(show Qg sH uU a 0 from Ua(h 0(by decide))(h 1(by decide))(h 2(by decide))),ah(show Qg sH uU a 3 from Ua(h 3(by decide))(h 4(by decide))(h 5(by decide))),ah(show Qg sH uU a 6 from Ua(h 6(by decide))(h 7(by decide))(h 8(by decide))),
  ah(show FT1 LC bG a 9 from asu(h 9(by decide))),ah(show FT1 LC bG a 10 from asu(h 10(by decide)))]
 unfold allT
 show cond(cond(cond(cond(cond(!(vX a 0))true(!(vX a 3)))true(!(vX a 6)))true(!(bG(a 9))))true(!(bG(a 10))))Jm o=_
 cases vX a 0<;>cases vX a 3<;>cases vX a 6<;>cases bG(a 9)<;>cases bG(a 10)<;>rfl
theorem Ot {p q r s t:Bool}(h:(p&&(q&&(r&&(s&&t))))=true):p=true∧q=true∧r=true∧s=true∧t=true:=by
 revert h;cases p<;>cases q<;>cases r<;>cases s<;>cases t<;>simp
theorem BJ {i:Nat}(h:vX a i=true):vS sH a i=lB(qd [a i,a(i+1),a(i+2)]):=by
 show lB(cond(vX a i)_ _)=_
 rw[h];rfl
theorem ac2 {x:Nat}(h:bG x=true):LC x=lB(qd [x]):=by unfold LC;rw[h];rfl
theorem nW(i:Nat):vB bG a i=!(vX a i):=by
 show(!(bG(a i))||(!(bG(a(i+1)))||!(bG(a(i+2)))))=!(bG(a i)&&(bG(a(i+1))&&bG(a(i+2))))
 cases bG(a i)<;>cases bG(a(i+1))<;>cases bG(a(i+2))<;>rfl
theorem vg {t:Nat→Nat}{i:Nat}(h0:cB(a i))(h1:cB(a(i+1)))(h2:cB(a(i+2)))(e0:t i=a i)(e1:t(i+1)=a(i+1))(e2:t(i+2)=a(i+2)):Fw t a i=true:=by
 unfold Fw
 rw[e0,e1,e2,Db h0,Db h1,Db h2]
 rfl
theorem LD {t:Nat→Nat}{i:Nat}(h0:cB(a i))(h1:cB(a(i+1)))(h2:cB(a(i+2)))(e0:t i=0)(e1:t(i+1)=0)(e2:t(i+2)=0):Fw t a i=Ou a i:=by
 unfold Fw Ou jv
 rw[e0,e1,e2,EZ h0,EZ h1,EZ h2]
 cases dK(a i)0<;>cases dK(a(i+1))0<;>cases dK(a(i+2))0<;>rfl
theorem Vf {i:Nat}(h0:cB(a i))(h1:cB(a(i+1)))(h2:cB(a(i+2)))(h:Ou a i=true):vX a i=true:=by
 unfold Ou jv at h
 unfold vX uU
 cases c0:dK(a i)0
 ·rw[c0]at h;cases h
 ·cases c1:dK(a(i+1))0
  ·rw[c0,c1]at h;cases h
  ·cases c2:dK(a(i+2))0
   ·rw[c0,c1,c2]at h;cases h
   ·rw[Q9 h0 c0,Q9 h1 c1,Q9 h2 c2];rfl
theorem Aj {p q:Bool}(h:p=true→q=true):(!p||q)=true:=by
 cases p
 ·rfl
 ·rw[h rfl];rfl
theorem o1:∀v0 v3 v6 b9 b10 n3 n6 YT:Bool,(!n3||v3)=true→(!n6||v6)=true→(!YT||b10)=true→(!(!v0||(!b9||!(true&&(true&&(n3&&(n6&&(true&&(YT&&(true&&true))))))))))=((v0&&(v3&&(v6&&(b9&&b10))))&&cond(cond n3 n6 false)YT false):=by decide
theorem o2:∀v0 v3 v6 b9 b10 n6 z9 YT:Bool,(!n6||v6)=true→(!z9||b9)=true→(!YT||b10)=true→(!(!v0||(!v3||!(true&&(true&&(true&&(n6&&(z9&&(YT&&(true&&true))))))))))=((v0&&(v3&&(v6&&(b9&&b10))))&&cond(cond n6 z9 false)YT false):=by decide
theorem o3:∀v0 v3 v6 b9 b10 z9 YT:Bool,(!z9||b9)=true→(!YT||b10)=true→(!(!v0||(!v3||(!v6||!(true&&(true&&(true&&(true&&(z9&&(YT&&(true&&true)))))))))))=((v0&&(v3&&(v6&&(b9&&b10))))&&cond z9 YT false):=by decide
theorem o4:∀v0 v3 v6 b9 b10 n6 YT:Bool,(!n6||v6)=true→(!YT||b10)=true→(!((!v0||(!v3||!b9))||!(true&&(true&&(true&&(n6&&(true&&(YT&&(true&&true)))))))))=((v0&&(v3&&(v6&&(b9&&b10))))&&cond n6 YT false):=by decide
theorem o6:∀v0 v3 v6 b9 b10 n6:Bool,(!n6||v6)=true→(!((!v0||(!v3||!b9))||(!b10||!(true&&(true&&(true&&(n6&&(true&&(true&&(true&&true))))))))))=((v0&&(v3&&(v6&&(b9&&b10))))&&n6):=by decide
theorem CS(k:Int):(k==k)=true:=BEq.rfl
section
variable(h:∀i,i<11→cB(a i))(sk:Int)
include h
theorem oq1:(!(VX bG a sk))=(allT a&&cond(cond(Ou a 3)(Ou a 6)false)(dK(a 10)0)false):=by
 have e0:Fw(t1 a)a 0=true:=vg(h 0(by decide))(h 1(by decide))(h 2(by decide))rfl rfl rfl
 have e3:Fw(t1 a)a 3=Ou a 3:=LD(h 3(by decide))(h 4(by decide))(h 5(by decide))rfl rfl rfl
 have e6:Fw(t1 a)a 6=Ou a 6:=LD(h 6(by decide))(h 7(by decide))(h 8(by decide))rfl rfl rfl
 unfold VX cZ allT
 rw[e0,e3,e6,show t1 a 9=a 9 from rfl,show t1 a 10=0 from rfl,Db(h 9(by decide)),EZ(h 10(by decide)),CS,CS,nW]
 exact o1 _ _ _ _ _ _ _ _(Aj(Vf(h 3(by decide))(h 4(by decide))(h 5(by decide))))(Aj(Vf(h 6(by decide))(h 7(by decide))(h 8(by decide))))(Aj(Q9(h 10(by decide))))
theorem oq2:(!(VY bG a sk))=(allT a&&cond(cond(Ou a 6)(dK(a 9)0)false)(dK(a 10)0)false):=by
 have e0:Fw(t2 a)a 0=true:=vg(h 0(by decide))(h 1(by decide))(h 2(by decide))rfl rfl rfl
 have e3:Fw(t2 a)a 3=true:=vg(h 3(by decide))(h 4(by decide))(h 5(by decide))rfl rfl rfl
 have e6:Fw(t2 a)a 6=Ou a 6:=LD(h 6(by decide))(h 7(by decide))(h 8(by decide))rfl rfl rfl
 unfold VY cZ allT
 rw[e0,e3,e6,show t2 a 9=0 from rfl,show t2 a 10=0 from rfl,EZ(h 9(by decide)),EZ(h 10(by decide)),CS,CS,nW,nW]
 exact o2 _ _ _ _ _ _ _ _(Aj(Vf(h 6(by decide))(h 7(by decide))(h 8(by decide))))(Aj(Q9(h 9(by decide))))(Aj(Q9(h 10(by decide))))
theorem oq3:(!(VZ bG a sk))=(allT a&&cond(dK(a 9)0)(dK(a 10)0)false):=by
 have e0:Fw(t3 a)a 0=true:=vg(h 0(by decide))(h 1(by decide))(h 2(by decide))rfl rfl rfl
 have e3:Fw(t3 a)a 3=true:=vg(h 3(by decide))(h 4(by decide))(h 5(by decide))rfl rfl rfl
 have e6:Fw(t3 a)a 6=true:=vg(h 6(by decide))(h 7(by decide))(h 8(by decide))rfl rfl rfl
 unfold VZ cZ allT
 rw[e0,e3,e6,show t3 a 9=0 from rfl,show t3 a 10=0 from rfl,EZ(h 9(by decide)),EZ(h 10(by decide)),CS,CS,nW,nW,nW]
 exact o3 _ _ _ _ _ _ _(Aj(Q9(h 9(by decide))))(Aj(Q9(h 10(by decide))))
theorem oq4(k:Int):(!((vB bG a 0||(vB bG a 3||!(bG(a 9))))||!(cZ k(t4 a)a sk)))=(allT a&&cond(Ou a 6)(dK(a 10)0)false):=by
 have e0:Fw(t4 a)a 0=true:=vg(h 0(by decide))(h 1(by decide))(h 2(by decide))rfl rfl rfl
 have e3:Fw(t4 a)a 3=true:=vg(h 3(by decide))(h 4(by decide))(h 5(by decide))rfl rfl rfl
 have e6:Fw(t4 a)a 6=Ou a 6:=LD(h 6(by decide))(h 7(by decide))(h 8(by decide))rfl rfl rfl
 unfold cZ allT
 rw[e0,e3,e6,show t4 a 9=a 9 from rfl,show t4 a 10=0 from rfl,Db(h 9(by decide)),EZ(h 10(by decide)),CS,CS,nW,nW]
 exact o4 _ _ _ _ _ _ _(Aj(Vf(h 6(by decide))(h 7(by decide))(h 8(by decide))))(Aj(Q9(h 10(by decide))))
theorem oq6:(!(Wi bG a sk))=(allT a&&Ou a 6):=by
 have e0:Fw(t6 a)a 0=true:=vg(h 0(by decide))(h 1(by decide))(h 2(by decide))rfl rfl rfl
 have e3:Fw(t6 a)a 3=true:=vg(h 3(by decide))(h 4(by decide))(h 5(by decide))rfl rfl rfl
 have e6:Fw(t6 a)a 6=Ou a 6:=LD(h 6(by decide))(h 7(by decide))(h 8(by decide))rfl rfl rfl
 unfold Wi cZ allT
 rw[e0,e3,e6,show t6 a 9=a 9 from rfl,show t6 a 10=a 10 from rfl,Db(h 9(by decide)),Db(h 10(by decide)),CS,CS,nW,nW]
 exact o6 _ _ _ _ _ _(Aj(Vf(h 6(by decide))(h 7(by decide))(h 8(by decide))))
end
def tfV(k:Int)(a:Nat→Nat)(sk:Int):AV:=.aN [zA(lB(cond(allT a)(tks false(yE cK dF k a)) [])),bA(!(Di bG k a sk))]
theorem Gq {k:Int}{sk:Int}{b:Bool}{o:Option Out}(hb:(!(Di bG k a sk))=(allT a&&b))(l:List UInt8)(r:List(List UInt8))(he:l++r.flatten=tks false(yE cK dF k a))(ho:allT a=true→l.length+r.flatten.length≤1000000000→o=some(Out.of(.aN [zA(lB(l++r.flatten)),bA b]))):cond(allT a)o Jm=some(Out.of(tfV k a sk)):=by
 unfold tfV
 have hl:=jX false(DI k a)
 rw[←he,List.length_append]at hl
 rw[hb]
 cases h:allT a
 ·rfl
 ·rw[cond_true,ho h(by omega),he];rfl
theorem NA {k:Int}(sk:Int)(hk:1≤k∧k≤6)(h:∀i,i<11→cB(a i)):aj Tryz.prog 38 [.agg(fC k a sk)](tfV k a sk):=by
 have hE:∀e,e∈[(⟨96,eV fun a b c=>bA(jv a b c)⟩:Entry)]→lg Tryz.prog e:=bn(tZ O4)aB
 have hK:∀e,e∈tfK sH uU LC bG→tX Tryz.prog e:=ak aD(ak aD av)
 have sp3:∀x y z,qd [x,y,z]=tks true [Jy cK dF x,Jy cK dF y,Jy cK dF z]:=fun _ _ _=>rfl
 have sp1:∀x,qd [x]=tks true [Jy cK dF x]:=fun _=>rfl
 rcases(show k=1∨k=2∨k=3∨k=4∨k=5∨k=6 by omega)with rfl |rfl |rfl |rfl |rfl |rfl
 ·refine qz hE hK(jl(iK _)bO)Tryz.func38(by kernel_rfl)(by kernel_rfl)aA rfl((asv sH uU LC bG a sk).trans ?_)
  rw[Gp h]
  refine Gq(oq1 h sk) [98,97,108,108] [qd [a 0,a 1,a 2],[32,114,97,100,105,117,115],qd [a 9]](by rw[sp3,sp1];simp[yE,aeO,vT,L6])fun hA hl=>?_
  obtain⟨a1,a2,a3,a4,a5⟩:=Ot hA
  rw[BJ a1,ac2 a4]
  exact LG hl _
 ·refine qz hE hK(jl(iK _)bO)Tryz.func38(by kernel_rfl)(by kernel_rfl)aA rfl((asw sH uU LC bG a sk).trans ?_)
  rw[Gp h]
  refine Gq(oq2 h sk) [98,108,111,99,107] [qd [a 0,a 1,a 2],[32,116,111],qd [a 3,a 4,a 5]](by rw[sp3,sp3];simp[yE,aeP,vT])fun hA hl=>?_
  obtain⟨a1,a2,a3,a4,a5⟩:=Ot hA
  rw[BJ a1,BJ a2]
  exact LG hl _
 ·refine qz hE hK(jl(iK _)bO)Tryz.func38(by kernel_rfl)(by kernel_rfl)aA rfl((asx sH uU LC bG a sk).trans ?_)
  rw[Gp h]
  refine Gq(oq3 h sk) [116,114,105] [qd [a 0,a 1,a 2],[32,44],qd [a 3,a 4,a 5],[32,44],qd [a 6,a 7,a 8]](by rw[sp3,sp3,sp3];simp[yE,aeQ,vT])fun hA hl=>?_
  obtain⟨a1,a2,a3,a4,a5⟩:=Ot hA
  rw[BJ a1,BJ a2,BJ a3]
  exact LG hl _
 ·refine qz hE hK(jl(iK _)bO)Tryz.func38(by kernel_rfl)(by kernel_rfl)aA rfl((asy sH uU LC bG a sk).trans ?_)
  rw[Gp h]
  refine Gq(oq4 h sk 4) [112,108,97,116,101] [qd [a 0,a 1,a 2],[32,117,112],qd [a 3,a 4,a 5],[32,114,97,100,105,117,115],qd [a 9]](by rw[sp3,sp3,sp1];simp[yE,aeR,DF,vT,L6])fun hA hl=>?_
  obtain⟨a1,a2,a3,a4,a5⟩:=Ot hA
  rw[BJ a1,BJ a2,ac2 a4]
  exact LG hl _
 ·refine qz hE hK(jl(iK _)bO)Tryz.func38(by kernel_rfl)(by kernel_rfl)aA rfl((asz sH uU LC bG a sk).trans ?_)
  rw[Gp h]
  refine Gq(oq4 h sk 5) [116,117,98,101] [qd [a 0,a 1,a 2],[32,97,108,111,110,103],qd [a 3,a 4,a 5],[32,114,97,100,105,117,115],qd [a 9]](by rw[sp3,sp3,sp1];simp[yE,aeS,DF,vT,L6])fun hA hl=>?_
  obtain⟨a1,a2,a3,a4,a5⟩:=Ot hA
  rw[BJ a1,BJ a2,ac2 a4]
  exact LG hl _
 ·refine qz hE hK(jl(iK _)bO)Tryz.func38(by kernel_rfl)(by kernel_rfl)aA rfl((asA sH uU LC bG a sk).trans ?_)
  rw[Gp h]
  refine Gq(oq6 h sk) [114,105,110,103] [qd [a 0,a 1,a 2],[32,117,112],qd [a 3,a 4,a 5],[32,114,97,100,105,117,115],qd [a 9],qd [a 10]](by rw[sp3,sp3,sp1,sp1];simp[yE,aeT,DF,vT,L6])fun hA hl=>?_
  obtain⟨a1,a2,a3,a4,a5⟩:=Ot hA
  rw[BJ a1,BJ a2,ac2 a4,ac2 a5]
  exact ahR _ _ _ hl
end
end Go.Proofs.YtefphimaggjihaaGreatDoor.Pi
namespace Go.Proofs.YtefphimaggjihaaGreatDoor.Pi
open Go.Shelf Go.RowKit Go.Gv
open Hs (fC)
open Hs.So (dM pQ)
theorem AO {l : List Entry} {ks : List aV} {ms : List fQ} {L : Nat → Option dN} {Z : Nat → Option mg} (hZ : ∀ i h, Z i = some h → fZ 0 h) (hl : ∀ e, e ∈ l → lg Tryz.prog e) (hks : ∀ e, e ∈ ks → tX Tryz.prog e) (hms : ∀ e, e ∈ ms → vZ Tryz.prog e) {f : Nat} {fn : Func} (hf : Tryz.prog.funcs[f]? = some fn) (hnm : (fn.name == "runtime.NumGoroutine") = false) (hb : fn.body = some (dG fn)) (hL : yS Tryz.prog L (dG fn))
  {args:List AV}(hlen:Nat.ble args.length fn.ntmps=true) {r:AV}(h:qX Tryz.prog l ks ms L Z fn args ret=some(Out.of r)):aj Tryz.prog f args r:=pF hZ(qQ hl hks hms)(iJ(qQ hl hks hms)(by kernel_rfl))40 hf hnm hb hL hlen h
def gPt(rT:Int→Int→ByteArray)(rN:Int→Int→Int)(rB:Int→Int→Bool):List AV→AV
 | [_,.x(.int .i64 k),.x(.int .i64 fr),_]=>.aN [zA(rT k fr),iA(rN k fr),bA(rB k fr)]
 |_=>.any
section
variable(n:Nat)(P:Nat→dM)(k fr d:Int)(ft:ByteArray)(fb:Bool)(rT:Int→Int→ByteArray)(rN:Int→Int→Int)(rB:Int→Int→Bool)
def aqd:Option Out:=some(Out.of(.aN [zA⟨#[]⟩,iA 0,bA false]))
def tpP:ByteArray→List ByteArray→Option Out
 |s,[]=>some(Out.of(.aN [zA s,iA k,bA true]))
 |s,t::r=>cond(mq s t||false)(tpP(s++t)r)none
def FPt(x f:Int):Prop:=aj Tryz.prog 40 [pQ n P,iA x,iA f,iA(aI(d+1))](.aN [zA(rT x f),iA(rN x f),bA(rB x f)])
def lfB(p:dM):Bool:=cond(cond(cond(cond fb(k==fr)false)(p.l==0)false)(p.r==0)false)(p.sk==0)false
def nd5(p:dM):Bool:=cond(cond(cond(d==3)true(!(eqZ p)))true(decide(p.l<fr)))true(!(p.r==aI(k - 1)))
def f2(p:dM):Int:=aI(rN p.l fr+1)
def tpX(v:Int)(w:ByteArray)(p:dM):Option Out:=cond(mJ k n||false)(cond(p.op==0)(gate(aj Tryz.prog 38 [.agg p.s](.aN [zA ft,bA fb]))(some(Out.of(.aN [zA ft,iA fr,bA(lfB k fr fb p)]))))
 (cond(nd5 k fr d p)aqd(gate(FPt n P d rT rN rB p.l fr)(cond(cond(!(rB p.l fr))true(!(rN p.l fr==p.l)))aqd
  (gate(FPt n P d rT rN rB p.r(f2 fr rN p))(cond(cond(!(rB p.r(f2 fr rN p)))true(!(rN p.r(f2 fr rN p)==p.r)))aqd
   (gate(p.op=v)(tpP k w [⟨#[32,123,32]⟩,rT p.l fr,⟨#[32]⟩,rT p.r(f2 fr rN p),⟨#[32,125]⟩]))))))))none
def tpK:List aV:=[kS Tryz.prog 38 fun _=>.aN [zA ft,bA fb],kS Tryz.prog 40(gPt rT rN rB)]
theorem PW:qX Tryz.prog [](tpK ft fb rT rN rB) [born 57]aM(iH 13(zOp 0 1))Tryz.f40 [pQ n P,iA k,iA fr,iA d]ret=tpX n P k fr d ft fb rT rN rB 1⟨#[98,111,116,104]⟩(P k.toNat):=by kernel_rfl
theorem ao8:qX Tryz.prog [](tpK ft fb rT rN rB) [born 57]aM(iH 13(zOp 0 2))Tryz.f40 [pQ n P,iA k,iA fr,iA d]ret=tpX n P k fr d ft fb rT rN rB 2⟨#[101,105,116,104,101,114]⟩(P k.toNat):=by kernel_rfl
theorem ao9:qX Tryz.prog [](tpK ft fb rT rN rB) [born 57]aM(iH 13(zOp 0 3))Tryz.f40 [pQ n P,iA k,iA fr,iA d]ret=tpX n P k fr d ft fb rT rN rB 3⟨#[108,101,115,115]⟩(P k.toNat):=by kernel_rfl
end
open Go.Ev (dK cB)
def oG (P:Nat→dM):Nat→Nat→Int→List UInt8 × Int × Bool
  | 0,_,_=>([],0,false)
  |g+1,k,fr=>cond((P k).op==0)(cond(allT(P k).a)(tks false(yE cK dF(P k).k(P k).a)) [],fr,lfB(k:Nat)fr(!(Di bG(P k).k(P k).a(P k).sk))(P k))
    (cond(nd5(k:Nat)fr(3 - (g:Int))(P k))([],0,false)
      (cond(cond(!(oG P g(P k).l.toNat fr).2.2)true(!((oG P g(P k).l.toNat fr).2.1==(P k).l)))([],0,false)
        (cond(cond(!(oG P g(P k).r.toNat((P k).l+1)).2.2)true(!((oG P g(P k).r.toNat((P k).l+1)).2.1==(P k).r)))([],0,false)
          (zi(P k).op++([32,123,32]++((oG P g(P k).l.toNat fr).1++([32]++((oG P g(P k).r.toNat((P k).l+1)).1++[32,125])))),((k:Nat):Int),true))))
theorem wu(P:Nat→dM)(g k:Nat)(fr:Int):oG P(g+1)k fr=cond((P k).op==0)(cond(allT(P k).a)(tks false(yE cK dF(P k).k(P k).a)) [],fr,lfB(k:Nat)fr(!(Di bG(P k).k(P k).a(P k).sk))(P k))
  (cond(nd5(k:Nat)fr(3 - (g:Int))(P k))([],0,false)
   (cond(cond(!(oG P g(P k).l.toNat fr).2.2)true(!((oG P g(P k).l.toNat fr).2.1==(P k).l)))([],0,false)
    (cond(cond(!(oG P g(P k).r.toNat((P k).l+1)).2.2)true(!((oG P g(P k).r.toNat((P k).l+1)).2.1==(P k).r)))([],0,false)
     (zi(P k).op++([32,123,32]++((oG P g(P k).l.toNat fr).1++([32]++((oG P g(P k).r.toNat((P k).l+1)).1++[32,125])))),((k:Nat):Int),true)))):=rfl
theorem Eo (P:Nat→dM):∀(g k:Nat)(fr:Int),(oG P g k fr).1.length+12≤1000*2 ^ g
  | 0,_,_=>by simp[oG]
  |g+1,k,fr=>by
    rw[wu]
    have h1:=Eo P g(P k).l.toNat fr
    have h2:=Eo P g(P k).r.toNat((P k).l+1)
    have h3:(zi(P k).op).length≤6:=by unfold zi;split<;>(try split)<;>decide
    have hp:=Nat.two_pow_pos g
    have e:2 ^ (g+1)=2 ^ g*2:=Nat.pow_succ ..
    have hl:(tks false(yE cK dF(P k).k(P k).a)).length≤273:=jX false(DI _ _)
    rw[e]
    generalize oG P g(P k).l.toNat fr=A at *
    generalize oG P g(P k).r.toNat((P k).l+1)=B at *
    generalize 2 ^ g=T at *
    cases(P k).op==0
    · rw[cond_false]
      cases nd5(k:Nat)fr(3 - (g:Int))(P k)
      · rw[cond_false]
        generalize cond(!A.2.2)true(!(A.2.1==(P k).l))=c1
        generalize cond(!B.2.2)true(!(B.2.1==(P k).r))=c2
        cases c1
        · rw[cond_false]
          cases c2
          · rw[cond_false]
            simp only[List.length_append,List.length_cons,List.length_nil]
            omega
          · simp only[cond_true,List.length_nil];omega
        · simp only[cond_true,List.length_nil];omega
      · simp only[cond_true,List.length_nil];omega
    · rw[cond_true]
      cases allT(P k).a
      · simp only[cond_false,List.length_nil];omega
      · simp only[cond_true];omega
theorem aff(k:Int):∀(l:List UInt8)(r:List(List UInt8)),l.length+r.flatten.length≤1000000000→tpP k(lB l)(r.map lB)=some(Out.of(.aN [zA(lB(l++r.flatten)),iA k,bA true]))
 |l,[],_=>by simp[tpP]
 |l,t::r,h=>by
  rw[List.flatten_cons,List.length_append]at h
  show cond(mq(lB l)(lB t)||false)(tpP k(lB l++lB t)(r.map lB))none=_
  rw[kW(by rw[aY,aY];omega),gZ,aff k(l++t)r(by rw[List.length_append];omega),List.flatten_cons,List.append_assoc]
  rfl
def tpV(t:List UInt8 × Int × Bool):AV:=.aN [zA(lB t.1),iA t.2.1,bA t.2.2]
section
variable {n:Nat}{P:Nat→dM}
def Xr(P:Nat→dM)(g:Nat)(x f:Int):ByteArray:=lB(oG P g x.toNat f).1
def PV(P:Nat→dM)(g:Nat)(x f:Int):Int:=(oG P g x.toNat f).2.1
def TA(P:Nat→dM)(g:Nat)(x f:Int):Bool:=(oG P g x.toNat f).2.2
theorem TB {g k:Nat}(fr:Int) {v:Int}{w:ByteArray}(hk:k<n)(h0:(P k).op=0)(hS:(1≤(P k).k∧(P k).k≤6)∧∀q,q<11→cB((P k).a q)):tpX n P(k:Nat)fr(3 - (g:Int))(lB(cond(allT(P k).a)(tks false(yE cK dF(P k).k(P k).a)) []))(!(Di bG(P k).k(P k).a(P k).sk))(Xr P g)(PV P g)(TA P g)v w(P k)=some(Out.of(tpV(oG P(g+1)k fr))):=by
 have hf:aj Tryz.prog 38 [.agg(P k).s](tfV(P k).k(P k).a(P k).sk):=NA(P k).sk hS.1 hS.2
 unfold tpX
 rw[gy hk,wu,h0,ah(show aj Tryz.prog 38 [.agg(P k).s](.aN [zA(lB(cond(allT(P k).a)(tks false(yE cK dF(P k).k(P k).a)) [])),bA(!(Di bG(P k).k(P k).a(P k).sk))])from hf)]
 rfl
theorem Kg {g k:Nat}(hg:g≤3)(fr:Int) {v:Int}{w:List UInt8}{ft:ByteArray}{fb:Bool}(hk:k<n)(h0:(P k).op≠0)(hv:(P k).op=v)(hw:zi(P k).op=w)(hl:0≤(P k).l∧(P k).l<1000)
  (hI:((3 - (g:Int))==3)=false→∀f,FPt n P(3 - (g:Int))(Xr P g)(PV P g)(TA P g)(P k).l f∧FPt n P(3 - (g:Int))(Xr P g)(PV P g)(TA P g)(P k).r f):tpX n P(k:Nat)fr(3 - (g:Int))ft fb(Xr P g)(PV P g)(TA P g)v(lB w)(P k)=some(Out.of(tpV(oG P(g+1)k fr))):=by
 unfold tpX
 rw[gy hk,wu,beq_false_of_ne h0]
 show cond(nd5(k:Nat)fr(3 - (g:Int))(P k))_ _=_
 cases hnd:nd5(k:Nat)fr(3 - (g:Int))(P k)
 ·have hd:((3 - (g:Int))==3)=false:=by
   unfold nd5 at hnd
   cases hc:((3 - (g:Int))==3)
   ·rfl
   ·rw[hc]at hnd;cases hnd
  have hi:=hI hd
  rw[cond_false,ah(hi fr).1,cond_false,cond_false]
  have e1:cond(!(TA P g(P k).l fr))true(!(PV P g(P k).l fr==(P k).l))=cond(!(oG P g(P k).l.toNat fr).2.2)true(!((oG P g(P k).l.toNat fr).2.1==(P k).l)):=rfl
  rw[e1]
  cases h1:cond(!(oG P g(P k).l.toNat fr).2.2)true(!((oG P g(P k).l.toNat fr).2.1==(P k).l))
  ·have hN:(oG P g(P k).l.toNat fr).2.1=(P k).l:=by
    cases hb:(oG P g(P k).l.toNat fr).2.2
    ·rw[hb]at h1;cases h1
    ·rw[hb]at h1
     have h1:(!((oG P g(P k).l.toNat fr).2.1==(P k).l))=false:=h1
     simpa using h1
   have hf2:f2 fr(PV P g)(P k)=(P k).l+1:=by
    unfold f2 PV
    rw[hN]
    exact aO(by omega)(by omega)
   rw[cond_false,cond_false,hf2,ah(hi((P k).l+1)).2]
   have e2:cond(!(TA P g(P k).r((P k).l+1)))true(!(PV P g(P k).r((P k).l+1)==(P k).r))=cond(!(oG P g(P k).r.toNat((P k).l+1)).2.2)true(!((oG P g(P k).r.toNat((P k).l+1)).2.1==(P k).r)):=rfl
   rw[e2]
   cases h2:cond(!(oG P g(P k).r.toNat((P k).l+1)).2.2)true(!((oG P g(P k).r.toNat((P k).l+1)).2.1==(P k).r))
   ·have l1:=Eo P g(P k).l.toNat fr
    have l2:=Eo P g(P k).r.toNat((P k).l+1)
    have hp:2 ^ g≤2 ^ 3:=Nat.pow_le_pow_right(by decide)hg
    have l3:=ZX(P k).op
    have:=aff(k:Nat)w [[32,123,32],(oG P g(P k).l.toNat fr).1,[32],(oG P g(P k).r.toNat((P k).l+1)).1,[32,125]](by
     rw[←hw]
     simp only[List.flatten_cons,List.flatten_nil,List.length_append,List.length_cons,List.length_nil]
     omega)
    rw[cond_false,cond_false,ah hv]
    refine this.trans ?_
    rw[←hw]
    simp only[List.flatten_cons,List.flatten_nil,List.append_nil]
    rfl
   ·rfl
  ·rfl
 ·rfl
theorem Fx(hn:n≤16)(hP:PM n P)(hS:∀i,i<n→(P i).op=0→(1≤(P i).k∧(P i).k≤6)∧∀q,q<11→cB((P i).a q)):∀(g:Nat),g≤3→∀(k:Nat)(fr:Int),k<n→aj Tryz.prog 40 [pQ n P,iA(k:Nat),iA fr,iA(3 - (g:Int))](tpV(oG P(g+1)k fr)):=by
 intro g
 induction g with
 |zero =>
  intro hg k fr hk
  by_cases h0:(P k).op=0
  ·refine AO(gK(xI 0 1))aB(ak aD(ak aD av))(jl(iK _)bO)Tryz.func40(by kernel_rfl)(by kernel_rfl)aA rfl((PW n P(k:Nat)fr(3 - ((0:Nat):Int))(lB(cond(allT(P k).a)(tks false(yE cK dF(P k).k(P k).a)) []))(!(Di bG(P k).k(P k).a(P k).sk))(Xr P 0)(PV P 0)(TA P 0)).trans ?_)
   rw[Int.toNat_natCast]
   exact TB fr hk h0(hS k hk h0)
  ·obtain⟨hop,⟨l0,l1⟩,r0,r1⟩:=(hP k hk).resolve_left h0
   have hI:((3 - ((0:Nat):Int))==3)=false→∀f,FPt n P(3 - ((0:Nat):Int))(Xr P 0)(PV P 0)(TA P 0)(P k).l f∧FPt n P(3 - ((0:Nat):Int))(Xr P 0)(PV P 0)(TA P 0)(P k).r f:=fun h=>by cases h
   refine AO(gK(xI 0 1))aB(ak aD(ak aD av))(jl(iK _)bO)Tryz.func40(by kernel_rfl)(by kernel_rfl)aA rfl((PW n P(k:Nat)fr(3 - ((0:Nat):Int))⟨#[]⟩false(Xr P 0)(PV P 0)(TA P 0)).trans ?_)
   rw[Int.toNat_natCast]
   unfold tpX
   rw[gy hk,wu,beq_false_of_ne h0]
   have hd:nd5(k:Nat)fr(3 - ((0:Nat):Int))(P k)=true:=rfl
   rw[hd]
   rfl
 |succ g ih =>
  intro hg k fr hk
  by_cases h0:(P k).op=0
  ·refine AO(gK(xI 0 1))aB(ak aD(ak aD av))(jl(iK _)bO)Tryz.func40(by kernel_rfl)(by kernel_rfl)aA rfl((PW n P(k:Nat)fr(3 - ((g+1:Nat):Int))(lB(cond(allT(P k).a)(tks false(yE cK dF(P k).k(P k).a)) []))(!(Di bG(P k).k(P k).a(P k).sk))(Xr P(g+1))(PV P(g+1))(TA P(g+1))).trans ?_)
   rw[Int.toNat_natCast]
   exact TB fr hk h0(hS k hk h0)
  ·obtain⟨hop,⟨l0,l1⟩,r0,r1⟩:=(hP k hk).resolve_left h0
   have ed:aI(3 - ((g+1:Nat):Int)+1)=3 - (g:Int):=by rw[aO(by omega)(by omega)];omega
   have hx:∀x:Int,0≤x→x<(k:Nat)→∀f,FPt n P(3 - ((g+1:Nat):Int))(Xr P(g+1))(PV P(g+1))(TA P(g+1))x f:=fun x x0 x1 f=>by
    have:=ih(by omega)x.toNat f(by omega)
    unfold FPt
    rw[ed]
    rw[show((x.toNat:Nat):Int)=x by omega]at this
    exact this
   have hI:((3 - ((g+1:Nat):Int))==3)=false→∀f,FPt n P(3 - ((g+1:Nat):Int))(Xr P(g+1))(PV P(g+1))(TA P(g+1))(P k).l f∧FPt n P(3 - ((g+1:Nat):Int))(Xr P(g+1))(PV P(g+1))(TA P(g+1))(P k).r f:=fun _ f=>⟨hx _ l0 l1 f,hx _ r0 r1 f⟩
   rcases(show(P k).op=1∨(P k).op=2∨(P k).op=3 by omega)with ho |ho |ho
   ·refine AO(gK(xI 0 1))aB(ak aD(ak aD av))(jl(iK _)bO)Tryz.func40(by kernel_rfl)(by kernel_rfl)aA rfl((PW n P(k:Nat)fr(3 - ((g+1:Nat):Int))⟨#[]⟩false(Xr P(g+1))(PV P(g+1))(TA P(g+1))).trans ?_)
    rw[Int.toNat_natCast]
    exact Kg hg fr(w:=[98,111,116,104])hk h0 ho(by rw[ho];rfl)(by omega)hI
   ·refine AO(gK(xI 0 2))aB(ak aD(ak aD av))(jl(iK _)bO)Tryz.func40(by kernel_rfl)(by kernel_rfl)aA rfl((ao8 n P(k:Nat)fr(3 - ((g+1:Nat):Int))⟨#[]⟩false(Xr P(g+1))(PV P(g+1))(TA P(g+1))).trans ?_)
    rw[Int.toNat_natCast]
    exact Kg hg fr(w:=[101,105,116,104,101,114])hk h0 ho(by rw[ho];rfl)(by omega)hI
   ·refine AO(gK(xI 0 3))aB(ak aD(ak aD av))(jl(iK _)bO)Tryz.func40(by kernel_rfl)(by kernel_rfl)aA rfl((ao9 n P(k:Nat)fr(3 - ((g+1:Nat):Int))⟨#[]⟩false(Xr P(g+1))(PV P(g+1))(TA P(g+1))).trans ?_)
    rw[Int.toNat_natCast]
    exact Kg hg fr(w:=[108,101,115,115])hk h0 ho(by rw[ho];rfl)(by omega)hI
end
end Go.Proofs.YtefphimaggjihaaGreatDoor.Pi
end
