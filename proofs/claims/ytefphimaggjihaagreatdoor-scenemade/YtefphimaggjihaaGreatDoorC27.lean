/- Texts, one behind the other. -/
import Derived.Test.YtefphimaggjihaaGreatDoorC26
noncomputable section
namespace Go.Proofs.YtefphimaggjihaaGreatDoor.Pi
open Go.Shelf Go.RowKit Go.Gv
open Go.Ev (dK cB)
open Hs (fC)
open Hs.So (dM pQ)
theorem aaA {k:Int}{a:Nat→Nat}{sk:Int}(hk:1≤k∧k≤6)(h:∀i,i<11→cB(a i))(hb:Di bG k a sk=false):allT a=true:=by
 have key:∀{b c:Bool},(!b)=(allT a&&c)→b=false→allT a=true:=fun {b c} e hb=>by
  subst hb
  cases hA:allT a
  ·rw[hA]at e;cases e
  ·rfl
 rcases(show k=1∨k=2∨k=3∨k=4∨k=5∨k=6 by omega)with rfl |rfl |rfl |rfl |rfl |rfl
 ·exact key(oq1 h sk)hb
 ·exact key(oq2 h sk)hb
 ·exact key(oq3 h sk)hb
 ·exact key(oq4 h sk 4)hb
 ·exact key(oq4 h sk 5)hb
 ·exact key(oq6 h sk)hb
theorem aaG {k fr:Int}{fb:Bool}{p:dM}:lfB k fr fb p=true↔fb=true∧k=fr∧p.l=0∧p.r=0∧p.sk=0:=by
 unfold lfB
 cases fb
 ·simp
 ·by_cases h1:k=fr
  ·by_cases h2:p.l=0
   ·by_cases h3:p.r=0
    ·by_cases h4:p.sk=0<;>simp[h1,h2,h3,h4]
    ·simp[h1,h2,h3]
   ·simp[h1,h2]
  ·simp[h1]
theorem aaH {k fr d:Int}{p:dM}:nd5 k fr d p=false↔d≠3∧eqZ p=true∧fr≤p.l∧p.r=aI(k - 1):=by
 unfold nd5
 by_cases h1:d=3
 ·simp[h1]
 ·cases h2:eqZ p
  ·simp[h1]
  ·by_cases h3:p.l<fr
   ·simp[h1,h3];omega
   ·by_cases h4:p.r=aI(k - 1)<;>simp[h1,h3,h4]<;>omega
theorem or2 {b:Bool}{x y:Int}:cond(!b)true(!(x==y))=false↔b=true∧x=y:=by
 cases b
 ·simp
 ·simp
theorem NZ {p:dM}(h0:p.op=0):lV p=true↔p.l=0∧p.r=0∧p.sk=0:=by
 unfold lV
 rw[h0]
 show cond(cond(p.l==0)(p.r==0)false)(p.sk==0)false=true↔_
 by_cases h2:p.l=0
 ·by_cases h3:p.r=0
  ·by_cases h4:p.sk=0<;>simp[h2,h3,h4]
  ·simp[h2,h3]
 ·simp[h2]
theorem N7 {p:dM}(h0:p.op≠0):lV p=eqZ p:=by unfold lV;rw[beq_false_of_ne h0];rfl
def VG(P:Nat→dM)(k:Nat):Int:=(sd P(k+1)).1 k
def VH(P:Nat→dM)(k:Nat):Int:=(sd P(k+1)).2 k
theorem aaI(P:Nat→dM):∀j q,j≤q→(sd P j).2 q=0
 | 0,_,_=>rfl
 |j+1,q,h=>by
  have ih:=aaI P j q(by omega)
  rw[kU]
  split
  ·exact ih
  ·exact(upd_ne _(by omega)_).trans ih
theorem X7(g:Nat→Int)(j:Nat)(v:Int):upd g j v j=v:=if_pos rfl
section
variable {P:Nat→dM}
theorem IX {k:Nat}(h0:(P k).op=0):VG P k=1∧VH P k=0:=by
 unfold VG VH
 rw[kU,if_pos h0]
 exact⟨X7 _ _ _,aaI P k k(Nat.le_refl _)⟩
theorem IY {k:Nat}(h0:(P k).op≠0)(l0:0≤(P k).l)(l1:(P k).l<(k:Nat))(_:0≤(P k).r)(r1:(P k).r<(k:Nat)):VG P k=1+(VG P(P k).l.toNat+VG P(P k).r.toNat)∧VH P k=1+mx(VH P(P k).l.toNat)(VH P(P k).r.toNat):=by
 unfold VG VH
 rw[kU P k,if_neg h0,←(zl(P:=P)(i:=(P k).l.toNat)(j:=k)(by omega)).1,←(zl(P:=P)(i:=(P k).l.toNat)(j:=k)(by omega)).2,←(zl(P:=P)(i:=(P k).r.toNat)(j:=k)(by omega)).1,←(zl(P:=P)(i:=(P k).r.toNat)(j:=k)(by omega)).2]
 exact⟨X7 _ _ _,X7 _ _ _⟩
theorem Ur(k:Nat):0≤VG P k:=(qw P(k+1)k).1.1
theorem ank(k:Nat):0≤VH P k:=(qw P(k+1)k).2.1
theorem XP {X:List(List UInt8)}(h:X≠[]):tks true X=32::tks false X:=by
 cases X with
 |nil=>exact absurd rfl h
 |cons t r=>rfl
theorem WB(k:Int)(a:Nat→Nat):yE cK dF k a≠[]:=by
 unfold yE
 split
 ·simp[aeO]
 ·split
  ·simp[aeP]
  ·split
   ·simp[aeQ]
   ·split
    ·simp[aeR,DF]
    ·split
     ·simp[aeS,DF]
     ·simp[aeT,DF]
theorem XQ {f k:Nat}(h:k<f):FI cK dF P f k≠[]:=by
 cases f with
 |zero=>omega
 |succ f =>
  unfold FI
  split
  ·exact WB _ _
  ·simp
theorem anl {a b M:Int}:mx a b≤M↔a≤M∧b≤M:=by unfold mx;split<;>omega
theorem anm(f k:Nat):FI cK dF P(f+1)k=if(P k).op=0 then yE cK dF(P k).k(P k).a else [zi(P k).op,[123]]++(FI cK dF P f(P k).l.toNat++(FI cK dF P f(P k).r.toNat++[[125]])):=rfl
theorem X8(f k:Nat):qc bG P(f+1)k=if(P k).op=0 then Di bG(P k).k(P k).a(P k).sk else qc bG P f(P k).l.toNat||qc bG P f(P k).r.toNat:=rfl
variable {n:Nat}
abbrev HS(n:Nat)(P:Nat→dM):Prop:=∀i,i<n→(P i).op=0→(1≤(P i).k∧(P i).k≤6)∧∀q,q<11→cB((P i).a q)
theorem Us (hn:n≤16)(hP:PM n P)(hS:HS n P):∀(g k:Nat)(fr:Int),k<n→0≤fr→(oG P g k fr).2.2=true→(oG P g k fr).2.1=(k:Nat)∧fr≤(k:Nat)∧(∀j:Nat,fr≤(j:Nat)→j≤k→okJ P j)∧VG P k=(k:Nat) - fr+1∧VH P k+1≤(g:Nat)∧∀f,k<f→qc bG P f k=false∧(oG P g k fr).1=tks false(FI cK dF P f k)
  | 0,_,_,_,_,h=>by cases h
  |g+1,k,fr,hk,h0,h=>by
    rw[wu]at h ⊢
    by_cases ho:(P k).op=0
    · have hb:((P k).op==0)=true:=by rw[ho];rfl
      rw[hb,cond_true]at h ⊢
      obtain⟨f1,f2,f3,f4,f5⟩:=aaG.1 h
      have hsB:Di bG(P k).k(P k).a(P k).sk=false:=by simpa using f1
      have hA:=aaA(hS k hk ho).1(hS k hk ho).2 hsB
      obtain⟨z1,z2⟩:=IX ho
      refine⟨f2.symm,by omega,fun j j1 j2=>?_,by rw[z1];omega,by rw[z2];omega,fun f hf=>?_⟩
      · have:j=k:=by omega
        subst this
        exact⟨(NZ ho).2⟨f3,f4,f5⟩,Or.inl ho⟩
      · cases f with
        |zero=>omega
        |succ f =>
          rw[X8,anm,if_pos ho,if_pos ho,hA]
          exact⟨hsB,rfl⟩
    · rw[beq_false_of_ne ho,cond_false]at h ⊢
      obtain⟨hop,⟨l0,l1⟩,r0,r1⟩:=(hP k hk).resolve_left ho
      cases hnd:nd5(k:Nat)fr(3 - (g:Int))(P k)
      · rw[hnd,cond_false]at h
        rw[cond_false]
        obtain⟨_,d2,d3,d4⟩:=aaH.1 hnd
        rw[aO(by omega)(by omega)]at d4
        cases c1:cond(!(oG P g(P k).l.toNat fr).2.2)true(!((oG P g(P k).l.toNat fr).2.1==(P k).l))
        · rw[c1,cond_false]at h
          rw[cond_false]
          obtain⟨a1,a2⟩:=or2.1 c1
          cases c2:cond(!(oG P g(P k).r.toNat((P k).l+1)).2.2)true(!((oG P g(P k).r.toNat((P k).l+1)).2.1==(P k).r))
          · rw[cond_false]
            obtain⟨b1,b2⟩:=or2.1 c2
            obtain⟨_,i2,i3,i4,i5,i6⟩:=Us hn hP hS g(P k).l.toNat fr(by omega)h0 a1
            obtain⟨_,j2,j3,j4,j5,j6⟩:=Us hn hP hS g(P k).r.toNat((P k).l+1)(by omega)(by omega)b1
            obtain⟨z1,z2⟩:=IY ho l0 l1 r0 r1
            refine⟨rfl,by omega,fun j q1 q2=>?_,by rw[z1];omega,?_,fun f hf=>?_⟩
            · by_cases e1:j≤(P k).l.toNat
              · exact i3 j q1 e1
              · by_cases e2:j=k
                · subst e2
                  refine⟨(N7 ho).trans d2,Or.inr⟨d4,?_⟩⟩
                  have e3:(sd P j).1(j - 1)=VG P(P j).r.toNat:=by
                    rw[show(P j).r.toNat=j - 1 by omega]
                    exact(zl(by omega)).1
                  rw[e3]
                  omega
                · exact j3 j(by omega)(by omega)
            · rw[z2]
              have:=(anl(a:=VH P(P k).l.toNat)(b:=VH P(P k).r.toNat)(M:=(g:Int) - 1)).2⟨by omega,by omega⟩
              omega
            · cases f with
              |zero=>omega
              |succ f =>
                obtain⟨p1,p2⟩:=i6 f(by omega)
                obtain⟨p3,p4⟩:=j6 f(by omega)
                rw[X8,anm,if_neg ho,if_neg ho,p1,p3]
                refine⟨rfl,?_⟩
                show zi(P k).op++([32,123,32]++((oG P g(P k).l.toNat fr).1++([32]++((oG P g(P k).r.toNat((P k).l+1)).1++[32,125]))))=_
                rw[p2,p4,qK _ _ _(by simp),rJ,rJ,XP(X:=FI cK dF P f(P k).l.toNat)(XQ(by omega)),XP(X:=FI cK dF P f(P k).r.toNat)(XQ(by omega))]
                simp
          · rw[c2]at h;cases h
        · rw[c1]at h;cases h
      · rw[hnd]at h;cases h
theorem agb(hn:n≤16)(hP:PM n P)(hS:HS n P):∀(g k:Nat)(fr:Int)(f:Nat),g≤4→k<n→0≤fr→(∀j:Nat,fr≤(j:Nat)→j≤k→okJ P j)→fr≤(k:Nat)→VG P k=(k:Nat) - fr+1→VH P k+1≤(g:Nat)→k<f→qc bG P f k=false→(oG P g k fr).2.2=true
 | 0,k,_,_,_,_,_,_,_,_,h,_,_=>by have:=ank(P:=P)k;omega
 |g+1,k,fr,0,_,_,_,_,_,_,_,h,_=>by omega
 |g+1,k,fr,f+1,hg,hk,h0,hj,hfk,hs,hd,hf,hb=>by
  rw[wu]
  obtain⟨k1,k2⟩:=hj k hfk(Nat.le_refl _)
  rw[X8]at hb
  by_cases ho:(P k).op=0
  ·have hbo:((P k).op==0)=true:=by rw[ho];rfl
   rw[hbo,cond_true]
   rw[if_pos ho]at hb
   obtain⟨b1,b2,b3⟩:=(NZ ho).1 k1
   obtain⟨z1,z2⟩:=IX ho
   exact aaG.2⟨by rw[hb];rfl,by omega,b1,b2,b3⟩
  ·rw[beq_false_of_ne ho,cond_false]
   rw[if_neg ho]at hb
   obtain⟨hop,⟨l0,l1⟩,r0,r1⟩:=(hP k hk).resolve_left ho
   obtain⟨kr,kl⟩:=k2.resolve_left ho
   obtain⟨z1,z2⟩:=IY ho l0 l1 r0 r1
   have e3:(sd P k).1(k - 1)=VG P(P k).r.toNat:=by
    rw[show(P k).r.toNat=k - 1 by omega]
    exact(zl(by omega)).1
   rw[e3]at kl
   have hm:=(anl(a:=VH P(P k).l.toNat)(b:=VH P(P k).r.toNat)(M:=(g:Int) - 1)).1(by omega)
   have s1:=Ur(P:=P)(P k).l.toNat
   have d1:=ank(P:=P)(P k).l.toNat
   have pb1:qc bG P f(P k).l.toNat=false:=by cases h:qc bG P f(P k).l.toNat;rfl;rw[h]at hb;cases hb
   have pb2:qc bG P f(P k).r.toNat=false:=by cases h:qc bG P f(P k).r.toNat;rfl;rw[pb1,h]at hb;cases hb
   have sl1:1≤VG P(P k).l.toNat:=by
    by_cases hl:(P(P k).l.toNat).op=0
    ·rw[(IX hl).1];omega
    ·obtain⟨_,⟨m0,m1⟩,n0,n1⟩:=(hP(P k).l.toNat(by omega)).resolve_left hl
     rw[(IY hl m0 m1 n0 n1).1]
     have:=Ur(P:=P)(P(P k).l.toNat).l.toNat
     have:=Ur(P:=P)(P(P k).l.toNat).r.toNat
     omega
   have sr1:1≤VG P(P k).r.toNat:=by
    by_cases hl:(P(P k).r.toNat).op=0
    ·rw[(IX hl).1];omega
    ·obtain⟨_,⟨m0,m1⟩,n0,n1⟩:=(hP(P k).r.toNat(by omega)).resolve_left hl
     rw[(IY hl m0 m1 n0 n1).1]
     have:=Ur(P:=P)(P(P k).r.toNat).l.toNat
     have:=Ur(P:=P)(P(P k).r.toNat).r.toNat
     omega
   have A:=agb hn hP hS g(P k).l.toNat fr f(by omega)(by omega)h0(fun j j1 j2=>hj j j1(by omega))(by omega)(by omega)(by omega)(by omega)pb1
   have B:=agb hn hP hS g(P k).r.toNat((P k).l+1)f(by omega)(by omega)(by omega)(fun j j1 j2=>hj j(by omega)(by omega))(by omega)(by omega)(by omega)(by omega)pb2
   have A1:=(Us hn hP hS g(P k).l.toNat fr(by omega)h0 A).1
   have B1:=(Us hn hP hS g(P k).r.toNat((P k).l+1)(by omega)(by omega)B).1
   have hnd:nd5(k:Nat)fr(3 - (g:Int))(P k)=false:=aaH.2⟨by omega,(N7 ho).symm.trans k1,by omega,by rw[aO(by omega)(by omega)];omega⟩
   have c1:cond(!(oG P g(P k).l.toNat fr).2.2)true(!((oG P g(P k).l.toNat fr).2.1==(P k).l))=false:=or2.2⟨A,by rw[A1];omega⟩
   have c2:cond(!(oG P g(P k).r.toNat((P k).l+1)).2.2)true(!((oG P g(P k).r.toNat((P k).l+1)).2.1==(P k).r))=false:=or2.2⟨B,by rw[B1];omega⟩
   rw[hnd,cond_false,c1,cond_false,c2]
   rfl
theorem av6(h1:1≤n)(hn:n≤16)(hP:PM n P)(hS:HS n P):cond(!(oG P 4(n - 1)0).2.2)true(!((oG P 4(n - 1)0).2.1==((n - 1:Nat):Int)))=PO bG n P∧(PO bG n P=false→(oG P 4(n - 1)0).1=tks false(FI cK dF P n(n - 1))∧FH n P=true):=by
 have e1:n - 1+1=n:=by omega
 cases ht:(oG P 4(n - 1)0).2.2
 ·have hs:PO bG n P=true:=by
   unfold PO
   cases ha:FH n P
   ·rfl
   ·rw[cond_true]
    cases hp:qc bG P n(n - 1)
    ·unfold FH at ha
     have ha:arP n P:=by simpa using ha
     have hz:VG P(n - 1)=((n - 1:Nat):Int) - 0+1:=by
      unfold VG
      rw[e1,ha.2.1]
      omega
     have hd:VH P(n - 1)+1≤((4:Nat):Int):=by
      unfold VH
      rw[e1]
      have:=ha.2.2
      omega
     have:=agb hn hP hS 4(n - 1)0 n(by omega)(by omega)(by omega)(fun j _ hj=>ha.1 j(by omega))(by omega)hz hd(by omega)hp
     rw[ht]at this
     cases this
    ·rfl
  rw[hs]
  exact⟨rfl,fun h=>by cases h⟩
 ·obtain⟨a1,a2,a3,a4,a5,a6⟩:=Us hn hP hS 4(n - 1)0(by omega)(by omega)ht
  obtain⟨p1,p2⟩:=a6 n(by omega)
  have ha:FH n P=true:=by
   classical
   unfold FH
   refine decide_eq_true(show arP n P from⟨fun j hj=>a3 j(by omega)(by omega),?_,?_⟩)
   ·unfold VG at a4
    rw[e1]at a4
    rw[a4]
    omega
   ·unfold VH at a5
    rw[e1]at a5
    omega
  have hs:PO bG n P=false:=by unfold PO;rw[ha,cond_true,p1]
  rw[hs,a1,CS]
  exact⟨rfl,fun _=>⟨p2,ha⟩⟩
end
end Go.Proofs.YtefphimaggjihaaGreatDoor.Pi
namespace Go.Proofs.YtefphimaggjihaaGreatDoor.Pi
open Go.Shelf Go.RowKit Go.Gv
def gMf(mf:Int→Nat):List AV→AV
 | [.x(.int .i64 n)]=>.f(mf n)
 |_=>.any
def gSk(sk:Int→ByteArray):List AV→AV
 | [.x(.int .i64 n)]=>zA(sk n)
 |_=>.any
section
variable(ts:Nat→ByteArray)(tb:Nat→Bool)(dd sk:Int→ByteArray)(mf:Int→Nat)(vs:Nat→Nat→Nat→ByteArray)(vb:Nat→Nat→Nat→Bool)(F:Hs.Fm.Fd)(x x1:ByteArray)(v f:Bool)(i:Int)
def FMf(n:Int):Prop:=aj Tryz.prog 37 [iA n](.f(mf n))
def FSk(n:Int):Prop:=aj Tryz.prog 39 [iA n](zA(sk n))
def fwS:St:=mkS 70 [(1,.own 0 0),(5,bA v),(7,bA f),(8,zA x),(9,iA i)] [.c F.c]
def QT:List Nat:=[1,5,7,8,9]
def fwK:List aV:=[kS Tryz.prog 33(gTv vs vb),kS Tryz.prog 36(gTo ts tb),kS Tryz.prog 23(gDd dd),kS Tryz.prog 37(gMf mf),kS Tryz.prog 39(gSk sk)]
def fwC(o e:Option Out):Option Out:=cond(decide(i<(F.n:Nat)))(cond(mJ i F.n||false)(gate(FMf mf(F.hs i.toNat))(gate(FTo ts tb(mf(F.hs i.toNat)))(cond(mq x VD||false)(cond(mq(x++VD)(ts(mf(F.hs i.toNat)))||false)o none)none)))none)e
theorem alW:gD Tryz.prog [](fwK ts tb dd sk mf vs vb)aM(au Tryz.f41 0)(fwS F x v f i)(fu QT [some 0])=fwC ts tb mf F x i(some⟨.normal,fwS F((x++VD)++ts(mf(F.hs i.toNat)))v f(aI(i+1)),.any⟩)none:=by kernel_rfl
theorem arF:gD Tryz.prog [](fwK ts tb dd sk mf vs vb)aM(au Tryz.f41 0)(fwS F x v f i)(gM QT [some 0])=fwC ts tb mf F x i none(some⟨.exit 0,fwS F x v f i,.any⟩):=by kernel_rfl
def fwL:List ByteArray:=[dd F.W,VD,dd F.H,⟨#[32,97,116]⟩,vs(F.at_ 0)(F.at_ 1)(F.at_ 2),⟨#[32,115,105,100,101,32]⟩,ts F.sd,⟨#[32,104,105,103,104]⟩]
def fwW:ByteArray:=⟨#[102,105,101,108,100,32]⟩
def fw0:St:=fwS F(apL fwW(fwL ts dd vs F))(vb(F.at_ 0)(F.at_ 1)(F.at_ 2))(tb F.sd)0
theorem axm:ev Tryz.prog [](fwK ts tb dd sk mf vs vb)(gu 5(fE QT [some 0](fw0 ts tb dd vs vb F)(.exit 0)(fwS F x1(vb(F.at_ 0)(F.at_ 1)(F.at_ 2))(tb F.sd)(F.n:Nat))))Tryz.f41 [.agg F.c]ret =
 gate(Qg vs vb F.at_ 0)(gate(FTo ts tb F.sd)(gate(VE dd F.W)(gate(VE dd F.H)(cond(YC fwW(fwL ts dd vs F))(gate(Sub(fw0 ts tb dd vs vb F)(fw0 ts tb dd vs vb F))(gate(FSk sk F.sk)(cond(mq x1(sk F.sk)||false)(some(Out.of(.aN [zA(x1++sk F.sk),bA(cond(vb(F.at_ 0)(F.at_ 1)(F.at_ 2))(tb F.sd)false)])))none)))none)))):=by kernel_rfl
end
open Hs.Sc (fT)
open Hs.So (pQ)
def gTw(tw:Int→Int→Int→ByteArray):List AV→AV
 | [.agg [.x(.int _ a),.x(.int _ b),.x(.int _ c)]]=>zA(tw a b c)
 |_=>.any
section
variable(ts:Nat→ByteArray)(tb:Nat→Bool)(dd sk:Int→ByteArray)(mf:Int→Nat)(tw:Int→Int→Int→ByteArray)(vs:Nat→Nat→Nat→ByteArray)(vb:Nat→Nat→Nat→Bool)(s:fT)(cn:Nat)(x:ByteArray)(i:Int)(pT:ByteArray)(pN:Int)(pB:Bool)
def pS:St:=mkS 265 [(1,.own 0 0),(13,zA x),(cn,iA i)] [.c s.c]
def pE:St:=mkS 265 [(2,zA⟨#[]⟩),(3,iA 11)] []
def FTw(a b c:Int):Prop:=aj Tryz.prog 35 [.agg [iA a,iA b,iA c]](zA(tw a b c))
def p1K:List aV:=[kS Tryz.prog 36(gTo ts tb),kS Tryz.prog 23(gDd dd),kS Tryz.prog 37(gMf mf),kS Tryz.prog 35(gTw tw)]
def p1L(K:Nat→Int):List ByteArray:=[⟨#[115,107,105,110,32,115]⟩,dd i,⟨#[32,115,112,114,101,97,100]⟩,tw(K 0)(K 1)(K 2),⟨#[32,109,105,114,114,111,114]⟩,tw(K 3)(K 4)(K 5),⟨#[32,103,108,97,115,115]⟩,tw(K 6)(K 7)(K 8),⟨#[32,98,101,110,100,32]⟩,ts(mf(K 9)),⟨#[32,59,10]⟩]
def p1C(K:Nat→Int)(o e:Option Out):Option Out:=cond(decide(i<(s.nK:Nat)))(cond(mJ i s.nK||false)(gate(FMf mf(K 9))(gate(FTo ts tb(mf(K 9)))(gate(VE dd i)(gate(FTw tw(K 0)(K 1)(K 2))(gate(FTw tw(K 3)(K 4)(K 5))(gate(FTw tw(K 6)(K 7)(K 8))(cond(YC x(p1L ts dd mf tw i K))o none)))))))none)e
theorem al9:gD Tryz.prog [](p1K ts tb dd mf tw)aM(au Tryz.f13 0)(pS s 14 x i)(fu [1,13,14] [some 0])=p1C ts tb dd mf tw s x i(s.K i.toNat)(some⟨.normal,pS s 14(apL x(p1L ts dd mf tw i(s.K i.toNat)))(aI(i+1)),.any⟩)none:=by kernel_rfl
theorem atg:gD Tryz.prog [](p1K ts tb dd mf tw)aM(au Tryz.f13 0)(pS s 14 x i)(gM [1,13,14] [some 0])=p1C ts tb dd mf tw s x i(s.K i.toNat)none(some⟨.exit 0,pS s 14 x i,.any⟩):=by kernel_rfl
def Hg(o:ByteArray→Option Out):ByteArray→List ByteArray→Option Out
 |s,[]=>o s
 |s,t::r=>cond(mq s t||false)(Hg o(s++t)r)none
def p2K:List aV:=[kS Tryz.prog 33(gTv vs vb),kS Tryz.prog 35(gTw tw)]
def p2C(a:Nat→Nat)(l:Nat→Int)(o:ByteArray→Option Out)(r e:Option Out):Option Out:=cond(decide(i<(s.nL:Nat)))(cond(mJ i s.nL||false)(gate(Qg vs vb a 0)(cond(!(vb(a 0)(a 1)(a 2)))r
 (Hg(fun y=>cond(mJ i s.nL||false)(gate(FTw tw(l 0)(l 1)(l 2))(Hg o y [tw(l 0)(l 1)(l 2),⟨#[32,59,10]⟩]))none)x [⟨#[108,97,109,112]⟩,vs(a 0)(a 1)(a 2),⟨#[32,108,105,103,104,116]⟩])))none)e
theorem akI:gD Tryz.prog [](p2K tw vs vb)aM(au Tryz.f13 1)(pS s 18 x i)(fu [1,13,18] [some 0])=p2C tw vs vb s x i(s.LA i.toNat)(s.LL i.toNat)(fun y=>some⟨.normal,pS s 18 y(aI(i+1)),.any⟩)none none:=by kernel_rfl
theorem aqg:gD Tryz.prog [](p2K tw vs vb)aM(au Tryz.f13 1)(pS s 18 x i)(vI [2,3] [])=p2C tw vs vb s x i(s.LA i.toNat)(s.LL i.toNat)(fun _=>none)(some⟨.ret,pE,.any⟩)none:=by kernel_rfl
theorem aqh:gD Tryz.prog [](p2K tw vs vb)aM(au Tryz.f13 1)(pS s 18 x i)(gM [1,13,18] [some 0])=p2C tw vs vb s x i(s.LA i.toNat)(s.LL i.toNat)(fun _=>none)none(some⟨.exit 2,pS s 18 x i,.any⟩):=by kernel_rfl
def F2(f:Nat)(c:List AV):Prop:=aj Tryz.prog f [.agg c](.aN [zA pT,bA pB])
def p3K:List aV:=[kS Tryz.prog 38(fun _=>.aN [zA pT,bA pB]),kS Tryz.prog 39(gSk sk)]
def p3C(p:Hs.Sc.Jd)(o:ByteArray→Option Out)(r e:Option Out):Option Out:=cond(decide(i<(s.nS:Nat)))(cond(mJ i s.nS||false)(gate(F2 pT pB 38 p.c)(cond(!pB)r
 (Hg(fun y=>cond(mJ i s.nS||false)(gate(FSk sk p.sk)(Hg o y [sk p.sk]))none)x [pT])))none)e
theorem akJ:gD Tryz.prog [](p3K sk pT pB)aM(au Tryz.f13 2)(pS s 21 x i)(fu [1,13,21] [some 0])=p3C sk s x i pT pB(s.S i.toNat)(fun y=>some⟨.normal,pS s 21 y(aI(i+1)),.any⟩)none none:=by kernel_rfl
theorem aqi:gD Tryz.prog [](p3K sk pT pB)aM(au Tryz.f13 2)(pS s 21 x i)(vI [2,3] [])=p3C sk s x i pT pB(s.S i.toNat)(fun _=>none)(some⟨.ret,pE,.any⟩)none:=by kernel_rfl
theorem aqj:gD Tryz.prog [](p3K sk pT pB)aM(au Tryz.f13 2)(pS s 21 x i)(gM [1,13,21] [some 0])=p3C sk s x i pT pB(s.S i.toNat)(fun _=>none)none(some⟨.exit 4,pS s 21 x i,.any⟩):=by kernel_rfl
def p4K:List aV:=[kS Tryz.prog 40(fun _=>.aN [zA pT,iA pN,bA pB]),kS Tryz.prog 39(gSk sk)]
def p4C(p:Hs.Sc.RG)(o:ByteArray→Option Out)(r e:Option Out):Option Out:=cond(decide(i<(s.nO:Nat)))(cond(mJ i s.nO||false)(gate(aj Tryz.prog 40 [pQ p.n p.P,iA(aI((p.n:Int) - 1)),iA 0,iA 0](.aN [zA pT,iA pN,bA pB]))(cond(cond(!pB)true(!(pN==aI((p.n:Int) - 1))))r
 (Hg(fun y=>gate(FSk sk p.sk)(Hg o y [sk p.sk]))x [⟨#[115,111,108,105,100,32]⟩,pT])))none)e
theorem akK:gD Tryz.prog [](p4K sk pT pN pB)aM(au Tryz.f13 3)(pS s 24 x i)(fu [1,13,24] [some 0])=p4C sk s x i pT pN pB(s.O i.toNat)(fun y=>some⟨.normal,pS s 24 y(aI(i+1)),.any⟩)none none:=by kernel_rfl
theorem aqk:gD Tryz.prog [](p4K sk pT pN pB)aM(au Tryz.f13 3)(pS s 24 x i)(vI [2,3] [])=p4C sk s x i pT pN pB(s.O i.toNat)(fun _=>none)(some⟨.ret,pE,.any⟩)none:=by kernel_rfl
theorem aql:gD Tryz.prog [](p4K sk pT pN pB)aM(au Tryz.f13 3)(pS s 24 x i)(gM [1,13,24] [some 0])=p4C sk s x i pT pN pB(s.O i.toNat)(fun _=>none)none(some⟨.exit 6,pS s 24 x i,.any⟩):=by kernel_rfl
def p5K:List aV:=[kS Tryz.prog 41(fun _=>.aN [zA pT,bA pB])]
def p5C(p:Hs.Fm.Fd)(o:ByteArray→Option Out)(r e:Option Out):Option Out:=cond(decide(i<(s.nF:Nat)))(cond(mJ i s.nF||false)(gate(F2 pT pB 41 p.c)(cond(!pB)r(Hg o x [pT])))none)e
theorem akM:gD Tryz.prog [](p5K pT pB)aM(au Tryz.f13 4)(pS s 29 x i)(fu [1,13,29] [some 0])=p5C s x i pT pB(s.F i.toNat)(fun y=>some⟨.normal,pS s 29 y(aI(i+1)),.any⟩)none none:=by kernel_rfl
theorem aqm:gD Tryz.prog [](p5K pT pB)aM(au Tryz.f13 4)(pS s 29 x i)(vI [2,3] [])=p5C s x i pT pB(s.F i.toNat)(fun _=>none)(some⟨.ret,pE,.any⟩)none:=by kernel_rfl
theorem aqn:gD Tryz.prog [](p5K pT pB)aM(au Tryz.f13 4)(pS s 29 x i)(gM [1,13,29] [some 0])=p5C s x i pT pB(s.F i.toNat)(fun _=>none)none(some⟨.exit 8,pS s 29 x i,.any⟩):=by kernel_rfl
end
end Go.Proofs.YtefphimaggjihaaGreatDoor.Pi
namespace Go.Proofs.YtefphimaggjihaaGreatDoor.Pi
open Go.Shelf Go.RowKit Go.Gv
open Hs.Sc (fT)
def gvT(b:Bool)(keep:List Nat)(S0:St)(ex:Exit)(S1:St):dN:=Go.Gv.aei b(fE keep [some 0]S0 ex S1)(fE keep [some 0]S0 .ret pE)
section
variable(ws:Nat→ByteArray)(wb:Nat→Bool)(tw:Int→Int→Int→ByteArray)(vs:Nat→Nat→Nat→ByteArray)(vb:Nat→Nat→Nat→Bool)(s:fT)(e:Int)(y0 y1 y2 y3 y4 y5:ByteArray)(b2 b3 b4 b5:Bool)
def spL:Nat→Option dN:=nA [(12,fE [1,13,14] [some 0](pS s 14 y0 0)(.exit 0)(pS s 14 y1(s.nK:Nat))),(18,gvT b2 [1,13,18](pS s 18 y1 0)(.exit 2)(pS s 18 y2(s.nL:Nat))),(25,gvT b3 [1,13,21](pS s 21 y2 0)(.exit 4)(pS s 21 y3(s.nS:Nat))),(32,gvT b4 [1,13,24](pS s 24 y3 0)(.exit 6)(pS s 24 y4(s.nO:Nat))),(40,gvT b5 [1,13,29](pS s 29 y4 0)(.exit 8)(pS s 29 y5(s.nF:Nat)))]
def spE:Option Out:=some(Out.of(.aN [zA⟨#[]⟩,iA 11]))
def gvO(b:Bool)(S:St)(o:Option Out):Option Out:=cond b(gate(Sub S S)o)(gate(Sub S S)spE)
def Rz(a:Nat→Nat):List ByteArray:=[vs(a 0)(a 1)(a 2),⟨#[32,116,111]⟩,vs(a 3)(a 4)(a 5),⟨#[32,117,112]⟩,vs(a 6)(a 7)(a 8),⟨#[32,119,105,100,101]⟩,ws(a 9),⟨#[32,59,10,115,107,121]⟩]
def UG(l:Nat→Int):List ByteArray:=[tw(l 0)(l 1)(l 2),⟨#[32,59,10]⟩]
def Yp:ByteArray:=⟨#[101,121,101]⟩
def spK:List aV:=[kS Tryz.prog 15(fun _=>iA e),kS Tryz.prog 33(gTv vs vb),kS Tryz.prog 34(gT1 ws wb),kS Tryz.prog 35(gTw tw)]
def spX(o:Option Out):Option Out:=gate(aj Tryz.prog 15 [.agg s.c](iA e))(cond(!(e==0))(some(Out.of(.aN [zA⟨#[]⟩,iA e])))
 (gate(Qg vs vb s.eye 0)(gate(Qg vs vb s.eye 3)(gate(Qg vs vb s.eye 6)(gate(FT1 ws wb s.eye 9)(cond(cond(cond(cond(!(vK vb s.eye 0))true(!(vK vb s.eye 3)))true(!(vK vb s.eye 6)))true(!(wb(s.eye 9))))spE o))))))
def spY:Option Out:=gvO b2(pS s 18 y1 0)(gvO b3(pS s 21 y2 0)(gvO b4(pS s 24 y3 0)(gvO b5(pS s 29 y4 0)(some(Out.of(.aN [zA y5,iA 0]))))))
theorem agZ:evM Tryz.prog [](spK ws wb tw vs vb e) [born 88](spL s(apL(apL Yp(Rz ws vs s.eye))(UG tw s.jE))y1 y2 y3 y4 y5 b2 b3 b4 b5)Tryz.f13 [.agg s.c]ret =
 spX ws wb vs vb s e(Hg(fun y=>gate(FTw tw(s.jE 0)(s.jE 1)(s.jE 2))(Hg(fun y=>gate(Sub(pS s 14 y 0)(pS s 14 y 0))(spY s y1 y2 y3 y4 y5 b2 b3 b4 b5))y(UG tw s.jE)))Yp(Rz ws vs s.eye)):=by kernel_rfl
end
end Go.Proofs.YtefphimaggjihaaGreatDoor.Pi
namespace Go.Proofs.YtefphimaggjihaaGreatDoor.Pi
open Go.Shelf Go.RowKit Go.Gv
open Go.Ev (dK aL key cB)
open Hs Hs.So Hs.Sc Hs.Fm
theorem Lc {n:Int}(h:n.natAbs≤1000000):cB(gJ n):=by
 refine eG ?_
 have hx:=ZF h
 have n1:aL 13920209183539462144=false:=by decide +kernel
 have n2:aL 4696837146684686336=false:=by decide +kernel
 have e1:key 13920209183539462144=-4696837146684686336:=by decide +kernel
 have e2:key 4696837146684686336=4696837146684686336:=by decide +kernel
 have hr:=ZG h
 unfold eP
 rw[Go.Ev.OY hx n1,Go.Ev.OZ hx n2,e1,e2,decide_eq_true(by omega),decide_eq_true(by omega)]
 rfl
theorem ahh {n:Int}(h:n.natAbs≤1000000):KT(gJ n)=lB(cK n):=by
 obtain⟨h1,h2⟩:=OW(Lc h)(n:=n)⟨h,rfl⟩
 unfold KT
 rw[h1,h2]
 rfl
def uW(k:Int):ByteArray:=lB(uI k)
theorem XO {k:Int}(h0:0≤k)(h1:k<16):FSk uW k:=ak1 h0(by omega)
theorem ahi(n:Int):FMf gJ n:=M8 n
theorem YB {n:Int}(h0:0≤n)(h1:n<100000000):VE ru n:=sK h0 h1
theorem arC(x:Nat):KT x=lB(cond(bG x)(cK(dF x)) []):=by unfold KT;cases bG x<;>rfl
def fxL(F:Hs.Fm.Fd):List(List UInt8):=[Lib.itoa F.W,[32],Lib.itoa F.H,[32,97,116],cond(vX F.at_ 0)(qd [F.at_ 0,F.at_ 1,F.at_ 2]) [],[32,115,105,100,101,32],cond(bG F.sd)(cK(dF F.sd)) [],[32,104,105,103,104]]
def fxH(F:Hs.Fm.Fd):List UInt8:=[102,105,101,108,100,32]++(fxL F).flatten
def NQ(F:Hs.Fm.Fd)(j:Nat):List UInt8:=fxH F++tks true(vJ cK F j)
structure FdK(F:Hs.Fm.Fd):Prop where
 at_:cB(F.at_ 0)∧cB(F.at_ 1)∧cB(F.at_ 2)
 sd:cB F.sd
 n:F.n≤64
 W:2≤F.W∧F.W≤8
 H:2≤F.H∧F.H≤8
 sk:0≤F.sk∧F.sk<16
 hs:∀q,q<F.n→(F.hs q).natAbs≤1000000
theorem arD {F:Hs.Fm.Fd}(h:L8 F.c=0):FdK F:=by
 obtain⟨h1,h2,h3,h4,h5,h6,_⟩:dL(F.at_ 0)(F.at_ 1)(F.at_ 2)=true∧eP F.sd=true∧F.n≤64∧(2≤F.W∧F.W≤8∧2≤F.H∧F.H≤8)∧(0≤F.sk∧F.sk<16)∧(∀q,q<F.n→oU(F.hs q)=false)∧F.jM=0∧(kM(bx F)==0)=true:=(uN F).2 h
 obtain⟨f1,f2,f3⟩:=oo h1
 refine⟨⟨eG f1,eG f2,eG f3⟩,eG h2,h3,by omega,by omega,h5,fun q hq=>?_⟩
 obtain⟨b1,b2⟩:=uh(h6 q hq)
 have b1:=of_decide_eq_false b1
 have b2:=of_decide_eq_false b2
 omega
theorem Cu {n:Int}(h:n.natAbs≤1000000):(cK n).length≤20:=(zk _(Nat.le_trans h(by decide))).2
theorem KC(x y z:Nat):(qd [x,y,z]).length≤63:=jX true(aW(lN x)(aW(lN y)(aW(lN z)iU)))
theorem U5 {α:Type}{b:Bool}{l:List α}{k:Nat}(h:l.length≤k):(cond b l []).length≤k:=by cases b<;>simp;exact h
theorem Qh {F:Hs.Fm.Fd}(h:FdK F):(fxH F).length≤200:=by
 have w:=(lu(n:=F.W)(by have:=h.W;omega)(by have:=h.W;omega)).2
 have hh:=(lu(n:=F.H)(by have:=h.H;omega)(by have:=h.H;omega)).2
 have a:=U5(b:=vX F.at_ 0)(KC(F.at_ 0)(F.at_ 1)(F.at_ 2))
 have b:=U5(b:=bG F.sd)(lN F.sd)
 unfold fxH fxL
 simp only[List.flatten_cons,List.flatten_nil,List.length_append,List.length_cons,List.length_nil]
 have b':(cond(bG F.sd)(cK(dF F.sd)) []).length≤20:=b
 omega
theorem XR {F:Hs.Fm.Fd}(h:FdK F) {j:Nat}(hj:j≤F.n):(tks true(vJ cK F j)).length≤21*64:=by
 have f:Hz 64(vJ cK F j):=⟨by unfold vJ;simp;have:=h.n;omega,fun t ht=>by
  unfold vJ at ht
  obtain⟨q,hq,rfl⟩:=List.mem_map.1 ht
  have:=List.mem_range.1 hq
  exact Cu(h.hs q(by omega))⟩
 exact jX true f
theorem EA {k:Int}(h0:0≤k)(h1:k<16):(uI k).length≤43:=by rw[←IV];exact DJ h0 h1 true
section
variable {F:Hs.Fm.Fd}
theorem ahj(h:FdK F)(v f:Bool):bF Tryz.prog(.loop(au Tryz.f41 0))(fwS F(lB(NQ F 0))v f 0)(.exit 0)(fwS F(lB(NQ F F.n))v f(F.n:Nat)):=by
 have hK:∀e,e∈fwK KT bG ru uW gJ sH uU→tX Tryz.prog e:=ak aD(ak aD(ak aD(ak aD(ak aD av))))
 refine aU(fun j=>fwS F(lB(NQ F j))v f(j:Nat))F.n(.exit 0)_(by simp)(fun j hj=>?_) ?_
 ·have hh:=h.hs j hj
  have hd:=Cu hh
  have l0:=Qh h
  have l1:=XR h(j:=j)(by omega)
  have hn:=h.n
  have hl:(NQ F j).length≤2000:=by unfold NQ;rw[List.length_append];omega
  refine aF(aT _ _)aB hK aA((alW KT bG ru uW gJ sH uU F(lB(NQ F j))v f(j:Nat)).trans ?_)
  unfold fwC
  rw[dec_lt hj,gy hj,Int.toNat_natCast,ah(ahi _),ah(aaL(Lc hh)),ahh hh,show VD=lB [32]from rfl,kW(by rw[aY,aY];simp;omega),gZ,kW(by rw[aY,aY];simp;omega),gZ,bD(by omega)]
  have e:(NQ F j++[32])++cK(F.hs j)=NQ F(j+1):=by
   unfold NQ
   rw[Kr]
   simp
  rw[e]
  rfl
 ·refine aF(bU _ _)aB hK aA((arF KT bG ru uW gJ sH uU F(lB(NQ F F.n))v f(F.n:Nat)).trans ?_)
  unfold fwC
  rw[bQ]
  rfl
def aBZ(F:Hs.Fm.Fd):AV:=.aN [zA(lB(NQ F F.n++uI F.sk)),bA(!(J6 bG F))]
theorem CR(h:FdK F):aj Tryz.prog 41 [.agg F.c](aBZ F):=by
 have hK:∀e,e∈fwK KT bG ru uW gJ sH uU→tX Tryz.prog e:=ak aD(ak aD(ak aD(ak aD(ak aD av))))
 have hL0:fwL KT ru sH F=(fxL F).map lB:=by
  unfold fwL fxL
  rw[arC]
  rfl
 have l0:=Qh h
 have l0X:([102,105,101,108,100,32]:List UInt8).length+(fxL F).flatten.length≤200:=by rw[←List.length_append];exact l0
 have l1:=XR h(j:=F.n)(Nat.le_refl _)
 have l2:=EA h.sk.1 h.sk.2
 have e0:apL fwW(fwL KT ru sH F)=lB(NQ F 0):=by
  rw[hL0,show fwW=lB [102,105,101,108,100,32]from rfl,Gj]
  unfold NQ fxH vJ
  simp
 have hc:YC fwW(fwL KT ru sH F)=true:=by
  rw[hL0,show fwW=lB [102,105,101,108,100,32]from rfl]
  exact I7 _ _(by omega)
 have key:bF Tryz.prog(.loop(au Tryz.f41 0))(fw0 KT bG ru sH uU F)(.exit 0)(fwS F(lB(NQ F F.n))(uU(F.at_ 0)(F.at_ 1)(F.at_ 2))(bG F.sd)(F.n:Nat)):=by
  unfold fw0
  rw[e0]
  exact ahj h _ _
 have hL:=Qe(c:=dG Tryz.f41)(i:=5)0(by kernel_rfl)(by kernel_rfl)(aR(keep:=QT)(τ:=[some 0])key)
 refine aP aB hK Tryz.func41(by kernel_rfl)(by kernel_rfl)hL rfl((axm KT bG ru uW gJ sH uU F(lB(NQ F F.n))).trans ?_)
 rw[ah(show Qg sH uU F.at_ 0 from Ua h.at_.1 h.at_.2.1 h.at_.2.2),ah(aaL h.sd),ah(YB(by have:=h.W;omega)(by have:=h.W;omega)),ah(YB(by have:=h.H;omega)(by have:=h.H;omega)),hc,ah(Sub.refl _),ah(XO h.sk.1 h.sk.2)]
 have hl:(NQ F F.n).length≤2000:=by unfold NQ;rw[List.length_append];omega
 have e1:uW F.sk=lB(uI F.sk):=rfl
 rw[e1,kW(by rw[aY,aY];omega),gZ]
 have e2:cond(uU(F.at_ 0)(F.at_ 1)(F.at_ 2))(bG F.sd)false=!(J6 bG F):=by
  unfold J6
  rw[nW]
  show cond(vX F.at_ 0)(bG F.sd)false=_
  cases vX F.at_ 0<;>cases bG F.sd<;>rfl
 rw[e2]
 rfl
theorem akL(hb:J6 bG F=false):NQ F F.n++uI F.sk=tks false(ZV cK dF F)++iD true [oM F.sk]:=by
 unfold J6 at hb
 rw[nW]at hb
 have h1:vX F.at_ 0=true:=by cases h:vX F.at_ 0;rw[h]at hb;cases hb;rfl
 have h2:bG F.sd=true:=by cases h:bG F.sd;rw[h1,h]at hb;cases hb;rfl
 rw[IV]
 unfold NQ fxH fxL ZV IL
 rw[h1,h2]
 simp[vT,Jy,qd]
end
theorem ahK {B:Nat→Bool}:∀{n:Nat},(∀i,i<n→B i=false)→mh B n=false
 | 0,_=>rfl
 |n+1,h=>by show(mh B n||B n)=false;rw[ahK fun i hi=>h i(by omega),h n(by omega)];rfl
theorem anI {B:Nat→Bool}:∀{n K:Nat},K<n→B K=true→mh B n=true
 | 0,_,h,_=>by omega
 |n+1,K,h,hb=>by
  show(mh B n||B n)=true
  by_cases e:K=n
  ·subst e;rw[hb];simp
  ·rw[anI(show K<n by omega)hb];rfl
theorem Ez {c:Code}{keep:List Nat}{S:ByteArray→Int→St}{ex:Exit}{B:Nat→Bool}{T:Nat→ByteArray}{n:Nat}(hex:ex≠.normal)(h1:∀k:Nat,k<n→B k=false→bF Tryz.prog c(S(T k)(k:Nat)) .normal(S(T(k+1))((k+1:Nat):Int)))
  (h2:∀k:Nat,k<n→B k=true→bF Tryz.prog c(S(T k)(k:Nat)) .ret pE)(h3:bF Tryz.prog c(S(T n)(n:Nat))ex(S(T n)(n:Nat))):gI Tryz.prog c(gvT(!(mh B n))keep(S(T 0)0)ex(S(T n)(n:Nat))):=by
 rcases qL(fun i=>!(B i))n with hl | ⟨K,hK,hp,hq⟩
 ·have hl':∀i,i<n→B i=false:=fun i hi=>by simpa using hl i hi
  refine zn(fun _=>?_)fun hb=>?_
  ·exact aR(aU(fun k=>S(T k)(k:Nat))n ex _ hex(fun k hk=>h1 k hk(hl' k hk))h3)
  ·rw[ahK hl']at hb;cases hb
 ·have hp':B K=true:=by simpa using hp
  have hq':∀i,i<K→B i=false:=fun i hi=>by simpa using hq i hi
  refine zn(fun hb=>?_)fun _=>?_
  ·rw[anI hK hp']at hb;cases hb
  ·exact aR(aU(fun k=>S(T k)(k:Nat))K .ret _(by simp)(fun k hk=>h1 k(by omega)(hq' k hk))(h2 K hK hp'))
theorem uV(o:ByteArray→Option Out):∀(l:List UInt8)(r:List(List UInt8)),l.length+r.flatten.length≤1000000000→Hg o(lB l)(r.map lB)=o(lB(l++r.flatten))
 |l,[],_=>by simp[Hg]
 |l,t::r,h=>by
  rw[List.flatten_cons,List.length_append]at h
  show cond(mq(lB l)(lB t)||false)(Hg o(lB l++lB t)(r.map lB))none=_
  rw[kW(by rw[aY,aY];omega),gZ,uV o(l++t)r(by rw[List.length_append];omega),List.flatten_cons,List.append_assoc]
  rfl
def NP(a b c:Int):ByteArray:=lB(tks true [Lib.itoa a,Lib.itoa b,Lib.itoa c])
theorem Ub {l:Nat→Int}(h:∀q,q<3→0≤l q∧l q≤65536):FTw NP(l 0)(l 1)(l 2):=alS h
theorem KD {l:Nat→Int}(h:∀q,q<3→0≤l q∧l q≤65536):(tks true(Bz l)).length≤63:=jX true(JA h)
structure ScK(s:fT):Prop where
 few:s.nS≤64∧s.nO≤8∧s.nF≤2∧s.nK≤16∧s.nL≤4
 eye:∀i,i<10→cB(s.eye i)
 jE:∀q,q<3→0≤s.jE q∧s.jE q≤65536
 K:∀j,j<s.nK→(∀q,q<9→0≤s.K j q∧s.K j q≤1000)∧100≤s.K j 9∧s.K j 9≤10000
 L:∀j,j<s.nL→(∀i,i<3→cB(s.LA j i))∧∀q,q<3→0≤s.LL j q∧s.LL j q≤65536
 S:∀j,j<s.nS→(1≤(s.S j).k∧(s.S j).k≤6)∧(∀i,i<11→cB((s.S j).a i))∧0≤(s.S j).sk∧(s.S j).sk<16
 O:∀j,j<s.nO→(1≤(s.O j).n∧(s.O j).n≤16)∧PM(s.O j).n(s.O j).P∧HS(s.O j).n(s.O j).P∧0≤(s.O j).sk∧(s.O j).sk<16
 F:∀j,j<s.nF→FdK(s.F j)
theorem axw {a:Nat→Nat}(h:dL(a 0)(a 1)(a 2)=true):∀i,i<3→cB(a i):=fun i hi=>by
 obtain⟨f1,f2,f3⟩:=oo h
 match i,hi with
 | 0,_=>exact eG f1
 | 1,_=>exact eG f2
 | 2,_=>exact eG f3
theorem ahL {a:Nat→Nat}(h:Im a=false):∀i,i<11→cB(a i):=fun i hi=>by
 obtain⟨r0,r3,r6,r9,r10⟩:=ahM h
 obtain⟨a0,a1,a2⟩:=oo r0
 obtain⟨a3,a4,a5⟩:=oo r3
 obtain⟨a6,a7,a8⟩:=oo r6
 match i,hi with
 | 0,_=>exact eG a0
 | 1,_=>exact eG a1
 | 2,_=>exact eG a2
 | 3,_=>exact eG a3
 | 4,_=>exact eG a4
 | 5,_=>exact eG a5
 | 6,_=>exact eG a6
 | 7,_=>exact eG a7
 | 8,_=>exact eG a8
 | 9,_=>exact eG r9
 | 10,_=>exact eG r10
theorem asf {s:fT}(h:yP s=0):ScK s:=by
 have few:=(WE h).2
 unfold yP at h
 obtain⟨_,h⟩:=c4(by decide)h
 obtain⟨hK,h⟩:=c0 h
 obtain⟨hT,h⟩:=c0 h
 obtain⟨hL,h⟩:=c0 h
 obtain⟨hY,h⟩:=c4(by decide)h
 unfold thE at hT
 obtain⟨hS,hT⟩:=c0 hT
 obtain⟨hO,hF⟩:=c0 hT
 obtain⟨y0,y3,y6,y9⟩:=anJ h
 refine⟨few,fun i hi=>?_,zm(jC hY),fun j hj=>Pk(k:=s.K j)(dh _ hK j hj),fun j hj=>?_,fun j hj=>?_,fun j hj=>?_,fun j hj=>arD(Sl(dh _ hF j hj))⟩
 ·obtain⟨a0,a1,a2⟩:=oo y0
  obtain⟨a3,a4,a5⟩:=oo y3
  obtain⟨a6,a7,a8⟩:=oo y6
  match i,hi with
  | 0,_=>exact eG a0
  | 1,_=>exact eG a1
  | 2,_=>exact eG a2
  | 3,_=>exact eG a3
  | 4,_=>exact eG a4
  | 5,_=>exact eG a5
  | 6,_=>exact eG a6
  | 7,_=>exact eG a7
  | 8,_=>exact eG a8
  | 9,_=>exact eG y9
 ·have hl:lmE(s.LA j)(s.LL j)=0:=dh _ hL j hj
  unfold lmE at hl
  obtain⟨a1,hl⟩:=c4(by decide)hl
  obtain⟨a2,_⟩:=c4(by decide)hl
  exact⟨axw(jC a1),zm(jC a2)⟩
 ·have hm:jG(fC(s.S j).k(s.S j).a(s.S j).sk)=0:=Sl(dh _ hS j hj)
  obtain⟨m1,m2,m3⟩:=kI hm
  exact⟨m2,ahL m1,m3⟩
 ·have hm:Nb(s.O j).n(s.O j).P(s.O j).sk=0:=Sl(dh _ hO j hj)
  unfold Nb at hm
  obtain⟨n1,hm⟩:=c4(by decide)hm
  obtain⟨b2,hm⟩:=c4(by decide)hm
  obtain⟨n1,n2⟩:=uh n1
  have n1:=of_decide_eq_false n1
  have n2:=of_decide_eq_false n2
  obtain⟨p1,p2⟩:=Uv(dh _ hm)
  exact⟨by omega,p1,fun i hi h0=>⟨(kI(p2 i hi h0)).2.1,ahL(kI(p2 i hi h0)).1⟩,DK b2⟩
section
variable {s:fT}
abbrev E1(s:fT)(j:Nat):List UInt8:=comp(skI cK s j)false
abbrev E2(s:fT)(j:Nat):List UInt8:=comp(lmI cK dF bG s j)false
abbrev E3(s:fT)(j:Nat):List UInt8:=comp(shI cK dF bG s j)false
abbrev E4(s:fT)(j:Nat):List UInt8:=comp(ZW cK dF bG s j)false
abbrev E5(s:fT)(j:Nat):List UInt8:=comp(feI cK dF bG s j)false
theorem al8(h:ScK s) {j:Nat}(hj:j<s.nK) {y:List UInt8}(hy:y.length≤900000):bF Tryz.prog(au Tryz.f13 0)(pS s 14(lB y)(j:Nat)) .normal(pS s 14(lB(y++E1 s j))((j+1:Nat):Int)):=by
 obtain⟨k1,k2,k3⟩:=h.K j hj
 have hn:=h.few
 have r0:∀q,q<3→0≤s.K j q∧s.K j q≤65536:=fun q hq=>by have:=k1 q(by omega);omega
 have r3:∀q,q<3→0≤(fun q=>s.K j(3+q))q∧(fun q=>s.K j(3+q))q≤65536:=fun q hq=>by have:=k1(3+q)(by omega);show 0≤s.K j(3+q)∧s.K j(3+q)≤65536;omega
 have r6:∀q,q<3→0≤(fun q=>s.K j(6+q))q∧(fun q=>s.K j(6+q))q≤65536:=fun q hq=>by have:=k1(6+q)(by omega);show 0≤s.K j(6+q)∧s.K j(6+q)≤65536;omega
 have hb:(s.K j 9).natAbs≤1000000:=by omega
 have el:p1L KT ru gJ NP(j:Nat)(s.K j)=List.map lB [[115,107,105,110,32,115],Lib.itoa(j:Nat),[32,115,112,114,101,97,100],tks true(Bz(s.K j)),[32,109,105,114,114,111,114],tks true(Bz fun q=>s.K j(3+q)),[32,103,108,97,115,115],tks true(Bz fun q=>s.K j(6+q)),[32,98,101,110,100,32],cK(s.K j 9),[32,59,10]]:=by
  unfold p1L
  rw[ahh hb]
  rfl
 have ef:[[115,107,105,110,32,115],Lib.itoa(j:Nat),[32,115,112,114,101,97,100],tks true(Bz(s.K j)),[32,109,105,114,114,111,114],tks true(Bz fun q=>s.K j(3+q)),[32,103,108,97,115,115],tks true(Bz fun q=>s.K j(6+q)),[32,98,101,110,100,32],cK(s.K j 9),[32,59,10]].flatten=E1 s j:=by
  show _=iD false(skT cK(s.K j)(fun q=>s.K j(3+q))(fun q=>s.K j(6+q))(s.K j 9)(j:Nat))++[]
  simp[iD,skT,Bz,oM,W1,W2,W3,W4,W5]
 have hE:(E1 s j).length≤1000:=by
  rw[←ef]
  have a0:=KD r0
  have a3:=KD r3
  have a6:=KD r6
  have a9:=Cu hb
  have ai:=(lu(n:=(j:Nat))(by omega)(by omega)).2
  simp only[List.flatten_cons,List.flatten_nil,List.length_append,List.length_cons,List.length_nil]
  omega
 refine aF(aT _ _)aB(ak aD(ak aD(ak aD(ak aD av))))aA((al9 KT bG ru gJ NP s(lB y)(j:Nat)).trans ?_)
 unfold p1C
 rw[dec_lt hj,gy hj,Int.toNat_natCast,ah(ahi _),ah(aaL(Lc hb)),ah(YB(by omega)(by omega)),ah(Ub r0),ah(show FTw NP(s.K j 3)(s.K j 4)(s.K j 5)from Ub r3),ah(show FTw NP(s.K j 6)(s.K j 7)(s.K j 8)from Ub r6),el,I7 y _(by rw[ef];omega),Gj,ef,bD(by omega)]
 rfl
end
section
variable {s:fT}
theorem ana(h:ScK s) {j:Nat}(hj:j<s.nL) {y:List UInt8}(hy:y.length≤900000)(o:ByteArray→Option Out)(r e:Option Out):p2C NP sH uU s(lB y)(j:Nat)(s.LA j)(s.LL j)o r e=cond(vX(s.LA j)0)(o(lB(y++E2 s j)))r:=by
 obtain⟨n1,n2⟩:=h.L j hj
 unfold p2C
 rw[dec_lt hj,gy hj,ah(show Qg sH uU(s.LA j)0 from Ua(n1 0(by omega))(n1 1(by omega))(n1 2(by omega)))]
 show cond(!(vX(s.LA j)0))r _=_
 cases hv:vX(s.LA j)0
 ·rfl
 ·have ev:sH(s.LA j 0)(s.LA j 1)(s.LA j 2)=lB(qd [s.LA j 0,s.LA j 1,s.LA j 2]):=BJ hv
  have l1:=KC(s.LA j 0)(s.LA j 1)(s.LA j 2)
  have l2:=KD n2
  have c1:=uV(fun y=>cond(mJ((j:Nat):Int)s.nL||false)(gate(FTw NP(s.LL j 0)(s.LL j 1)(s.LL j 2))(Hg o y [NP(s.LL j 0)(s.LL j 1)(s.LL j 2),⟨#[32,59,10]⟩]))none)y [[108,97,109,112],qd [s.LA j 0,s.LA j 1,s.LA j 2],[32,108,105,103,104,116]](by
   simp only[List.flatten_cons,List.flatten_nil,List.length_append,List.length_cons,List.length_nil]
   omega)
  have c2:=uV o(y++[[108,97,109,112],qd [s.LA j 0,s.LA j 1,s.LA j 2],[32,108,105,103,104,116]].flatten) [tks true(Bz(s.LL j)),[32,59,10]](by
   simp only[List.flatten_cons,List.flatten_nil,List.length_append,List.length_cons,List.length_nil]
   omega)
  rw[ev]
  show Hg _(lB y)(List.map lB [[108,97,109,112],qd [s.LA j 0,s.LA j 1,s.LA j 2],[32,108,105,103,104,116]])=_
  rw[gy hj]at c1
  rw[c1,ah(Ub n2)]
  refine Eq.trans(show _=Hg o(lB(y++[[108,97,109,112],qd [s.LA j 0,s.LA j 1,s.LA j 2],[32,108,105,103,104,116]].flatten))(List.map lB [tks true(Bz(s.LL j)),[32,59,10]])from rfl) ?_
  rw[c2,cond_true]
  congr 2
  show _=y++(iD false(WC cK dF(s.LA j)(s.LL j))++[])
  simp[iD,WC,Bz,vT,qd,Jy]
theorem anb(j:Nat):fU(lmI cK dF bG s j)=!(vX(s.LA j)0):=by
 show(vB bG(s.LA j)0||false)=_
 rw[nW,Bool.or_false]
theorem afY(h:ScK s) {y:List UInt8}(hy:y.length+(bY(E2 s)s.nL).length≤900000):gI Tryz.prog(au Tryz.f13 1)(gvT(!(mh(fun j=>fU(lmI cK dF bG s j))s.nL)) [1,13,18](pS s 18(lB(y++bY(E2 s)0))0)(.exit 2)(pS s 18(lB(y++bY(E2 s)s.nL))(s.nL:Nat))):=by
 have hK:∀e,e∈p2K NP sH uU→tX Tryz.prog e:=ak aD(ak aD av)
 have hn:=h.few
 have hle:∀j,j≤s.nL→(y++bY(E2 s)j).length≤900000:=fun j hj=>by rw[List.length_append];have:=wD(E:=E2 s)hj;omega
 refine Ez(S:=pS s 18)(T:=fun k=>lB(y++bY(E2 s)k))(by simp)(fun j hj hb=>?_)(fun j hj hb=>?_) ?_
 ·refine aF(aT _ _)aB hK aA((akI NP sH uU s(lB(y++bY(E2 s)j))(j:Nat)).trans ?_)
  rw[anb]at hb
  have hv:vX(s.LA j)0=true:=jC hb
  rw[Int.toNat_natCast,ana h hj(hle j(by omega)),hv,bD(by omega)]
  show some _=some _
  rw[List.append_assoc]
  rfl
 ·refine aF(gQ _ _)aB hK aA((aqg NP sH uU s(lB(y++bY(E2 s)j))(j:Nat)).trans ?_)
  rw[anb]at hb
  have hv:vX(s.LA j)0=false:=by cases hc:vX(s.LA j)0;rfl;rw[hc]at hb;cases hb
  rw[Int.toNat_natCast,ana h hj(hle j(by omega)),hv]
  rfl
 ·refine aF(bU _ _)aB hK aA((aqh NP sH uU s(lB(y++bY(E2 s)s.nL))(s.nL:Nat)).trans ?_)
  unfold p2C
  rw[bQ]
  rfl
abbrev pT3(s:fT)(j:Nat):List UInt8:=cond(allT(s.S j).a)(tks false(yE cK dF(s.S j).k(s.S j).a)) []
theorem anc(h:ScK s) {j:Nat}(hj:j<s.nS) {y:List UInt8}(hy:y.length≤900000)(o:ByteArray→Option Out)(r e:Option Out):p3C uW s(lB y)(j:Nat)(lB(pT3 s j))(!(Di bG(s.S j).k(s.S j).a(s.S j).sk))(s.S j)o r e=cond(Di bG(s.S j).k(s.S j).a(s.S j).sk)r(o(lB(y++E3 s j))):=by
 obtain⟨n1,n2,n3,n4⟩:=h.S j hj
 unfold p3C
 rw[dec_lt hj,gy hj,ah(show F2(lB(pT3 s j))(!(Di bG(s.S j).k(s.S j).a(s.S j).sk))38(s.S j).c from NA(s.S j).sk n1 n2)]
 cases hb:Di bG(s.S j).k(s.S j).a(s.S j).sk
 ·have hA:=aaA n1 n2 hb
  have l1:(tks false(yE cK dF(s.S j).k(s.S j).a)).length≤273:=jX false(DI _ _)
  have l2:=EA n3 n4
  have eT:pT3 s j=tks false(yE cK dF(s.S j).k(s.S j).a):=by show cond _ _ _=_;rw[hA];rfl
  rw[eT]
  have c1:=uV(fun y=>cond(mJ((j:Nat):Int)s.nS||false)(gate(FSk uW(s.S j).sk)(Hg o y [uW(s.S j).sk]))none)y [tks false(yE cK dF(s.S j).k(s.S j).a)](by simp only[List.flatten_cons,List.flatten_nil,List.length_append,List.length_nil];omega)
  have c2:=uV o(y++[tks false(yE cK dF(s.S j).k(s.S j).a)].flatten) [uI(s.S j).sk](by simp only[List.flatten_cons,List.flatten_nil,List.length_append,List.length_nil];omega)
  refine Eq.trans(show _=Hg _(lB y)(List.map lB [tks false(yE cK dF(s.S j).k(s.S j).a)])from rfl) ?_
  rw[gy hj]at c1
  rw[c1,ah(XO n3 n4)]
  refine Eq.trans(show _=Hg o(lB(y++[tks false(yE cK dF(s.S j).k(s.S j).a)].flatten))(List.map lB [uI(s.S j).sk])from rfl) ?_
  rw[c2,cond_false,←IV]
  congr 2
  show _=y++(tks false(yE cK dF(s.S j).k(s.S j).a)++(iD true [oM(s.S j).sk]++[]))
  simp only[List.flatten_cons,List.flatten_nil,List.append_nil,List.append_assoc]
 ·rfl
theorem ane(j:Nat):fU(shI cK dF bG s j)=Di bG(s.S j).k(s.S j).a(s.S j).sk:=by
 show(Di bG(s.S j).k(s.S j).a(s.S j).sk||(false||false))=_
 simp
theorem afZ(h:ScK s) {y:List UInt8}(hy:y.length+(bY(E3 s)s.nS).length≤900000):gI Tryz.prog(au Tryz.f13 2)(gvT(!(mh(fun j=>fU(shI cK dF bG s j))s.nS)) [1,13,21](pS s 21(lB(y++bY(E3 s)0))0)(.exit 4)(pS s 21(lB(y++bY(E3 s)s.nS))(s.nS:Nat))):=by
 have hK:∀(a:ByteArray)(b:Bool)e,e∈p3K uW a b→tX Tryz.prog e:=fun _ _=>ak aD(ak aD av)
 have hn:=h.few
 have hle:∀j,j≤s.nS→(y++bY(E3 s)j).length≤900000:=fun j hj=>by rw[List.length_append];have:=wD(E:=E3 s)hj;omega
 refine Ez(S:=pS s 21)(T:=fun k=>lB(y++bY(E3 s)k))(by simp)(fun j hj hb=>?_)(fun j hj hb=>?_) ?_
 ·refine aF(aT _ _)aB(hK _ _)aA((akJ uW s(lB(y++bY(E3 s)j))(j:Nat)(lB(pT3 s j))(!(Di bG(s.S j).k(s.S j).a(s.S j).sk))).trans ?_)
  rw[ane]at hb
  rw[Int.toNat_natCast,anc h hj(hle j(by omega)),hb,bD(by omega),cond_false,List.append_assoc]
  rfl
 ·refine aF(gQ _ _)aB(hK _ _)aA((aqi uW s(lB(y++bY(E3 s)j))(j:Nat)(lB(pT3 s j))(!(Di bG(s.S j).k(s.S j).a(s.S j).sk))).trans ?_)
  rw[ane]at hb
  rw[Int.toNat_natCast,anc h hj(hle j(by omega)),hb]
  rfl
 ·refine aF(bU _ _)aB(hK⟨#[]⟩false)aA((aqj uW s(lB(y++bY(E3 s)s.nS))(s.nS:Nat)⟨#[]⟩false).trans ?_)
  unfold p3C
  rw[bQ]
  rfl
abbrev Ry(s:fT)(j:Nat):List UInt8 × Int × Bool:=oG(s.O j).P 4((s.O j).n - 1)0
theorem anf(h:ScK s) {j:Nat}(hj:j<s.nO) {y:List UInt8}(hy:y.length≤900000)(o:ByteArray→Option Out)(r e:Option Out):p4C uW s(lB y)(j:Nat)(lB(Ry s j).1)(Ry s j).2.1(Ry s j).2.2(s.O j)o r e=cond(PO bG(s.O j).n(s.O j).P)r(o(lB(y++E4 s j))):=by
 obtain⟨⟨n1,n2⟩,hP,hS,k1,k2⟩:=h.O j hj
 have hw:aI(((s.O j).n:Int) - 1)=(((s.O j).n - 1:Nat):Int):=by rw[aO(by omega)(by omega)];omega
 have hp:aj Tryz.prog 40 [pQ(s.O j).n(s.O j).P,iA(((s.O j).n - 1:Nat):Int),iA 0,iA 0](.aN [zA(lB(Ry s j).1),iA(Ry s j).2.1,bA(Ry s j).2.2]):=Fx n2 hP hS 3(by omega)((s.O j).n - 1)0(by omega)
 obtain⟨q1,q2⟩:=av6 n1 n2 hP hS
 unfold p4C
 rw[dec_lt hj,gy hj,hw,ah hp,q1]
 cases hb:PO bG(s.O j).n(s.O j).P
 ·obtain⟨q3,q4⟩:=q2 hb
  have l1:(Ry s j).1.length≤16000:=by have:=Eo(s.O j).P 4((s.O j).n - 1)0;show(oG(s.O j).P 4((s.O j).n - 1)0).1.length≤16000;omega
  have l2:=EA k1 k2
  have c1:=uV(fun y=>gate(FSk uW(s.O j).sk)(Hg o y [uW(s.O j).sk]))y [[115,111,108,105,100,32],(Ry s j).1](by simp only[List.flatten_cons,List.flatten_nil,List.length_append,List.length_cons,List.length_nil];omega)
  have c2:=uV o(y++[[115,111,108,105,100,32],(Ry s j).1].flatten) [uI(s.O j).sk](by simp only[List.flatten_cons,List.flatten_nil,List.length_append,List.length_cons,List.length_nil];omega)
  refine Eq.trans(show _=Hg _(lB y)(List.map lB [[115,111,108,105,100,32],(Ry s j).1])from rfl) ?_
  rw[c1,ah(XO k1 k2)]
  refine Eq.trans(show _=Hg o(lB(y++[[115,111,108,105,100,32],(Ry s j).1].flatten))(List.map lB [uI(s.O j).sk])from rfl) ?_
  rw[c2,cond_false,←IV]
  congr 2
  have q3':(Ry s j).1=tks false(FI cK dF(s.O j).P(s.O j).n((s.O j).n - 1)):=q3
  show _=y++(tks false(soT cK dF(s.O j).n(s.O j).P)++(iD true [oM(s.O j).sk]++[]))
  unfold soT
  rw[q4,cond_true,q3']
  have et:tks false(soW::FI cK dF(s.O j).P(s.O j).n((s.O j).n - 1))=[115,111,108,105,100]++tks true(FI cK dF(s.O j).P(s.O j).n((s.O j).n - 1)):=rfl
  rw[et,XP(XQ(by omega))]
  simp only[List.flatten_cons,List.flatten_nil,List.append_nil,List.append_assoc,List.cons_append,List.nil_append]
 ·rfl
theorem ang(j:Nat):fU(ZW cK dF bG s j)=PO bG(s.O j).n(s.O j).P:=by
 show(PO bG(s.O j).n(s.O j).P||(false||false))=_
 simp
theorem af0(h:ScK s) {y:List UInt8}(hy:y.length+(bY(E4 s)s.nO).length≤900000):gI Tryz.prog(au Tryz.f13 3)(gvT(!(mh(fun j=>fU(ZW cK dF bG s j))s.nO)) [1,13,24](pS s 24(lB(y++bY(E4 s)0))0)(.exit 6)(pS s 24(lB(y++bY(E4 s)s.nO))(s.nO:Nat))):=by
 have hK:∀(a:ByteArray)(n:Int)(b:Bool)e,e∈p4K uW a n b→tX Tryz.prog e:=fun _ _ _=>ak aD(ak aD av)
 have hn:=h.few
 have hle:∀j,j≤s.nO→(y++bY(E4 s)j).length≤900000:=fun j hj=>by rw[List.length_append];have:=wD(E:=E4 s)hj;omega
 refine Ez(S:=pS s 24)(T:=fun k=>lB(y++bY(E4 s)k))(by simp)(fun j hj hb=>?_)(fun j hj hb=>?_) ?_
 ·refine aF(aT _ _)aB(hK _ _ _)aA((akK uW s(lB(y++bY(E4 s)j))(j:Nat)(lB(Ry s j).1)(Ry s j).2.1(Ry s j).2.2).trans ?_)
  rw[ang]at hb
  rw[Int.toNat_natCast,anf h hj(hle j(by omega)),hb,bD(by omega),cond_false,List.append_assoc]
  rfl
 ·refine aF(gQ _ _)aB(hK _ _ _)aA((aqk uW s(lB(y++bY(E4 s)j))(j:Nat)(lB(Ry s j).1)(Ry s j).2.1(Ry s j).2.2).trans ?_)
  rw[ang]at hb
  rw[Int.toNat_natCast,anf h hj(hle j(by omega)),hb]
  rfl
 ·refine aF(bU _ _)aB(hK⟨#[]⟩0 false)aA((aql uW s(lB(y++bY(E4 s)s.nO))(s.nO:Nat)⟨#[]⟩0 false).trans ?_)
  unfold p4C
  rw[bQ]
  rfl
abbrev pT5(s:fT)(j:Nat):List UInt8:=NQ(s.F j)(s.F j).n++uI(s.F j).sk
theorem anh(h:ScK s) {j:Nat}(hj:j<s.nF) {y:List UInt8}(hy:y.length≤900000)(o:ByteArray→Option Out)(r e:Option Out):p5C s(lB y)(j:Nat)(lB(pT5 s j))(!(J6 bG(s.F j)))(s.F j)o r e=cond(J6 bG(s.F j))r(o(lB(y++E5 s j))):=by
 have hF:=h.F j hj
 unfold p5C
 rw[dec_lt hj,gy hj,ah(show F2(lB(pT5 s j))(!(J6 bG(s.F j)))41(s.F j).c from CR hF)]
 cases hb:J6 bG(s.F j)
 ·have l0:=Qh hF
  have l1:=XR hF(j:=(s.F j).n)(Nat.le_refl _)
  have l2:=EA hF.sk.1 hF.sk.2
  have l3:(pT5 s j).length≤2000:=by show(fxH(s.F j)++tks true(vJ cK(s.F j)(s.F j).n)++uI(s.F j).sk).length≤2000;simp only[List.length_append];omega
  have c1:=uV o y [pT5 s j](by simp only[List.flatten_cons,List.flatten_nil,List.append_nil];omega)
  refine Eq.trans(show _=Hg o(lB y)(List.map lB [pT5 s j])from rfl) ?_
  rw[c1,cond_false]
  congr 2
  show _=y++(tks false(ZV cK dF(s.F j))++(iD true [oM(s.F j).sk]++[]))
  rw[List.append_nil,←akL hb]
  simp only[List.flatten_cons,List.flatten_nil,List.append_nil]
 ·rfl
theorem ani(j:Nat):fU(feI cK dF bG s j)=J6 bG(s.F j):=by
 show(J6 bG(s.F j)||(false||false))=_
 simp
theorem af2(h:ScK s) {y:List UInt8}(hy:y.length+(bY(E5 s)s.nF).length≤900000):gI Tryz.prog(au Tryz.f13 4)(gvT(!(mh(fun j=>fU(feI cK dF bG s j))s.nF)) [1,13,29](pS s 29(lB(y++bY(E5 s)0))0)(.exit 8)(pS s 29(lB(y++bY(E5 s)s.nF))(s.nF:Nat))):=by
 have hK:∀(a:ByteArray)(b:Bool)e,e∈p5K a b→tX Tryz.prog e:=fun _ _=>ak aD av
 have hn:=h.few
 have hle:∀j,j≤s.nF→(y++bY(E5 s)j).length≤900000:=fun j hj=>by rw[List.length_append];have:=wD(E:=E5 s)hj;omega
 refine Ez(S:=pS s 29)(T:=fun k=>lB(y++bY(E5 s)k))(by simp)(fun j hj hb=>?_)(fun j hj hb=>?_) ?_
 ·refine aF(aT _ _)aB(hK _ _)aA((akM s(lB(y++bY(E5 s)j))(j:Nat)(lB(pT5 s j))(!(J6 bG(s.F j)))).trans ?_)
  rw[ani]at hb
  rw[Int.toNat_natCast,anh h hj(hle j(by omega)),hb,bD(by omega),cond_false,List.append_assoc]
  rfl
 ·refine aF(gQ _ _)aB(hK _ _)aA((aqm s(lB(y++bY(E5 s)j))(j:Nat)(lB(pT5 s j))(!(J6 bG(s.F j)))).trans ?_)
  rw[ani]at hb
  rw[Int.toNat_natCast,anh h hj(hle j(by omega)),hb]
  rfl
 ·refine aF(bU _ _)aB(hK⟨#[]⟩false)aA((aqn s(lB(y++bY(E5 s)s.nF))(s.nF:Nat)⟨#[]⟩false).trans ?_)
  unfold p5C
  rw[bQ]
  rfl
end
theorem aiq(ws:Nat→ByteArray)(wb:Nat→Bool)(tw:Int→Int→Int→ByteArray)(vs:Nat→Nat→Nat→ByteArray)(vb:Nat→Nat→Nat→Bool)(s:fT)(e:Int):evM Tryz.prog [](spK ws wb tw vs vb e) [born 88](nA [(12,fun _ _=>none)])Tryz.f13 [.agg s.c]ret =
 spX ws wb vs vb s e(Hg(fun y=>gate(FTw tw(s.jE 0)(s.jE 1)(s.jE 2))(Hg(fun _=>none)y(UG tw s.jE)))Yp(Rz ws vs s.eye)):=by kernel_rfl
section
variable {s:fT}
theorem Zi(e:Int):∀x,x∈spK LC bG NP sH uU e→tX Tryz.prog x:=ak aD(ak aD(ak aD(ak aD av)))
theorem XK(h:yP s≠0):aj Tryz.prog 13 [.agg s.c](.aN [zA⟨#[]⟩,iA(yP s)]):=by
 refine qz aB(Zi(yP s))(jl(iK _)bO)Tryz.func13(by kernel_rfl)(by kernel_rfl)(dD(iG 12)o9)rfl((aiq LC bG NP sH uU s(yP s)).trans ?_)
 unfold spX
 rw[ah(Ky s),beq_false_of_ne h]
 rfl
theorem Kj(h:ScK s)(o:Option Out):gate(Qg sH uU s.eye 0)(gate(Qg sH uU s.eye 3)(gate(Qg sH uU s.eye 6)(gate(FT1 LC bG s.eye 9)(cond(cond(cond(cond(!(vK uU s.eye 0))true(!(vK uU s.eye 3)))true(!(vK uU s.eye 6)))true(!(bG(s.eye 9))))spE o))))=cond(G7 bG s.eye)spE o:=by
 have he:=h.eye
 rw[ah(show Qg sH uU s.eye 0 from Ua(he 0(by omega))(he 1(by omega))(he 2(by omega))),ah(show Qg sH uU s.eye 3 from Ua(he 3(by omega))(he 4(by omega))(he 5(by omega))),ah(show Qg sH uU s.eye 6 from Ua(he 6(by omega))(he 7(by omega))(he 8(by omega))),ah(show FT1 LC bG s.eye 9 from asu(he 9(by omega)))]
 unfold G7
 rw[nW,nW,nW]
 show cond(cond(cond(cond(!(vX s.eye 0))true(!(vX s.eye 3)))true(!(vX s.eye 6)))true(!(bG(s.eye 9))))spE o=_
 cases vX s.eye 0<;>cases vX s.eye 3<;>cases vX s.eye 6<;>cases bG(s.eye 9)<;>rfl
theorem ate:fU(yN s)=false:=rfl
theorem anS:w6 cK dF bG s=(G7 bG s.eye||(mh(fun j=>fU(lmI cK dF bG s j))s.nL||(mh(fun j=>fU(shI cK dF bG s j))s.nS||(mh(fun j=>fU(ZW cK dF bG s j))s.nO||mh(fun j=>fU(feI cK dF bG s j))s.nF)))):=by
 unfold w6 w5 w4 w3 w2 w1
 rw[ate,ahK(B:=fun j=>fU(skI cK s j))(n:=s.nK)fun _ _=>rfl]
 simp only[Bool.or_false,Bool.or_assoc]
theorem Rq(b:Bool)(S:St)(o:Option Out):gvO b S o=cond b o spE:=by
 unfold gvO
 rw[ah(Sub.refl _),ah(Sub.refl _)]
theorem atf(hb:G7 bG s.eye=false):Rz LC sH s.eye=List.map lB [qd [s.eye 0,s.eye 1,s.eye 2],[32,116,111],qd [s.eye 3,s.eye 4,s.eye 5],[32,117,112],qd [s.eye 6,s.eye 7,s.eye 8],[32,119,105,100,101],qd [s.eye 9],[32,59,10,115,107,121]]:=by
 unfold G7 at hb
 rw[nW,nW,nW]at hb
 have h0:vX s.eye 0=true:=by cases c:vX s.eye 0;rw[c]at hb;cases hb;rfl
 have h3:vX s.eye 3=true:=by cases c:vX s.eye 3;rw[h0,c]at hb;cases hb;rfl
 have h6:vX s.eye 6=true:=by cases c:vX s.eye 6;rw[h0,h3,c]at hb;cases hb;rfl
 have h9:bG(s.eye 9)=true:=by cases c:bG(s.eye 9);rw[h0,h3,h6,c]at hb;cases hb;rfl
 have e0:sH(s.eye 0)(s.eye 1)(s.eye 2)=lB(qd [s.eye 0,s.eye 1,s.eye 2]):=BJ h0
 have e3:sH(s.eye 3)(s.eye 4)(s.eye 5)=lB(qd [s.eye 3,s.eye 4,s.eye 5]):=BJ h3
 have e6:sH(s.eye 6)(s.eye 7)(s.eye 8)=lB(qd [s.eye 6,s.eye 7,s.eye 8]):=BJ h6
 unfold Rz
 rw[e0,e3,e6,ac2 h9]
 rfl
theorem TS(h:yP s=0):aj Tryz.prog 13 [.agg s.c](cond(w6 cK dF bG s)(.aN [zA⟨#[]⟩,iA 11])(.aN [zA(lB(x6 cK dF bG s)),iA 0])):=by
 have hk:=asf h
 have hm:=Ky s
 rw[h]at hm
 cases hb:G7 bG s.eye
 ·have hl:=aeh h
  have l6:(x6 cK dF bG s).length=(x5 cK dF bG s).length+(bY(E5 s)s.nF).length:=List.length_append
  have l5:(x5 cK dF bG s).length=(x4 cK dF bG s).length+(bY(E4 s)s.nO).length:=List.length_append
  have l4:(x4 cK dF bG s).length=(x3 cK dF bG s).length+(bY(E3 s)s.nS).length:=List.length_append
  have l3:(x3 cK dF bG s).length=(x2 cK dF s).length+(bY(E2 s)s.nL).length:=List.length_append
  have l2:(x2 cK dF s).length=(x1 cK dF s).length+(bY(E1 s)s.nK).length:=List.length_append
  have hn:=hk.few
  have a0:=KC(s.eye 0)(s.eye 1)(s.eye 2)
  have a3:=KC(s.eye 3)(s.eye 4)(s.eye 5)
  have a6:=KC(s.eye 6)(s.eye 7)(s.eye 8)
  have a9:(qd [s.eye 9]).length≤21:=jX true(aW(lN(s.eye 9))iU)
  have at_:=KD hk.jE
  have eL:=atf hb
  have eS:UG NP s.jE=List.map lB [tks true(Bz s.jE),[32,59,10]]:=rfl
  have eW:Yp=lB [101,121,101]:=rfl
  have ex:([101,121,101]++[qd [s.eye 0,s.eye 1,s.eye 2],[32,116,111],qd [s.eye 3,s.eye 4,s.eye 5],[32,117,112],qd [s.eye 6,s.eye 7,s.eye 8],[32,119,105,100,101],qd [s.eye 9],[32,59,10,115,107,121]].flatten)++[tks true(Bz s.jE),[32,59,10]].flatten=x1 cK dF s:=by
   unfold x1 x0 yN
   simp[iD,eyT,FD,vT,qd,Jy,Bz,FE]
  have ey0:apL(apL Yp(Rz LC sH s.eye))(UG NP s.jE)=lB(x1 cK dF s):=by rw[eL,eS,eW,Gj,Gj,ex]
  have hL1:gI Tryz.prog(au Tryz.f13 0)(fE [1,13,14] [some 0](pS s 14(apL(apL Yp(Rz LC sH s.eye))(UG NP s.jE))0)(.exit 0)(pS s 14(lB(x2 cK dF s))(s.nK:Nat))):=by
   rw[ey0]
   refine aR ?_
   have key:bF Tryz.prog(.loop(au Tryz.f13 0))(pS s 14(lB(x1 cK dF s++bY(E1 s)0))((0:Nat):Int))(.exit 0)(pS s 14(lB(x1 cK dF s++bY(E1 s)s.nK))(s.nK:Nat)):=by
    refine aU(fun j=>pS s 14(lB(x1 cK dF s++bY(E1 s)j))(j:Nat))s.nK(.exit 0)_(by simp)(fun j hj=>?_) ?_
    ·have hle:=wD(E:=E1 s)(n:=s.nK)(j:=j)(by omega)
     have:=al8 hk hj(y:=x1 cK dF s++bY(E1 s)j)(by rw[List.length_append];omega)
     rw[List.append_assoc]at this
     exact this
    ·refine aF(bU _ _)aB(ak aD(ak aD(ak aD(ak aD av))))aA((atg KT bG ru gJ NP s(lB(x1 cK dF s++bY(E1 s)s.nK))(s.nK:Nat)).trans ?_)
     unfold p1C
     rw[bQ]
     rfl
   have e0:x1 cK dF s++bY(E1 s)0=x1 cK dF s:=List.append_nil _
   rw[e0]at key
   exact key
  have z:∀(y:List UInt8)(E:Nat→List UInt8),y++bY E 0=y:=fun y _=>List.append_nil y
  have hL2:=afY hk(y:=x2 cK dF s)(by omega)
  have hL3:=afZ hk(y:=x3 cK dF bG s)(by omega)
  have hL4:=af0 hk(y:=x4 cK dF bG s)(by omega)
  have hL5:=af2 hk(y:=x5 cK dF bG s)(by omega)
  rw[z]at hL2 hL3 hL4 hL5
  refine qz aB(Zi 0)(jl(iK _)bO)Tryz.func13(by kernel_rfl)(by kernel_rfl)
   (dD(eZ 0 5(by kernel_rfl)(by kernel_rfl)hL1) <|dD(eZ 1 5(by kernel_rfl)(by kernel_rfl)hL2) <|dD(eZ 2 5(by kernel_rfl)(by kernel_rfl)hL3) <|dD(eZ 3 5(by kernel_rfl)(by kernel_rfl)hL4) <|dD(eZ 4 5(by kernel_rfl)(by kernel_rfl)hL5)o9)rfl
   ((agZ LC bG NP sH uU s 0(lB(x2 cK dF s))(lB(x3 cK dF bG s))(lB(x4 cK dF bG s))(lB(x5 cK dF bG s))(lB(x6 cK dF bG s))_ _ _ _).trans ?_)
  unfold spX
  rw[ah hm,Kj hk,hb]
  refine Eq.trans(show _=Hg _ Yp(Rz LC sH s.eye)from rfl) ?_
  rw[eL,eW,uV _ _ _(by simp only[List.flatten_cons,List.flatten_nil,List.length_append,List.length_cons,List.length_nil];omega),ah(Ub hk.jE),eS,uV _ _ _(by simp only[List.flatten_cons,List.flatten_nil,List.length_append,List.length_cons,List.length_nil];omega),ah(Sub.refl _)]
  unfold spY
  rw[Rq,Rq,Rq,Rq,anS,hb]
  cases mh(fun j=>fU(lmI cK dF bG s j))s.nL<;>cases mh(fun j=>fU(shI cK dF bG s j))s.nS<;>cases mh(fun j=>fU(ZW cK dF bG s j))s.nO<;>cases mh(fun j=>fU(feI cK dF bG s j))s.nF<;>rfl
 ·refine qz aB(Zi 0)(jl(iK _)bO)Tryz.func13(by kernel_rfl)(by kernel_rfl)(dD(iG 12)o9)rfl((aiq LC bG NP sH uU s 0).trans ?_)
  unfold spX
  rw[ah hm,Kj hk,hb,anS,hb]
  rfl
end
end Go.Proofs.YtefphimaggjihaaGreatDoor.Pi
namespace Go.Proofs.YtefphimaggjihaaGreatDoor.Pi
open Go.Shelf Go.RowKit Go.Gv
open Hs Hs.So Hs.Sc Hs.Fm
def hvS(s:fT):Bool:=decide(aI(aI(aI(aI((s.nS:Int)+s.nK)+s.nL)+s.nO)+s.nF)>99)
theorem afS(s:fT):aj Tryz.prog 11 [.agg s.c](bA(hvS s)):=aP aB av Tryz.func11(by kernel_rfl)(by kernel_rfl)aA rfl(show ev Tryz.prog [] []aM Tryz.f11 [.agg s.c]ret=oB(hvS s)by kernel_rfl)
section
variable(s:fT)(i:Int)(a b:Int)(hv:Bool)(m1 m2 y1 y2 e f:Int)(t u:ByteArray)
def lwS:St:=mkS 64 [(1,.own 0 0),(7,iA i)] [.c s.c]
def lwC(o x:Option Out):Option Out:=cond(decide(i<(s.nK:Nat)))(gate(aj Tryz.prog 18 [.agg(xJ(s.K i.toNat))](iA a))(gate(aj Tryz.prog 19 [.agg(xJ(s.K i.toNat))](iA b))(cond((mJ i s.nK||false)&&((mJ i s.nK||false)&&true))(cond(!(a==b))none o)none)))x
def lwK:List aV:=[kS Tryz.prog 18(fun _=>iA a),kS Tryz.prog 19(fun _=>iA b)]
theorem akE:gD Tryz.prog [](lwK a b)aM(au Tryz.f4 0)(lwS s i)(fu [1,7] [some 0])=lwC s i a b(some⟨.normal,lwS s(aI(i+1)),.any⟩)none:=by kernel_rfl
theorem aqa:gD Tryz.prog [](lwK a b)aM(au Tryz.f4 0)(lwS s i)(gM [1,7] [some 0])=lwC s i a b none(some⟨.exit 0,lwS s i,.any⟩):=by kernel_rfl
def aBx:List aV:=[kS Tryz.prog 11(fun _=>bA hv),kS Tryz.prog 12(fun _=>.aN [zA t,iA e]),kS Tryz.prog 13(fun _=>.aN [zA u,iA f]),kS Tryz.prog 14(fun _=>iA m1),kS Tryz.prog 15(fun _=>iA m2),kS Tryz.prog 16(fun _=>iA y1),kS Tryz.prog 17(fun _=>iA y2)]
theorem aqb:ev Tryz.prog [](aBx hv m1 m2 y1 y2 e f t u)(gu 8(fE [1,7] [some 0](lwS s 0)(.exit 0)(lwS s(s.nK:Nat))))Tryz.f4 [.agg s.c]ret =
 gate(aj Tryz.prog 11 [.agg s.c](bA hv))(cond hv(oB true)(gate(aj Tryz.prog 12 [.agg s.c](.aN [zA t,iA e]))(gate(aj Tryz.prog 13 [.agg s.c](.aN [zA u,iA f]))(gate(aj Tryz.prog 14 [.agg s.c](iA m1))(gate(aj Tryz.prog 15 [.agg s.c](iA m2))(gate(aj Tryz.prog 16 [.agg(eyC s.eye)](iA y1))(gate(aj Tryz.prog 17 [.agg(eyC s.eye)](iA y2))
  (cond(cond(cond(cond(!(m1==m2))true(!(y1==y2)))true(!(t.toList==u.toList)))true(!(e==f)))(oB false)(gate(Sub(lwS s 0)(lwS s 0))(oB true)))))))))):=by kernel_rfl
end
theorem afT {s:fT}(hK:s.nK<9223372036854775808):bF Tryz.prog(.loop(au Tryz.f4 0))(lwS s 0)(.exit 0)(lwS s(s.nK:Nat)):=by
 refine aU(fun j=>lwS s(j:Nat))s.nK(.exit 0)_(by simp)(fun j hj=>?_) ?_
 ·refine aF(aT _ _)aB(ak aD(ak aD av))aA((akE s(j:Nat)(skE(s.K j))(skE(s.K j))).trans ?_)
  unfold lwC
  rw[dec_lt hj,gy hj,Int.toNat_natCast,ah(PZ _),ah(TH _),CS,show aI(((j:Nat):Int)+1)=((j+1:Nat):Int)from(aO(by omega)(by omega)).trans(by omega)]
  rfl
 ·refine aF(bU _ _)aB(ak aD(ak aD av))aA((aqa s(s.nK:Nat)0 0).trans ?_)
  unfold lwC
  rw[bQ]
  rfl
theorem XJ(s:fT):∃(t:ByteArray)(e:Int),aj Tryz.prog 12 [.agg s.c](.aN [zA t,iA e])∧aj Tryz.prog 13 [.agg s.c](.aN [zA t,iA e]):=by
 by_cases h:yP s=0
 ·have p:=JB h
  have q:=TS h
  cases hw:w6 cK dF bG s
  ·rw[hw]at p q
   exact⟨_,_,p,q⟩
  ·rw[hw]at p q
   exact⟨_,_,p,q⟩
 ·exact⟨_,_,NJ h,XK h⟩
theorem H9 {s:fT}(hK:s.nK<9223372036854775808):aj Tryz.prog 4 [.agg s.c](bA true):=by
 obtain⟨t,e,p,q⟩:=XJ s
 have hL:=Qe(c:=dG Tryz.f4)(i:=8)0(by kernel_rfl)(by kernel_rfl)(aR(keep:=[1,7])(τ:=[some 0])(afT hK))
 refine aP aB(ak aD(ak aD(ak aD(ak aD(ak aD(ak aD(ak aD av)))))))Tryz.aDi(by kernel_rfl)(by kernel_rfl)hL rfl((aqb s(hvS s)(yP s)(yP s)(ZP s.eye)(ZP s.eye)e e t t).trans ?_)
 rw[ah(afS s),ah p,ah q,ah(IQ s),ah(Ky s),ah(P5 _),ah(TI _),ah(Sub.refl _),CS,CS,CS,BEq.rfl]
 cases hvS s<;>rfl
end Go.Proofs.YtefphimaggjihaaGreatDoor.Pi
namespace Go.Proofs.YtefphimaggjihaaGreatDoor.Hs.Sc
open Go.Gv So Fm
open Go.Ev (cn bq dI bT fdiv d9 fI dK jO kL gN lK fabs)
theorem Oc {E:Env}{a b c c':AV}{l:List AV}{v:Value}(hc:∀u,rel E c u→rel E c' u)(h:rel E(.agg(a::b::c::l))v):rel E(.agg(a::b::c'::l))v:=by
 obtain⟨vs,e,h⟩:=kV.1 h
 refine kV.2⟨vs,e,?_⟩
 obtain⟨u0,us,q0,r0,h⟩:=aH.1 h
 obtain⟨u1,us,q1,r1,h⟩:=aH.1 h
 obtain⟨u2,us,q2,r2,h⟩:=aH.1 h
 exact aH.2⟨u0,_,q0,r0,aH.2⟨u1,_,q1,r1,aH.2⟨u2,_,q2,hc _ r2,h⟩⟩⟩
theorem alj(n:Nat)(hs:Nat→Int):ev Tryz.prog [] []aM Tryz.f65 [sI n hs,iA 0,iA 3]ret=some(Out.of(.x(.slice none 0 0))):=by kernel_rfl
theorem Qw {n:Nat}{hs:Nat→Int}(h:Zx n hs) {N:Nat}(h2:N≤10):∃S:Nat→Jd,aj Tryz.prog 65 [sI n hs,iA(N:Nat),iA 3](.sl 13 N fun q=>(S q).c):=by
 by_cases h0:N=0
 ·subst h0
  exact⟨fun _=>⟨0,fun _=>0,0⟩,aj.Qx(aP aB av Tryz.ara(by kernel_rfl)(by kernel_rfl)aA rfl(alj n hs))fun _ _ hr=>aaQ hr⟩
 ·exact MJ h(by omega)h2
theorem Qy {n:Nat}{hs:Nat→Int}(h:Zx n hs)(hn:n≤512) {N:Nat}(h2:N≤10):∃s:fT,s.nK=3∧aj Tryz.prog 20 [sI n hs,iA(N:Nat)](.agg s.c):=by
 have h':∀i,i<n→-9223372036854775808≤hs i∧hs i≤9223372036854775807:=h
 have rg:∀k m:Int,0≤k→0<m→0≤dO(dU n hs k)m∧dO(dU n hs k)m<m:=fun k m hk hm=>kH(gH h' hk).1(gH h' hk).2 hm
 have r1:=rg 1 3(by decide)(by decide)
 have r9:=rg 9 3(by decide)(by decide)
 obtain⟨NL,hL,hL3⟩:∃NL:Nat,dO(dU n hs 1)3=(NL:Nat)∧NL≤3:=⟨(dO(dU n hs 1)3).toNat,by omega,by omega⟩
 obtain⟨NO,hO,hO3⟩:∃NO:Nat,dO(dU n hs 9)3=(NO:Nat)∧NO≤3:=⟨(dO(dU n hs 9)3).toNat,by omega,by omega⟩
 obtain⟨S,hS⟩:=Qw h h2
 obtain⟨F,hF⟩:=Qz h
 have hx:∀f:Int,∃y:RG,∀g:Nat,f=(g:Nat)→g≤50→aj Tryz.prog 66 [sI n hs,iA(g:Nat),iA 3](.agg y.c):=fun f=>by
  by_cases hf:0≤f∧f≤50
  ·obtain⟨m,P,sk,hk⟩:=OO h hn(F:=f.toNat)(by omega)
   refine⟨⟨m,P,sk⟩,fun g hg _=>?_⟩
   have:f.toNat=g:=by omega
   subst this
   exact hk
  ·exact⟨⟨0,fun _=>⟨0,0,0,0,fun _=>0,0⟩,0⟩,fun g hg hg'=>absurd⟨by omega,by omega⟩hf⟩
 obtain⟨G,hG0⟩:=Classical.axiomOfChoice hx
 have hG:∀F:Nat,F≤50→aj Tryz.prog 66 [sI n hs,iA(F:Nat),iA 3](.agg(G(F:Nat)).c):=fun F hF=>hG0(F:Nat)F rfl hF
 have hLk:yS Tryz.prog(scL n hs dO gJ(dU n hs)(RP dO gJ)(N:Nat)NL NO(fun q=>skN dO(dU n hs)(q:Nat))(fun q=>pI n hs(aI(17+aI(4*(q:Int))))6000)(fun q c=>Yi dO(dU n hs)(q:Nat)(c:Nat))(fun q=>G(aI(5+aI(7*(q:Int)))))S N)(dG Tryz.f20) :=
  dD(eZ 0 6(by kernel_rfl)(by kernel_rfl)(z8 agT))(dD(eZ 2 6(by kernel_rfl)(by kernel_rfl)(z8(agU _ hL hL3)))(dD(eZ 5 6(by kernel_rfl)(by kernel_rfl)(z8(agV hG _ _ _ _ _ _ _ _ _ hO hO3)))o9))
 have go:∀c,scX n hs dO gJ(dU n hs)(RP dO gJ)F(N:Nat)NL NO(fun q=>skN dO(dU n hs)(q:Nat))(fun q=>pI n hs(aI(17+aI(4*(q:Int))))6000)(fun q c=>Yi dO(dU n hs)(q:Nat)(c:Nat))(fun q=>G(aI(5+aI(7*(q:Int)))))S N=some(Out.of(.agg c))→aj Tryz.prog 20 [sI n hs,iA(N:Nat)](.agg c):=fun c hc =>
  So.qm arb tY(ak aD(ak aD(ak aD(ak aD(ak aD av)))))bO Tryz.func20(by kernel_rfl)(by kernel_rfl)hLk rfl((ae4 n hs dO gJ(dU n hs)(pI n hs)(RP dO gJ)F(N:Nat)NL NO _ _ _ _ S N).trans hc)
 unfold scX gMi at go
 rw[cO(by decide),ah(aaR _),cO(by decide),ah(aaR _),cO(by decide),ah(Sub.refl _),ah(Sub.refl _),cO(by decide),cO(by decide),cO(by decide),ah hS,ah(Sub.refl _),cO(by decide),ah hF]at go
 unfold scO at go
 rw[anw,anw]at go
 let e:Nat→Nat:=ls [RP dO gJ(dU n hs 3)2000,RP dO gJ(dU n hs 4)2000,13842939354630062080,0,0,0,0,4607182418800017408,0,gJ(aI(500+dO(dU n hs 5)1500))]
 let u:Nat→Int:=fun q=>match q with | 0=>yR dO(dU n hs)0 | 1=>yR dO(dU n hs)1 |_=>yR dO(dU n hs)2
 cases hb:dO(dU n hs 8)3==0
 ·rw[hb]at go
  exact⟨⟨N,S,NO,fun q=>G(aI(5+aI(7*(q:Int)))),0,fun _=>F,3,fun q=>skN dO(dU n hs)(q:Nat),NL,fun q=>pI n hs(aI(17+aI(4*(q:Int))))6000,fun q c=>Yi dO(dU n hs)(q:Nat)(c:Nat),u,e⟩,rfl,aj.Qx(go _ rfl)fun _ _ hr=>Oc(fun _=>aaQ)hr⟩
 ·rw[hb]at go
  exact⟨⟨N,S,NO,fun q=>G(aI(5+aI(7*(q:Int)))),1,fun _=>F,3,fun q=>skN dO(dU n hs)(q:Nat),NL,fun q=>pI n hs(aI(17+aI(4*(q:Int))))6000,fun q c=>Yi dO(dU n hs)(q:Nat)(c:Nat),u,e⟩,rfl,aj.Qx(go _ rfl)fun _ _ hr=>Oc(fun _ h=>El h fun _ _=>rfl)hr⟩
def pkG(pf:Int→Int→Int):List AV→AV
 | [.x(.int .i64 c),.x(.int .i64 k)]=>iA(pf c k)
 |_=>.any
end Go.Proofs.YtefphimaggjihaaGreatDoor.Hs.Sc
namespace Go.Proofs.YtefphimaggjihaaGreatDoor.Pi.Rd
open Go.Shelf Go.RowKit Go.Gv
open Hs Hs.So Hs.Sc Hs.Fm
section
variable(n:Nat)(hs:Nat→Int)(pf:Int→Int→Int)(s:fT)(n0:Int)
def smX:Option Out:=cond(decide((n:Int)>512))(oB true)(gate(aj Tryz.prog 21 [iA n0,iA 10](iA(pf n0 10)))(gate(aj Tryz.prog 20 [sI n hs,iA(pf n0 10)](.agg s.c))(gate(aj Tryz.prog 4 [.agg s.c](bA true))(gate(aj Tryz.prog 5 [.agg s.c](bA true))(oB true)))))
theorem anx:ev Tryz.prog [] [kS Tryz.prog 21(pkG pf),kS Tryz.prog 20(fun _=>.agg s.c),kS Tryz.prog 4(fun _=>bA true),kS Tryz.prog 5(fun _=>bA true)]aM Tryz.f6 [sI n hs,iA n0]ret=smX n hs pf s n0:=by kernel_rfl
end
theorem MQ {n:Nat}{hs:Nat→Int}(h:Zx n hs) {n0:Int}(h0:-9223372036854775808≤n0∧n0≤9223372036854775807):aj Tryz.prog 6 [sI n hs,iA n0](bA true):=by
 have ks:∀s:fT,∀e,e∈[kS Tryz.prog 21(pkG dO),kS Tryz.prog 20(fun _=>.agg s.c),kS Tryz.prog 4(fun _=>bA true),kS Tryz.prog 5(fun _=>bA true)]→tX Tryz.prog e:=fun s=>ak aD(ak aD(ak aD(ak aD av)))
 by_cases hn:n≤512
 ·have r6:=kH(m:=10)h0.1 h0.2(by decide)
  obtain⟨N,hN,g2⟩:∃N:Nat,dO n0 10=(N:Nat)∧N≤10:=⟨(dO n0 10).toNat,by omega,by omega⟩
  obtain⟨s,h3,hs1⟩:=Qy h hn g2
  refine aP aB(ks s)Tryz.aaS(by kernel_rfl)(by kernel_rfl)aA rfl((anx n hs dO s n0).trans ?_)
  unfold smX
  rw[decide_eq_false(show ¬(n:Int)>512 by omega),cond_false,ah(adM(by decide)),hN,ah hs1,ah(H9(by omega)),ah(Mq s)]
  rfl
 ·refine aP aB(ks Hs.Sc.Z0)Tryz.aaS(by kernel_rfl)(by kernel_rfl)aA rfl((anx n hs dO Hs.Sc.Z0 n0).trans ?_)
  unfold smX
  rw[decide_eq_true(show(n:Int)>512 by omega)];rfl
end Go.Proofs.YtefphimaggjihaaGreatDoor.Pi.Rd
end
