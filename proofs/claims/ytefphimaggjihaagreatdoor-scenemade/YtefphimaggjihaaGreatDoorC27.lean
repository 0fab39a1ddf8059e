/- Texts, one behind the other. -/
import Derived.Test.YtefphimaggjihaaGreatDoorC26
import Derived.Test.YtefphimaggjihaaGreatDoorC25
open Eq renaming trans->aBW
open Go.Lib renaming itoa->ala
open Go.Proofs.Tryz renaming f13->ay6,f4->aDc,f40->aEy,f41->aCd,func13->aDb,func38->aA1,func40->aA2,prog->bW
open Int renaming toNat_natCast->Zk
open List renaming append_assoc->aiR,append_nil->awr,flatten_cons->arS,flatten_nil->ayw,length_append->uI,length_cons->anE,length_nil->arB,map->aAI
noncomputable section
namespace Go.Proofs.YtefphimaggjihaaGreatDoor.Pi
open Go.Shelf Go.RowKit Go.Gv Hs
open Go.Ev (dK aL key cB)
theorem FX:∀(l:List UInt8) (r:List (List UInt8)),Z7 (lB l) (r.map lB)=lB (l++r.flatten)
 |l,[]=>by simp[Z7]
 |l,t::r=>by
  show Z7 (lB l++lB t) (r.map lB)=_;rw[gZ,FX (l++t) r,arS,aiR]
theorem IC:∀(l:List UInt8) (r:List (List UInt8)),l.length+r.flatten.length<=1000000000->XQ (lB l) (r.map lB)=true
 |_,[],_=>rfl
 |l,t::r,h=>by
  rw[arS,uI]at h;show((mq (lB l) (lB t)||false)&&XQ (lB l++lB t) (r.map lB))=true;rw[kW (by rw[aY,aY];omega),gZ,IC (l++t) r (by rw[uI];omega)];rfl
theorem K9{l:List UInt8}{r:List (List UInt8)}(h:l.length+r.flatten.length<=1000000000)(b:Bool):tfO (lB l) (r.map lB) b=some (Out.of (.aN [zA (lB (l++r.flatten)),bA b])):=by
 unfold tfO;rw[IC l r h,FX];rfl
theorem agU(b:Bool):∀(l:List UInt8) (r:List (List UInt8)),l.length+r.flatten.length<=1000000000->tfP b (lB l) (r.map lB)=some (Out.of (.aN [zA (lB (l++r.flatten)),bA b]))
 |l,[],_=>by simp[tfP]
 |l,t::r,h=>by
  rw[arS,uI]at h;show cond (mq (lB l) (lB t)||false) (tfP b (lB l++lB t) (r.map lB)) none=_;rw[kW (by rw[aY,aY];omega),gZ,agU b (l++t) r (by rw[uI];omega),arS,aiR];rfl
theorem sS{x:Nat}(h:cB x):aL x=false:=Go.Ev.jP h.fin
theorem CR{x:Nat}(h:cB x):dK x x=true:=by rw[Go.Ev.aeV,sS h];rfl
theorem EI{x:Nat}(h:cB x):dK 0 x=dK x 0:=by
 have n0:aL 0=false:=by decide +kernel
 rw[Go.Ev.Hu n0 (sS h),Go.Ev.Hu (sS h) n0];by_cases hk:key 0=key x
 .rw[decide_eq_true hk,decide_eq_true hk.symm]
 .rw[decide_eq_false hk,decide_eq_false λ e=>hk e.symm]
theorem Qv{x:Nat}(h:cB x)(h0:dK x 0=true):bG x=true:=by
 obtain⟨_,_,hk⟩:=Go.Ev.vg h0;exact(Ol (n:=0) h ⟨by decide,by rw[hk,ahK];decide +kernel⟩).1
def uQ(x y z:Nat):Bool:=bG x&&(bG y&&bG z)
def su(x y z:Nat):ByteArray:=lB (cond (uQ x y z) (pY [x,y,z]) [])
def K7(x:Nat):ByteArray:=lB (cond (bG x) (pY [x]) [])
def vX(a:Nat->Nat)(i:Nat):Bool:=uQ (a i) (a (i+1)) (a (i+2))
def allT(a:Nat->Nat):Bool:=vX a 0&&(vX a 3&&(vX a 6&&(bG (a 9)&&bG (a 10))))
section
variable{a:Nat->Nat}
theorem Te{x y z:Nat}(hx:cB x)(hy:cB y)(hz:cB z):aj bW 33 [.agg [.f x,.f y,.f z]] (.aN [zA (su x y z),bA (uQ x y z)]):=by
 have h:=aj1 hx hy hz;rw[Qg]at h;exact h
theorem apZ{x:Nat}(hx:cB x):aj bW 34 [YD [x]] (.aN [zA (K7 x),bA (bG x)]):=by
 have h:=afE hx;rw[Qg]at h;exact h
theorem F4(h:∀i,i<11->cB (a i))(o:Option Out):tfX su uQ K7 bG a o=cond (allT a) o I4:=by
 unfold tfX
 rw[ah (show Pw su uQ a 0 from Te (h 0 (by decide)) (h 1 (by decide)) (h 2 (by decide))),ah (show Pw su uQ a 3 from Te (h 3 (by decide)) (h 4 (by decide)) (h 5 (by decide))),ah (show Pw su uQ a 6 from Te (h 6 (by decide)) (h 7 (by decide)) (h 8 (by decide))),
  ah (show FT1 K7 bG a 9 from apZ (h 9 (by decide))),ah (show FT1 K7 bG a 10 from apZ (h 10 (by decide)))]
 unfold allT;show cond (cond (cond (cond (cond (!(vX a 0)) true (!(vX a 3))) true (!(vX a 6))) true (!(bG (a 9)))) true (!(bG (a 10)))) I4 o=_;cases vX a 0<;>cases vX a 3<;>cases vX a 6<;>cases bG (a 9)<;>cases bG (a 10)<;>rfl
theorem NP{p q r s t:Bool}(h:(p&&(q&&(r&&(s&&t))))=true):p=true/\q=true/\r=true/\s=true/\t=true:=by
 revert h;cases p<;>cases q<;>cases r<;>cases s<;>cases t<;>simp
theorem Bw{i:Nat}(h:vX a i=true):vS su a i=lB (pY [a i,a (i+1),a (i+2)]):=by
 show lB (cond (vX a i) _ _)=_;rw[h];rfl
theorem ab4{x:Nat}(h:bG x=true):K7 x=lB (pY [x]):=by unfold K7;rw[h];rfl
theorem nT(i:Nat):vB bG a i=!(vX a i):=by
 show(!(bG (a i))||(!(bG (a (i+1)))||!(bG (a (i+2)))))=!(bG (a i)&&(bG (a (i+1))&&bG (a (i+2))));cases bG (a i)<;>cases bG (a (i+1))<;>cases bG (a (i+2))<;>rfl
theorem uV{t:Nat->Nat}{i:Nat}(h0:cB (a i))(h1:cB (a (i+1)))(h2:cB (a (i+2)))(e0:t i=a i)(e1:t (i+1)=a (i+1))(e2:t (i+2)=a (i+2)):EX t a i=true:=by
 unfold EX;rw[e0,e1,e2,CR h0,CR h1,CR h2];rfl
theorem K8{t:Nat->Nat}{i:Nat}(h0:cB (a i))(h1:cB (a (i+1)))(h2:cB (a (i+2)))(e0:t i=0)(e1:t (i+1)=0)(e2:t (i+2)=0):EX t a i=NQ a i:=by
 unfold EX NQ jv;rw[e0,e1,e2,EI h0,EI h1,EI h2];cases dK (a i) 0<;>cases dK (a (i+1)) 0<;>cases dK (a (i+2)) 0<;>rfl
theorem Ut{i:Nat}(h0:cB (a i))(h1:cB (a (i+1)))(h2:cB (a (i+2)))(h:NQ a i=true):vX a i=true:=by
 unfold NQ jv at h;unfold vX uQ;cases c0:dK (a i) 0
 .rw[c0]at h;cases h
 .cases c1:dK (a (i+1)) 0
  .rw[c0,c1]at h;cases h
  .cases c2:dK (a (i+2)) 0
   .rw[c0,c1,c2]at h;cases h
   .rw[Qv h0 c0,Qv h1 c1,Qv h2 c2];rfl
theorem Ab{p q:Bool}(h:p=true->q=true):(!p||q)=true:=by
 cases p
 .rfl
 .rw[h rfl];rfl
theorem o1:∀v0 v3 v6 b9 b10 n3 n6 Yb:Bool,(!n3||v3)=true->(!n6||v6)=true->(!Yb||b10)=true->(!(!v0||(!b9||!(true&&(true&&(n3&&(n6&&(true&&(Yb&&(true&&true))))))))))=((v0&&(v3&&(v6&&(b9&&b10))))&&cond (cond n3 n6 false) Yb false):=by decide
theorem o2:∀v0 v3 v6 b9 b10 n6 z9 Yb:Bool,(!n6||v6)=true->(!z9||b9)=true->(!Yb||b10)=true->(!(!v0||(!v3||!(true&&(true&&(true&&(n6&&(z9&&(Yb&&(true&&true))))))))))=((v0&&(v3&&(v6&&(b9&&b10))))&&cond (cond n6 z9 false) Yb false):=by decide
theorem o3:∀v0 v3 v6 b9 b10 z9 Yb:Bool,(!z9||b9)=true->(!Yb||b10)=true->(!(!v0||(!v3||(!v6||!(true&&(true&&(true&&(true&&(z9&&(Yb&&(true&&true)))))))))))=((v0&&(v3&&(v6&&(b9&&b10))))&&cond z9 Yb false):=by decide
theorem o4:∀v0 v3 v6 b9 b10 n6 Yb:Bool,(!n6||v6)=true->(!Yb||b10)=true->(!((!v0||(!v3||!b9))||!(true&&(true&&(true&&(n6&&(true&&(Yb&&(true&&true)))))))))=((v0&&(v3&&(v6&&(b9&&b10))))&&cond n6 Yb false):=by decide
theorem o6:∀v0 v3 v6 b9 b10 n6:Bool,(!n6||v6)=true->(!((!v0||(!v3||!b9))||(!b10||!(true&&(true&&(true&&(n6&&(true&&(true&&(true&&true))))))))))=((v0&&(v3&&(v6&&(b9&&b10))))&&n6):=by decide
theorem Cz(k:Int):(k==k)=true:=BEq.rfl
section
variable(h:∀i,i<11->cB (a i))(sk:Int)
include h
theorem oq1:(!(Vd bG a sk))=(allT a&&cond (cond (NQ a 3) (NQ a 6) false) (dK (a 10) 0) false):=by
 have e0:EX (t1 a) a 0=true:=uV (h 0 (by decide)) (h 1 (by decide)) (h 2 (by decide)) rfl rfl rfl;have e3:EX (t1 a) a 3=NQ a 3:=K8 (h 3 (by decide)) (h 4 (by decide)) (h 5 (by decide)) rfl rfl rfl;have e6:EX (t1 a) a 6=NQ a 6:=K8 (h 6 (by decide)) (h 7 (by decide)) (h 8 (by decide)) rfl rfl rfl;unfold Vd cZ allT;rw[e0,e3,e6,show t1 a 9=a 9 from rfl,show t1 a 10=0 from rfl,CR (h 9 (by decide)),EI (h 10 (by decide)),Cz,Cz,nT];exact o1 _ _ _ _ _ _ _ _ (Ab (Ut (h 3 (by decide)) (h 4 (by decide)) (h 5 (by decide)))) (Ab (Ut (h 6 (by decide)) (h 7 (by decide)) (h 8 (by decide)))) (Ab (Qv (h 10 (by decide))))
theorem oq2:(!(Ve bG a sk))=(allT a&&cond (cond (NQ a 6) (dK (a 9) 0) false) (dK (a 10) 0) false):=by
 have e0:EX (t2 a) a 0=true:=uV (h 0 (by decide)) (h 1 (by decide)) (h 2 (by decide)) rfl rfl rfl;have e3:EX (t2 a) a 3=true:=uV (h 3 (by decide)) (h 4 (by decide)) (h 5 (by decide)) rfl rfl rfl;have e6:EX (t2 a) a 6=NQ a 6:=K8 (h 6 (by decide)) (h 7 (by decide)) (h 8 (by decide)) rfl rfl rfl;unfold Ve cZ allT;rw[e0,e3,e6,show t2 a 9=0 from rfl,show t2 a 10=0 from rfl,EI (h 9 (by decide)),EI (h 10 (by decide)),Cz,Cz,nT,nT];exact o2 _ _ _ _ _ _ _ _ (Ab (Ut (h 6 (by decide)) (h 7 (by decide)) (h 8 (by decide)))) (Ab (Qv (h 9 (by decide)))) (Ab (Qv (h 10 (by decide))))
theorem oq3:(!(Vf bG a sk))=(allT a&&cond (dK (a 9) 0) (dK (a 10) 0) false):=by
 have e0:EX (t3 a) a 0=true:=uV (h 0 (by decide)) (h 1 (by decide)) (h 2 (by decide)) rfl rfl rfl;have e3:EX (t3 a) a 3=true:=uV (h 3 (by decide)) (h 4 (by decide)) (h 5 (by decide)) rfl rfl rfl;have e6:EX (t3 a) a 6=true:=uV (h 6 (by decide)) (h 7 (by decide)) (h 8 (by decide)) rfl rfl rfl;unfold Vf cZ allT;rw[e0,e3,e6,show t3 a 9=0 from rfl,show t3 a 10=0 from rfl,EI (h 9 (by decide)),EI (h 10 (by decide)),Cz,Cz,nT,nT,nT];exact o3 _ _ _ _ _ _ _ (Ab (Qv (h 9 (by decide)))) (Ab (Qv (h 10 (by decide))))
theorem oq4(k:Int):(!((vB bG a 0||(vB bG a 3||!(bG (a 9))))||!(cZ k (t4 a) a sk)))=(allT a&&cond (NQ a 6) (dK (a 10) 0) false):=by
 have e0:EX (t4 a) a 0=true:=uV (h 0 (by decide)) (h 1 (by decide)) (h 2 (by decide)) rfl rfl rfl;have e3:EX (t4 a) a 3=true:=uV (h 3 (by decide)) (h 4 (by decide)) (h 5 (by decide)) rfl rfl rfl;have e6:EX (t4 a) a 6=NQ a 6:=K8 (h 6 (by decide)) (h 7 (by decide)) (h 8 (by decide)) rfl rfl rfl;unfold cZ allT;rw[e0,e3,e6,show t4 a 9=a 9 from rfl,show t4 a 10=0 from rfl,CR (h 9 (by decide)),EI (h 10 (by decide)),Cz,Cz,nT,nT];exact o4 _ _ _ _ _ _ _ (Ab (Ut (h 6 (by decide)) (h 7 (by decide)) (h 8 (by decide)))) (Ab (Qv (h 10 (by decide))))
theorem oq6:(!(Vg bG a sk))=(allT a&&NQ a 6):=by
 have e0:EX (t6 a) a 0=true:=uV (h 0 (by decide)) (h 1 (by decide)) (h 2 (by decide)) rfl rfl rfl;have e3:EX (t6 a) a 3=true:=uV (h 3 (by decide)) (h 4 (by decide)) (h 5 (by decide)) rfl rfl rfl;have e6:EX (t6 a) a 6=NQ a 6:=K8 (h 6 (by decide)) (h 7 (by decide)) (h 8 (by decide)) rfl rfl rfl;unfold Vg cZ allT;rw[e0,e3,e6,show t6 a 9=a 9 from rfl,show t6 a 10=a 10 from rfl,CR (h 9 (by decide)),CR (h 10 (by decide)),Cz,Cz,nT,nT];exact o6 _ _ _ _ _ _ (Ab (Ut (h 6 (by decide)) (h 7 (by decide)) (h 8 (by decide))))
end
def tfV(k:Int)(a:Nat->Nat)(sk:Int):AV:=.aN [zA (lB (cond (allT a) (tks false (yw cK dF k a)) [])),bA (!(CX bG k a sk))]
theorem F5{k:Int}{sk:Int}{b:Bool}{o:Option Out}(hb:(!(CX bG k a sk))=(allT a&&b))(l:List UInt8)(r:List (List UInt8))(he:l++r.flatten=tks false (yw cK dF k a))(ho:allT a=true->l.length+r.flatten.length<=1000000000->o=some (Out.of (.aN [zA (lB (l++r.flatten)),bA b]))):cond (allT a) o I4=some (Out.of (tfV k a sk)):=by
 unfold tfV;have hl:=jX false (Dp k a);rw[<-he,uI]at hl;rw[hb];cases h:allT a
 .rfl
 .rw[cond_true,ho h (by omega),he];rfl
theorem M5{k:Int}(sk:Int)(hk:1<=k/\k<=6)(h:∀i,i<11->cB (a i)):aj bW 38 [.agg (fC k a sk)] (tfV k a sk):=by
 have hE:∀e,e∈[(⟨96,eV λ a b c=>bA (jv a b c)⟩:Entry)]->lg bW e:=bn (tT Ov) aB;have hK:∀e,e∈tfK su uQ K7 bG->tO bW e:=ak aD (ak aD av);have sp3:∀x y z,pY [x,y,z]=tks true [Jd cK dF x,Jd cK dF y,Jd cK dF z]:=λ _ _ _=>rfl;have sp1:∀x,pY [x]=tks true [Jd cK dF x]:=λ _=>rfl;rcases(show k=1\/k=2\/k=3\/k=4\/k=5\/k=6 by omega)with rfl |rfl |rfl |rfl |rfl |rfl
 .refine qw hE hK (jl (iK _) bO) aA1 (by kernel_rfl) (by kernel_rfl) aA rfl ((ap0 su uQ K7 bG a sk).trans ?_)
  rw[F4 h];refine F5 (oq1 h sk) [98,97,108,108] [pY [a 0,a 1,a 2],[32,114,97,100,105,117,115],pY [a 9]] (by rw[sp3,sp1];simp[yw,adV,vT,Lp]) λ hA hl=>?_;obtain⟨a1,a2,a3,a4,a5⟩:=NP hA;rw[Bw a1,ab4 a4];exact K9 hl _
 .refine qw hE hK (jl (iK _) bO) aA1 (by kernel_rfl) (by kernel_rfl) aA rfl ((ap1 su uQ K7 bG a sk).trans ?_)
  rw[F4 h];refine F5 (oq2 h sk) [98,108,111,99,107] [pY [a 0,a 1,a 2],[32,116,111],pY [a 3,a 4,a 5]] (by rw[sp3,sp3];simp[yw,adW,vT]) λ hA hl=>?_;obtain⟨a1,a2,a3,a4,a5⟩:=NP hA;rw[Bw a1,Bw a2];exact K9 hl _
 .refine qw hE hK (jl (iK _) bO) aA1 (by kernel_rfl) (by kernel_rfl) aA rfl ((ap2 su uQ K7 bG a sk).trans ?_)
  rw[F4 h];refine F5 (oq3 h sk) [116,114,105] [pY [a 0,a 1,a 2],[32,44],pY [a 3,a 4,a 5],[32,44],pY [a 6,a 7,a 8]] (by rw[sp3,sp3,sp3];simp[yw,adX,vT]) λ hA hl=>?_;obtain⟨a1,a2,a3,a4,a5⟩:=NP hA;rw[Bw a1,Bw a2,Bw a3];exact K9 hl _
 .refine qw hE hK (jl (iK _) bO) aA1 (by kernel_rfl) (by kernel_rfl) aA rfl ((ap3 su uQ K7 bG a sk).trans ?_)
  rw[F4 h];refine F5 (oq4 h sk 4) [112,108,97,116,101] [pY [a 0,a 1,a 2],[32,117,112],pY [a 3,a 4,a 5],[32,114,97,100,105,117,115],pY [a 9]] (by rw[sp3,sp3,sp1];simp[yw,adY,Dn,vT,Lp]) λ hA hl=>?_;obtain⟨a1,a2,a3,a4,a5⟩:=NP hA;rw[Bw a1,Bw a2,ab4 a4];exact K9 hl _
 .refine qw hE hK (jl (iK _) bO) aA1 (by kernel_rfl) (by kernel_rfl) aA rfl ((ap4 su uQ K7 bG a sk).trans ?_)
  rw[F4 h];refine F5 (oq4 h sk 5) [116,117,98,101] [pY [a 0,a 1,a 2],[32,97,108,111,110,103],pY [a 3,a 4,a 5],[32,114,97,100,105,117,115],pY [a 9]] (by rw[sp3,sp3,sp1];simp[yw,adZ,Dn,vT,Lp]) λ hA hl=>?_;obtain⟨a1,a2,a3,a4,a5⟩:=NP hA;rw[Bw a1,Bw a2,ab4 a4];exact K9 hl _
 .refine qw hE hK (jl (iK _) bO) aA1 (by kernel_rfl) (by kernel_rfl) aA rfl ((ap5 su uQ K7 bG a sk).trans ?_)
  rw[F4 h];refine F5 (oq6 h sk) [114,105,110,103] [pY [a 0,a 1,a 2],[32,117,112],pY [a 3,a 4,a 5],[32,114,97,100,105,117,115],pY [a 9],pY [a 10]] (by rw[sp3,sp3,sp1,sp1];simp[yw,ad1,Dn,vT,Lp]) λ hA hl=>?_;obtain⟨a1,a2,a3,a4,a5⟩:=NP hA;rw[Bw a1,Bw a2,ab4 a4,ab4 a5];exact agU _ _ _ hl
end
end Go.Proofs.YtefphimaggjihaaGreatDoor.Pi
namespace Go.Proofs.YtefphimaggjihaaGreatDoor.Pi
open Go.Shelf Go.RowKit Go.Gv
open Hs (fC)
open Hs.So (dM pJ)
theorem Av {l : List Entry} {ks : List aV} {ms : List fQ} {L : Nat -> Option dN} {Z : Nat -> Option mg} (hZ : ∀ i h, Z i = some h -> fZ 0 h) (hl : ∀ e, e ∈ l -> lg bW e) (hks : ∀ e, e ∈ ks -> tO bW e) (hms : ∀ e, e ∈ ms -> vU bW e) {f : Nat} {fn : Func} (hf : bW.funcs[f]? = some fn) (hnm : (fn.name == "runtime.NumGoroutine") = false) (hb : fn.body = some (dG fn)) (hL : yN bW L (dG fn))
  {args:List AV} (hlen:Nat.ble args.length fn.ntmps=true) {r:AV} (h:qQ bW l ks ms L Z fn args ret=some (Out.of r)):aj bW f args r:=pq hZ (qN hl hks hms) (iJ (qN hl hks hms) (by kernel_rfl)) 40 hf hnm hb hL hlen h
def gPt(rT:Int->Int->ByteArray)(rN:Int->Int->Int)(rB:Int->Int->Bool):List AV->AV
 | [_,.x (.int .i64 k),.x (.int .i64 fr),_]=>.aN [zA (rT k fr),iA (rN k fr),bA (rB k fr)]
 |_=>.any
section
variable(n:Nat)(P:Nat->dM)(k fr d:Int)(ft:ByteArray)(fb:Bool)(rT:Int->Int->ByteArray)(rN:Int->Int->Int)(rB:Int->Int->Bool)
def aof:Option Out:=some (Out.of (.aN [zA ⟨#[]⟩,iA 0,bA false]))
def tpP:ByteArray->List ByteArray->Option Out
 |s,[]=>some (Out.of (.aN [zA s,iA k,bA true]))
 |s,t::r=>cond (mq s t||false) (tpP (s++t) r) none
def FPt(x f:Int):Prop:=aj bW 40 [pJ n P,iA x,iA f,iA (aI (d+1))] (.aN [zA (rT x f),iA (rN x f),bA (rB x f)])
def lfB(p:dM):Bool:=cond (cond (cond (cond fb (k==fr) false) (p.l==0) false) (p.r==0) false) (p.sk==0) false
def nd5(p:dM):Bool:=cond (cond (cond (d==3) true (!(eqZ p))) true (decide (p.l<fr))) true (!(p.r==aI (k - 1)))
def f2(p:dM):Int:=aI (rN p.l fr+1)
def tpX(v:Int)(w:ByteArray)(p:dM):Option Out:=cond (mI k n||false) (cond (p.op==0) (gate (aj bW 38 [.agg p.s] (.aN [zA ft,bA fb])) (some (Out.of (.aN [zA ft,iA fr,bA (lfB k fr fb p)]))))
 (cond (nd5 k fr d p) aof (gate (FPt n P d rT rN rB p.l fr) (cond (cond (!(rB p.l fr)) true (!(rN p.l fr==p.l))) aof
  (gate (FPt n P d rT rN rB p.r (f2 fr rN p)) (cond (cond (!(rB p.r (f2 fr rN p))) true (!(rN p.r (f2 fr rN p)==p.r))) aof
   (gate (p.op=v) (tpP k w [⟨#[32,123,32]⟩,rT p.l fr,⟨#[32]⟩,rT p.r (f2 fr rN p),⟨#[32,125]⟩])))))))) none
def tpK:List aV:=[kS bW 38 λ _=>.aN [zA ft,bA fb],kS bW 40 (gPt rT rN rB)]
theorem O8:qQ bW [] (tpK ft fb rT rN rB) [born 57] aM (iH 13 (zOp 0 1)) aEy [pJ n P,iA k,iA fr,iA d] ret=tpX n P k fr d ft fb rT rN rB 1 ⟨#[98,111,116,104]⟩ (P k.toNat):=by kernel_rfl
theorem anc:qQ bW [] (tpK ft fb rT rN rB) [born 57] aM (iH 13 (zOp 0 2)) aEy [pJ n P,iA k,iA fr,iA d] ret=tpX n P k fr d ft fb rT rN rB 2 ⟨#[101,105,116,104,101,114]⟩ (P k.toNat):=by kernel_rfl
theorem ane:qQ bW [] (tpK ft fb rT rN rB) [born 57] aM (iH 13 (zOp 0 3)) aEy [pJ n P,iA k,iA fr,iA d] ret=tpX n P k fr d ft fb rT rN rB 3 ⟨#[108,101,115,115]⟩ (P k.toNat):=by kernel_rfl
end
open Go.Ev (dK cB)
def oD (P:Nat->dM):Nat->Nat->Int->List UInt8 × Int × Bool
  | 0,_,_=>([],0,false)
  |g+1,k,fr=>cond ((P k).op==0) (cond (allT (P k).a) (tks false (yw cK dF (P k).k (P k).a)) [],fr,lfB (k:Nat) fr (!(CX bG (P k).k (P k).a (P k).sk)) (P k))
    (cond (nd5 (k:Nat) fr (3 - (g:Int)) (P k)) ([],0,false)
      (cond (cond (!(oD P g (P k).l.toNat fr).2.2) true (!((oD P g (P k).l.toNat fr).2.1==(P k).l))) ([],0,false)
        (cond (cond (!(oD P g (P k).r.toNat ((P k).l+1)).2.2) true (!((oD P g (P k).r.toNat ((P k).l+1)).2.1==(P k).r))) ([],0,false)
          (y7 (P k).op++([32,123,32]++((oD P g (P k).l.toNat fr).1++([32]++((oD P g (P k).r.toNat ((P k).l+1)).1++[32,125])))),((k:Nat):Int),true))))
theorem vZ(P:Nat->dM)(g k:Nat)(fr:Int):oD P (g+1) k fr=cond ((P k).op==0) (cond (allT (P k).a) (tks false (yw cK dF (P k).k (P k).a)) [],fr,lfB (k:Nat) fr (!(CX bG (P k).k (P k).a (P k).sk)) (P k))
  (cond (nd5 (k:Nat) fr (3 - (g:Int)) (P k)) ([],0,false)
   (cond (cond (!(oD P g (P k).l.toNat fr).2.2) true (!((oD P g (P k).l.toNat fr).2.1==(P k).l))) ([],0,false)
    (cond (cond (!(oD P g (P k).r.toNat ((P k).l+1)).2.2) true (!((oD P g (P k).r.toNat ((P k).l+1)).2.1==(P k).r))) ([],0,false)
     (y7 (P k).op++([32,123,32]++((oD P g (P k).l.toNat fr).1++([32]++((oD P g (P k).r.toNat ((P k).l+1)).1++[32,125])))),((k:Nat):Int),true)))):=rfl
theorem Eb (P:Nat->dM):∀(g k:Nat) (fr:Int),(oD P g k fr).1.length+12<=1000*2 ^ g
  | 0,_,_=>by simp[oD]
  |g+1,k,fr=>by
    rw[vZ];have h1:=Eb P g (P k).l.toNat fr;have h2:=Eb P g (P k).r.toNat ((P k).l+1);have h3:(y7 (P k).op).length<=6:=by unfold y7;split<;>(try split)<;>decide
    have hp:=Nat.two_pow_pos g;have e:2 ^ (g+1)=2 ^ g*2:=Nat.pow_succ ..;have hl:(tks false (yw cK dF (P k).k (P k).a)).length<=273:=jX false (Dp _ _);rw[e];generalize oD P g (P k).l.toNat fr=A at *;generalize oD P g (P k).r.toNat ((P k).l+1)=B at *;generalize 2 ^ g=T at *;cases(P k).op==0
    . rw[cond_false]
      cases nd5 (k:Nat) fr (3 - (g:Int)) (P k)
      . rw[cond_false]
        generalize cond (!A.2.2) true (!(A.2.1==(P k).l))=c1;generalize cond (!B.2.2) true (!(B.2.1==(P k).r))=c2;cases c1
        . rw[cond_false]
          cases c2
          . rw[cond_false]
            simp only[uI,anE,arB];omega
          . simp only[cond_true,arB];omega
        . simp only[cond_true,arB];omega
      . simp only[cond_true,arB];omega
    . rw[cond_true]
      cases allT (P k).a
      . simp only[cond_false,arB];omega
      . simp only[cond_true];omega
theorem aen(k:Int):∀(l:List UInt8) (r:List (List UInt8)),l.length+r.flatten.length<=1000000000->tpP k (lB l) (r.map lB)=some (Out.of (.aN [zA (lB (l++r.flatten)),iA k,bA true]))
 |l,[],_=>by simp[tpP]
 |l,t::r,h=>by
  rw[arS,uI]at h;show cond (mq (lB l) (lB t)||false) (tpP k (lB l++lB t) (r.map lB)) none=_;rw[kW (by rw[aY,aY];omega),gZ,aen k (l++t) r (by rw[uI];omega),arS,aiR];rfl
def tpV(t:List UInt8 × Int × Bool):AV:=.aN [zA (lB t.1),iA t.2.1,bA t.2.2]
section
variable{n:Nat}{P:Nat->dM}
def Wz(P:Nat->dM)(g:Nat)(x f:Int):ByteArray:=lB (oD P g x.toNat f).1
def O7(P:Nat->dM)(g:Nat)(x f:Int):Int:=(oD P g x.toNat f).2.1
def Sv(P:Nat->dM)(g:Nat)(x f:Int):Bool:=(oD P g x.toNat f).2.2
theorem Sw{g k:Nat}(fr:Int){v:Int}{w:ByteArray}(hk:k<n)(h0:(P k).op=0)(hS:(1<=(P k).k/\(P k).k<=6)/\∀q,q<11->cB ((P k).a q)):tpX n P (k:Nat) fr (3 - (g:Int)) (lB (cond (allT (P k).a) (tks false (yw cK dF (P k).k (P k).a)) [])) (!(CX bG (P k).k (P k).a (P k).sk)) (Wz P g) (O7 P g) (Sv P g) v w (P k)=some (Out.of (tpV (oD P (g+1) k fr))):=by
 have hf:aj bW 38 [.agg (P k).s] (tfV (P k).k (P k).a (P k).sk):=M5 (P k).sk hS.1 hS.2;unfold tpX;rw[gy hk,vZ,h0,ah (show aj bW 38 [.agg (P k).s] (.aN [zA (lB (cond (allT (P k).a) (tks false (yw cK dF (P k).k (P k).a)) [])),bA (!(CX bG (P k).k (P k).a (P k).sk))]) from hf)];rfl
theorem JQ{g k:Nat}(hg:g<=3)(fr:Int){v:Int}{w:List UInt8}{ft:ByteArray}{fb:Bool}(hk:k<n)(h0:(P k).op≠0)(hv:(P k).op=v)(hw:y7 (P k).op=w)(hl:0<=(P k).l/\(P k).l<1000)
  (hI:((3 - (g:Int))==3)=false->∀f,FPt n P (3 - (g:Int)) (Wz P g) (O7 P g) (Sv P g) (P k).l f/\FPt n P (3 - (g:Int)) (Wz P g) (O7 P g) (Sv P g) (P k).r f):tpX n P (k:Nat) fr (3 - (g:Int)) ft fb (Wz P g) (O7 P g) (Sv P g) v (lB w) (P k)=some (Out.of (tpV (oD P (g+1) k fr))):=by
 unfold tpX;rw[gy hk,vZ,beq_false_of_ne h0];show cond (nd5 (k:Nat) fr (3 - (g:Int)) (P k)) _ _=_;cases hnd:nd5 (k:Nat) fr (3 - (g:Int)) (P k)
 .have hd:((3 - (g:Int))==3)=false:=by
   unfold nd5 at hnd;cases hc:((3 - (g:Int))==3)
   .rfl
   .rw[hc]at hnd;cases hnd
  have hi:=hI hd;rw[cond_false,ah (hi fr).1,cond_false,cond_false];have e1:cond (!(Sv P g (P k).l fr)) true (!(O7 P g (P k).l fr==(P k).l))=cond (!(oD P g (P k).l.toNat fr).2.2) true (!((oD P g (P k).l.toNat fr).2.1==(P k).l)):=rfl;rw[e1];cases h1:cond (!(oD P g (P k).l.toNat fr).2.2) true (!((oD P g (P k).l.toNat fr).2.1==(P k).l))
  .have hN:(oD P g (P k).l.toNat fr).2.1=(P k).l:=by
    cases hb:(oD P g (P k).l.toNat fr).2.2
    .rw[hb]at h1;cases h1
    .rw[hb]at h1
     have h1:(!((oD P g (P k).l.toNat fr).2.1==(P k).l))=false:=h1;simpa using h1
   have hf2:f2 fr (O7 P g) (P k)=(P k).l+1:=by
    unfold f2 O7;rw[hN];exact aO (by omega) (by omega)
   rw[cond_false,cond_false,hf2,ah (hi ((P k).l+1)).2];have e2:cond (!(Sv P g (P k).r ((P k).l+1))) true (!(O7 P g (P k).r ((P k).l+1)==(P k).r))=cond (!(oD P g (P k).r.toNat ((P k).l+1)).2.2) true (!((oD P g (P k).r.toNat ((P k).l+1)).2.1==(P k).r)):=rfl;rw[e2];cases h2:cond (!(oD P g (P k).r.toNat ((P k).l+1)).2.2) true (!((oD P g (P k).r.toNat ((P k).l+1)).2.1==(P k).r))
   .have l1:=Eb P g (P k).l.toNat fr
    have l2:=Eb P g (P k).r.toNat ((P k).l+1);have hp:2 ^ g<=2 ^ 3:=Nat.pow_le_pow_right (by decide) hg;have l3:=Zb (P k).op
    have:=aen (k:Nat) w [[32,123,32],(oD P g (P k).l.toNat fr).1,[32],(oD P g (P k).r.toNat ((P k).l+1)).1,[32,125]] (by
     rw[<-hw];simp only[arS,ayw,uI,anE,arB];omega)
    rw[cond_false,cond_false,ah hv];refine this.trans ?_;rw[<-hw];simp only[arS,ayw,awr];rfl
   .rfl
  .rfl
 .rfl
theorem EY(hn:n<=16)(hP:PM n P)(hS:∀i,i<n->(P i).op=0->(1<=(P i).k/\(P i).k<=6)/\∀q,q<11->cB ((P i).a q)):∀(g:Nat),g<=3->∀(k:Nat) (fr:Int),k<n->aj bW 40 [pJ n P,iA (k:Nat),iA fr,iA (3 - (g:Int))] (tpV (oD P (g+1) k fr)):=by
 intro g
 induction g with
 |zero =>
  intro hg k fr hk;by_cases h0:(P k).op=0
  .refine Av (gK (xw 0 1)) aB (ak aD (ak aD av)) (jl (iK _) bO) aA2 (by kernel_rfl) (by kernel_rfl) aA rfl ((O8 n P (k:Nat) fr (3 - ((0:Nat):Int)) (lB (cond (allT (P k).a) (tks false (yw cK dF (P k).k (P k).a)) [])) (!(CX bG (P k).k (P k).a (P k).sk)) (Wz P 0) (O7 P 0) (Sv P 0)).trans ?_)
   rw[Zk];exact Sw fr hk h0 (hS k hk h0)
  .obtain⟨hop,⟨l0,l1⟩,r0,r1⟩:=(hP k hk).resolve_left h0
   have hI:((3 - ((0:Nat):Int))==3)=false->∀f,FPt n P (3 - ((0:Nat):Int)) (Wz P 0) (O7 P 0) (Sv P 0) (P k).l f/\FPt n P (3 - ((0:Nat):Int)) (Wz P 0) (O7 P 0) (Sv P 0) (P k).r f:=λ h=>by cases h
   refine Av (gK (xw 0 1)) aB (ak aD (ak aD av)) (jl (iK _) bO) aA2 (by kernel_rfl) (by kernel_rfl) aA rfl ((O8 n P (k:Nat) fr (3 - ((0:Nat):Int)) ⟨#[]⟩ false (Wz P 0) (O7 P 0) (Sv P 0)).trans ?_);rw[Zk];unfold tpX;rw[gy hk,vZ,beq_false_of_ne h0];have hd:nd5 (k:Nat) fr (3 - ((0:Nat):Int)) (P k)=true:=rfl;rw[hd];rfl
 |succ g ih =>
  intro hg k fr hk;by_cases h0:(P k).op=0
  .refine Av (gK (xw 0 1)) aB (ak aD (ak aD av)) (jl (iK _) bO) aA2 (by kernel_rfl) (by kernel_rfl) aA rfl ((O8 n P (k:Nat) fr (3 - ((g+1:Nat):Int)) (lB (cond (allT (P k).a) (tks false (yw cK dF (P k).k (P k).a)) [])) (!(CX bG (P k).k (P k).a (P k).sk)) (Wz P (g+1)) (O7 P (g+1)) (Sv P (g+1))).trans ?_)
   rw[Zk];exact Sw fr hk h0 (hS k hk h0)
  .obtain⟨hop,⟨l0,l1⟩,r0,r1⟩:=(hP k hk).resolve_left h0
   have ed:aI (3 - ((g+1:Nat):Int)+1)=3 - (g:Int):=by rw[aO (by omega) (by omega)];omega
   have hx:∀x:Int,0<=x->x<(k:Nat)->∀f,FPt n P (3 - ((g+1:Nat):Int)) (Wz P (g+1)) (O7 P (g+1)) (Sv P (g+1)) x f:=λ x x0 x1 f=>by
    have:=ih (by omega) x.toNat f (by omega);unfold FPt;rw[ed];rw[show((x.toNat:Nat):Int)=x by omega]at this;exact this
   have hI:((3 - ((g+1:Nat):Int))==3)=false->∀f,FPt n P (3 - ((g+1:Nat):Int)) (Wz P (g+1)) (O7 P (g+1)) (Sv P (g+1)) (P k).l f/\FPt n P (3 - ((g+1:Nat):Int)) (Wz P (g+1)) (O7 P (g+1)) (Sv P (g+1)) (P k).r f:=λ _ f=>⟨hx _ l0 l1 f,hx _ r0 r1 f⟩;rcases(show(P k).op=1\/(P k).op=2\/(P k).op=3 by omega)with ho |ho |ho
   .refine Av (gK (xw 0 1)) aB (ak aD (ak aD av)) (jl (iK _) bO) aA2 (by kernel_rfl) (by kernel_rfl) aA rfl ((O8 n P (k:Nat) fr (3 - ((g+1:Nat):Int)) ⟨#[]⟩ false (Wz P (g+1)) (O7 P (g+1)) (Sv P (g+1))).trans ?_)
    rw[Zk];exact JQ hg fr (w:=[98,111,116,104]) hk h0 ho (by rw[ho];rfl) (by omega) hI
   .refine Av (gK (xw 0 2)) aB (ak aD (ak aD av)) (jl (iK _) bO) aA2 (by kernel_rfl) (by kernel_rfl) aA rfl ((anc n P (k:Nat) fr (3 - ((g+1:Nat):Int)) ⟨#[]⟩ false (Wz P (g+1)) (O7 P (g+1)) (Sv P (g+1))).trans ?_)
    rw[Zk];exact JQ hg fr (w:=[101,105,116,104,101,114]) hk h0 ho (by rw[ho];rfl) (by omega) hI
   .refine Av (gK (xw 0 3)) aB (ak aD (ak aD av)) (jl (iK _) bO) aA2 (by kernel_rfl) (by kernel_rfl) aA rfl ((ane n P (k:Nat) fr (3 - ((g+1:Nat):Int)) ⟨#[]⟩ false (Wz P (g+1)) (O7 P (g+1)) (Sv P (g+1))).trans ?_)
    rw[Zk];exact JQ hg fr (w:=[108,101,115,115]) hk h0 ho (by rw[ho];rfl) (by omega) hI
end
theorem ZJ{k:Int}{a:Nat->Nat}{sk:Int}(hk:1<=k/\k<=6)(h:∀i,i<11->cB (a i))(hb:CX bG k a sk=false):allT a=true:=by
 have key:∀{b c:Bool},(!b)=(allT a&&c)->b=false->allT a=true:=fun{b c} e hb=>by
  subst hb;cases hA:allT a
  .rw[hA]at e;cases e
  .rfl
 rcases(show k=1\/k=2\/k=3\/k=4\/k=5\/k=6 by omega)with rfl |rfl |rfl |rfl |rfl |rfl
 .exact key (oq1 h sk) hb
 .exact key (oq2 h sk) hb
 .exact key (oq3 h sk) hb
 .exact key (oq4 h sk 4) hb
 .exact key (oq4 h sk 5) hb
 .exact key (oq6 h sk) hb
theorem ZP{k fr:Int}{fb:Bool}{p:dM}:lfB k fr fb p=true↔fb=true/\k=fr/\p.l=0/\p.r=0/\p.sk=0:=by
 unfold lfB;cases fb
 .simp
 .by_cases h1:k=fr
  .by_cases h2:p.l=0
   .by_cases h3:p.r=0
    .by_cases h4:p.sk=0<;>simp[h1,h2,h3,h4]
    .simp[h1,h2,h3]
   .simp[h1,h2]
  .simp[h1]
theorem ZQ{k fr d:Int}{p:dM}:nd5 k fr d p=false↔d≠3/\eqZ p=true/\fr<=p.l/\p.r=aI (k - 1):=by
 unfold nd5;by_cases h1:d=3
 .simp[h1]
 .cases h2:eqZ p
  .simp[h1]
  .by_cases h3:p.l<fr
   .simp[h1,h3];omega
   .by_cases h4:p.r=aI (k - 1)<;>simp[h1,h3,h4]<;>omega
theorem or2{b:Bool}{x y:Int}:cond (!b) true (!(x==y))=false↔b=true/\x=y:=by
 cases b
 .simp
 .simp
theorem Nr{p:dM}(h0:p.op=0):lV p=true↔p.l=0/\p.r=0/\p.sk=0:=by
 unfold lV;rw[h0];show cond (cond (p.l==0) (p.r==0) false) (p.sk==0) false=true↔_;by_cases h2:p.l=0
 .by_cases h3:p.r=0
  .by_cases h4:p.sk=0<;>simp[h2,h3,h4]
  .simp[h2,h3]
 .simp[h2]
theorem Ns{p:dM}(h0:p.op≠0):lV p=eqZ p:=by unfold lV;rw[beq_false_of_ne h0];rfl
def UZ(P:Nat->dM)(k:Nat):Int:=(sd P (k+1)).1 k
def U0(P:Nat->dM)(k:Nat):Int:=(sd P (k+1)).2 k
theorem ZR(P:Nat->dM):∀j q,j<=q->(sd P j).2 q=0
 | 0,_,_=>rfl
 |j+1,q,h=>by
  have ih:=ZR P j q (by omega);rw[kU];split
  .exact ih
  .exact(upd_ne _ (by omega) _).trans ih
theorem Xl(g:Nat->Int)(j:Nat)(v:Int):upd g j v j=v:=if_pos rfl
section
variable{P:Nat->dM}
theorem Ir{k:Nat}(h0:(P k).op=0):UZ P k=1/\U0 P k=0:=by
 unfold UZ U0;rw[kU,if_pos h0];exact⟨Xl _ _ _,ZR P k k (Nat.le_refl _)⟩
theorem Iu{k:Nat}(h0:(P k).op≠0)(l0:0<=(P k).l)(l1:(P k).l<(k:Nat))(_:0<=(P k).r)(r1:(P k).r<(k:Nat)):UZ P k=1+(UZ P (P k).l.toNat+UZ P (P k).r.toNat)/\U0 P k=1+mx (U0 P (P k).l.toNat) (U0 P (P k).r.toNat):=by
 unfold UZ U0;rw[kU P k,if_neg h0,<-(za (P:=P) (i:=(P k).l.toNat) (j:=k) (by omega)).1,<-(za (P:=P) (i:=(P k).l.toNat) (j:=k) (by omega)).2,<-(za (P:=P) (i:=(P k).r.toNat) (j:=k) (by omega)).1,<-(za (P:=P) (i:=(P k).r.toNat) (j:=k) (by omega)).2];exact⟨Xl _ _ _,Xl _ _ _⟩
theorem TF(k:Nat):0<=UZ P k:=(qm P (k+1) k).1.1
theorem alm(k:Nat):0<=U0 P k:=(qm P (k+1) k).2.1
theorem WZ{X:List (List UInt8)}(h:X≠[]):tks true X=32::tks false X:=by
 cases X with
 |nil=>exact absurd rfl h
 |cons t r=>rfl
theorem Vv(k:Int)(a:Nat->Nat):yw cK dF k a≠[]:=by
 unfold yw;split
 .simp[adV]
 .split
  .simp[adW]
  .split
   .simp[adX]
   .split
    .simp[adY,Dn]
    .split
     .simp[adZ,Dn]
     .simp[ad1,Dn]
theorem W9{f k:Nat}(h:k<f):Fh cK dF P f k≠[]:=by
 cases f with
 |zero=>omega
 |succ f =>
  unfold Fh;split
  .exact Vv _ _
  .simp
theorem aln{a b M:Int}:mx a b<=M↔a<=M/\b<=M:=by unfold mx;split<;>omega
theorem alo(f k:Nat):Fh cK dF P (f+1) k=if(P k).op=0 then yw cK dF (P k).k (P k).a else [y7 (P k).op,[123]]++(Fh cK dF P f (P k).l.toNat++(Fh cK dF P f (P k).r.toNat++[[125]])):=rfl
theorem Xm(f k:Nat):pX bG P (f+1) k=if(P k).op=0 then CX bG (P k).k (P k).a (P k).sk else pX bG P f (P k).l.toNat||pX bG P f (P k).r.toNat:=rfl
variable{n:Nat}
abbrev HS(n:Nat)(P:Nat->dM):Prop:=∀i,i<n->(P i).op=0->(1<=(P i).k/\(P i).k<=6)/\∀q,q<11->cB ((P i).a q)
theorem TG (hn:n<=16) (hP:PM n P) (hS:HS n P):∀(g k:Nat) (fr:Int),k<n->0<=fr->(oD P g k fr).2.2=true->(oD P g k fr).2.1=(k:Nat)/\fr<=(k:Nat)/\(∀j:Nat,fr<=(j:Nat)->j<=k->okJ P j)/\UZ P k=(k:Nat) - fr+1/\U0 P k+1<=(g:Nat)/\∀f,k<f->pX bG P f k=false/\(oD P g k fr).1=tks false (Fh cK dF P f k)
  | 0,_,_,_,_,h=>by cases h
  |g+1,k,fr,hk,h0,h=>by
    rw[vZ]at h ⊢;by_cases ho:(P k).op=0
    . have hb:((P k).op==0)=true:=by rw[ho];rfl
      rw[hb,cond_true]at h ⊢;obtain⟨f1,f2,f3,f4,f5⟩:=ZP.1 h;have hsB:CX bG (P k).k (P k).a (P k).sk=false:=by simpa using f1
      have hA:=ZJ (hS k hk ho).1 (hS k hk ho).2 hsB;obtain⟨z1,z2⟩:=Ir ho;refine⟨f2.symm,by omega,λ j j1 j2=>?_,by rw[z1];omega,by rw[z2];omega,λ f hf=>?_⟩
      . have:j=k:=by omega
        subst this;exact⟨(Nr ho).2 ⟨f3,f4,f5⟩,Or.inl ho⟩
      . cases f with
        |zero=>omega
        |succ f =>
          rw[Xm,alo,if_pos ho,if_pos ho,hA];exact⟨hsB,rfl⟩
    . rw[beq_false_of_ne ho,cond_false]at h ⊢
      obtain⟨hop,⟨l0,l1⟩,r0,r1⟩:=(hP k hk).resolve_left ho;cases hnd:nd5 (k:Nat) fr (3 - (g:Int)) (P k)
      . rw[hnd,cond_false]at h
        rw[cond_false];obtain⟨_,d2,d3,d4⟩:=ZQ.1 hnd;rw[aO (by omega) (by omega)]at d4;cases c1:cond (!(oD P g (P k).l.toNat fr).2.2) true (!((oD P g (P k).l.toNat fr).2.1==(P k).l))
        . rw[c1,cond_false]at h
          rw[cond_false];obtain⟨a1,a2⟩:=or2.1 c1;cases c2:cond (!(oD P g (P k).r.toNat ((P k).l+1)).2.2) true (!((oD P g (P k).r.toNat ((P k).l+1)).2.1==(P k).r))
          . rw[cond_false]
            obtain⟨b1,b2⟩:=or2.1 c2;obtain⟨_,i2,i3,i4,i5,i6⟩:=TG hn hP hS g (P k).l.toNat fr (by omega) h0 a1;obtain⟨_,j2,j3,j4,j5,j6⟩:=TG hn hP hS g (P k).r.toNat ((P k).l+1) (by omega) (by omega) b1;obtain⟨z1,z2⟩:=Iu ho l0 l1 r0 r1;refine⟨rfl,by omega,λ j q1 q2=>?_,by rw[z1];omega,?_,λ f hf=>?_⟩
            . by_cases e1:j<=(P k).l.toNat
              . exact i3 j q1 e1
              . by_cases e2:j=k
                . subst e2
                  refine⟨(Ns ho).trans d2,Or.inr ⟨d4,?_⟩⟩
                  have e3:(sd P j).1 (j - 1)=UZ P (P j).r.toNat:=by
                    rw[show(P j).r.toNat=j - 1 by omega];exact(za (by omega)).1
                  rw[e3];omega
                . exact j3 j (by omega) (by omega)
            . rw[z2]
              have:=(aln (a:=U0 P (P k).l.toNat) (b:=U0 P (P k).r.toNat) (M:=(g:Int) - 1)).2 ⟨by omega,by omega⟩;omega
            . cases f with
              |zero=>omega
              |succ f =>
                obtain⟨p1,p2⟩:=i6 f (by omega);obtain⟨p3,p4⟩:=j6 f (by omega);rw[Xm,alo,if_neg ho,if_neg ho,p1,p3];refine⟨rfl,?_⟩;show y7 (P k).op++([32,123,32]++((oD P g (P k).l.toNat fr).1++([32]++((oD P g (P k).r.toNat ((P k).l+1)).1++[32,125]))))=_;rw[p2,p4,qH _ _ _ (by simp),rA,rA,WZ (X:=Fh cK dF P f (P k).l.toNat) (W9 (by omega)),WZ (X:=Fh cK dF P f (P k).r.toNat) (W9 (by omega))];simp
          . rw[c2]at h;cases h
        . rw[c1]at h;cases h
      . rw[hnd]at h;cases h
theorem afk(hn:n<=16)(hP:PM n P)(hS:HS n P):∀(g k:Nat) (fr:Int) (f:Nat),g<=4->k<n->0<=fr->(∀j:Nat,fr<=(j:Nat)->j<=k->okJ P j)->fr<=(k:Nat)->UZ P k=(k:Nat) - fr+1->U0 P k+1<=(g:Nat)->k<f->pX bG P f k=false->(oD P g k fr).2.2=true
 | 0,k,_,_,_,_,_,_,_,_,h,_,_=>by have:=alm (P:=P) k;omega
 |g+1,k,fr,0,_,_,_,_,_,_,_,h,_=>by omega
 |g+1,k,fr,f+1,hg,hk,h0,hj,hfk,hs,hd,hf,hb=>by
  rw[vZ];obtain⟨k1,k2⟩:=hj k hfk (Nat.le_refl _);rw[Xm]at hb;by_cases ho:(P k).op=0
  .have hbo:((P k).op==0)=true:=by rw[ho];rfl
   rw[hbo,cond_true];rw[if_pos ho]at hb;obtain⟨b1,b2,b3⟩:=(Nr ho).1 k1;obtain⟨z1,z2⟩:=Ir ho;exact ZP.2 ⟨by rw[hb];rfl,by omega,b1,b2,b3⟩
  .rw[beq_false_of_ne ho,cond_false]
   rw[if_neg ho]at hb;obtain⟨hop,⟨l0,l1⟩,r0,r1⟩:=(hP k hk).resolve_left ho;obtain⟨kr,kl⟩:=k2.resolve_left ho;obtain⟨z1,z2⟩:=Iu ho l0 l1 r0 r1
   have e3:(sd P k).1 (k - 1)=UZ P (P k).r.toNat:=by
    rw[show(P k).r.toNat=k - 1 by omega];exact(za (by omega)).1
   rw[e3]at kl;have hm:=(aln (a:=U0 P (P k).l.toNat) (b:=U0 P (P k).r.toNat) (M:=(g:Int) - 1)).1 (by omega);have s1:=TF (P:=P) (P k).l.toNat;have d1:=alm (P:=P) (P k).l.toNat;have pb1:pX bG P f (P k).l.toNat=false:=by cases h:pX bG P f (P k).l.toNat;rfl;rw[h]at hb;cases hb
   have pb2:pX bG P f (P k).r.toNat=false:=by cases h:pX bG P f (P k).r.toNat;rfl;rw[pb1,h]at hb;cases hb
   have sl1:1<=UZ P (P k).l.toNat:=by
    by_cases hl:(P (P k).l.toNat).op=0
    .rw[(Ir hl).1];omega
    .obtain⟨_,⟨m0,m1⟩,n0,n1⟩:=(hP (P k).l.toNat (by omega)).resolve_left hl
     rw[(Iu hl m0 m1 n0 n1).1];have:=TF (P:=P) (P (P k).l.toNat).l.toNat;have:=TF (P:=P) (P (P k).l.toNat).r.toNat;omega
   have sr1:1<=UZ P (P k).r.toNat:=by
    by_cases hl:(P (P k).r.toNat).op=0
    .rw[(Ir hl).1];omega
    .obtain⟨_,⟨m0,m1⟩,n0,n1⟩:=(hP (P k).r.toNat (by omega)).resolve_left hl
     rw[(Iu hl m0 m1 n0 n1).1];have:=TF (P:=P) (P (P k).r.toNat).l.toNat;have:=TF (P:=P) (P (P k).r.toNat).r.toNat;omega
   have A:=afk hn hP hS g (P k).l.toNat fr f (by omega) (by omega) h0 (λ j j1 j2=>hj j j1 (by omega)) (by omega) (by omega) (by omega) (by omega) pb1;have B:=afk hn hP hS g (P k).r.toNat ((P k).l+1) f (by omega) (by omega) (by omega) (λ j j1 j2=>hj j (by omega) (by omega)) (by omega) (by omega) (by omega) (by omega) pb2;have A1:=(TG hn hP hS g (P k).l.toNat fr (by omega) h0 A).1;have B1:=(TG hn hP hS g (P k).r.toNat ((P k).l+1) (by omega) (by omega) B).1;have hnd:nd5 (k:Nat) fr (3 - (g:Int)) (P k)=false:=ZQ.2 ⟨by omega,(Ns ho).symm.trans k1,by omega,by rw[aO (by omega) (by omega)];omega⟩;have c1:cond (!(oD P g (P k).l.toNat fr).2.2) true (!((oD P g (P k).l.toNat fr).2.1==(P k).l))=false:=or2.2 ⟨A,by rw[A1];omega⟩;have c2:cond (!(oD P g (P k).r.toNat ((P k).l+1)).2.2) true (!((oD P g (P k).r.toNat ((P k).l+1)).2.1==(P k).r))=false:=or2.2 ⟨B,by rw[B1];omega⟩;rw[hnd,cond_false,c1,cond_false,c2];rfl
theorem atG(h1:1<=n)(hn:n<=16)(hP:PM n P)(hS:HS n P):cond (!(oD P 4 (n - 1) 0).2.2) true (!((oD P 4 (n - 1) 0).2.1==((n - 1:Nat):Int)))=O4 bG n P/\(O4 bG n P=false->(oD P 4 (n - 1) 0).1=tks false (Fh cK dF P n (n - 1))/\Fg n P=true):=by
 have e1:n - 1+1=n:=by omega
 cases ht:(oD P 4 (n - 1) 0).2.2
 .have hs:O4 bG n P=true:=by
   unfold O4;cases ha:Fg n P
   .rfl
   .rw[cond_true]
    cases hp:pX bG P n (n - 1)
    .unfold Fg at ha
     have ha:arP n P:=by simpa using ha
     have hz:UZ P (n - 1)=((n - 1:Nat):Int) - 0+1:=by
      unfold UZ;rw[e1,ha.2.1];omega
     have hd:U0 P (n - 1)+1<=((4:Nat):Int):=by
      unfold U0;rw[e1];have:=ha.2.2;omega
     have:=afk hn hP hS 4 (n - 1) 0 n (by omega) (by omega) (by omega) (λ j _ hj=>ha.1 j (by omega)) (by omega) hz hd (by omega) hp;rw[ht]at this;cases this
    .rfl
  rw[hs];exact⟨rfl,λ h=>by cases h⟩
 .obtain⟨a1,a2,a3,a4,a5,a6⟩:=TG hn hP hS 4 (n - 1) 0 (by omega) (by omega) ht
  obtain⟨p1,p2⟩:=a6 n (by omega)
  have ha:Fg n P=true:=by
   classical
   unfold Fg;refine decide_eq_true (show arP n P from⟨λ j hj=>a3 j (by omega) (by omega),?_,?_⟩)
   .unfold UZ at a4
    rw[e1]at a4;rw[a4];omega
   .unfold U0 at a5
    rw[e1]at a5;omega
  have hs:O4 bG n P=false:=by unfold O4;rw[ha,cond_true,p1]
  rw[hs,a1,Cz];exact⟨rfl,λ _=>⟨p2,ha⟩⟩
end
end Go.Proofs.YtefphimaggjihaaGreatDoor.Pi
namespace Go.Proofs.YtefphimaggjihaaGreatDoor.Pi
open Go.Shelf Go.RowKit Go.Gv
def gMf(mf:Int->Nat):List AV->AV
 | [.x (.int .i64 n)]=>.f (mf n)
 |_=>.any
def gSk(sk:Int->ByteArray):List AV->AV
 | [.x (.int .i64 n)]=>zA (sk n)
 |_=>.any
section
variable(ts:Nat->ByteArray)(tb:Nat->Bool)(dd sk:Int->ByteArray)(mf:Int->Nat)(vs:Nat->Nat->Nat->ByteArray)(vb:Nat->Nat->Nat->Bool)(F:Hs.Fm.Fd)(x x1:ByteArray)(v f:Bool)(i:Int)
def FMf(n:Int):Prop:=aj bW 37 [iA n] (.f (mf n))
def FSk(n:Int):Prop:=aj bW 39 [iA n] (zA (sk n))
def fwS:St:=mkS 70 [(1,.own 0 0),(5,bA v),(7,bA f),(8,zA x),(9,iA i)] [.c F.c]
def Qj:List Nat:=[1,5,7,8,9]
def fwK:List aV:=[kS bW 33 (gTv vs vb),kS bW 36 (gTo ts tb),kS bW 23 (gDd dd),kS bW 37 (gMf mf),kS bW 39 (gSk sk)]
def fwC(o e:Option Out):Option Out:=cond (decide (i<(F.n:Nat))) (cond (mI i F.n||false) (gate (FMf mf (F.hs i.toNat)) (gate (FTo ts tb (mf (F.hs i.toNat))) (cond (mq x UU||false) (cond (mq (x++UU) (ts (mf (F.hs i.toNat)))||false) o none) none))) none) e
theorem aj6:gD bW [] (fwK ts tb dd sk mf vs vb) aM (au aCd 0) (fwS F x v f i) (fu Qj [some 0])=fwC ts tb mf F x i (some ⟨.normal,fwS F ((x++UU)++ts (mf (F.hs i.toNat))) v f (aI (i+1)),.any⟩) none:=by kernel_rfl
theorem aps:gD bW [] (fwK ts tb dd sk mf vs vb) aM (au aCd 0) (fwS F x v f i) (gM Qj [some 0])=fwC ts tb mf F x i none (some ⟨.exit 0,fwS F x v f i,.any⟩):=by kernel_rfl
def fwL:List ByteArray:=[dd F.W,UU,dd F.H,⟨#[32,97,116]⟩,vs (F.at_ 0) (F.at_ 1) (F.at_ 2),⟨#[32,115,105,100,101,32]⟩,ts F.sd,⟨#[32,104,105,103,104]⟩]
def fwW:ByteArray:=⟨#[102,105,101,108,100,32]⟩
def fw0:St:=fwS F (Z7 fwW (fwL ts dd vs F)) (vb (F.at_ 0) (F.at_ 1) (F.at_ 2)) (tb F.sd) 0
theorem auH:ev bW [] (fwK ts tb dd sk mf vs vb) (gu 5 (fE Qj [some 0] (fw0 ts tb dd vs vb F) (.exit 0) (fwS F x1 (vb (F.at_ 0) (F.at_ 1) (F.at_ 2)) (tb F.sd) (F.n:Nat)))) aCd [.agg F.c] ret =
 gate (Pw vs vb F.at_ 0) (gate (FTo ts tb F.sd) (gate (UW dd F.W) (gate (UW dd F.H) (cond (XQ fwW (fwL ts dd vs F)) (gate (Sub (fw0 ts tb dd vs vb F) (fw0 ts tb dd vs vb F)) (gate (FSk sk F.sk) (cond (mq x1 (sk F.sk)||false) (some (Out.of (.aN [zA (x1++sk F.sk),bA (cond (vb (F.at_ 0) (F.at_ 1) (F.at_ 2)) (tb F.sd) false)]))) none))) none)))):=by kernel_rfl
end
open Hs.Sc (fT)
open Hs.So (pJ)
def gTw(tw:Int->Int->Int->ByteArray):List AV->AV
 | [.agg [.x (.int _ a),.x (.int _ b),.x (.int _ c)]]=>zA (tw a b c)
 |_=>.any
section
variable(ts:Nat->ByteArray)(tb:Nat->Bool)(dd sk:Int->ByteArray)(mf:Int->Nat)(tw:Int->Int->Int->ByteArray)(vs:Nat->Nat->Nat->ByteArray)(vb:Nat->Nat->Nat->Bool)(s:fT)(cn:Nat)(x:ByteArray)(i:Int)(pT:ByteArray)(pN:Int)(pB:Bool)
def pS:St:=mkS 265 [(1,.own 0 0),(13,zA x),(cn,iA i)] [.c s.c]
def pE:St:=mkS 265 [(2,zA ⟨#[]⟩),(3,iA 11)] []
def FTw(a b c:Int):Prop:=aj bW 35 [.agg [iA a,iA b,iA c]] (zA (tw a b c))
def p1K:List aV:=[kS bW 36 (gTo ts tb),kS bW 23 (gDd dd),kS bW 37 (gMf mf),kS bW 35 (gTw tw)]
def p1L(K:Nat->Int):List ByteArray:=[⟨#[115,107,105,110,32,115]⟩,dd i,⟨#[32,115,112,114,101,97,100]⟩,tw (K 0) (K 1) (K 2),⟨#[32,109,105,114,114,111,114]⟩,tw (K 3) (K 4) (K 5),⟨#[32,103,108,97,115,115]⟩,tw (K 6) (K 7) (K 8),⟨#[32,98,101,110,100,32]⟩,ts (mf (K 9)),⟨#[32,59,10]⟩]
def p1C(K:Nat->Int)(o e:Option Out):Option Out:=cond (decide (i<(s.nK:Nat))) (cond (mI i s.nK||false) (gate (FMf mf (K 9)) (gate (FTo ts tb (mf (K 9))) (gate (UW dd i) (gate (FTw tw (K 0) (K 1) (K 2)) (gate (FTw tw (K 3) (K 4) (K 5)) (gate (FTw tw (K 6) (K 7) (K 8)) (cond (XQ x (p1L ts dd mf tw i K)) o none))))))) none) e
theorem aki:gD bW [] (p1K ts tb dd mf tw) aM (au ay6 0) (pS s 14 x i) (fu [1,13,14] [some 0])=p1C ts tb dd mf tw s x i (s.K i.toNat) (some ⟨.normal,pS s 14 (Z7 x (p1L ts dd mf tw i (s.K i.toNat))) (aI (i+1)),.any⟩) none:=by kernel_rfl
theorem aqM:gD bW [] (p1K ts tb dd mf tw) aM (au ay6 0) (pS s 14 x i) (gM [1,13,14] [some 0])=p1C ts tb dd mf tw s x i (s.K i.toNat) none (some ⟨.exit 0,pS s 14 x i,.any⟩):=by kernel_rfl
def GL(o:ByteArray->Option Out):ByteArray->List ByteArray->Option Out
 |s,[]=>o s
 |s,t::r=>cond (mq s t||false) (GL o (s++t) r) none
def p2K:List aV:=[kS bW 33 (gTv vs vb),kS bW 35 (gTw tw)]
def p2C(a:Nat->Nat)(l:Nat->Int)(o:ByteArray->Option Out)(r e:Option Out):Option Out:=cond (decide (i<(s.nL:Nat))) (cond (mI i s.nL||false) (gate (Pw vs vb a 0) (cond (!(vb (a 0) (a 1) (a 2))) r
 (GL (λ y=>cond (mI i s.nL||false) (gate (FTw tw (l 0) (l 1) (l 2)) (GL o y [tw (l 0) (l 1) (l 2),⟨#[32,59,10]⟩])) none) x [⟨#[108,97,109,112]⟩,vs (a 0) (a 1) (a 2),⟨#[32,108,105,103,104,116]⟩]))) none) e
theorem ajn:gD bW [] (p2K tw vs vb) aM (au ay6 1) (pS s 18 x i) (fu [1,13,18] [some 0])=p2C tw vs vb s x i (s.LA i.toNat) (s.LL i.toNat) (λ y=>some ⟨.normal,pS s 18 y (aI (i+1)),.any⟩) none none:=by kernel_rfl
theorem aoi:gD bW [] (p2K tw vs vb) aM (au ay6 1) (pS s 18 x i) (vD [2,3] [])=p2C tw vs vb s x i (s.LA i.toNat) (s.LL i.toNat) (λ _=>none) (some ⟨.ret,pE,.any⟩) none:=by kernel_rfl
theorem aoj:gD bW [] (p2K tw vs vb) aM (au ay6 1) (pS s 18 x i) (gM [1,13,18] [some 0])=p2C tw vs vb s x i (s.LA i.toNat) (s.LL i.toNat) (λ _=>none) none (some ⟨.exit 2,pS s 18 x i,.any⟩):=by kernel_rfl
def F2(f:Nat)(c:List AV):Prop:=aj bW f [.agg c] (.aN [zA pT,bA pB])
def p3K:List aV:=[kS bW 38 (λ _=>.aN [zA pT,bA pB]),kS bW 39 (gSk sk)]
def p3C(p:Hs.Sc.IL)(o:ByteArray->Option Out)(r e:Option Out):Option Out:=cond (decide (i<(s.nS:Nat))) (cond (mI i s.nS||false) (gate (F2 pT pB 38 p.c) (cond (!pB) r
 (GL (λ y=>cond (mI i s.nS||false) (gate (FSk sk p.sk) (GL o y [sk p.sk])) none) x [pT]))) none) e
theorem ajo:gD bW [] (p3K sk pT pB) aM (au ay6 2) (pS s 21 x i) (fu [1,13,21] [some 0])=p3C sk s x i pT pB (s.S i.toNat) (λ y=>some ⟨.normal,pS s 21 y (aI (i+1)),.any⟩) none none:=by kernel_rfl
theorem aok:gD bW [] (p3K sk pT pB) aM (au ay6 2) (pS s 21 x i) (vD [2,3] [])=p3C sk s x i pT pB (s.S i.toNat) (λ _=>none) (some ⟨.ret,pE,.any⟩) none:=by kernel_rfl
theorem aol:gD bW [] (p3K sk pT pB) aM (au ay6 2) (pS s 21 x i) (gM [1,13,21] [some 0])=p3C sk s x i pT pB (s.S i.toNat) (λ _=>none) none (some ⟨.exit 4,pS s 21 x i,.any⟩):=by kernel_rfl
def p4K:List aV:=[kS bW 40 (λ _=>.aN [zA pT,iA pN,bA pB]),kS bW 39 (gSk sk)]
def p4C(p:Hs.Sc.QY)(o:ByteArray->Option Out)(r e:Option Out):Option Out:=cond (decide (i<(s.nO:Nat))) (cond (mI i s.nO||false) (gate (aj bW 40 [pJ p.n p.P,iA (aI ((p.n:Int) - 1)),iA 0,iA 0] (.aN [zA pT,iA pN,bA pB])) (cond (cond (!pB) true (!(pN==aI ((p.n:Int) - 1)))) r
 (GL (λ y=>gate (FSk sk p.sk) (GL o y [sk p.sk])) x [⟨#[115,111,108,105,100,32]⟩,pT]))) none) e
theorem ajp:gD bW [] (p4K sk pT pN pB) aM (au ay6 3) (pS s 24 x i) (fu [1,13,24] [some 0])=p4C sk s x i pT pN pB (s.O i.toNat) (λ y=>some ⟨.normal,pS s 24 y (aI (i+1)),.any⟩) none none:=by kernel_rfl
theorem aom:gD bW [] (p4K sk pT pN pB) aM (au ay6 3) (pS s 24 x i) (vD [2,3] [])=p4C sk s x i pT pN pB (s.O i.toNat) (λ _=>none) (some ⟨.ret,pE,.any⟩) none:=by kernel_rfl
theorem aon:gD bW [] (p4K sk pT pN pB) aM (au ay6 3) (pS s 24 x i) (gM [1,13,24] [some 0])=p4C sk s x i pT pN pB (s.O i.toNat) (λ _=>none) none (some ⟨.exit 6,pS s 24 x i,.any⟩):=by kernel_rfl
def p5K:List aV:=[kS bW 41 (λ _=>.aN [zA pT,bA pB])]
def p5C(p:Hs.Fm.Fd)(o:ByteArray->Option Out)(r e:Option Out):Option Out:=cond (decide (i<(s.nF:Nat))) (cond (mI i s.nF||false) (gate (F2 pT pB 41 p.c) (cond (!pB) r (GL o x [pT]))) none) e
theorem ajr:gD bW [] (p5K pT pB) aM (au ay6 4) (pS s 29 x i) (fu [1,13,29] [some 0])=p5C s x i pT pB (s.F i.toNat) (λ y=>some ⟨.normal,pS s 29 y (aI (i+1)),.any⟩) none none:=by kernel_rfl
theorem aoo:gD bW [] (p5K pT pB) aM (au ay6 4) (pS s 29 x i) (vD [2,3] [])=p5C s x i pT pB (s.F i.toNat) (λ _=>none) (some ⟨.ret,pE,.any⟩) none:=by kernel_rfl
theorem aop:gD bW [] (p5K pT pB) aM (au ay6 4) (pS s 29 x i) (gM [1,13,29] [some 0])=p5C s x i pT pB (s.F i.toNat) (λ _=>none) none (some ⟨.exit 8,pS s 29 x i,.any⟩):=by kernel_rfl
end
end Go.Proofs.YtefphimaggjihaaGreatDoor.Pi
namespace Go.Proofs.YtefphimaggjihaaGreatDoor.Pi
open Go.Shelf Go.RowKit Go.Gv
open Hs.Sc (fT)
def gvT(b:Bool)(keep:List Nat)(S0:St)(ex:Exit)(S1:St):dN:=Go.Gv.adq b (fE keep [some 0] S0 ex S1) (fE keep [some 0] S0 .ret pE)
section
variable(ws:Nat->ByteArray)(wb:Nat->Bool)(tw:Int->Int->Int->ByteArray)(vs:Nat->Nat->Nat->ByteArray)(vb:Nat->Nat->Nat->Bool)(s:fT)(e:Int)(y0 y1 y2 y3 y4 y5:ByteArray)(b2 b3 b4 b5:Bool)
def spL:Nat->Option dN:=ny [(12,fE [1,13,14] [some 0] (pS s 14 y0 0) (.exit 0) (pS s 14 y1 (s.nK:Nat))),(18,gvT b2 [1,13,18] (pS s 18 y1 0) (.exit 2) (pS s 18 y2 (s.nL:Nat))),(25,gvT b3 [1,13,21] (pS s 21 y2 0) (.exit 4) (pS s 21 y3 (s.nS:Nat))),(32,gvT b4 [1,13,24] (pS s 24 y3 0) (.exit 6) (pS s 24 y4 (s.nO:Nat))),(40,gvT b5 [1,13,29] (pS s 29 y4 0) (.exit 8) (pS s 29 y5 (s.nF:Nat)))]
def spE:Option Out:=some (Out.of (.aN [zA ⟨#[]⟩,iA 11]))
def gvO(b:Bool)(S:St)(o:Option Out):Option Out:=cond b (gate (Sub S S) o) (gate (Sub S S) spE)
def QT(a:Nat->Nat):List ByteArray:=[vs (a 0) (a 1) (a 2),⟨#[32,116,111]⟩,vs (a 3) (a 4) (a 5),⟨#[32,117,112]⟩,vs (a 6) (a 7) (a 8),⟨#[32,119,105,100,101]⟩,ws (a 9),⟨#[32,59,10,115,107,121]⟩]
def TV(l:Nat->Int):List ByteArray:=[tw (l 0) (l 1) (l 2),⟨#[32,59,10]⟩]
def XE:ByteArray:=⟨#[101,121,101]⟩
def spK:List aV:=[kS bW 15 (λ _=>iA e),kS bW 33 (gTv vs vb),kS bW 34 (gT1 ws wb),kS bW 35 (gTw tw)]
def spX(o:Option Out):Option Out:=gate (aj bW 15 [.agg s.c] (iA e)) (cond (!(e==0)) (some (Out.of (.aN [zA ⟨#[]⟩,iA e])))
 (gate (Pw vs vb s.eye 0) (gate (Pw vs vb s.eye 3) (gate (Pw vs vb s.eye 6) (gate (FT1 ws wb s.eye 9) (cond (cond (cond (cond (!(vK vb s.eye 0)) true (!(vK vb s.eye 3))) true (!(vK vb s.eye 6))) true (!(wb (s.eye 9)))) spE o))))))
def spY:Option Out:=gvO b2 (pS s 18 y1 0) (gvO b3 (pS s 21 y2 0) (gvO b4 (pS s 24 y3 0) (gvO b5 (pS s 29 y4 0) (some (Out.of (.aN [zA y5,iA 0]))))))
theorem af6:evM bW [] (spK ws wb tw vs vb e) [born 88] (spL s (Z7 (Z7 XE (QT ws vs s.eye)) (TV tw s.jE)) y1 y2 y3 y4 y5 b2 b3 b4 b5) ay6 [.agg s.c] ret =
 spX ws wb vs vb s e (GL (λ y=>gate (FTw tw (s.jE 0) (s.jE 1) (s.jE 2)) (GL (λ y=>gate (Sub (pS s 14 y 0) (pS s 14 y 0)) (spY s y1 y2 y3 y4 y5 b2 b3 b4 b5)) y (TV tw s.jE))) XE (QT ws vs s.eye)):=by kernel_rfl
end
end Go.Proofs.YtefphimaggjihaaGreatDoor.Pi
namespace Go.Proofs.YtefphimaggjihaaGreatDoor.Pi
open Go.Shelf Go.RowKit Go.Gv
open Go.Ev (dK aL key cB)
open Hs Hs.So Hs.Sc Hs.Fm
theorem KO{n:Int}(h:n.natAbs<=1000000):cB (gJ n):=by
 refine eG ?_;have hx:=YR h;have n1:aL 13920209183539462144=false:=by decide +kernel
 have n2:aL 4696837146684686336=false:=by decide +kernel
 have e1:key 13920209183539462144=-4696837146684686336:=by decide +kernel
 have e2:key 4696837146684686336=4696837146684686336:=by decide +kernel
 have hr:=YS h;unfold eP;rw[Go.Ev.Oo hx n1,Go.Ev.Oq hx n2,e1,e2,decide_eq_true (by omega),decide_eq_true (by omega)];rfl
theorem agj{n:Int}(h:n.natAbs<=1000000):Kw (gJ n)=lB (cK n):=by
 obtain⟨h1,h2⟩:=Ol (KO h) (n:=n) ⟨h,rfl⟩;unfold Kw;rw[h1,h2];rfl
def uS(k:Int):ByteArray:=lB (uD k)
theorem WY{k:Int}(h0:0<=k)(h1:k<16):FSk uS k:=ajF h0 (by omega)
theorem agk(n:Int):FMf gJ n:=Ml n
theorem XP{n:Int}(h0:0<=n)(h1:n<100000000):UW qY n:=sD h0 h1
theorem apq(x:Nat):Kw x=lB (cond (bG x) (cK (dF x)) []):=by unfold Kw;cases bG x<;>rfl
def fxL(F:Hs.Fm.Fd):List (List UInt8):=[ala F.W,[32],ala F.H,[32,97,116],cond (vX F.at_ 0) (pY [F.at_ 0,F.at_ 1,F.at_ 2]) [],[32,115,105,100,101,32],cond (bG F.sd) (cK (dF F.sd)) [],[32,104,105,103,104]]
def fxH(F:Hs.Fm.Fd):List UInt8:=[102,105,101,108,100,32]++(fxL F).flatten
def Nj(F:Hs.Fm.Fd)(j:Nat):List UInt8:=fxH F++tks true (vE cK F j)
structure FdK(F:Hs.Fm.Fd):Prop where
 at_:cB (F.at_ 0)/\cB (F.at_ 1)/\cB (F.at_ 2)
 sd:cB F.sd
 n:F.n<=64
 W:2<=F.W/\F.W<=8
 H:2<=F.H/\F.H<=8
 sk:0<=F.sk/\F.sk<16
 hs:∀q,q<F.n->(F.hs q).natAbs<=1000000
theorem apr{F:Hs.Fm.Fd}(h:Lr F.c=0):FdK F:=by
 obtain⟨h1,h2,h3,h4,h5,h6,_⟩:dL (F.at_ 0) (F.at_ 1) (F.at_ 2)=true/\eP F.sd=true/\F.n<=64/\(2<=F.W/\F.W<=8/\2<=F.H/\F.H<=8)/\(0<=F.sk/\F.sk<16)/\(∀q,q<F.n->oO (F.hs q)=false)/\F.jM=0/\(kM (bx F)==0)=true:=(uJ F).2 h;obtain⟨f1,f2,f3⟩:=og h1;refine⟨⟨eG f1,eG f2,eG f3⟩,eG h2,h3,by omega,by omega,h5,λ q hq=>?_⟩;obtain⟨b1,b2⟩:=tY (h6 q hq);have b1:=of_decide_eq_false b1;have b2:=of_decide_eq_false b2;omega
theorem Cg{n:Int}(h:n.natAbs<=1000000):(cK n).length<=20:=(y8 _ (Nat.le_trans h (by decide))).2
theorem Ke(x y z:Nat):(pY [x,y,z]).length<=63:=jX true (aW (lN x) (aW (lN y) (aW (lN z) iU)))
theorem Uj{α:Type}{b:Bool}{l:List α}{k:Nat}(h:l.length<=k):(cond b l []).length<=k:=by cases b<;>simp;exact h
theorem Px{F:Hs.Fm.Fd}(h:FdK F):(fxH F).length<=200:=by
 have w:=(lu (n:=F.W) (by have:=h.W;omega) (by have:=h.W;omega)).2;have hh:=(lu (n:=F.H) (by have:=h.H;omega) (by have:=h.H;omega)).2;have a:=Uj (b:=vX F.at_ 0) (Ke (F.at_ 0) (F.at_ 1) (F.at_ 2));have b:=Uj (b:=bG F.sd) (lN F.sd);unfold fxH fxL;simp only[arS,ayw,uI,anE,arB];have b':(cond (bG F.sd) (cK (dF F.sd)) []).length<=20:=b;omega
theorem Xa{F:Hs.Fm.Fd}(h:FdK F){j:Nat}(hj:j<=F.n):(tks true (vE cK F j)).length<=21*64:=by
 have f:G5 64 (vE cK F j):=⟨by unfold vE;simp;have:=h.n;omega,λ t ht=>by
  unfold vE at ht;obtain⟨q,hq,rfl⟩:=List.mem_map.1 ht;have:=List.mem_range.1 hq;exact Cg (h.hs q (by omega))⟩
 exact jX true f
theorem El{k:Int}(h0:0<=k)(h1:k<16):(uD k).length<=43:=by rw[<-Ip];exact Dq h0 h1 true
section
variable{F:Hs.Fm.Fd}
theorem agl(h:FdK F)(v f:Bool):bF bW (.loop (au aCd 0)) (fwS F (lB (Nj F 0)) v f 0) (.exit 0) (fwS F (lB (Nj F F.n)) v f (F.n:Nat)):=by
 have hK:∀e,e∈fwK Kw bG qY uS gJ su uQ->tO bW e:=ak aD (ak aD (ak aD (ak aD (ak aD av))));refine aU (λ j=>fwS F (lB (Nj F j)) v f (j:Nat)) F.n (.exit 0) _ (by simp) (λ j hj=>?_) ?_
 .have hh:=h.hs j hj
  have hd:=Cg hh;have l0:=Px h;have l1:=Xa h (j:=j) (by omega);have hn:=h.n;have hl:(Nj F j).length<=2000:=by unfold Nj;rw[uI];omega
  refine aF (aT _ _) aB hK aA ((aj6 Kw bG qY uS gJ su uQ F (lB (Nj F j)) v f (j:Nat)).trans ?_);unfold fwC;rw[dec_lt hj,gy hj,Zk,ah (agk _),ah (ZV (KO hh)),agj hh,show UU=lB [32] from rfl,kW (by rw[aY,aY];simp;omega),gZ,kW (by rw[aY,aY];simp;omega),gZ,bD (by omega)]
  have e:(Nj F j++[32])++cK (F.hs j)=Nj F (j+1):=by
   unfold Nj;rw[J4];simp
  rw[e];rfl
 .refine aF (bU _ _) aB hK aA ((aps Kw bG qY uS gJ su uQ F (lB (Nj F F.n)) v f (F.n:Nat)).trans ?_)
  unfold fwC;rw[bQ];rfl
def awU(F:Hs.Fm.Fd):AV:=.aN [zA (lB (Nj F F.n++uD F.sk)),bA (!(JI bG F))]
theorem Cy(h:FdK F):aj bW 41 [.agg F.c] (awU F):=by
 have hK:∀e,e∈fwK Kw bG qY uS gJ su uQ->tO bW e:=ak aD (ak aD (ak aD (ak aD (ak aD av))))
 have hL0:fwL Kw qY su F=(fxL F).map lB:=by
  unfold fwL fxL;rw[apq];rfl
 have l0:=Px h;have l0X:([102,105,101,108,100,32]:List UInt8).length+(fxL F).flatten.length<=200:=by rw[<-uI];exact l0
 have l1:=Xa h (j:=F.n) (Nat.le_refl _);have l2:=El h.sk.1 h.sk.2
 have e0:Z7 fwW (fwL Kw qY su F)=lB (Nj F 0):=by
  rw[hL0,show fwW=lB [102,105,101,108,100,32] from rfl,FX];unfold Nj fxH vE;simp
 have hc:XQ fwW (fwL Kw qY su F)=true:=by
  rw[hL0,show fwW=lB [102,105,101,108,100,32] from rfl];exact IC _ _ (by omega)
 have key:bF bW (.loop (au aCd 0)) (fw0 Kw bG qY su uQ F) (.exit 0) (fwS F (lB (Nj F F.n)) (uQ (F.at_ 0) (F.at_ 1) (F.at_ 2)) (bG F.sd) (F.n:Nat)):=by
  unfold fw0;rw[e0];exact agl h _ _
 have hL:=Pt (c:=dG aCd) (i:=5) 0 (by kernel_rfl) (by kernel_rfl) (aR (keep:=Qj) (τ:=[some 0]) key);refine aP aB hK Tryz.func41 (by kernel_rfl) (by kernel_rfl) hL rfl ((auH Kw bG qY uS gJ su uQ F (lB (Nj F F.n))).trans ?_);rw[ah (show Pw su uQ F.at_ 0 from Te h.at_.1 h.at_.2.1 h.at_.2.2),ah (ZV h.sd),ah (XP (by have:=h.W;omega) (by have:=h.W;omega)),ah (XP (by have:=h.H;omega) (by have:=h.H;omega)),hc,ah (Sub.refl _),ah (WY h.sk.1 h.sk.2)];have hl:(Nj F F.n).length<=2000:=by unfold Nj;rw[uI];omega
 have e1:uS F.sk=lB (uD F.sk):=rfl;rw[e1,kW (by rw[aY,aY];omega),gZ]
 have e2:cond (uQ (F.at_ 0) (F.at_ 1) (F.at_ 2)) (bG F.sd) false=!(JI bG F):=by
  unfold JI;rw[nT];show cond (vX F.at_ 0) (bG F.sd) false=_;cases vX F.at_ 0<;>cases bG F.sd<;>rfl
 rw[e2];rfl
theorem ajq(hb:JI bG F=false):Nj F F.n++uD F.sk=tks false (Y9 cK dF F)++iD true [oK F.sk]:=by
 unfold JI at hb;rw[nT]at hb;have h1:vX F.at_ 0=true:=by cases h:vX F.at_ 0;rw[h]at hb;cases hb;rfl
 have h2:bG F.sd=true:=by cases h:bG F.sd;rw[h1,h]at hb;cases hb;rfl
 rw[Ip];unfold Nj fxH fxL Y9 Il;rw[h1,h2];simp[vT,Jd,pY]
end
theorem agN{B:Nat->Bool}:∀{n:Nat},(∀i,i<n->B i=false)->mh B n=false
 | 0,_=>rfl
 |n+1,h=>by show(mh B n||B n)=false;rw[agN λ i hi=>h i (by omega),h n (by omega)];rfl
theorem alH{B:Nat->Bool}:∀{n K:Nat},K<n->B K=true->mh B n=true
 | 0,_,h,_=>by omega
 |n+1,K,h,hb=>by
  show(mh B n||B n)=true;by_cases e:K=n
  .subst e;rw[hb];simp
  .rw[alH (show K<n by omega) hb];rfl
theorem Ej{c:Code}{keep:List Nat}{S:ByteArray->Int->St}{ex:Exit}{B:Nat->Bool}{T:Nat->ByteArray}{n:Nat}(hex:ex≠.normal)(h1:∀k:Nat,k<n->B k=false->bF bW c (S (T k) (k:Nat)) .normal (S (T (k+1)) ((k+1:Nat):Int)))
  (h2:∀k:Nat,k<n->B k=true->bF bW c (S (T k) (k:Nat)) .ret pE) (h3:bF bW c (S (T n) (n:Nat)) ex (S (T n) (n:Nat))):gI bW c (gvT (!(mh B n)) keep (S (T 0) 0) ex (S (T n) (n:Nat))):=by
 rcases qI (λ i=>!(B i)) n with hl | ⟨K,hK,hp,hq⟩
 .have hl':∀i,i<n->B i=false:=λ i hi=>by simpa using hl i hi
  refine zh (λ _=>?_) λ hb=>?_
  .exact aR (aU (λ k=>S (T k) (k:Nat)) n ex _ hex (λ k hk=>h1 k hk (hl' k hk)) h3)
  .rw[agN hl']at hb;cases hb
 .have hp':B K=true:=by simpa using hp
  have hq':∀i,i<K->B i=false:=λ i hi=>by simpa using hq i hi
  refine zh (λ hb=>?_) λ _=>?_
  .rw[alH hK hp']at hb;cases hb
  .exact aR (aU (λ k=>S (T k) (k:Nat)) K .ret _ (by simp) (λ k hk=>h1 k (by omega) (hq' k hk)) (h2 K hK hp'))
theorem uR(o:ByteArray->Option Out):∀(l:List UInt8) (r:List (List UInt8)),l.length+r.flatten.length<=1000000000->GL o (lB l) (r.map lB)=o (lB (l++r.flatten))
 |l,[],_=>by simp[GL]
 |l,t::r,h=>by
  rw[arS,uI]at h;show cond (mq (lB l) (lB t)||false) (GL o (lB l++lB t) (r.map lB)) none=_;rw[kW (by rw[aY,aY];omega),gZ,uR o (l++t) r (by rw[uI];omega),arS,aiR];rfl
def Ni(a b c:Int):ByteArray:=lB (tks true [ala a,ala b,ala c])
theorem Tf{l:Nat->Int}(h:∀q,q<3->0<=l q/\l q<=65536):FTw Ni (l 0) (l 1) (l 2):=aj2 h
theorem Kg{l:Nat->Int}(h:∀q,q<3->0<=l q/\l q<=65536):(tks true (Bl l)).length<=63:=jX true (Jf h)
structure ScK(s:fT):Prop where
 few:s.nS<=64/\s.nO<=8/\s.nF<=2/\s.nK<=16/\s.nL<=4
 eye:∀i,i<10->cB (s.eye i)
 jE:∀q,q<3->0<=s.jE q/\s.jE q<=65536
 K:∀j,j<s.nK->(∀q,q<9->0<=s.K j q/\s.K j q<=1000)/\100<=s.K j 9/\s.K j 9<=10000
 L:∀j,j<s.nL->(∀i,i<3->cB (s.LA j i))/\∀q,q<3->0<=s.LL j q/\s.LL j q<=65536
 S:∀j,j<s.nS->(1<=(s.S j).k/\(s.S j).k<=6)/\(∀i,i<11->cB ((s.S j).a i))/\0<=(s.S j).sk/\(s.S j).sk<16
 O:∀j,j<s.nO->(1<=(s.O j).n/\(s.O j).n<=16)/\PM (s.O j).n (s.O j).P/\HS (s.O j).n (s.O j).P/\0<=(s.O j).sk/\(s.O j).sk<16
 F:∀j,j<s.nF->FdK (s.F j)
theorem auQ{a:Nat->Nat}(h:dL (a 0) (a 1) (a 2)=true):∀i,i<3->cB (a i):=λ i hi=>by
 obtain⟨f1,f2,f3⟩:=og h
 match i,hi with
 | 0,_=>exact eG f1
 | 1,_=>exact eG f2
 | 2,_=>exact eG f3
theorem agO{a:Nat->Nat}(h:HV a=false):∀i,i<11->cB (a i):=λ i hi=>by
 obtain⟨r0,r3,r6,r9,r10⟩:=agP h;obtain⟨a0,a1,a2⟩:=og r0;obtain⟨a3,a4,a5⟩:=og r3;obtain⟨a6,a7,a8⟩:=og r6
 match i,hi with
 | 0,_=>exact eG a0
 | 1,_=>exact eG a1
 | 2,_=>exact eG a2
 | 3,_=>exact eG a3
 | 4,_=>exact eG a4
 | 5,_=>exact eG a5
 | 6,_=>exact eG a6
 | 7,_=>exact eG a7
 | 8,_=>exact eG a8
 | 9,_=>exact eG r9
 | 10,_=>exact eG r10
theorem apO{s:fT}(h:yK s=0):ScK s:=by
 have few:=(Vx h).2;unfold yK at h;obtain⟨_,h⟩:=c4 (by decide) h;obtain⟨hK,h⟩:=c0 h;obtain⟨hT,h⟩:=c0 h;obtain⟨hL,h⟩:=c0 h;obtain⟨hY,h⟩:=c4 (by decide) h;unfold thE at hT;obtain⟨hS,hT⟩:=c0 hT;obtain⟨hO,hF⟩:=c0 hT;obtain⟨y0,y3,y6,y9⟩:=alI h;refine⟨few,λ i hi=>?_,ze (jC hY),λ j hj=>OG (k:=s.K j) (dh _ hK j hj),λ j hj=>?_,λ j hj=>?_,λ j hj=>?_,λ j hj=>apr (Rt (dh _ hF j hj))⟩
 .obtain⟨a0,a1,a2⟩:=og y0
  obtain⟨a3,a4,a5⟩:=og y3;obtain⟨a6,a7,a8⟩:=og y6
  match i,hi with
  | 0,_=>exact eG a0
  | 1,_=>exact eG a1
  | 2,_=>exact eG a2
  | 3,_=>exact eG a3
  | 4,_=>exact eG a4
  | 5,_=>exact eG a5
  | 6,_=>exact eG a6
  | 7,_=>exact eG a7
  | 8,_=>exact eG a8
  | 9,_=>exact eG y9
 .have hl:lmE (s.LA j) (s.LL j)=0:=dh _ hL j hj
  unfold lmE at hl;obtain⟨a1,hl⟩:=c4 (by decide) hl;obtain⟨a2,_⟩:=c4 (by decide) hl;exact⟨auQ (jC a1),ze (jC a2)⟩
 .have hm:jG (fC (s.S j).k (s.S j).a (s.S j).sk)=0:=Rt (dh _ hS j hj)
  obtain⟨m1,m2,m3⟩:=kI hm;exact⟨m2,agO m1,m3⟩
 .have hm:Ms (s.O j).n (s.O j).P (s.O j).sk=0:=Rt (dh _ hO j hj)
  unfold Ms at hm;obtain⟨n1,hm⟩:=c4 (by decide) hm;obtain⟨b2,hm⟩:=c4 (by decide) hm;obtain⟨n1,n2⟩:=tY n1;have n1:=of_decide_eq_false n1;have n2:=of_decide_eq_false n2;obtain⟨p1,p2⟩:=TJ (dh _ hm);exact⟨by omega,p1,λ i hi h0=>⟨(kI (p2 i hi h0)).2.1,agO (kI (p2 i hi h0)).1⟩,Dt b2⟩
section
variable{s:fT}
abbrev E1(s:fT)(j:Nat):List UInt8:=comp (skI cK s j) false
abbrev E2(s:fT)(j:Nat):List UInt8:=comp (lmI cK dF bG s j) false
abbrev E3(s:fT)(j:Nat):List UInt8:=comp (shI cK dF bG s j) false
abbrev E4(s:fT)(j:Nat):List UInt8:=comp (Za cK dF bG s j) false
abbrev E5(s:fT)(j:Nat):List UInt8:=comp (feI cK dF bG s j) false
theorem akh(h:ScK s){j:Nat}(hj:j<s.nK){y:List UInt8}(hy:y.length<=900000):bF bW (au ay6 0) (pS s 14 (lB y) (j:Nat)) .normal (pS s 14 (lB (y++E1 s j)) ((j+1:Nat):Int)):=by
 obtain⟨k1,k2,k3⟩:=h.K j hj;have hn:=h.few;have r0:∀q,q<3->0<=s.K j q/\s.K j q<=65536:=λ q hq=>by have:=k1 q (by omega);omega
 have r3:∀q,q<3->0<=(λ q=>s.K j (3+q)) q/\(λ q=>s.K j (3+q)) q<=65536:=λ q hq=>by have:=k1 (3+q) (by omega);show 0<=s.K j (3+q)/\s.K j (3+q)<=65536;omega
 have r6:∀q,q<3->0<=(λ q=>s.K j (6+q)) q/\(λ q=>s.K j (6+q)) q<=65536:=λ q hq=>by have:=k1 (6+q) (by omega);show 0<=s.K j (6+q)/\s.K j (6+q)<=65536;omega
 have hb:(s.K j 9).natAbs<=1000000:=by omega
 have el:p1L Kw qY gJ Ni (j:Nat) (s.K j)=aAI lB [[115,107,105,110,32,115],ala (j:Nat),[32,115,112,114,101,97,100],tks true (Bl (s.K j)),[32,109,105,114,114,111,114],tks true (Bl λ q=>s.K j (3+q)),[32,103,108,97,115,115],tks true (Bl λ q=>s.K j (6+q)),[32,98,101,110,100,32],cK (s.K j 9),[32,59,10]]:=by
  unfold p1L;rw[agj hb];rfl
 have ef:[[115,107,105,110,32,115],ala (j:Nat),[32,115,112,114,101,97,100],tks true (Bl (s.K j)),[32,109,105,114,114,111,114],tks true (Bl λ q=>s.K j (3+q)),[32,103,108,97,115,115],tks true (Bl λ q=>s.K j (6+q)),[32,98,101,110,100,32],cK (s.K j 9),[32,59,10]].flatten=E1 s j:=by
  show _=iD false (skT cK (s.K j) (λ q=>s.K j (3+q)) (λ q=>s.K j (6+q)) (s.K j 9) (j:Nat))++[];simp[iD,skT,Bl,oK,W1,W2,W3,W4,W5]
 have hE:(E1 s j).length<=1000:=by
  rw[<-ef];have a0:=Kg r0;have a3:=Kg r3;have a6:=Kg r6;have a9:=Cg hb;have ai:=(lu (n:=(j:Nat)) (by omega) (by omega)).2;simp only[arS,ayw,uI,anE,arB];omega
 refine aF (aT _ _) aB (ak aD (ak aD (ak aD (ak aD av)))) aA ((aki Kw bG qY gJ Ni s (lB y) (j:Nat)).trans ?_);unfold p1C;rw[dec_lt hj,gy hj,Zk,ah (agk _),ah (ZV (KO hb)),ah (XP (by omega) (by omega)),ah (Tf r0),ah (show FTw Ni (s.K j 3) (s.K j 4) (s.K j 5) from Tf r3),ah (show FTw Ni (s.K j 6) (s.K j 7) (s.K j 8) from Tf r6),el,IC y _ (by rw[ef];omega),FX,ef,bD (by omega)];rfl
end
section
variable{s:fT}
theorem alc(h:ScK s){j:Nat}(hj:j<s.nL){y:List UInt8}(hy:y.length<=900000)(o:ByteArray->Option Out)(r e:Option Out):p2C Ni su uQ s (lB y) (j:Nat) (s.LA j) (s.LL j) o r e=cond (vX (s.LA j) 0) (o (lB (y++E2 s j))) r:=by
 obtain⟨n1,n2⟩:=h.L j hj;unfold p2C;rw[dec_lt hj,gy hj,ah (show Pw su uQ (s.LA j) 0 from Te (n1 0 (by omega)) (n1 1 (by omega)) (n1 2 (by omega)))];show cond (!(vX (s.LA j) 0)) r _=_;cases hv:vX (s.LA j) 0
 .rfl
 .have ev:su (s.LA j 0) (s.LA j 1) (s.LA j 2)=lB (pY [s.LA j 0,s.LA j 1,s.LA j 2]):=Bw hv
  have l1:=Ke (s.LA j 0) (s.LA j 1) (s.LA j 2);have l2:=Kg n2
  have c1:=uR (λ y=>cond (mI ((j:Nat):Int) s.nL||false) (gate (FTw Ni (s.LL j 0) (s.LL j 1) (s.LL j 2)) (GL o y [Ni (s.LL j 0) (s.LL j 1) (s.LL j 2),⟨#[32,59,10]⟩])) none) y [[108,97,109,112],pY [s.LA j 0,s.LA j 1,s.LA j 2],[32,108,105,103,104,116]] (by
   simp only[arS,ayw,uI,anE,arB];omega)
  have c2:=uR o (y++[[108,97,109,112],pY [s.LA j 0,s.LA j 1,s.LA j 2],[32,108,105,103,104,116]].flatten) [tks true (Bl (s.LL j)),[32,59,10]] (by
   simp only[arS,ayw,uI,anE,arB];omega)
  rw[ev];show GL _ (lB y) (aAI lB [[108,97,109,112],pY [s.LA j 0,s.LA j 1,s.LA j 2],[32,108,105,103,104,116]])=_;rw[gy hj]at c1;rw[c1,ah (Tf n2)];refine aBW (show _=GL o (lB (y++[[108,97,109,112],pY [s.LA j 0,s.LA j 1,s.LA j 2],[32,108,105,103,104,116]].flatten)) (aAI lB [tks true (Bl (s.LL j)),[32,59,10]]) from rfl) ?_;rw[c2,cond_true];congr 2;show _=y++(iD false (Vw cK dF (s.LA j) (s.LL j))++[]);simp[iD,Vw,Bl,vT,pY,Jd]
theorem ald(j:Nat):fU (lmI cK dF bG s j)=!(vX (s.LA j) 0):=by
 show(vB bG (s.LA j) 0||false)=_;rw[nT,Bool.or_false]
theorem ae8(h:ScK s){y:List UInt8}(hy:y.length+(bY (E2 s) s.nL).length<=900000):gI bW (au ay6 1) (gvT (!(mh (λ j=>fU (lmI cK dF bG s j)) s.nL)) [1,13,18] (pS s 18 (lB (y++bY (E2 s) 0)) 0) (.exit 2) (pS s 18 (lB (y++bY (E2 s) s.nL)) (s.nL:Nat))):=by
 have hK:∀e,e∈p2K Ni su uQ->tO bW e:=ak aD (ak aD av);have hn:=h.few;have hle:∀j,j<=s.nL->(y++bY (E2 s) j).length<=900000:=λ j hj=>by rw[uI];have:=wu (E:=E2 s) hj;omega
 refine Ej (S:=pS s 18) (T:=λ k=>lB (y++bY (E2 s) k)) (by simp) (λ j hj hb=>?_) (λ j hj hb=>?_) ?_
 .refine aF (aT _ _) aB hK aA ((ajn Ni su uQ s (lB (y++bY (E2 s) j)) (j:Nat)).trans ?_)
  rw[ald]at hb;have hv:vX (s.LA j) 0=true:=jC hb;rw[Zk,alc h hj (hle j (by omega)),hv,bD (by omega)];show some _=some _;rw[aiR];rfl
 .refine aF (gQ _ _) aB hK aA ((aoi Ni su uQ s (lB (y++bY (E2 s) j)) (j:Nat)).trans ?_)
  rw[ald]at hb;have hv:vX (s.LA j) 0=false:=by cases hc:vX (s.LA j) 0;rfl;rw[hc]at hb;cases hb
  rw[Zk,alc h hj (hle j (by omega)),hv];rfl
 .refine aF (bU _ _) aB hK aA ((aoj Ni su uQ s (lB (y++bY (E2 s) s.nL)) (s.nL:Nat)).trans ?_)
  unfold p2C;rw[bQ];rfl
abbrev pT3(s:fT)(j:Nat):List UInt8:=cond (allT (s.S j).a) (tks false (yw cK dF (s.S j).k (s.S j).a)) []
theorem ale(h:ScK s){j:Nat}(hj:j<s.nS){y:List UInt8}(hy:y.length<=900000)(o:ByteArray->Option Out)(r e:Option Out):p3C uS s (lB y) (j:Nat) (lB (pT3 s j)) (!(CX bG (s.S j).k (s.S j).a (s.S j).sk)) (s.S j) o r e=cond (CX bG (s.S j).k (s.S j).a (s.S j).sk) r (o (lB (y++E3 s j))):=by
 obtain⟨n1,n2,n3,n4⟩:=h.S j hj;unfold p3C;rw[dec_lt hj,gy hj,ah (show F2 (lB (pT3 s j)) (!(CX bG (s.S j).k (s.S j).a (s.S j).sk)) 38 (s.S j).c from M5 (s.S j).sk n1 n2)];cases hb:CX bG (s.S j).k (s.S j).a (s.S j).sk
 .have hA:=ZJ n1 n2 hb
  have l1:(tks false (yw cK dF (s.S j).k (s.S j).a)).length<=273:=jX false (Dp _ _);have l2:=El n3 n4;have eT:pT3 s j=tks false (yw cK dF (s.S j).k (s.S j).a):=by show cond _ _ _=_;rw[hA];rfl
  rw[eT];have c1:=uR (λ y=>cond (mI ((j:Nat):Int) s.nS||false) (gate (FSk uS (s.S j).sk) (GL o y [uS (s.S j).sk])) none) y [tks false (yw cK dF (s.S j).k (s.S j).a)] (by simp only[arS,ayw,uI,arB];omega);have c2:=uR o (y++[tks false (yw cK dF (s.S j).k (s.S j).a)].flatten) [uD (s.S j).sk] (by simp only[arS,ayw,uI,arB];omega);refine aBW (show _=GL _ (lB y) (aAI lB [tks false (yw cK dF (s.S j).k (s.S j).a)]) from rfl) ?_;rw[gy hj]at c1;rw[c1,ah (WY n3 n4)];refine aBW (show _=GL o (lB (y++[tks false (yw cK dF (s.S j).k (s.S j).a)].flatten)) (aAI lB [uD (s.S j).sk]) from rfl) ?_;rw[c2,cond_false,<-Ip];congr 2;show _=y++(tks false (yw cK dF (s.S j).k (s.S j).a)++(iD true [oK (s.S j).sk]++[]));simp only[arS,ayw,awr,aiR]
 .rfl
theorem alf(j:Nat):fU (shI cK dF bG s j)=CX bG (s.S j).k (s.S j).a (s.S j).sk:=by
 show(CX bG (s.S j).k (s.S j).a (s.S j).sk||(false||false))=_;simp
theorem ae9(h:ScK s){y:List UInt8}(hy:y.length+(bY (E3 s) s.nS).length<=900000):gI bW (au ay6 2) (gvT (!(mh (λ j=>fU (shI cK dF bG s j)) s.nS)) [1,13,21] (pS s 21 (lB (y++bY (E3 s) 0)) 0) (.exit 4) (pS s 21 (lB (y++bY (E3 s) s.nS)) (s.nS:Nat))):=by
 have hK:∀(a:ByteArray) (b:Bool) e,e∈p3K uS a b->tO bW e:=λ _ _=>ak aD (ak aD av);have hn:=h.few;have hle:∀j,j<=s.nS->(y++bY (E3 s) j).length<=900000:=λ j hj=>by rw[uI];have:=wu (E:=E3 s) hj;omega
 refine Ej (S:=pS s 21) (T:=λ k=>lB (y++bY (E3 s) k)) (by simp) (λ j hj hb=>?_) (λ j hj hb=>?_) ?_
 .refine aF (aT _ _) aB (hK _ _) aA ((ajo uS s (lB (y++bY (E3 s) j)) (j:Nat) (lB (pT3 s j)) (!(CX bG (s.S j).k (s.S j).a (s.S j).sk))).trans ?_)
  rw[alf]at hb;rw[Zk,ale h hj (hle j (by omega)),hb,bD (by omega),cond_false,aiR];rfl
 .refine aF (gQ _ _) aB (hK _ _) aA ((aok uS s (lB (y++bY (E3 s) j)) (j:Nat) (lB (pT3 s j)) (!(CX bG (s.S j).k (s.S j).a (s.S j).sk))).trans ?_)
  rw[alf]at hb;rw[Zk,ale h hj (hle j (by omega)),hb];rfl
 .refine aF (bU _ _) aB (hK ⟨#[]⟩ false) aA ((aol uS s (lB (y++bY (E3 s) s.nS)) (s.nS:Nat) ⟨#[]⟩ false).trans ?_)
  unfold p3C;rw[bQ];rfl
abbrev QS(s:fT)(j:Nat):List UInt8 × Int × Bool:=oD (s.O j).P 4 ((s.O j).n - 1) 0
theorem alg(h:ScK s){j:Nat}(hj:j<s.nO){y:List UInt8}(hy:y.length<=900000)(o:ByteArray->Option Out)(r e:Option Out):p4C uS s (lB y) (j:Nat) (lB (QS s j).1) (QS s j).2.1 (QS s j).2.2 (s.O j) o r e=cond (O4 bG (s.O j).n (s.O j).P) r (o (lB (y++E4 s j))):=by
 obtain⟨⟨n1,n2⟩,hP,hS,k1,k2⟩:=h.O j hj;have hw:aI (((s.O j).n:Int) - 1)=(((s.O j).n - 1:Nat):Int):=by rw[aO (by omega) (by omega)];omega
 have hp:aj bW 40 [pJ (s.O j).n (s.O j).P,iA (((s.O j).n - 1:Nat):Int),iA 0,iA 0] (.aN [zA (lB (QS s j).1),iA (QS s j).2.1,bA (QS s j).2.2]):=EY n2 hP hS 3 (by omega) ((s.O j).n - 1) 0 (by omega);obtain⟨q1,q2⟩:=atG n1 n2 hP hS;unfold p4C;rw[dec_lt hj,gy hj,hw,ah hp,q1];cases hb:O4 bG (s.O j).n (s.O j).P
 .obtain⟨q3,q4⟩:=q2 hb
  have l1:(QS s j).1.length<=16000:=by have:=Eb (s.O j).P 4 ((s.O j).n - 1) 0;show(oD (s.O j).P 4 ((s.O j).n - 1) 0).1.length<=16000;omega
  have l2:=El k1 k2;have c1:=uR (λ y=>gate (FSk uS (s.O j).sk) (GL o y [uS (s.O j).sk])) y [[115,111,108,105,100,32],(QS s j).1] (by simp only[arS,ayw,uI,anE,arB];omega);have c2:=uR o (y++[[115,111,108,105,100,32],(QS s j).1].flatten) [uD (s.O j).sk] (by simp only[arS,ayw,uI,anE,arB];omega);refine aBW (show _=GL _ (lB y) (aAI lB [[115,111,108,105,100,32],(QS s j).1]) from rfl) ?_;rw[c1,ah (WY k1 k2)];refine aBW (show _=GL o (lB (y++[[115,111,108,105,100,32],(QS s j).1].flatten)) (aAI lB [uD (s.O j).sk]) from rfl) ?_;rw[c2,cond_false,<-Ip];congr 2;have q3':(QS s j).1=tks false (Fh cK dF (s.O j).P (s.O j).n ((s.O j).n - 1)):=q3;show _=y++(tks false (soT cK dF (s.O j).n (s.O j).P)++(iD true [oK (s.O j).sk]++[]));unfold soT;rw[q4,cond_true,q3'];have et:tks false (soW::Fh cK dF (s.O j).P (s.O j).n ((s.O j).n - 1))=[115,111,108,105,100]++tks true (Fh cK dF (s.O j).P (s.O j).n ((s.O j).n - 1)):=rfl;rw[et,WZ (W9 (by omega))];simp only[arS,ayw,awr,aiR,List.cons_append,List.nil_append]
 .rfl
theorem alh(j:Nat):fU (Za cK dF bG s j)=O4 bG (s.O j).n (s.O j).P:=by
 show(O4 bG (s.O j).n (s.O j).P||(false||false))=_;simp
theorem afa(h:ScK s){y:List UInt8}(hy:y.length+(bY (E4 s) s.nO).length<=900000):gI bW (au ay6 3) (gvT (!(mh (λ j=>fU (Za cK dF bG s j)) s.nO)) [1,13,24] (pS s 24 (lB (y++bY (E4 s) 0)) 0) (.exit 6) (pS s 24 (lB (y++bY (E4 s) s.nO)) (s.nO:Nat))):=by
 have hK:∀(a:ByteArray) (n:Int) (b:Bool) e,e∈p4K uS a n b->tO bW e:=λ _ _ _=>ak aD (ak aD av);have hn:=h.few;have hle:∀j,j<=s.nO->(y++bY (E4 s) j).length<=900000:=λ j hj=>by rw[uI];have:=wu (E:=E4 s) hj;omega
 refine Ej (S:=pS s 24) (T:=λ k=>lB (y++bY (E4 s) k)) (by simp) (λ j hj hb=>?_) (λ j hj hb=>?_) ?_
 .refine aF (aT _ _) aB (hK _ _ _) aA ((ajp uS s (lB (y++bY (E4 s) j)) (j:Nat) (lB (QS s j).1) (QS s j).2.1 (QS s j).2.2).trans ?_)
  rw[alh]at hb;rw[Zk,alg h hj (hle j (by omega)),hb,bD (by omega),cond_false,aiR];rfl
 .refine aF (gQ _ _) aB (hK _ _ _) aA ((aom uS s (lB (y++bY (E4 s) j)) (j:Nat) (lB (QS s j).1) (QS s j).2.1 (QS s j).2.2).trans ?_)
  rw[alh]at hb;rw[Zk,alg h hj (hle j (by omega)),hb];rfl
 .refine aF (bU _ _) aB (hK ⟨#[]⟩ 0 false) aA ((aon uS s (lB (y++bY (E4 s) s.nO)) (s.nO:Nat) ⟨#[]⟩ 0 false).trans ?_)
  unfold p4C;rw[bQ];rfl
abbrev pT5(s:fT)(j:Nat):List UInt8:=Nj (s.F j) (s.F j).n++uD (s.F j).sk
theorem ali(h:ScK s){j:Nat}(hj:j<s.nF){y:List UInt8}(hy:y.length<=900000)(o:ByteArray->Option Out)(r e:Option Out):p5C s (lB y) (j:Nat) (lB (pT5 s j)) (!(JI bG (s.F j))) (s.F j) o r e=cond (JI bG (s.F j)) r (o (lB (y++E5 s j))):=by
 have hF:=h.F j hj;unfold p5C;rw[dec_lt hj,gy hj,ah (show F2 (lB (pT5 s j)) (!(JI bG (s.F j))) 41 (s.F j).c from Cy hF)];cases hb:JI bG (s.F j)
 .have l0:=Px hF
  have l1:=Xa hF (j:=(s.F j).n) (Nat.le_refl _);have l2:=El hF.sk.1 hF.sk.2;have l3:(pT5 s j).length<=2000:=by show(fxH (s.F j)++tks true (vE cK (s.F j) (s.F j).n)++uD (s.F j).sk).length<=2000;simp only[uI];omega
  have c1:=uR o y [pT5 s j] (by simp only[arS,ayw,awr];omega);refine aBW (show _=GL o (lB y) (aAI lB [pT5 s j]) from rfl) ?_;rw[c1,cond_false];congr 2;show _=y++(tks false (Y9 cK dF (s.F j))++(iD true [oK (s.F j).sk]++[]));rw[awr,<-ajq hb];simp only[arS,ayw,awr]
 .rfl
theorem alj(j:Nat):fU (feI cK dF bG s j)=JI bG (s.F j):=by
 show(JI bG (s.F j)||(false||false))=_;simp
theorem afb(h:ScK s){y:List UInt8}(hy:y.length+(bY (E5 s) s.nF).length<=900000):gI bW (au ay6 4) (gvT (!(mh (λ j=>fU (feI cK dF bG s j)) s.nF)) [1,13,29] (pS s 29 (lB (y++bY (E5 s) 0)) 0) (.exit 8) (pS s 29 (lB (y++bY (E5 s) s.nF)) (s.nF:Nat))):=by
 have hK:∀(a:ByteArray) (b:Bool) e,e∈p5K a b->tO bW e:=λ _ _=>ak aD av;have hn:=h.few;have hle:∀j,j<=s.nF->(y++bY (E5 s) j).length<=900000:=λ j hj=>by rw[uI];have:=wu (E:=E5 s) hj;omega
 refine Ej (S:=pS s 29) (T:=λ k=>lB (y++bY (E5 s) k)) (by simp) (λ j hj hb=>?_) (λ j hj hb=>?_) ?_
 .refine aF (aT _ _) aB (hK _ _) aA ((ajr s (lB (y++bY (E5 s) j)) (j:Nat) (lB (pT5 s j)) (!(JI bG (s.F j)))).trans ?_)
  rw[alj]at hb;rw[Zk,ali h hj (hle j (by omega)),hb,bD (by omega),cond_false,aiR];rfl
 .refine aF (gQ _ _) aB (hK _ _) aA ((aoo s (lB (y++bY (E5 s) j)) (j:Nat) (lB (pT5 s j)) (!(JI bG (s.F j)))).trans ?_)
  rw[alj]at hb;rw[Zk,ali h hj (hle j (by omega)),hb];rfl
 .refine aF (bU _ _) aB (hK ⟨#[]⟩ false) aA ((aop s (lB (y++bY (E5 s) s.nF)) (s.nF:Nat) ⟨#[]⟩ false).trans ?_)
  unfold p5C;rw[bQ];rfl
end
theorem ahn(ws:Nat->ByteArray)(wb:Nat->Bool)(tw:Int->Int->Int->ByteArray)(vs:Nat->Nat->Nat->ByteArray)(vb:Nat->Nat->Nat->Bool)(s:fT)(e:Int):evM bW [] (spK ws wb tw vs vb e) [born 88] (ny [(12,λ _ _=>none)]) ay6 [.agg s.c] ret =
 spX ws wb vs vb s e (GL (λ y=>gate (FTw tw (s.jE 0) (s.jE 1) (s.jE 2)) (GL (λ _=>none) y (TV tw s.jE))) XE (QT ws vs s.eye)):=by kernel_rfl
section
variable{s:fT}
theorem Yy(e:Int):∀x,x∈spK K7 bG Ni su uQ e->tO bW x:=ak aD (ak aD (ak aD (ak aD av)))
theorem WV(h:yK s≠0):aj bW 13 [.agg s.c] (.aN [zA ⟨#[]⟩,iA (yK s)]):=by
 refine qw aB (Yy (yK s)) (jl (iK _) bO) aDb (by kernel_rfl) (by kernel_rfl) (dD (iG 12) o7) rfl ((ahn K7 bG Ni su uQ s (yK s)).trans ?_);unfold spX;rw[ah (J9 s),beq_false_of_ne h];rfl
theorem JV(h:ScK s)(o:Option Out):gate (Pw su uQ s.eye 0) (gate (Pw su uQ s.eye 3) (gate (Pw su uQ s.eye 6) (gate (FT1 K7 bG s.eye 9) (cond (cond (cond (cond (!(vK uQ s.eye 0)) true (!(vK uQ s.eye 3))) true (!(vK uQ s.eye 6))) true (!(bG (s.eye 9)))) spE o))))=cond (GA bG s.eye) spE o:=by
 have he:=h.eye;rw[ah (show Pw su uQ s.eye 0 from Te (he 0 (by omega)) (he 1 (by omega)) (he 2 (by omega))),ah (show Pw su uQ s.eye 3 from Te (he 3 (by omega)) (he 4 (by omega)) (he 5 (by omega))),ah (show Pw su uQ s.eye 6 from Te (he 6 (by omega)) (he 7 (by omega)) (he 8 (by omega))),ah (show FT1 K7 bG s.eye 9 from apZ (he 9 (by omega)))];unfold GA;rw[nT,nT,nT];show cond (cond (cond (cond (!(vX s.eye 0)) true (!(vX s.eye 3))) true (!(vX s.eye 6))) true (!(bG (s.eye 9)))) spE o=_;cases vX s.eye 0<;>cases vX s.eye 3<;>cases vX s.eye 6<;>cases bG (s.eye 9)<;>rfl
theorem aqK:fU (yH s)=false:=rfl
theorem alR:w6 cK dF bG s=(GA bG s.eye||(mh (λ j=>fU (lmI cK dF bG s j)) s.nL||(mh (λ j=>fU (shI cK dF bG s j)) s.nS||(mh (λ j=>fU (Za cK dF bG s j)) s.nO||mh (λ j=>fU (feI cK dF bG s j)) s.nF)))):=by
 unfold w6 w5 w4 w3 w2 w1;rw[aqK,agN (B:=λ j=>fU (skI cK s j)) (n:=s.nK) λ _ _=>rfl];simp only[Bool.or_false,Bool.or_assoc]
theorem QI(b:Bool)(S:St)(o:Option Out):gvO b S o=cond b o spE:=by
 unfold gvO;rw[ah (Sub.refl _),ah (Sub.refl _)]
theorem aqL(hb:GA bG s.eye=false):QT K7 su s.eye=aAI lB [pY [s.eye 0,s.eye 1,s.eye 2],[32,116,111],pY [s.eye 3,s.eye 4,s.eye 5],[32,117,112],pY [s.eye 6,s.eye 7,s.eye 8],[32,119,105,100,101],pY [s.eye 9],[32,59,10,115,107,121]]:=by
 unfold GA at hb;rw[nT,nT,nT]at hb;have h0:vX s.eye 0=true:=by cases c:vX s.eye 0;rw[c]at hb;cases hb;rfl
 have h3:vX s.eye 3=true:=by cases c:vX s.eye 3;rw[h0,c]at hb;cases hb;rfl
 have h6:vX s.eye 6=true:=by cases c:vX s.eye 6;rw[h0,h3,c]at hb;cases hb;rfl
 have h9:bG (s.eye 9)=true:=by cases c:bG (s.eye 9);rw[h0,h3,h6,c]at hb;cases hb;rfl
 have e0:su (s.eye 0) (s.eye 1) (s.eye 2)=lB (pY [s.eye 0,s.eye 1,s.eye 2]):=Bw h0;have e3:su (s.eye 3) (s.eye 4) (s.eye 5)=lB (pY [s.eye 3,s.eye 4,s.eye 5]):=Bw h3;have e6:su (s.eye 6) (s.eye 7) (s.eye 8)=lB (pY [s.eye 6,s.eye 7,s.eye 8]):=Bw h6;unfold QT;rw[e0,e3,e6,ab4 h9];rfl
theorem SV(h:yK s=0):aj bW 13 [.agg s.c] (cond (w6 cK dF bG s) (.aN [zA ⟨#[]⟩,iA 11]) (.aN [zA (lB (x6 cK dF bG s)),iA 0])):=by
 have hk:=apO h;have hm:=J9 s;rw[h]at hm;cases hb:GA bG s.eye
 .have hl:=adp h
  have l6:(x6 cK dF bG s).length=(x5 cK dF bG s).length+(bY (E5 s) s.nF).length:=uI;have l5:(x5 cK dF bG s).length=(x4 cK dF bG s).length+(bY (E4 s) s.nO).length:=uI;have l4:(x4 cK dF bG s).length=(x3 cK dF bG s).length+(bY (E3 s) s.nS).length:=uI;have l3:(x3 cK dF bG s).length=(x2 cK dF s).length+(bY (E2 s) s.nL).length:=uI;have l2:(x2 cK dF s).length=(x1 cK dF s).length+(bY (E1 s) s.nK).length:=uI;have hn:=hk.few;have a0:=Ke (s.eye 0) (s.eye 1) (s.eye 2);have a3:=Ke (s.eye 3) (s.eye 4) (s.eye 5);have a6:=Ke (s.eye 6) (s.eye 7) (s.eye 8);have a9:(pY [s.eye 9]).length<=21:=jX true (aW (lN (s.eye 9)) iU);have at_:=Kg hk.jE;have eL:=aqL hb;have eS:TV Ni s.jE=aAI lB [tks true (Bl s.jE),[32,59,10]]:=rfl;have eW:XE=lB [101,121,101]:=rfl
  have ex:([101,121,101]++[pY [s.eye 0,s.eye 1,s.eye 2],[32,116,111],pY [s.eye 3,s.eye 4,s.eye 5],[32,117,112],pY [s.eye 6,s.eye 7,s.eye 8],[32,119,105,100,101],pY [s.eye 9],[32,59,10,115,107,121]].flatten)++[tks true (Bl s.jE),[32,59,10]].flatten=x1 cK dF s:=by
   unfold x1 x0 yH;simp[iD,eyT,Fb,vT,pY,Jd,Bl,Fe]
  have ey0:Z7 (Z7 XE (QT K7 su s.eye)) (TV Ni s.jE)=lB (x1 cK dF s):=by rw[eL,eS,eW,FX,FX,ex]
  have hL1:gI bW (au ay6 0) (fE [1,13,14] [some 0] (pS s 14 (Z7 (Z7 XE (QT K7 su s.eye)) (TV Ni s.jE)) 0) (.exit 0) (pS s 14 (lB (x2 cK dF s)) (s.nK:Nat))):=by
   rw[ey0];refine aR ?_
   have key:bF bW (.loop (au ay6 0)) (pS s 14 (lB (x1 cK dF s++bY (E1 s) 0)) ((0:Nat):Int)) (.exit 0) (pS s 14 (lB (x1 cK dF s++bY (E1 s) s.nK)) (s.nK:Nat)):=by
    refine aU (λ j=>pS s 14 (lB (x1 cK dF s++bY (E1 s) j)) (j:Nat)) s.nK (.exit 0) _ (by simp) (λ j hj=>?_) ?_
    .have hle:=wu (E:=E1 s) (n:=s.nK) (j:=j) (by omega)
     have:=akh hk hj (y:=x1 cK dF s++bY (E1 s) j) (by rw[uI];omega);rw[aiR]at this;exact this
    .refine aF (bU _ _) aB (ak aD (ak aD (ak aD (ak aD av)))) aA ((aqM Kw bG qY gJ Ni s (lB (x1 cK dF s++bY (E1 s) s.nK)) (s.nK:Nat)).trans ?_)
     unfold p1C;rw[bQ];rfl
   have e0:x1 cK dF s++bY (E1 s) 0=x1 cK dF s:=awr _;rw[e0]at key;exact key
  have z:∀(y:List UInt8) (E:Nat->List UInt8),y++bY E 0=y:=λ y _=>awr y;have hL2:=ae8 hk (y:=x2 cK dF s) (by omega);have hL3:=ae9 hk (y:=x3 cK dF bG s) (by omega);have hL4:=afa hk (y:=x4 cK dF bG s) (by omega);have hL5:=afb hk (y:=x5 cK dF bG s) (by omega);rw[z]at hL2 hL3 hL4 hL5
  refine qw aB (Yy 0) (jl (iK _) bO) aDb (by kernel_rfl) (by kernel_rfl)
   (dD (eZ 0 5 (by kernel_rfl) (by kernel_rfl) hL1) <|dD (eZ 1 5 (by kernel_rfl) (by kernel_rfl) hL2) <|dD (eZ 2 5 (by kernel_rfl) (by kernel_rfl) hL3) <|dD (eZ 3 5 (by kernel_rfl) (by kernel_rfl) hL4) <|dD (eZ 4 5 (by kernel_rfl) (by kernel_rfl) hL5) o7) rfl
   ((af6 K7 bG Ni su uQ s 0 (lB (x2 cK dF s)) (lB (x3 cK dF bG s)) (lB (x4 cK dF bG s)) (lB (x5 cK dF bG s)) (lB (x6 cK dF bG s)) _ _ _ _).trans ?_)
  unfold spX;rw[ah hm,JV hk,hb];refine aBW (show _=GL _ XE (QT K7 su s.eye) from rfl) ?_;rw[eL,eW,uR _ _ _ (by simp only[arS,ayw,uI,anE,arB];omega),ah (Tf hk.jE),eS,uR _ _ _ (by simp only[arS,ayw,uI,anE,arB];omega),ah (Sub.refl _)];unfold spY;rw[QI,QI,QI,QI,alR,hb];cases mh (λ j=>fU (lmI cK dF bG s j)) s.nL<;>cases mh (λ j=>fU (shI cK dF bG s j)) s.nS<;>cases mh (λ j=>fU (Za cK dF bG s j)) s.nO<;>cases mh (λ j=>fU (feI cK dF bG s j)) s.nF<;>rfl
 .refine qw aB (Yy 0) (jl (iK _) bO) aDb (by kernel_rfl) (by kernel_rfl) (dD (iG 12) o7) rfl ((ahn K7 bG Ni su uQ s 0).trans ?_)
  unfold spX;rw[ah hm,JV hk,hb,alR,hb];rfl
end
end Go.Proofs.YtefphimaggjihaaGreatDoor.Pi
namespace Go.Proofs.YtefphimaggjihaaGreatDoor.Pi
open Go.Shelf Go.RowKit Go.Gv
open Hs Hs.So Hs.Sc Hs.Fm
def hvS(s:fT):Bool:=decide (aI (aI (aI (aI ((s.nS:Int)+s.nK)+s.nL)+s.nO)+s.nF)>99)
theorem ae2(s:fT):aj bW 11 [.agg s.c] (bA (hvS s)):=aP aB av Tryz.func11 (by kernel_rfl) (by kernel_rfl) aA rfl (show ev bW [] [] aM Tryz.f11 [.agg s.c] ret=oB (hvS s) by kernel_rfl)
section
variable(s:fT)(i:Int)(a b:Int)(hv:Bool)(m1 m2 y1 y2 e f:Int)(t u:ByteArray)
def lwS:St:=mkS 64 [(1,.own 0 0),(7,iA i)] [.c s.c]
def lwC(o x:Option Out):Option Out:=cond (decide (i<(s.nK:Nat))) (gate (aj bW 18 [.agg (xB (s.K i.toNat))] (iA a)) (gate (aj bW 19 [.agg (xB (s.K i.toNat))] (iA b)) (cond ((mI i s.nK||false)&&((mI i s.nK||false)&&true)) (cond (!(a==b)) none o) none))) x
def lwK:List aV:=[kS bW 18 (λ _=>iA a),kS bW 19 (λ _=>iA b)]
theorem ajj:gD bW [] (lwK a b) aM (au aDc 0) (lwS s i) (fu [1,7] [some 0])=lwC s i a b (some ⟨.normal,lwS s (aI (i+1)),.any⟩) none:=by kernel_rfl
theorem aod:gD bW [] (lwK a b) aM (au aDc 0) (lwS s i) (gM [1,7] [some 0])=lwC s i a b none (some ⟨.exit 0,lwS s i,.any⟩):=by kernel_rfl
def aws:List aV:=[kS bW 11 (λ _=>bA hv),kS bW 12 (λ _=>.aN [zA t,iA e]),kS bW 13 (λ _=>.aN [zA u,iA f]),kS bW 14 (λ _=>iA m1),kS bW 15 (λ _=>iA m2),kS bW 16 (λ _=>iA y1),kS bW 17 (λ _=>iA y2)]
theorem aoe:ev bW [] (aws hv m1 m2 y1 y2 e f t u) (gu 8 (fE [1,7] [some 0] (lwS s 0) (.exit 0) (lwS s (s.nK:Nat)))) aDc [.agg s.c] ret =
 gate (aj bW 11 [.agg s.c] (bA hv)) (cond hv (oB true) (gate (aj bW 12 [.agg s.c] (.aN [zA t,iA e])) (gate (aj bW 13 [.agg s.c] (.aN [zA u,iA f])) (gate (aj bW 14 [.agg s.c] (iA m1)) (gate (aj bW 15 [.agg s.c] (iA m2)) (gate (aj bW 16 [.agg (eyC s.eye)] (iA y1)) (gate (aj bW 17 [.agg (eyC s.eye)] (iA y2))
  (cond (cond (cond (cond (!(m1==m2)) true (!(y1==y2))) true (!(t.toList==u.toList))) true (!(e==f))) (oB false) (gate (Sub (lwS s 0) (lwS s 0)) (oB true)))))))))):=by kernel_rfl
end
theorem ae3{s:fT}(hK:s.nK<9223372036854775808):bF bW (.loop (au aDc 0)) (lwS s 0) (.exit 0) (lwS s (s.nK:Nat)):=by
 refine aU (λ j=>lwS s (j:Nat)) s.nK (.exit 0) _ (by simp) (λ j hj=>?_) ?_
 .refine aF (aT _ _) aB (ak aD (ak aD av)) aA ((ajj s (j:Nat) (skE (s.K j)) (skE (s.K j))).trans ?_)
  unfold lwC;rw[dec_lt hj,gy hj,Zk,ah (Pf _),ah (SB _),Cz,show aI (((j:Nat):Int)+1)=((j+1:Nat):Int) from(aO (by omega) (by omega)).trans (by omega)];rfl
 .refine aF (bU _ _) aB (ak aD (ak aD av)) aA ((aod s (s.nK:Nat) 0 0).trans ?_)
  unfold lwC;rw[bQ];rfl
theorem WU(s:fT):∃(t:ByteArray) (e:Int),aj bW 12 [.agg s.c] (.aN [zA t,iA e])/\aj bW 13 [.agg s.c] (.aN [zA t,iA e]):=by
 by_cases h:yK s=0
 .have p:=Jg h
  have q:=SV h;cases hw:w6 cK dF bG s
  .rw[hw]at p q
   exact⟨_,_,p,q⟩
  .rw[hw]at p q
   exact⟨_,_,p,q⟩
 .exact⟨_,_,Nc h,WV h⟩
theorem Hg{s:fT}(hK:s.nK<9223372036854775808):aj bW 4 [.agg s.c] (bA true):=by
 obtain⟨t,e,p,q⟩:=WU s;have hL:=Pt (c:=dG aDc) (i:=8) 0 (by kernel_rfl) (by kernel_rfl) (aR (keep:=[1,7]) (τ:=[some 0]) (ae3 hK));refine aP aB (ak aD (ak aD (ak aD (ak aD (ak aD (ak aD (ak aD av))))))) Tryz.func4 (by kernel_rfl) (by kernel_rfl) hL rfl ((aoe s (hvS s) (yK s) (yK s) (Y4 s.eye) (Y4 s.eye) e e t t).trans ?_);rw[ah (ae2 s),ah p,ah q,ah (Im s),ah (J9 s),ah (Pg _),ah (SC _),ah (Sub.refl _),Cz,Cz,Cz,BEq.rfl];cases hvS s<;>rfl
end Go.Proofs.YtefphimaggjihaaGreatDoor.Pi
namespace Go.Proofs.YtefphimaggjihaaGreatDoor.Hs.Sc
open Go.Gv So Fm
open Go.Ev (cn bq dI bT fdiv d9 fI dK jO kL gN lK fabs)
theorem Nz{E:Env}{a b c c':AV}{l:List AV}{v:Value}(hc:∀u,rel E c u->rel E c' u)(h:rel E (.agg (a::b::c::l)) v):rel E (.agg (a::b::c'::l)) v:=by
 obtain⟨vs,e,h⟩:=kV.1 h;refine kV.2 ⟨vs,e,?_⟩;obtain⟨u0,us,q0,r0,h⟩:=aH.1 h;obtain⟨u1,us,q1,r1,h⟩:=aH.1 h;obtain⟨u2,us,q2,r2,h⟩:=aH.1 h;exact aH.2 ⟨u0,_,q0,r0,aH.2 ⟨u1,_,q1,r1,aH.2 ⟨u2,_,q2,hc _ r2,h⟩⟩⟩
theorem ajV(n:Nat)(hs:Nat->Int):ev bW [] [] aM Tryz.f65 [sI n hs,iA 0,iA 3] ret=some (Out.of (.x (.slice none 0 0))):=by kernel_rfl
theorem PY{n:Nat}{hs:Nat->Int}(h:YM n hs){N:Nat}(h2:N<=10):∃S:Nat->IL,aj bW 65 [sI n hs,iA (N:Nat),iA 3] (.sl 13 N λ q=>(S q).c):=by
 by_cases h0:N=0
 .subst h0
  exact⟨λ _=>⟨0,λ _=>0,0⟩,aj.PZ (aP aB av Tryz.func65 (by kernel_rfl) (by kernel_rfl) aA rfl (ajV n hs)) λ _ _ hr=>Z4 hr⟩
 .exact Md h (by omega) h2
theorem P5{n:Nat}{hs:Nat->Int}(h:YM n hs)(hn:n<=512){N:Nat}(h2:N<=10):∃s:fT,s.nK=3/\aj bW 20 [sI n hs,iA (N:Nat)] (.agg s.c):=by
 have h':∀i,i<n->-9223372036854775808<=hs i/\hs i<=9223372036854775807:=h;have rg:∀k m:Int,0<=k->0<m->0<=dO (dU n hs k) m/\dO (dU n hs k) m<m:=λ k m hk hm=>kH (gH h' hk).1 (gH h' hk).2 hm;have r1:=rg 1 3 (by decide) (by decide);have r9:=rg 9 3 (by decide) (by decide);obtain⟨NL,hL,hL3⟩:∃NL:Nat,dO (dU n hs 1) 3=(NL:Nat)/\NL<=3:=⟨(dO (dU n hs 1) 3).toNat,by omega,by omega⟩;obtain⟨NO,hO,hO3⟩:∃NO:Nat,dO (dU n hs 9) 3=(NO:Nat)/\NO<=3:=⟨(dO (dU n hs 9) 3).toNat,by omega,by omega⟩;obtain⟨S,hS⟩:=PY h h2;obtain⟨F,hF⟩:=P6 h
 have hx:∀f:Int,∃y:QY,∀g:Nat,f=(g:Nat)->g<=50->aj bW 66 [sI n hs,iA (g:Nat),iA 3] (.agg y.c):=λ f=>by
  by_cases hf:0<=f/\f<=50
  .obtain⟨m,P,sk,hk⟩:=Oh h hn (F:=f.toNat) (by omega)
   refine⟨⟨m,P,sk⟩,λ g hg _=>?_⟩;have:f.toNat=g:=by omega
   subst this;exact hk
  .exact⟨⟨0,λ _=>⟨0,0,0,0,λ _=>0,0⟩,0⟩,λ g hg hg'=>absurd ⟨by omega,by omega⟩ hf⟩
 obtain⟨G,hG0⟩:=Classical.axiomOfChoice hx;have hG:∀F:Nat,F<=50->aj bW 66 [sI n hs,iA (F:Nat),iA 3] (.agg (G (F:Nat)).c):=λ F hF=>hG0 (F:Nat) F rfl hF
 have hLk:yN bW (scL n hs dO gJ (dU n hs) (Q7 dO gJ) (N:Nat) NL NO (λ q=>skN dO (dU n hs) (q:Nat)) (λ q=>pz n hs (aI (17+aI (4*(q:Int)))) 6000) (λ q c=>Xx dO (dU n hs) (q:Nat) (c:Nat)) (λ q=>G (aI (5+aI (7*(q:Int))))) S N) (dG Tryz.f20) :=
  dD (eZ 0 6 (by kernel_rfl) (by kernel_rfl) (zV afZ)) (dD (eZ 2 6 (by kernel_rfl) (by kernel_rfl) (zV (af0 _ hL hL3))) (dD (eZ 5 6 (by kernel_rfl) (by kernel_rfl) (zV (af2 hG _ _ _ _ _ _ _ _ _ hO hO3))) o7))
 have go:∀c,scX n hs dO gJ (dU n hs) (Q7 dO gJ) F (N:Nat) NL NO (λ q=>skN dO (dU n hs) (q:Nat)) (λ q=>pz n hs (aI (17+aI (4*(q:Int)))) 6000) (λ q c=>Xx dO (dU n hs) (q:Nat) (c:Nat)) (λ q=>G (aI (5+aI (7*(q:Int))))) S N=some (Out.of (.agg c))->aj bW 20 [sI n hs,iA (N:Nat)] (.agg c):=λ c hc =>
  So.qh ao8 tQ (ak aD (ak aD (ak aD (ak aD (ak aD av))))) bO Tryz.func20 (by kernel_rfl) (by kernel_rfl) hLk rfl ((aec n hs dO gJ (dU n hs) (pz n hs) (Q7 dO gJ) F (N:Nat) NL NO _ _ _ _ S N).trans hc)
 unfold scX gMi at go;rw[cO (by decide),ah (Z5 _),cO (by decide),ah (Z5 _),cO (by decide),ah (Sub.refl _),ah (Sub.refl _),cO (by decide),cO (by decide),cO (by decide),ah hS,ah (Sub.refl _),cO (by decide),ah hF]at go;unfold scO at go;rw[aly,aly]at go;let e:Nat->Nat:=ls [Q7 dO gJ (dU n hs 3) 2000,Q7 dO gJ (dU n hs 4) 2000,13842939354630062080,0,0,0,0,4607182418800017408,0,gJ (aI (500+dO (dU n hs 5) 1500))];let u:Nat->Int:=λ q=>match q with | 0=>yM dO (dU n hs) 0 | 1=>yM dO (dU n hs) 1 |_=>yM dO (dU n hs) 2
 cases hb:dO (dU n hs 8) 3==0
 .rw[hb]at go
  exact⟨⟨N,S,NO,λ q=>G (aI (5+aI (7*(q:Int)))),0,λ _=>F,3,λ q=>skN dO (dU n hs) (q:Nat),NL,λ q=>pz n hs (aI (17+aI (4*(q:Int)))) 6000,λ q c=>Xx dO (dU n hs) (q:Nat) (c:Nat),u,e⟩,rfl,aj.PZ (go _ rfl) λ _ _ hr=>Nz (λ _=>Z4) hr⟩
 .rw[hb]at go
  exact⟨⟨N,S,NO,λ q=>G (aI (5+aI (7*(q:Int)))),1,λ _=>F,3,λ q=>skN dO (dU n hs) (q:Nat),NL,λ q=>pz n hs (aI (17+aI (4*(q:Int)))) 6000,λ q c=>Xx dO (dU n hs) (q:Nat) (c:Nat),u,e⟩,rfl,aj.PZ (go _ rfl) λ _ _ hr=>Nz (λ _ h=>D8 h λ _ _=>rfl) hr⟩
def pkG(pf:Int->Int->Int):List AV->AV
 | [.x (.int .i64 c),.x (.int .i64 k)]=>iA (pf c k)
 |_=>.any
end Go.Proofs.YtefphimaggjihaaGreatDoor.Hs.Sc
namespace Go.Proofs.YtefphimaggjihaaGreatDoor.Pi.Rd
open Go.Shelf Go.RowKit Go.Gv
open Hs Hs.So Hs.Sc Hs.Fm
section
variable(n:Nat)(hs:Nat->Int)(pf:Int->Int->Int)(s:fT)(n0:Int)
def Z6:Option Out:=cond (decide ((n:Int)>512)) (oB true) (gate (aj bW 21 [iA n0,iA 10] (iA (pf n0 10))) (gate (aj bW 20 [sI n hs,iA (pf n0 10)] (.agg s.c)) (gate (aj bW 4 [.agg s.c] (bA true)) (gate (aj bW 5 [.agg s.c] (bA true)) (oB true)))))
theorem alz:ev bW [] [kS bW 21 (pkG pf),kS bW 20 (λ _=>.agg s.c),kS bW 4 (λ _=>bA true),kS bW 5 (λ _=>bA true)] aM Tryz.f6 [sI n hs,iA n0] ret=Z6 n hs pf s n0:=by kernel_rfl
end
theorem Me{n:Nat}{hs:Nat->Int}(h:YM n hs){n0:Int}(h0:-9223372036854775808<=n0/\n0<=9223372036854775807):aj bW 6 [sI n hs,iA n0] (bA true):=by
 have ks:∀s:fT,∀e,e∈[kS bW 21 (pkG dO),kS bW 20 (λ _=>.agg s.c),kS bW 4 (λ _=>bA true),kS bW 5 (λ _=>bA true)]->tO bW e:=λ s=>ak aD (ak aD (ak aD (ak aD av)));by_cases hn:n<=512
 .have r6:=kH (m:=10) h0.1 h0.2 (by decide)
  obtain⟨N,hN,g2⟩:∃N:Nat,dO n0 10=(N:Nat)/\N<=10:=⟨(dO n0 10).toNat,by omega,by omega⟩;obtain⟨s,h3,hs1⟩:=P5 h hn g2;refine aP aB (ks s) Tryz.func6 (by kernel_rfl) (by kernel_rfl) aA rfl ((alz n hs dO s n0).trans ?_);unfold Z6;rw[decide_eq_false (show ¬(n:Int)>512 by omega),cond_false,ah (acS (by decide)),hN,ah hs1,ah (Hg (by omega)),ah (LP s)];rfl
 .refine aP aB (ks Hs.Sc.Z0) Tryz.func6 (by kernel_rfl) (by kernel_rfl) aA rfl ((alz n hs dO Hs.Sc.Z0 n0).trans ?_)
  unfold Z6;rw[decide_eq_true (show(n:Int)>512 by omega)];rfl
end Go.Proofs.YtefphimaggjihaaGreatDoor.Pi.Rd
end
