/- Texts, one behind the other. -/
import Derived.Test.YtefphimaggjihaaGreatDoorC25
import Derived.Test.YtefphimaggjihaaGreatDoorC18
import Derived.Test.YtefphimaggjihaaGreatDoorRows
import Derived.Test.YtefphimaggjihaaGreatDoorTie
import Derived.Test.YtefphimaggjihaaGreatDoorCards
import Derived.Carry
import Derived.ChangeSlices
import Derived.SizedLaws
import Derived.Deep.DeepHandedRow
import Derived.ProofKit
import Derived.OpenShut
import Derived.Lib.LaidTab
import Derived.Test.YtefphimaggjihaaGreatDoorC22
import Derived.Test.YtefphimaggjihaaGreatDoorC21
open BEq renaming rfl->ay5
open Bool renaming and_eq_true->J8,or_eq_false_iff->ahD
open Go.Lib renaming TabIs->aDN,decDigits->ayh,decDigits_one->azY,itoa->ala,pow10Tab->aAx,trimRightB->ayI
open Go.Proofs.Tryz renaming f10->azi,f112->ay8,f20->az6,f30->aDn,f34->aFq,f38->aCc,f65->aBJ,f66->azj,f67->aBK,func34->aEU,prog->bW
open Go.Value renaming int->aAP,okWide->aEx,string->aBV
open Int renaming eq_ofNat_of_zero_le->ay2,mul_le_mul->aEw,mul_nonneg->aC7,natCast_nonneg->azv,tdiv_eq_ediv_of_nonneg->aCo,tmod_eq_emod_of_nonneg->azt,toNat_natCast->Zk
open List renaming append_assoc->aiR,append_nil->awr,dropWhile->aBp,flatMap_append->ayz,flatMap_cons->ay7,flatMap_nil->aDF,getElem?_eq_none->ayE,getElem?_map->azh,length_append->uI,length_cons->anE,length_map->aAL,length_nil->arB,length_pos_iff->aAa,length_singleton->azM,map_append->ayL,mem_append->ayQ,mem_cons->azV,mem_map->azp,mem_range->ayA,nil_append->aBR,range->av2,range_succ->aD1
open Nat renaming beq->ax0,beq_refl->aBH,ble->aqE,ble_eq_true_of_le->ah4,blt->afC,div_le_div_right->az1,eq_of_beq_eq_true->axO,le_of_ble_eq_true->Sr,le_refl->ao5,le_trans->apL,lt_one_iff->aBs,mul_le_mul->azQ,not_lt_zero->azu,one_le_two_pow->aDx,pow_succ->ayD,zero_add->avB,zero_le->aAv,zero_mul->aza
open Option.some renaming inj->azw,injEq->jN
open Or renaming inl->ER,inr->aaH
open Prod renaming fst->azy
open UInt8 renaming ofNat->azk
noncomputable section
namespace Go.Proofs.YtefphimaggjihaaGreatDoor.Pi.Rd
open Go.Shelf Go.RowKit Go.Gv
open Hs.So (dM pJ)
open Hs (fC)
def Z0(z:Nat->Int):Prop:=z 24=0/\z 25=0/\z 26=0
theorem ql(x:Nat):(dF x).natAbs<=1000000:=by
 cases h:bG x
 .unfold dF
  rw[h];show(0:Int).natAbs<=_;decide
 .exact(Om h).1
theorem Cq(x:Nat):ais (nP x):=Wq (ql x)
def dW(x:Nat):Nat:=yI (dF x)
def rd(b:Nat->Nat)(q:Nat):Nat:=dW (b q)
def cX(k:Int)(a:Nat->Nat):Nat->Nat:=if k=1 then t1 a else if k=2 then t2 a else if k=3 then t3 a else if k=4 then t4 a else if k=5 then t4 a else t6 a
section
variable{t:Tk}{a:Nat}{z:Nat->Int}{b:Nat->Nat}{l:List TP}
theorem qA{i0:Nat}(h:At t a (vP b i0++l))(hz:Z0 z):FB t z a/\∀i,i<3->fS t z yI a i=dW (b (i0+i)):=by
 have key:∀i,i<3->(vP b i0++l)[i]?=some (nP (b (i0+i))):=λ i hi=>by
  match i,hi with
  | 0,_=>rfl
  | 1,_=>rfl
  | 2,_=>rfl
 have hs:∀i,i<3->Ia t z a i=dF (b (i0+i)):=λ i hi=>by
  have e:=(h.get (key i hi)).2;have e:t.N (a+i)=dF (b (i0+i)):=e;have hf:=ql (b (i0+i))
  have ez:z (24+i)=0:=by
   match i,hi with
   | 0,_=>exact hz.1
   | 1,_=>exact hz.2.1
   | 2,_=>exact hz.2.2
  unfold Ia;rw[e,ez,aO (by omega) (by omega)];omega
 refine⟨λ i hi=>⟨h.num (key i hi) (Cq _),?_⟩,λ i hi=>?_⟩
 .rw[hs i hi]
  have hf:=ql (b (i0+i));omega
 .unfold fS
  rw[hs i hi];rfl
theorem ad2{i0:Nat}(h:At t a (vP b i0++l)):(∀i,i<3->mX t (a+i))/\∀i,i<3->fN t yI (a+i)=dW (b (i0+i)):=by
 have key:∀i,i<3->(vP b i0++l)[i]?=some (nP (b (i0+i))):=λ i hi=>by
  match i,hi with
  | 0,_=>rfl
  | 1,_=>rfl
  | 2,_=>rfl
 refine⟨λ i hi=>h.num (key i hi) (Cq _),λ i hi=>?_⟩;unfold fN;rw[(h.get (key i hi)).2];rfl
theorem MR{i:Nat}{x:Nat}(h:At t a l)(hp:l[i]?=some (nP x)):fN t yI (a+i)=dW x:=by
 unfold fN;rw[(h.get hp).2];rfl
theorem ad3(h:At t a (Ak 1 b++l))(hz:Z0 z):Lf t 187 [] (.agg (fC 1 (cX 1 (rd b)) 0)) (a+1) 5 z z:=by
 have hB:At t (a+1) (vP b 0++([kP Lp,nP (b 9)]++l)):=h.2;obtain⟨p1,p2⟩:=qA hB hz;have e:=aa4 (hB.has 5 (by simp[vP])) p1 (hB.is (i:=3) rfl) (hB.num (i:=4) rfl (Cq _));unfold cBa at e;rw[p2 0 (by omega),p2 1 (by omega),p2 2 (by omega),MR hB (i:=4) rfl]at e;exact e
theorem ad4(h:At t a (Ak 2 b++l))(hz:Z0 z):Lf t 188 [] (.agg (fC 2 (cX 2 (rd b)) 0)) (a+1) 7 z z:=by
 have hB:At t (a+1) (vP b 0++((kP [116,111]::vP b 3)++l)):=h.2;have hC:At t (a+1+4) (vP b 3++l):=(At.app (x:=vP b 0++[kP [116,111]]) (y:=vP b 3++l) hB).2;obtain⟨p1,p2⟩:=qA hB hz;obtain⟨q1,q2⟩:=qA hC hz;have e:=Ws (hB.has 7 (by simp[vP])) p1 (hB.is (i:=3) rfl) q1;unfold cBk at e;rw[p2 0 (by omega),p2 1 (by omega),p2 2 (by omega),q2 0 (by omega),q2 1 (by omega),q2 2 (by omega)]at e;exact e
theorem amY(h:At t a (Ak 3 b++l))(hz:Z0 z):Lf t 190 [] (.agg (fC 3 (cX 3 (rd b)) 0)) (a+1) 11 z z:=by
 have hB:At t (a+1) (vP b 0++((kP [44]::(vP b 3++(kP [44]::vP b 6)))++l)):=h.2;have hC:At t (a+1+4) (vP b 3++((kP [44]::vP b 6)++l)):=(At.app (x:=vP b 0++[kP [44]]) (y:=vP b 3++((kP [44]::vP b 6)++l)) hB).2;have hD:At t (a+1+8) (vP b 6++l):=(At.app (x:=vP b 0++[kP [44]]++vP b 3++[kP [44]]) (y:=vP b 6++l) hB).2;obtain⟨p1,p2⟩:=qA hB hz;obtain⟨q1,q2⟩:=qA hC hz;obtain⟨r1,r2⟩:=qA hD hz;have e:=ad5 (hB.has 11 (by simp[vP])) p1 (hB.is (i:=3) rfl) q1 (hB.is (i:=7) rfl) r1;unfold cTr at e;rw[p2 0 (by omega),p2 1 (by omega),p2 2 (by omega),q2 0 (by omega),q2 1 (by omega),q2 2 (by omega),r2 0 (by omega),r2 1 (by omega),r2 2 (by omega)]at e;exact e
theorem Wt{w u:List UInt8}{k:Int}(h:At t a (Vt w u b++l))(hz:Z0 z):Lf t 220 [iA k,zA (lB u)] (.agg (fC k (t4 (rd b)) 0)) (a+1) 9 z z/\UR t z yI k (a+1)=fC k (t4 (rd b)) 0:=by
 have hB:At t (a+1) (vP b 0++((kP u::(vP b 3++[kP Lp,nP (b 9)]))++l)):=h.2;have hC:At t (a+1+4) (vP b 3++([kP Lp,nP (b 9)]++l)):=(At.app (x:=vP b 0++[kP u]) (y:=vP b 3++([kP Lp,nP (b 9)]++l)) hB).2;obtain⟨p1,p2⟩:=qA hB hz;obtain⟨q1,q2⟩:=ad2 hC;have e:=Cr (k:=k) (hB.has 9 (by simp[vP])) p1 (hB.is (i:=3) rfl) q1 (hB.is (i:=7) rfl) (hB.num (i:=8) rfl (Cq _))
 have ec:UR t z yI k (a+1)=fC k (t4 (rd b)) 0:=by
  have q0:fN t yI (a+1+4)=dW (b 3):=q2 0 (by omega);have q1:fN t yI (a+1+5)=dW (b 4):=q2 1 (by omega);have q3:fN t yI (a+1+6)=dW (b 5):=q2 2 (by omega);unfold UR;rw[p2 0 (by omega),p2 1 (by omega),p2 2 (by omega),q0,q1,q3,MR hB (i:=8) rfl];rfl
 rw[ec]at e;exact⟨e,ec⟩
theorem amZ(h:At t a (Ak 4 b++l))(hz:Z0 z):Lf t 191 [] (.agg (fC 4 (cX 4 (rd b)) 0)) (a+1) 9 z z:=by
 have h:At t a (Vt [112,108,97,116,101] [117,112] b++l):=h;obtain⟨e,ec⟩:=Wt (k:=4) h hz;have:=Wu (t:=t) (z:=z) (a:=a+1) (by rw[ec];exact e);rw[ec]at this;exact this
theorem ad6(h:At t a (Ak 5 b++l))(hz:Z0 z):Lf t 189 [] (.agg (fC 5 (cX 5 (rd b)) 0)) (a+1) 9 z z:=by
 have h:At t a (Vt [116,117,98,101] [97,108,111,110,103] b++l):=h;obtain⟨e,ec⟩:=Wt (k:=5) h hz;have:=aa5 (t:=t) (z:=z) (a:=a+1) (by rw[ec];exact e);rw[ec]at this;exact this
theorem am0(h:At t a (Ak 6 b++l))(hz:Z0 z):Lf t 192 [] (.agg (fC 6 (cX 6 (rd b)) 0)) (a+1) 10 z z:=by
 have h:At t a (Vt [114,105,110,103] [117,112] b++([nP (b 10)]++l)):=by
  have h:At t a ((Vt [114,105,110,103] [117,112] b++[nP (b 10)])++l):=h
  rwa [aiR]at h
 obtain⟨e,ec⟩:=Wt (k:=6) h hz;have hB:At t (a+1) (vP b 0++((kP [117,112]::(vP b 3++[kP Lp,nP (b 9)]))++([nP (b 10)]++l))):=h.2;have:=aa6 (t:=t) (z:=z) (a:=a+1) (by rw[ec];exact e) ⟨by have:=(hB.has 10 (by simp[vP])).1;omega,hB.le.2⟩ (hB.num (i:=9) rfl (Cq _))
 have er:cRi t z yI (a+1)=fC 6 (cX 6 (rd b)) 0:=by
  have h10:fN t yI (a+1+9)=dW (b 10):=MR hB (i:=9) rfl;have hC:At t (a+1+4) (vP b 3++([kP Lp,nP (b 9)]++([nP (b 10)]++l))):=(At.app (x:=vP b 0++[kP [117,112]]) (y:=vP b 3++([kP Lp,nP (b 9)]++([nP (b 10)]++l))) hB).2;obtain⟨p1,p2⟩:=qA hB hz;obtain⟨q1,q2⟩:=ad2 hC;have q0:fN t yI (a+1+4)=dW (b 3):=q2 0 (by omega);have q1:fN t yI (a+1+5)=dW (b 4):=q2 1 (by omega);have q3:fN t yI (a+1+6)=dW (b 5):=q2 2 (by omega);unfold cRi;rw[h10,p2 0 (by omega),p2 1 (by omega),p2 2 (by omega),q0,q1,q3,MR hB (i:=8) rfl];rfl
 rw[er]at this;exact this
theorem am1{k:Int}(hk:1<=k/\k<=6)(h:At t a (Ak k b++l))(hz:Z0 z):Sd t z a k (cX k (rd b)) (Ak k b).length:=by
 have hk':k=1\/k=2\/k=3\/k=4\/k=5\/k=6:=by omega
 rcases hk' with rfl |rfl |rfl |rfl |rfl |rfl
 .exact .ba (h.has 1 (by simp[Ak])) (h.is (i:=0) rfl) (ad3 h hz)
 .exact .bk (h.has 1 (by simp[Ak])) (h.is (i:=0) rfl) (ad4 h hz)
 .exact .tr (h.has 1 (by simp[Ak])) (h.is (i:=0) rfl) (amY h hz)
 .exact .pl (h.has 1 (by simp[Ak,Vt])) (h.is (i:=0) rfl) (amZ h hz)
 .exact .tu (h.has 1 (by simp[Ak,Vt])) (h.is (i:=0) rfl) (ad6 h hz)
 .exact .ri (h.has 1 (by simp[Ak,Vt])) (h.is (i:=0) rfl) (am0 h hz)
theorem Z0.set(hz:Z0 z){i:Nat}(hi:i<24\/26<i)(x:Int):Z0 (dw z i x):=by
 have key:∀q,24<=q->q<=26->dw z i x q=z q:=λ q h1 h2=>by
  unfold dw
  rw[show ax0 q i=false from by
   cases hb:ax0 q i
   .rfl
   .have:=axO hb;omega]
  rfl
 exact⟨(key 24 (by omega) (by omega)).trans hz.1,(key 25 (by omega) (by omega)).trans hz.2.1,(key 26 (by omega) (by omega)).trans hz.2.2⟩
theorem am2{k:Int}(hk:k=1\/k=2\/k=5)(h:At t a (Ak k b++l))(hz:Z0 z):aaN t z a k (cX k (rd b)) (Ak k b).length:=by
 rcases hk with rfl |rfl |rfl
 .exact .ba (h.has 1 (by simp[Ak])) (h.is (i:=0) rfl) λ x=>ad3 h (hz.set (aaH (by omega)) x)
 .exact .bk (h.has 1 (by simp[Ak])) (h.is (i:=0) rfl) λ x=>ad4 h (hz.set (aaH (by omega)) x)
 .exact .tu (h.has 1 (by simp[Ak,Vt])) (h.is (i:=0) rfl) λ x=>ad6 h (hz.set (aaH (by omega)) x)
end
variable{P:Nat->dM}
def UA(P:Nat->dM)(k:Nat):Int:=(sd P (k+1)).1 k
def Ls(P:Nat->dM)(k:Nat):Int:=(sd P (k+1)).2 k
theorem EM{j:Nat}:∀{n:Nat},j<n->(sd P n).1 j=UA P j/\(sd P n).2 j=Ls P j:=fun{n} h=>by
 induction n with
 |zero=>omega
 |succ n ih =>
  by_cases hj:j=n
  .subst hj;exact⟨rfl,rfl⟩
  .obtain⟨h1,h2⟩:=ih (by omega)
   rw[kU];by_cases h0:(P n).op=0
   .rw[if_pos h0]
    exact⟨by show upd _ n 1 j=_;unfold upd;rw[if_neg hj];exact h1,h2⟩
   .rw[if_neg h0]
    exact⟨by show upd _ n _ j=_;unfold upd;rw[if_neg hj];exact h1,by show upd _ n _ j=_;unfold upd;rw[if_neg hj];exact h2⟩
theorem YA:∀(j q:Nat),j<=q->(sd P j).2 q=0
 | 0,_,_=>rfl
 |j+1,q,h=>by
  rw[kU];split
  .exact YA j q (by omega)
  .show upd _ j _ q=0
   unfold upd;rw[if_neg (by omega)];exact YA j q (by omega)
theorem Le{k:Nat}(h0:(P k).op=0):UA P k=1/\Ls P k=0:=by
 unfold UA Ls;rw[kU,if_pos h0];exact⟨if_pos rfl,YA k k (ao5 _)⟩
theorem Du{k:Nat}(h0:(P k).op≠0)(l0:0<=(P k).l)(l1:(P k).l<(k:Nat))(_:0<=(P k).r)(r1:(P k).r<(k:Nat)):UA P k=1+(UA P (P k).l.toNat+UA P (P k).r.toNat)/\Ls P k=1+mx (Ls P (P k).l.toNat) (Ls P (P k).r.toNat):=by
 obtain⟨a1,a2⟩:=EM (P:=P) (j:=(P k).l.toNat) (n:=k) (by omega);obtain⟨b1,b2⟩:=EM (P:=P) (j:=(P k).r.toNat) (n:=k) (by omega);rw[<-a1,<-a2,<-b1,<-b2];unfold UA Ls;rw[kU,if_neg h0];exact⟨if_pos rfl,if_pos rfl⟩
theorem aho(k:Nat):0<=UA P k:=(qm P (k+1) k).1.1
theorem OI(k:Nat):0<=Ls P k:=(qm P (k+1) k).2.1
theorem adw{a b M:Int}(h:mx a b<=M):a<=M/\b<=M:=by unfold mx at h;split at h<;>omega
def sw(p:dM):dM:=if p.op=0 then⟨0,0,0,p.k,cX p.k (rd p.a),0⟩else⟨p.op,p.l,p.r,0,λ _=>0,0⟩
theorem IJ{n k:Nat}(hP:PM n P)(hk:k<n):1<=UA P k:=by
 by_cases h0:(P k).op=0
 .rw[(Le h0).1];omega
 .rcases hP k hk with h | ⟨_,h2,h3⟩
  .exact absurd h h0
  .rw[(Du h0 h2.1 h2.2 h3.1 h3.2).1]
   have:=aho (P:=P) (P k).l.toNat;have:=aho (P:=P) (P k).r.toNat;omega
theorem Yn{t:Tk}{z:Nat->Int}{n:Nat}(hn:n<=16)(hP:PM n P)(hz:Z0 z)(hS:∀i,i<n->(P i).op=0->(P i).k=1\/(P i).k=2\/(P i).k=5):∀(f k:Nat) (fr:Nat) (d a:Nat) (l:List TP),k<f->k<n->fr<=k->(∀j,fr<=j->j<=k->okJ P j)->UA P k=(k:Int) - fr+1->Ls P k<=(d:Nat) ->
  At t a (BG P f k++l)->Vh t z (λ i=>sw (P i)) d a fr (a+(BG P f k).length) (k+1)
 | 0,_,_,_,_,_,h,_,_,_,_,_,_=>absurd h (azu _)
 |f+1,k,fr,d,a,l,hf,hk,hfr,hok,hsz,hd,hA=>by
  by_cases h0:(P k).op=0
  .have e:fr=k:=by have:=(Le h0).1;omega
   subst e;have ep:BG P (f+1) fr=Ak (P fr).k (P fr).a:=by show(if _ then _ else _)=_;rw[if_pos h0]
   rw[ep]at hA ⊢;exact .leaf (am2 (hS fr hk h0) hA hz) (by show sw _=_;unfold sw;rw[if_pos h0]) (by omega)
  .have ep:BG P (f+1) k=[kP (y7 (P k).op),kP [123]]++(BG P f (P k).l.toNat++(BG P f (P k).r.toNat++[kP [125]])):=by show(if _ then _ else _)=_;rw[if_neg h0]
   rcases hP k hk with h | ⟨ho,hl,hr⟩
   .exact absurd h h0
   obtain⟨_,hj⟩:=hok k hfr (ao5 _);rcases hj with h | ⟨er,el⟩
   .exact absurd h h0
   obtain⟨s1,s2⟩:=Du h0 hl.1 hl.2 hr.1 hr.2;have hkp:0<k:=by omega
   rw[show(sd P k).1 (k - 1)=UA P (k - 1) from(EM (by omega)).1]at el;have er2:(P k).r.toNat=k - 1:=by omega
   have hlk:(P k).l.toNat<n:=by omega
   have p1:=IJ hP hlk;rw[er2]at s1 s2;have hl2:fr<=(P k).l.toNat:=by omega
   obtain⟨d',rfl⟩:∃d',d=d'+1:=⟨d - 1,by have:=OI (P:=P) (k - 1);have:=OI (P:=P) (P k).l.toNat;have:0<=mx (Ls P (P k).l.toNat) (Ls P (k - 1)):=by{ unfold mx;split<;>omega };omega⟩;obtain⟨m1,m2⟩:=adw (a:=Ls P (P k).l.toNat) (b:=Ls P (k - 1)) (M:=(d':Nat)) (by omega);rw[ep,er2]at hA ⊢
   have hA0:At t a ([kP (y7 (P k).op),kP [123]]++(BG P f (P k).l.toNat++(BG P f (k - 1)++([kP [125]]++l)))):=by
    simpa only[aiR]using hA
   have hA1:At t (a+2) (BG P f (P k).l.toNat++(BG P f (k - 1)++([kP [125]]++l))):=hA0.app.2;have hA2:=hA1.app.2;have hA3:=hA2.app.2;have L:=Yn hn hP hz hS f (P k).l.toNat fr d' (a+2) _ (by omega) hlk hl2 (λ j h1 h2=>hok j h1 (by omega)) (by omega) m1 hA1;have R:=Yn hn hP hz hS f (k - 1) ((P k).l.toNat+1) d' _ _ (by omega) (by omega) (by have:=IJ (P:=P) hP (show k - 1<n by omega);omega) (λ j h1 h2=>hok j (by omega) (by omega)) (by omega) m2 hA2;have eR:k - 1+1=k:=by omega
   rw[eR]at R
   have hop:((P k).op=1/\Is t a wBo)\/((P k).op=2/\Is t a wEi)\/((P k).op=3/\Is t a wLe):=by
    have hi:Is t a (y7 (P k).op):=hA0.is (i:=0) rfl;have ho':(P k).op=1\/(P k).op=2\/(P k).op=3:=by omega
    rcases ho' with h |h |h
    .rw[h]at hi;exact ER ⟨h,hi⟩
    .rw[h]at hi;exact aaH (ER ⟨h,hi⟩)
    .rw[h]at hi;exact aaH (aaH ⟨h,hi⟩)
   have N:=Vh.node hop (hA0.has 2 (by simp)) (hA0.is (i:=1) rfl) L R (hA3.has 1 (by simp)) (hA3.is (i:=0) rfl) (by
    show sw _=_;unfold sw;rw[if_neg h0];have e1:(P k).l=(((P k).l.toNat+1 - 1:Nat):Int):=by omega
    have e2:(P k).r=((k - 1:Nat):Int):=by omega
    rw[<-e1,<-e2]) (by omega)
   have akz:a+([kP (y7 (P k).op),kP [123]]++(BG P f (P k).l.toNat++(BG P f (k - 1)++[kP [125]]))).length=a+2+(BG P f (P k).l.toNat).length+(BG P f (k - 1)).length+1:=by
    simp only[uI,anE,arB];omega
   rw[akz];exact N
end Go.Proofs.YtefphimaggjihaaGreatDoor.Pi.Rd
namespace Go.Proofs.YtefphimaggjihaaGreatDoor.Pi.Rd
open Go.Shelf Go.RowKit Go.Gv
open Hs.So (dM pJ)
open Hs (fC)
open Hs.Sc (fT)
def Wn(m:Int)(x:Int):Prop:=∃k:Nat,x=(k:Int)/\(k:Int)<=m
theorem X8{m x:Int}(h:Wn m x)(hm:m<=100000000):apc m (ala x,x):=by
 obtain⟨k,rfl,hk⟩:=h;exact ape hk hm
section
variable{t:Tk}{a:Nat}{z:Nat->Int}{c:Ct}{l:List TP}
theorem agG{i0:Nat}{f:Nat->Int}{m:Int}(h:At t a l)(h0:l[i0]?=some (ala (f 0),f 0))(h1:l[i0+1]?=some (ala (f 1),f 1))(h2:l[i0+2]?=some (ala (f 2),f 2))(hf:∀q,q<3->Wn m (f q))(hm:m<=100000000):∀i,i<3->BL t m (a+i0+i):=λ i hi=>by
 match i,hi with
 | 0,_=>exact h.who h0 (X8 (hf 0 (by omega)) hm)
 | 1,_=>exact h.who h1 (X8 (hf 1 (by omega)) hm)
 | 2,_=>exact h.who h2 (X8 (hf 2 (by omega)) hm)
structure abw(c:Ct)(j:Nat):Prop where
 n:c.nN=j
 few:j<=16
 N:∀q,c.N q=lB (oK (q:Nat))
theorem apJ{x y:List UInt8}(h:lB x=lB y):x=y:=by
 have:=congrArg bL h
 rwa [jr,jr]at this
theorem aaq{j k:Nat}(hj:j<1000000000)(hk:k<1000000000)(h:j≠k):lB (oK (j:Nat))≠lB (oK (k:Nat)):=λ e=>by
 have:=apJ e;unfold oK at this;simp only[List.cons.injEq,true_and]at this;exact h (apv hj hk this)
theorem X9{j w:Nat}{i:Nat}(hc:abw c j)(h:At t a l)(hp:l[i]?=some (Lm (w:Nat)))(hw:w<j):Nam t c (a+i) w:=by
 have e:t.T (a+i)=lB (oK (w:Nat)):=(h.get hp).1;have hf:=hc.few;exact⟨by have:=hc.n;omega,by rw[e];exact aak (by omega),by rw[hc.n];exact hw,by rw[e];exact hc.N w,λ q hq=>by rw[e,hc.N];exact aaq (by omega) (by omega) (by omega)⟩
theorem afA{e:Nat->Nat}(h:At t a (eyP e++([kP [59]]++l)))(hz:Z0 z)(h23:z 23=0)(h21:z 21=0)(hm:aj bW 16 [.agg (eyK [dW (e 0),dW (e 1),dW (e 2),dW (e 3),dW (e 4),dW (e 5),dW (e 6),dW (e 7),dW (e 8),dW (e 9)])] (iA 0)) :
  Stp t a z c (a+15) (dw z 21 1) (abz c [dW (e 0),dW (e 1),dW (e 2),dW (e 3),dW (e 4),dW (e 5),dW (e 6),dW (e 7),dW (e 8),dW (e 9)]):=by
 have hB:At t (a+1) (vP e 0++((kP [116,111]::(vP e 3++(kP [117,112]::(vP e 6++[kP [119,105,100,101],nP (e 9)]))))++([kP [59]]++l))):=h.2;have hC:At t (a+1+4) (vP e 3++((kP [117,112]::(vP e 6++[kP [119,105,100,101],nP (e 9)]))++([kP [59]]++l))):=(At.app (x:=vP e 0++[kP [116,111]]) hB).2;have hD:At t (a+1+8) (vP e 6++([kP [119,105,100,101],nP (e 9)]++([kP [59]]++l))):=(At.app (x:=vP e 0++[kP [116,111]]++vP e 3++[kP [117,112]]) hB).2;have hz1:Z0 (dw z 21 1):=hz.set (ER (by omega)) 1;obtain⟨p1,p2⟩:=qA hB hz1;obtain⟨q1,q2⟩:=qA hC hz1;obtain⟨r1,r2⟩:=ad2 hD;have r20:fN t yI (a+1+8)=dW (e 6):=r2 0 (by omega);have r21:fN t yI (a+1+9)=dW (e 7):=r2 1 (by omega);have r22:fN t yI (a+1+10)=dW (e 8):=r2 2 (by omega)
 have e4:ey4 t z yI (a+1)=[dW (e 0),dW (e 1),dW (e 2),dW (e 3),dW (e 4),dW (e 5),dW (e 6),dW (e 7),dW (e 8),dW (e 9)]:=by
  unfold ey4;rw[p2 0 (by omega),p2 1 (by omega),p2 2 (by omega),q2 0 (by omega),q2 1 (by omega),q2 2 (by omega),r20,r21,r22,MR hB (i:=12) rfl]
 have g:=JK (c:=c) (hB.has 14 (by simp[vP])) h23 h21 p1 (hB.is (i:=3) rfl) q1 (hB.is (i:=7) rfl) r1 (hB.is (i:=11) rfl) (hB.num (i:=12) rfl (Cq _)) (hB.is (i:=13) rfl) (by rw[e4];exact hm);rw[e4]at g;exact alB (h.has 1 (by simp[eyP])) (h.is (i:=0) rfl) (by rfl) (abm (h.has 1 (by simp[eyP])) (h.is (i:=0) rfl) g)
theorem afB{f:Nat->Int}(h:At t a (Jc f++([kP [59]]++l)))(h23:z 23=0)(h22:z 22=0)(hf:∀q,q<3->Wn 65536 (f q)):Stp t a z c (a+5) (dw z 22 1) { c with jE:=λ q=>t.N (a+1+q) }:=by
 have hB:At t (a+1) (hP f++([kP [59]]++l)):=h.2;have g:=afV (c:=c) (hB.has 4 (by simp[hP])) h23 h22 (agG hB (i0:=0) rfl rfl rfl hf (by omega)) (hB.is (i:=3) rfl);exact alB (h.has 1 (by simp[Jc])) (h.is (i:=0) rfl) (by rfl) (abn (h.has 1 (by simp[Jc])) (h.is (i:=0) rfl) g)
theorem abx{f g k:Nat->Int}{bd:Int}{j:Nat}(h:At t a (skP f g k bd (j:Nat)++([kP [59]]++l)))(h23:z 23=0)(hc:abw c j)(hj:j<16)(hk:c.nK<1000)(hf:∀q,q<3->Wn 1000 (f q))(hg:∀q,q<3->Wn 1000 (g q))(hh:∀q,q<3->Wn 1000 (k q))(hb:bd.natAbs<=1000000)
  (hm:aj bW 18 [.agg (ZB [f 0,f 1,f 2,g 0,g 1,g 2,k 0,k 1,k 2,bd])] (iA 0)) (hx:c.K c.nK=ZB [f 0,f 1,f 2,g 0,g 1,g 2,k 0,k 1,k 2,bd]) (hmx:∀q,q<=c.nK->Mx (c.K q) (ZB [f 0,f 1,f 2,g 0,g 1,g 2,k 0,k 1,k 2,bd])) :
  Stp t a z c (a+17) z { c with nN:=c.nN+1,nK:=c.nK+1 }:=by
 have hB:At t (a+1) ([Lm (j:Nat),kP W2]++((hP f++(kP W3::(hP g++(kP W4::(hP k++[kP W5,(cK bd,bd)])))))++([kP [59]]++l))):=h.2;have e:t.T (a+1)=lB (oK (j:Nat)):=hB.1.1
 have e4:sk4 t (a+1)=[f 0,f 1,f 2,g 0,g 1,g 2,k 0,k 1,k 2,bd]:=by
  have n:=λ(i:Nat) (x:TP) (hp:_=some x)=>(hB.get (i:=i) (p:=x) hp).2;have n0:t.N (a+1+2)=f 0:=n 2 _ rfl;have n1:t.N (a+1+3)=f 1:=n 3 _ rfl;have n2:t.N (a+1+4)=f 2:=n 4 _ rfl;have n3:t.N (a+1+6)=g 0:=n 6 _ rfl;have n4:t.N (a+1+7)=g 1:=n 7 _ rfl;have n5:t.N (a+1+8)=g 2:=n 8 _ rfl;have n6:t.N (a+1+10)=k 0:=n 10 _ rfl;have n7:t.N (a+1+11)=k 1:=n 11 _ rfl;have n8:t.N (a+1+12)=k 2:=n 12 _ rfl;have n9:t.N (a+1+14)=bd:=n 14 _ rfl;unfold sk4;rw[n0,n1,n2,n3,n4,n5,n6,n7,n8,n9]
 have s:=abI (c:=c) (hB.has 16 (by simp[hP])) h23 (by rw[e];exact aak (by omega)) (λ q hq=>by rw[e,hc.N];have:=hc.n;exact aaq (by omega) (by omega) (by omega)) (by have:=hc.n;omega) hk (hB.is (i:=1) rfl) (agG hB (i0:=2) rfl rfl rfl hf (by omega)) (hB.is (i:=5) rfl) (agG hB (i0:=6) rfl rfl rfl hg (by omega)) (hB.is (i:=9) rfl) (agG hB (i0:=10) rfl rfl rfl hh (by omega)) (hB.is (i:=13) rfl) (hB.num (i:=14) rfl (Wq hb)) (hB.is (i:=15) rfl) (by rw[e4];exact hm);rw[e4]at s;exact auC (h.has 1 (by simp[skP])) (h.is (i:=0) rfl) (by rfl) (WW (h.has 1 (by simp[skP])) (h.is (i:=0) rfl) s) hx hmx (by rw[e,hc.N,hc.n])
theorem aby{b:Nat->Nat}{f:Nat->Int}(h:At t a (lmP b f++([kP [59]]++l)))(hz:Z0 z)(hf:∀q,q<3->Wn 65536 (f q))(hn:c.nL<4)(hx:c.L c.nL=lmK (dW (b 0)) (dW (b 1)) (dW (b 2)) (f 0) (f 1) (f 2))(hmx:∀q,q<=c.nL->Mx (c.L q) (lmK (dW (b 0)) (dW (b 1)) (dW (b 2)) (f 0) (f 1) (f 2))):Stp t a z c (a+9) z { c with nL:=c.nL+1 }:=by
 have hB:At t (a+1) (vP b 0++((kP [108,105,103,104,116]::hP f)++([kP [59]]++l))):=h.2;obtain⟨p1,p2⟩:=qA hB hz
 have e2:lm2 t z yI (a+1)=lmK (dW (b 0)) (dW (b 1)) (dW (b 2)) (f 0) (f 1) (f 2):=by
  have n0:t.N (a+1+4)=f 0:=(hB.get (i:=4) rfl).2;have n1:t.N (a+1+5)=f 1:=(hB.get (i:=5) rfl).2;have n2:t.N (a+1+6)=f 2:=(hB.get (i:=6) rfl).2;unfold lm2;rw[n0,n1,n2,p2 0 (by omega),p2 1 (by omega),p2 2 (by omega)]
 have g:=abH (c:=c) (hB.has 8 (by simp[vP,hP])) p1 (hB.is (i:=3) rfl) (agG hB (i0:=4) rfl rfl rfl hf (by omega)) (hB.is (i:=7) rfl) hn;rw[e2]at g;exact auz (h.has 1 (by simp[lmP])) (h.is (i:=0) rfl) (by rfl) (WX (h.has 1 (by simp[lmP])) (h.is (i:=0) rfl) g) hx hmx
end
section
variable{t:Tk}{a:Nat}{z:Nat->Int}{c:Ct}{l:List TP}
theorem ag9{k:Int}{b:Nat->Nat}(hk:1<=k/\k<=6):∃w,(∀r,(Ak k b++r)[0]?=some (w,0))/\Not w:=by
 have hk':k=1\/k=2\/k=3\/k=4\/k=5\/k=6:=by omega
 rcases hk' with rfl |rfl |rfl |rfl |rfl |rfl
 .exact⟨BS,λ _=>rfl,by rfl⟩
 .exact⟨BU,λ _=>rfl,by rfl⟩
 .exact⟨EN,λ _=>rfl,by rfl⟩
 .exact⟨EO,λ _=>rfl,by rfl⟩
 .exact⟨BZ,λ _=>rfl,by rfl⟩
 .exact⟨EP,λ _=>rfl,by rfl⟩
theorem Xq{k:Int}{b:Nat->Nat}{j w:Nat}(hk:1<=k/\k<=6)(h:At t a (Ak k b++([Lm (w:Nat)]++([kP [59]]++l))))(hz:Z0 z)(hc:abw c j)(hw:w<j)(hn:c.nS<64)(hm:aj bW 98 [.agg (fC k (cX k (rd b)) (w:Nat))] (iA 0))
  (hx:c.S c.nS=fC k (cX k (rd b)) (w:Nat)) (hmx:∀q,q<=c.nS->Mx (c.S q) (fC k (cX k (rd b)) (w:Nat))):Stp t a z c (a+(Ak k b).length+2) z { c with nS:=c.nS+1 }:=by
 obtain⟨w',f1,f2⟩:=ag9 (b:=b) hk;have hB:=h.app.2;have hle:1<=(Ak k b++([Lm (w:Nat)]++([kP [59]]++l))).length:=by simp only[uI,anE];omega
 have g:=Tc (c:=c) (w:=w) (am1 hk h hz) (hB.has 2 (by simp)) (X9 (i:=0) hc hB rfl hw) (hB.is (i:=1) rfl) hm hn;exact auy (h.has 1 hle) (h.is (i:=0) (f1 _)) f2 g hx hmx
theorem aky{i:Nat}{x:Int}(h:z i=x):dw z i x=z:=by
 funext q;unfold dw;cases hb:ax0 q i
 .rfl
 .rw[axO hb];exact h.symm
theorem Xr{n:Nat}{P:Nat->dM}{j w:Nat}(h1:1<=n)(hn:n<=16)(hP:PM n P)(har:Fg n P=true)(hS:∀i,i<n->(P i).op=0->(P i).k=1\/(P i).k=2\/(P i).k=5)(h:At t a (soP n P++([Lm (w:Nat)]++([kP [59]]++l))))(hz:Z0 z)(h28:z 28=0)(hc:abw c j)(hw:w<j)(hO:c.nO<8)
  (hm:aj bW 99 [.agg (Vs n (λ i=>sw (P i)) (w:Nat))] (iA 0)) (hx:c.O c.nO=Vs n (λ i=>sw (P i)) (w:Nat)) (hmx:∀q,q<=c.nO->Mx (c.O q) (Vs n (λ i=>sw (P i)) (w:Nat))):Stp t a z c (a+(soP n P).length+2) z { c with nO:=c.nO+1 }:=by
 have es:soP n P=kP soW::BG P n (n - 1):=by unfold soP;rw[har];rfl
 have ha:arP n P:=by
  unfold Fg at har;exact @of_decide_eq_true _ (_) har
 rw[es]at h ⊢;have hA:At t (a+1) (BG P n (n - 1)++([Lm (w:Nat)]++([kP [59]]++l))):=h.2;have hB:=hA.app.2;have e1:n - 1+1=n:=by omega
 have hsz:UA P (n - 1)=(n:Nat):=by unfold UA;rw[e1];exact ha.2.1
 have hdp:Ls P (n - 1)<=(3:Nat):=by unfold Ls;rw[e1];exact ha.2.2
 have hp:=EY (Yn hn hP hz hS n (n - 1) 0 3 (a+1) _ (by omega) (by omega) (by omega) (λ j _ hj=>ha.1 j (by omega)) (by omega) hdp hA) 0 (by omega) (by decide);rw[e1,aky h28]at hp;have g:=SY (t:=t) (z:=z) (c:=c) (h.has 1 (by simp)) (h.is (i:=0) rfl) (WK hp (hB.has 2 (by simp)) (X9 (i:=0) hc hB rfl hw) (hB.is (i:=1) rfl) hm hO);have el:a+(kP soW::BG P n (n - 1)).length+2=a+1+(BG P n (n - 1)).length+2:=by rw[anE];omega
 rw[el];exact auB (h.has 1 (by simp)) (h.is (i:=0) rfl) (by rfl) g hx hmx
theorem UC{W:Nat}{i:Nat}(h:At t a l)(hp:l[i]?=some (ala (W:Int),(W:Int)*1000))(hW:W<=8):Lf t 217 [iA 8] (iA (W:Nat)) (a+i) 1 z z:=by
 have e:t.N (a+i)=(W:Int)*1000:=(h.get hp).2;have hl:i<l.length:=(List.getElem?_eq_some_iff.1 hp).1;have:=Xe (m:=8) z ⟨by have:=h.le.1;omega,h.le.2⟩ (h.num hp (apd (by omega))) (by rw[e,Int.mul_tmod_left]) (by rw[e];omega) (by rw[e];omega) (by omega);rw[e,Int.mul_tdiv_cancel _ (by omega)]at this;exact this
theorem alM{hs:Nat->Int}{n q:Nat}(hq:q<n)(r:List TP):(hiP hs n++r)[q]?=some (cK (hs q),hs q):=by
 unfold hiP;rw[List.getElem?_append_left (by simpa using hq),azh,List.getElem?_range hq];rfl
theorem Xt{F:Hs.Fm.Fd}{W H j w:Nat}(eW:F.W=(W:Nat))(eH:F.H=(H:Nat))(hW:W<=8)(hH:H<=8)(hWH:W*H=F.n)(hh:∀q,q<F.n->(F.hs q).natAbs<=1000000)(h:At t a (Y8 F++([Lm (w:Nat)]++([kP [59]]++l))))(hz:Z0 z)(hc:abw c j)(hw:w<j)(hF:c.nF<2)
  (hm:aj bW 100 [.agg (yx F.W F.H (dW (F.at_ 0)) (dW (F.at_ 1)) (dW (F.at_ 2)) (dW F.sd) (slI F.n F.hs) (w:Nat))] (iA 0))
  (hx:c.F c.nF=yx F.W F.H (dW (F.at_ 0)) (dW (F.at_ 1)) (dW (F.at_ 2)) (dW F.sd) (slI F.n F.hs) (w:Nat)) (hmx:∀q,q<=c.nF->Mx (c.F q) (yx F.W F.H (dW (F.at_ 0)) (dW (F.at_ 1)) (dW (F.at_ 2)) (dW F.sd) (slI F.n F.hs) (w:Nat))):Stp t a z c (a+(Y8 F).length+2) z { c with nF:=c.nF+1 }:=by
 have hn:F.n<=64:=by rw[<-hWH];exact azQ hW hH
 have akz:(Y8 F).length=10+F.n:=by unfold Y8 hiP vP;simp;omega
 have hA:At t (a+1) ([(ala F.W,F.W*1000),(ala F.H,F.H*1000),kP [97,116]]++(vP F.at_ 0++([kP [115,105,100,101],nP F.sd,kP [104,105,103,104]]++(hiP F.hs F.n++([Lm (w:Nat)]++([kP [59]]++l)))))):=by
  have e:Y8 F++([Lm (w:Nat)]++([kP [59]]++l))=kP [102,105,101,108,100]::([(ala F.W,F.W*1000),(ala F.H,F.H*1000),kP [97,116]]++(vP F.at_ 0++([kP [115,105,100,101],nP F.sd,kP [104,105,103,104]]++(hiP F.hs F.n++([Lm (w:Nat)]++([kP [59]]++l)))))):=by
   unfold Y8;simp only[List.cons_append,aBR,aiR]
  rw[e]at h;exact h.2
 have hP:At t (a+1+3) (vP F.at_ 0++([kP [115,105,100,101],nP F.sd,kP [104,105,103,104]]++(hiP F.hs F.n++([Lm (w:Nat)]++([kP [59]]++l))))):=hA.app.2;have hH':At t (a+1+9) (hiP F.hs F.n++([Lm (w:Nat)]++([kP [59]]++l))):=(At.app (x:=[(ala F.W,F.W*1000),(ala F.H,F.H*1000),kP [97,116]]++vP F.at_ 0++[kP [115,105,100,101],nP F.sd,kP [104,105,103,104]]) hA).2
 have hN':At t (a+1+9+F.n) ([Lm (w:Nat)]++([kP [59]]++l)):=by
  have:=hH'.app.2;have e:(hiP F.hs F.n).length=F.n:=by unfold hiP;simp
  rwa [e]at this
 obtain⟨p1,p2⟩:=qA hP hz;have hpt:=sH (hP.has 3 (by simp[vP])) p1;unfold ptV at hpt;have hpt:Lf t 210 [] (vA (fS t z yI (a+1+3) 0) (fS t z yI (a+1+3) 1) (fS t z yI (a+1+3) 2)) (a+1+3) 3 z z:=hpt;rw[p2 0 (by omega),p2 1 (by omega),p2 2 (by omega)]at hpt;have hfl:=CB (t:=t) (a:=a+1+7) z ⟨by have:=hN'.le.1;omega,hN'.le.2⟩ (hA.num (i:=7) rfl (Cq F.sd));have hfl:Lf t 212 [] (.f (fN t yI (a+1+7))) (a+1+7) 1 z z:=hfl;rw[MR hA (i:=7) rfl]at hfl;obtain⟨K,k1,k2⟩:∃K:Nat->Int,K (a+1)=(W:Int)/\K (a+1+1)=(H:Int):=⟨λ q=>if q=a+1 then W else H,if_pos rfl,if_neg (by omega)⟩
 have c1:Lf t 217 [iA 8] (iA (K (a+1))) (a+1) 1 z z:=by rw[k1];exact UC hA (i:=0) (by rw[eW];rfl) hW
 have c2:Lf t 217 [iA 8] (iA (K (a+1+1))) (a+1+1) 1 z z:=by rw[k2];exact UC hA (i:=1) (by rw[eH];rfl) hH
 have hle:1<=(Y8 F++([Lm (w:Nat)]++([kP [59]]++l))).length:=by rw[uI,akz];omega
 have g:=Cy (c:=c) (K:=K) (n:=F.n) (w:=w) (hv:=F.hs) ⟨by have:=hN'.le.1;simp at this;omega,hN'.le.2⟩ c1 c2 (by rw[k1,k2,<-hWH];simp) (by omega) (hA.is (i:=2) rfl) hpt (hA.is (i:=6) rfl) hfl (hA.is (i:=8) rfl) (λ q hq=>⟨hH'.num (alM hq _) (Wq (hh q hq)),((hH'.get (alM hq _)).2).symm⟩) (X9 (i:=0) hc hN' rfl hw) (hN'.is (i:=1) rfl) (by rw[k1,k2,<-eW,<-eH];exact hm) hF;rw[k1,k2,<-eW,<-eH]at g;have e:a+1+9+F.n+2=a+(Y8 F).length+2:=by rw[akz];omega
 rw[e]at g;exact auA (h.has 1 hle) (h.is (i:=0) rfl) (by rfl) (S9 (h.has 1 hle) (h.is (i:=0) rfl) g) hx hmx
end
def yL(l:List TP):Prop:=∀p,p∈l->wY p.1
theorem iR:yL []:=λ _ h=>by cases h
theorem aQ{p:TP}{l:List TP}(h:wY p.1)(hl:yL l):yL (p::l):=λ q hq=>by
 rcases azV.1 hq with rfl |hq
 .exact h
 .exact hl q hq
theorem fB{x y:List TP}(hx:yL x)(hy:yL y):yL (x++y):=λ q hq=>(ayQ.1 hq).elim (hx q) (hy q)
theorem Ad(x:Nat):wY (nP x).1:=XU (ql x)
theorem oZ(a:Nat->Nat)(i:Nat):yL (vP a i):=aQ (Ad _) (aQ (Ad _) (aQ (Ad _) iR))
theorem Yz{m x:Int}(h:Wn m x)(hm:m<=100000000):wY (ala x):=by
 obtain⟨k,rfl,hk⟩:=h;exact XR (by omega)
theorem FI{f:Nat->Int}{m:Int}(h:∀q,q<3->Wn m (f q))(hm:m<=100000000):yL (hP f):=aQ (Yz (h 0 (by omega)) hm) (aQ (Yz (h 1 (by omega)) hm) (aQ (Yz (h 2 (by omega)) hm) iR))
theorem ig{w:List UInt8}(h:Low w=true):wY (kP w).1:=akb h
theorem QJ{k:Nat}(h:k<1000000000):wY (Lm (k:Nat)).1:=apu h
theorem Zx(e:Nat->Nat):yL (eyP e):=aQ (ig rfl) (fB (oZ _ _) (aQ (ig rfl) (fB (oZ _ _) (aQ (ig rfl) (fB (oZ _ _) (aQ (ig rfl) (aQ (Ad _) iR)))))))
theorem QK{w u:List UInt8}(hw:Low w=true)(hu:Low u=true)(a:Nat->Nat):yL (Vt w u a):=aQ (ig hw) (fB (oZ _ _) (aQ (ig hu) (fB (oZ _ _) (aQ (ig rfl) (aQ (Ad _) iR)))))
theorem Ob:wY (kP [44]).1:=Qk (aaH (ER rfl))
theorem aaD(k:Int)(a:Nat->Nat):yL (Ak k a):=by
 unfold Ak;split
 .exact aQ (ig rfl) (fB (oZ _ _) (aQ (ig rfl) (aQ (Ad _) iR)))
 split
 .exact aQ (ig rfl) (fB (oZ _ _) (aQ (ig rfl) (oZ _ _)))
 split
 .exact aQ (ig rfl) (fB (oZ _ _) (aQ Ob (fB (oZ _ _) (aQ Ob (oZ _ _)))))
 split
 .exact QK rfl rfl a
 split
 .exact QK rfl rfl a
 .exact fB (QK rfl rfl a) (aQ (Ad _) iR)
theorem QL(P:Nat->dM):∀f i,yL (BG P f i)
 | 0,_=>iR
 |f+1,i=>by
  unfold BG;split
  .exact aaD _ _
  .refine fB (aQ (ig ?_) (aQ (p:=kP [123]) (Qk (aaH (aaH (ER rfl)))) iR)) (fB (QL P f _) (fB (QL P f _) (aQ (p:=kP [125]) (Qk (aaH (aaH (aaH rfl)))) iR)))
   unfold y7;split
   .rfl
   split<;>rfl
theorem akF(n:Nat)(P:Nat->dM):yL (soP n P):=by
 unfold soP;refine aQ (ig rfl) ?_;cases Fg n P
 .exact iR
 .exact QL _ _ _
structure Good(s:fT):Prop where
 fK:s.nK<=16
 fL:s.nL<=4
 fS:s.nS<=64
 fO:s.nO<=8
 fF:s.nF<=2
 jE:∀q,q<3->Wn 65536 (s.jE q)
 K:∀j,j<s.nK->(∀q,q<9->Wn 1000 (s.K j q))/\(s.K j 9).natAbs<=1000000
 LL:∀j,j<s.nL->∀q,q<3->Wn 65536 (s.LL j q)
 S:∀j,j<s.nS->(1<=(s.S j).k/\(s.S j).k<=6)/\∃w:Nat,(s.S j).sk=(w:Nat)/\w<s.nK
 O:∀j,j<s.nO->(1<=(s.O j).n/\(s.O j).n<=16)/\PM (s.O j).n (s.O j).P/\Fg (s.O j).n (s.O j).P=true/\(∀i,i<(s.O j).n->((s.O j).P i).op=0->((s.O j).P i).k=1\/((s.O j).P i).k=2\/((s.O j).P i).k=5)/\∃w:Nat,(s.O j).sk=(w:Nat)/\w<s.nK
 F:∀j,j<s.nF->∃W H w:Nat,(s.F j).W=(W:Nat)/\(s.F j).H=(H:Nat)/\W<=8/\H<=8/\W*H=(s.F j).n/\(∀q,q<(s.F j).n->((s.F j).hs q).natAbs<=1000000)/\(s.F j).sk=(w:Nat)/\w<s.nK
def QT(e:Nat->Nat):List Nat:=[dW (e 0),dW (e 1),dW (e 2),dW (e 3),dW (e 4),dW (e 5),dW (e 6),dW (e 7),dW (e 8),dW (e 9)]
def an2(f:Nat->Int):List Int:=[f 0,f 1,f 2,f 3,f 4,f 5,f 6,f 7,f 8,f 9]
def afv(p:Hs.Sc.IL):List AV:=fC p.k (cX p.k (rd p.a)) p.sk
def afx(p:Hs.Sc.QY):List AV:=Vs p.n (λ i=>sw (p.P i)) p.sk
def afz(F:Hs.Fm.Fd):List AV:=yx F.W F.H (dW (F.at_ 0)) (dW (F.at_ 1)) (dW (F.at_ 2)) (dW F.sd) (slI F.n F.hs) F.sk
structure Xp(s:fT):Prop where
 eye:aj bW 16 [.agg (eyK (QT s.eye))] (iA 0)
 K:∀j,j<s.nK->aj bW 18 [.agg (ZB (an2 (s.K j)))] (iA 0)
 S:∀j,j<s.nS->aj bW 98 [.agg (afv (s.S j))] (iA 0)
 O:∀j,j<s.nO->aj bW 99 [.agg (afx (s.O j))] (iA 0)
 F:∀j,j<s.nF->aj bW 100 [.agg (afz (s.F j))] (iA 0)
def cc(s:fT)(k l m o f:Nat):Ct:={ nS:=m,nO:=o,nF:=f,nK:=k,nL:=l,nN:=k,S:=λ q=>afv (s.S q),O:=λ q=>afx (s.O q),F:=λ q=>afz (s.F q),K:=λ q=>ZB (an2 (s.K q)),L:=λ q=>lmK (dW (s.LA q 0)) (dW (s.LA q 1)) (dW (s.LA q 2)) (s.LL q 0) (s.LL q 1) (s.LL q 2),N:=λ q=>lB (oK (q:Nat)),jE:=λ q=>(aaT (yJ s)).N (15+1+q),eye:=FP (QT s.eye) }
def Xo(s:fT):Ct:=cc s s.nK s.nL s.nS s.nO s.nF
theorem Pm{s:fT}(h:Good s):∀l,l∈lns s->yL l:=by
 intro l hl;unfold lns at hl;rcases ayQ.1 hl with hl |hl
 .unfold ln1 at hl
  simp only[azV,List.not_mem_nil,or_false]at hl;rcases hl with rfl |rfl
  .exact Zx _
  .exact aQ (ig rfl) (FI h.jE (by omega))
 rcases ayQ.1 hl with hl |hl
 .obtain⟨j,hj,rfl⟩:=azp.1 hl
  have hj:=ayA.1 hj;obtain⟨h1,h2⟩:=h.K j hj;have:=h.fK;exact fB (aQ (ig rfl) (aQ (QJ (by omega)) (aQ (ig rfl) iR))) (fB (FI (m:=1000) (λ q hq=>h1 q (by omega)) (by omega)) (aQ (ig rfl) (fB (FI (m:=1000) (λ q hq=>h1 (3+q) (by omega)) (by omega)) (aQ (ig rfl) (fB (FI (m:=1000) (λ q hq=>h1 (6+q) (by omega)) (by omega)) (aQ (ig rfl) (aQ (XU h2) iR)))))))
 rcases ayQ.1 hl with hl |hl
 .obtain⟨j,hj,rfl⟩:=azp.1 hl
  have hj:=ayA.1 hj;exact aQ (ig rfl) (fB (oZ _ _) (aQ (ig rfl) (FI (h.LL j hj) (by omega))))
 rcases ayQ.1 hl with hl |hl
 .obtain⟨j,hj,rfl⟩:=azp.1 hl
  have hj:=ayA.1 hj;obtain⟨_,w,e,hw⟩:=h.S j hj;have:=h.fK;unfold ln4;rw[e];exact fB (aaD _ _) (aQ (QJ (by omega)) iR)
 rcases ayQ.1 hl with hl |hl
 .obtain⟨j,hj,rfl⟩:=azp.1 hl
  have hj:=ayA.1 hj;obtain⟨_,_,_,_,w,e,hw⟩:=h.O j hj;have:=h.fK;unfold ln5;rw[e];exact fB (akF _ _) (aQ (QJ (by omega)) iR)
 .obtain⟨j,hj,rfl⟩:=azp.1 hl
  have hj:=ayA.1 hj;obtain⟨W,H,w,eW,eH,hW,hH,_,hh,e,hw⟩:=h.F j hj;have:=h.fK;unfold ln6 Y8;rw[e,eW,eH];refine fB (fB (aQ (ig rfl) (aQ (XR (by omega)) (aQ (XR (by omega)) (aQ (ig rfl) iR)))) (fB (oZ _ _) (aQ (ig rfl) (aQ (Ad _) (aQ (ig rfl) ?_))))) (aQ (QJ (by omega)) iR);intro p hp;unfold hiP at hp;obtain⟨q,hq,rfl⟩:=azp.1 hp;exact XU (hh q (ayA.1 hq))
section
variable{t:Tk}{z zf:Nat->Int}{cf:Ct}
def blk(L:Nat->List TP)(i m:Nat):List TP:=(List.range' i m).flatMap λ j=>L j++[kP [59]]
theorem many{L:Nat->List TP}{C:Nat->Ct}{n:Nat}{r:List TP}(hs:∀j,j<n->∀a l,At t a ((L j++[kP [59]])++l)->Stp t a z (C j) (a+(L j++[kP [59]]).length) z (C (j+1)))(hr:∀b,At t b r->b+r.length=t.n->Rest t zf cf b z (C n)) :
  ∀m i,i+m=n->∀a,At t a (blk L i m++r)->a+(blk L i m++r).length=t.n->Rest t zf cf a z (C i)
 | 0,i,h,a,hA,hl=>by
  have:i=n:=by omega
  subst this;exact hr a hA hl
 |m+1,i,h,a,hA,hl=>by
  have e:blk L i (m+1)++r=(L i++[kP [59]])++(blk L (i+1) m++r):=by
   unfold blk;rw[List.range'_succ,ay7,aiR]
  rw[e]at hA hl;exact(hs i (by omega) a _ hA).go (many hs hr m (i+1) (by omega) _ hA.app.2 (by simp only[uI]at hl ⊢;omega))
end
theorem zO(L:Nat->List TP)(n:Nat):((av2 n).map L).flatMap (λ l=>l++[kP [59]])=blk L 0 n:=by
 unfold blk;rw[List.flatMap_map,List.range_eq_range']
theorem ZU(s:fT):yJ s=(eyP s.eye++[kP [59]])++((Jc s.jE++[kP [59]])++(blk (ln2 s) 0 s.nK++(blk (ln3 s) 0 s.nL++(blk (ln4 s) 0 s.nS++(blk (ln5 s) 0 s.nO++(blk (ln6 s) 0 s.nF++[])))))):=by
 unfold yJ lns ln1;rw[ayz,ayz,ayz,ayz,ayz,zO,zO,zO,zO,zO,awr];simp only[ay7,aDF,awr,aiR]
def z1:Nat->Int:=dw z0 21 1
def z2:Nat->Int:=dw z1 22 1
theorem ajB:Z0 z2:=⟨rfl,rfl,rfl⟩
section
variable{s:fT}{t:Tk}{k l m o f:Nat}
theorem PK(hk:k<=16):abw (cc s k l m o f) k:=⟨rfl,hk,λ _=>rfl⟩
theorem ajC(h:Good s)(hm:Xp s){j:Nat}(hj:j<s.nK){a:Nat}{r:List TP}(hA:At t a ((ln2 s j++[kP [59]])++r)):Stp t a z2 (cc s j l m o f) (a+(ln2 s j++[kP [59]]).length) z2 (cc s (j+1) l m o f):=by
 obtain⟨h1,h2⟩:=h.K j hj;have h3:=h.fK;rw[aiR]at hA;exact abx (f:=s.K j) (g:=λ q=>s.K j (3+q)) (k:=λ q=>s.K j (6+q)) hA rfl (PK (by omega)) (by omega) (show j<1000 by omega) (λ q hq=>h1 q (by omega)) (λ q hq=>h1 (3+q) (by omega)) (λ q hq=>h1 (6+q) (by omega)) h2 (hm.K j hj) rfl λ _ _=>⟨rfl,rfl⟩
theorem ajD(h:Good s){j:Nat}(hj:j<s.nL){a:Nat}{r:List TP}(hA:At t a ((ln3 s j++[kP [59]])++r)):Stp t a z2 (cc s k j m o f) (a+(ln3 s j++[kP [59]]).length) z2 (cc s k (j+1) m o f):=by
 have h3:=h.fL;rw[aiR]at hA;exact aby hA ajB (h.LL j hj) (show j<4 by omega) rfl λ _ _=>⟨rfl,rfl⟩
theorem afu(h:Good s)(hm:Xp s){j:Nat}(hj:j<s.nS){a:Nat}{r:List TP}(hA:At t a ((ln4 s j++[kP [59]])++r)):Stp t a z2 (cc s s.nK l j o f) (a+(ln4 s j++[kP [59]]).length) z2 (cc s s.nK l (j+1) o f):=by
 obtain⟨h1,w,e,hw⟩:=h.S j hj;have h3:=h.fS;have hM:=hm.S j hj;unfold ln4 at hA ⊢;unfold afv at hM;rw[e]at hA hM;rw[aiR,aiR]at hA;have:=Xq (c:=cc s s.nK l j o f) h1 hA ajB (PK h.fK) hw (show j<64 by omega) hM (by show afv (s.S j)=_;unfold afv;rw[e]) λ _ _=>⟨rfl,rfl⟩;rw[uI,uI];exact this
theorem afw(h:Good s)(hm:Xp s){j:Nat}(hj:j<s.nO){a:Nat}{r:List TP}(hA:At t a ((ln5 s j++[kP [59]])++r)):Stp t a z2 (cc s s.nK l m j f) (a+(ln5 s j++[kP [59]]).length) z2 (cc s s.nK l m (j+1) f):=by
 obtain⟨h1,h2,h3,h4,w,e,hw⟩:=h.O j hj;have h5:=h.fO;have hM:=hm.O j hj;unfold ln5 at hA ⊢;unfold afx at hM;rw[e]at hA hM;rw[aiR,aiR]at hA;have:=Xr (c:=cc s s.nK l m j f) h1.1 h1.2 h2 h3 h4 hA ajB rfl (PK h.fK) hw (show j<8 by omega) hM (by show afx (s.O j)=_;unfold afx;rw[e]) λ _ _=>⟨rfl,rfl⟩;rw[uI,uI];exact this
theorem afy(h:Good s)(hm:Xp s){j:Nat}(hj:j<s.nF){a:Nat}{r:List TP}(hA:At t a ((ln6 s j++[kP [59]])++r)):Stp t a z2 (cc s s.nK l m o j) (a+(ln6 s j++[kP [59]]).length) z2 (cc s s.nK l m o (j+1)):=by
 obtain⟨W,H,w,eW,eH,hW,hH,hWH,hh,e,hw⟩:=h.F j hj;have h5:=h.fF;have hM:=hm.F j hj;unfold ln6 at hA ⊢;unfold afz at hM;rw[e]at hA hM;rw[aiR,aiR]at hA;have:=Xt (c:=cc s s.nK l m o j) eW eH hW hH hWH hh hA ajB (PK h.fK) hw (show j<2 by omega) hM (by show afz (s.F j)=_;unfold afz;rw[e]) λ _ _=>⟨rfl,rfl⟩;rw[uI,uI];exact this
end
theorem aoH{s:fT}(h:Good s)(hm:Xp s)(hl:(yJ s).length<=1000000):Rest (aaT (yJ s)) z2 (Xo s) 0 z0 (VF (Xo s)):=by
 have hA:=alr (yJ s) [] rfl hl;have hA:At (aaT (yJ s)) 0 (yJ s):=hA;obtain⟨t,ht⟩:∃t,t=aaT (yJ s):=⟨_,rfl⟩;have hn:t.n=(yJ s).length:=by rw[ht];rfl
 rw[<-ht]at hA ⊢;rw[ZU]at hA hn;have hA0:=hA;rw[aiR]at hA0;have hA1:=hA.app.2;have atT:=hA1;rw[aiR]at atT
 have e1:Stp t 0 z0 (VF (Xo s)) 15 z1 (abz (VF (Xo s)) (QT s.eye)):=by
  have:=afA (c:=VF (Xo s)) hA0 (z:=z0) ⟨rfl,rfl,rfl⟩ rfl rfl hm.eye;exact this
 have e2:Stp t 15 z1 (abz (VF (Xo s)) (QT s.eye)) 20 z2 (cc s 0 0 0 0 0):=by
  have:=afB (a:=15) (c:=abz (VF (Xo s)) (QT s.eye)) atT (z:=z1) rfl rfl h.jE;rw[ht]at this ⊢;exact this
 refine e1.go (e2.go ?_);have hA2:At t 20 _:=hA1.app.2
 have hN:20+(blk (ln2 s) 0 s.nK++(blk (ln3 s) 0 s.nL++(blk (ln4 s) 0 s.nS++(blk (ln5 s) 0 s.nO++(blk (ln6 s) 0 s.nF++[]))))).length=t.n:=by
  rw[hn,@uI _ (eyP s.eye++[kP [59]]),@uI _ (Jc s.jE++[kP [59]])];show 20+_=15+(5+_);omega
 refine many (C:=λ j=>cc s j 0 0 0 0) (n:=s.nK) (λ j hj a r hA=>ajC h hm hj hA) (λ b hb hn=>?_) s.nK 0 (by omega) 20 hA2 hN;refine many (C:=λ j=>cc s s.nK j 0 0 0) (n:=s.nL) (λ j hj a r hA=>ajD h hj hA) (λ b hb hn=>?_) s.nL 0 (by omega) b hb hn;refine many (C:=λ j=>cc s s.nK s.nL j 0 0) (n:=s.nS) (λ j hj a r hA=>afu h hm hj hA) (λ b hb hn=>?_) s.nS 0 (by omega) b hb hn;refine many (C:=λ j=>cc s s.nK s.nL s.nS j 0) (n:=s.nO) (λ j hj a r hA=>afw h hm hj hA) (λ b hb hn=>?_) s.nO 0 (by omega) b hb hn;refine many (C:=λ j=>cc s s.nK s.nL s.nS s.nO j) (n:=s.nF) (λ j hj a r hA=>afy h hm hj hA) (λ b hb hn=>?_) s.nF 0 (by omega) b hb hn;have:b=t.n:=by simpa using hn
 rw[this];exact aoI z2 (Xo s)
theorem TK:∀(ts:List (List UInt8)) (b:Bool),(∀x,x∈ts->x≠[])->ts.length<=(tks b ts).length
 | [],_,_=>aAv _
 |x::r,b,h=>by
  have ih:=TK r true λ y hy=>h y (by simp[hy]);have hx:=aAa.2 (h x (by simp));show r.length+1<=((if b then [32]else [])++(x++tks true r)).length
  rw[uI,uI];omega
theorem aeL{x:List UInt8}(h:wY x):x≠[]:=by
 rcases h with h | ⟨c,_,rfl⟩
 .exact h.1
 .simp
theorem ajE{s:fT}(h:Good s):(yJ s).length<=(x6 cK dF bG s).length:=by
 rw[Dl];unfold yJ
 have key:∀ls:List (List TP),(∀l,l∈ls->yL l)->(ls.flatMap λ l=>l++[kP [59]]).length<=(ls.flatMap Dj).length:=λ ls=>by
  induction ls with
  |nil=>intro _;exact ao5 _
  |cons l r ih =>
   intro hl;have i1:=ih λ x hx=>hl x (by simp[hx])
   have i2:=TK (l.map azy++[[59]]) false λ x hx=>by
    rcases ayQ.1 hx with hx |hx
    .obtain⟨p,hp,rfl⟩:=azp.1 hx
     exact aeL (hl l (by simp) p hp)
    .simp at hx;subst hx;simp
   rw[uI,aAL]at i2;rw[ay7,ay7,uI,uI,uI];have e:(Dj l).length=(tks false (l.map azy++[[59]])).length+1:=uI;simp only[anE,arB]at i2 ⊢;omega
 exact key _ (Pm h)
theorem ai0{s:fT}(h:Good s)(hm:Xp s)(hl:(x6 cK dF bG s).length<=20000):aj bW 8 [zA (lB (x6 cK dF bG s))] (.aN [.agg (scF (Xo s)),iA 0]):=by
 have hf:=ajE h;exact Xu (by rw[aY];exact hl) (asL (Pm h) (by omega)) (aoH h hm (by omega)) rfl
open Hs Hs.So Hs.Sc Hs.Fm
theorem ahl{m x:Int}(h0:0<=x)(h1:x<=m):Wn m x:=⟨x.toNat,by omega,by omega⟩
theorem FK{B:Nat->Bool}:∀{n:Nat},mh B n=false->∀j,j<n->B j=false
 | 0,_,j,hj=>absurd hj (azu j)
 |n+1,h,j,hj=>by
  have h:(mh B n||B n)=false:=h;rw[ahD]at h;by_cases e:j=n
  .subst e;exact h.2
  .exact FK h.1 j (by omega)
theorem ahm{e sk:Int}{n:Nat}(h:CZ e sk n=0):sk<(n:Int):=by
 have h:=(cn0 h).2;cases hb:decide (sk≥(n:Int))
 .have:=of_decide_eq_false hb;omega
 .rw[hb]at h;exact absurd h (by decide)
theorem aqI{m k:Int}(h:mlE m k=0):k=1\/k=2\/k=5:=by
 have h:=(cn0 h).2;cases hb:kin k
 .rw[hb]at h;exact absurd h (by decide)
 .unfold kin at hb
  simpa using hb
theorem aqJ{F:Hs.Fm.Fd}(h:Lr F.c=0):∃W H:Nat,F.W=(W:Nat)/\F.H=(H:Nat)/\W<=8/\H<=8/\W*H=F.n/\∀q,q<F.n->(F.hs q).natAbs<=1000000:=by
 obtain⟨_,_,h3,h4,h5,h6,h7,_⟩:dL (F.at_ 0) (F.at_ 1) (F.at_ 2)=true/\eP F.sd=true/\F.n<=64/\(2<=F.W/\F.W<=8/\2<=F.H/\F.H<=8)/\(0<=F.sk/\F.sk<16)/\(∀q,q<F.n->oO (F.hs q)=false)/\F.jM=0/\(kM (bx F)==0)=true:=(uJ F).2 h
 have hn:(F.n:Int)=F.W*F.H:=by
  unfold Fd.jM at h7;obtain⟨_,h7⟩:=c4 (by decide) h7;obtain⟨h8,_⟩:=c4 (by decide) h7;have h8:((F.n:Int)==aI (F.W*F.H))=true:=jC h8;have h9:=beq_iff_eq.1 h8;have l1:F.W*F.H<=8*8:=aEw h4.2.1 h4.2.2.2 (by omega) (by omega);have l0:0<=F.W*F.H:=aC7 (by omega) (by omega);rw[aO (by omega) (by omega)]at h9;exact h9
 obtain⟨W,eW⟩:=ay2 (show 0<=F.W by omega);obtain⟨H,eH⟩:=ay2 (show 0<=F.H by omega);refine⟨W,H,eW,eH,by omega,by omega,?_,λ q hq=>?_⟩
 .rw[eW,eH]at hn
  exact_mod_cast hn.symm
 .obtain⟨b1,b2⟩:=tY (h6 q hq)
  have b1:=of_decide_eq_false b1;have b2:=of_decide_eq_false b2;omega
theorem aiY{s:fT}(h:yK s=0)(hw:w6 cK dF bG s=false):Good s:=by
 unfold yK at h;obtain⟨h1,h⟩:=c4 (by decide) h;obtain⟨hK,h⟩:=c0 h;obtain⟨hT,h⟩:=c0 h;obtain⟨hL,h⟩:=c0 h;obtain⟨hY,h⟩:=c4 (by decide) h;have few:=PS s h1;unfold thE at hT;obtain⟨hS,hT⟩:=c0 hT;obtain⟨hO,hF⟩:=c0 hT;have w5':w5 cK dF bG s=false:=by unfold w6 at hw;exact(ahD.1 hw).1
 have wO:mh (λ j=>fU (Za cK dF bG s j)) s.nO=false:=by unfold w5 at w5';exact(ahD.1 w5').2
 have au7:=ze (jC hY);refine⟨few.2.2.2.1,few.2.2.2.2,few.1,few.2.1,few.2.2.1,λ q hq=>ahl (au7 q hq).1 (au7 q hq).2,λ j hj=>?_,λ j hj=>?_,λ j hj=>?_,λ j hj=>?_,λ j hj=>?_⟩
 .obtain⟨k1,k2,k3⟩:=OG (k:=s.K j) (dh _ hK j hj)
  exact⟨λ q hq=>ahl (k1 q hq).1 (k1 q hq).2,by omega⟩
 .have hl:lmE (s.LA j) (s.LL j)=0:=dh _ hL j hj
  unfold lmE at hl;obtain⟨a1,hl⟩:=c4 (by decide) hl;obtain⟨a2,_⟩:=c4 (by decide) hl;have:=ze (jC a2);exact λ q hq=>ahl (this q hq).1 (this q hq).2
 .have hs:CZ (jG (s.S j).c) (s.S j).sk s.nK=0:=dh _ hS j hj
  obtain⟨_,g2,g3,_⟩:=kI (Rt hs);have:=ahm hs;exact⟨g2,(s.S j).sk.toNat,by omega,by omega⟩
 .have hs:=dh _ hO j hj
  have hso:Ms (s.O j).n (s.O j).P (s.O j).sk=0:=Rt hs;have hlt:(s.O j).sk<(s.nK:Int):=ahm hs
  have har:Fg (s.O j).n (s.O j).P=true:=by
   have:=FK wO j hj;have hb:O4 bG (s.O j).n (s.O j).P=false:=(ahD.1 this).1;unfold O4 at hb;cases ha:Fg (s.O j).n (s.O j).P
   .rw[ha]at hb;cases hb
   .rfl
  unfold Ms at hso;obtain⟨g1,hso⟩:=c4 (by decide) hso;obtain⟨g2,hso⟩:=c4 (by decide) hso;obtain⟨n1,n2⟩:=tY g1;have n1:=of_decide_eq_false n1;have n2:=of_decide_eq_false n2;have hpa:=dh _ hso;obtain⟨p1,_⟩:=TJ hpa;obtain⟨s1,s2⟩:=Dt g2;refine⟨by omega,p1,har,λ i hi h0=>?_,(s.O j).sk.toNat,by omega,by omega⟩;have h1:=hpa i hi;unfold Iw Qy at h1;rw[h0]at h1;exact aqI (show mlE (jG ((s.O j).P i).s) ((s.O j).P i).k=0 from h1)
 .have hs:=dh _ hF j hj
  have hf:Lr (s.F j).c=0:=Rt hs;have hlt:(s.F j).sk<(s.nK:Int):=ahm hs;obtain⟨W,H,eW,eH,hW,hH,hWH,hh⟩:=aqJ hf
  have h5:0<=(s.F j).sk:=by
   obtain⟨_,_,_,_,h5,_⟩:dL ((s.F j).at_ 0) ((s.F j).at_ 1) ((s.F j).at_ 2)=true/\eP (s.F j).sd=true/\(s.F j).n<=64/\(2<=(s.F j).W/\(s.F j).W<=8/\2<=(s.F j).H/\(s.F j).H<=8)/\(0<=(s.F j).sk/\(s.F j).sk<16)/\(∀q,q<(s.F j).n->oO ((s.F j).hs q)=false)/\(s.F j).jM=0/\(kM (bx (s.F j))==0)=true:=(uJ (s.F j)).2 hf;exact h5.1
  exact⟨W,H,(s.F j).sk.toNat,eW,eH,hW,hH,hWH,hh,by omega,by omega⟩
end Go.Proofs.YtefphimaggjihaaGreatDoor.Pi.Rd
namespace Go.Proofs.YtefphimaggjihaaGreatDoor.Pi.Rd
open Go.Shelf Go.RowKit Go.Gv
open Hs.So (dM pJ)
open Hs.Sc (fT)
def wt:List TP->Nat
 | []=>0
 |p::r=>p.1.length+1+wt r
theorem iE:∀x y:List TP,wt (x++y)=wt x+wt y
 | [],y=>by simp[wt]
 |p::r,y=>by show p.1.length+1+wt (r++y)=_;rw[iE r y];show _=p.1.length+1+wt r+wt y;omega
theorem adr:∀(l:List TP) (b:Bool),(tks b (l.map azy)).length<=wt l
 | [],_=>ao5 _
 |p::r,b=>by
  have ih:=adr r true;show((if b then [32]else [])++(p.1++tks true (r.map azy))).length<=p.1.length+1+wt r
  rw[uI,uI];have:(if b then([32]:List UInt8)else []).length<=1:=by cases b<;>simp
  omega
theorem ads(l:List TP):(Dj l).length<=wt l+3:=by
 have h:=adr (l++[kP [59]]) false;rw[iE,ayL]at h;have e:(Dj l).length=(tks false (l.map azy++[[59]])).length+1:=uI;have e2:wt [kP [59]]=2:=rfl;rw[e2]at h;have h:(tks false (l.map azy++[[59]])).length<=wt l+2:=h;omega
theorem Fj{d k:Nat}(h:k<10 ^ (d+1)):(ala (k:Int)).length<=d+1:=by rw[VA];exact(ak6 d k h).2.2.1.2
theorem Cg{n:Int}(h:n.natAbs<=1000000):(cK n).length<=8:=by
 unfold cK dcA;have hs:(if n<0 then([45]:List UInt8)else []).length<=1:=by split<;>simp
 rw[uI,uI];by_cases hr:n.natAbs % 1000=0
 .have:=Fj (d:=3) (k:=n.natAbs / 1000) (by omega)
  rw[if_pos hr];simp only[arB];omega
 .have:=Fj (d:=2) (k:=n.natAbs / 1000) (by omega)
  obtain⟨_,_,g3,_⟩:=adt (r:=n.natAbs % 1000) (by omega) (by omega);rw[if_neg hr,anE];have g3:(ayI ((ala ((1000+n.natAbs % 1000:Nat):Int)).drop 1) 48).length<=3:=g3;omega
theorem Jh(x:Nat):(nP x).1.length<=8:=Cg (ql x)
theorem Gq(a:Nat->Nat)(i:Nat):wt (vP a i)<=27:=by
 have h1:=Jh (a i);have h2:=Jh (a (i+1));have h3:=Jh (a (i+2));show(nP (a i)).1.length+1+((nP (a (i+1))).1.length+1+((nP (a (i+2))).1.length+1+0))<=27;omega
theorem VD{d:Nat}{m x:Int}(h:Wn m x)(hm:m<10 ^ (d+1)):(ala x).length<=d+1:=by
 obtain⟨k,rfl,hk⟩:=h;exact Fj (by exact_mod_cast Int.lt_of_le_of_lt hk hm)
theorem Ru{d:Nat}{m:Int}{f:Nat->Int}(h:∀q,q<3->Wn m (f q))(hm:m<10 ^ (d+1)):wt (hP f)<=3*(d+2):=by
 have h1:=VD (h 0 (by omega)) hm;have h2:=VD (h 1 (by omega)) hm;have h3:=VD (h 2 (by omega)) hm;show(ala (f 0)).length+1+((ala (f 1)).length+1+((ala (f 2)).length+1+0))<=_;omega
theorem Zd{k:Nat}(h:k<16):wt [Lm (k:Nat)]<=4:=by
 have:=Fj (d:=1) (k:=k) (by omega);show(115::ala (k:Int)).length+1+0<=4;rw[anE];omega
theorem dP(p:TP)(r:List TP):wt (p::r)=p.1.length+1+wt r:=rfl
theorem Fp:wt []=0:=rfl
theorem adu(k:Int)(a:Nat->Nat):wt (Ak k a)<=89/\(k=1\/k=2\/k=5->wt (Ak k a)<=81):=by
 have v0:=Gq a 0;have v3:=Gq a 3;have v6:=Gq a 6;have n9:=Jh (a 9);have n10:=Jh (a 10)
 have hr:∀w u,wt (Vt w u a)=w.length+1+(wt (vP a 0)+(u.length+1+(wt (vP a 3)+(7+((nP (a 9)).1.length+1))))):=λ w u=>by
  unfold Vt;rw[dP,iE,dP,iE,dP,dP,Fp];rfl
 unfold Ak;split
 .rw[dP,iE,dP,dP,Fp]
  simp only[kP,Lp,anE,arB];omega
 split
 .rw[dP,iE,dP]
  simp only[kP,anE,arB];omega
 split
 .rw[dP,iE,dP,iE,dP]
  simp only[kP,anE,arB];omega
 split
 .rw[hr]
  simp only[anE,arB];omega
 split
 .rw[hr]
  simp only[anE,arB];omega
 .rw[iE,hr,dP,Fp]
  simp only[anE,arB];omega
theorem VE{P:Nat->dM}{n:Nat}(hP:PM n P)(hS:∀i,i<n->(P i).op=0->(P i).k=1\/(P i).k=2\/(P i).k=5):∀(f k d:Nat),k<n->Ls P k<=(d:Nat)->wt (BG P f k)+11<=92*2 ^ d
 | 0,k,d,_,_=>by
  have:1<=2 ^ d:=aDx;show 0+11<=_;omega
 |f+1,k,d,hk,hd=>by
  have h2:1<=2 ^ d:=aDx;by_cases h0:(P k).op=0
  .have ep:BG P (f+1) k=Ak (P k).k (P k).a:=by show(if _ then _ else _)=_;rw[if_pos h0]
   have:=(adu (P k).k (P k).a).2 (hS k hk h0);rw[ep];omega
  .have ep:BG P (f+1) k=[kP (y7 (P k).op),kP [123]]++(BG P f (P k).l.toNat++(BG P f (P k).r.toNat++[kP [125]])):=by show(if _ then _ else _)=_;rw[if_neg h0]
   rcases hP k hk with h | ⟨ho,hl,hr⟩
   .exact absurd h h0
   obtain⟨_,s2⟩:=Du h0 hl.1 hl.2 hr.1 hr.2;obtain⟨d',rfl⟩:∃d',d=d'+1:=⟨d - 1,by have:=OI (P:=P) (P k).r.toNat;have:=OI (P:=P) (P k).l.toNat;have:0<=mx (Ls P (P k).l.toNat) (Ls P (P k).r.toNat):=by{ unfold mx;split<;>omega };omega⟩;obtain⟨m1,m2⟩:=adw (a:=Ls P (P k).l.toNat) (b:=Ls P (P k).r.toNat) (M:=(d':Nat)) (by omega);have i1:=VE hP hS f (P k).l.toNat d' (by omega) m1;have i2:=VE hP hS f (P k).r.toNat d' (by omega) m2;have ho':(y7 (P k).op).length<=6:=by unfold y7;split<;>(try split)<;>simp
   rw[ep,iE,iE,iE,dP,dP,dP,Fp,ayD];have e1:(kP (y7 (P k).op)).1.length=(y7 (P k).op).length:=rfl;have e2:(kP [123]).1.length=1:=rfl;have e3:(kP [125]).1.length=1:=rfl;rw[e1,e2,e3];omega
theorem amG{P:Nat->dM}{n:Nat}(h1:1<=n)(hP:PM n P)(har:Fg n P=true)(hS:∀i,i<n->(P i).op=0->(P i).k=1\/(P i).k=2\/(P i).k=5):wt (soP n P)<=731:=by
 have ha:arP n P:=by
  unfold Fg at har;exact @of_decide_eq_true _ (_) har
 have e1:n - 1+1=n:=by omega
 have hdp:Ls P (n - 1)<=(3:Nat):=by unfold Ls;rw[e1];exact ha.2.2
 have:=VE hP hS n (n - 1) 3 (by omega) hdp;have es:soP n P=kP soW::BG P n (n - 1):=by unfold soP;rw[har];rfl
 rw[es,dP];have e:(kP soW).1.length=5:=rfl;omega
theorem ak7{hs:Nat->Int}:∀n:Nat,(∀q,q<n->(hs q).natAbs<=1000000)->wt (hiP hs n)<=9*n
 | 0,_=>ao5 _
 |n+1,h=>by
  have ih:=ak7 n λ q hq=>h q (by omega);have:=Cg (h n (by omega));unfold hiP at ih ⊢;rw[aD1,ayL,iE];show _+((cK (hs n)).length+1+0)<=_;omega
theorem amH{F:Hs.Fm.Fd}{W H:Nat}(eW:F.W=(W:Nat))(eH:F.H=(H:Nat))(hW:W<=8)(hH:H<=8)(hWH:W*H=F.n)(hh:∀q,q<F.n->(F.hs q).natAbs<=1000000):wt (Y8 F)<=635:=by
 have hn:F.n<=64:=by rw[<-hWH];exact azQ hW hH
 have h1:=ak7 F.n hh;have v:=Gq F.at_ 0;have n9:=Jh F.sd;have w1:=Fj (d:=0) (k:=W) (by omega);have w2:=Fj (d:=0) (k:=H) (by omega);unfold Y8;rw[iE,iE,dP,dP,dP,dP,Fp,dP,dP,dP,eW,eH];simp only[kP,anE,arB];omega
theorem vH{L:Nat->List TP}{B:Nat}:∀n:Nat,(∀j,j<n->wt (L j)+3<=B)->(((av2 n).map L).flatMap Dj).length<=n*B
 | 0,_=>aAv _
 |n+1,h=>by
  have ih:=vH n λ j hj=>h j (by omega);have:=ads (L n);have h2:=h n (by omega);rw[aD1,ayL,ayz,uI,Nat.succ_mul];have e:(([n].map L).flatMap Dj).length=(Dj (L n)).length:=by simp
  omega
theorem adx{s:fT}(h:Good s):(x6 cK dF bG s).length<=20000:=by
 rw[Dl];unfold lns;rw[ayz,ayz,ayz,ayz,ayz,uI,uI,uI,uI,uI];have fK:=h.fK;have fL:=h.fL;have fS:=h.fS;have fO:=h.fO;have fF:=h.fF
 have b1:((ln1 s).flatMap Dj).length<=133:=by
  have a1:=ads (eyP s.eye);have a2:=ads (Jc s.jE);have v0:=Gq s.eye 0;have v3:=Gq s.eye 3;have v6:=Gq s.eye 6;have n9:=Jh (s.eye 9);have hk:=Ru (d:=4) h.jE (by decide)
  have e1:wt (eyP s.eye)=4+(wt (vP s.eye 0)+(3+(wt (vP s.eye 3)+(3+(wt (vP s.eye 6)+(5+((nP (s.eye 9)).1.length+1))))))):=by
   unfold eyP;rw[dP,iE,dP,iE,dP,iE,dP,dP,Fp];rfl
  have e2:wt (Jc s.jE)=4+wt (hP s.jE):=rfl;unfold ln1;rw[ay7,ay7,aDF,awr,uI];omega
 have b2:(((av2 s.nK).map (ln2 s)).flatMap Dj).length<=s.nK*91:=vH _ λ j hj=>by
  obtain⟨k1,k2⟩:=h.K j hj;have a1:=Ru (d:=3) (m:=1000) (f:=s.K j) (λ q hq=>k1 q (by omega)) (by decide);have a2:=Ru (d:=3) (m:=1000) (f:=λ q=>s.K j (3+q)) (λ q hq=>k1 (3+q) (by omega)) (by decide);have a3:=Ru (d:=3) (m:=1000) (f:=λ q=>s.K j (6+q)) (λ q hq=>k1 (6+q) (by omega)) (by decide);have a4:=Cg k2;have a5:=Zd (k:=j) (by omega);have a5:(Lm (j:Nat)).1.length+1+0<=4:=a5
  have e:wt (ln2 s j)=5+((Lm (j:Nat)).1.length+1+(7+0))+(wt (hP (s.K j))+(7+(wt (hP λ q=>s.K j (3+q))+(6+(wt (hP λ q=>s.K j (6+q))+(5+((cK (s.K j 9)).length+1+0))))))):=by
   unfold ln2 skP;rw[iE,iE,dP (kP W3),iE,dP (kP W4),iE];rfl
  rw[e];omega
 have b3:(((av2 s.nL).map (ln3 s)).flatMap Dj).length<=s.nL*59:=vH _ λ j hj=>by
  have a1:=Ru (d:=4) (h.LL j hj) (by decide);have v0:=Gq (s.LA j) 0
  have e:wt (ln3 s j)=5+(wt (vP (s.LA j) 0)+(6+wt (hP (s.LL j)))):=by
   unfold ln3 lmP;rw[dP,iE,dP];rfl
  rw[e];omega
 have b4:(((av2 s.nS).map (ln4 s)).flatMap Dj).length<=s.nS*96:=vH _ λ j hj=>by
  obtain⟨_,w,e,hw⟩:=h.S j hj;have a1:=(adu (s.S j).k (s.S j).a).1;have a2:=Zd (k:=w) (by omega);unfold ln4;rw[e,iE];omega
 have b5:(((av2 s.nO).map (ln5 s)).flatMap Dj).length<=s.nO*738:=vH _ λ j hj=>by
  obtain⟨h1,h2,h3,h4,w,e,hw⟩:=h.O j hj;have a1:=amG h1.1 h2 h3 h4;have a2:=Zd (k:=w) (by omega);unfold ln5;rw[e,iE];omega
 have b6:(((av2 s.nF).map (ln6 s)).flatMap Dj).length<=s.nF*642:=vH _ λ j hj=>by
  obtain⟨W,H,w,eW,eH,hW,hH,hWH,hh,e,hw⟩:=h.F j hj;have a1:=amH eW eH hW hH hWH hh;have a2:=Zd (k:=w) (by omega);unfold ln6;rw[e,iE];omega
 omega
end Go.Proofs.YtefphimaggjihaaGreatDoor.Pi.Rd
namespace Go.Proofs.YtefphimaggjihaaGreatDoor.Pi.Rd
open Go.Shelf Go.RowKit Go.Gv
open Hs.Sc (fT)
open Hs Hs.So Hs.Sc Hs.Fm
open Go.Ev (dK)
theorem jc{x:Nat}(h:bG x=true):dK (dW x) x=true:=(Om h).2
theorem oz{a:Nat->Nat}{i:Nat}(h:vB bG a i=false):bG (a i)=true/\bG (a (i+1))=true/\bG (a (i+2))=true:=by
 unfold vB ajd at h;revert h;cases bG (a i)<;>cases bG (a (i+1))<;>cases bG (a (i+2))<;>intro h<;>first |exact⟨rfl,rfl,rfl⟩ | (cases h;done)
theorem an1{e:Nat->Nat}(h:GA bG e=false):∀i,i<10->bG (e i)=true:=by
 unfold GA at h;obtain⟨h0,h⟩:=ahD.1 h;obtain⟨h3,h⟩:=ahD.1 h;obtain⟨h6,h9⟩:=ahD.1 h;obtain⟨a0,a1,a2⟩:=oz h0;obtain⟨a3,a4,a5⟩:=oz h3;obtain⟨a6,a7,a8⟩:=oz h6;have a9:=jC h9;intro i hi
 match i,hi with
 | 0,_=>exact a0
 | 1,_=>exact a1
 | 2,_=>exact a2
 | 3,_=>exact a3
 | 4,_=>exact a4
 | 5,_=>exact a5
 | 6,_=>exact a6
 | 7,_=>exact a7
 | 8,_=>exact a8
 | 9,_=>exact a9
structure Told(s:fT):Prop where
 eye:∀i,i<10->bG (s.eye i)=true
 L:∀j,j<s.nL->vB bG (s.LA j) 0=false
 S:∀j,j<s.nS->CX bG (s.S j).k (s.S j).a (s.S j).sk=false
 O:∀j,j<s.nO->O4 bG (s.O j).n (s.O j).P=false
 F:∀j,j<s.nF->JI bG (s.F j)=false
theorem aiZ{s:fT}(hw:w6 cK dF bG s=false):Told s:=by
 unfold w6 at hw;obtain⟨hw,h6⟩:=ahD.1 hw;unfold w5 at hw;obtain⟨hw,h5⟩:=ahD.1 hw;unfold w4 at hw;obtain⟨hw,h4⟩:=ahD.1 hw;unfold w3 at hw;obtain⟨hw,h3⟩:=ahD.1 hw;unfold w2 at hw;obtain⟨hw,_⟩:=ahD.1 hw;unfold w1 at hw;obtain⟨h1,_⟩:=ahD.1 hw;exact⟨an1 h1,λ j hj=>(ahD.1 (FK h3 j hj)).1,λ j hj=>(ahD.1 (FK h4 j hj)).1,λ j hj=>(ahD.1 (FK h5 j hj)).1,λ j hj=>(ahD.1 (FK h6 j hj)).1⟩
theorem ae1{s:fT}(h:yK s=0){j:Nat}(hj:j<s.nK):aj bW 18 [.agg (ZB (an2 (s.K j)))] (iA 0):=by
 unfold yK at h;obtain⟨_,h⟩:=c4 (by decide) h;obtain⟨hK,_⟩:=c0 h;have e:skE (s.K j)=0:=dh _ hK j hj;have:=Pf (s.K j);rw[e]at this;exact this
theorem Af{t a:Nat->Nat}{i:Nat}(h:EX t a i=true):dK (t i) (a i)=true/\dK (t (i+1)) (a (i+1))=true/\dK (t (i+2)) (a (i+2))=true:=by
 unfold EX at h;simp only[J8]at h;exact⟨h.1,h.2.1,h.2.2.1⟩
theorem Ag{k:Int}{t a:Nat->Nat}{sk:Int}(h:(!(Pi.cZ k t a sk))=false):∀i,i<11->dK (t i) (a i)=true:=by
 have h:=jC h;unfold Pi.cZ at h;simp only[J8]at h;obtain⟨_,h0,h3,h6,h9,h10,_⟩:=h;obtain⟨a0,a1,a2⟩:=Af h0;obtain⟨a3,a4,a5⟩:=Af h3;obtain⟨a6,a7,a8⟩:=Af h6;intro i hi
 match i,hi with
 | 0,_=>exact a0
 | 1,_=>exact a1
 | 2,_=>exact a2
 | 3,_=>exact a3
 | 4,_=>exact a4
 | 5,_=>exact a5
 | 6,_=>exact a6
 | 7,_=>exact a7
 | 8,_=>exact a8
 | 9,_=>exact h9
 | 10,_=>exact h10
theorem cell_of{T:(Nat->Nat)->Nat->Nat}{a:Nat->Nat}{i:Nat}(h:dK (T a i) (a i)=true)(hT:(T (rd a) i=rd a i/\bG (a i)=true)\/(T a i=0/\T (rd a) i=0)):dK (T (rd a) i) (a i)=true:=by
 rcases hT with⟨h1,h2⟩ | ⟨h1,h2⟩
 .rw[h1];exact jc h2
 .rw[h2,<-h1];exact h
theorem Hw{k:Int}{a:Nat->Nat}{sk:Int}(hk:1<=k/\k<=6)(h:CX bG k a sk=false):∀i,i<11->dK (cX k (rd a) i) (a i)=true:=by
 have hk':k=1\/k=2\/k=3\/k=4\/k=5\/k=6:=by omega
 have go:∀(T:(Nat->Nat)->Nat->Nat),(∀i,i<11->dK (T a i) (a i)=true)->(∀i,i<11->(T (rd a) i=rd a i/\bG (a i)=true)\/(T a i=0/\T (rd a) i=0))->∀i,i<11->dK (T (rd a) i) (a i)=true:=λ T h1 h2 i hi=>cell_of (h1 i hi) (h2 i hi);rcases hk' with rfl |rfl |rfl |rfl |rfl |rfl
 .have h:Vd bG a sk=false:=h
  unfold Vd at h;obtain⟨h0,h⟩:=ahD.1 h;obtain⟨h9,he⟩:=ahD.1 h;obtain⟨a0,a1,a2⟩:=oz h0;have a9:=jC h9;refine go t1 (Ag he) λ i hi=>?_
  match i,hi with
  | 0,_=>exact ER ⟨rfl,a0⟩
  | 1,_=>exact ER ⟨rfl,a1⟩
  | 2,_=>exact ER ⟨rfl,a2⟩
  | 3,_=>exact aaH ⟨rfl,rfl⟩
  | 4,_=>exact aaH ⟨rfl,rfl⟩
  | 5,_=>exact aaH ⟨rfl,rfl⟩
  | 6,_=>exact aaH ⟨rfl,rfl⟩
  | 7,_=>exact aaH ⟨rfl,rfl⟩
  | 8,_=>exact aaH ⟨rfl,rfl⟩
  | 9,_=>exact ER ⟨rfl,a9⟩
  | 10,_=>exact aaH ⟨rfl,rfl⟩
 .have h:Ve bG a sk=false:=h
  unfold Ve at h;obtain⟨h0,h⟩:=ahD.1 h;obtain⟨h3,he⟩:=ahD.1 h;obtain⟨a0,a1,a2⟩:=oz h0;obtain⟨a3,a4,a5⟩:=oz h3;refine go t2 (Ag he) λ i hi=>?_
  match i,hi with
  | 0,_=>exact ER ⟨rfl,a0⟩
  | 1,_=>exact ER ⟨rfl,a1⟩
  | 2,_=>exact ER ⟨rfl,a2⟩
  | 3,_=>exact ER ⟨rfl,a3⟩
  | 4,_=>exact ER ⟨rfl,a4⟩
  | 5,_=>exact ER ⟨rfl,a5⟩
  | 6,_=>exact aaH ⟨rfl,rfl⟩
  | 7,_=>exact aaH ⟨rfl,rfl⟩
  | 8,_=>exact aaH ⟨rfl,rfl⟩
  | 9,_=>exact aaH ⟨rfl,rfl⟩
  | 10,_=>exact aaH ⟨rfl,rfl⟩
 .have h:Vf bG a sk=false:=h
  unfold Vf at h;obtain⟨h0,h⟩:=ahD.1 h;obtain⟨h3,h⟩:=ahD.1 h;obtain⟨h6,he⟩:=ahD.1 h;obtain⟨a0,a1,a2⟩:=oz h0;obtain⟨a3,a4,a5⟩:=oz h3;obtain⟨a6,a7,a8⟩:=oz h6;refine go t3 (Ag he) λ i hi=>?_
  match i,hi with
  | 0,_=>exact ER ⟨rfl,a0⟩
  | 1,_=>exact ER ⟨rfl,a1⟩
  | 2,_=>exact ER ⟨rfl,a2⟩
  | 3,_=>exact ER ⟨rfl,a3⟩
  | 4,_=>exact ER ⟨rfl,a4⟩
  | 5,_=>exact ER ⟨rfl,a5⟩
  | 6,_=>exact ER ⟨rfl,a6⟩
  | 7,_=>exact ER ⟨rfl,a7⟩
  | 8,_=>exact ER ⟨rfl,a8⟩
  | 9,_=>exact aaH ⟨rfl,rfl⟩
  | 10,_=>exact aaH ⟨rfl,rfl⟩
 .have h:acP bG a sk=false:=h
  unfold acP at h;obtain⟨h,he⟩:=ahD.1 h;obtain⟨h0,h⟩:=ahD.1 h;obtain⟨h3,h9⟩:=ahD.1 h;obtain⟨a0,a1,a2⟩:=oz h0;obtain⟨a3,a4,a5⟩:=oz h3;have a9:=jC h9;refine go t4 (Ag he) λ i hi=>?_
  match i,hi with
  | 0,_=>exact ER ⟨rfl,a0⟩
  | 1,_=>exact ER ⟨rfl,a1⟩
  | 2,_=>exact ER ⟨rfl,a2⟩
  | 3,_=>exact ER ⟨rfl,a3⟩
  | 4,_=>exact ER ⟨rfl,a4⟩
  | 5,_=>exact ER ⟨rfl,a5⟩
  | 6,_=>exact aaH ⟨rfl,rfl⟩
  | 7,_=>exact aaH ⟨rfl,rfl⟩
  | 8,_=>exact aaH ⟨rfl,rfl⟩
  | 9,_=>exact ER ⟨rfl,a9⟩
  | 10,_=>exact aaH ⟨rfl,rfl⟩
 .have h:acQ bG a sk=false:=h
  unfold acQ at h;obtain⟨h,he⟩:=ahD.1 h;obtain⟨h0,h⟩:=ahD.1 h;obtain⟨h3,h9⟩:=ahD.1 h;obtain⟨a0,a1,a2⟩:=oz h0;obtain⟨a3,a4,a5⟩:=oz h3;have a9:=jC h9;refine go t4 (Ag he) λ i hi=>?_
  match i,hi with
  | 0,_=>exact ER ⟨rfl,a0⟩
  | 1,_=>exact ER ⟨rfl,a1⟩
  | 2,_=>exact ER ⟨rfl,a2⟩
  | 3,_=>exact ER ⟨rfl,a3⟩
  | 4,_=>exact ER ⟨rfl,a4⟩
  | 5,_=>exact ER ⟨rfl,a5⟩
  | 6,_=>exact aaH ⟨rfl,rfl⟩
  | 7,_=>exact aaH ⟨rfl,rfl⟩
  | 8,_=>exact aaH ⟨rfl,rfl⟩
  | 9,_=>exact ER ⟨rfl,a9⟩
  | 10,_=>exact aaH ⟨rfl,rfl⟩
 .have h:Vg bG a sk=false:=h
  unfold Vg at h;obtain⟨h,h'⟩:=ahD.1 h;obtain⟨h10,he⟩:=ahD.1 h';obtain⟨h0,h⟩:=ahD.1 h;obtain⟨h3,h9⟩:=ahD.1 h;obtain⟨a0,a1,a2⟩:=oz h0;obtain⟨a3,a4,a5⟩:=oz h3;have a9:=jC h9;have GZ:=jC h10;refine go t6 (Ag he) λ i hi=>?_
  match i,hi with
  | 0,_=>exact ER ⟨rfl,a0⟩
  | 1,_=>exact ER ⟨rfl,a1⟩
  | 2,_=>exact ER ⟨rfl,a2⟩
  | 3,_=>exact ER ⟨rfl,a3⟩
  | 4,_=>exact ER ⟨rfl,a4⟩
  | 5,_=>exact ER ⟨rfl,a5⟩
  | 6,_=>exact aaH ⟨rfl,rfl⟩
  | 7,_=>exact aaH ⟨rfl,rfl⟩
  | 8,_=>exact aaH ⟨rfl,rfl⟩
  | 9,_=>exact ER ⟨rfl,a9⟩
  | 10,_=>exact ER ⟨rfl,GZ⟩
end Go.Proofs.YtefphimaggjihaaGreatDoor.Pi.Rd
namespace Go.Ev
open Ieee
def Sm(x y:Nat):Prop:=double.read x=double.read y\/((double.read x).isZero=true/\(double.read y).isZero=true)
theorem Sm.refl(x:Nat):Sm x x:=ER rfl
theorem Sm.trans{x y z:Nat}(h:Sm x y)(h':Sm y z):Sm x z:=by
 rcases h with h | ⟨h1,h2⟩
 .rcases h' with h' | ⟨h3,h4⟩
  .exact ER (h.trans h')
  .exact aaH ⟨by rw[h];exact h3,h4⟩
 .rcases h' with h' | ⟨h3,h4⟩
  .exact aaH ⟨h1,by rw[<-h'];exact h2⟩
  .exact aaH ⟨h1,h4⟩
theorem aiI{x y:Nat}(hs:jT x=jT y)(hr:rung x=rung y):double.read x=double.read y:=by
 have key:∀x,double.read x=(λ(n:Bool) (r:Nat)=>if r<double.binade then Datum.number n r double.leastPlace else if r<double.infRung then .number n (double.binade+r % double.binade) (double.leastPlace+(r / double.binade - 1:Nat))else if r=double.infRung then .infinity n else .nan n (r - double.infRung)) (jT x) (rung x):=λ x=>rfl
 rw[key x,key y,hs,hr]
theorem jo{x:Nat}(h:(double.read x).isZero=true):double.read x=.number (jT x) 0 (-1074):=by
 by_cases hr:rung x=0
 .exact zI hr
 exfalso;cases hn:aL x
 .rcases oJ hn with hf |hf
  .obtain⟨m,i,e,_,_,hv⟩:=iQ hf
   have hp:rv 52 0<rv 52 (rung x):=BA 52 (by omega);rw[Df,hv]at hp;rw[e]at h;cases m with
   |zero=>rw[aza]at hp;exact absurd hp (Nat.lt_irrefl 0)
   |succ m=>cases h
  .rw[zH hf]at h;cases h
 .unfold aL at hn
  cases hd:double.read x with
  |number s m i=>rw[hd]at hn;cases hn
  |infinity s=>rw[hd]at hn;cases hn
  |nan s f=>rw[hd]at h;cases h
theorem mU{x y:Nat}(h:dK x y=true):Sm x y:=by
 obtain⟨_,_,hk⟩:=vg h;have ax:∀x,(key x).natAbs=rung x:=λ x=>by unfold key;cases jT x<;>simp only[cond_true,cond_false]<;>omega
 have sx:∀x,key x≠0->jT x=decide (key x<0):=λ x h=>by
  have e:key x=cond (jT x) (-(rung x:Int)) (rung x):=rfl;cases hs:jT x
  .rw[hs,cond_false]at e;rw[decide_eq_false (by omega)]
  .rw[hs,cond_true]at e;rw[decide_eq_true (by omega)]
 have hr:rung x=rung y:=by rw[<-ax,<-ax,hk]
 by_cases h0:key x=0
 .have r0:rung x=0:=by rw[<-ax,h0];rfl
  exact aaH ⟨by rw[zI r0];rfl,by rw[zI (hr▸r0)];rfl⟩
 .exact ER (aiI (by rw[sx x h0,sx y (hk▸h0),hk]) hr)
theorem zJ(s:Bool)(k:Nat):signed s 0 k=0:=by cases s<;>simp[signed]
theorem zK{x x' y y':Nat}(hx:Sm x x')(hy:Sm y y'):double.order x y=double.order x' y':=by
 have L:∀(s s':Bool) (e:Datum),(Datum.number s 0 (-1074)).order e=(Datum.number s' 0 (-1074)).order e:=λ s s' e=>by
  cases e with
  |nan=>rfl
  |infinity t=>rfl
  |number t n j=>simp only[Datum.order,zJ]
 have R:∀(s s':Bool) (e:Datum),e.order (Datum.number s 0 (-1074))=e.order (Datum.number s' 0 (-1074)):=λ s s' e=>by
  cases e with
  |nan=>rfl
  |infinity t=>rfl
  |number t n j=>simp only[Datum.order,zJ]
 have a:(double.read x).order (double.read y)=(double.read x').order (double.read y):=by
  rcases hx with h | ⟨h1,h2⟩
  .rw[h]
  .rw[jo h1,jo h2];exact L _ _ _
 have b:(double.read x').order (double.read y)=(double.read x').order (double.read y'):=by
  rcases hy with h | ⟨h1,h2⟩
  .rw[h]
  .rw[jo h1,jo h2];exact R _ _ _
 exact a.trans b
theorem yV{x x' y y':Nat}(hx:Sm x x')(hy:Sm y y'):dK x y=dK x' y':=by unfold dK;rw[zK hx hy]
theorem acZ{x x' y y':Nat}(hx:Sm x x')(hy:Sm y y'):jO x y=jO x' y':=by unfold jO;rw[zK hx hy]
theorem ac0{x x' y y':Nat}(hx:Sm x x')(hy:Sm y y'):kL x y=kL x' y':=by unfold kL;rw[zK hx hy]
theorem nC{x x' y y':Nat}(hx:Sm x x')(hy:Sm y y'):gN x y=gN x' y':=by unfold gN;rw[zK hx hy]
theorem Vm{x x' y y':Nat}(hx:Sm x x')(hy:Sm y y'):lK x y=lK x' y':=by unfold lK;rw[zK hx hy]
def SmO(o o':Option Datum):Prop:=o=o'\/∃s s' i i',o=some (.number s 0 i)/\o'=some (.number s' 0 i')
theorem M6(s:Bool):(double.read (double.word s 0)).isZero=true:=by cases s<;>decide +kernel
theorem SmO.sm{o o':Option Datum}(h:SmO o o'):Sm ((o.map double.write).getD uP) ((o'.map double.write).getD uP):=by
 rcases h with h | ⟨s,s',i,i',h1,h2⟩
 .rw[h];exact Sm.refl _
 .rw[h1,h2]
  have e:∀s i,((some (Datum.number s 0 i)).map double.write).getD uP=double.word s 0:=λ s i=>xG s i;rw[e,e];exact aaH ⟨M6 s,M6 s'⟩
theorem aep{f:Datum->Datum->Option Datum}(hl:∀s s' e,SmO (f (.number s 0 (-1074)) e) (f (.number s' 0 (-1074)) e))(hr:∀s s' e,SmO (f e (.number s 0 (-1074))) (f e (.number s' 0 (-1074)))){x x' y y':Nat}(hx:Sm x x')(hy:Sm y y') :
  Sm (((f (double.read x) (double.read y)).map double.write).getD uP) (((f (double.read x') (double.read y')).map double.write).getD uP):=by
 refine Sm.trans (y:=((f (double.read x') (double.read y)).map double.write).getD uP) ?_ ?_
 .rcases hx with h | ⟨h1,h2⟩
  .rw[h];exact Sm.refl _
  .rw[jo h1,jo h2];exact(hl _ _ _).sm
 .rcases hy with h | ⟨h1,h2⟩
  .rw[h];exact Sm.refl _
  .rw[jo h1,jo h2];exact(hr _ _ _).sm
theorem WA(s s':Bool)(e:Datum):SmO ((Datum.number s 0 (-1074)).sum e) ((Datum.number s' 0 (-1074)).sum e):=by
 cases e with
 |nan=>exact ER rfl
 |infinity t=>exact ER rfl
 |number t n j =>
  have key:∀s,(Datum.number s 0 (-1074)).sum (.number t n j)=some (.number (if(0:Int)+signed t n (j - min (-1074) j).toNat=0 then s&&t else decide ((0:Int)+signed t n (j - min (-1074) j).toNat<0)) ((0:Int)+signed t n (j - min (-1074) j).toNat).natAbs (min (-1074) j)):=λ s=>by
   simp only[Datum.sum,zJ]
  rw[key s,key s'];by_cases h:(0:Int)+signed t n (j - min (-1074) j).toNat=0
  .rw[if_pos h,if_pos h,h]
   exact aaH ⟨_,_,_,_,rfl,rfl⟩
  .rw[if_neg h,if_neg h];exact ER rfl
theorem aer(s s':Bool)(e:Datum):SmO (e.sum (Datum.number s 0 (-1074))) (e.sum (Datum.number s' 0 (-1074))):=by
 rw[Sk e,Sk e];exact WA s s' e
theorem jW{x x' y y':Nat}(hx:Sm x x')(hy:Sm y y'):Sm (bq x y) (bq x' y'):=aep WA aer hx hy
theorem nD{x x' y y':Nat}(hx:Sm x x')(hy:Sm y y'):Sm (dI x y) (dI x' y'):=by
 refine aep (f:=λ d e=>d.sum e.opposite) (λ s s' e=>WA s s' _) (λ s s' e=>?_) hx hy;exact aer (!s) (!s') e
theorem JU(s s':Bool)(e:Datum):SmO ((Datum.number s 0 (-1074)).product e) ((Datum.number s' 0 (-1074)).product e):=by
 cases e with
 |nan=>exact ER rfl
 |infinity t=>exact ER rfl
 |number t n j =>
  refine aaH ⟨s ^^ t,s' ^^ t,-1074+j,-1074+j,?_,?_⟩
  .simp only[Datum.product,aza]
  .simp only[Datum.product,aza]
theorem WB(s s':Bool)(e:Datum):SmO (e.product (Datum.number s 0 (-1074))) (e.product (Datum.number s' 0 (-1074))):=by
 rw[D6 e,D6 e];exact JU s s' e
theorem yY{x x' y y':Nat}(hx:Sm x x')(hy:Sm y y'):Sm (bT x y) (bT x' y'):=aep JU WB hx hy
theorem Y2{x x':Nat}(hx:Sm x x'):Sm (d9 x) (d9 x'):=by
 have key:∀x,d9 x=(((double.read x).root 54).map double.write).getD uP:=λ x=>rfl;rw[key,key];rcases hx with h | ⟨h1,h2⟩
 .rw[h];exact Sm.refl _
 .rw[jo h1,jo h2]
  exact(show SmO _ _ from aaH ⟨_,_,_,_,rfl,rfl⟩).sm
theorem aiJ(s s':Bool)(e:Datum):SmO ((Datum.number s 0 (-1074)).quotient 54 e) ((Datum.number s' 0 (-1074)).quotient 54 e):=by
 cases e with
 |nan=>exact ER rfl
 |infinity t=>exact aaH ⟨_,_,_,_,rfl,rfl⟩
 |number t n j =>
  cases n with
  |zero=>exact ER rfl
  |succ n =>
   have key:∀s,(Datum.number s 0 (-1074)).quotient 54 (.number t (n+1) j)=some (.number (s ^^ t) 0 (-1074 - j - ((54+(n+1).log2 - (0:Nat).log2:Nat):Int) - 1)):=λ s=>by
    simp only[Datum.quotient,Nat.add_one_ne_zero,if_false,Nat.zero_shiftLeft,Nat.zero_div,Nat.zero_mod,Nat.mul_zero,bne_self_eq_false,Bool.toNat_false,Nat.add_zero]
   exact aaH ⟨_,_,_,_,key s,key s'⟩
theorem ac1{x x' y y':Nat}(hx:Sm x x')(hy:Sm y y')(h0:dK y 0=false):Sm (fdiv x y) (fdiv x' y'):=by
 have key:∀x y,fdiv x y=(((double.read x).quotient 54 (double.read y)).map double.write).getD uP:=λ x y=>rfl;rw[key,key]
 have hy:double.read y=double.read y':=by
  rcases hy with h | ⟨h1,_⟩
  .exact h
  .exfalso
   have z0:(double.read 0).isZero=true:=by decide +kernel
   have:dK y 0=dK 0 0:=yV (aaH ⟨h1,z0⟩) (Sm.refl 0);rw[this]at h0;exact absurd h0 (by decide +kernel)
 rw[hy];rcases hx with h | ⟨h1,h2⟩
 .rw[h];exact Sm.refl _
 .rw[jo h1,jo h2]
  exact(aiJ _ _ _).sm
end Go.Ev
namespace Go.Proofs.YtefphimaggjihaaGreatDoor.Pi.Rd
open Go.Shelf Go.RowKit Go.Gv
open Hs.Sc (fT)
open Hs Hs.So Hs.Sc Hs.Fm
open Go.Ev (dK jO kL gN lK bq dI bT fdiv d9 Sm mU yV acZ ac0 nC Vm jW nD yY Y2 ac1)
theorem wV{x y:Nat}(h:Sm x y):eP x=eP y:=by unfold eP;rw[Vm h (Sm.refl _),ac0 h (Sm.refl _)]
theorem nE{a b c a' b' c':Nat}(ha:Sm a a')(hb:Sm b b')(hc:Sm c c'):dL a b c=dL a' b' c':=by unfold dL;rw[wV ha,wV hb,wV hc]
theorem Oz{b b':Bool}{x y x' y':Nat}(hb:b=b')(hx:Sm x x')(hy:Sm y y'):Sm (cond b x y) (cond b' x' y'):=by
 subst hb;cases b
 .exact hy
 .exact hx
theorem OA{x y x' y':Nat}(hx:Sm x x')(hy:Sm y y'):Sm (tV x y) (tV x' y'):=Oz (acZ hy hx) hy hx
theorem OB{x y x' y':Nat}(hx:Sm x x')(hy:Sm y y'):Sm (tX x y) (tX x' y'):=Oz (nC hy hx) hy hx
theorem I7{x y:Nat}(h:Sm x y):u6 x=u6 y:=by unfold u6;rw[yV h (Sm.refl _)]
abbrev Vn(b b':Nat->Nat):Prop:=∀i,i<6->Sm (b i) (b' i)
theorem six{x0 x1 x2 x3 x4 x5 y0 y1 y2 y3 y4 y5:Nat}(h0:Sm x0 y0)(h1:Sm x1 y1)(h2:Sm x2 y2)(h3:Sm x3 y3)(h4:Sm x4 y4)(h5:Sm x5 y5):Vn (ls [x0,x1,x2,x3,x4,x5]) (ls [y0,y1,y2,y3,y4,y5]):=λ i hi =>
 match i,hi with
 | 0,_=>h0
 | 1,_=>h1
 | 2,_=>h2
 | 3,_=>h3
 | 4,_=>h4
 | 5,_=>h5
theorem Hz{b b' c c':Nat->Nat}(hb:Vn b b')(hc:Vn c c'):Vn (BF b c) (BF b' c'):=by
 unfold BF;exact six (OA (hb 0 (by omega)) (hc 0 (by omega))) (OA (hb 1 (by omega)) (hc 1 (by omega))) (OA (hb 2 (by omega)) (hc 2 (by omega))) (OB (hb 3 (by omega)) (hc 3 (by omega))) (OB (hb 4 (by omega)) (hc 4 (by omega))) (OB (hb 5 (by omega)) (hc 5 (by omega)))
theorem Y3{b b':Nat->Nat}(h:Vn b b'):kM b=kM b':=by
 have h0:=h 0 (by omega);have h1:=h 1 (by omega);have h2:=h 2 (by omega);have h3:=h 3 (by omega);have h4:=h 4 (by omega);have h5:=h 5 (by omega);unfold kM aaR ac2;rw[nE h0 h1 h2,nE h3 h4 h5,nC h0 h3,nC h1 h4,nC h2 h5]
theorem OC{a b c a' b' c':Nat}(ha:Sm a a')(hb:Sm b b')(hc:Sm c c'):Sm (iT a b c) (iT a' b' c'):=by
 unfold iT aaS;exact Y2 (jW (jW (yY ha ha) (yY hb hb)) (yY hc hc))
theorem ac3{a b c a' b' c':Nat}(ha:Sm a a')(hb:Sm b b')(hc:Sm c c'):UN a b c=UN a' b' c':=by
 unfold UN;rw[nE ha hb hc,yV (OC ha hb hc) (Sm.refl 0)]
theorem Vo{a b c x a' b' c' x':Nat}(ha:Sm a a')(hb:Sm b b')(hc:Sm c c')(hx:Sm x x'):Sm (unN a b c x) (unN a' b' c' x'):=by
 unfold unN;rw[<-nE ha hb hc,<-yV (OC ha hb hc) (Sm.refl 0)];cases dL a b c
 .exact Sm.refl 0
 .cases h0:dK (iT a b c) 0
  .exact ac1 hx (OC ha hb hc) h0
  .exact Sm.refl 0
theorem Vp{b c e f b' c' e' f':Nat}(hb:Sm b b')(hc:Sm c c')(he:Sm e e')(hf:Sm f f'):Sm (Ra b c e f) (Ra b' c' e' f'):=nD (yY hb hf) (yY hc he)
theorem amm{e e':Nat->Nat}(h:∀i,i<10->Sm (e i) (e' i)):Y4 e=Y4 e':=by
 have h0:=h 0 (by omega);have h1:=h 1 (by omega);have h2:=h 2 (by omega);have h3:=h 3 (by omega);have h4:=h 4 (by omega);have h5:=h 5 (by omega);have h6:=h 6 (by omega);have h7:=h 7 (by omega);have h8:=h 8 (by omega);have h9:=h 9 (by omega);have dx:Sm (dX e) (dX e'):=nD h3 h0;have dy:Sm (dY e) (dY e'):=nD h4 h1;have dz:Sm (dZ e) (dZ e'):=nD h5 h2;have ux:Sm (uX e) (uX e'):=Vo dx dy dz dx;have uy:Sm (uY e) (uY e'):=Vo dx dy dz dy;have uz:Sm (uZ e) (uZ e'):=Vo dx dy dz dz
 have up:upB e=upB e':=by
  unfold upB;exact yV (OC (Vp uy uz h7 h8) (Vp uz ux h8 h6) (Vp ux uy h6 h7)) (Sm.refl 0)
 unfold Y4 feB;rw[nE h0 h1 h2,nE h3 h4 h5,nE h6 h7 h8,wV h9,nC h9 (Sm.refl 0),ac3 dx dy dz,up]
section
variable{a a':Nat->Nat}(h:∀i,i<11->Sm (a i) (a' i))
include h
theorem asn:HV a=HV a':=by
 unfold HV;rw[nE (h 0 (by omega)) (h 1 (by omega)) (h 2 (by omega)),nE (h 3 (by omega)) (h 4 (by omega)) (h 5 (by omega)),nE (h 6 (by omega)) (h 7 (by omega)) (h 8 (by omega)),wV (h 9 (by omega)),wV (h 10 (by omega))]
theorem EZ{sk m m':Int}{b b':Nat->Nat}(hm:m=m')(hb:Vn b b'):QO a sk m b=QO a' sk m' b':=by
 unfold QO;rw[asn h,hm,Y3 hb]
theorem Y5:Vn (nG a) (nG a'):=by
 have h9:=h 9 (by omega);unfold nG;exact six (nD (h 0 (by omega)) h9) (nD (h 1 (by omega)) h9) (nD (h 2 (by omega)) h9) (jW (h 0 (by omega)) h9) (jW (h 1 (by omega)) h9) (jW (h 2 (by omega)) h9)
theorem ac4:Vn (q9 a) (q9 a'):=by
 unfold q9;exact six (h 0 (by omega)) (h 1 (by omega)) (h 2 (by omega)) (h 3 (by omega)) (h 4 (by omega)) (h 5 (by omega))
theorem amn:Vn (I8 a) (I8 a'):=by
 unfold I8 Hs.jg;exact Hz (Hz (six (h 0 (by omega)) (h 1 (by omega)) (h 2 (by omega)) (h 0 (by omega)) (h 1 (by omega)) (h 2 (by omega))) (six (h 3 (by omega)) (h 4 (by omega)) (h 5 (by omega)) (h 3 (by omega)) (h 4 (by omega)) (h 5 (by omega)))) (six (h 6 (by omega)) (h 7 (by omega)) (h 8 (by omega)) (h 6 (by omega)) (h 7 (by omega)) (h 8 (by omega)))
theorem akY:zB a=zB a':=by
 unfold zB;rw[I7 (h 5 (by omega)),I7 (h 4 (by omega))]
theorem ac5:Li (a 3) (a 4) (a 5)=Li (a' 3) (a' 4) (a' 5):=by
 unfold Li;rw[I7 (h 3 (by omega)),I7 (h 4 (by omega)),I7 (h 5 (by omega))]
omit h in
theorem I9(z i:Nat){x y:Nat}(h:Sm x y):Sm (fl3 z i x) (fl3 z i y):=Oz rfl (Sm.refl 0) h
theorem ahT(z:Nat):Vn (pG a z) (pG a' z):=by
 have h9:=h 9 (by omega)
 have t:Vn (tuE a) (tuE a'):=by
  unfold tuE Hs.jg;refine Hz (six (h 0 (by omega)) (h 1 (by omega)) (h 2 (by omega)) (h 0 (by omega)) (h 1 (by omega)) (h 2 (by omega))) ?_;have s0:=jW (h 0 (by omega)) (h 3 (by omega));have s1:=jW (h 1 (by omega)) (h 4 (by omega));have s2:=jW (h 2 (by omega)) (h 5 (by omega));exact six s0 s1 s2 s0 s1 s2
 unfold pG;exact six (nD (t 0 (by omega)) (I9 z 0 h9)) (nD (t 1 (by omega)) (I9 z 1 h9)) (nD (t 2 (by omega)) (I9 z 2 h9)) (jW (t 3 (by omega)) (I9 z 0 h9)) (jW (t 4 (by omega)) (I9 z 1 h9)) (jW (t 5 (by omega)) (I9 z 2 h9))
theorem ahU(z:Nat):Vn (pI a z) (pI a' z):=by
 have r:∀i,Sm (riA a z i) (riA a' z i):=λ i=>jW (I9 z i (h 9 (by omega))) (h 10 (by omega));unfold pI;exact six (nD (h 0 (by omega)) (r 0)) (nD (h 1 (by omega)) (r 1)) (nD (h 2 (by omega)) (r 2)) (jW (h 0 (by omega)) (r 0)) (jW (h 1 (by omega)) (r 1)) (jW (h 2 (by omega)) (r 2))
theorem aso(sk:Int):e1 a sk=e1 a' sk:=EZ h (by unfold Dg;rw[nC (h 9 (by omega)) (Sm.refl 0)]) (Y5 h)
theorem asq(sk:Int):e2 a sk=e2 a' sk:=EZ h (by unfold wW Cb;rw[nC (h 0 (by omega)) (h 3 (by omega)),nC (h 1 (by omega)) (h 4 (by omega)),nC (h 2 (by omega)) (h 5 (by omega))]) (ac4 h)
theorem asr(sk:Int):e3 a sk=e3 a' sk:=EZ h rfl (amn h)
theorem asu(sk:Int):e4 a sk=e4 a' sk:=EZ h (by unfold wX;rw[nC (h 9 (by omega)) (Sm.refl 0),ac3 (h 3 (by omega)) (h 4 (by omega)) (h 5 (by omega))]) (Y5 h)
theorem asv(sk:Int):e5 a sk=e5 a' sk:=EZ h (by unfold Dh;rw[ac5 h,nC (h 9 (by omega)) (Sm.refl 0)]) (by rw[akY h];exact ahT h _)
theorem asw(sk:Int):e6 a sk=e6 a' sk:=EZ h (by unfold Di;rw[ac5 h,nC (h 10 (by omega)) (Sm.refl 0),Vm (h 9 (by omega)) (h 10 (by omega))]) (by rw[akY h];exact ahU h _)
end
theorem Rb{k:Int}{a a':Nat->Nat}{sk:Int}(h:∀i,i<11->Sm (a' i) (a i))(hm:jG (fC k a sk)=0):aj bW 98 [SH k a' sk] (iA 0):=by
 obtain⟨_,hk,_⟩:=kI hm;obtain⟨z1,z2,z3,z4,z5,z6⟩:=ahV hm;have hk':k=1\/k=2\/k=3\/k=4\/k=5\/k=6:=by omega
 rcases hk' with rfl |rfl |rfl |rfl |rfl |rfl
 .exact yt (Rf a' sk ((aso h sk).trans (z1 rfl)))
 .exact yt (Rh a' sk ((asq h sk).trans (z2 rfl)))
 .exact yt (Ri a' sk ((asr h sk).trans (z3 rfl)))
 .exact yt (Rj a' sk ((asu h sk).trans (z4 rfl)))
 .exact yt (Rk a' sk ((asv h sk).trans (z5 rfl)))
 .exact yt (Rl a' sk ((asw h sk).trans (z6 rfl)))
section
variable{F G:Hs.Fm.Fd}(hW:F.W=G.W)(hH:F.H=G.H)(hn:F.n=G.n)(hs:F.hs=G.hs)(hk:F.sk=G.sk)(ha:∀i,i<3->Sm (F.at_ i) (G.at_ i))(hd:Sm F.sd G.sd)
include hW hH hn hs hk ha hd
theorem ahW:F.jM=G.jM:=by
 unfold Fd.jM Fd.E8 Fd.far Fd.ru;rw[hW,hH,hn,hs,hk,nE (ha 0 (by omega)) (ha 1 (by omega)) (ha 2 (by omega)),wV hd,nC hd (Sm.refl 0)]
omit hH hn hk in
theorem asx(q:Nat):∀i,i<3->Sm (pt F q i) (pt G q i):=by
 unfold pt;rw[hW,hs];intro i hi
 match i,hi with
 | 0,_=>exact jW (ha 0 (by omega)) (yY (Sm.refl _) hd)
 | 1,_=>exact jW (ha 1 (by omega)) (Sm.refl _)
 | 2,_=>exact jW (ha 2 (by omega)) (yY (Sm.refl _) hd)
omit hH hk in
theorem asy:Vn (bx F) (bx G):=by
 have p:∀q,Vn (pp (pt F q)) (pp (pt G q)):=λ q=>by
  have t:=asx hW hs ha hd q;unfold pp;exact six (t 0 (by omega)) (t 1 (by omega)) (t 2 (by omega)) (t 0 (by omega)) (t 1 (by omega)) (t 2 (by omega))
 unfold bx;rw[hn]
 have key:∀n,Vn (mJ (pt F) n) (mJ (pt G) n):=λ n=>by
  induction n with
  |zero=>exact p 0
  |succ n ih=>exact Hz ih (p n)
 exact key _
theorem Vq(hm:G.jM=0)(hb:(kM (bx G)==0)=true):aj bW 100 [.agg F.c] (iA 0):=by
 have e1:=(ahW hW hH hn hs hk ha hd).trans hm;have e2:(kM (bx F)==0)=true:=by rw[Y3 (asy hW hn hs ha hd)];exact hb
 obtain⟨⟨w,h,d⟩,_⟩:=Ja e1;have k:=Rm d e1;rw[e2]at k;exact Y6 k
end
end Go.Proofs.YtefphimaggjihaaGreatDoor.Pi.Rd
namespace Go.Gv
open Go.RowKit
theorem UF{P:Program}{f:FuncId}{args:Array Value}{w:World}{R R':Value->World->Prop}
  (h:Calls P f args w λ e w'=>∃v,e=.returned v/\R v w') (h':Calls P f args w λ e w'=>∃v,e=.returned v/\R' v w') (hi:P.inits.idxOf? f=none):∃v w',R v w'/\R' v w':=by
 have g:Calls P f args w λ |.returned v,w'=>R v w' |_,_=>False:=h.mono λ e w' ⟨v,he,q⟩=>by subst he;exact q
 have g':Calls P f args w λ |.returned v,w'=>R' v w' |_,_=>False:=h'.mono λ e w' ⟨v,he,q⟩=>by subst he;exact q
 obtain⟨n,v,w1,e1,r1⟩:=g.done hi;obtain⟨m,v',w2,e2,r2⟩:=g'.done hi;have a:=runN_ended e1 m;have b:=runN_ended e2 n;rw[Nat.add_comm,a]at b;injection b with ho hw
 injection ho with hv
 subst hv hw;exact⟨_,_,r1,r2⟩
def Yw:Prop:=∃(A:Nat->Prop) (w:World),(∀b,A b->b<w.heap.size)/\vC ⟨w,A,λ _=>none⟩
theorem ahk{P:Program}{f:Nat}{args:List AV}{m m':Int}(h:aj P f args (.x (.int .i64 m)))(h':aj P f args (.x (.int .i64 m')))(hi:P.inits.idxOf? f=none)(hw:Yw)(ht:∀E:Env,∃aZ:Array Value,dB E args aZ.toList):m=m':=by
 obtain⟨A,w,hA,hg⟩:=hw;obtain⟨aZ,hr⟩:=ht ⟨w,A,λ _=>none⟩;obtain⟨v,w',⟨r1,_⟩,⟨r2,_⟩⟩:=UF (R:=λ v w'=>rel ⟨w',A,λ _=>none⟩ (.x (.int .i64 m)) v/\Below w.heap.size w w') (R':=λ v w'=>rel ⟨w',A,λ _=>none⟩ (.x (.int .i64 m')) v/\Below w.heap.size w w') (h.2 A w aZ hA hr hg) (h'.2 A w aZ hA hr hg) hi;have e1:=bI.1 r1;have e2:=bI.1 r2;rw[e1]at e2;injection e2
end Go.Gv
namespace Go.Proofs.YtefphimaggjihaaGreatDoor.Pi.Rd
open Go.Shelf Go.RowKit Go.Gv
open Hs.Sc (fT)
open Hs Hs.So Hs.Sc Hs.Fm
open Go.Ev (dK aL Sm mU vg)
theorem akC(k:Int){a:Nat->Nat}(sk:Int)(hn:∀i,i<11->aL (a i)=false)(E:Env):∃aZ:Array Value,dB E [SH k a sk] aZ.toList:=by
 have f:∀i,i<11->rel E (.f (a i)) (.float .f64 (a i)):=λ i hi=>jB.2 ⟨a i,rfl,Go.Ev.iI (hn i hi)⟩;refine⟨#[.agg #[.int .i64 k,.float .f64 (a 0),.float .f64 (a 1),.float .f64 (a 2),.float .f64 (a 3),.float .f64 (a 4),.float .f64 (a 5),.float .f64 (a 6),.float .f64 (a 7),.float .f64 (a 8),.float .f64 (a 9),.float .f64 (a 10),.int .i64 sk]],aH.2 ⟨_,[],rfl,kV.2 ⟨_,rfl,?_⟩,bK.2 rfl⟩⟩;exact aH.2 ⟨_,_,rfl,bI.2 rfl,aH.2 ⟨_,_,rfl,f 0 (by decide),aH.2 ⟨_,_,rfl,f 1 (by decide),aH.2 ⟨_,_,rfl,f 2 (by decide),aH.2 ⟨_,_,rfl,f 3 (by decide),aH.2 ⟨_,_,rfl,f 4 (by decide),aH.2 ⟨_,_,rfl,f 5 (by decide),aH.2 ⟨_,_,rfl,f 6 (by decide),aH.2 ⟨_,_,rfl,f 7 (by decide),aH.2 ⟨_,_,rfl,f 8 (by decide),aH.2 ⟨_,_,rfl,f 9 (by decide),aH.2 ⟨_,_,rfl,f 10 (by decide),aH.2 ⟨_,_,rfl,bI.2 rfl,bK.2 rfl⟩⟩⟩⟩⟩⟩⟩⟩⟩⟩⟩⟩⟩
theorem aqG{k:Int}{a:Nat->Nat}{sk:Int}(h:aj bW 98 [SH k a sk] (iA 0))(hn:∀i,i<11->aL (a i)=false)(hw:Yw):jG (fC k a sk)=0 :=
 ahk (AP k a sk).1 h (by kernel_rfl) hw (akC k sk hn)
theorem Gf{tb:Nat->Bool}{P:Nat->dM}{n:Nat}(hP:PM n P):∀(f k fr:Nat),k<f->k<n->fr<=k->(∀j,fr<=j->j<=k->okJ P j)->UA P k=(k:Int) - fr+1->pX tb P f k=false->∀i,fr<=i->i<=k->(P i).op=0->CX tb (P i).k (P i).a (P i).sk=false
 | 0,_,_,h,_,_,_,_,_,_,_,_,_=>absurd h (azu _)
 |f+1,k,fr,hf,hk,hfr,hok,hsz,hb,i,hi,hik,hi0=>by
  by_cases h0:(P k).op=0
  .have e:fr=k:=by have:=(Le h0).1;omega
   have e2:i=k:=by omega
   subst e2;have eb:pX tb P (f+1) i=CX tb (P i).k (P i).a (P i).sk:=by show(if _ then _ else _)=_;rw[if_pos h0]
   rw[<-eb];exact hb
  .have eb:pX tb P (f+1) k=(pX tb P f (P k).l.toNat||pX tb P f (P k).r.toNat):=by show(if _ then _ else _)=_;rw[if_neg h0]
   rw[eb]at hb;obtain⟨bl,br⟩:=ahD.1 hb;rcases hP k hk with h | ⟨_,hl,hr⟩
   .exact absurd h h0
   obtain⟨_,hj⟩:=hok k hfr (ao5 _);rcases hj with h | ⟨er,el⟩
   .exact absurd h h0
   obtain⟨s1,_⟩:=Du h0 hl.1 hl.2 hr.1 hr.2;rw[show(sd P k).1 (k - 1)=UA P (k - 1) from(EM (by omega)).1]at el;have er2:(P k).r.toNat=k - 1:=by omega
   have hlk:(P k).l.toNat<n:=by omega
   have p1:=IJ hP hlk;have p2:=IJ (P:=P) hP (show k - 1<n by omega);rw[er2]at s1 br;have hl2:fr<=(P k).l.toNat:=by omega
   have hk':i≠k:=λ e=>by subst e;exact h0 hi0
   by_cases hm:i<=(P k).l.toNat
   .exact Gf hP f (P k).l.toNat fr (by omega) hlk hl2 (λ j h1 h2=>hok j h1 (by omega)) (by omega) bl i hi hm hi0
   .exact Gf hP f (k - 1) ((P k).l.toNat+1) (by omega) (by omega) (by omega) (λ j h1 h2=>hok j (by omega) (by omega)) (by omega) br i (by omega) (by omega) hi0
theorem leaves{n:Nat}{P:Nat->dM}(h1:1<=n)(hP:PM n P)(hb:O4 bG n P=false):(∀j,j<n->lV (P j)=true)/\∀i,i<n->(P i).op=0->CX bG (P i).k (P i).a (P i).sk=false:=by
 unfold O4 at hb
 have har:Fg n P=true:=by
  cases ha:Fg n P
  .rw[ha]at hb;cases hb
  .rfl
 rw[har]at hb
 have ha:arP n P:=by
  unfold Fg at har;exact @of_decide_eq_true _ (_) har
 have e1:n - 1+1=n:=by omega
 have hsz:UA P (n - 1)=(n:Nat):=by unfold UA;rw[e1];exact ha.2.1
 exact⟨λ j hj=>(ha.1 j hj).1,λ i hi h0=>Gf hP n (n - 1) 0 (by omega) (by omega) (by omega) (λ j _ hj=>ha.1 j (by omega)) (by omega) hb i (by omega) (by omega) h0⟩
theorem au5{k:Int}{a:Nat->Nat}{sk:Int}(hk:1<=k/\k<=6)(h:CX bG k a sk=false):∀i,i<11->Sm (cX k (rd a) i) (a i):=λ i hi=>mU (Hw hk h i hi)
theorem aft{p:dM}(h:lV p=true)(h0:p.op=0):p.l=0/\p.r=0/\p.sk=0:=by
 unfold lV at h;rw[h0]at h;have h:cond (cond (p.l==0) (p.r==0) false) (p.sk==0) false=true:=h;cases h1:(p.l==0)
 .rw[h1]at h;cases h
 .cases h2:(p.r==0)
  .rw[h1,h2]at h;cases h
  .rw[h1,h2]at h
   exact⟨eq_of_beq h1,eq_of_beq h2,eq_of_beq h⟩
theorem aco{n:Nat}{P:Nat->dM}{sk:Int}(hs:Ms n P sk=0)(hb:O4 bG n P=false):aj bW 99 [.agg (Vs n (λ i=>sw (P i)) sk)] (iA 0):=by
 have sp:=NA n (λ i=>sw (P i)) sk;by_cases H:Yw
 .have e:Ms n (λ i=>sw (P i)) sk=0:=by
   have h1:1<=n:=by
    unfold Ms at hs;obtain⟨g1,_⟩:=c4 (by decide) hs;have:=of_decide_eq_false (tY g1).1;omega
   have hp:∀i,i<n->Iw P i=0:=by
    unfold Ms at hs;obtain⟨_,hs⟩:=c4 (by decide) hs;obtain⟨_,hs⟩:=c4 (by decide) hs;exact dh _ hs
   obtain⟨pm,hm⟩:=TJ hp;obtain⟨hbare,hsh⟩:=leaves h1 pm hb
   have hp':∀i,i<n->Iw (λ i=>sw (P i)) i=0:=λ i hi=>by
    have h:=hp i hi;unfold Iw at h ⊢;by_cases h0:(P i).op=0
    .have e:sw (P i)=⟨0,0,0,(P i).k,cX (P i).k (rd (P i).a),0⟩:=by unfold sw;rw[if_pos h0]
     have m:=hm i hi h0;obtain⟨_,_,s0⟩:=aft (hbare i hi) h0;rw[s0]at m;have hk:=(kI m).2.1;have S:=Hw hk (hsh i hi h0);have m':jG (fC (P i).k (cX (P i).k (rd (P i).a)) 0)=0:=aqG (Rb (λ j hj=>mU (S j hj)) m) (λ j hj=>(vg (S j hj)).1) H;unfold Qy at h;rw[h0]at h;have h:mlE (jG (fC (P i).k (P i).a (P i).sk)) (P i).k=0:=h;rw[s0,m]at h;show Qy (sw (P i)) (i:Nat)=0;rw[e];show mlE (jG (fC (P i).k (cX (P i).k (rd (P i).a)) 0)) (P i).k=0;rw[m'];exact h
    .have e:sw (P i)=⟨(P i).op,(P i).l,(P i).r,0,λ _=>0,0⟩:=by unfold sw;rw[if_neg h0]
     show Qy (sw (P i)) (i:Nat)=0;rw[e];unfold Qy at h ⊢;rw[beq_false_of_ne h0]at h;show cond ((P i).op==0) _ (cond (opB (P i).op) (cond (nmB (P i).l (P i).r (i:Nat)) 9 0) 11)=0;rw[beq_false_of_ne h0];exact h
   have e2:=Al n hp';unfold Ms at hs ⊢;obtain⟨g1,hs⟩:=c4 (by decide) hs;obtain⟨g2,_⟩:=c4 (by decide) hs;rw[g1,g2,e2];rfl
  rw[e]at sp;exact sp
 .exact⟨sp.1,λ A w aZ hA _ hg=>absurd ⟨A,w,hA,hg⟩ H⟩
theorem akD{F:Hs.Fm.Fd}(h:Lr F.c=0):F.jM=0/\(kM (bx F)==0)=true:=by
 obtain⟨_,_,_,_,_,_,h7,h8⟩:dL (F.at_ 0) (F.at_ 1) (F.at_ 2)=true/\eP F.sd=true/\F.n<=64/\(2<=F.W/\F.W<=8/\2<=F.H/\F.H<=8)/\(0<=F.sk/\F.sk<16)/\(∀q,q<F.n->oO (F.hs q)=false)/\F.jM=0/\(kM (bx F)==0)=true:=(uJ F).2 h;exact⟨h7,h8⟩
def aoF(F:Hs.Fm.Fd):Hs.Fm.Fd:=⟨F.W,F.H,λ i=>dW (F.at_ i),dW F.sd,F.n,F.hs,F.sk⟩
theorem au6{F:Hs.Fm.Fd}(h:JI bG F=false):(∀i,i<3->Sm (dW (F.at_ i)) (F.at_ i))/\Sm (dW F.sd) F.sd:=by
 unfold JI at h;obtain⟨h1,h2⟩:=ahD.1 h;obtain⟨a0,a1,a2⟩:=oz h1;refine⟨λ i hi=>?_,mU (jc (jC h2))⟩
 match i,hi with
 | 0,_=>exact mU (jc a0)
 | 1,_=>exact mU (jc a1)
 | 2,_=>exact mU (jc a2)
theorem akE{e:Nat->Nat}(h:∀i,i<10->bG (e i)=true):∀i,i<10->Sm (FP (QT e) i) (e i):=λ i hi=>by
 match i,hi with
 | 0,hi=>exact mU (jc (h 0 hi))
 | 1,hi=>exact mU (jc (h 1 hi))
 | 2,hi=>exact mU (jc (h 2 hi))
 | 3,hi=>exact mU (jc (h 3 hi))
 | 4,hi=>exact mU (jc (h 4 hi))
 | 5,hi=>exact mU (jc (h 5 hi))
 | 6,hi=>exact mU (jc (h 6 hi))
 | 7,hi=>exact mU (jc (h 7 hi))
 | 8,hi=>exact mU (jc (h 8 hi))
 | 9,hi=>exact mU (jc (h 9 hi))
theorem ai1{s:fT}(h:yK s=0)(ht:Told s):Xp s:=by
 have hsk:=λ j hj=>ae1 (s:=s) h (j:=j) hj;unfold yK at h;obtain⟨_,h⟩:=c4 (by decide) h;obtain⟨_,h⟩:=c0 h;obtain⟨hT,h⟩:=c0 h;obtain⟨_,h⟩:=c0 h;obtain⟨_,hE⟩:=c4 (by decide) h;unfold thE at hT;obtain⟨hS,hT⟩:=c0 hT;obtain⟨hO,hF⟩:=c0 hT;refine⟨?_,hsk,λ j hj=>?_,λ j hj=>?_,λ j hj=>?_⟩
 .have e:=Pg (FP (QT s.eye))
  rw[amm (akE ht.eye),hE]at e;exact e
 .have m:jG (fC (s.S j).k (s.S j).a (s.S j).sk)=0:=Rt (dh _ hS j hj)
  exact Rb (au5 (kI m).2.1 (ht.S j hj)) m
 .exact aco (Rt (dh _ hO j hj)) (ht.O j hj)
 .have hf:Lr (s.F j).c=0:=Rt (dh _ hF j hj)
  obtain⟨h7,h8⟩:=akD hf;obtain⟨g1,g2⟩:=au6 (ht.F j hj);exact Vq (F:=aoF (s.F j)) (G:=s.F j) rfl rfl rfl rfl rfl g1 g2 h7 h8
end Go.Proofs.YtefphimaggjihaaGreatDoor.Pi.Rd
namespace Go.Proofs.YtefphimaggjihaaGreatDoor.Pi.Rd
open Go.Shelf Go.RowKit Go.Gv
open Hs Hs.So Hs.Sc Hs.Fm
open Go.Ev (dK)
def BD(a b:Nat):Bool:=cond (dK a b) true (cond (!dK a a) (!dK b b) false)
theorem ahw(a b:Nat):aj bW 85 [.f a,.f b] (bA (BD a b)):=aP aB av Tryz.func85 (by kernel_rfl) (by kernel_rfl) aA rfl (show ev bW [] [] aM Tryz.f85 [.f a,.f b] ret=oB (BD a b) by kernel_rfl)
def U4(a b c d e f:Nat):Bool:=cond (cond (BD a d) (BD b e) false) (BD c f) false
def LK1:List Entry:=[⟨85,eFF λ a b=>bA (BD a b)⟩]
theorem acA:∀e,e∈LK1->lg bW e:=bn (ET ahw) aB
theorem acB(a b c d e f:Nat):aj bW 84 [V a b c,V d e f] (bA (U4 a b c d e f)):=aP acA av Tryz.func84 (by kernel_rfl) (by kernel_rfl) aA rfl (show ev bW LK1 [] aM Tryz.f84 [V a b c,V d e f] ret=oB (U4 a b c d e f) by kernel_rfl)
def LK2:List Entry:=⟨84,YI λ a b c d e f=>bA (U4 a b c d e f)⟩::LK1
theorem alX:∀e,e∈LK2->lg bW e:=bn (qg acB) acA
def sSh(s u:IL):Bool:=cond (cond (cond (cond (cond (cond (s.k==u.k) (s.sk==u.sk) false) (U4 (s.a 0) (s.a 1) (s.a 2) (u.a 0) (u.a 1) (u.a 2)) false) (U4 (s.a 3) (s.a 4) (s.a 5) (u.a 3) (u.a 4) (u.a 5)) false) (U4 (s.a 6) (s.a 7) (s.a 8) (u.a 6) (u.a 7) (u.a 8)) false) (BD (s.a 9) (u.a 9)) false) (BD (s.a 10) (u.a 10)) false
theorem arn(s u:IL):ev bW LK2 [] aM Tryz.f29 [.agg s.c,.agg u.c] ret=oB (sSh s u):=by kernel_rfl
theorem YJ(s u:IL):aj bW 29 [.agg s.c,.agg u.c] (bA (sSh s u)):=aP alX av Tryz.func29 (by kernel_rfl) (by kernel_rfl) aA rfl (arn s u)
def aro:List AV->IL
 | [.x (.int .i64 k),.f a0,.f a1,.f a2,.f a3,.f a4,.f a5,.f a6,.f a7,.f a8,.f a9,.f GZ,.x (.int .i64 sk)]=>⟨k,ls [a0,a1,a2,a3,a4,a5,a6,a7,a8,a9,GZ],sk⟩
 |_=>⟨0,λ _=>0,0⟩
def gSS(c d:List AV):Bool:=sSh (aro c) (aro d)
def eSS(g:List AV->List AV->Bool):List AV->Option AV
 | [.agg [.x (.int .i64 k),.f a0,.f a1,.f a2,.f a3,.f a4,.f a5,.f a6,.f a7,.f a8,.f a9,.f GZ,.x (.int .i64 sk)],.agg [.x (.int .i64 k'),.f b0,.f b1,.f b2,.f b3,.f b4,.f b5,.f b6,.f b7,.f b8,.f b9,.f b10,.x (.int .i64 sk')]]=>some (bA (g [.x (.int .i64 k),.f a0,.f a1,.f a2,.f a3,.f a4,.f a5,.f a6,.f a7,.f a8,.f a9,.f GZ,.x (.int .i64 sk)] [.x (.int .i64 k'),.f b0,.f b1,.f b2,.f b3,.f b4,.f b5,.f b6,.f b7,.f b8,.f b9,.f b10,.x (.int .i64 sk')]))
 |_=>none
theorem alY:lg bW ⟨29,eSS gSS⟩:=λ args r hr=>by
 simp only[eSS]at hr;split at hr
 .cases hr;exact ER (YJ ⟨_,ls [_,_,_,_,_,_,_,_,_,_,_],_⟩ ⟨_,ls [_,_,_,_,_,_,_,_,_,_,_],_⟩)
 .cases hr
def dxB(i:Int)(n m:Nat):Bool:=(mI i n||false)&&((mI i m||false)&&true)
def v3B(a b c a' b' c':Nat):Bool:=dK a a'&&(dK b b'&&(dK c c'&&true))
section
variable(F G:Hs.Fm.Fd)(i:Int)
def fdN:Bool:=cond (cond (cond (cond (cond (!(F.W==G.W)) true (!(F.H==G.H))) true (!v3B (F.at_ 0) (F.at_ 1) (F.at_ 2) (G.at_ 0) (G.at_ 1) (G.at_ 2))) true (!dK F.sd G.sd)) true (!(F.sk==G.sk))) true (!((F.n:Int)==G.n))
def yG:St:=mkS 66 [(2,.own 0 0),(3,.own 1 0),(5,iA i)] [.c F.c,.c G.c]
def sfC(o oe:Option Out):Option Out:=cond (decide (i<F.n)) (cond (dxB i F.n G.n) (cond (!(F.hs i.toNat==G.hs i.toNat)) none o) none) oe
theorem Og:gD bW [] [] aM (au aDn 0) (yG F G i) (fu [2,3,5] [some 0,some 1])=sfC F G i (some ⟨.normal,yG F G (aI (i+1)),.any⟩) none:=by kernel_rfl
theorem U5:gD bW [] [] aM (au aDn 0) (yG F G i) (gM [2,3,5] [some 0,some 1])=sfC F G i none (some ⟨.exit 0,yG F G i,.any⟩):=by kernel_rfl
theorem acC:ev bW [] [] (gu 4 (fE [2,3,5] [some 0,some 1] (yG F G 0) (.exit 0) (yG F G F.n))) aDn [.agg F.c,.agg G.c] ret=cond (fdN F G) (oB false) (gate (Sub (yG F G 0) (yG F G 0)) (oB true)):=by kernel_rfl
end
section
variable(s u:fT)(i k:Int)
def e10(e f:Nat->Nat):Bool:=v3B (e 0) (e 1) (e 2) (f 0) (f 1) (f 2)&&(v3B (e 3) (e 4) (e 5) (f 3) (f 4) (f 5)&&(v3B (e 6) (e 7) (e 8) (f 6) (f 7) (f 8)&&(dK (e 9) (f 9)&&true)))
def i3(e f:Nat->Int):Bool:=(e 0==f 0)&&((e 1==f 1)&&((e 2==f 2)&&true))
def hdN:Bool:=cond (cond (cond (cond (cond (cond (!((s.nS:Int)==u.nS)) true (!((s.nK:Int)==u.nK))) true (!((s.nL:Int)==u.nL))) true (!((s.nO:Int)==u.nO))) true (!((s.nF:Int)==u.nF))) true (!i3 s.jE u.jE)) true (!e10 s.eye u.eye)
def wR(sl:Nat):St:=mkS 223 [(2,.own 0 0),(3,.own 1 0),(sl,iA i)] [.c s.c,.c u.c]
def gB(b:Bool):List AV->AV:=λ _=>bA b
def n1C(f n m:Nat)(c d:Nat->List AV)(o oe:Option Out):Option Out:=cond (decide (i<n)) (gate (aj bW f [.agg (c i.toNat),.agg (d i.toNat)] (bA true)) (cond (dxB i n m) o none)) oe
theorem ahx:gD bW [] [kS bW 29 (gB true)] aM (au azi 0) (wR s u i 5) (fu [2,3,5] [some 0,some 1])=n1C i 29 s.nS u.nS (λ q=>(s.S q).c) (λ q=>(u.S q).c) (some ⟨.normal,wR s u (aI (i+1)) 5,.any⟩) none:=by kernel_rfl
theorem alZ:gD bW [] [kS bW 29 (gB true)] aM (au azi 0) (wR s u i 5) (gM [2,3,5] [some 0,some 1])=n1C i 29 s.nS u.nS (λ q=>(s.S q).c) (λ q=>(u.S q).c) none (some ⟨.exit 0,wR s u i 5,.any⟩):=by kernel_rfl
theorem ahy:gD bW [] [kS bW 30 (gB true)] aM (au azi 3) (wR s u i 12) (fu [2,3,12] [some 0,some 1])=n1C i 30 s.nF u.nF (λ q=>(s.F q).c) (λ q=>(u.F q).c) (some ⟨.normal,wR s u (aI (i+1)) 12,.any⟩) none:=by kernel_rfl
theorem al0:gD bW [] [kS bW 30 (gB true)] aM (au azi 3) (wR s u i 12) (gM [2,3,12] [some 0,some 1])=n1C i 30 s.nF u.nF (λ q=>(s.F q).c) (λ q=>(u.F q).c) none (some ⟨.exit 6,wR s u i 12,.any⟩):=by kernel_rfl
def j3(a b c a' b' c':Int):Bool:=(a==a')&&((b==b')&&((c==c')&&true))
def i10(e f:Nat->Int):Bool:=j3 (e 0) (e 1) (e 2) (f 0) (f 1) (f 2)&&(j3 (e 3) (e 4) (e 5) (f 3) (f 4) (f 5)&&(j3 (e 6) (e 7) (e 8) (f 6) (f 7) (f 8)&&((e 9==f 9)&&true)))
def n5C(n m:Nat)(b:Bool)(o oe:Option Out):Option Out:=cond (decide (i<n)) (cond (dxB i n m) (cond (!b) none o) none) oe
theorem ahz:gD bW [] [] aM (au azi 4) (wR s u i 14) (fu [2,3,14] [some 0,some 1])=n5C i s.nK u.nK (i10 (s.K i.toNat) (u.K i.toNat)) (some ⟨.normal,wR s u (aI (i+1)) 14,.any⟩) none:=by kernel_rfl
theorem al1:gD bW [] [] aM (au azi 4) (wR s u i 14) (gM [2,3,14] [some 0,some 1])=n5C i s.nK u.nK (i10 (s.K i.toNat) (u.K i.toNat)) none (some ⟨.exit 8,wR s u i 14,.any⟩):=by kernel_rfl
def lm6(a b:Nat->Nat)(l m:Nat->Int):Bool:=v3B (a 0) (a 1) (a 2) (b 0) (b 1) (b 2)&&(j3 (l 0) (l 1) (l 2) (m 0) (m 1) (m 2)&&true)
theorem ahA:gD bW [] [] aM (au azi 5) (wR s u i 15) (fu [2,3,15] [some 0,some 1])=n5C i s.nL u.nL (lm6 (s.LA i.toNat) (u.LA i.toNat) (s.LL i.toNat) (u.LL i.toNat)) (some ⟨.normal,wR s u (aI (i+1)) 15,.any⟩) none:=by kernel_rfl
theorem al2:gD bW [] [] aM (au azi 5) (wR s u i 15) (gM [2,3,15] [some 0,some 1])=n5C i s.nL u.nL (lm6 (s.LA i.toNat) (u.LA i.toNat) (s.LL i.toNat) (u.LL i.toNat)) none (some ⟨.exit 10,wR s u i 15,.any⟩):=by kernel_rfl
end
section
variable(g:List AV->List AV->Bool)(s u:fT)(i:Int)(o w:QY)(k:Int)
def n3S:St:=mkS 223 [(2,.own 0 0),(3,.own 1 0),(6,iA i),(7,.own 2 0),(8,.own 3 0),(9,iA k)] [.c s.c,.c u.c,.c o.c,.c w.c]
def U6:List Nat:=[2,3,6,7,8,9]
def al3:List (Option Nat):=[some 0,some 1,some 2,some 3]
def pB(p q:dM):Bool:=cond (cond (cond (!(p.op==q.op)) true (!(p.l==q.l))) true (!(p.r==q.r))) true (!g p.s q.s)
def n3C(x xe:Option Out):Option Out:=cond (decide (k<o.n)) (cond (mI k o.n||false) (cond (mI k w.n||false) (cond (pB g (o.P k.toNat) (w.P k.toNat)) none x) none) none) xe
theorem ahB:gD bW [⟨29,eSS g⟩] [] aM (au azi 2) (n3S s u i o w k) (fu U6 al3)=n3C g o w k (some ⟨.normal,n3S s u i o w (aI (k+1)),.any⟩) none:=by kernel_rfl
theorem al4:gD bW [⟨29,eSS g⟩] [] aM (au azi 2) (n3S s u i o w k) (gM U6 al3)=n3C g o w k none (some ⟨.exit 4,n3S s u i o w k,.any⟩):=by kernel_rfl
def n2C(x xe:Option Out):Option Out:=cond (decide (i<s.nO)) (cond (mI i s.nO||false) (cond (mI i u.nO||false) (cond (cond (!((s.O i.toNat).sk==(u.O i.toNat).sk)) true (!(((s.O i.toNat).n:Int)==(u.O i.toNat).n))) none x) none) none) xe
def n2L(j:Nat):Nat->Option dN:=gu 16 (fE U6 al3 (n3S s u i (s.O j) (u.O j) 0) (.exit 4) (n3S s u i (s.O j) (u.O j) (s.O j).n))
theorem ahC:gD bW [] [] (n2L s u i i.toNat) (au azi 1) (wR s u i 6) (fu [2,3,6] [some 0,some 1])=n2C s u i (gate (Sub (n3S s u i (s.O i.toNat) (u.O i.toNat) 0) (n3S s u i (s.O i.toNat) (u.O i.toNat) 0)) (some ⟨.normal,wR s u (aI (i+1)) 6,.any⟩)) none:=by kernel_rfl
theorem al5:gD bW [] [] (gu 16 λ _ _=>none) (au azi 1) (wR s u i 6) (gM [2,3,6] [some 0,some 1])=n2C s u i none (some ⟨.exit 2,wR s u i 6,.any⟩):=by kernel_rfl
def snT(sl:Nat)(ex:Exit)(n:Nat):dN:=fE [2,3,sl] [some 0,some 1] (wR s u 0 sl) ex (wR s u n sl)
def snL:Nat->Option dN:=ny [(4,snT s u 5 (.exit 0) s.nS),(9,snT s u 6 (.exit 2) s.nO),(23,snT s u 12 (.exit 6) s.nF),(29,snT s u 14 (.exit 8) s.nK),(34,snT s u 15 (.exit 10) s.nL)]
def sG(sl:Nat)(x:Option Out):Option Out:=gate (Sub (wR s u 0 sl) (wR s u 0 sl)) x
theorem arp:ev bW [] [] (snL s u) azi [.agg s.c,.agg u.c] ret=cond (hdN s u) (oB false) (sG s u 5 (sG s u 6 (sG s u 12 (sG s u 14 (sG s u 15 (oB true)))))):=by kernel_rfl
end
end Go.Proofs.YtefphimaggjihaaGreatDoor.Pi.Rd
namespace Go.Proofs.YtefphimaggjihaaGreatDoor.Pi.Rd
open Go.Shelf Go.RowKit Go.Gv
open Hs Hs.So Hs.Sc Hs.Fm
open Go.Ev (dK Sm mU yV)
structure Alike(s u:fT):Prop where
 few:s.nS<=1000/\s.nO<=1000/\s.nF<=1000/\s.nK<=1000/\s.nL<=1000
 n:s.nS=u.nS/\s.nO=u.nO/\s.nF=u.nF/\s.nK=u.nK/\s.nL=u.nL
 S:∀q,q<s.nS->sSh (s.S q) (u.S q)=true
 O:∀q,q<s.nO->(s.O q).n<=1000/\(s.O q).n=(u.O q).n/\(s.O q).sk=(u.O q).sk/\∀i,i<(s.O q).n->pB gSS ((s.O q).P i) ((u.O q).P i)=false
 F:∀q,q<s.nF->(s.F q).n<=1000/\fdN (s.F q) (u.F q)=false/\(s.F q).hs=(u.F q).hs/\(s.F q).n=(u.F q).n
 K:∀q,q<s.nK->s.K q=u.K q
 LA:∀q,q<s.nL->v3B (s.LA q 0) (s.LA q 1) (s.LA q 2) (u.LA q 0) (u.LA q 1) (u.LA q 2)=true
 LL:∀q,q<s.nL->s.LL q=u.LL q
 jE:i3 s.jE u.jE=true
 eye:e10 s.eye u.eye=true
theorem TH{k n m:Nat}(h:k<n)(e:n=m):dxB (k:Nat) n m=true:=by subst e;unfold dxB;rw[gy h];rfl
theorem ajz{F G:Hs.Fm.Fd}(h:F.n<=1000)(hb:fdN F G=false)(hh:F.hs=G.hs)(hn:F.n=G.n):aj bW 30 [.agg F.c,.agg G.c] (bA true):=by
 have lead:bF bW (.loop (au aDn 0)) (yG F G 0) (.exit 0) (yG F G F.n):=by
  refine aU (λ k=>yG F G (k:Nat)) F.n (.exit 0) _ (by simp) (λ k hk=>?_) ?_
  .refine aF (aT _ _) aB av aA ((Og F G (k:Nat)).trans ?_)
   unfold sfC;rw[dec_lt hk,TH hk hn,hh,ay5,bD (by omega)];rfl
  .refine aF (bU _ _) aB av aA ((U5 F G (F.n:Nat)).trans ?_)
   unfold sfC;rw[bQ,cond_false]
 refine aP aB av Tryz.func30 (by kernel_rfl) (by kernel_rfl) (eZ 0 1 (by kernel_rfl) (by kernel_rfl) (aR lead)) rfl ((acC F G).trans ?_);rw[hb,ah (Sub.refl _)];rfl
section
variable{s u:fT}
theorem afm(ok:Alike s u):bF bW (.loop (au azi 0)) (wR s u 0 5) (.exit 0) (wR s u s.nS 5):=by
 have few:=ok.few;refine aU (λ k=>wR s u (k:Nat) 5) s.nS (.exit 0) _ (by simp) (λ k hk=>?_) ?_
 .have sp:=YJ (s.S k) (u.S k)
  rw[ok.S k hk]at sp;refine aF (aT _ _) aB jS aA ((ahx s u (k:Nat)).trans ?_);unfold n1C;rw[dec_lt hk,TH hk ok.n.1,Zk,ah sp,bD (by omega)];rfl
 .refine aF (bU _ _) aB jS aA ((alZ s u (s.nS:Nat)).trans ?_)
  unfold n1C;rw[bQ,cond_false]
theorem afn(ok:Alike s u):bF bW (.loop (au azi 3)) (wR s u 0 12) (.exit 6) (wR s u s.nF 12):=by
 have few:=ok.few;refine aU (λ k=>wR s u (k:Nat) 12) s.nF (.exit 6) _ (by simp) (λ k hk=>?_) ?_
 .obtain⟨h1,h2,h3,h4⟩:=ok.F k hk
  refine aF (aT _ _) aB jS aA ((ahy s u (k:Nat)).trans ?_);unfold n1C;rw[dec_lt hk,TH hk ok.n.2.2.1,Zk,ah (ajz h1 h2 h3 h4),bD (by omega)];rfl
 .refine aF (bU _ _) aB jS aA ((al0 s u (s.nF:Nat)).trans ?_)
  unfold n1C;rw[bQ,cond_false]
theorem ajA(a b c:Int):j3 a b c a b c=true:=by unfold j3;rw[ay5,ay5,ay5];rfl
theorem atS(e:Nat->Int):i10 e e=true:=by unfold i10;rw[ajA,ajA,ajA,ay5];rfl
theorem afo(ok:Alike s u):bF bW (.loop (au azi 4)) (wR s u 0 14) (.exit 8) (wR s u s.nK 14):=by
 have few:=ok.few;refine aU (λ k=>wR s u (k:Nat) 14) s.nK (.exit 8) _ (by simp) (λ k hk=>?_) ?_
 .refine aF (aT _ _) aB av aA ((ahz s u (k:Nat)).trans ?_)
  unfold n5C;rw[dec_lt hk,TH hk ok.n.2.2.2.1,Zk,ok.K k hk,atS,bD (by omega)];rfl
 .refine aF (bU _ _) aB av aA ((al1 s u (s.nK:Nat)).trans ?_)
  unfold n5C;rw[bQ,cond_false]
theorem afp(ok:Alike s u):bF bW (.loop (au azi 5)) (wR s u 0 15) (.exit 10) (wR s u s.nL 15):=by
 have few:=ok.few;refine aU (λ k=>wR s u (k:Nat) 15) s.nL (.exit 10) _ (by simp) (λ k hk=>?_) ?_
 .refine aF (aT _ _) aB av aA ((ahA s u (k:Nat)).trans ?_)
  unfold n5C lm6;rw[dec_lt hk,TH hk ok.n.2.2.2.2,Zk,ok.LA k hk,ok.LL k hk,ajA,bD (by omega)];rfl
 .refine aF (bU _ _) aB av aA ((al2 s u (s.nL:Nat)).trans ?_)
  unfold n5C;rw[bQ,cond_false]
theorem afq(i:Int){o w:QY}(h:o.n<=1000)(hn:o.n=w.n)(hp:∀q,q<o.n->pB gSS (o.P q) (w.P q)=false):bF bW (.loop (au azi 2)) (n3S s u i o w 0) (.exit 4) (n3S s u i o w o.n):=by
 have en:=bn alY aB;refine aU (λ k=>n3S s u i o w (k:Nat)) o.n (.exit 4) _ (by simp) (λ k hk=>?_) ?_
 .refine aF (aT _ _) en av aA ((ahB gSS s u i o w (k:Nat)).trans ?_)
  unfold n3C;rw[dec_lt hk,gy hk,gy (show k<w.n by omega),Zk,hp k hk,bD (by omega)];rfl
 .refine aF (bU _ _) en av aA ((al4 gSS s u i o w (o.n:Nat)).trans ?_)
  unfold n3C;rw[bQ,cond_false]
theorem aoE{i:Int}{j:Nat}(ok:Alike s u)(hj:j<s.nO):yN bW (n2L s u i j) (au azi 1) :=
 eZ 0 1 (by kernel_rfl) (by kernel_rfl) (aR (afq i (ok.O j hj).1 (ok.O j hj).2.1 (ok.O j hj).2.2.2))
theorem afr(ok:Alike s u):bF bW (.loop (au azi 1)) (wR s u 0 6) (.exit 2) (wR s u s.nO 6):=by
 have few:=ok.few;refine aU (λ k=>wR s u (k:Nat) 6) s.nO (.exit 2) _ (by simp) (λ k hk=>?_) ?_
 .obtain⟨_,h2,h3,_⟩:=ok.O k hk
  refine aF (aT _ _) aB av (aoE ok (by rw[Zk];exact hk)) ((ahC s u (k:Nat)).trans ?_);unfold n2C;rw[dec_lt hk,gy hk,gy (show k<u.nO by have:=ok.n.2.1;omega),Zk,h2,h3,ay5,ay5,ah (Sub.refl _),bD (by omega)];rfl
 .refine aF (bU _ _) aB av (iG 16) ((al5 s u (s.nO:Nat)).trans ?_)
  unfold n2C;rw[bQ,cond_false]
theorem ai2(ok:Alike s u):aj bW 10 [.agg s.c,.agg u.c] (bA true):=by
 refine aP aB av Tryz.func10 (by kernel_rfl) (by kernel_rfl) (dD (eZ 0 6 (by kernel_rfl) (by kernel_rfl) (aR (afm ok))) (dD (eZ 1 6 (by kernel_rfl) (by kernel_rfl) (aR (afr ok))) (dD (eZ 3 6 (by kernel_rfl) (by kernel_rfl) (aR (afn ok))) (dD (eZ 4 6 (by kernel_rfl) (by kernel_rfl) (aR (afo ok))) (dD (eZ 5 6 (by kernel_rfl) (by kernel_rfl) (aR (afp ok))) o7))))) rfl ((arp s u).trans ?_)
 have hd:hdN s u=false:=by
  unfold hdN;rw[ok.eye,ok.jE,ok.n.1,ok.n.2.1,ok.n.2.2.1,ok.n.2.2.2.1,ok.n.2.2.2.2,ay5,ay5,ay5,ay5,ay5];rfl
 unfold sG;rw[hd,ah (Sub.refl _),ah (Sub.refl _),ah (Sub.refl _),ah (Sub.refl _),ah (Sub.refl _)];rfl
end
def Nb(s:fT):fT:=⟨s.nS,λ q=>⟨(s.S q).k,cX (s.S q).k (rd (s.S q).a),(s.S q).sk⟩,s.nO,λ q=>⟨(s.O q).n,λ i=>sw ((s.O q).P i),(s.O q).sk⟩,s.nF,λ q=>aoF (s.F q),s.nK,s.K,s.nL,λ q i=>dW (s.LA q i),s.LL,s.jE,FP (QT s.eye)⟩
theorem Xn(s:fT):∀q,q<3->(Xo s).jE q=s.jE q:=λ q hq=>by
 show(((yJ s).map Prod.snd).getD (15+1+q) 0)=s.jE q;rw[ZU]
 match q,hq with
 | 0,_=>rfl
 | 1,_=>rfl
 | 2,_=>rfl
theorem anD(s:fT):scF (Xo s)=(Nb s).c:=by
 have e:scF (Xo s)=[(Nb s).vS,(Nb s).vO,(Nb s).vF,(Nb s).vK,(Nb s).vL,iA ((Xo s).jE 0),iA ((Xo s).jE 1),iA ((Xo s).jE 2),.f ((Nb s).eye 0),.f ((Nb s).eye 1),.f ((Nb s).eye 2),.f ((Nb s).eye 3),.f ((Nb s).eye 4),.f ((Nb s).eye 5),.f ((Nb s).eye 6),.f ((Nb s).eye 7),.f ((Nb s).eye 8),.f ((Nb s).eye 9)]:=rfl;rw[e,Xn s 0 (by omega),Xn s 1 (by omega),Xn s 2 (by omega)];rfl
theorem nW{x y:Nat}(h:dK x y=true):BD x y=true:=by unfold BD;rw[h];rfl
theorem afs{s u:IL}(hk:s.k=u.k)(hs:s.sk=u.sk)(h:∀i,i<11->dK (s.a i) (u.a i)=true):sSh s u=true:=by
 unfold sSh U4;rw[hk,hs,ay5,ay5,nW (h 0 (by omega)),nW (h 1 (by omega)),nW (h 2 (by omega)),nW (h 3 (by omega)),nW (h 4 (by omega)),nW (h 5 (by omega)),nW (h 6 (by omega)),nW (h 7 (by omega)),nW (h 8 (by omega)),nW (h 9 (by omega)),nW (h 10 (by omega))];rfl
theorem TI{a b c a' b' c':Nat}(h0:dK a a'=true)(h1:dK b b'=true)(h2:dK c c'=true):v3B a b c a' b' c'=true:=by unfold v3B;rw[h0,h1,h2];rfl
theorem aoG{p:dM}(h:eqZ p=true):p.k=0/\p.sk=0/\∀i,i<11->dK 0 (p.a i)=true:=by
 unfold eqZ at h;simp only[J8]at h;obtain⟨h0,h1,h2,h3,h4,h5,h6,_⟩:=h;obtain⟨a0,a1,a2⟩:=Af h1;obtain⟨a3,a4,a5⟩:=Af h2;obtain⟨a6,a7,a8⟩:=Af h3
 have z:∀{x:Nat},dK x 0=true->dK 0 x=true:=fun{x} h=>by
  rw[yV (Sm.refl 0) (mU h)];decide +kernel
 refine⟨eq_of_beq h0,eq_of_beq h6,λ i hi=>?_⟩
 match i,hi with
 | 0,_=>exact z a0
 | 1,_=>exact z a1
 | 2,_=>exact z a2
 | 3,_=>exact z a3
 | 4,_=>exact z a4
 | 5,_=>exact z a5
 | 6,_=>exact z a6
 | 7,_=>exact z a7
 | 8,_=>exact z a8
 | 9,_=>exact z h4
 | 10,_=>exact z h5
theorem alq{p q:dM}(h1:p.op=q.op)(h2:p.l=q.l)(h3:p.r=q.r)(hk:p.k=q.k)(hs:p.sk=q.sk)(h:∀i,i<11->dK (p.a i) (q.a i)=true):pB gSS p q=false:=by
 have e:gSS p.s q.s=true:=afs (s:=⟨p.k,ls [p.a 0,p.a 1,p.a 2,p.a 3,p.a 4,p.a 5,p.a 6,p.a 7,p.a 8,p.a 9,p.a 10],p.sk⟩) (u:=⟨q.k,ls [q.a 0,q.a 1,q.a 2,q.a 3,q.a 4,q.a 5,q.a 6,q.a 7,q.a 8,q.a 9,q.a 10],q.sk⟩) hk hs λ i hi=>by
  match i,hi with
  | 0,hi=>exact h 0 hi
  | 1,hi=>exact h 1 hi
  | 2,hi=>exact h 2 hi
  | 3,hi=>exact h 3 hi
  | 4,hi=>exact h 4 hi
  | 5,hi=>exact h 5 hi
  | 6,hi=>exact h 6 hi
  | 7,hi=>exact h 7 hi
  | 8,hi=>exact h 8 hi
  | 9,hi=>exact h 9 hi
  | 10,hi=>exact h 10 hi
 unfold pB;rw[e,h1,h2,h3,ay5,ay5,ay5];rfl
theorem aeM{s:fT}(h:yK s=0)(g:Good s)(t:Told s):Alike (Nb s) s:=by
 unfold yK at h;obtain⟨_,h⟩:=c4 (by decide) h;obtain⟨_,h⟩:=c0 h;obtain⟨hT,h⟩:=c0 h;unfold thE at hT;obtain⟨hS,hT⟩:=c0 hT;obtain⟨hO,hF⟩:=c0 hT;have k1:=g.fK;have k2:=g.fL;have k3:=g.fS;have k4:=g.fO;have k5:=g.fF;refine⟨⟨by show s.nS<=1000;omega,by show s.nO<=1000;omega,by show s.nF<=1000;omega,by show s.nK<=1000;omega,by show s.nL<=1000;omega⟩,⟨rfl,rfl,rfl,rfl,rfl⟩,λ q hq=>?_,λ q hq=>?_,λ q hq=>?_,λ _ _=>rfl,λ q hq=>?_,λ _ _=>rfl,?_,?_⟩
 .exact afs rfl rfl (Hw (g.S q hq).1 (t.S q hq))
 .obtain⟨h1,pm,_,_,_⟩:=g.O q hq
  obtain⟨hbare,hsh⟩:=leaves h1.1 pm (t.O q hq);have hso:Ms (s.O q).n (s.O q).P (s.O q).sk=0:=Rt (dh _ hO q hq)
  have hp:∀i,i<(s.O q).n->Iw (s.O q).P i=0:=by
   unfold Ms at hso;obtain⟨_,hso⟩:=c4 (by decide) hso;obtain⟨_,hso⟩:=c4 (by decide) hso;exact dh _ hso
  obtain⟨_,hm⟩:=TJ hp;refine⟨by show(s.O q).n<=1000;omega,rfl,rfl,λ i hi=>?_⟩;have hi:i<(s.O q).n:=hi;show pB gSS (sw ((s.O q).P i)) ((s.O q).P i)=false;by_cases h0:((s.O q).P i).op=0
  .obtain⟨b1,b2,b3⟩:=aft (hbare i hi) h0
   have hk:=(kI (hm i hi h0)).2.1;unfold sw;rw[if_pos h0];exact alq h0.symm b1.symm b2.symm rfl b3.symm (Hw hk (hsh i hi h0))
  .have hz:=hbare i hi
   unfold lV at hz;rw[beq_false_of_ne h0]at hz;obtain⟨z1,z2,z3⟩:=aoG hz;unfold sw;rw[if_neg h0];exact alq rfl rfl rfl z1.symm z2.symm z3
 .have hf:Lr (s.F q).c=0:=Rt (dh _ hF q hq)
  have fb:=t.F q hq;unfold JI at fb;obtain⟨f1,f2⟩:=ahD.1 fb;obtain⟨a0,a1,a2⟩:=oz f1;obtain⟨W,H,_,_,_,hW,hH,hWH,_⟩:=g.F q hq
  have hn:(s.F q).n<=1000:=by
   have:W*H<=8*8:=azQ hW hH;omega
  refine⟨hn,?_,rfl,rfl⟩;show fdN (aoF (s.F q)) (s.F q)=false;have e3:v3B (dW ((s.F q).at_ 0)) (dW ((s.F q).at_ 1)) (dW ((s.F q).at_ 2)) ((s.F q).at_ 0) ((s.F q).at_ 1) ((s.F q).at_ 2)=true:=TI (jc a0) (jc a1) (jc a2);have e4:=jc (jC f2);unfold fdN;show cond (cond (cond (cond (cond (!((s.F q).W==(s.F q).W)) true (!((s.F q).H==(s.F q).H))) true (!v3B (dW ((s.F q).at_ 0)) (dW ((s.F q).at_ 1)) (dW ((s.F q).at_ 2)) ((s.F q).at_ 0) ((s.F q).at_ 1) ((s.F q).at_ 2))) true (!dK (dW (s.F q).sd) (s.F q).sd)) true (!((s.F q).sk==(s.F q).sk))) true (!(((s.F q).n:Int)==(s.F q).n))=false;rw[e3,e4,ay5,ay5,ay5,ay5];rfl
 .obtain⟨a0,a1,a2⟩:=oz (t.L q hq)
  exact TI (jc a0) (jc a1) (jc a2)
 .show i3 s.jE s.jE=true
  unfold i3;rw[ay5,ay5,ay5];rfl
 .have e:=t.eye
  show e10 (FP (QT s.eye)) s.eye=true;have r:∀i,i<10->dK (dW (s.eye i)) (s.eye i)=true:=λ i hi=>jc (e i hi);unfold e10;show(v3B (dW (s.eye 0)) (dW (s.eye 1)) (dW (s.eye 2)) (s.eye 0) (s.eye 1) (s.eye 2)&&(v3B (dW (s.eye 3)) (dW (s.eye 4)) (dW (s.eye 5)) (s.eye 3) (s.eye 4) (s.eye 5)&&(v3B (dW (s.eye 6)) (dW (s.eye 7)) (dW (s.eye 8)) (s.eye 6) (s.eye 7) (s.eye 8)&&(dK (dW (s.eye 9)) (s.eye 9)&&true))))=true;rw[TI (r 0 (by omega)) (r 1 (by omega)) (r 2 (by omega)),TI (r 3 (by omega)) (r 4 (by omega)) (r 5 (by omega)),TI (r 6 (by omega)) (r 7 (by omega)) (r 8 (by omega)),r 9 (by omega)];rfl
end Go.Proofs.YtefphimaggjihaaGreatDoor.Pi.Rd
namespace Go.Proofs.YtefphimaggjihaaGreatDoor.Pi.Rd
open Go.Shelf Go.RowKit Go.Gv
open Hs Hs.So Hs.Sc Hs.Fm
def hvB(s:fT):Bool:=decide (aI (aI (aI (aI ((s.nS:Int)+s.nK)+s.nL)+s.nO)+s.nF)>99)
theorem SL(s:fT):aj bW 11 [.agg s.c] (bA (hvB s)):=aP aB av Tryz.func11 (by kernel_rfl) (by kernel_rfl) aA rfl (show ev bW [] [] aM Tryz.f11 [.agg s.c] ret=oB (hvB s) by kernel_rfl)
section
variable(s u:fT)(e:Int)(hv b:Bool)(t:ByteArray)
def awm:List aV:=[kS bW 11 (λ _=>bA hv),kS bW 12 (λ _=>.aN [zA ⟨#[]⟩,iA e])]
theorem aiW:ev bW [] (awm e hv) aM Tryz.f5 [.agg s.c] ret =
 gate (aj bW 11 [.agg s.c] (bA hv)) (cond hv (oB true) (gate (aj bW 12 [.agg s.c] (.aN [zA ⟨#[]⟩,iA e])) (cond (!(e==0)) (oB true) none))):=by kernel_rfl
def bkK:List aV:=[kS bW 11 (λ _=>bA hv),kS bW 12 (λ _=>.aN [zA t,iA 0]),kS bW 8 (λ _=>.aN [.agg u.c,iA 0]),kS bW 10 (λ _=>bA b)]
theorem anC:ev bW [] (bkK u hv b t) aM Tryz.f5 [.agg s.c] ret =
 gate (aj bW 11 [.agg s.c] (bA hv)) (cond hv (oB true) (gate (aj bW 12 [.agg s.c] (.aN [zA t,iA 0])) (gate (aj bW 8 [zA t] (.aN [.agg u.c,iA 0])) (gate (aj bW 10 [.agg u.c,.agg s.c] (bA b)) (oB (cond b (decide ((t.size:Int)>40)) false)))))):=by kernel_rfl
end
theorem Zv:∀(ts:List (List UInt8)),(∀x,x∈ts->x≠[])->2*ts.length<=(tks true ts).length
 | [],_=>aAv _
 |x::r,h=>by
  have ih:=Zv r λ y hy=>h y (by simp[hy]);have hx:=aAa.2 (h x (by simp));show 2*(r.length+1)<=([32]++(x++tks true r)).length;rw[uI,uI,azM];omega
theorem Zw{p:TP}{l:List TP}(h:yL (p::l)):p.1.length+2*l.length+3<=(Dj (p::l)).length:=by
 have h2:=Zv (l.map azy++[[59]]) λ x hx=>by
  rcases ayQ.1 hx with hx |hx
  .obtain⟨q,hq,rfl⟩:=azp.1 hx
   exact aeL (h q (by simp[hq]))
  .simp at hx;subst hx;simp
 have e:(Dj (p::l)).length=(p.1++tks true (l.map azy++[[59]])).length+1:=uI;rw[e,uI];rw[uI,aAL,azM]at h2;omega
theorem aiX{s:fT}(h:Good s):40<(x6 cK dF bG s).length:=by
 rw[Dl];unfold lns ln1;have ht:=Pm h;have t1:yL (eyP s.eye):=Zx _;have t2:yL (Jc s.jE):=aQ (ig rfl) (FI h.jE (by omega));have a1:3+2*13+3<=(Dj (eyP s.eye)).length:=Zw (p:=kP Fb) t1;have a2:3+2*3+3<=(Dj (Jc s.jE)).length:=Zw (p:=kP Fe) t2;rw[ayz,ay7,ay7,uI,uI,uI];omega
theorem LP(s:fT):aj bW 5 [.agg s.c] (bA true):=by
 have bad:∀e:Int,e≠0->aj bW 12 [.agg s.c] (.aN [zA ⟨#[]⟩,iA e])->aj bW 5 [.agg s.c] (bA true):=λ e he hp=>by
  refine aP aB (ak aD (ak aD av)) Tryz.func5 (by kernel_rfl) (by kernel_rfl) aA rfl ((aiW s e (hvB s)).trans ?_);rw[ah (SL s),ah hp,beq_false_of_ne he];cases hvB s<;>rfl
 by_cases h:yK s=0
 .have p:=Jg h
  cases hw:w6 cK dF bG s
  .rw[hw,cond_false]at p
   have g:=aiY h hw;have t:=aiZ hw;have r:=ai0 g (ai1 h t) (adx g);rw[anD]at r;refine aP aB (ak aD (ak aD (ak aD (ak aD av)))) Tryz.func5 (by kernel_rfl) (by kernel_rfl) aA rfl ((anC s (Nb s) (hvB s) true (lB (x6 cK dF bG s))).trans ?_);rw[ah (SL s),ah p,ah r,ah (ai2 (aeM h g t)),aY,decide_eq_true (by have:=aiX g;omega)];cases hvB s<;>rfl
  .rw[hw,cond_true]at p
   exact bad 11 (by decide) p
 .exact bad _ h (Nc h)
end Go.Proofs.YtefphimaggjihaaGreatDoor.Pi.Rd
namespace Go.Proofs.YtefphimaggjihaaGreatDoor
open Go.Gv Go.RowKit Go.ChangeShapes Go.WideShapes Go.ChangeAt
def rsl(n:Nat)(hs:Nat->Int):AV:=.sl 1 n λ i=>[iA (hs i)]
theorem adi{H:Type}{enc:TypeId × Value->H}{P:Program}{w:World}{r:Reach}{b0:Nat}{t:TypeId}{v:Value}{d:DataW H}{p:List MemPlace}{k:IntKind}(hu:P.underlying t=some (.int k))(hk:Mr P 1 t=some [.i k])(hv:aEx P w r b0 t v)
  (h:DataW.Trod enc P w 0 (λ _=>true) true t v d p):∃n,rel (Env.all w) (.x (.int k n)) v/\(Lit.int k n).wf=true:=by
 have hone:v.cells=#[v]:=by
  obtain⟨n,rfl,_⟩:=okWide_int hu hv;rfl
 obtain⟨fuel,hf⟩:=h;obtain⟨a,h1,h2⟩:=Rq hf hk hone;rw[Bn]at h1;obtain⟨n,rfl,hw⟩:=h1;exact⟨n,h2,hw⟩
def numOf(el:Nat->List AV)(i:Nat):Int:=match el i with
 | [.x (.int .i64 h)]=>h
 |_=>0
theorem ah5{E:Env}{sz n:Nat}{el sZ:Nat->List AV}{v:Value}(h:rel E (.sl sz n el) v)(he:∀i,i<n->sZ i=el i):rel E (.sl sz n sZ) v:=by
 have h:bN _ _ _:=h;show bN _ _ _;rw[bN]at h ⊢;obtain⟨a,c,h1,h2,h3⟩:=h;refine⟨a,c,h1,h2,?_⟩;rcases h3 with h3 | ⟨b,o,cs,e,fz,h4,h5,h6,h7⟩
 .exact ER h3
 .exact aaH ⟨b,o,cs,e,fz,h4,h5,h6,λ i hi=>by rw[he i hi];exact h7 i hi⟩
theorem Rs{k:Kd}{zs:List AV}(h:pK [k] zs):∃a,zs=[a]/\Bn k a:=by
 match zs,h with
 | [a],h=>exact⟨a,rfl,(oL.1 h).1⟩
 | [],h=>have:=pO h;simp at this
 |_::_::_,h=>have:=pO h;simp at this
theorem adj{H:Type}{enc:TypeId × Value->H}{P:Program}{w:World}{r:Reach}{b0:Nat}{t e:TypeId}{v:Value}{d:DataW H}{p:List MemPlace}(hu:P.underlying t=some (.slice e))(hk:Mr P 2 t=some [.l 1 [.i .i64]])(hv:aEx P w r b0 t v)
  (h:DataW.Trod enc P w 0 (λ _=>true) true t v d p):∃n hs,rel (Env.all w) (rsl n hs) v/\∀i,i<n->(Lit.int .i64 (hs i)).wf=true:=by
 have hone:v.cells=#[v]:=by
  obtain⟨a,len,cap,rfl⟩:=okWide_slice hu hv;rfl
 obtain⟨fuel,hf⟩:=h;obtain⟨a,h1,h2⟩:=Rq hf hk hone;rw[Bn]at h1;obtain⟨n,el,rfl,_,hel⟩:=h1
 have key:∀i,i<n->el i=[iA (numOf el i)]/\(Lit.int .i64 (numOf el i)).wf=true:=λ i hi=>by
  obtain⟨a,ha,hf⟩:=Rs (hel i hi);rw[Bn]at hf;obtain⟨m,rfl,hw⟩:=hf;have e:numOf el i=m:=by unfold numOf;rw[ha]
  rw[e];exact⟨ha,hw⟩
 exact⟨n,numOf el,ah5 h2 λ i hi=>(key i hi).1.symm,λ i hi=>(key i hi).2⟩
end Go.Proofs.YtefphimaggjihaaGreatDoor
namespace Go.Proofs.YtefphimaggjihaaGreatDoor.Hs.Sc
open Go.Gv Go.RowKit So Fm
end Go.Proofs.YtefphimaggjihaaGreatDoor.Hs.Sc
namespace Go.Proofs.YtefphimaggjihaaGreatDoor.Pi
open Go.Gv Go.RowKit Go.ChangeShapes Go.WideShapes Go.ChangeAt
theorem gn1 : bW.globalNamed "rayhouse/scene.opWords" = some 1 := by kernel_rfl
theorem gn2 : bW.globalNamed "internal/strconv.uint64pow10" = some 2 := by kernel_rfl
theorem gt1:(bW.globals[1]?).map (·.type)=some 184:=by kernel_rfl
theorem gt2:(bW.globals[2]?).map (·.type)=some 243:=by kernel_rfl
theorem Yu(E:Env):∀vs:List Value,pre E (vs.map .x) vs
 | []=>pre_nil
 |v::vs=>bE.2 ⟨v,vs,rfl,bI.2 rfl,Yu E vs⟩
theorem Mj{H:Type}{enc:TypeId × Value->H}{P:Program}{w:World}{base:Nat}{sp:Nat->Bool}{held:Bool}{fuel:Nat}{t e:TypeId}{n:Nat}{cs:List Value}{zs:List (List UInt8)}{p:List MemPlace}
  (ht:P.underlying t=some (.array n e)) (he:P.underlying e=some .string) (hce:P.cellsOf e=1) (hct:P.cellsOf t=n)
  (h:DataW.trod enc P w base sp held fuel t cs=some (.agg (zs.map λ z=>.lit (.string z)),p)):cs=zs.map λ z=>aBV ⟨z.toArray⟩:=by
 cases fuel with
 |zero=>simp[DataW.trod]at h
 |succ fuel =>
  simp only[DataW.trod,ht,hce,hct,Nat.mul_one]at h;split at h
  .rename_i hl
   obtain⟨xs,hm,hx⟩:=Option.map_eq_some_iff.1 h
   have hxs:xs.map (·.1)=zs.map λ z=>(DataW.lit (.string z):DataW H):=by
    have:=congrArg azy hx;simpa using this
   have hxl:xs.length=n:=by simpa using Lib.mapM_length hm
   have hzl:zs.length=n:=by
    have:=congrArg List.length hxs;simp at this;omega
   apply List.ext_getElem?;intro i;by_cases hi:i<n
   .obtain⟨b,hb,hf⟩:=Lib.mapM_at hm i i (by simp[hi])
    obtain⟨z,hc,rfl,_⟩:=DataW.trod_string he hf
    have h1:cs[i]?=some (.string z):=by
     have:=congrArg (·[0]?) hc;simpa[List.getElem?_take,List.getElem?_drop]using this
    have h2:(xs.map (·.1))[i]?=some (DataW.lit (.string z.data.toList):DataW H):=by simp[hb]
    rw[hxs]at h2;simp only[azh,Option.map_eq_some_iff,DataW.lit.injEq,Lit.string.injEq]at h2;obtain⟨z',hz',e'⟩:=h2;rw[h1,azh,hz',e'];rfl
   .rw[ayE (by omega),ayE (by simp;omega)]
  .cases h
def opS:List (List UInt8):=[[],[98,111,116,104],[101,105,116,104,101,114],[108,101,115,115]]
theorem tabs {W : World} (h : laidMet bW Rows.scenePrintsRow.laid W) : aDN bW W "internal/strconv.uint64pow10" .u64 aAx /\ W.var? bW "rayhouse/scene.opWords" = some (opS.map λ z => aBV ⟨z.toArray⟩).toArray := by
 obtain⟨ps,⟨_,_,_,_,_,_,_,_,_,_,⟨_,_,_,_,_,_,_,_,_,_,⟨g,t,cs,fuel,p,q,hg,ht,hvar,hd,⟨_,_,_,_,_,_,_,_,_,_,⟨g',t',cs',fuel',p',q',hg',ht',au4,hd',_,_⟩,_⟩,_⟩,_⟩,_⟩,_⟩:=h;constructor
 .obtain rfl:=azw (gn2.symm.trans hg)
  obtain rfl:=azw (gt2.symm.trans ht);unfold aDN;rw[hvar,<-Lib.cells_of_tab (zs:=aAx) Tryz.underlying243 Tryz.underlying223 (by kernel_rfl) (by kernel_rfl) hd]
 .obtain rfl:=azw (gn1.symm.trans hg')
  obtain rfl:=azw (gt1.symm.trans ht');rw[au4,<-Mj (zs:=opS) Tryz.underlying184 Tryz.underlying9 (by kernel_rfl) (by kernel_rfl) hd']
theorem ajW{W:World}(h:laidMet bW Rows.scenePrintsRow.laid W):vC ⟨W,λ _=>False,λ _=>none⟩:=by
 obtain⟨h2,h1⟩:=tabs h;have k2:known 2=some ((aAx.map λ z=>aAP .u64 z).map .x):=by kernel_rfl
 have k1:known 1=some ((opS.map λ z=>aBV ⟨z.toArray⟩).map .x):=by kernel_rfl
 unfold aDN World.var? at h2;unfold World.var? at h1;rw[gn2]at h2;rw[gn1]at h1;simp only[Option.bind_some]at h1 h2;intro g l hl
 have hg:g=1\/g=2:=by
  unfold known at hl;cases e1:ax0 g 1
  .cases e2:ax0 g 2
   .rw[e1,e2]at hl;cases hl
   .exact aaH (axO e2)
  .exact ER (axO e1)
 rcases hg with rfl |rfl
 .obtain rfl:=azw (k1.symm.trans hl)
  split at h1
  .rename_i cs e fz hh
   simp only[jN]at h1;constructor
   .show bN _ _ _
    rw[bN];refine⟨1,0,cs,e,fz,rfl,λ hf=>hf,hh,?_⟩;rw[h1];show pre _ _ _;simpa using Yu (Env.fz ⟨W,λ _=>False,λ _=>none⟩) (opS.map λ z=>aBV ⟨z.toArray⟩)
   .intro cs' e' fz' hh'
    have:=hh.symm.trans hh';simp only[jN,Obj.cells.injEq]at this;rw[<-this.1,h1];simp
  .cases h1
 .obtain rfl:=azw (k2.symm.trans hl)
  split at h2
  .rename_i cs e fz hh
   simp only[jN]at h2;constructor
   .show bN _ _ _
    rw[bN];refine⟨2,0,cs,e,fz,rfl,λ hf=>hf,hh,?_⟩;rw[h2];show pre _ _ _;simpa using Yu (Env.fz ⟨W,λ _=>False,λ _=>none⟩) (aAx.map λ z=>aAP .u64 z)
   .intro cs' e' fz' hh'
    have:=hh.symm.trans hh';simp only[jN,Obj.cells.injEq]at this;rw[<-this.1,h2];simp
  .cases h2
def cell1{H:Type}:DataW H->List Value
 |.lit (.int k n)=>[.int k n]
 |.lit (.string s)=>[.string ⟨s.toArray⟩]
 |_=>[]
def alP{H:Type}:DataW H->List Value
 |.agg ds=>ds.flatMap cell1
 |d=>cell1 d
def cellsOf{H:Type}:DataW H->List Value
 |.agg ds=>ds.flatMap alP
 |d=>alP d
def lay(cs:List Value):Obj->Obj
 |.cells _ t frozen=>.cells cs.toArray t frozen
 |o=>o
def FU(os:Os):World :=
 let w0:=World.holding bW os ⟨#[],#[],[]⟩
 { w0 with heap:=(((((w0.heap.modify 6 (lay (cellsOf Rows.laid_unicode_utf8_acceptRanges (H:=Unit)))).modify 5 (lay (cellsOf Rows.laid_unicode_utf8_first))).modify 2 (lay (cellsOf Rows.laid_internal_strconv_uint64pow10 (H:=Unit)))).modify 3 (lay (cellsOf Rows.laid_math_bits_deBruijn32tab (H:=Unit)))).modify 4 (lay (cellsOf Rows.laid_math_bits_deBruijn64tab (H:=Unit)))).modify 1 (lay (cellsOf Rows.laid_rayhouse_scene_opWords (H:=Unit))) }
end Go.Proofs.YtefphimaggjihaaGreatDoor.Pi
namespace Go.Proofs.YtefphimaggjihaaGreatDoor.Hs.So
open Go.Gv
open Go.Ev (cn bq dI bT fdiv d9 fI dK jO kL gN lK fabs)
def sfE(n:Nat)(hs:Nat->Int)(F N sk i:Int)(m:Nat)(pel:Nat->List AV)(k:Nat)(oel:Nat->List AV):St:=mkS 104 [(0,sI n hs),(1,iA F),(6,.own 0 0),(7,.own 1 0),(8,iA N),(9,.fJ 3 1 0 k),(10,iA i)] [.c [.x (.slice none 0 0),iA 0],.c [.fJ 2 16 0 m,iA sk],.a 71 16 m pel,.a 3 1 k oel]
def yG(n:Nat)(hs:Nat->Int)(F N sk i:Int)(m:Nat)(PL:Nat->dM)(k:Nat)(OL:Nat->Int):St:=sfE n hs F N sk i m (λ q=>(PL q).c) k λ q=>[iA (OL q)]
def sfN(n:Nat)(hs:Nat->Int)(F N sk:Int):St:=mkS 104 [(0,sI n hs),(1,iA F),(6,.own 0 0),(7,.own 1 0),(8,iA N),(9,.x (.slice none 0 0)),(10,iA 0)] [.c [.x (.slice none 0 0),iA 0],.c [.x (.slice none 0 0),iA sk]]
def nA:List Nat:=[0,1,6,7,8,9,10]
section
variable(n:Nat)(hs:Nat->Int)(F:Int)(pf:Int->Int->Int)(rf:Int->Int)(N sk i:Int)(m:Nat)(PL:Nat->dM)(k:Nat)(OL:Nat->Int)(K:Int->Int)(A:Int->Nat->Nat)(S:Int->Int)
def sfT:Bool:=cond (decide ((k:Int)>1)) (cond (i==aI (N - 1)) true (pf (rf (aI (F+i))) 2==0)) false
def k2(k:Nat):Int:=aI ((k:Int) - 2)
def k1(k:Nat):Int:=aI ((k:Int) - 1)
def acE:Bool:=(mI (k2 k) k||false)&&((bl' (k2 k) k)&&((mI (k1 k) k||false)&&((bl' (k1 k) k)&&((M4 m 128||false)&&true))))
def LD:Nat:=KE none (some (k2 k)) k
def acF:Bool:=(Bh none (some (k2 k)) none k||false)&&((((aqE (LD k) k)&&aqE ((LD k+1)*8) 140737488355328)||false)&&true)
def zsP(op l r:Int):dM:=⟨op,l,r,0,λ _=>0,0⟩
def sfP:dM:=zsP (aI (1+pf (rf (aI (aI (F+3)+i))) 3)) (OL (0+(k2 k).toNat)) (OL (0+(k1 k).toNat))
def sfC(o oe:Option Out):Option Out:=gR n hs rf (aI (F+i)) (cond (sfT F pf rf N i k) (gR n hs rf (aI (aI (F+3)+i)) (cond (acE m k) (cond (acF k) o none) none)) oe)
def MP(pf:Int->Int->Int):List Entry:=[⟨21,ePk pf⟩]
theorem arv:gD bW (MP pf) [Gj rf] aM (au azj 1) (yG n hs F N sk i m PL k OL) (fu nA [some 0,some 1,some 5,some 7])=sfC n hs F pf rf N i m k (some ⟨.normal,sfE n hs F N sk i (m+1) (λ q=>dn (afC q m) (PL q).c (sfP F pf rf i k OL).c) (LD k+1) (λ q=>dn (afC q (LD k)) [iA (OL q)] [iA (aI (((m+1:Nat):Int) - 1))]),.any⟩) none:=by kernel_rfl
theorem al7:gD bW (MP pf) [Gj rf] aM (au azj 1) (yG n hs F N sk i m PL k OL) (gM nA [some 0,some 1,some 2,some 3])=sfC n hs F pf rf N i m k none (some ⟨.exit 2,yG n hs F N sk i m PL k OL,.any⟩):=by kernel_rfl
def lkG(K:Int->Int)(A:Int->Nat->Nat)(S:Int->Int):List AV->AV
 | [_,.x (.int .i64 f)]=>SH (K f) (A f) (S f)
 |_=>.any
def lkK:aV:=kS bW 112 (lkG K A S)
def sfF(i:Int):Int:=aI (aI (F+2)+aI (9*i))
def lfP(f:Int):dM:=⟨0,0,0,K f,A f,S f⟩
def gLf(f:Int)(o:Option Out):Option Out:=gate (aj bW 112 [sI n hs,iA f] (SH (K f) (A f) (S f))) o
theorem acH:gD bW (MP pf) [Gj rf,lkK K A S] aM (au azj 0) (sfN n hs F N sk) (fu nA [some 0,some 1,some 3,some 5])=cond (decide (0<N)) (gLf n hs K A S (sfF F 0) (gR n hs rf (aI (F+0)) (some ⟨.normal,sfE n hs F N sk (aI (0+1)) 1 (λ q=>dn (afC q 0) [] (lfP K A S (sfF F 0)).c) 1 (λ q=>dn (afC q 0) [] [iA 0]),.any⟩))) none:=by kernel_rfl
variable(m2:Nat)(PL1 PL2:Nat->dM)(k2':Nat)(OL1 OL2:Nat->Int)
def sfL:Nat->Option dN:=gu 9 (fE nA [some 0,some 1,some 5,some 7] (yG n hs F N sk i (m+1) PL1 (k+1) OL1) (.exit 2) (yG n hs F N sk i m2 PL2 k2' OL2))
def sfO(o:Option Out):Option Out:=cond ((M4 m 128||false)&&true) (cond ((aqE k k&&aqE ((k+1)*8) 140737488355328)||false) (gate (Sub (sfE n hs F N sk i (m+1) (λ q=>dn (afC q m) (PL q).c (lfP K A S (sfF F i)).c) (k+1) (λ q=>dn (afC q k) [iA (OL q)] [iA (aI (((m+1:Nat):Int) - 1))])) (yG n hs F N sk i (m+1) PL1 (k+1) OL1)) o) none) none
theorem Og:gD bW (MP pf) [Gj rf,lkK K A S] (sfL n hs F N sk i m k m2 PL1 PL2 k2' OL1 OL2) (au azj 0) (yG n hs F N sk i m PL k OL) (fu nA [some 0,some 1,some 2,some 3])=cond (decide (i<N)) (gLf n hs K A S (sfF F i) (sfO n hs F N sk i m PL k OL K A S PL1 OL1 (some ⟨.normal,yG n hs F N sk (aI (i+1)) m2 PL2 k2' OL2,.any⟩))) none:=by kernel_rfl
theorem U5:gD bW (MP pf) [Gj rf,lkK K A S] (gu 9 λ _ _=>none) (au azj 0) (yG n hs F N sk i m PL k OL) (gM nA [some 0,some 1,some 2,some 3])=cond (decide (i<N)) (gLf n hs K A S (sfF F i) (cond ((M4 m 128||false)&&true) (cond ((aqE k k&&aqE ((k+1)*8) 140737488355328)||false) none none) none)) (some ⟨.exit 0,yG n hs F N sk i m PL k OL,.any⟩):=by kernel_rfl
end
def q25:Nat:=4598175219545276416
def SN:Nat:=4602678819172646912
def z13:List AV:=[iA 0,.f 0,.f 0,.f 0,.f 0,.f 0,.f 0,.f 0,.f 0,.f 0,.f 0,.f 0,iA 0]
def llR(raw:AV)(fr:Int)(m:Nat)(el:Nat->List AV):St:=mkS 80 [(0,raw),(1,iA fr),(4,.own 0 0),(5,.fJ 1 1 0 m)] [.c z13,.a 3 1 m el]
def u7(raw:AV)(fr:Int)(m:Nat)(X:Nat->Int):St:=llR raw fr m λ q=>[iA (X q)]
def lG:List Nat:=[0,1,4,5]
def aqB(n m:Nat):Bool:=(aqE m n&&aqE ((m+1)*8) 140737488355328)||false
section
variable(raw:AV)(n:Nat)(hs:Nat->Int)(p:Option Addr)(c:Nat)(rf:Int->Int)(fr:Int)(m:Nat)(X:Nat->Int)
def llC(raw:AV)(f:(Nat->List AV)->Option Out)(oe:Option Out):Option Out:=cond (decide ((m:Int)<aI (fr+9))) (gate (aj bW 22 [raw,iA m] (iA (rf m))) (cond (aqB m m) (f λ q=>dn (afC q m) [iA (X q)] [iA (rf m)]) none)) oe
theorem ai6:gD bW [] [Gj rf] aM (au ay8 0) (u7 (sI n hs) fr m X) (fu lG [some 0,some 3])=llC rf fr m X (sI n hs) (λ el=>some ⟨.normal,llR (sI n hs) fr (m+1) el,.any⟩) none:=by kernel_rfl
theorem anG:gD bW [] [Gj rf] aM (au ay8 0) (u7 (sI n hs) fr m X) (gM lG [some 0,some 1])=llC rf fr m X (sI n hs) (λ _=>none) (some ⟨.exit 0,u7 (sI n hs) fr m X,.any⟩):=by kernel_rfl
theorem aeR:gD bW [] [Gj rf] aM (au ay8 0) (u7 (xE p c) fr m X) (fu lG [some 0,some 3])=llC rf fr m X (xE p c) (λ el=>some ⟨.normal,llR (xE p c) fr (m+1) el,.any⟩) none:=by kernel_rfl
theorem ai7:gD bW [] [Gj rf] aM (au ay8 0) (u7 (xE p c) fr m X) (gM lG [some 0,some 1])=llC rf fr m X (xE p c) (λ _=>none) (some ⟨.exit 0,u7 (xE p c) fr m X,.any⟩):=by kernel_rfl
end
section
variable(raw:AV)(n:Nat)(hs:Nat->Int)(p:Option Addr)(c:Nat)(fr:Int)(m:Nat)(X:Nat->Int)(k:Int)(a:Nat->Nat)(sk:Int)(rd:Nat->Nat)
def rdG(rd:Nat->Nat):List AV->AV
 | [.f x]=>.f (rd x)
 |_=>.any
def WH(x:Nat)(o:Option Out):Option Out:=gate (aj bW 147 [.f x] (.f (rd x))) o
def lX(v:Int):Nat->Int:=λ q=>cond (q==0+fr.toNat) v (X q)
def lA(i:Nat):Nat:=rd (bT (a i) q25)
def lO(B:Nat->Nat):Option Out:=some (Out.of (.agg [iA k,.f (lA a rd 0),.f (lA a rd 1),.f (lA a rd 2),.f (B 0),.f (B 1),.f (B 2),.f (a 6),.f (a 7),.f (a 8),.f (a 9),.f (a 10),iA sk]))
def lB:Nat->Nat:=ls [bq (lA a rd 0) (bq (a 9) one),bq (lA a rd 1) one,bq (lA a rd 2) SN]
def abl(e:Int):List aV:=[kS bW 21 λ _=>iA e,kS bW 111 λ _=>SH k a sk,kS bW 147 (rdG rd)]
def fz3(m:Nat):Bool:=((ax0 m m)&&((ax0 m m)&&((ax0 m m)&&true)))||false
def YW(e v:Int):Option Out:=ow' fr m (gate (aj bW 21 [iA (X (0+fr.toNat)),iA 3] (iA e)) (ow' fr m (cond (fz3 m) (gate (aj bW 111 [sI m (lX fr X v),iA fr,iA 1] (SH k a sk)) (WH rd (bT (a 0) q25) (WH rd (bT (a 1) q25) (WH rd (bT (a 2) q25)
 (cond (k==2) (WH rd (lB a rd 0) (WH rd (lB a rd 1) (WH rd (lB a rd 2) (lO k a sk rd (ls [rd (lB a rd 0),rd (lB a rd 1),rd (lB a rd 2)]))))) (lO k a sk rd (ls [a 3,a 4,a 5]))))))) none)))
def lfG(n:Nat):Bool:=((aqE 0 0)&&(afC 0 n&&(OQ n (λ _=>true)&&aqE ((0+n)*8) 140737488355328)))||false
theorem anH:qQ bW R4 (abl k a sk rd 0) [] (gu 2 (fE lG [some 0,some 2] (u7 (sI n hs) fr n X) (.exit 0) (u7 (sI n hs) fr m X))) (iH 5 (wS 1)) ay8 [sI n hs,iA fr] ret=cond (lfG n) (gate (Sub (llR (sI n hs) fr (0+n) λ q=>dn (afC q 0) [] [iA (hs (q - 0))]) (u7 (sI n hs) fr n X)) (YW fr m X k a sk rd 0 0)) none:=by kernel_rfl
theorem anI:qQ bW R4 (abl k a sk rd 1) [] (gu 2 (fE lG [some 0,some 2] (u7 (sI n hs) fr n X) (.exit 0) (u7 (sI n hs) fr m X))) (iH 5 (wS 1)) ay8 [sI n hs,iA fr] ret=cond (lfG n) (gate (Sub (llR (sI n hs) fr (0+n) λ q=>dn (afC q 0) [] [iA (hs (q - 0))]) (u7 (sI n hs) fr n X)) (YW fr m X k a sk rd 1 1)) none:=by kernel_rfl
theorem anJ:qQ bW R4 (abl k a sk rd 2) [] (gu 2 (fE lG [some 0,some 2] (u7 (sI n hs) fr n X) (.exit 0) (u7 (sI n hs) fr m X))) (iH 5 (wS 1)) ay8 [sI n hs,iA fr] ret=cond (lfG n) (gate (Sub (llR (sI n hs) fr (0+n) λ q=>dn (afC q 0) [] [iA (hs (q - 0))]) (u7 (sI n hs) fr n X)) (YW fr m X k a sk rd 2 4)) none:=by kernel_rfl
theorem anK:qQ bW R4 (abl k a sk rd 0) [] (gu 2 (fE lG [some 0,some 1] (u7 (xE p c) fr 0 X) (.exit 0) (u7 (xE p c) fr m X))) (iH 5 (wS 1)) ay8 [xE p c,iA fr] ret=gate (Sub (llR (xE p c) fr 0 λ _=>[]) (u7 (xE p c) fr 0 X)) (YW fr m X k a sk rd 0 0):=by kernel_rfl
theorem anL:qQ bW R4 (abl k a sk rd 1) [] (gu 2 (fE lG [some 0,some 1] (u7 (xE p c) fr 0 X) (.exit 0) (u7 (xE p c) fr m X))) (iH 5 (wS 1)) ay8 [xE p c,iA fr] ret=gate (Sub (llR (xE p c) fr 0 λ _=>[]) (u7 (xE p c) fr 0 X)) (YW fr m X k a sk rd 1 1):=by kernel_rfl
theorem anM:qQ bW R4 (abl k a sk rd 2) [] (gu 2 (fE lG [some 0,some 1] (u7 (xE p c) fr 0 X) (.exit 0) (u7 (xE p c) fr m X))) (iH 5 (wS 1)) ay8 [xE p c,iA fr] ret=gate (Sub (llR (xE p c) fr 0 λ _=>[]) (u7 (xE p c) fr 0 X)) (YW fr m X k a sk rd 2 4):=by kernel_rfl
end
end Go.Proofs.YtefphimaggjihaaGreatDoor.Hs.So
namespace Go.Proofs.YtefphimaggjihaaGreatDoor.Hs.So
open Go.Gv
open Go.Ev (cn bq dI bT fdiv d9 fI dK jO kL gN lK fabs VB)
theorem qh {l : List Entry} {ks : List aV} {ms : List fQ} {L : Nat -> Option dN} {Z : Nat -> Option mg} (hZ : ∀ i h, Z i = some h -> fZ 0 h) (hl : ∀ e, e ∈ l -> lg bW e) (hks : ∀ e, e ∈ ks -> tO bW e) (hms : ∀ e, e ∈ ms -> vU bW e) {f : Nat} {fn : Func} (hf : bW.funcs[f]? = some fn) (hnm : (fn.name == "runtime.NumGoroutine") = false) (hb : fn.body = some (dG fn)) (hL : yN bW L (dG fn))
  {args:List AV} (hlen:aqE args.length fn.ntmps=true) {r:AV} (h:qQ bW l ks ms L Z fn args ret=some (Out.of r)):aj bW f args r:=pq hZ (qN hl hks hms) (iJ (qN hl hks hms) (by kernel_rfl)) 40 hf hnm hb hL hlen h
theorem jU{l l':List AV}(h:l=l'):l'.length=l.length/\∀(E:Env) (cs:List Value),pre E l cs->pre E l' cs:=by subst h;exact⟨rfl,λ _ _ h=>h⟩
def YM(n:Nat)(hs:Nat->Int):Prop:=∀i,i<n->-9223372036854775808<=hs i/\hs i<=9223372036854775807
theorem WL{n:Nat}{hs:Nat->Int}(h:YM n hs){f:Nat}(hf:f<=200):∃(B C:Nat->Nat) (R Q:Nat),aj bW 111 [sI n hs,iA (f:Nat),iA 1] (SH (xK dO (dU n hs) (f:Nat)) (ls [pz n hs (aI ((f:Nat)+1)) 4000 0,pz n hs (aI ((f:Nat)+1)) 4000 1,pz n hs (aI ((f:Nat)+1)) 4000 2,B 0,B 1,B 2,C 0,C 1,C 2,R,Q]) (dO (dU n hs (aI ((f:Nat)+7))) 1))/\(xK dO (dU n hs) (f:Nat)=2->R=0):=by
 have h:∀i,i<n->-9223372036854775808<=hs i/\hs i<=9223372036854775807:=h;have P:∀j:Int,0<=j->j<=20->0<=aI ((f:Int)+j)/\aI ((f:Int)+j)<=1000:=λ j h1 h2=>by rw[aO (by omega) (by omega)];omega
 have p0:(0:Int)<=(f:Nat):=azv f;have p1:=P 1 (by decide) (by decide);have p4:=P 4 (by decide) (by decide);have p5:=P 5 (by decide) (by decide);have p6:=P 6 (by decide) (by decide);have p7:=P 7 (by decide) (by decide);have p8:=P 8 (by decide) (by decide);have p9:=P 9 (by decide) (by decide);have ax:=kH (m:=3) (gH h p6.1).1 (gH h p6.1).2 (by decide);have dd:=kH (m:=3) (gH h p4.1).1 (gH h p4.1).2 (by decide)
 have hD:xD dO (dU n hs) (f:Nat)≠0:=by
  unfold xD;generalize dO (dU n hs (aI ((f:Nat)+4))) 3=z at dd ⊢;rw[aO (by omega) (by omega)];omega
 obtain⟨x,y,w,hp⟩:∃x y w,aj bW 141 [V 0 0 0,iA (dO (dU n hs (aI ((f:Nat)+6))) 3),.f (gJ (aI (1+dO (dU n hs (aI ((f:Nat)+5))) 3000)))] (V x y w):=by
  generalize gJ (aI (1+dO (dU n hs (aI ((f:Nat)+5))) 3000))=t;have:dO (dU n hs (aI ((f:Nat)+6))) 3=0\/dO (dU n hs (aI ((f:Nat)+6))) 3=1\/dO (dU n hs (aI ((f:Nat)+6))) 3=2:=by omega
  rcases this with e |e |e<;>rw[e]
  .exact⟨_,_,_,aee 0 0 0 t⟩
  .exact⟨_,_,_,aef 0 0 0 t⟩
  .exact⟨_,_,_,aeg 0 0 0 t⟩
 have go:∃B C R Q,xX n hs dO gJ (dU n hs) (pz n hs) x y w (f:Nat)=xO dO (dU n hs) (pz n hs) (f:Nat) B C R Q/\(xK dO (dU n hs) (f:Nat)=2->R=0):=by
  have g56:∃B C R Q,x56 n hs dO gJ (dU n hs) (pz n hs) x y w (f:Nat)=xO dO (dU n hs) (pz n hs) (f:Nat) B C R Q:=by
   unfold x56 xPu;rw[cO p6.1,cO p5.1,ah hp,cO p8.1,cO p4.1,beq_false_of_ne hD];cases xK dO (dU n hs) (f:Nat)==6
   .exact⟨_,_,_,_,rfl⟩
   .exact⟨_,_,_,_,rfl⟩
  unfold xX;rw[cO p0,yR p1.1 p1.2 (ER rfl),cO p7.1,yR p4.1 p4.2 (aaH (ER rfl)),cO p8.1,cO p5.1,cO p6.1,yR p9.1 p9.2 (ER rfl)];cases h1:xK dO (dU n hs) (f:Nat)==1
  .cases h2:xK dO (dU n hs) (f:Nat)==2
   .have no:∀R:Nat,xK dO (dU n hs) (f:Nat)=2->R=0:=λ R e=>by rw[e]at h2;cases h2
    cases xK dO (dU n hs) (f:Nat)==3
    .cases xK dO (dU n hs) (f:Nat)==5
     .cases xK dO (dU n hs) (f:Nat)==6
      .show ∃B C R Q,x4 dO gJ (dU n hs) (pz n hs) (f:Nat)=_/\_
       unfold x4;cases jv (pz n hs (aI ((f:Nat)+4)) 3000 0) (pz n hs (aI ((f:Nat)+4)) 3000 1) (pz n hs (aI ((f:Nat)+4)) 3000 2)
       .exact⟨_,_,_,_,rfl,no _⟩
       .exact⟨_,_,_,_,rfl,no _⟩
      .obtain⟨B,C,R,Q,e⟩:=g56
       exact⟨B,C,R,Q,e,no _⟩
     .obtain⟨B,C,R,Q,e⟩:=g56
      exact⟨B,C,R,Q,e,no _⟩
    .exact⟨_,_,_,_,rfl,no _⟩
   .exact⟨_,_,_,_,rfl,λ _=>rfl⟩
  .exact⟨_,_,_,_,rfl,λ e=>by rw[e]at h1;cases h1⟩
 obtain⟨B,C,R,Q,e,hR⟩:=go;exact⟨B,C,R,Q,aP akW (ak aD (ak aD (ak aD av))) Tryz.func111 (by kernel_rfl) (by kernel_rfl) aA rfl ((adl n hs dO gJ (dU n hs) (pz n hs) x y w (f:Nat)).trans e),hR⟩
theorem WM{c:Nat}(hc:c=1074){n:Nat}{hs:Nat->Int}(h:YM n hs){fr:Int}(h0:0<=fr)(h1:fr<=1000)(i:Nat)(hi:i<=10):VB 1 (c+4) (pz n hs fr 4000 i):=by
 have h:∀i,i<n->-9223372036854775808<=hs i/\hs i<=9223372036854775807:=h;have p:0<=aI (fr+(i:Nat)):=by rw[aO (by omega) (by omega)];omega
 unfold pz Q7;rw[show aI (aI (2*4000)+1)=8001 by decide];have z:=kH (m:=8001) (gH h p).1 (gH h p).2 (by decide);generalize dO (dU n hs (aI (fr+(i:Nat)))) 8001=q at z ⊢;rw[aO (by omega) (by omega)];refine WO hc (by decide) ?_;show _<=8192;omega
def dW(x:Nat):Nat:=gJ (rdI x)
theorem ai3{c:Nat}(hc:c=1074){k:Int}{a:Nat->Nat}{sk:Int}(v0:VB 1 (c+4) (a 0))(v1:VB 1 (c+4) (a 1))(v2:VB 1 (c+4) (a 2))(h9:k=2->a 9=0):∃a',(WH dW (bT (a 0) q25) (WH dW (bT (a 1) q25) (WH dW (bT (a 2) q25)
 (cond (k==2) (WH dW (lB a dW 0) (WH dW (lB a dW 1) (WH dW (lB a dW 2) (lO k a sk dW (ls [dW (lB a dW 0),dW (lB a dW 1),dW (lB a dW 2)]))))) (lO k a sk dW (ls [a 3,a 4,a 5]))))))=some (Out.of (SH k a' sk)):=by
 have b0:VB 1 (c+4) (bT (a 0) q25):=WQ hc (by decide) v0;have b1:VB 1 (c+4) (bT (a 1) q25):=WQ hc (by decide) v1;have b2:VB 1 (c+4) (bT (a 2) q25):=WQ hc (by decide) v2;have gr:∀{j x:Nat} {o:Option Out},j<=46->VB 1 (c+j) x->WH dW x o=o:=λ hj h=>ah (ah6 (anF hc hj h));have d0:VB 1 (c+45) (lA a dW 0):=aeN hc (by decide) b0;have d1:VB 1 (c+45) (lA a dW 1):=aeN hc (by decide) b1;have d2:VB 1 (c+45) (lA a dW 2):=aeN hc (by decide) b2;rw[gr (by decide) b0,gr (by decide) b1,gr (by decide) b2];cases h2:k==2
 .exact⟨ls [lA a dW 0,lA a dW 1,lA a dW 2,a 3,a 4,a 5,a 6,a 7,a 8,a 9,a 10],rfl⟩
 .have h9:=h9 (by simpa using h2)
  have o1:VB 1 (c+45) one:=Go.Ev.FC (Go.Ev.vV (j:=0) hc (by decide +kernel)) (by omega);have oh:VB 1 (c+45) SN:=Go.Ev.FC (Go.Ev.vV (j:=0) hc (by decide +kernel)) (by omega)
  have o2:VB 1 (c+45) (bq (a 9) one):=by
   rw[h9];have z0:VB 1 (c+0) 0:=Go.Ev.ai4 1 (c+0);have z1:VB 1 (c+0) one:=Go.Ev.vV (j:=0) hc (by decide +kernel);have z2:VB 1 (c+(0+1)) (bq 0 one):=Pn hc (by decide) z0 z1;exact Go.Ev.FC z2 (by omega)
  have e0:VB 1 (c+(45+1)) (bq (lA a dW 0) (bq (a 9) one)):=Pn (j:=45) hc (by decide) d0 o2;have e1:VB 1 (c+(45+1)) (bq (lA a dW 1) one):=Pn (j:=45) hc (by decide) d1 o1;have e2:VB 1 (c+(45+1)) (bq (lA a dW 2) SN):=Pn (j:=45) hc (by decide) d2 oh;have l0:lB a dW 0=bq (lA a dW 0) (bq (a 9) one):=by unfold lB;rfl
  have l1:lB a dW 1=bq (lA a dW 1) one:=by unfold lB;rfl
  have l2:lB a dW 2=bq (lA a dW 2) SN:=by unfold lB;rfl
  rw[l0,l1,l2,cond_true,gr (j:=45+1) (by decide) e0,gr (j:=45+1) (by decide) e1,gr (j:=45+1) (by decide) e2];generalize dW (bq (lA a dW 0) (bq (a 9) one))=y0;generalize dW (bq (lA a dW 1) one)=y1;generalize dW (bq (lA a dW 2) SN)=y2;exact⟨ls [lA a dW 0,lA a dW 1,lA a dW 2,y0,y1,y2,a 6,a 7,a 8,a 9,a 10],rfl⟩
theorem AA{m:Nat}{X:Nat->Int}(hX:YM m X){f:Nat}(hf:f<=100)(hm:f+9<=m){e v:Int}(he:dO (X f) 3=e)(hv:0<=v/\v<=4):∃k a sk a',YW (f:Nat) m X k a sk dW e v=some (Out.of (SH k a' sk)):=by
 obtain⟨c,hc⟩:∃c,c=1074:=⟨_,rfl⟩
 have hY:YM m (lX (f:Nat) X v):=λ i hi=>by
  unfold lX;cases i==0+((f:Nat):Int).toNat
  .exact hX i hi
  .show -9223372036854775808<=v/\v<=9223372036854775807;omega
 obtain⟨B,C,R,Q,hS,hR⟩:=WL hY (f:=f) (by omega);have p1:0<=aI (((f:Nat):Int)+1)/\aI (((f:Nat):Int)+1)<=1000:=by rw[aO (by omega) (by omega)];omega
 have v0:=WM hc hY p1.1 p1.2 0 (by decide);have v1:=WM hc hY p1.1 p1.2 1 (by decide);have v2:=WM hc hY p1.1 p1.2 2 (by decide);generalize pz m (lX (f:Nat) X v) (aI ((f:Nat)+1)) 4000 0=x0 at hS v0;generalize pz m (lX (f:Nat) X v) (aI ((f:Nat)+1)) 4000 1=x1 at hS v1;generalize pz m (lX (f:Nat) X v) (aI ((f:Nat)+1)) 4000 2=x2 at hS v2;generalize xK dO (dU m (lX (f:Nat) X v)) (f:Nat)=k at hS hR;generalize dO (dU m (lX (f:Nat) X v) (aI ((f:Nat)+7))) 1=sk at hS
 have hp:aj bW 21 [iA (X (0+((f:Nat):Int).toNat)),iA 3] (iA e):=by
  subst he;rw[Zk,avB];exact acS rfl
 have f3:fz3 m=true:=by unfold fz3;rw[show ax0 m m=true from aBH m];rfl
 obtain⟨a',ht⟩:=ai3 hc (k:=k) (a:=ls [x0,x1,x2,B 0,B 1,B 2,C 0,C 1,C 2,R,Q]) (sk:=sk) v0 v1 v2 hR;refine⟨k,ls [x0,x1,x2,B 0,B 1,B 2,C 0,C 1,C 2,R,Q],sk,a',?_⟩;unfold YW;rw[atj (show f<m by omega),ah hp,atj (show f<m by omega),f3,cond_true,ah hS];exact ht
def LQ(n:Nat)(hs:Nat->Int)(q:Nat):Int:=cond (afC q n) (hs q) (dU n hs (q:Nat))
theorem xM{n:Nat}{hs:Nat->Int}(h:YM n hs)(m:Nat):YM m (LQ n hs):=λ i _=>by
 unfold LQ;cases hb:afC i n
 .exact gH h (azv i)
 .exact h i (Sr hb)
theorem ai5{raw:AV}{fr:Int}{m:Nat}{X:Nat->Int}{v:Int}(h:X m=v):Sub (llR raw fr (m+1) λ q=>dn (afC q m) [iA (X q)] [iA v]) (u7 raw fr (m+1) X):=by
 refine fP ⟨ER rfl,aaH (ER ⟨3,1,m+1,_,_,rfl,rfl,λ q hq=>jU ?_⟩),trivial⟩;cases hb:afC q m
 .have:=uw hb
  have eq:q=m:=by omega
  subst eq;subst h;rfl
 .rfl
theorem atl{m:Nat}(h:m<=1000):aqB m m=true:=by
 unfold aqB;rw[ah4 (ao5 m),ah4 (show(m+1)*8<=140737488355328 by omega)];rfl
theorem SQ{raw:AV}{n:Nat}{hs:Nat->Int}{f m:Nat}{X:Nat->Int}(hR:aj bW 22 [raw,iA (m:Nat)] (iA (dU n hs (m:Nat))))(hX:X m=dU n hs (m:Nat))(hm:m<f+9)(hf:f<=100)
  (ev:gD bW [] [Gj (dU n hs)] aM (au ay8 0) (u7 raw (f:Nat) m X) (fu lG [some 0,some 3])=llC (dU n hs) (f:Nat) m X raw (λ el=>some ⟨.normal,llR raw (f:Nat) (m+1) el,.any⟩) none):bF bW (au ay8 0) (u7 raw (f:Nat) m X) .normal (u7 raw (f:Nat) (m+1) X):=by
 refine(aF (aT lG [some 0,some 3]) aB (ak aD av) aA (ev.trans ?_)).sub (Sub.refl _) (ai5 hX);unfold llC;rw[decide_eq_true (show((m:Nat):Int)<aI (((f:Nat):Int)+9) by rw[aO (by omega) (by omega)];omega),ah hR,atl (by omega)];rfl
theorem Zy{raw:AV}{n:Nat}{hs:Nat->Int}{f m:Nat}{X:Nat->Int}(hm:f+9<=m)(hf:f<=100)
  (ev:gD bW [] [Gj (dU n hs)] aM (au ay8 0) (u7 raw (f:Nat) m X) (gM lG [some 0,some 1])=llC (dU n hs) (f:Nat) m X raw (λ _=>none) (some ⟨.exit 0,u7 raw (f:Nat) m X,.any⟩)):bF bW (au ay8 0) (u7 raw (f:Nat) m X) (.exit 0) (u7 raw (f:Nat) m X):=by
 refine aF (bU lG [some 0,some 1]) aB (ak aD av) aA (ev.trans ?_);unfold llC;rw[decide_eq_false (show ¬((m:Nat):Int)<aI (((f:Nat):Int)+9) by rw[aO (by omega) (by omega)];omega)];rfl
theorem aeO{n:Nat}{hs:Nat->Int}{q:Nat}(h:n<=q):LQ n hs q=dU n hs (q:Nat):=by
 unfold LQ;cases hb:afC q n
 .rfl
 .have:q<n:=Sr hb
  omega
theorem aeP(n:Nat)(hs:Nat->Int){f:Nat}(hf:f<=100):bF bW (.loop (au ay8 0)) (u7 (sI n hs) (f:Nat) n (LQ n hs)) (.exit 0) (u7 (sI n hs) (f:Nat) (n+(f+9 - n)) (LQ n hs)):=by
 refine aU (λ k=>u7 (sI n hs) (f:Nat) (n+k) (LQ n hs)) (f+9 - n) (.exit 0) _ (by simp) (λ k hk=>?_) ?_
 .exact SQ (arO (azv _)) (aeO (by omega)) (by omega) hf (ai6 n hs (dU n hs) (f:Nat) (n+k) (LQ n hs))
 .exact Zy (by omega) hf (anG n hs (dU n hs) (f:Nat) (n+(f+9 - n)) (LQ n hs))
theorem abh(p:Option Addr)(c:Nat)(hs:Nat->Int)(k:Nat):aj bW 22 [xE p c,iA (k:Nat)] (iA (dU 0 hs (k:Nat))) :=
 sp aB Tryz.func22 (by kernel_rfl) (by kernel_rfl) rfl (by kernel_rfl)
theorem aeQ(p:Option Addr)(c:Nat)(hs:Nat->Int){f:Nat}(hf:f<=100):bF bW (.loop (au ay8 0)) (u7 (xE p c) (f:Nat) 0 (LQ 0 hs)) (.exit 0) (u7 (xE p c) (f:Nat) (f+9) (LQ 0 hs)):=by
 refine aU (λ k=>u7 (xE p c) (f:Nat) k (LQ 0 hs)) (f+9) (.exit 0) _ (by simp) (λ k hk=>?_) ?_
 .exact SQ (abh p c hs k) (aeO (aAv _)) hk hf (aeR p c (dU 0 hs) (f:Nat) k (LQ 0 hs))
 .exact Zy (ao5 _) hf (ai7 p c (dU 0 hs) (f:Nat) (f+9) (LQ 0 hs))
theorem J2{n:Nat}{hs:Nat->Int}{fr:Int}:Sub (llR (sI n hs) fr (0+n) λ q=>dn (afC q 0) [] [iA (hs (q - 0))]) (u7 (sI n hs) fr n (LQ n hs)):=by
 rw[avB];refine fP ⟨ER rfl,aaH (ER ⟨3,1,n,_,_,rfl,rfl,λ q hq=>jU ?_⟩),trivial⟩;unfold LQ;rw[IQ hq];rfl
theorem J3{raw:AV}{fr:Int}{X:Nat->Int}:Sub (llR raw fr 0 λ _=>[]) (u7 raw fr 0 X):=fP ⟨ER rfl,aaH (ER ⟨3,1,0,_,_,rfl,rfl,λ q hq=>absurd hq (azu q)⟩),trivial⟩
theorem arw{n:Nat}{hs:Nat->Int}(h:YM n hs)(hn:n<=512){f:Nat}(hf:f<=100):∃k a sk,aj bW 112 [sI n hs,iA (f:Nat)] (SH k a sk):=by
 have hr:=xM h (f+1) f (by omega);have e3:=kH (m:=3) hr.1 hr.2 (by decide);have e3:dO (LQ n hs f) 3=0\/dO (LQ n hs f) 3=1\/dO (LQ n hs f) 3=2:=by omega
 by_cases h0:0<n
 .have hg:lfG n=true:=by
   unfold lfG;rw[IQ h0,Nf (λ _ _=>rfl),ah4 (show(0+n)*8<=140737488355328 by omega)];rfl
  have hL:=eZ (c:=dG ay8) (i:=2) 0 1 (by kernel_rfl) (by kernel_rfl) (aR (keep:=lG) (τ:=[some 0,some 2]) (aeP n hs hf));have hm:f+9<=n+(f+9 - n):=by omega
  rcases e3 with he |he |he
  .obtain⟨k,a,sk,a',hb⟩:=AA (xM h _) hf hm he (v:=0) (by decide)
   refine⟨k,a',sk,qh (gK (jq 1)) Dc (ak aD (ak aD (ak aD av))) bO Tryz.func112 (by kernel_rfl) (by kernel_rfl) hL rfl ((anH n hs (f:Nat) _ _ k a sk dW).trans ?_)⟩;rw[hg,cond_true,ah J2,hb]
  .obtain⟨k,a,sk,a',hb⟩:=AA (xM h _) hf hm he (v:=1) (by decide)
   refine⟨k,a',sk,qh (gK (jq 1)) Dc (ak aD (ak aD (ak aD av))) bO Tryz.func112 (by kernel_rfl) (by kernel_rfl) hL rfl ((anI n hs (f:Nat) _ _ k a sk dW).trans ?_)⟩;rw[hg,cond_true,ah J2,hb]
  .obtain⟨k,a,sk,a',hb⟩:=AA (xM h _) hf hm he (v:=4) (by decide)
   refine⟨k,a',sk,qh (gK (jq 1)) Dc (ak aD (ak aD (ak aD av))) bO Tryz.func112 (by kernel_rfl) (by kernel_rfl) hL rfl ((anJ n hs (f:Nat) _ _ k a sk dW).trans ?_)⟩;rw[hg,cond_true,ah J2,hb]
 .have e0:n=0:=by omega
  subst e0;have hL:∀p c,yN bW (gu 2 (fE lG [some 0,some 1] (u7 (xE p c) (f:Nat) 0 (LQ 0 hs)) (.exit 0) (u7 (xE p c) (f:Nat) (f+9) (LQ 0 hs)))) (dG ay8):=λ p c=>eZ (c:=dG ay8) (i:=2) 0 1 (by kernel_rfl) (by kernel_rfl) (aR (keep:=lG) (τ:=[some 0,some 1]) (aeQ p c hs hf))
  have key:∃k a sk,∀p c,aj bW 112 [xE p c,iA (f:Nat)] (SH k a sk):=by
   rcases e3 with he |he |he
   .obtain⟨k,a,sk,a',hb⟩:=AA (xM h (f+9)) hf (ao5 _) he (v:=0) (by decide)
    refine⟨k,a',sk,λ p c=>qh (gK (jq 1)) Dc (ak aD (ak aD (ak aD av))) bO Tryz.func112 (by kernel_rfl) (by kernel_rfl) (hL p c) rfl ((anK p c (f:Nat) _ _ k a sk dW).trans ?_)⟩;rw[ah J3,hb]
   .obtain⟨k,a,sk,a',hb⟩:=AA (xM h (f+9)) hf (ao5 _) he (v:=1) (by decide)
    refine⟨k,a',sk,λ p c=>qh (gK (jq 1)) Dc (ak aD (ak aD (ak aD av))) bO Tryz.func112 (by kernel_rfl) (by kernel_rfl) (hL p c) rfl ((anL p c (f:Nat) _ _ k a sk dW).trans ?_)⟩;rw[ah J3,hb]
   .obtain⟨k,a,sk,a',hb⟩:=AA (xM h (f+9)) hf (ao5 _) he (v:=4) (by decide)
    refine⟨k,a',sk,λ p c=>qh (gK (jq 1)) Dc (ak aD (ak aD (ak aD av))) bO Tryz.func112 (by kernel_rfl) (by kernel_rfl) (hL p c) rfl ((anM p c (f:Nat) _ _ k a sk dW).trans ?_)⟩;rw[ah J3,hb]
  obtain⟨k,a,sk,hk⟩:=key;refine⟨k,a,sk,aj.anN (args':=[sI 0 hs,iA (f:Nat)]) (λ E us hr=>?_) (hk none 0).1 rfl⟩;obtain⟨u,us',e0,r1,hr⟩:=aH.1 hr;obtain⟨p,c,q1⟩:=abj r1;exact⟨[xE p c,iA (f:Nat)],aH.2 ⟨u,us',e0,q1,hr⟩,hk p c⟩
end Go.Proofs.YtefphimaggjihaaGreatDoor.Hs.So
namespace Go.Proofs.YtefphimaggjihaaGreatDoor.Hs.So
open Go.Gv
open Go.Ev (cn bq dI bT fdiv d9 fI dK jO kL gN lK fabs)
def Runs(c:Code)(s:St)(e:Exit)(sf:St):Prop:=∃(S:Nat->St) (n:Nat),S 0=s/\(∀j,j<n->bF bW c (S j) .normal (S (j+1)))/\bF bW c (S n) e sf
theorem Runs.last{c:Code}{s sf:St}{e:Exit}(h:bF bW c s e sf):Runs c s e sf:=⟨λ _=>s,0,rfl,λ j hj=>absurd hj (azu j),h⟩
theorem Runs.cons{c:Code}{s s1 sf:St}{e:Exit}(h:bF bW c s .normal s1)(g:Runs c s1 e sf):Runs c s e sf:=by
 obtain⟨S,n,h0,h1,h2⟩:=g;refine⟨λ j=>match j with | 0=>s |j+1=>S j,n+1,rfl,λ j hj=>?_,h2⟩
 cases j with
 |zero=>show bF bW c s .normal (S 0);rw[h0];exact h
 |succ j=>exact h1 j (by omega)
theorem Runs.loop{c:Code}{s sf:St}{e:Exit}(he:e≠.normal)(h:Runs c s e sf):bF bW (.loop c) s e sf:=by
 obtain⟨S,n,rfl,h1,h2⟩:=h;exact aU S n e sf he h1 h2
theorem Db:∀e,e∈MP dO->lg bW e:=bn U7 aB
theorem arq(b:Bool)(P Q:dM):dn b P.c Q.c=(cond b P Q).c:=by cases b<;>rfl
theorem aaI(b:Bool)(x y:Int):dn b [iA x] [iA y]=[iA (cond b x y)]:=by cases b<;>rfl
section
variable{n:Nat}{hs:Nat->Int}{F:Nat}{N:Nat}{sk:Int}{i m k:Nat}{PL:Nat->dM}{OL:Nat->Int}
theorem al6(h:2<=k)(h':k<=100):k2 k=((k - 2:Nat):Int):=by unfold k2;rw[aO (by omega) (by omega)];omega
theorem avC(h:2<=k)(h':k<=100):k1 k=((k - 1:Nat):Int):=by unfold k1;rw[aO (by omega) (by omega)];omega
theorem acD(h:2<=k)(h':k<=100):LD k=k - 2:=by
 unfold LD;rw[al6 h h'];show(((k - 2:Nat):Int) - 0).toNat=k - 2;omega
theorem ahE(h:2<=k)(h':k<=100)(hm:m<=100):acE m k=true:=by
 unfold acE bl';rw[al6 h h',avC h h',gy (show k - 2<k by omega),gy (show k - 1<k by omega),Zk,Zk,avB,avB,IQ (show k - 2<k by omega),IQ (show k - 1<k by omega),qz (by omega)];rfl
theorem ahF(h:2<=k)(h':k<=100):acF k=true:=by
 unfold acF;rw[acD h h',al6 h h',ah4 (show k - 2<=k by omega),ah4 (show(k - 2+1)*8<=140737488355328 by omega)]
 have:Bh none (some ((k - 2:Nat):Int)) none k=true:=by
  unfold Bh;show(decide ((0:Int)<=0)&&(decide ((0:Int)<=((k - 2:Nat):Int))&&(decide (((k - 2:Nat):Int)<=(k:Int))&&decide ((k:Int)<=(k:Int)))))=true;rw[decide_eq_true (show(0:Int)<=((k - 2:Nat):Int) by omega),decide_eq_true (show((k - 2:Nat):Int)<=(k:Int) by omega),decide_eq_true (show(k:Int)<=(k:Int) by omega)];rfl
 rw[this];rfl
theorem ars(hF:F<=50)(hi:i<=10):0<=aI ((F:Int)+(i:Int)):=by rw[aO (by omega) (by omega)];omega
theorem aru(hF:F<=50)(hi:i<=10):0<=aI (aI ((F:Int)+3)+(i:Int)):=by rw[aO (n:=(F:Int)+3) (by omega) (by omega),aO (by omega) (by omega)];omega
theorem ahG(hF:F<=50)(hk:2<=k)(hk':k<=10)(hm:m<=100)(hi:i<=10)(hT:sfT (F:Nat) dO (dU n hs) (N:Nat) (i:Nat) k=true):∃PL' OL',bF bW (au azj 1) (yG n hs (F:Nat) (N:Nat) sk (i:Nat) m PL k OL) .normal (yG n hs (F:Nat) (N:Nat) sk (i:Nat) (m+1) PL' (k - 1) OL'):=by
 have hl:bF bW (au azj 1) (yG n hs (F:Nat) (N:Nat) sk (i:Nat) m PL k OL) .normal (sfE n hs (F:Nat) (N:Nat) sk (i:Nat) (m+1) (λ q=>dn (afC q m) (PL q).c (sfP (F:Nat) dO (dU n hs) (i:Nat) k OL).c) (LD k+1) (λ q=>dn (afC q (LD k)) [iA (OL q)] [iA (aI (((m+1:Nat):Int) - 1))])):=by
  refine aF (aT nA [some 0,some 1,some 5,some 7]) Db (ak aD av) aA ((arv n hs (F:Nat) dO (dU n hs) (N:Nat) sk (i:Nat) m PL k OL).trans ?_);unfold sfC;rw[cO (ars hF hi),hT,cond_true,cO (aru hF hi),ahE hk (by omega) hm,cond_true,ahF hk (by omega)];rfl
 refine⟨λ q=>cond (afC q m) (PL q) (sfP (F:Nat) dO (dU n hs) (i:Nat) k OL),λ q=>cond (afC q (LD k)) (OL q) (aI (((m+1:Nat):Int) - 1)),hl.sub (Sub.refl _) ?_⟩;rw[show LD k+1=k - 1 by rw[acD hk (by omega)];omega];exact fP ⟨ER rfl,ER rfl,aaH (ER ⟨71,16,m+1,_,_,rfl,rfl,λ q hq=>jU (arq _ _ _)⟩),aaH (ER ⟨3,1,k - 1,_,_,rfl,rfl,λ q hq=>jU (aaI _ _ _)⟩),trivial⟩
theorem acG(hF:F<=50)(hi:i<=10)(hT:sfT (F:Nat) dO (dU n hs) (N:Nat) (i:Nat) k=false):bF bW (au azj 1) (yG n hs (F:Nat) (N:Nat) sk (i:Nat) m PL k OL) (.exit 2) (yG n hs (F:Nat) (N:Nat) sk (i:Nat) m PL k OL):=by
 refine aF (bU nA [some 0,some 1,some 2,some 3]) Db (ak aD av) aA ((al7 n hs (F:Nat) dO (dU n hs) (N:Nat) sk (i:Nat) m PL k OL).trans ?_);unfold sfC;rw[cO (ars hF hi),hT];rfl
end
theorem YK{n:Nat}{hs:Nat->Int}{F:Nat}(hF:F<=50){N:Nat}{sk:Int}{i:Nat}(hi:i<=10):∀(j:Nat) (m k:Nat) (PL:Nat->dM) (OL:Nat->Int),k=j+1->k<=10->m+k<=50->∃m2 PL2 k2 OL2,Runs (au azj 1) (yG n hs (F:Nat) (N:Nat) sk (i:Nat) m PL k OL) (.exit 2) (yG n hs (F:Nat) (N:Nat) sk (i:Nat) m2 PL2 k2 OL2)/\1<=k2/\m<=m2/\m2+k2=m+k
 | 0,m,k,PL,OL,hk,_,_=>by
  subst hk;exact⟨m,PL,0+1,OL,Runs.last (acG hF hi rfl),by omega,by omega,rfl⟩
 |j+1,m,k,PL,OL,hk,h1,h2=>by
  cases hT:sfT (F:Nat) dO (dU n hs) (N:Nat) (i:Nat) k
  .exact⟨m,PL,k,OL,Runs.last (acG hF hi hT),by omega,by omega,rfl⟩
  .obtain⟨PL',OL',hs1⟩:=ahG (n:=n) (hs:=hs) (F:=F) (N:=N) (sk:=sk) (PL:=PL) (OL:=OL) hF (show 2<=k by omega) h1 (show m<=100 by omega) hi hT
   obtain⟨m2,PL2,k2,OL2,g1,g2,g3,g4⟩:=YK (n:=n) (hs:=hs) hF (N:=N) (sk:=sk) hi j (m+1) (k - 1) PL' OL' (by omega) (by omega) (by omega);exact⟨m2,PL2,k2,OL2,Runs.cons hs1 g1,g2,by omega,by omega⟩
section
variable{n:Nat}{hs:Nat->Int}{F:Nat}{N:Nat}{sk:Int}{K:Int->Int}{A:Int->Nat->Nat}{S:Int->Int}(hK:∀f:Nat,f<=100->aj bW 112 [sI n hs,iA (f:Nat)] (SH (K (f:Nat)) (A (f:Nat)) (S (f:Nat))))
include hK
theorem YL(hF:F<=50){i:Nat}(hi:i<=4){o:Option Out}:gLf n hs K A S (sfF (F:Nat) (i:Nat)) o=o:=by
 have e:sfF (F:Nat) (i:Nat)=((F+2+9*i:Nat):Int):=by
  unfold sfF;rw[aO (n:=(F:Int)+2) (by omega) (by omega),aO (n:=9*(i:Int)) (by omega) (by omega),aO (by omega) (by omega)];omega
 unfold gLf;rw[e];exact ah (hK _ (by omega))
theorem aaJ(hF:F<=50)(hN:0<N):∃PL OL,bF bW (au azj 0) (sfN n hs (F:Nat) (N:Nat) sk) .normal (yG n hs (F:Nat) (N:Nat) sk ((1:Nat):Int) 1 PL 1 OL):=by
 have hl:bF bW (au azj 0) (sfN n hs (F:Nat) (N:Nat) sk) .normal (sfE n hs (F:Nat) (N:Nat) sk (aI (0+1)) 1 (λ q=>dn (afC q 0) [] (lfP K A S (sfF (F:Nat) 0)).c) 1 (λ q=>dn (afC q 0) [] [iA 0])):=by
  refine aF (aT nA [some 0,some 1,some 3,some 5]) Db (ak aD (ak aD av)) aA ((acH n hs (F:Nat) dO (dU n hs) (N:Nat) sk K A S).trans ?_);rw[decide_eq_true (show(0:Int)<(N:Nat) by omega),cond_true];have h:=YL hK hF (i:=0) (by decide) (o:=gR n hs (dU n hs) (aI ((F:Int)+0)) (some ⟨.normal,sfE n hs (F:Nat) (N:Nat) sk (aI (0+1)) 1 (λ q=>dn (afC q 0) [] (lfP K A S (sfF (F:Nat) 0)).c) 1 (λ q=>dn (afC q 0) [] [iA 0]),.any⟩));exact h.trans (cO (by rw[aO (by omega) (by omega)];omega))
 refine⟨λ _=>lfP K A S (sfF (F:Nat) 0),λ _=>0,hl.sub (Sub.refl _) ?_⟩;rw[show aI (0+1)=((1:Nat):Int) by decide];refine fP ⟨ER rfl,ER rfl,aaH (ER ⟨71,16,1,_,_,rfl,rfl,λ q hq=>?_⟩),aaH (ER ⟨3,1,1,_,_,rfl,rfl,λ q hq=>?_⟩),trivial⟩
 .obtain rfl:q=0:=aBs.1 hq
  exact jU rfl
 .obtain rfl:q=0:=aBs.1 hq
  exact jU rfl
theorem acI(hF:F<=50){i m k:Nat}{PL:Nat->dM}{OL:Nat->Int}(hi:i<N)(hN:N<=4)(hk:1<=k)(hm:1<=m)(hmk:m+k<=20)(hk':k<=8):∃m' PL' k' OL',bF bW (au azj 0) (yG n hs (F:Nat) (N:Nat) sk (i:Nat) m PL k OL) .normal (yG n hs (F:Nat) (N:Nat) sk ((i+1:Nat):Int) m' PL' k' OL')/\1<=k'/\1<=m'/\m'+k'=m+k+2/\k'<=k+1:=by
 obtain⟨m2,PL2,k2,OL2,g1,g2,g3,g4⟩:=YK (n:=n) (hs:=hs) hF (N:=N) (sk:=sk) (i:=i) (by omega) k (m+1) (k+1) (λ q=>cond (afC q m) (PL q) (lfP K A S (sfF (F:Nat) (i:Nat)))) (λ q=>cond (afC q k) (OL q) (aI (((m+1:Nat):Int) - 1))) rfl (by omega) (by omega);refine⟨m2,PL2,k2,OL2,?_,g2,by omega,by omega,by omega⟩;have hL:yN bW (sfL n hs (F:Nat) (N:Nat) sk (i:Nat) m k m2 (λ q=>cond (afC q m) (PL q) (lfP K A S (sfF (F:Nat) (i:Nat)))) PL2 k2 (λ q=>cond (afC q k) (OL q) (aI (((m+1:Nat):Int) - 1))) OL2) (au azj 0):=eZ (c:=au azj 0) (i:=9) 0 1 (by kernel_rfl) (by kernel_rfl) (aR (keep:=nA) (τ:=[some 0,some 1,some 5,some 7]) (Runs.loop (by simp) g1));refine aF (aT nA [some 0,some 1,some 2,some 3]) Db (ak aD (ak aD av)) hL ((Og n hs (F:Nat) dO (dU n hs) (N:Nat) sk (i:Nat) m PL k OL K A S m2 _ PL2 k2 _ OL2).trans ?_);unfold sfO;rw[decide_eq_true (show((i:Nat):Int)<(N:Nat) by omega),cond_true,YL hK hF (by omega),qz (by omega),ah4 (ao5 k),ah4 (show(k+1)*8<=140737488355328 by omega),bD (n:=i) (by omega)];refine ah (fP ⟨ER rfl,ER rfl,aaH (ER ⟨71,16,m+1,_,_,rfl,rfl,λ q hq=>jU (arq _ _ _)⟩),aaH (ER ⟨3,1,k+1,_,_,rfl,rfl,λ q hq=>jU (aaI _ _ _)⟩),trivial⟩)
omit hK in
theorem ahH(c:Code):gI bW c λ _ _=>none:=⟨λ s k r h=>(by cases h),λ s s' e h=>(by have:=h λ _ _=>some ⟨.normal,s,.any⟩;cases this)⟩
omit hK in
theorem ahI{m k:Nat}{PL:Nat->dM}{OL:Nat->Int}:bF bW (au azj 0) (yG n hs (F:Nat) (N:Nat) sk (N:Nat) m PL k OL) (.exit 0) (yG n hs (F:Nat) (N:Nat) sk (N:Nat) m PL k OL):=by
 have hL:yN bW (gu 9 λ _ _=>none) (au azj 0):=eZ (c:=au azj 0) (i:=9) 0 1 (by kernel_rfl) (by kernel_rfl) (ahH _);refine aF (bU nA [some 0,some 1,some 2,some 3]) Db (ak aD (ak aD av)) hL ((U5 n hs (F:Nat) dO (dU n hs) (N:Nat) sk (N:Nat) m PL k OL (λ _=>0) (λ _ _=>0) (λ _=>0)).trans ?_);rw[bQ];rfl
theorem QZ(hF:F<=50)(hN:N<=4):∀(j i m k:Nat) (PL:Nat->dM) (OL:Nat->Int),i+j=N->1<=k->1<=m->m+k<=2*i->k<=i->∃m' PL' k' OL',Runs (au azj 0) (yG n hs (F:Nat) (N:Nat) sk (i:Nat) m PL k OL) (.exit 0) (yG n hs (F:Nat) (N:Nat) sk (N:Nat) m' PL' k' OL')/\1<=m'/\m'<=8
 | 0,i,m,k,PL,OL,e,_,h2,h3,_=>by
  obtain rfl:i=N:=by omega
  exact⟨m,PL,k,OL,Runs.last ahI,h2,by omega⟩
 |j+1,i,m,k,PL,OL,e,h1,h2,h3,h4=>by
  obtain⟨m1,PL1,k1,OL1,g1,g2,g3,g4,g5⟩:=acI hK hF (N:=N) (sk:=sk) (i:=i) (PL:=PL) (OL:=OL) (by omega) hN h1 h2 (by omega) (by omega);obtain⟨m',PL',k',OL',r1,r2,r3⟩:=QZ hF hN j (i+1) m1 k1 PL1 OL1 (by omega) g2 g3 (by omega) (by omega);exact⟨m',PL',k',OL',Runs.cons g1 r1,r2,r3⟩
end
def sfW(n:Nat)(hs:Nat->Int)(F:Int)(pf:Int->Int->Int)(rf:Int->Int)(N sk:Int)(m:Nat)(PL:Nat->dM):Option Out:=gR n hs rf F (gR n hs rf (aI (F+1)) (gate (Sub (sfN n hs F (aI (1+pf (rf (aI (F+1))) 4)) (pf (rf F) 3)) (sfN n hs F N sk)) (cond (((ax0 m m)&&true)||false) (some (Out.of (.agg (Mk m PL sk)))) none)))
theorem acC(n:Nat)(hs:Nat->Int)(F:Int)(pf:Int->Int->Int)(rf:Int->Int)(N sk i:Int)(m:Nat)(PL:Nat->dM)(k:Nat)(OL:Nat->Int):qQ bW (MP pf) [Gj rf] [] (gu 5 (fE nA [some 0,some 1] (sfN n hs F N sk) (.exit 0) (yG n hs F N sk i m PL k OL))) (iH 13 (wS 2)) azj [sI n hs,iA F,iA 3] ret=sfW n hs F pf rf N sk m PL:=by kernel_rfl
theorem Oh{n:Nat}{hs:Nat->Int}(h:YM n hs)(hn:n<=512){F:Nat}(hF:F<=50):∃m PL sk,aj bW 66 [sI n hs,iA (F:Nat),iA 3] (.agg (Mk m PL sk)):=by
 have h1:∀f:Int,∃y:Int × (Nat->Nat) × Int,∀g:Nat,f=(g:Nat)->g<=100->aj bW 112 [sI n hs,iA (g:Nat)] (SH y.1 y.2.1 y.2.2):=λ f=>by
  by_cases hf:0<=f/\f<=100
  .obtain⟨k,a,sk,hk⟩:=arw h hn (f:=f.toNat) (by omega)
   refine⟨(k,a,sk),λ g hg _=>?_⟩;have:f.toNat=g:=by omega
   subst this;exact hk
  .exact⟨(0,λ _=>0,0),λ g hg hg'=>absurd ⟨by omega,by omega⟩ hf⟩
 obtain⟨G,hG⟩:=Classical.axiomOfChoice h1;have hK:∀f:Nat,f<=100->aj bW 112 [sI n hs,iA (f:Nat)] (SH ((λ f=>(G f).1) ((f:Nat):Int)) ((λ f=>(G f).2.1) ((f:Nat):Int)) ((λ f=>(G f).2.2) ((f:Nat):Int))):=λ f hf=>hG (f:Nat) f rfl hf;have p0:0<=((F:Nat):Int):=azv F;have p1:0<=aI ((F:Int)+1):=by rw[aO (by omega) (by omega)];omega
 have hr:=gH (n:=n) (hs:=hs) h p1;have e4:=kH (m:=4) hr.1 hr.2 (by decide);obtain⟨N,hN⟩:∃N:Nat,aI (1+dO (dU n hs (aI ((F:Int)+1))) 4)=((N:Nat):Int)/\1<=N/\N<=4:=⟨(1+dO (dU n hs (aI ((F:Int)+1))) 4).toNat,by rw[aO (by omega) (by omega)];omega,by omega,by omega⟩;obtain⟨PL,OL,o1⟩:=aaJ (K:=λ f=>(G f).1) (A:=λ f=>(G f).2.1) (S:=λ f=>(G f).2.2) hK hF (N:=N) (sk:=dO (dU n hs (F:Nat)) 3) hN.2.1;obtain⟨m',PL',k',OL',r1,r2,r3⟩:=QZ (K:=λ f=>(G f).1) (A:=λ f=>(G f).2.1) (S:=λ f=>(G f).2.2) hK hF (N:=N) (sk:=dO (dU n hs (F:Nat)) 3) hN.2.2 (N - 1) 1 1 1 PL OL (by omega) (by omega) (by omega) (by omega) (by omega)
 refine⟨m',PL',dO (dU n hs (F:Nat)) 3,qh (gK (jq 2)) Db (ak aD av) bO Tryz.func66 (by kernel_rfl) (by kernel_rfl)
  (eZ (c:=dG azj) (i:=5) 0 2 (by kernel_rfl) (by kernel_rfl) (aR (keep:=nA) (τ:=[some 0,some 1]) (Runs.loop (by simp) (Runs.cons o1 r1)))) rfl ((acC n hs (F:Nat) dO (dU n hs) (N:Nat) (dO (dU n hs (F:Nat)) 3) (N:Nat) m' PL' k' OL').trans ?_)⟩
 unfold sfW;rw[cO p0,cO p1,hN.1,ah (Sub.refl _),show ax0 m' m'=true from aBH m'];rfl
end Go.Proofs.YtefphimaggjihaaGreatDoor.Hs.So
namespace Go.Gv
def aac(h g:mg):mg:=λ s k=>h s λ s1=>g s1 k
theorem KL{np:Nat}{h g:mg}(hh:fZ np h)(hg:fZ np g):fZ np (aac h g):=λ s k r e=>by
 obtain⟨s1,e1,p1⟩:=hh s _ r e;obtain⟨s2,e2,p2⟩:=hg s1 k r e1;exact⟨s2,e2,p1.trans p2⟩
end Go.Gv
namespace Go.Proofs.YtefphimaggjihaaGreatDoor.Hs.Sc
open Go.Gv So Fm
open Go.Ev (cn bq dI bT fdiv d9 fI dK jO kL gN lK fabs aL)
theorem aj.PZ{f:Nat}{args:List AV}{r r':AV}(h:aj bW f args r)(hr:∀(E:Env) (v:Value),rel E r v->rel E r' v):aj bW f args r' :=
 ⟨h.1,λ A w aZ hA hv hg=>(h.2 A w aZ hA hv hg).mono λ _ _ ⟨v,he,h1,h2⟩=>⟨v,he,hr _ _ h1,h2⟩⟩
theorem Z4{E:Env}{sz:Nat}{el:Nat->List AV}{v:Value}(h:rel E (.x (.slice none 0 0)) v):rel E (.sl sz 0 el) v :=
 iM.2 ⟨none,0,bI.1 h,ao5 _,ER rfl⟩
def Z0:fT:=⟨0,λ _=>⟨0,λ _=>0,0⟩,0,λ _=>⟨0,λ _=>⟨0,0,0,0,λ _=>0,0⟩,0⟩,0,λ _=>⟨0,0,λ _=>0,0,0,λ _=>0,0⟩,0,λ _ _=>0,0,λ _ _=>0,λ _ _=>0,λ _=>0,λ _=>0⟩
theorem auD(e:Bool)(a b:IL):dn e a.c b.c=(cond e a b).c:=by cases e<;>rfl
def zS:List AV:=[.x (.slice none 0 0),.x (.slice none 0 0),.x (.slice none 0 0),.x (.slice none 0 0),.x (.slice none 0 0),iA 0,iA 0,iA 0,.f 0,.f 0,.f 0,.f 0,.f 0,.f 0,.f 0,.f 0,.f 0,.f 0]
def fzB(n:Nat):Bool:=(ax0 n n&&true)&&true
theorem aly(n:Nat):fzB n=true:=by unfold fzB;rw[aBH];rfl
end Go.Proofs.YtefphimaggjihaaGreatDoor.Hs.Sc
namespace Go.Proofs.YtefphimaggjihaaGreatDoor.Hs.So.T3
open Go.Gv
open Go.Ev (cn bq dI bT fdiv d9 fI dK jO kL gN lK fabs)
section
variable(n:Nat)(hs:Nat->Int)(pf:Int->Int->Int)(tf:Int->Nat)(rf:Int->Int)(vf:Int->Int->Nat->Nat)(x y w:Nat)(fr:Int)
def xK:Int:=aI (1+pf (rf fr) 6)
def xR:Nat:=tf (aI (1+pf (rf (aI (fr+8))) 2500))
def xA(B C:Nat->Nat)(R Q:Nat):List AV:=[iA (xK pf rf fr),.f (vf (aI (fr+1)) 4000 0),.f (vf (aI (fr+1)) 4000 1),.f (vf (aI (fr+1)) 4000 2),.f (B 0),.f (B 1),.f (B 2),.f (C 0),.f (C 1),.f (C 2),.f R,.f Q,iA (pf (rf (aI (fr+7))) 3)]
def xO(B C:Nat->Nat)(R Q:Nat):Option Out:=some (Out.of (.agg (xA pf rf vf fr B C R Q)))
def xB2:Nat->Nat:=ls [bq (vf (aI (fr+1)) 4000 0) (xR pf tf rf fr),bq (vf (aI (fr+1)) 4000 1) (tf (pf (rf (aI (fr+5))) 2000)),bq (vf (aI (fr+1)) 4000 2) (tf (pf (rf (aI (fr+6))) 2000))]
def xB3:Nat->Nat:=ls [bq (vf (aI (fr+1)) 4000 0) (vf (aI (fr+4)) 3000 0),bq (vf (aI (fr+1)) 4000 1) (vf (aI (fr+4)) 3000 1),bq (vf (aI (fr+1)) 4000 2) (vf (aI (fr+4)) 3000 2)]
def xD:Int:=aI (1+pf (rf (aI (fr+4))) 3)
def xQ:Nat:=tf (aI (1+aI ((pf (rf (aI (fr+8))) 2500).tdiv (xD pf rf fr))))
def xPu(o:Option Out):Option Out:=gate (aj bW 141 [V 0 0 0,iA (pf (rf (aI (fr+6))) 3),.f (tf (aI (1+pf (rf (aI (fr+5))) 3000)))] (V x y w)) o
def x56:Option Out:=gR n hs rf (aI (fr+6)) (gR n hs rf (aI (fr+5)) (xPu pf tf rf x y w fr (cond (xK pf rf fr==6) (gR n hs rf (aI (fr+8)) (gR n hs rf (aI (fr+4)) (cond ((!(xD pf rf fr==0))&&true) (xO pf rf vf fr (ls [x,y,w]) z3 (xR pf tf rf fr) (xQ pf tf rf fr)) none))) (xO pf rf vf fr (ls [x,y,w]) z3 (xR pf tf rf fr) 0))))
def x4:Option Out:=cond (jv (vf (aI (fr+4)) 3000 0) (vf (aI (fr+4)) 3000 1) (vf (aI (fr+4)) 3000 2)) (xO pf rf vf fr (ls [0,one,0]) z3 (xR pf tf rf fr) 0) (xO pf rf vf fr (vf (aI (fr+4)) 3000) z3 (xR pf tf rf fr) 0)
def xX:Option Out:=gR n hs rf fr (gV n hs vf (aI (fr+1)) 4000 (gR n hs rf (aI (fr+7)) (gV n hs vf (aI (fr+4)) 3000 (gR n hs rf (aI (fr+8))
 (cond (xK pf rf fr==1) (xO pf rf vf fr z3 z3 (xR pf tf rf fr) 0) (cond (xK pf rf fr==2) (gR n hs rf (aI (fr+5)) (gR n hs rf (aI (fr+6)) (xO pf rf vf fr (xB2 pf tf rf vf fr) z3 0 0))) (cond (xK pf rf fr==3) (gV n hs vf (aI (fr+9)) 4000 (xO pf rf vf fr (xB3 vf fr) (ls [vf (aI (fr+9)) 4000 0,vf (aI (fr+9)) 4000 1,vf (aI (fr+9)) 4000 2]) 0 0))
  (cond (xK pf rf fr==5) (cond (xK pf rf fr==5) (x56 n hs pf tf rf vf x y w fr) (x4 pf tf rf vf fr)) (cond (xK pf rf fr==6) (x56 n hs pf tf rf vf x y w fr) (x4 pf tf rf vf fr))))))))))
theorem adl:ev bW (M1 pf tf) [Gj rf,vcK vf,kS bW 141 λ _=>V x y w] aM Tryz.f111 [sI n hs,iA fr,iA 3] ret=xX n hs pf tf rf vf x y w fr:=by kernel_rfl
end
theorem WL{n:Nat}{hs:Nat->Int}(h:YM n hs){f:Nat}(hf:f<=200):∃k a sk,aj bW 111 [sI n hs,iA (f:Nat),iA 3] (.agg (fC k a sk)):=by
 have h:∀i,i<n->-9223372036854775808<=hs i/\hs i<=9223372036854775807:=h;have P:∀j:Int,0<=j->j<=20->0<=aI ((f:Int)+j)/\aI ((f:Int)+j)<=1000:=λ j h1 h2=>by rw[aO (by omega) (by omega)];omega
 have p0:(0:Int)<=(f:Nat):=azv f;have p1:=P 1 (by decide) (by decide);have p4:=P 4 (by decide) (by decide);have p5:=P 5 (by decide) (by decide);have p6:=P 6 (by decide) (by decide);have p7:=P 7 (by decide) (by decide);have p8:=P 8 (by decide) (by decide);have p9:=P 9 (by decide) (by decide);have ax:=kH (m:=3) (gH h p6.1).1 (gH h p6.1).2 (by decide);have dd:=kH (m:=3) (gH h p4.1).1 (gH h p4.1).2 (by decide)
 have hD:xD dO (dU n hs) (f:Nat)≠0:=by
  unfold xD;generalize dO (dU n hs (aI ((f:Nat)+4))) 3=z at dd ⊢;rw[aO (by omega) (by omega)];omega
 obtain⟨x,y,w,hp⟩:∃x y w,aj bW 141 [V 0 0 0,iA (dO (dU n hs (aI ((f:Nat)+6))) 3),.f (gJ (aI (1+dO (dU n hs (aI ((f:Nat)+5))) 3000)))] (V x y w):=by
  generalize gJ (aI (1+dO (dU n hs (aI ((f:Nat)+5))) 3000))=t;have:dO (dU n hs (aI ((f:Nat)+6))) 3=0\/dO (dU n hs (aI ((f:Nat)+6))) 3=1\/dO (dU n hs (aI ((f:Nat)+6))) 3=2:=by omega
  rcases this with e |e |e<;>rw[e]
  .exact⟨_,_,_,aee 0 0 0 t⟩
  .exact⟨_,_,_,aef 0 0 0 t⟩
  .exact⟨_,_,_,aeg 0 0 0 t⟩
 have go:∃B C R Q,xX n hs dO gJ (dU n hs) (pz n hs) x y w (f:Nat)=xO dO (dU n hs) (pz n hs) (f:Nat) B C R Q/\(xK dO (dU n hs) (f:Nat)=2->R=0):=by
  have g56:∃B C R Q,x56 n hs dO gJ (dU n hs) (pz n hs) x y w (f:Nat)=xO dO (dU n hs) (pz n hs) (f:Nat) B C R Q:=by
   unfold x56 xPu;rw[cO p6.1,cO p5.1,ah hp,cO p8.1,cO p4.1,beq_false_of_ne hD];cases xK dO (dU n hs) (f:Nat)==6
   .exact⟨_,_,_,_,rfl⟩
   .exact⟨_,_,_,_,rfl⟩
  unfold xX;rw[cO p0,yR p1.1 p1.2 (ER rfl),cO p7.1,yR p4.1 p4.2 (aaH (ER rfl)),cO p8.1,cO p5.1,cO p6.1,yR p9.1 p9.2 (ER rfl)];cases h1:xK dO (dU n hs) (f:Nat)==1
  .cases h2:xK dO (dU n hs) (f:Nat)==2
   .have no:∀R:Nat,xK dO (dU n hs) (f:Nat)=2->R=0:=λ R e=>by rw[e]at h2;cases h2
    cases xK dO (dU n hs) (f:Nat)==3
    .cases xK dO (dU n hs) (f:Nat)==5
     .cases xK dO (dU n hs) (f:Nat)==6
      .show ∃B C R Q,x4 dO gJ (dU n hs) (pz n hs) (f:Nat)=_/\_
       unfold x4;cases jv (pz n hs (aI ((f:Nat)+4)) 3000 0) (pz n hs (aI ((f:Nat)+4)) 3000 1) (pz n hs (aI ((f:Nat)+4)) 3000 2)
       .exact⟨_,_,_,_,rfl,no _⟩
       .exact⟨_,_,_,_,rfl,no _⟩
      .obtain⟨B,C,R,Q,e⟩:=g56
       exact⟨B,C,R,Q,e,no _⟩
     .obtain⟨B,C,R,Q,e⟩:=g56
      exact⟨B,C,R,Q,e,no _⟩
    .exact⟨_,_,_,_,rfl,no _⟩
   .exact⟨_,_,_,_,rfl,λ _=>rfl⟩
  .exact⟨_,_,_,_,rfl,λ e=>by rw[e]at h1;cases h1⟩
 obtain⟨B,C,R,Q,e,_⟩:=go;exact⟨xK dO (dU n hs) (f:Nat),ls [pz n hs (aI ((f:Nat)+1)) 4000 0,pz n hs (aI ((f:Nat)+1)) 4000 1,pz n hs (aI ((f:Nat)+1)) 4000 2,B 0,B 1,B 2,C 0,C 1,C 2,R,Q],dO (dU n hs (aI ((f:Nat)+7))) 3,aP akW (ak aD (ak aD (ak aD av))) Tryz.func111 (by kernel_rfl) (by kernel_rfl) aA rfl ((adl n hs dO gJ (dU n hs) (pz n hs) x y w (f:Nat)).trans e)⟩
end Go.Proofs.YtefphimaggjihaaGreatDoor.Hs.So.T3
namespace Go.Proofs.YtefphimaggjihaaGreatDoor.Hs.Sc
open Go.Gv So Fm
def shG(g:Int->IL):List AV->AV
 | [_,.x (.int .i64 f),_]=>.agg (g f).c
 |_=>.any
section
variable(n:Nat)(hs:Nat->Int)(g:Int->IL)(N i:Int)(m:Nat)(el:Nat->List AV)(S:Nat->IL)
def Ia:St:=mkS 25 [(0,sI n hs),(1,iA N),(2,iA 3),(7,.x (.slice none 0 0)),(8,iA 0)] []
def shE:St:=mkS 25 [(0,sI n hs),(1,iA N),(2,iA 3),(7,.fJ 0 13 0 m),(8,iA i)] [.a 67 13 m el]
def shS:St:=shE n hs N i m λ q=>(S q).c
def EG:List Nat:=[0,1,2,7,8]
def shO(f:Int)(o:Option Out):Option Out:=gate (aj bW 111 [sI n hs,iA f,iA 3] (.agg (g f).c)) o
theorem agf:gD bW [] [kS bW 111 (shG g)] aM (au aBJ 0) (Ia n hs N) (fu EG [some 2])=cond (decide (0<N)) (shO n hs g (aI (13*0)) (some ⟨.normal,shE n hs N (aI (0+1)) 1 (λ q=>dn (afC q 0) [] (g (aI (13*0))).c),.any⟩)) none:=by kernel_rfl
theorem aj4:gD bW [] [kS bW 111 (shG g)] aM (au aBJ 0) (shS n hs N i m S) (fu EG [some 3])=cond (decide (i<N)) (shO n hs g (aI (13*i)) (cond (M4 m 104||false) (some ⟨.normal,shE n hs N (aI (i+1)) (m+1) (λ q=>dn (afC q m) (S q).c (g (aI (13*i))).c),.any⟩) none)) none:=by kernel_rfl
theorem apm:gD bW [] [kS bW 111 (shG g)] aM (au aBJ 0) (shS n hs N i m S) (gM EG [some 0])=cond (decide (i<N)) (shO n hs g (aI (13*i)) (cond (M4 m 104||false) none none)) (some ⟨.exit 0,shS n hs N i m S,.any⟩):=by kernel_rfl
theorem af6:ev bW [] [] (gu 3 (fE EG [] (Ia n hs N) (.exit 0) (shS n hs N i m S))) aBJ [sI n hs,iA N,iA 3] ret=gate (Sub (Ia n hs N) (Ia n hs N)) (some (Out.of (.sl 13 m λ q=>(S (0+q)).c))):=by kernel_rfl
end
open Go.Ev (cn bq dI bT fdiv d9 fI dK jO kL gN lK fabs)
section
variable(n:Nat)(hs:Nat->Int)(pf:Int->Int->Int)(tf:Int->Nat)(rf:Int->Int)(vf:Int->Int->Nat->Nat)(W H:Int)(x y z d:Nat)(sk i:Int)(m:Nat)(el:Nat->List AV)(h:Nat->Int)
def zF:List AV:=[iA 0,iA 0,.f 0,.f 0,.f 0,.f 0,.x (.slice none 0 0),iA 0]
def fc(a:AV):List AV:=[iA W,iA H,.f x,.f y,.f z,.f d,a,iA sk]
def foN:St:=mkS 61 [(0,sI n hs),(1,iA 4),(6,.own 0 0),(7,.own 1 0),(8,iA 0)] [.c zF,.c (fc W H x y z d sk (.x (.slice none 0 0)))]
def foE:St:=mkS 61 [(0,sI n hs),(1,iA 4),(6,.own 0 0),(7,.own 1 0),(8,iA i)] [.c zF,.c (fc W H x y z d sk (.fJ 2 1 0 m)),.a 3 1 m el]
def foS:St:=foE n hs W H x y z d sk i m λ q=>[iA (h q)]
def aah:List Nat:=[0,1,6,7,8]
def aq8(m:Nat):Bool:=((aqE m m&&aqE ((m+1)*8) 140737488355328)||false)&&true
def hgV(i:Int):Int:=aI (pf (rf (aI (aI (4+7)+i))) 2000 - 1000)
theorem agd:gD bW (MP pf) [Gj rf] aM (au aBK 0) (foN n hs W H x y z d sk) (fu aah [some 0,some 1,some 3])=cond (decide (0<aI (W*H))) (gR n hs rf (aI (aI (4+7)+0)) (some ⟨.normal,foE n hs W H x y z d sk (aI (0+1)) 1 (λ q=>dn (afC q 0) [] [iA (hgV pf rf 0)]),.any⟩)) none:=by kernel_rfl
theorem aj3:gD bW (MP pf) [Gj rf] aM (au aBK 0) (foS n hs W H x y z d sk i m h) (fu aah [some 0,some 1,some 4])=cond (decide (i<aI (W*H))) (gR n hs rf (aI (aI (4+7)+i)) (cond (aq8 m) (some ⟨.normal,foE n hs W H x y z d sk (aI (i+1)) (m+1) (λ q=>dn (afC q m) [iA (h q)] [iA (hgV pf rf i)]),.any⟩) none)) none:=by kernel_rfl
theorem apl:gD bW (MP pf) [Gj rf] aM (au aBK 0) (foS n hs W H x y z d sk i m h) (gM aah [some 0,some 1,some 2])=cond (decide (i<aI (W*H))) (gR n hs rf (aI (aI (4+7)+i)) (cond (aq8 m) none none)) (some ⟨.exit 0,foS n hs W H x y z d sk i m h,.any⟩):=by kernel_rfl
def dm(k:Int):Int:=aI (2+pf (rf k) 3)
def foW:Option Out:=gR n hs rf 4 (gR n hs rf (aI (4+1)) (gV n hs vf (aI (4+2)) 3000 (gR n hs rf (aI (4+5)) (gR n hs rf (aI (4+6)) (gate (Sub (foN n hs (dm pf rf 4) (dm pf rf (aI (4+1))) (vf (aI (4+2)) 3000 0) (vf (aI (4+2)) 3000 1) (vf (aI (4+2)) 3000 2) (tf (aI (300+pf (rf (aI (4+5))) 1500))) (pf (rf (aI (4+6))) 3)) (foN n hs W H x y z d sk)) (cond (((ax0 m m)&&true)||false) (some (Out.of (.agg (fc W H x y z d sk (.sl 1 m λ q=>[iA (h q)]))))) none))))))
theorem auF:qQ bW (M0 pf tf) [Gj rf,vcK vf] [] (gu 3 (fE aah [some 0,some 1] (foN n hs W H x y z d sk) (.exit 0) (foS n hs W H x y z d sk i m h))) (iH 6 (wS 2)) aBK [sI n hs,iA 4,iA 3] ret=foW n hs pf tf rf vf W H x y z d sk m h:=by kernel_rfl
end
theorem auG{m:Nat}(h:m<=1000):aq8 m=true:=by
 unfold aq8;rw[ah4 (ao5 m),ah4 (show(m+1)*8<=140737488355328 by omega)];rfl
theorem P6{n:Nat}{hs:Nat->Int}(h:YM n hs):∃F:Fm.Fd,aj bW 67 [sI n hs,iA 4,iA 3] (.agg F.c):=by
 have h':∀i,i<n->-9223372036854775808<=hs i/\hs i<=9223372036854775807:=h;have rg:∀k m:Int,0<=k->0<m->0<=dO (dU n hs k) m/\dO (dU n hs k) m<m:=λ k m hk hm=>kH (gH h' hk).1 (gH h' hk).2 hm;have r1:=rg 4 3 (by decide) (by decide);have r2:=rg (aI (4+1)) 3 (by decide) (by decide)
 obtain⟨N,hN,h1,h2⟩:∃N:Nat,aI (dm dO (dU n hs) 4*dm dO (dU n hs) (aI (4+1)))=(N:Int)/\1<=N/\N<=16:=by
  unfold dm;generalize dO (dU n hs 4) 3=a at r1 ⊢;generalize dO (dU n hs (aI (4+1))) 3=b at r2 ⊢;have ha:a=0\/a=1\/a=2:=by omega
  have hb:b=0\/b=1\/b=2:=by omega
  rcases ha with rfl |rfl |rfl<;>rcases hb with rfl |rfl |rfl<;>first |exact⟨4,by decide,by decide,by decide⟩ |exact⟨6,by decide,by decide,by decide⟩ |exact⟨8,by decide,by decide,by decide⟩ |exact⟨9,by decide,by decide,by decide⟩ |exact⟨12,by decide,by decide,by decide⟩ |exact⟨16,by decide,by decide,by decide⟩
 generalize hW:dm dO (dU n hs) 4=W at hN;generalize hH:dm dO (dU n hs) (aI (4+1))=H at hN;generalize hx:pz n hs (aI (4+2)) 3000 0=x;generalize hy:pz n hs (aI (4+2)) 3000 1=y;generalize hz:pz n hs (aI (4+2)) 3000 2=z;generalize hd:gJ (aI (300+dO (dU n hs (aI (4+5))) 1500))=d;generalize hk:dO (dU n hs (aI (4+6))) 3=sk;have pos:∀k:Nat,k<=100->0<=aI (aI (4+7)+(k:Int)):=λ k hk=>by rw[show aI (4+7)=11 by decide,aO (by omega) (by omega)];omega
 have lead:bF bW (.loop (au aBK 0)) (foN n hs W H x y z d sk) (.exit 0) (foS n hs W H x y z d sk (N:Nat) N λ q=>hgV dO (dU n hs) (q:Nat)):=by
  refine aU (λ k=>match k with | 0=>foN n hs W H x y z d sk |k+1=>foS n hs W H x y z d sk ((k+1:Nat):Int) (k+1) λ q=>hgV dO (dU n hs) (q:Nat)) N (.exit 0) _ (by simp) (λ k hk=>?_) ?_
  .cases k with
   |zero =>
    have hl:bF bW (au aBK 0) (foN n hs W H x y z d sk) .normal (foE n hs W H x y z d sk ((0+1:Nat):Int) 1 (λ q=>dn (afC q 0) [] [iA (hgV dO (dU n hs) 0)])):=by
     refine aF (aT _ _) Db (ak aD av) aA ((agd n hs dO (dU n hs) W H x y z d sk).trans ?_);rw[hN,decide_eq_true (show(0:Int)<(N:Nat) by omega),cond_true];exact cO (by decide)
    refine hl.sub (Sub.refl _) (fP ⟨ER rfl,ER rfl,aaH (ER ⟨3,1,1,_,_,rfl,rfl,λ q hq=>?_⟩),trivial⟩);obtain rfl:q=0:=aBs.1 hq;exact jU rfl
   |succ k =>
    have hl:bF bW (au aBK 0) (foS n hs W H x y z d sk ((k+1:Nat):Int) (k+1) λ q=>hgV dO (dU n hs) (q:Nat)) .normal (foE n hs W H x y z d sk ((k+1+1:Nat):Int) (k+1+1) (λ q=>dn (afC q (k+1)) [iA (hgV dO (dU n hs) (q:Nat))] [iA (hgV dO (dU n hs) ((k+1:Nat):Int))])):=by
     refine aF (aT _ _) Db (ak aD av) aA ((aj3 n hs dO (dU n hs) W H x y z d sk ((k+1:Nat):Int) (k+1) λ q=>hgV dO (dU n hs) (q:Nat)).trans ?_);rw[hN,dec_lt hk,cond_true,cO (pos _ (by omega)),auG (by omega),bD (n:=k+1) (by omega)];rfl
    refine hl.sub (Sub.refl _) (fP ⟨ER rfl,ER rfl,aaH (ER ⟨3,1,k+1+1,_,_,rfl,rfl,λ q hq=>jU ?_⟩),trivial⟩);rw[aaI];cases hb:afC q (k+1)
    .have:=uw hb
     obtain rfl:q=k+1:=by omega
     rfl
    .rfl
  .obtain⟨k,rfl⟩:∃k,N=k+1:=⟨N - 1,by omega⟩
   refine aF (bU _ _) Db (ak aD av) aA ((apl n hs dO (dU n hs) W H x y z d sk ((k+1:Nat):Int) (k+1) λ q=>hgV dO (dU n hs) (q:Nat)).trans ?_);rw[hN,bQ,cond_false]
 refine⟨⟨W,H,ls [x,y,z],d,N,λ q=>hgV dO (dU n hs) (q:Nat),sk⟩,So.qh (gK (jq 2)) tQ (ak aD (ak aD av)) bO Tryz.func67 (by kernel_rfl) (by kernel_rfl) (eZ 0 1 (by kernel_rfl) (by kernel_rfl) (aR lead)) rfl ((auF n hs dO gJ (dU n hs) (pz n hs) W H x y z d sk (N:Nat) N λ q=>hgV dO (dU n hs) (q:Nat)).trans ?_)⟩;unfold foW;rw[cO (by decide),cO (by decide),yR (by decide) (by decide) (aaH (ER rfl)),cO (by decide),cO (by decide),hW,hH,hx,hy,hz,hd,hk,ah (Sub.refl _),show ax0 N N=true from aBH N];rfl
theorem Md{n:Nat}{hs:Nat->Int}(h:YM n hs){N:Nat}(h1:1<=N)(h2:N<=10):∃S:Nat->IL,aj bW 65 [sI n hs,iA (N:Nat),iA 3] (.sl 13 N λ q=>(S q).c):=by
 have hx:∀f:Int,∃y:IL,∀g:Nat,f=(g:Nat)->g<=200->aj bW 111 [sI n hs,iA (g:Nat),iA 3] (.agg y.c):=λ f=>by
  by_cases hf:0<=f/\f<=200
  .obtain⟨k,a,sk,hk⟩:=So.T3.WL h (f:=f.toNat) (by omega)
   refine⟨⟨k,a,sk⟩,λ g hg _=>?_⟩;have:f.toNat=g:=by omega
   subst this;exact hk
  .exact⟨⟨0,λ _=>0,0⟩,λ g hg hg'=>absurd ⟨by omega,by omega⟩ hf⟩
 obtain⟨G,hG⟩:=Classical.axiomOfChoice hx
 have pos:∀k:Nat,k<=10->∀o,shO n hs G (aI (13*(k:Int))) o=o:=λ k hk o=>by
  have e:aI (13*(k:Int))=((13*k:Nat):Int):=by rw[aO (by omega) (by omega)];omega
  unfold shO;rw[e];exact ah (hG _ (13*k) rfl (by omega))
 have lead:bF bW (.loop (au aBJ 0)) (Ia n hs (N:Nat)) (.exit 0) (shS n hs (N:Nat) (N:Nat) N λ q=>G (aI (13*((q:Nat):Int)))):=by
  refine aU (λ k=>match k with | 0=>Ia n hs (N:Nat) |k+1=>shS n hs (N:Nat) ((k+1:Nat):Int) (k+1) λ q=>G (aI (13*((q:Nat):Int)))) N (.exit 0) _ (by simp) (λ k hk=>?_) ?_
  .cases k with
   |zero =>
    have hl:bF bW (au aBJ 0) (Ia n hs (N:Nat)) .normal (shE n hs (N:Nat) ((0+1:Nat):Int) 1 (λ q=>dn (afC q 0) [] (G (aI (13*0))).c)):=by
     refine aF (aT _ _) aB jS aA ((agf n hs G (N:Nat)).trans ?_);rw[decide_eq_true (show(0:Int)<(N:Nat) by omega),cond_true];exact pos 0 (by decide) _
    refine hl.sub (Sub.refl _) (fP ⟨aaH (ER ⟨67,13,1,_,_,rfl,rfl,λ q hq=>?_⟩),trivial⟩);obtain rfl:q=0:=aBs.1 hq;exact jU rfl
   |succ k =>
    have hl:bF bW (au aBJ 0) (shS n hs (N:Nat) ((k+1:Nat):Int) (k+1) λ q=>G (aI (13*((q:Nat):Int)))) .normal (shE n hs (N:Nat) ((k+1+1:Nat):Int) (k+1+1) (λ q=>dn (afC q (k+1)) (G (aI (13*((q:Nat):Int)))).c (G (aI (13*((k+1:Nat):Int)))).c)):=by
     refine aF (aT _ _) aB jS aA ((aj4 n hs G (N:Nat) ((k+1:Nat):Int) (k+1) λ q=>G (aI (13*((q:Nat):Int)))).trans ?_);rw[dec_lt hk,cond_true,pos _ (by omega),qz (by omega),bD (n:=k+1) (by omega)];rfl
    refine hl.sub (Sub.refl _) (fP ⟨aaH (ER ⟨67,13,k+1+1,_,_,rfl,rfl,λ q hq=>jU ?_⟩),trivial⟩);rw[auD];cases hb:afC q (k+1)
    .have:=uw hb
     obtain rfl:q=k+1:=by omega
     rfl
    .rfl
  .obtain⟨k,rfl⟩:∃k,N=k+1:=⟨N - 1,by omega⟩
   refine aF (bU _ _) aB jS aA ((apm n hs G ((k+1:Nat):Int) ((k+1:Nat):Int) (k+1) λ q=>G (aI (13*((q:Nat):Int)))).trans ?_);rw[bQ,cond_false]
 refine⟨λ q=>G (aI (13*((q:Nat):Int))),aj.PZ (aP aB av Tryz.func65 (by kernel_rfl) (by kernel_rfl) (eZ 0 1 (by kernel_rfl) (by kernel_rfl) (aR lead)) rfl ((af6 n hs (N:Nat) (N:Nat) N λ q=>G (aI (13*((q:Nat):Int)))).trans (ah (Sub.refl _)))) λ _ _ hr=>?_⟩;exact D8 hr λ q _=>by rw[avB]
abbrev pQ:AV:=.x (.slice none 0 0)
def QU(a b c d e:AV)(u v w:Int)(x y r:Nat):List AV:=[a,b,c,d,e,iA u,iA v,iA w,.f x,.f y,.f 13842939354630062080,.f 0,.f 0,.f 0,.f 0,.f 4607182418800017408,.f 0,.f r]
def soG(G:Int->QY):List AV->AV
 | [_,.x (.int .i64 f),_]=>.agg (G f).c
 |_=>.any
section
variable(n:Nat)(hs:Nat->Int)(pf:Int->Int->Int)(tf:Int->Nat)(rf:Int->Int)(vf:Int->Int->Nat->Nat)(G:Int->QY)(N:Int)(x y r:Nat)(u v w:Int)(i:Int)(m l:Nat)(el sZ:Nat->List AV)(K:Nat->Nat->Int)(A:Nat->Nat->Nat)(L:Nat->Nat->Int)(s:AV)(O:Nat->QY)
def c1E:St:=mkS 169 [(0,sI n hs),(1,iA N),(4,.own 0 0),(5,.own 1 0),(6,iA i)] [.c zS,.c (QU pQ pQ pQ (.fJ 2 10 0 m) pQ 0 0 0 x y r),.a 47 10 m el]
def c1S:St:=c1E n hs N x y r i m λ q=>xB (K q)
def Xv:List Nat:=[0,1,4,5,6]
def sk3(c:Int)(o:Option Out):Option Out:=gR n hs rf (aI (aI (11+aI (3*i))+c)) (gR n hs rf (aI (aI (12+aI (2*i))+c)) (gR n hs rf (aI (aI (13+aI (5*i))+c)) o))
def skN(q:Nat):Int:=match q with
 | 0=>pf (rf (aI (aI (11+aI (3*i))+0))) 401
 | 1=>pf (rf (aI (aI (11+aI (3*i))+1))) 401
 | 2=>pf (rf (aI (aI (11+aI (3*i))+2))) 401
 | 3=>aI (pf (rf (aI (aI (12+aI (2*i))+0))) 301*i.tmod 2)
 | 4=>aI (pf (rf (aI (aI (12+aI (2*i))+1))) 301*i.tmod 2)
 | 5=>aI (pf (rf (aI (aI (12+aI (2*i))+2))) 301*i.tmod 2)
 | 6=>aI (pf (rf (aI (aI (13+aI (5*i))+0))) 301*aI (i.tdiv 2))
 | 7=>aI (pf (rf (aI (aI (13+aI (5*i))+1))) 301*aI (i.tdiv 2))
 | 8=>aI (pf (rf (aI (aI (13+aI (5*i))+2))) 301*aI (i.tdiv 2))
 |_=>aI (700+pf (rf (aI (6+i))) 1500)
def c1C(o oe:Option Out):Option Out:=cond (decide (i<3)) (gR n hs rf (aI (6+i)) (sk3 n hs rf i 0 (sk3 n hs rf i 1 (sk3 n hs rf i 2 (cond (M4 m 80||false) o none))))) oe
theorem ajG:gD bW (M0 pf tf) [Gj rf] aM (au az6 0) (c1S n hs N x y r i m K) (fu Xv [some 0,some 1,some 5])=c1C n hs rf i m (some ⟨.normal,c1E n hs N x y r (aI (i+1)) (m+1) (λ q=>dn (afC q m) (xB (K q)) (xB (skN pf rf i))),.any⟩) none:=by kernel_rfl
theorem aoL:gD bW (M0 pf tf) [Gj rf] aM (au az6 0) (c1S n hs N x y r i m K) (gM Xv [some 0,some 1,some 2])=c1C n hs rf i m none (some ⟨.exit 0,c1S n hs N x y r i m K,.any⟩):=by kernel_rfl
def c3E:St:=mkS 169 [(0,sI n hs),(1,iA N),(4,.own 0 0),(5,.own 1 0),(9,iA i)] [.c zS,.c (QU pQ pQ pQ (.fJ 2 10 0 3) (.fJ 3 6 0 m) 0 0 0 x y r),.a 47 10 3 λ q=>xB (K q),.a 76 6 m el]
def c3S:St:=c3E n hs N x y r i m (λ q=>Ic (A q) (L q)) K
def Xw:List Nat:=[0,1,4,5,9]
def Xx(c:Int):Int:=pf (aI (rf (aI (aI (21+i)+c))*977)) 65537
def lmN:List AV:=[.f (vf (aI (17+aI (4*i))) 6000 0),.f (vf (aI (17+aI (4*i))) 6000 1),.f (vf (aI (17+aI (4*i))) 6000 2),iA (Xx pf rf i 0),iA (Xx pf rf i 1),iA (Xx pf rf i 2)]
def c3C(o oe:Option Out):Option Out:=gR n hs rf 1 (cond (decide (i<pf (rf 1) 3)) (gV n hs vf (aI (17+aI (4*i))) 6000 (gR n hs rf (aI (aI (21+i)+0)) (gR n hs rf (aI (aI (21+i)+1)) (gR n hs rf (aI (aI (21+i)+2)) (cond (M4 m 48||false) o none))))) oe)
theorem ajH:gD bW (M0 pf tf) [Gj rf,vcK vf] aM (au az6 2) (c3S n hs N x y r i m K A L) (fu Xw [some 0,some 1,some 2,some 6])=c3C n hs pf rf vf i m (some ⟨.normal,c3E n hs N x y r (aI (i+1)) (m+1) (λ q=>dn (afC q m) (Ic (A q) (L q)) (lmN pf rf vf i)) K,.any⟩) none:=by kernel_rfl
theorem aoM:gD bW (M0 pf tf) [Gj rf,vcK vf] aM (au az6 2) (c3S n hs N x y r i m K A L) (gM Xw [some 0,some 1,some 2,some 3])=c3C n hs pf rf vf i m none (some ⟨.exit 4,c3S n hs N x y r i m K A L,.any⟩):=by kernel_rfl
def c6E:St:=mkS 169 [(0,sI n hs),(1,iA N),(4,.own 0 0),(5,.own 1 0),(13,iA i)] [.c zS,.c (QU s (.fJ 4 2 0 m) pQ (.fJ 2 10 0 3) (.fJ 3 6 0 l) u v w x y r),.a 47 10 3 λ q=>xB (K q),.a 76 6 l λ q=>Ic (A q) (L q),.a 69 2 m el]
def c6S(S:Nat->IL)(NS:Nat):St:=c6E n hs N x y r u v w i m l (λ q=>(O q).c) K A L (.sl 13 NS λ q=>(S q).c)
def Xy:List Nat:=[0,1,4,5,13]
def c6C(o oe:Option Out):Option Out:=gR n hs rf 9 (cond (decide (i<pf (rf 9) 3)) (gate (aj bW 66 [sI n hs,iA (aI (5+aI (7*i))),iA 3] (.agg (G (aI (5+aI (7*i)))).c)) (cond ((M4 m 32||false)&&true) o none)) oe)
theorem ajI(S:Nat->IL)(NS:Nat):gD bW (M0 pf tf) [Gj rf,kS bW 66 (soG G)] aM (au az6 5) (c6S n hs N x y r u v w i m l K A L O S NS) (fu Xy [some 0,some 1,some 2,some 3,some 6])=c6C n hs pf rf G i m (some ⟨.normal,c6E n hs N x y r u v w (aI (i+1)) (m+1) l (λ q=>dn (afC q m) (O q).c (G (aI (5+aI (7*i)))).c) K A L (.sl 13 NS λ q=>(S q).c),.any⟩) none:=by kernel_rfl
theorem aoN(S:Nat->IL)(NS:Nat):gD bW (M0 pf tf) [Gj rf,kS bW 66 (soG G)] aM (au az6 5) (c6S n hs N x y r u v w i m l K A L O S NS) (gM Xy [some 0,some 1,some 2,some 3,some 4])=c6C n hs pf rf G i m none (some ⟨.exit 10,c6S n hs N x y r u v w i m l K A L O S NS,.any⟩):=by kernel_rfl
end
end Go.Proofs.YtefphimaggjihaaGreatDoor.Hs.Sc
namespace Go.Gv
def aqv(k:Nat):mg:=λ s L9=>match s.mem[k]? with
 |some (.a _ _ _ _)=>wS k s L9
 |_=>L9 s
theorem akw(k:Nat):fZ 0 (aqv k):=λ s L9 r h=>by
 unfold aqv at h;split at h
 .exact jq k s L9 r h
 .exact⟨s,h,Sub.refl s⟩
end Go.Gv
namespace Go.Proofs.YtefphimaggjihaaGreatDoor.Hs.Sc
open Go.Gv So Fm
open Go.Ev (cn bq dI bT fdiv d9 fI dK jO kL gN lK fabs)
section
variable(n:Nat)(hs:Nat->Int)(pf:Int->Int->Int)(tf:Int->Nat)(rf:Int->Int)(vf:Int->Int->Nat->Nat)(mf:Int->Int->Nat)(G:Int->QY)(F:Fm.Fd)(N:Int)(NL NO:Nat)(K:Nat->Nat->Int)(A:Nat->Nat->Nat)(L:Nat->Nat->Int)(O:Nat->QY)(S:Nat->IL)(NS:Nat)
abbrev eX:Nat:=mf (rf 3) 2000
abbrev eY:Nat:=mf (rf 4) 2000
abbrev eW:Nat:=tf (aI (500+pf (rf 5) 1500))
abbrev yM(c:Int):Int:=pf (aI (rf (aI (2+c))*661)) 65537
def scL:Nat->Option dN:=ny [(3,BP Xv 1 [(3,2,10)] (.a 47 10 0 λ q=>xB (K q)) [some 0,some 1,none] (c1S n hs N (eX rf mf) (eY rf mf) (eW pf tf rf) 0 0 K) (.exit 0) (c1S n hs N (eX rf mf) (eY rf mf) (eW pf tf rf) 3 3 K)),
 (14,BP Xw 1 [(4,3,6)] (.a 76 6 0 λ q=>Ic (A q) (L q)) [some 0,some 1,some 2,none] (c3S n hs N (eX rf mf) (eY rf mf) (eW pf tf rf) 0 0 K A L) (.exit 4) (c3S n hs N (eX rf mf) (eY rf mf) (eW pf tf rf) NL NL K A L)),
 (28,BP Xy 1 [(1,4,2)] (.a 69 2 0 λ q=>(O q).c) [some 0,some 1,some 2,some 3,none] (c6S n hs N (eX rf mf) (eY rf mf) (eW pf tf rf) (yM pf rf 0) (yM pf rf 1) (yM pf rf 2) 0 0 NL K A L O S NS) (.exit 10) (c6S n hs N (eX rf mf) (eY rf mf) (eW pf tf rf) (yM pf rf 0) (yM pf rf 1) (yM pf rf 2) NO NO NL K A L O S NS))]
def Xg:Nat->Option mg:=λ j=>cond (ax0 j 33) (some (aac (wS 2) (aac (wS 3) (aac (wS 4) (aqv 6))))) none
def LB:List aV:=[Gj rf,vcK vf,kS bW 63 (arQ mf),kS bW 65 (λ _=>.sl 13 NS λ q=>(S q).c),kS bW 67 (λ _=>.agg F.c)]
def scO(f:AV):Option Out:=cond (fzB NL) (cond (fzB NO) (some (Out.of (.agg (QU (.sl 13 NS λ q=>(S q).c) (.sl 2 NO λ q=>(O q).c) f (.sl 10 3 λ q=>xB (K q)) (.sl 6 NL λ q=>Ic (A q) (L q)) (yM pf rf 0) (yM pf rf 1) (yM pf rf 2) (eX rf mf) (eY rf mf) (eW pf tf rf))))) none) none
def scX:Option Out:=gR n hs rf 3 (gMi mf (rf 3) 2000 (gR n hs rf 4 (gMi mf (rf 4) 2000 (gR n hs rf 5 (gate (Sub (c1S n hs N (eX rf mf) (eY rf mf) (eW pf tf rf) 0 0 K) (c1S n hs N (eX rf mf) (eY rf mf) (eW pf tf rf) 0 0 K)) (gate (Sub (c3S n hs N (eX rf mf) (eY rf mf) (eW pf tf rf) 0 0 K A L) (c3S n hs N (eX rf mf) (eY rf mf) (eW pf tf rf) 0 0 K A L)) (gR n hs rf (aI (2+0)) (gR n hs rf (aI (2+1)) (gR n hs rf (aI (2+2)) (gate (aj bW 65 [sI n hs,iA N,iA 3] (.sl 13 NS λ q=>(S q).c)) (gate (Sub (c6S n hs N (eX rf mf) (eY rf mf) (eW pf tf rf) (yM pf rf 0) (yM pf rf 1) (yM pf rf 2) 0 0 NL K A L O S NS) (c6S n hs N (eX rf mf) (eY rf mf) (eW pf tf rf) (yM pf rf 0) (yM pf rf 1) (yM pf rf 2) 0 0 NL K A L O S NS)) (gR n hs rf 8 (cond (pf (rf 8) 3==0) (gate (aj bW 67 [sI n hs,iA 4,iA 3] (.agg F.c)) (scO pf tf rf mf NL NO K A L O S NS (.sl 8 1 λ q=>dn (afC q 0) [] F.c))) (scO pf tf rf mf NL NO K A L O S NS pQ))))))))))))))
theorem aec:qQ bW (M0 pf tf) (LB rf vf mf F S NS) [] (scL n hs pf tf rf mf N NL NO K A L O S NS) Xg az6 [sI n hs,iA N] ret=scX n hs pf tf rf mf F N NL NO K A L O S NS:=by kernel_rfl
theorem akx(c:Int):ev bW (M0 pf tf) [] aM Tryz.f63 [iA c,iA 2000] ret=some (Out.of (.f (Q7 pf tf c 2000))):=by kernel_rfl
end
theorem Z5(c:Int):aj bW 63 [iA c,iA 2000] (.f (Q7 dO gJ c 2000)):=aP tQ av Tryz.func63 (by kernel_rfl) (by kernel_rfl) aA rfl (akx dO gJ c)
theorem ao8:∀i h,Xg i=some h->fZ 0 h:=λ i h e=>by
 unfold Xg at e;cases h1:ax0 i 33
 .rw[h1]at e;cases e
 .rw[h1,cond_true]at e;cases e;exact KL (jq 2) (KL (jq 3) (KL (jq 4) (akw 6)))
section
variable{n:Nat}{hs:Nat->Int}{N:Int}{x y r:Nat}
theorem p2{a b c:Int}{k:Nat}(ha:0<=a)(ha':a<=100)(hb:0<=b)(hb':b<=10)(hc:0<=c)(hc':c<=10)(hk:k<=10):0<=aI (aI (a+aI (b*(k:Int)))+c):=by
 have h1:0<=b*(k:Int)/\b*(k:Int)<=100:=by
  refine⟨aC7 hb (by omega),?_⟩;have:b*(k:Int)<=10*10:=aEw hb' (by omega) (by omega) (by decide);omega
 rw[aO (n:=b*(k:Int)) (by omega) (by omega),aO (n:=a+b*(k:Int)) (by omega) (by omega),aO (by omega) (by omega)];omega
theorem auZ(b:Bool)(k j:Nat->Int):dn b (xB k) (xB j)=xB (cond b k j):=by cases b<;>rfl
theorem au0(b:Bool)(a c:Nat->Nat)(k j:Nat->Int):dn b (Ic a k) (Ic c j)=Ic (cond b a c) (cond b k j):=by cases b<;>rfl
theorem aqw(b:Bool)(a c:QY):dn b a.c c.c=(cond b a c).c:=by cases b<;>rfl
theorem afZ:bF bW (.loop (au az6 0)) (c1S n hs N x y r 0 0 λ q=>skN dO (dU n hs) (q:Nat)) (.exit 0) (c1S n hs N x y r 3 3 λ q=>skN dO (dU n hs) (q:Nat)):=by
 refine aU (λ k=>c1S n hs N x y r (k:Nat) k λ q=>skN dO (dU n hs) (q:Nat)) 3 (.exit 0) _ (by simp) (λ k hk=>?_) ?_
 .have hl:bF bW (au az6 0) (c1S n hs N x y r (k:Nat) k λ q=>skN dO (dU n hs) (q:Nat)) .normal (c1E n hs N x y r ((k+1:Nat):Int) (k+1) (λ q=>dn (afC q k) (xB (skN dO (dU n hs) (q:Nat))) (xB (skN dO (dU n hs) (k:Nat))))):=by
   refine aF (aT _ _) tQ (ak aD av) aA ((ajG n hs dO gJ (dU n hs) N x y r (k:Nat) k λ q=>skN dO (dU n hs) (q:Nat)).trans ?_);unfold c1C sk3;rw[decide_eq_true (show((k:Nat):Int)<3 by omega),cond_true,cO (show 0<=aI (6+(k:Int)) by rw[aO (by omega) (by omega)];omega)]
   iterate 3 rw[cO (p2 (by decide) (by decide) (by decide) (by decide) (by decide) (by decide) (by omega)),cO (p2 (by decide) (by decide) (by decide) (by decide) (by decide) (by decide) (by omega)),cO (p2 (by decide) (by decide) (by decide) (by decide) (by decide) (by decide) (by omega))]
   rw[qz (by omega),bD (n:=k) (by omega)];rfl
  refine hl.sub (Sub.refl _) (fP ⟨ER rfl,ER rfl,aaH (ER ⟨47,10,k+1,_,_,rfl,rfl,λ q hq=>jU ?_⟩),trivial⟩);rw[auZ];cases hb:afC q k
  .have:=uw hb
   obtain rfl:q=k:=by omega
   rfl
  .rfl
 .exact aF (bU _ _) tQ (ak aD av) aA ((aoL n hs dO gJ (dU n hs) N x y r ((3:Nat):Int) 3 λ q=>skN dO (dU n hs) (q:Nat)).trans rfl)
theorem af0{NL:Nat}(K:Nat->Nat->Int)(hN:dO (dU n hs 1) 3=(NL:Nat))(h3:NL<=3):bF bW (.loop (au az6 2)) (c3S n hs N x y r 0 0 K (λ q=>pz n hs (aI (17+aI (4*(q:Int)))) 6000) λ q c=>Xx dO (dU n hs) (q:Nat) (c:Nat)) (.exit 4) (c3S n hs N x y r NL NL K (λ q=>pz n hs (aI (17+aI (4*(q:Int)))) 6000) λ q c=>Xx dO (dU n hs) (q:Nat) (c:Nat)):=by
 refine aU (λ k=>c3S n hs N x y r (k:Nat) k K (λ q=>pz n hs (aI (17+aI (4*(q:Int)))) 6000) λ q c=>Xx dO (dU n hs) (q:Nat) (c:Nat)) NL (.exit 4) _ (by simp) (λ k hk=>?_) ?_
 .have e:aI (17+aI (4*(k:Int)))=17+4*(k:Int):=by rw[aO (n:=4*(k:Int)) (by omega) (by omega),aO (by omega) (by omega)]
  have pl:∀c:Int,0<=c->c<=2->0<=aI (aI (21+(k:Int))+c):=λ c h0 h2=>by rw[aO (n:=21+(k:Int)) (by omega) (by omega),aO (by omega) (by omega)];omega
  have hl:bF bW (au az6 2) (c3S n hs N x y r (k:Nat) k K (λ q=>pz n hs (aI (17+aI (4*(q:Int)))) 6000) λ q c=>Xx dO (dU n hs) (q:Nat) (c:Nat)) .normal (c3E n hs N x y r ((k+1:Nat):Int) (k+1) (λ q=>dn (afC q k) (Ic (pz n hs (aI (17+aI (4*(q:Int)))) 6000) λ c=>Xx dO (dU n hs) (q:Nat) (c:Nat)) (Ic (pz n hs (aI (17+aI (4*(k:Int)))) 6000) λ c=>Xx dO (dU n hs) (k:Nat) (c:Nat))) K):=by
   refine aF (aT _ _) tQ (ak aD (ak aD av)) aA ((ajH n hs dO gJ (dU n hs) (pz n hs) N x y r (k:Nat) k K (λ q=>pz n hs (aI (17+aI (4*(q:Int)))) 6000) λ q c=>Xx dO (dU n hs) (q:Nat) (c:Nat)).trans ?_);unfold c3C;rw[cO (by decide),hN,dec_lt hk,cond_true,yR (by rw[e];omega) (by rw[e];omega) (aaH (aaH (ER rfl))),cO (pl 0 (by decide) (by decide)),cO (pl 1 (by decide) (by decide)),cO (pl 2 (by decide) (by decide)),qz (by omega),bD (n:=k) (by omega)];rfl
  refine hl.sub (Sub.refl _) (fP ⟨ER rfl,ER rfl,ER rfl,aaH (ER ⟨76,6,k+1,_,_,rfl,rfl,λ q hq=>jU ?_⟩),trivial⟩);rw[au0];cases hb:afC q k
  .have:=uw hb
   obtain rfl:q=k:=by omega
   rfl
  .rfl
 .refine aF (bU _ _) tQ (ak aD (ak aD av)) aA ((aoM n hs dO gJ (dU n hs) (pz n hs) N x y r (NL:Nat) NL K (λ q=>pz n hs (aI (17+aI (4*(q:Int)))) 6000) λ q c=>Xx dO (dU n hs) (q:Nat) (c:Nat)).trans ?_)
  unfold c3C;rw[cO (by decide),hN,bQ,cond_false]
theorem af2{G:Int->QY}(hG:∀F:Nat,F<=50->aj bW 66 [sI n hs,iA (F:Nat),iA 3] (.agg (G (F:Nat)).c)){NO:Nat}(u v w:Int)(l:Nat)(K:Nat->Nat->Int)(A:Nat->Nat->Nat)(L:Nat->Nat->Int)(S:Nat->IL)(NS:Nat)(hN:dO (dU n hs 9) 3=(NO:Nat))(h3:NO<=3):bF bW (.loop (au az6 5)) (c6S n hs N x y r u v w 0 0 l K A L (λ q=>G (aI (5+aI (7*(q:Int))))) S NS) (.exit 10) (c6S n hs N x y r u v w NO NO l K A L (λ q=>G (aI (5+aI (7*(q:Int))))) S NS):=by
 refine aU (λ k=>c6S n hs N x y r u v w (k:Nat) k l K A L (λ q=>G (aI (5+aI (7*(q:Int))))) S NS) NO (.exit 10) _ (by simp) (λ k hk=>?_) ?_
 .have e:aI (5+aI (7*(k:Int)))=((5+7*k:Nat):Int):=by rw[aO (n:=7*(k:Int)) (by omega) (by omega),aO (by omega) (by omega)];omega
  have hs':aj bW 66 [sI n hs,iA (aI (5+aI (7*(k:Int)))),iA 3] (.agg (G (aI (5+aI (7*(k:Int))))).c):=by rw[e];exact hG _ (by omega)
  have hl:bF bW (au az6 5) (c6S n hs N x y r u v w (k:Nat) k l K A L (λ q=>G (aI (5+aI (7*(q:Int))))) S NS) .normal (c6E n hs N x y r u v w ((k+1:Nat):Int) (k+1) l (λ q=>dn (afC q k) (G (aI (5+aI (7*(q:Int))))).c (G (aI (5+aI (7*(k:Int))))).c) K A L (.sl 13 NS λ q=>(S q).c)):=by
   refine aF (aT _ _) tQ (ak aD (ak aD av)) aA ((ajI n hs dO gJ (dU n hs) G N x y r u v w (k:Nat) k l K A L (λ q=>G (aI (5+aI (7*(q:Int))))) S NS).trans ?_);unfold c6C;rw[cO (by decide),hN,dec_lt hk,cond_true,ah hs',qz (by omega),bD (n:=k) (by omega)];rfl
  refine hl.sub (Sub.refl _) (fP ⟨ER rfl,ER rfl,ER rfl,ER rfl,aaH (ER ⟨69,2,k+1,_,_,rfl,rfl,λ q hq=>jU ?_⟩),trivial⟩);rw[aqw];cases hb:afC q k
  .have:=uw hb
   obtain rfl:q=k:=by omega
   rfl
  .rfl
 .refine aF (bU _ _) tQ (ak aD (ak aD av)) aA ((aoN n hs dO gJ (dU n hs) G N x y r u v w (NO:Nat) NO l K A L (λ q=>G (aI (5+aI (7*(q:Int))))) S NS).trans ?_)
  unfold c6C;rw[cO (by decide),hN,bQ,cond_false]
end
end Go.Proofs.YtefphimaggjihaaGreatDoor.Hs.Sc
namespace Go.Proofs.YtefphimaggjihaaGreatDoor.Pi
open Go.Shelf Go.RowKit Go.Gv
open Go.Ev (cn bq dI bT fdiv fI dK jO kL gN lK aL key val isFin cB)
open Hs (gJ yP)
def by8(n:Int):Int:=IntKind.u8.wrap n
def dcC(c:Int):ByteArray:=abK 1 λ i=>Go.Gv.byteOf (chunk [yA c] 1 i)
def dcK(s:ByteArray):List aV:=[kS bW 23 λ _=>zA s]
theorem agc(n:Int)(s:ByteArray):evM bW [] (dcK s) [born 78] aM Tryz.f23 [iA n] ret =
  cond (decide (n<0)) (gate (aj bW 23 [iA (aI (0 - n))] (zA s)) (cond (mq ⟨#[45]⟩ s||false) (some (Out.of (zA (⟨#[45]⟩++s)))) none))
   (cond (decide (n<10)) (some (Out.of (zA (dcC (by8 (aI (48+n)))))))
    (gate (aj bW 23 [iA (aI (n.tdiv 10))] (zA s)) (cond ((mq s (dcC (by8 (aI (48+n.tmod 10))))||false)&&true) (some (Out.of (zA (s++dcC (by8 (aI (48+n.tmod 10))))))) none))):=by kernel_rfl
theorem apk(c:Nat):dcC (c:Nat)=lB [azk c]:=by
 unfold dcC;rw[Qh];show ByteArray.push ByteArray.empty (azk ((c:Int)).toNat)=_;rw[Zk];rfl
theorem aag{k:Nat}(h:k<10):dcC (by8 (aI (48+(k:Int))))=lB [azk (48+k)]:=by
 rw[aO (by omega) (by omega),show by8 (48+(k:Int))=((48+k:Nat):Int) by unfold by8;rw[atW (by omega) (by omega)];omega,apk]
theorem zi(k:Nat):ala (k:Int)=ayh k:=by unfold ala;rw[if_neg (by omega),Zk]
theorem decs:∀(d k:Nat),d<=7->k<10 ^ (d+1)->aj bW 23 [iA (k:Nat)] (zA (lB (ala (k:Nat))))
 |d,k,hd,hk=>by
  by_cases h:k<10
  .rw[zi,azY h]
   refine qw aB (ak aD av) (jl (iK _) bO) Tryz.func23 (by kernel_rfl) (by kernel_rfl) aA rfl ((agc (k:Nat) ⟨#[]⟩).trans ?_);rw[decide_eq_false (show ¬(k:Int)<0 by omega),decide_eq_true (show(k:Int)<10 by omega),aag h];rfl
  .match d with
   | 0=>exact absurd hk (by omega)
   |d+1 =>
    have ih:=decs d (k / 10) (by omega) (by rw[ayD]at hk;omega);have hk8:k<100000000:=Nat.lt_of_lt_of_le hk (apL (Nat.pow_le_pow_right (by decide) (show d+1+1<=8 by omega)) (by decide));have hl:=(lu (n:=((k / 10:Nat):Int)) (by omega) (by omega)).2;refine qw aB (ak aD av) (jl (iK _) bO) Tryz.func23 (by kernel_rfl) (by kernel_rfl) aA rfl ((agc (k:Nat) (lB (ala ((k / 10:Nat):Int)))).trans ?_);have e1:aI ((k:Int).tdiv 10)=((k / 10:Nat):Int):=by rw[aCo (by omega),aO (by omega) (by omega)];omega
    have e2:(k:Int).tmod 10=((k % 10:Nat):Int):=by rw[azt (by omega)];omega
    have e3:ala (k:Int)=ala ((k / 10:Nat):Int)++[azk (48+k % 10)]:=by rw[zi,zi,ayh,dif_neg h]
    rw[decide_eq_false (show ¬(k:Int)<0 by omega),cond_false,decide_eq_false (show ¬(k:Int)<10 by omega),cond_false,e1,e2,ah ih,aag (k:=k % 10) (by omega),kW (by rw[aY,aY];show _+1<=_;omega),gZ,e3];rfl
theorem sD{n:Int}(h0:0<=n)(h1:n<100000000):aj bW 23 [iA n] (zA (lB (ala n))):=by
 obtain⟨k,rfl⟩:=ay2 h0;exact decs 7 k (by decide) (by omega)
def gDd(dd:Int->ByteArray):List AV->AV
 | [.x (.int _ n)]=>zA (dd n)
 |_=>.any
def gTf(tf:Int->Nat):List AV->AV
 | [.x (.int _ n)]=>.f (tf n)
 |_=>.any
section
variable(dd:Int->ByteArray)(tf:Int->Nat)(x:Nat)
def UW(n:Int):Prop:=aj bW 23 [iA n] (zA (dd n))
def I4:Option Out:=some (Out.of (.aN [zA ⟨#[]⟩,bA false]))
def toF(s:ByteArray):Option Out:=cond (jO x 0) (cond (mq ⟨#[45]⟩ s||false) (some (Out.of (.aN [zA (⟨#[45]⟩++s),bA true]))) none) (some (Out.of (.aN [zA s,bA true])))
def toD(n:Int)(s:ByteArray)(K:ByteArray->Option Out):Option Out:=gate (UW dd n) (cond (mq s (dd n)||false) (K (s++dd n)) none)
def toE(d:Int)(s:ByteArray):Option Out:=cond (decide (d.tmod 10>0)) (toD dd (d.tmod 10) s (toF x)) (toF x s)
def toG(d:Int)(s:ByteArray):Option Out:=cond (decide (d.tmod 100>0)) (toD dd ((aI (d.tdiv 10)).tmod 10) s (toE dd x d)) (toE dd x d s)
def toC(d:Int)(s:ByteArray):Option Out:=cond (decide (d>0)) (cond (mq s dtS||false) (toD dd (aI (d.tdiv 100)) (s++dtS) (toG dd x d)) none) (toF x s)
def toB(n:Int):Option Out:=gate (UW dd (aI (n.tdiv 1000))) (toC dd x (n.tmod 1000) (dd (aI (n.tdiv 1000))))
def G8(a:Nat):Nat:=bq (bT a 4652007308841189376) 4602678819172646912
def tNn(a:Nat):Int:=LC .i64 (G8 a)
def toA(a:Nat):Option Out:=cond (Ce .i64 (G8 a)||false) (gate (aj bW 37 [iA (tNn a)] (.f (tf (tNn a)))) (cond (!(dK (tf (tNn a)) a)) I4 (toB dd x (tNn a)))) none
theorem arN:ev bW [] [kS bW 23 (gDd dd),kS bW 37 (gTf tf)] aM Tryz.f36 [.f x] ret =
 cond (!(cond (lK x 13875379345695965184) (kL x 4652007308841189376) false)) I4 (cond (jO x 0) (toA dd tf x (fI x)) (toA dd tf x x)):=by kernel_rfl
end
end Go.Proofs.YtefphimaggjihaaGreatDoor.Pi
namespace Go.Proofs.YtefphimaggjihaaGreatDoor.Pi
open Go.Shelf Go.RowKit Go.Gv
def dg(k:Nat):UInt8:=azk (48+k)
theorem OH:∀k,k<10->(dg k==48)=decide (k=0):=by decide
theorem amF{k:Nat}(h:k<10):ala ((k:Nat):Int)=[dg k]:=by rw[zi,azY h];rfl
theorem aii{d:Nat}(h:d<1000):ala ((1000+d:Nat):Int)=[49,dg (d / 100),dg (d / 10 % 10),dg (d % 10)]:=by
 rw[zi,ayh,dif_neg (by omega),ayh,dif_neg (by omega),ayh,dif_neg (by omega),azY (by omega)];have e0:(1000+d) / 10 / 10 / 10=1:=by omega
 have e1:(1000+d) / 10 / 10 % 10=d / 100:=by omega
 have e2:(1000+d) / 10 % 10=d / 10 % 10:=by omega
 have e3:(1000+d) % 10=d % 10:=by omega
 rw[e0,e1,e2,e3];rfl
def Vz(d:Nat):List UInt8:=dg (d / 100)::((if d % 100>0 then [dg (d / 10 % 10)]else [])++(if d % 10>0 then [dg (d % 10)]else []))
theorem asN{d:Nat}(h0:0<d)(h:d<1000):ayI ((ala ((1000+d:Nat):Int)).drop 1) 48=Vz d:=by
 rw[aii h];unfold ayI Vz;have z1:=OH (d % 10) (by omega);have z2:=OH (d / 10 % 10) (by omega);have z3:=OH (d / 100) (by omega);show(aBp _ [dg (d % 10),dg (d / 10 % 10),dg (d / 100)]).reverse=_;by_cases c1:d % 10=0
 .rw[decide_eq_true c1]at z1
  by_cases c2:d / 10 % 10=0
  .rw[decide_eq_true c2]at z2
   rw[decide_eq_false (show ¬d / 100=0 by omega)]at z3;rw[if_neg (by omega),if_neg (by omega)];simp[aBp,z1,z2,z3]
  .rw[decide_eq_false c2]at z2
   rw[if_pos (by omega),if_neg (by omega)];simp[aBp,z1,z2]
 .rw[decide_eq_false c1]at z1
  rw[if_pos (by omega),if_pos (by omega)];simp[aBp,z1]
open Go.Ev (cn bq dI bT fdiv fI dK jO kL gN lK aL key val isFin cB)
open Hs (gJ yP)
def qY(n:Int):ByteArray:=lB (ala n)
theorem aqy(x:Nat){l:List UInt8}(h:l.length<=100):toF x (lB l)=some (Out.of (.aN [zA (lB ((if jO x 0 then [45]else [])++l)),bA true])):=by
 unfold toF;cases jO x 0
 .rfl
 .rw[show(⟨#[45]⟩:ByteArray)=lB [45] from rfl,kW (by rw[aY,aY];show 1+_<=_;omega),gZ]
  rfl
theorem Yp{n:Nat}(hn:n<10){l:List UInt8}(h:l.length<=100)(K:ByteArray->Option Out):toD qY (n:Nat) (lB l) K=K (lB (l++[dg n])):=by
 unfold toD;have hd:UW qY (n:Nat):=sD (by omega) (by omega);have e:qY (n:Nat)=lB [dg n]:=by unfold qY;rw[amF hn]
 rw[ah hd,e,kW (by rw[aY,aY];show _+1<=_;omega),gZ];rfl
theorem tq(d k:Nat)(hd:d<100000000):aI (((d:Nat):Int).tdiv (k:Nat))=((d / k:Nat):Int):=by
 rw[aCo (by omega),<-Int.natCast_ediv];have:d / k<=d:=Nat.div_le_self _ _;generalize d / k=q at *;exact aO (by omega) (by omega)
theorem tm(d k:Nat):((d:Nat):Int).tmod (k:Nat)=((d % k:Nat):Int):=by
 rw[azt (by omega),Int.natCast_emod]
theorem au1(d:Nat):((d:Nat):Int).tmod 10=((d % 10:Nat):Int):=tm d 10
theorem axr{d:Nat}(h:d<100000000):aI (((d:Nat):Int).tdiv 10)=((d / 10:Nat):Int):=tq d 10 h
theorem au2(d:Nat):((d:Nat):Int).tmod 100=((d % 100:Nat):Int):=tm d 100
theorem au3{d:Nat}(h:d<100000000):aI (((d:Nat):Int).tdiv 100)=((d / 100:Nat):Int):=tq d 100 h
theorem aqz(d:Nat):((d:Nat):Int).tmod 1000=((d % 1000:Nat):Int):=tm d 1000
theorem aqA{d:Nat}(h:d<100000000):aI (((d:Nat):Int).tdiv 1000)=((d / 1000:Nat):Int):=tq d 1000 h
theorem ahg(x:Nat){d:Nat}{l:List UInt8}(h:l.length<=50):toE qY x (d:Nat) (lB l)=toF x (lB (l++(if d % 10>0 then [dg (d % 10)]else []))):=by
 unfold toE;rw[au1];by_cases h0:d % 10>0
 .rw[decide_eq_true (by omega),cond_true,Yp (by omega) (by omega),if_pos h0]
 .rw[decide_eq_false (by omega),cond_false,if_neg h0,awr]
theorem aqC(x:Nat){d:Nat}{l:List UInt8}(hd:d<1000)(h:l.length<=40):toG qY x (d:Nat) (lB l)=toF x (lB (l++((if d % 100>0 then [dg (d / 10 % 10)]else [])++(if d % 10>0 then [dg (d % 10)]else [])))):=by
 unfold toG;rw[au2,axr (by omega),au1];by_cases h0:d % 100>0
 .rw[decide_eq_true (by omega),cond_true,Yp (by omega) (by omega),if_pos h0,ahg x (by simp;omega),aiR]
 .rw[decide_eq_false (by omega),cond_false,ahg x (by omega),if_neg h0,aBR]
theorem aqD(x:Nat){d:Nat}{l:List UInt8}(hd:d<1000)(h:l.length<=30):toC qY x (d:Nat) (lB l)=toF x (lB (l++(if d=0 then []else 46::Vz d))):=by
 unfold toC;by_cases h0:d=0
 .rw[decide_eq_false (by omega),cond_false,if_pos h0,awr]
 .rw[decide_eq_true (by omega),cond_true,show dtS=lB [46] from rfl,kW (by rw[aY,aY];show _+1<=_;omega),gZ,au3 (by omega)]
  show toD qY _ _ _=_;rw[Yp (by omega) (by simp;omega),aqC x hd (by simp;omega),if_neg h0];unfold Vz;simp
theorem ahh(n:Nat):dcA n=ala ((n / 1000:Nat):Int)++(if n % 1000=0 then []else 46::Vz (n % 1000)):=by
 unfold dcA;by_cases h:n % 1000=0
 .rw[if_pos h,if_pos h]
 .rw[if_neg h,if_neg h,asN (by omega) (by omega)]
theorem akA(d:Nat):(Vz d).length<=3:=by
 unfold Vz;split<;>split<;>simp
theorem amg(x:Nat){n:Nat}(hn:n<=1000000):toB qY x (n:Nat)=some (Out.of (.aN [zA (lB ((if jO x 0 then [45]else [])++dcA n)),bA true])):=by
 unfold toB;have hd:UW qY ((n / 1000:Nat):Int):=sD (by omega) (by omega);have hl:=(lu (n:=((n / 1000:Nat):Int)) (by omega) (by omega)).2;have hf:=akA (n % 1000);rw[aqA (by omega),aqz,ah hd];show toC qY x _ (lB _)=_;rw[aqD x (by omega) (by omega),<-ahh,aqy];rw[ahh,uI];split
 .rw[arB];omega
 .rw[anE];omega
end Go.Proofs.YtefphimaggjihaaGreatDoor.Pi
namespace Go.Ev
open Ieee
open Go.Proofs.YtefphimaggjihaaGreatDoor.Hs (gJ)
open Go.Proofs.YtefphimaggjihaaGreatDoor.Pi (G8 tNn)
section
variable{c:Nat}
theorem JX{a:Nat}(hf:isFin a=true)(h0:-4652007308841189376<=key a)(h1:key a<=4652007308841189376):cB a:=by
 obtain⟨c,hc⟩:∃c,c=1074:=⟨_,rfl⟩;have e1:key 13875379345695965184=-4652007308841189376:=by decide +kernel
 have e2:key 4652007308841189376=4652007308841189376:=by decide +kernel
 have t1:val 4652007308841189376=((1000*2 ^ c:Nat):Int):=by subst hc;decide +kernel
 have t2:val 13875379345695965184=-((1000*2 ^ c:Nat):Int):=by subst hc;decide +kernel
 have a1:=oF.2 (show key 13875379345695965184<=key a by omega);have a2:=oF.2 (show key a<=key 4652007308841189376 by omega);refine⟨hf,?_⟩;rw[<-hc];have:1000*2 ^ c<=1000000*2 ^ c:=Nat.mul_le_mul_right _ (by decide);generalize 1000*2 ^ c=A at *;generalize 1000000*2 ^ c=B at *;omega
theorem zL:isFin 4602678819172646912=true:=by decide +kernel
theorem YU(hc:c=1074){a:Nat}(hf:isFin a=true)(h0:0<=key a)(h1:key a<=4652007308841189376) :
    isFin (G8 a)=true/\0<=val (G8 a)/\key (G8 a)<=key (G8 4652007308841189376)/\(0<=tNn a/\tNn a<=1000000)/\Go.Gv.Ce .i64 (G8 a)=true:=by
  have hK:isFin 4652007308841189376=true:=by decide +kernel
  have e2:key 4652007308841189376=4652007308841189376:=by decide +kernel
  obtain⟨a1,_,_,a4⟩:=Bz hc (JX hf (by omega) h1);obtain⟨b1,_,_,b4⟩:=Bz hc (JX hK (by omega) (by omega));obtain⟨d1,_,_,d4⟩:=Bz hc (JX (a:=0) (by decide +kernel) (by decide +kernel) (by decide +kernel))
  have v0 := oF.2 (show key 0 ≤ key a by     have:key 0=0:=by decide +kernel
                                             omega)
  have v1:=oF.2 (show key a<=key 4652007308841189376 by omega);have k1:key (bT a 4652007308841189376)<=key (bT 4652007308841189376 4652007308841189376):=by rw[a4,b4];exact D9 1 (by omega)
  have k0:key (bT 0 4652007308841189376)<=key (bT a 4652007308841189376):=by rw[a4,d4];exact D9 1 (by omega)
  have m1:key (G8 a)<=key (G8 4652007308841189376):=M9 a1 b1 zL k1;have m0:key (G8 0)<=key (G8 a):=M9 d1 a1 zL k0;have z0:key (G8 0)=4602678819172646912:=by decide +kernel
  have z1:key (G8 4652007308841189376)<9218868437227405312:=by decide +kernel
  have hfn:isFin (G8 a)=true:=yQ (xH a1 zL).2 m0 m1 (by omega) z1;have hv:0<=val (G8 a):=Int.le_of_lt (Ae.2 (by omega));have hB:(val (G8 4652007308841189376)).natAbs / 2 ^ c<=4611686018427387904:=by subst hc;decide +kernel
  have hm:=aeD hc hfn (show isFin (G8 4652007308841189376)=true by decide +kernel) hv m1 hB;have hM:Go.Gv.LC .i64 (G8 4652007308841189376)=1000000:=by decide +kernel
  have v2:=oF.2 m1;have hb:(val (G8 a)).natAbs / 2 ^ c<=4611686018427387904:=apL (az1 (by omega)) hB;have hp:=wZ hc hfn hv hb;refine⟨hfn,hv,m1,⟨by unfold tNn;rw[hp];exact azv _,by unfold tNn;omega⟩,?_⟩;refine WJ hc (j:=53) ⟨hfn,?_⟩ (by decide) (by decide);have hC:(val (G8 4652007308841189376)).natAbs<=1*2 ^ (c+53):=by subst hc;decide +kernel
  omega
theorem arM(hc:c=1074){a:Nat}(hf:isFin a=true)(h0:0<=key a)(h1:key a<=4652007308841189376){m:Nat}(hm:m<=1000000)(hk:key (gJ m)=key a):tNn a=m:=by
 obtain⟨f1,p1,k1,_,_⟩:=YU hc hf h0 h1;obtain⟨a1,_,_,a4⟩:=Bz hc (JX hf (by omega) h1);obtain⟨mk,mf⟩:=tN hc (n:=(m:Int)) (by simpa using hm);obtain⟨b1,_,_,b4⟩:=Bz hc (JX mf (by omega) (by omega));have hv:=C9 hk;have hkk:key (bT a 4652007308841189376)=key (qP m):=by unfold qP;rw[a4,b4,hv]
 have av6:key (G8 a)=key (bq (qP m) 4602678819172646912):=by
  unfold G8;rw[(xH a1 zL).1,(xH (x:=qP m) b1 zL).1,C9 hkk]
 obtain⟨r1,r2⟩:=aeE hc hm;have hB:(val (G8 4652007308841189376)).natAbs / 2 ^ c<=4611686018427387904:=by subst hc;decide +kernel
 have v2:=oF.2 k1;have hb:(val (G8 a)).natAbs / 2 ^ c<=4611686018427387904:=apL (az1 (by omega)) hB;have hvv:=C9 av6;unfold tNn;rw[wZ hc f1 p1 hb,<-r1,wZ hc r2 (by rw[<-hvv];exact p1) (by rw[<-hvv];exact hb),hvv]
end
end Go.Ev
namespace Go.Proofs.YtefphimaggjihaaGreatDoor.Pi
open Go.Shelf Go.RowKit Go.Gv
open Go.Ev (cn bq dI bT fdiv fI dK jO kL gN lK aL key val isFin cB)
open Hs (gJ yP)
def toV(x:Nat):AV:=cond (bG x) (.aN [zA (lB (cK (dF x))),bA true]) (.aN [zA ⟨#[]⟩,bA false])
theorem Ml(n:Int):aj bW 37 [iA n] (.f (gJ n)):=aP aB av Tryz.func37 (by kernel_rfl) (by kernel_rfl) aA rfl (show ev bW [] [] aM Tryz.f37 [iA n] ret=some (Out.of (.f (gJ n))) by kernel_rfl)
theorem ahK:key 0=0:=by decide +kernel
theorem YR{n:Int}(h:n.natAbs<=1000000):aL (gJ n)=false:=by
 obtain⟨c,hc⟩:∃c,c=1074:=⟨_,rfl⟩;exact Go.Ev.jP (Go.Ev.tN hc h).2
theorem YS{n:Int}(h:n.natAbs<=1000000):-4652007308841189376<=key (gJ n)/\key (gJ n)<=4652007308841189376:=by
 obtain⟨c,hc⟩:∃c,c=1074:=⟨_,rfl⟩;have a:=Hs.So.IY hc (m:=-1000000) (n:=n) (by omega) (by decide) (by omega);have b:=Hs.So.IY hc (m:=n) (n:=1000000) (by omega) (by omega) (by decide);have e1:key (gJ (-1000000))=-4652007308841189376:=by decide +kernel
 have e2:key (gJ 1000000)=4652007308841189376:=by decide +kernel
 omega
theorem IZ{n:Int}(h:n.natAbs<=1000000):key (gJ (-n))=- key (gJ n):=by
 obtain⟨c,hc⟩:∃c,c=1074:=⟨_,rfl⟩;rw[(Go.Ev.tN hc (n:=-n) (by omega)).1,(Go.Ev.tN hc h).1,Int.neg_mul,Go.Ev.U3 _ (by decide)]
theorem Q5{n:Int}(h:n.natAbs<=1000000)(h0:0<=n):0<=key (gJ n):=by
 obtain⟨c,hc⟩:∃c,c=1074:=⟨_,rfl⟩;have a:=Hs.So.IY hc (m:=0) (n:=n) h0 (by decide) (by omega);have e1:key (gJ 0)=0:=by decide +kernel
 omega
def IsT(x:Nat)(n:Int):Prop:=n.natAbs<=1000000/\key (gJ n)=key x
theorem YT{x:Nat}(hx:aL x=false){n:Int}(h:n.natAbs<=1000000):dK (gJ n) x=decide (key (gJ n)=key x):=Go.Ev.Hu (YR h) hx
theorem Ol{x:Nat}(h:cB x){n:Int}(ht:IsT x n):bG x=true/\dF x=n:=arJ h ht.1 (by rw[YT (Go.Ev.jP h.fin) ht.1];exact decide_eq_true ht.2)
theorem Vb{x:Nat}(h:bG x=true):IsT x (dF x):=by
 obtain⟨a,b⟩:=Om h;exact⟨a,(Go.Ev.vg b).2.2⟩
theorem acO{a:Nat}(hf:isFin a=true)(h0:0<=key a)(h1:key a<=4652007308841189376)(y:Nat) :
  (∃m:Nat,IsT a m/\toA qY gJ y a=some (Out.of (.aN [zA (lB ((if jO y 0 then [45]else [])++dcA m)),bA true])))\/((∀m:Nat,¬IsT a m)/\toA qY gJ y a=I4):=by
 obtain⟨c,hc⟩:∃c,c=1074:=⟨_,rfl⟩;obtain⟨_,_,_,⟨n0,n1⟩,hfit⟩:=Go.Ev.YU hc hf h0 h1;obtain⟨m,hm⟩:=ay2 n0;have hmr:m<=1000000:=by omega
 have e:toA qY gJ y a=cond (!(dK (gJ (m:Nat)) a)) I4 (toB qY y (m:Nat)):=by
  unfold toA;rw[hfit,ah (Ml _),hm];rfl
 rw[e,YT (Go.Ev.jP hf) (n:=(m:Int)) (by omega)];by_cases hk:key (gJ (m:Nat))=key a
 .exact ER ⟨m,⟨by omega,hk⟩,by rw[decide_eq_true hk,amg y hmr];rfl⟩
 .refine aaH ⟨λ m' ht=>hk ?_,by rw[decide_eq_false hk];rfl⟩
  have:=Go.Ev.arM hc hf h0 h1 (m:=m') (by have:=ht.1;omega) ht.2;rw[show m=m' by omega];exact ht.2
theorem aaM{x:Nat}(h:cB x):aj bW 36 [.f x] (toV x):=by
 refine aP aB (ak aD (ak aD av)) Tryz.func36 (by kernel_rfl) (by kernel_rfl) aA rfl ((arN qY gJ x).trans ?_);have hx:=Go.Ev.jP h.fin;have n1:aL 13875379345695965184=false:=by decide +kernel
 have n2:aL 4652007308841189376=false:=by decide +kernel
 have n3:aL 0=false:=by decide +kernel
 have c1:key 13875379345695965184=-4652007308841189376:=by decide +kernel
 have c2:key 4652007308841189376=4652007308841189376:=by decide +kernel
 rw[Go.Ev.Oo hx n1,Go.Ev.Oq hx n2,Go.Ev.Ot hx n3,c1,c2,ahK];have no:bG x=false->I4=some (Out.of (toV x)):=λ hb=>by unfold toV;rw[hb];rfl
 have yes:bG x=true->some (Out.of (.aN [zA (lB (cK (dF x))),bA true]))=some (Out.of (toV x)):=λ hb=>by unfold toV;rw[hb];rfl
 by_cases hr:-4652007308841189376<=key x/\key x<=4652007308841189376
 .rw[decide_eq_true hr.1,cond_true,decide_eq_true hr.2]
  by_cases hs:key x<0
  .rw[decide_eq_true hs]
   obtain⟨fk,fn⟩:=Go.Ev.Q6 hx;have ff:isFin (fI x)=true:=Go.Ev.yQ (lo:=13875379345695965184) (hi:=4652007308841189376) fn (by omega) (by omega) (by omega) (by omega);show toA qY gJ x (fI x)=_;rcases acO ff (by omega) (by omega) x with⟨m,ht,he⟩ | ⟨hn,he⟩
   .have ht':IsT x (-(m:Int)):=⟨by have:=ht.1;omega,by rw[IZ ht.1,ht.2,fk];omega⟩
    obtain⟨b1,b2⟩:=Ol h ht';rw[he,<-yes b1,b2,Go.Ev.Ot hx n3,ahK,decide_eq_true hs,if_pos rfl]
    have hm0:m≠0:=by
     intro e0;subst e0;have e1:key (gJ 0)=0:=by decide +kernel
     have:=ht.2;have:key (gJ 0)=key (fI x):=this;omega
    unfold cK;rw[if_pos (by omega),show(-(m:Int)).natAbs=m by omega]
   .rw[he]
    apply no;cases hb:bG x
    .rfl
    .have ht:=Vb hb
     by_cases hn0:0<=dF x
     .have:=Q5 ht.1 hn0
      have:=ht.2;omega
     .exact absurd (show IsT (fI x) ((dF x).natAbs:Nat) from⟨by have:=ht.1;omega,by rw[show(((dF x).natAbs:Nat):Int)=-(dF x) by omega,IZ ht.1,ht.2,fk]⟩) (hn _)
  .rw[decide_eq_false hs]
   show toA qY gJ x x=_;rcases acO h.fin (by omega) hr.2 x with⟨m,ht,he⟩ | ⟨hn,he⟩
   .obtain⟨b1,b2⟩:=Ol h ht
    rw[he,<-yes b1,b2,Go.Ev.Ot hx n3,ahK,decide_eq_false hs,if_neg (by decide)];unfold cK;rw[if_neg (by omega),Int.natAbs_natCast]
   .rw[he]
    apply no;cases hb:bG x
    .rfl
    .have ht:=Vb hb
     by_cases hn0:0<=dF x
     .obtain⟨k,hk⟩:=ay2 hn0
      rw[hk]at ht;exact absurd ht (hn k)
     .have a:=Q5 (n:=-(dF x)) (by have:=ht.1;omega) (by omega)
      rw[IZ ht.1]at a;have kz:key x=0:=by have:=ht.2;omega
      have:IsT x 0:=⟨by decide,by rw[kz];decide +kernel⟩;exact absurd this (hn 0)
 .have hb:bG x=false:=by
   cases hb:bG x
   .rfl
   .have ht:=Vb hb
    have:=YS ht.1;have:=ht.2;omega
  rw[<-no hb];by_cases h1:-4652007308841189376<=key x
  .rw[decide_eq_true h1,cond_true,decide_eq_false (by omega)];rfl
  .rw[decide_eq_false h1];rfl
end Go.Proofs.YtefphimaggjihaaGreatDoor.Pi
namespace Go.Proofs.YtefphimaggjihaaGreatDoor.Pi
open Go.Shelf Go.RowKit Go.Gv
def gTo(ts:Nat->ByteArray)(tb:Nat->Bool):List AV->AV
 | [.f w]=>.aN [zA (ts w),bA (tb w)]
 |_=>.any
def UU:ByteArray:=⟨#[32]⟩
section
variable(ts:Nat->ByteArray)(tb:Nat->Bool)(dd:Int->ByteArray)
def FTo(x:Nat):Prop:=aj bW 36 [.f x] (.aN [zA (ts x),bA (tb x)])
def taS(x:Nat)(s:ByteArray)(K:ByteArray->Option Out):Option Out:=gate (FTo ts tb x) (cond (!(tb x)) I4 (cond (mq s UU||false) (cond (mq (s++UU) (ts x)||false) (K ((s++UU)++ts x)) none) none))
def taE(s:ByteArray):Option Out:=some (Out.of (.aN [zA s,bA true]))
theorem aoJ(x:Nat):ev bW [] [kS bW 36 (gTo ts tb)] aM aFq [YD [x]] ret=taS ts tb x ⟨#[]⟩ taE:=by kernel_rfl
theorem aoK(x y z:Nat):ev bW [] [kS bW 36 (gTo ts tb)] aM aFq [YD [x,y,z]] ret=taS ts tb x ⟨#[]⟩ λ s=>taS ts tb y s λ s=>taS ts tb z s taE:=by kernel_rfl
theorem ady(k:Int):ev bW [] [kS bW 23 (gDd dd)] aM Tryz.f39 [iA k] ret=gate (UW dd k) (cond (mq ⟨#[32,115]⟩ (dd k)||false) (cond (mq (⟨#[32,115]⟩++dd k) ⟨#[32,59,10]⟩||false) (some (Out.of (zA ((⟨#[32,115]⟩++dd k)++⟨#[32,59,10]⟩)))) none) none):=by kernel_rfl
end
open Go.Ev (cB)
def Kw(x:Nat):ByteArray:=cond (bG x) (lB (cK (dF x))) ⟨#[]⟩
theorem ZV{x:Nat}(h:cB x):FTo Kw bG x:=by
 have:=aaM h;unfold FTo Kw;unfold toV at this;cases hb:bG x
 .rw[hb]at this;exact this
 .rw[hb]at this;exact this
def pY(xs:List Nat):List UInt8:=tks true (xs.map λ x=>cK (dF x))
theorem afD(x:Nat)(xs:List Nat):pY (x::xs)=32::(cK (dF x)++pY xs):=rfl
theorem PN{x:Nat}(h:cB x){l:List UInt8}(hl:l.length<=1000)(K:ByteArray->Option Out):taS Kw bG x (lB l) K=cond (bG x) (K (lB (l++(32::cK (dF x))))) I4:=by
 unfold taS;rw[ah (ZV h)];cases hb:bG x
 .rfl
 .have e:Kw x=lB (cK (dF x)):=by unfold Kw;rw[hb];rfl
  have hd:=(y8 _ (apL (ql x) (by decide))).2;rw[e,show UU=lB [32] from rfl,kW (by rw[aY,aY];show _+1<=_;omega),gZ,kW (by rw[aY,aY,uI];show _+1+_<=_;omega),gZ,aiR];rfl
def taV(ok:Bool)(l:List UInt8):AV:=cond ok (.aN [zA (lB l),bA true]) (.aN [zA (lB []),bA false])
theorem afE{x:Nat}(h:cB x):aj bW 34 [YD [x]] (taV (bG x) (pY [x])):=by
 refine aP aB (ak aD av) aEU (by kernel_rfl) (by kernel_rfl) aA rfl ((aoJ Kw bG x).trans ?_);rw[show(⟨#[]⟩:ByteArray)=lB [] from rfl,PN h (by simp)];have e:pY [x]=32::cK (dF x):=by rw[afD];show 32::(cK (dF x)++[])=_;rw[awr]
 rw[e];cases bG x<;>rfl
theorem afF{x y z:Nat}(hx:cB x)(hy:cB y)(hz:cB z):aj bW 34 [YD [x,y,z]] (taV (bG x&&(bG y&&bG z)) (pY [x,y,z])):=by
 refine aP aB (ak aD av) aEU (by kernel_rfl) (by kernel_rfl) aA rfl ((aoK Kw bG x y z).trans ?_);have dx:=(y8 _ (apL (ql x) (by decide))).2;have dy:=(y8 _ (apL (ql y) (by decide))).2;rw[show(⟨#[]⟩:ByteArray)=lB [] from rfl,PN hx (by simp)];cases bG x
 .rfl
 .rw[cond_true,PN hy (by simp;omega)]
  cases bG y
  .rfl
  .rw[cond_true,PN hz (by simp;omega)]
   have e:pY [x,y,z]=(([]++(32::cK (dF x)))++(32::cK (dF y)))++(32::cK (dF z)):=by simp[pY,tks]
   rw[e];cases bG z<;>rfl
def uD(k:Int):List UInt8:=[32,115]++(ala k++[32,59,10])
theorem ajF{k:Int}(h0:0<=k)(h1:k<100000000):aj bW 39 [iA k] (zA (lB (uD k))):=by
 refine aP aB (ak aD av) Tryz.func39 (by kernel_rfl) (by kernel_rfl) aA rfl ((ady qY k).trans ?_);have hd:UW qY k:=sD h0 h1;have hl:=(lu h0 h1).2;rw[ah hd,show(⟨#[32,115]⟩:ByteArray)=lB [32,115] from rfl,show(⟨#[32,59,10]⟩:ByteArray)=lB [32,59,10] from rfl,show qY k=lB (ala k) from rfl,kW (by rw[aY,aY];show 2+_<=_;omega),gZ,kW (by rw[aY,aY,uI];show 2+_+3<=_;omega),gZ,aiR];rfl
theorem Ip(k:Int):iD true [oK k]=uD k:=by simp[iD,tks,uD,oK]
end Go.Proofs.YtefphimaggjihaaGreatDoor.Pi
namespace Go.Proofs.YtefphimaggjihaaGreatDoor.Pi
open Go.Shelf Go.RowKit Go.Gv
section
variable(x y z:Nat)(s:ByteArray)(b:Bool)
theorem arj:evM bW [] [kS bW 34 (λ _=>.aN [zA s,bA b])] [born 88] aM Tryz.f33 [.agg [.f x,.f y,.f z]] ret=gate (aj bW 34 [YD [x,y,z]] (.aN [zA s,bA b])) (some (Out.of (.aN [zA s,bA b]))):=by kernel_rfl
end
section
variable(dd:Int->ByteArray)(a b c:Int)
def tw1:ByteArray:=UU++dd a
def tw2:ByteArray:=tw1 dd a++UU
def tw3:ByteArray:=tw2 dd a++dd b
def tw4:ByteArray:=tw3 dd a b++UU
def tw5:ByteArray:=tw4 dd a b++dd c
def twB:Bool:=((mq UU (dd a)||false)&&((mq (tw1 dd a) UU||false)&&((mq (tw2 dd a) (dd b)||false)&&((mq (tw3 dd a b) UU||false)&&((mq (tw4 dd a b) (dd c)||false)&&true)))))
theorem as4:ev bW [] [kS bW 23 (gDd dd)] aM Tryz.f35 [.agg [iA a,iA b,iA c]] ret=gate (UW dd a) (gate (UW dd b) (gate (UW dd c) (cond (twB dd a b c) (some (Out.of (zA (tw5 dd a b c)))) none))):=by kernel_rfl
end
open Go.Ev (cB)
theorem Qg(ok:Bool)(l:List UInt8):taV ok l=.aN [zA (lB (cond ok l [])),bA ok]:=by cases ok<;>rfl
theorem aj1{x y z:Nat}(hx:cB x)(hy:cB y)(hz:cB z):aj bW 33 [.agg [.f x,.f y,.f z]] (taV (bG x&&(bG y&&bG z)) (pY [x,y,z])):=by
 have h:=afF hx hy hz;rw[Qg]at h ⊢;exact qw aB (ak aD av) (jl (iK _) bO) Tryz.func33 (by kernel_rfl) (by kernel_rfl) aA rfl ((arj x y z _ _).trans (ah h))
theorem aj2{f:Nat->Int}(h:∀q,q<3->0<=f q/\f q<=65536):aj bW 35 [.agg [iA (f 0),iA (f 1),iA (f 2)]] (zA (lB (tks true (Bl f)))):=by
 have a0:=h 0 (by decide);have a1:=h 1 (by decide);have a2:=h 2 (by decide);refine aP aB (ak aD av) Tryz.func35 (by kernel_rfl) (by kernel_rfl) aA rfl ((as4 qY (f 0) (f 1) (f 2)).trans ?_);have h0:UW qY (f 0):=sD a0.1 (by omega);have h1:UW qY (f 1):=sD a1.1 (by omega);have h2:UW qY (f 2):=sD a2.1 (by omega);have l0:=(lu (n:=f 0) a0.1 (by omega)).2;have l1:=(lu (n:=f 1) a1.1 (by omega)).2;have l2:=(lu (n:=f 2) a2.1 (by omega)).2;have e0:UU=lB [32]:=rfl;have d0:qY (f 0)=lB (ala (f 0)):=rfl;have d1:qY (f 1)=lB (ala (f 1)):=rfl;have d2:qY (f 2)=lB (ala (f 2)):=rfl;have t1:tw1 qY (f 0)=lB ([32]++ala (f 0)):=by unfold tw1;rw[e0,d0,gZ]
 have t2:tw2 qY (f 0)=lB (([32]++ala (f 0))++[32]):=by unfold tw2;rw[t1,e0,gZ]
 have t3:tw3 qY (f 0) (f 1)=lB ((([32]++ala (f 0))++[32])++ala (f 1)):=by unfold tw3;rw[t2,d1,gZ]
 have t4:tw4 qY (f 0) (f 1)=lB (((([32]++ala (f 0))++[32])++ala (f 1))++[32]):=by unfold tw4;rw[t3,e0,gZ]
 have t5:tw5 qY (f 0) (f 1) (f 2)=lB (tks true (Bl f)):=by unfold tw5;rw[t4,d2,gZ];congr 1;simp[tks,Bl]
 have hB:twB qY (f 0) (f 1) (f 2)=true:=by
  unfold twB;rw[t1,t2,t3,t4,e0,d0,d1,d2,kW (by rw[aY,aY];simp;omega),kW (by rw[aY,aY];simp;omega),kW (by rw[aY,aY];simp;omega),kW (by rw[aY,aY];simp;omega),kW (by rw[aY,aY];simp;omega)];rfl
 rw[ah h0,ah h1,ah h2,hB,t5];rfl
end Go.Proofs.YtefphimaggjihaaGreatDoor.Pi
namespace Go.Proofs.YtefphimaggjihaaGreatDoor.Pi
open Go.Shelf Go.RowKit Go.Gv Hs
open Go.Ev (dK)
def gTv(vs:Nat->Nat->Nat->ByteArray)(vb:Nat->Nat->Nat->Bool):List AV->AV
 | [.agg [.f x,.f y,.f z]]=>.aN [zA (vs x y z),bA (vb x y z)]
 |_=>.any
def gT1(ws:Nat->ByteArray)(wb:Nat->Bool):List AV->AV
 | [.sl _ _ el]=>match el 0 with
  | [.f x]=>.aN [zA (ws x),bA (wb x)]
  |_=>.any
 |_=>.any
def XQ:ByteArray->List ByteArray->Bool
 |_,[]=>true
 |s,t::r=>(mq s t||false)&&XQ (s++t) r
def Z7:ByteArray->List ByteArray->ByteArray
 |s,[]=>s
 |s,t::r=>Z7 (s++t) r
section
variable(vs:Nat->Nat->Nat->ByteArray)(vb:Nat->Nat->Nat->Bool)(ws:Nat->ByteArray)(wb:Nat->Bool)(a:Nat->Nat)(sk:Int)
def Pw(i:Nat):Prop:=aj bW 33 [.agg [.f (a i),.f (a (i+1)),.f (a (i+2))]] (.aN [zA (vs (a i) (a (i+1)) (a (i+2))),bA (vb (a i) (a (i+1)) (a (i+2)))])
def FT1(i:Nat):Prop:=aj bW 34 [YD [a i]] (.aN [zA (ws (a i)),bA (wb (a i))])
def NQ(i:Nat):Bool:=jv (a i) (a (i+1)) (a (i+2))
def vS(i:Nat):ByteArray:=vs (a i) (a (i+1)) (a (i+2))
def vK(i:Nat):Bool:=vb (a i) (a (i+1)) (a (i+2))
def tfX(o:Option Out):Option Out:=gate (Pw vs vb a 0) (gate (Pw vs vb a 3) (gate (Pw vs vb a 6) (gate (FT1 ws wb a 9) (gate (FT1 ws wb a 10)
 (cond (cond (cond (cond (cond (!(vK vb a 0)) true (!(vK vb a 3))) true (!(vK vb a 6))) true (!(wb (a 9)))) true (!(wb (a 10)))) I4 o)))))
def tfK:List aV:=[kS bW 33 (gTv vs vb),kS bW 34 (gT1 ws wb)]
def tfP(b:Bool):ByteArray->List ByteArray->Option Out
 |s,[]=>some (Out.of (.aN [zA s,bA b]))
 |s,t::r=>cond (mq s t||false) (tfP b (s++t) r) none
def tfO(s:ByteArray)(l:List ByteArray)(b:Bool):Option Out:=cond (XQ s l) (some (Out.of (.aN [zA (Z7 s l),bA b]))) none
theorem ap0:evM bW [⟨96,eV λ a b c=>bA (jv a b c)⟩] (tfK vs vb ws wb) [born 88] aM aCc [.agg (fC 1 a sk)] ret =
 tfX vs vb ws wb a (tfO ⟨#[98,97,108,108]⟩ [vS vs a 0,⟨#[32,114,97,100,105,117,115]⟩,ws (a 9)] (cond (cond (NQ a 3) (NQ a 6) false) (dK (a 10) 0) false)):=by kernel_rfl
theorem ap1:evM bW [⟨96,eV λ a b c=>bA (jv a b c)⟩] (tfK vs vb ws wb) [born 88] aM aCc [.agg (fC 2 a sk)] ret =
 tfX vs vb ws wb a (tfO ⟨#[98,108,111,99,107]⟩ [vS vs a 0,⟨#[32,116,111]⟩,vS vs a 3] (cond (cond (NQ a 6) (dK (a 9) 0) false) (dK (a 10) 0) false)):=by kernel_rfl
theorem ap2:evM bW [⟨96,eV λ a b c=>bA (jv a b c)⟩] (tfK vs vb ws wb) [born 88] aM aCc [.agg (fC 3 a sk)] ret =
 tfX vs vb ws wb a (tfO ⟨#[116,114,105]⟩ [vS vs a 0,⟨#[32,44]⟩,vS vs a 3,⟨#[32,44]⟩,vS vs a 6] (cond (dK (a 9) 0) (dK (a 10) 0) false)):=by kernel_rfl
theorem ap3:evM bW [⟨96,eV λ a b c=>bA (jv a b c)⟩] (tfK vs vb ws wb) [born 88] aM aCc [.agg (fC 4 a sk)] ret =
 tfX vs vb ws wb a (tfO ⟨#[112,108,97,116,101]⟩ [vS vs a 0,⟨#[32,117,112]⟩,vS vs a 3,⟨#[32,114,97,100,105,117,115]⟩,ws (a 9)] (cond (NQ a 6) (dK (a 10) 0) false)):=by kernel_rfl
theorem ap4:evM bW [⟨96,eV λ a b c=>bA (jv a b c)⟩] (tfK vs vb ws wb) [born 88] aM aCc [.agg (fC 5 a sk)] ret =
 tfX vs vb ws wb a (tfO ⟨#[116,117,98,101]⟩ [vS vs a 0,⟨#[32,97,108,111,110,103]⟩,vS vs a 3,⟨#[32,114,97,100,105,117,115]⟩,ws (a 9)] (cond (NQ a 6) (dK (a 10) 0) false)):=by kernel_rfl
theorem ap5:evM bW [⟨96,eV λ a b c=>bA (jv a b c)⟩] (tfK vs vb ws wb) [born 88] aM aCc [.agg (fC 6 a sk)] ret =
 tfX vs vb ws wb a (tfP (NQ a 6) ⟨#[114,105,110,103]⟩ [vS vs a 0,⟨#[32,117,112]⟩,vS vs a 3,⟨#[32,114,97,100,105,117,115]⟩,ws (a 9),ws (a 10)]):=by kernel_rfl
end
end Go.Proofs.YtefphimaggjihaaGreatDoor.Pi
end
