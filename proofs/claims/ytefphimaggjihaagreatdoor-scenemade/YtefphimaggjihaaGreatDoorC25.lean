/- Texts, one behind the other. -/
import Derived.Test.YtefphimaggjihaaGreatDoorC24
import Derived.Defers
import Derived.Recover
import Derived.Tactics
import Derived.Test.YtefphimaggjihaaGreatDoorC23
import Derived.Test.YtefphimaggjihaaGreatDoorC21
open And renaming intro->aBg
open BitVec renaming ofInt->aAc,testBit_toNat->aCz,toNat_and->aBU
open Bool renaming and_eq_true->J8,eq_iff_iff->aBi,false_eq_true->ayX,not_eq_true'->az0,or_assoc->aAC,or_eq_true->aAN,xor_comm->aEu
open Go.FloatKind renaming f64->ayP
open Go.IntKind renaming i64->ayN,u64->aAR
open Go.Lib renaming cell_of_heap->aDT,decDigits->ayh,decDigits_one->azY,itoa->ala,trimRightB->ayI
open Go.Proofs.Tryz renaming f113->aBI,f171->ayy,f24->aEs,f31->azz,f63->aCt,func12->aEK,func32->aC4,prog->bW,underlying9->aAw
open Int renaming add_comm->aEL,emod_lt_of_pos->aBN,emod_nonneg->aCi,eq_ofNat_of_zero_le->ay2,lt_or_gt_of_ne->aBQ,lt_trichotomy->aDD,mul_assoc->aCg,mul_le_mul_of_nonneg_right->aB5,mul_neg_of_neg_of_pos->azr,mul_nonneg->aC7,mul_one->aDj,mul_pos->aDi,mul_zero->aEP,natAbs_mul->ayJ,natAbs_natCast->av1,natAbs_neg->azU,natAbs_zero->aAA,natCast_mul->azn,natCast_nonneg->azv,neg_mul->aBB,not_lt->aFh,pow_pos->aEX,tmod_eq_emod_of_nonneg->azt,toNat_natCast->Zk,zero_mul->aAi
open List renaming all_eq_true->apB,append_assoc->aiR,append_eq_nil_iff->aBa,append_nil->awr,flatMap_append->ayz,flatMap_cons->ay7,flatMap_map->aDE,getD_eq_getElem?_getD->amh,getElem?_append_right->axY,getElem?_cons_succ->azD,getElem?_eq_some_iff->aj8,getElem?_set_ne->ay9,length_append->uI,length_cons->anE,length_drop->aze,length_map->aAL,length_nil->arB,length_pos_iff->aAa,length_reverse->aC9,length_singleton->azM,map_append->ayL,map_cons->aB2,map_map->aEE,mem_append->ayQ,mem_cons->azV,mem_map->azp,mem_range->ayA,mem_singleton->aDm,range->av2,reverse_append->aDa
open Nat renaming add_assoc->aAq,add_comm->aEQ,add_le_add->aEv,add_le_add_left->aBz,add_le_add_right->aBo,add_mul->asM,add_sub_cancel->azB,add_zero->ayO,beq->ax0,ble->aqE,ble_eq_true_of_le->ah4,blt->afC,div_add_mod->ay1,div_div_eq_div_mul->ay3,div_eq_of_lt->azX,div_eq_of_lt_le->aDl,div_le_div_right->az1,div_le_of_le_mul->aC8,div_lt_iff_lt_mul->aAu,div_one->aBA,dvd_trans->aED,eq_of_testBit_eq->aAp,eq_or_lt_of_le->az7,le_add_right->aDV,le_antisymm->aBk,le_div_iff_mul_le->ayv,le_log2->aA6,le_mul_of_pos_left->aAe,le_of_ble_eq_true->Sr,le_of_eq->aER,le_of_lt->azO,le_of_mul_le_mul_right->aAH,le_of_not_lt->ayU,le_refl->ao5,le_trans->apL,log2_eq_iff->aEg,log2_lt->aBy,log2_self_le->azA,lt_log2_self->azW,lt_of_le_of_lt->aDw,lt_of_lt_of_le->ayB,lt_or_ge->aA4,lt_trichotomy->aDB,min_eq_left->aCk,min_eq_right->aCb,min_le_left->aEi,min_le_right->aDZ,mod_eq_of_lt->aDU,mod_lt->aA8,mod_self->aEO,mul_add->aAz,mul_assoc->avH,mul_comm->aye,mul_div_cancel->aAO,mul_div_mul_right->aBj,mul_le_mul->azQ,mul_le_mul_left->ax9,mul_le_mul_right->agT,mul_le_mul_right_iff->aCu,mul_left_comm->azK,mul_lt_mul_of_pos_right->aAy,mul_mod_left->aD0,mul_mod_right->aDC,mul_one->ayY,mul_pos->aA7,mul_right_comm->aBO,mul_zero->aEM,not_le->aFg,not_lt_zero->azu,one_mul->azc,one_shiftLeft->aBY,pow_add->ari,pow_dvd_pow->aEj,pow_le_pow_right->as5,pow_succ->ayD,pow_zero->ayW,shiftLeft_eq->ayC,shiftRight_eq_div_pow->azT,sub_add_cancel->aBP,sub_self->aDP,succ_mul->aBG,testBit_and->aEf,testBit_lt_two_pow->aAd,testBit_or->aCY,testBit_shiftLeft->aCT,testBit_shiftRight->aCK,testBit_two_pow->aBx,testBit_xor->aEh,two_pow_add_eq_or_of_lt->aCj,two_pow_pos->acy,xor_mod_two_pow->aDk,zero_add->avB,zero_div->aCU,zero_le->aAv,zero_min->aEN,zero_mul->aza
open Option renaming getD_some->ayV,map_some->amS
open Option.some renaming injEq->jN
open Or renaming inl->ER,inr->aaH
open Prod renaming fst->azy,snd->aFm
open UInt8 renaming ofNat->azk
namespace Go.Proofs.YtefphimaggjihaaGreatDoor.Pi.Rd
open Go.Shelf Go.RowKit Go.Gv
open Hs.So (dM pJ)
open Hs (fC)
section
variable(t:Tk)(a:Nat)(z:Nat->Int)(c:Ct)(b:Nat)(z':Nat->Int)(c':Ct)(x:List AV)(nm:ByteArray)(n:Nat)(P:Nat->dM)(w:Int)
def Lj(mem:List Row):St:=mkS 27 [(0,.own 0 0)] mem
noncomputable def wTg(m:List Row):List bH:=[wQ bW 148 (λ _ _=>.aN []) (λ _ _=>m)]
def tlI:Bool:=(mI (a:Nat) t.n||!(decide (decide ((a:Int)<(t.n:Nat))=true)&&true))&&true
def tlT:Bool:=cond (decide ((a:Int)<(t.n:Nat))) (!((t.T a).toList==(lB [125]).toList)) false
noncomputable def tlX(m:List Row)(x:Option Out):Option Out:=cond (tlI t a) (cond (tlT t a) (qC 148 [] (.aN []) (M7 t a z c) m x) none) none
noncomputable def tlE(m:List Row)(τ:List (Option Nat)):Option Out:=tC bW [] [] [] (wTg m) [] aM (au aBI 0) (Lj (M7 t a z c)) (fu [0] τ)
theorem avK:tlE t a z c (M7 t b z' c') τ6=tlX t a z c (M7 t b z' c') (some ⟨.normal,Lj (M7 t b z' c'),.any⟩):=by kernel_rfl
def sS'(x:List AV):List Row:=[UO t b z' HZ { c with nS:=c.nS+1 },Ll 67 13 c.nS c.S x,rO c,rF c,rK c,rL c,rN c]
theorem avL:tlE t a z c (MS t z' c b x) [some 0,some 7,some 2,some 3,some 4,some 5,some 6]=tlX t a z c (MS t z' c b x) (some ⟨.normal,Lj (sS' t c b z' x),.any⟩):=by kernel_rfl
def sL'(x:List AV):List Row:=[UO t b z' HZ { c with nL:=c.nL+1 },rS c,rO c,rF c,rK c,Ll 76 6 c.nL c.L x,rN c]
theorem avM:tlE t a z c (ML t z' c b x) [some 0,some 1,some 2,some 3,some 4,some 7,some 6]=tlX t a z c (ML t z' c b x) (some ⟨.normal,Lj (sL' t c b z' x),.any⟩):=by kernel_rfl
def sF'(x:List AV):List Row:=[UO t b z' HZ { c with nF:=c.nF+1 },rS c,rO c,Ll 74 8 c.nF c.F x,rK c,rL c,rN c]
theorem avN:tlE t a z c (MF t z' c b x) [some 0,some 1,some 2,some 7,some 4,some 5,some 6]=tlX t a z c (MF t z' c b x) (some ⟨.normal,Lj (sF' t c b z' x),.any⟩):=by kernel_rfl
def sO':List Row:=[lM t b z' (oP (pJ n P) (oX HZ { c with nO:=c.nO+1 })),rS c,Ll 69 2 c.nO c.O (Vs n P w),rF c,rK c,rL c,rN c]
theorem avO:tlE t a z c (MO t z' c n P w b) [some 0,some 1,some 7,some 3,some 4,some 5,some 6]=tlX t a z c (MO t z' c n P w b) (some ⟨.normal,Lj (sO' t c b z' n P w),.any⟩):=by kernel_rfl
def sK'(x:List AV):List Row:=[UO t b z' HZ { c with nN:=c.nN+1,nK:=c.nK+1 },rS c,rO c,rF c,Ll 47 10 c.nK c.K x,rL c,Ll 9 1 c.nN (λ q=>[zA (c.N q)]) [zA nm]]
theorem avP:tlE t a z c (MK t z' c nm b x) [some 0,some 1,some 2,some 3,some 8,some 5,some 7]=tlX t a z c (MK t z' c nm b x) (some ⟨.normal,Lj (sK' t c b z' nm x),.any⟩):=by kernel_rfl
theorem amz:tC bW [] [] [] [] [] aM (au aBI 0) (Lj (M7 t a z c)) (gM [0] τ6)=cond (tlI t a) (cond (tlT t a) none (some ⟨.exit 0,Lj (M7 t a z c),.any⟩)) none:=by kernel_rfl
end
def zl(np:Nat)(c:Code)(s:St)(e:Exit)(sf:St):Prop:=∃(S:Nat->St) (n:Nat),S 0=s/\(∀j,j<n->fG np bW c (S j) .normal (S (j+1)))/\fG np bW c (S n) e sf
theorem zl.last{np:Nat}{c:Code}{s sf:St}{e:Exit}(h:fG np bW c s e sf):zl np c s e sf:=⟨λ _=>s,0,rfl,λ j hj=>absurd hj (azu j),h⟩
theorem zl.cons{np:Nat}{c:Code}{s s1 sf:St}{e:Exit}(h:fG np bW c s .normal s1)(g:zl np c s1 e sf):zl np c s e sf:=by
 obtain⟨S,n,h0,h1,h2⟩:=g;refine⟨λ j=>match j with | 0=>s |j+1=>S j,n+1,rfl,λ j hj=>?_,h2⟩
 cases j with
 |zero=>show fG np bW c s .normal (S 0);rw[h0];exact h
 |succ j=>exact h1 j (by omega)
theorem zl.loop{np:Nat}{c:Code}{s sf:St}{e:Exit}(he:e≠.normal)(h:zl np c s e sf):fG np bW (.loop c) s e sf:=by
 obtain⟨S,n,rfl,h1,h2⟩:=h;exact aU S n e sf he h1 h2
def Stp(t:Tk)(a:Nat)(z:Nat->Int)(c:Ct)(b:Nat)(z':Nat->Int)(c':Ct):Prop:=fG 1 bW (au aBI 0) (Lj (M7 t a z c)) .normal (Lj (M7 t b z' c'))
def Rest(t:Tk)(zf:Nat->Int)(cf:Ct)(a:Nat)(z:Nat->Int)(c:Ct):Prop:=zl 1 (au aBI 0) (Lj (M7 t a z c)) (.exit 0) (Lj (M7 t t.n zf cf))
section
variable{t:Tk}{a:Nat}{z:Nat->Int}{c:Ct}{b:Nat}{z':Nat->Int}
theorem Stp.go{zf:Nat->Int}{cf c':Ct}(h:Stp t a z c b z' c')(g:Rest t zf cf b z' c'):Rest t zf cf a z c:=zl.cons h g
theorem auv:Has t a 1->tlI t a=true:=λ h=>by
 unfold tlI;rw[gy (by have:=h.1;omega)];rfl
def Not(w:List UInt8):Prop:=decide (w=[125])=false
theorem auw{w:List UInt8}(h:Has t a 1)(hw:Is t a w)(hn:Not w):tlT t a=true:=by
 unfold tlT;have hT:t.T a=lB w:=hw;rw[dec_lt (by have:=h.1;omega),hT,sEq,jr,jr,hn];rfl
theorem aoI(z:Nat->Int)(c:Ct):Rest t z c t.n z c:=by
 refine zl.last (jf (lT _ (by rfl)) aB av bO bJ bS aS ((amz t t.n z c).trans ?_));unfold tlI tlT;rw[bQ];have:mI ((t.n:Nat):Int) t.n=false:=by unfold mI;rw[bQ,Bool.and_false]
 rw[this];rfl
theorem NG{m m':List Row}{τ:List (Option Nat)}{w:List UInt8}(h:Has t a 1)(hw:Is t a w)(hn:Not w)(hth:cu bW 148 [.own 0 0] (M7 t a z c) (.aN []) m)(hτ:Co 1 τ=true)(he:tlE t a z c m τ=tlX t a z c m (some ⟨.normal,Lj m',.any⟩)):fG 1 bW (au aBI 0) (Lj (M7 t a z c)) .normal (Lj m'):=by
 refine jf (jI _ hτ) aB av bO (aC aX bJ) bS aS (he.trans ?_);unfold tlX;rw[auv h,auw h hw hn];exact yS (yT hth) _
def Mx(x y:List AV):Prop:=dn true x y=x/\dn false x y=y
theorem NH{T:Nat->List AV}{n:Nat}{x:List AV}(hx:T n=x)(hm:∀q,q<=n->Mx (T q) x){q:Nat}(hq:q<n+1):T q=dn (afC q n) (T q) (spread n [x] q):=by
 by_cases h:q<n
 .rw[show afC q n=true from ah4 h]
  exact(hm q (by omega)).1.symm
 .have h2:q=n:=by omega
  have:afC q n=false:=by
   cases hb:afC q n
   .rfl
   .exact absurd (Sr hb) (by omega)
  rw[this,h2];show T n=dn false (T n) x;rw[(hm n (ao5 _)).2,hx]
section
variable{w:List UInt8}(h:Has t a 1)(hw:Is t a w)(hn:Not w)
include h hw hn
theorem alB{c':Ct}(hth:cu bW 148 [.own 0 0] (M7 t a z c) (.aN []) (M7 t b z' c')):Stp t a z c b z' c':=NG h hw hn hth (by rfl) (avK t a z c b z' c')
theorem auy{x:List AV}(hth:cu bW 148 [.own 0 0] (M7 t a z c) (.aN []) (MS t z' c b x))(hx:c.S c.nS=x)(hm:∀q,q<=c.nS->Mx (c.S q) x):Stp t a z c b z' { c with nS:=c.nS+1 } :=
 fG.sub (NG h hw hn hth (by rfl) (avL t a z c b z' x)) (iV.refl _) (fP ⟨ER rfl,J7 λ _ hq=>NH hx hm hq,ER rfl,ER rfl,ER rfl,ER rfl,ER rfl,trivial⟩)
theorem auz{x:List AV}(hth:cu bW 148 [.own 0 0] (M7 t a z c) (.aN []) (ML t z' c b x))(hx:c.L c.nL=x)(hm:∀q,q<=c.nL->Mx (c.L q) x):Stp t a z c b z' { c with nL:=c.nL+1 } :=
 fG.sub (NG h hw hn hth (by rfl) (avM t a z c b z' x)) (iV.refl _) (fP ⟨ER rfl,ER rfl,ER rfl,ER rfl,ER rfl,J7 λ _ hq=>NH hx hm hq,ER rfl,trivial⟩)
theorem auA{x:List AV}(hth:cu bW 148 [.own 0 0] (M7 t a z c) (.aN []) (MF t z' c b x))(hx:c.F c.nF=x)(hm:∀q,q<=c.nF->Mx (c.F q) x):Stp t a z c b z' { c with nF:=c.nF+1 } :=
 fG.sub (NG h hw hn hth (by rfl) (avN t a z c b z' x)) (iV.refl _) (fP ⟨ER rfl,ER rfl,ER rfl,J7 λ _ hq=>NH hx hm hq,ER rfl,ER rfl,ER rfl,trivial⟩)
theorem auB{n:Nat}{P:Nat->dM}{k:Int}(hth:cu bW 148 [.own 0 0] (M7 t a z c) (.aN []) (MO t z' c n P k b))(hx:c.O c.nO=Vs n P k)(hm:∀q,q<=c.nO->Mx (c.O q) (Vs n P k)):Stp t a z c b z' { c with nO:=c.nO+1 }:=by
 refine fG.sub (NG h hw hn hth (by rfl) (avO t a z c b z' n P k)) (iV.refl _) (fP ⟨Zf ?_,ER rfl,J7 λ _ hq=>NH hx hm hq,ER rfl,ER rfl,ER rfl,ER rfl,trivial⟩)
 iterate 27 refine aBg (ER rfl) ?_
 exact⟨aaH λ _ _ _=>lQ,ER rfl,trivial⟩
theorem auC{nm:ByteArray}{x:List AV}(hth:cu bW 148 [.own 0 0] (M7 t a z c) (.aN []) (MK t z' c nm b x))(hx:c.K c.nK=x)(hm:∀q,q<=c.nK->Mx (c.K q) x)(hN:c.N c.nN=nm):Stp t a z c b z' { c with nN:=c.nN+1,nK:=c.nK+1 } :=
 fG.sub (NG h hw hn hth (by rfl) (avP t a z c b z' x nm)) (iV.refl _) (fP ⟨ER rfl,ER rfl,ER rfl,ER rfl,J7 λ _ hq=>NH hx hm hq,ER rfl,J7 λ q hq=>NH (T:=λ q=>[zA (c.N q)]) (by rw[hN]) (λ _ _=>⟨rfl,rfl⟩) hq,trivial⟩)
end
end
def oN(q:Nat):AV:=match q with
 | 2=>pQ
 | 3=>pQ
 | 4=>pQ
 | 5=>pQ
 | 6=>pQ
 | 7=>iA 0
 | 8=>iA 0
 | 9=>iA 0
 | 20=>pQ
 | 27=>pQ
 |_=>.f 0
def z0(_:Nat):Int:=0
def Rv(t:Tk):Row:=lM t 0 z0 oN
def VF(c:Ct):Ct:={ c with nS:=0,nO:=0,nF:=0,nK:=0,nL:=0,nN:=0,jE:=λ _=>0,eye:=λ _=>0 }
section
variable(t:Tk)(zf:Nat->Int)(c cf:Ct)
theorem ady:eu bW [] [] [] [] [] (gu 0 (rC 1 [0] [some 0] (Lj (M7 t 0 z0 (VF c))) (.exit 0) (Lj (M7 t t.n zf cf)))) aBI [.own 0 0] [Rv t] τ6=gate (iV 1 (Lj [Rv t]) (Lj (M7 t 0 z0 (VF c)))) (fD (.aN []) (M7 t t.n zf cf)):=by kernel_rfl
noncomputable def wTs:bH:=wQ bW 113 (λ _ _=>.aN []) (λ _ _=>M7 t t.n zf cf)
theorem asO:eu bW [] [] [] [wTs t zf cf] [] aM Tryz.f69 [.own 0 0] [Rv t] τ6=qC 113 [] (.aN []) [Rv t] (M7 t t.n zf cf) (cond (decide (((t.n:Nat):Int)<((t.n:Nat):Int))) none (cond (zf 21==0) none (fD (.aN []) (M7 t t.n zf cf)))):=by kernel_rfl
end
section
variable{t:Tk}{zf:Nat->Int}{c cf:Ct}
theorem asP:iV 1 (Lj [Rv t]) (Lj (M7 t 0 z0 (VF c))):=by
 refine iV.trans (Ze (rows (VF c))) (fP ⟨Zf ?_,ER rfl,ER rfl,ER rfl,ER rfl,ER rfl,ER rfl,trivial⟩);have ho:∀k sz,∀(E:Env) (u:Value),rel E pQ u->rel E (.fJ k sz 0 0) u:=λ k sz E u hu=>fM.2 (ER ⟨rfl,rfl,bI.1 hu⟩)
 iterate 2 refine aBg (ER rfl) ?_
 iterate 5 refine aBg (aaH (ho _ _)) ?_
 iterate 13 refine aBg (ER rfl) ?_
 refine aBg (aaH (ho _ _)) ?_
 iterate 6 refine aBg (ER rfl) ?_
 exact⟨aaH λ _ _ _=>lQ,ER rfl,trivial⟩
theorem Rw(h:Rest t zf cf 0 z0 (VF c)):cu bW 113 [.own 0 0] [Rv t] (.aN []) (M7 t t.n zf cf):=by
 refine bM aB av bO bJ bS Tryz.func113 (by kernel_rfl) (by kernel_rfl) (mem:=[Rv t]) (zk (i:=0) 1 (by kernel_rfl) λ j hj _=>?_) rfl (τ:=τ6) (by rfl) ((ady t zf c cf).trans (ah asP));have:j=0:=by omega
 subst this;exact jy (by rfl) (zl.loop (by simp) h)
theorem adz(h:Rest t zf cf 0 z0 (VF c))(hz:zf 21=1):cu bW 69 [.own 0 0] [Rv t] (.aN []) (M7 t t.n zf cf):=by
 refine bM aB av bO (aC aX bJ) bS Tryz.func69 (by kernel_rfl) (by kernel_rfl) (mem:=[Rv t]) aS rfl (τ:=τ6) (by rfl) ((asO t zf cf).trans ?_);refine(yS (yT (Rw h)) _).trans ?_;rw[bQ,hz];rfl
end
end Go.Proofs.YtefphimaggjihaaGreatDoor.Pi.Rd
namespace Go.Gv
open Go.RowKit Go.Ev
noncomputable section
def _root_.Go.Act.app(D:List Deferred)(a:Act):Act:=⟨a.tmps,a.defers++D⟩
theorem Az(D:List Deferred)(a:Act)(d:Option Nat)(v:Value):(a.app D).put d v=(a.put d v).app D:=by cases d<;>rfl
theorem aeF{P:Program}{o:Oper}{a:Act}{next alb:Act->World->Prop}{Q Q2:Exit->Act->World->Prop}(D:List Deferred){r:Result Next}(hn:∀a w,next a w->alb (a.app D) w)(hq:∀e a w,Q e a w->Q2 e (a.app D) w)
  (h:o.upon P a next Q r):o.upon P (a.app D) alb Q2 r:=by
 unfold Oper.upon at h ⊢;split<;>simp only[]at h
 .rw[Az];exact hn _ _ h
 .rw[Az];exact hn _ _ h
 .rename_i d w'
  have:=hn ({ a with defers:=d::a.defers }.put o.dst undef) w' h
  rw[<-Az]at this;exact this
 .refine h.mono λ e w' he=>?_
  cases e with
  |returned v=>simp only at he ⊢;rw[Az];exact hn _ _ he
  |panicked chain=>exact hq _ _ _ he
  |outgrown =>
   obtain⟨a',w'',h'⟩:=he;exact⟨_,_,hq _ _ _ h'⟩
 .exact h.mono λ v w' h'=>by rw[Az];exact hn _ _ h'
 .exact hq _ _ _ h
theorem Cv{P:Program}{ops:Array Oper}{Q Q2:Exit->Act->World->Prop}(D:List Deferred)(hq:∀e a w,Q e a w->Q2 e (a.app D) w):∀(l:List Oper) (a:Act) (w:World),wpList P ops Q l a w->wpList P ops Q2 l (a.app D) w
 | [],a,w,h=>hq _ _ _ h
 |o::rest,a,w,h=>by
  unfold wpList at h ⊢;have e:yielded ops (a.app D).tmps=yielded ops a.tmps:=rfl;rw[e];split at h
  .rename_i hw
   rw[if_pos hw];rcases h with h | ⟨h,a',w',h'⟩
   .exact .inl (aeF D (Cv D hq rest) hq h)
   .exact .inr ⟨h,_,_,hq _ _ _ h'⟩
  .rename_i hw
   rw[if_neg hw,Az];exact Cv D hq rest _ _ h
def kR:SK:=λ s'=>some ⟨.normal,G6 s',.any⟩
def rR(s:St):Option Out:=some ⟨.normal,s,.any⟩
theorem Cw{P:Program}{T:Tab}{A0 R:Nat->Prop}{w0 E:Env}{s s2:St}{a:Act}{ops:Array Oper}(hT:Ao P T)(hI:Inv A0 R w0 E s a)(h:oC P T ops.toList ops.toList s kR=rR s2)(D:List Deferred)(id:Nat) :
  (Code.region id ops false).wp P (λ e a' w'=>∃E' a0,e=.normal/\E'.w=w'/\Inv A0 R w0 E' s2 a0/\a'=a0.app D) (a.app D) E.w:=by
 obtain⟨s',h1,h2,_⟩:=rD hT.par h
 have e:s2=G6 s':=by
  have:=h2;simp only[kR]at this;simp only[jN,Out.mk.injEq,true_and,and_true]at this;exact this.symm
 subst e;refine wp_region_list (Cv (Q:=λ e a' w'=>∃E',e=.normal/\E'.w=w'/\Inv A0 R w0 E' (G6 s') a') D (λ e a w=>?_) _ _ _ (oQ hT ops.toList hI h1 λ E' a' hI'=>⟨E',rfl,rfl,hI'.clear⟩));rintro⟨E',h1,h2,h3⟩;exact⟨E',a,h1,h2,h3,rfl⟩
theorem Zt(a:Act)(h:a.defers=[]):a.app []=a:=by
 cases a;simp only at h;subst h;rfl
theorem SG {P : Program} {T : Tab} (hT : Ao P T) {f g : Nat} {fn : Func} (hf : P.funcs[f]? = some fn) (hnm : (fn.name == "runtime.NumGoroutine") = false) (hent : qG P g) {i0 i1 i2 i3 : Nat} {o0 o2 o3 : Array Oper} {mk df : Oper}
  (hb:fn.body=some (.seq (.region i0 o0 false) (.seq (.region i1 #[mk,df] false) (.seq (.region i2 o2 false) (.seq (.region i3 o3 false) .ret)))))
  {k x y:Nat} (hm1:mk.op=.makeFunc (.func g) #[] #[.tmp x,.tmp y]) (hm2:mk.dst=some k) (hm3:mk.guard=none) (hd1:df.op=.defer { callee:=.value (.tmp k),args:=#[],argTypes:=#[] }) (hd2:df.dst=none) (hd3:df.guard=none)
  (idle:∀p q w,CallsD P g #[p,q] .returning w λ e u' w'=>e=.returned (.tuple #[])/\u'=.returning/\w'=w)
  {args:List AV} {mem mem1:List Row} {v:AV} {τ:List (Option Nat)} (hlen:aqE args.length fn.ntmps=true) (zn:Co mem.length τ=true) {s1 s2 s3:St}
  (h0:oC P T o0.toList o0.toList (start fn mem args) kR=rR s1) (hk:jQ s1.slots [] (some k)=true) (hk2:afC k s1.slots.length=true)
  (h2:oC P T o2.toList o2.toList ⟨ow s1.slots (some k) (.any,[]),s1.mem⟩ kR=rR s2)
  (h3:oC P T o3.toList o3.toList s2 kR=rR s3) (ho:abf P fn τ s3=some ⟨.normal,⟨[],mem1⟩,v⟩):cu P f args mem v mem1:=by
 refine⟨⟨fn,hf,hnm,by rw[hb];rfl⟩,λ R E aZ hp hW hg hv=>?_⟩;have hlen':args.length<=fn.ntmps:=Sr hlen;refine calls_of_wp_defers hf hb ?_;have hI:Inv E.A R E E (start fn mem args) { tmps:=aZ++Array.replicate (fn.ntmps - aZ.size) undef,defers:=[] }:=⟨rfl,rJ hg hv hlen',hW⟩;have r0:=Cw hT hI h0 [] i0;rw[Zt _ rfl]at r0;refine wp_seq (Go.Code.wp_mono ?_ r0);rintro e a1 w1 ⟨E1,a1,rfl,rfl,hI1,rfl⟩;rw[Zt _ hI1.defers];simp only[Exit.then];refine wp_seq (wp_region_list ?_)
 have hsz:k<a1.tmps.size:=by
  have:=hI1.frame.1.1;have h':=Sr hk2;omega
 have hw:∀(o:Oper) (a:Act),o.guard=none->Region.wanted o (yielded #[mk,df] a.tmps)=true:=λ o a h=>uf (by rw[h];rfl)
 have rm:∀w,(execOp a1.eval mk).run P w=.ok (.value (.func (.func g) #[] #[a1.eval (.tmp x),a1.eval (.tmp y)])) w:=by
  intro w;unfold execOp;rw[hm1];simp[go_sem]
 have rd:∀(a2:Act) (p q:Value) (w:World),(a2.tmps[k]?).getD undef=.func (.func g) #[] #[p,q]->(execOp a2.eval df).run P w=.ok (.defer ⟨.fn (.func g) #[p,q],#[]⟩) w:=by
  intro a2 p q w h;unfold execOp;rw[hd1];simp[go_sem,h]
 generalize a1.eval (.tmp x)=p at rm;generalize a1.eval (.tmp y)=q at rm;show wpList P #[mk,df] _ [mk,df] a1 E1.w;unfold wpList;rw[if_pos (hw mk a1 hm3)];refine .inl ?_;unfold Oper.wp;rw[rm,Oper.upon_value,hm2];unfold wpList;rw[if_pos (hw df _ hd3)];refine .inl ?_;unfold Oper.wp;rw[rd _ p q _ (by show((a1.tmps.set! k _)[k]?).getD undef=_;simp[hsz]),Oper.upon_defer,hd2];have hI2:Inv E.A R E E1 ⟨ow s1.slots (some k) (.any,[]),s1.mem⟩ (a1.put (some k) (.func (.func g) #[] #[p,q])):=⟨by rw[put_defers];exact hI1.defers,kD hI1.frame hk (λ _=>lQ) (λ h=>by cases h),hI1.wd⟩;generalize hD:(⟨.fn (.func g) #[p,q],#[]⟩:Deferred)=d;generalize a1.put (some k) (.func (.func g) #[] #[p,q])=a2 at hI2
 have ea:({ a2 with defers:=d::a2.defers }:Act).put none undef=a2.app [d]:=by
  show(⟨a2.tmps,d::a2.defers⟩:Act)=⟨a2.tmps,a2.defers++[d]⟩;rw[hI2.defers];rfl
 rw[ea];unfold wpList;show(Code.seq _ _).wp P _ _ _;refine wp_seq (Go.Code.wp_mono ?_ (Cw hT hI2 h2 [d] i2));rintro e a' w' ⟨E2,a3,rfl,rfl,hI3,rfl⟩;simp only[Exit.then];refine wp_seq (Go.Code.wp_mono ?_ (Cw hT hI3 h3 [d] i3));rintro e a' w' ⟨E3,a4,rfl,rfl,hI4,rfl⟩;simp only[Exit.then];refine wp_ret ?_;obtain⟨u,E5,g1,g2,g3,g4⟩:=JY zn hp hI4 ho;show Leaves P fn a4.tmps _ (a4.defers++[d]) .returning E3.w;rw[hI4.defers,<-hD]
 refine leaves_cons (f:=g) (args:=#[p,q]) (by simp) (by
  obtain⟨gn,e1,e2,e3⟩:=hent;simp only[invoke,callFunc,Sem.run_bind,run_program,Result.andThen_ok,e1,e2,e3,ayX,if_false];rfl) ((idle p q _).mono ?_)
 rintro e u' w'' ⟨rfl,rfl,rfl⟩;exact⟨u,g1,u,E5,rfl,g2,g3,g4⟩
end
end Go.Gv
namespace Go.Proofs.YtefphimaggjihaaGreatDoor.Pi.Rd
open Go.Shelf Go.RowKit Go.Gv
open Hs.So (dM pJ)
def u11(l:List (Nat × AV))(mem:List Row):St:=⟨(av2 11).map λ i=>(match l.find? (λ p=>ax0 p.1 i)with
 |some p=>p.2
 |none=>.x undef,[]),mem⟩
def Xg:List AV:=[pQ,pQ,pQ,pQ,pQ,iA 0,iA 0,iA 0,.f 0,.f 0,.f 0,.f 0,.f 0,.f 0,.f 0,.f 0,.f 0,.f 0]
def aor(t:Tk):List Row:=[Rv t,.c Xg,.c [iA 0]]
def pl3:Pl:=⟨3,4,5,6,7,8⟩
def scR(i:Pl)(c:Ct):List AV:=[oX i c 2,oX i c 3,oX i c 4,oX i c 5,oX i c 6,oX i c 7,oX i c 8,oX i c 9,oX i c 10,oX i c 11,oX i c 12,oX i c 13,oX i c 14,oX i c 15,oX i c 16,oX i c 17,oX i c 18,oX i c 19]
def afd(t:Tk)(z:Nat->Int)(c:Ct)(l:List AV):List Row:=UO t t.n z pl3 c::.c l::.c [iA 0]::rows c
noncomputable def wAl(t:Tk)(zf:Nat->Int)(cf:Ct):bH:=wQ bW 69 (λ _ _=>.aN []) (λ _ _=>afd t zf cf Xg)
noncomputable def tAl(t:Tk)(zf:Nat->Int)(cf:Ct):Tab:=xu [] [] [] [wAl t zf cf] []
noncomputable def rdo(i:Nat):Array Oper:=((Ee (dG aEs) i).getD #[])
def rs1(t:Tk):St:=u11 [(0,.own 0 0),(2,.own 1 0),(3,.own 2 0)] (aor t)
def atH(t:Tk):St:=u11 [(0,.own 0 0),(2,.own 1 0),(3,.own 2 0),(4,.any)] (aor t)
def rs2(t:Tk)(z:Nat->Int)(c:Ct):St:=u11 [(0,.own 0 0),(2,.own 1 0),(3,.own 2 0),(4,.any),(5,.own 0 0),(6,.aN [])] (afd t z c Xg)
def rs3(t:Tk)(z:Nat->Int)(c:Ct):St:=u11 [(0,.own 0 0),(2,.own 1 0),(3,.own 2 0),(4,.any),(5,.own 0 0),(6,.aN []),(7,.own 0 0),(8,.own 0 0),(9,.own 0 2),(10,.agg (scR pl3 c))] (afd t z c (scR pl3 c))
def τr:List (Option Nat):=[some 0,some 3,some 4,some 5,some 6,some 7,some 8]
section
variable(t:Tk)(zf:Nat->Int)(cf:Ct)
theorem awt:oC bW (tAl t zf cf) (rdo 0).toList (rdo 0).toList (Gv.start aEs [Rv t] [.own 0 0]) kR=rR (rs1 t):=by kernel_rfl
theorem awu:(⟨ow (rs1 t).slots (some 4) (.any,[]),(rs1 t).mem⟩:St)=atH t:=by kernel_rfl
theorem awv:oC bW (tAl t zf cf) (rdo 2).toList (rdo 2).toList (atH t) kR=qC 69 [] (.aN []) (aor t) (afd t zf cf Xg) (rR (rs2 t zf cf)):=by kernel_rfl
theorem aww:oC bW (tAl t zf cf) (rdo 3).toList (rdo 3).toList (rs2 t zf cf) kR=rR (rs3 t zf cf):=by kernel_rfl
theorem awx:abf bW aEs τr (rs3 t zf cf)=some ⟨.normal,⟨[],M7 t t.n zf cf⟩,.aN [.agg (scR HZ cf),iA 0]⟩:=by kernel_rfl
end
theorem idle(p q:Value)(w:World):CallsD bW 68 #[p,q] .returning w λ e u' w'=>e=.returned (.tuple #[])/\u'=.returning/\w'=w:=by
 refine callsD_of_wpS Tryz.func68 rfl λ c₀ cs hu=>?_;apply wpS_seq;apply wpS_region;simp[wpOpsS,go_sem,recoverD,hu,Exit.thenS];apply wpS_seq;apply wpS_seq;apply wpS_region;simp[wpOpsS,go_sem,Exit.thenS];refine wpS_cond (t:=true) (by simp[Act.eval,Array.replicate]) ?_;simp only[if_true];refine wpS_of_wp (wp_ret ?_);cases c₀;simp_all[Exit.thenS,bodyPostS,results]
section
variable{t:Tk}{zf:Nat->Int}{c cf:Ct}
theorem abo(h:Rest t zf cf 0 z0 (VF c))(hz:zf 21=1):cu bW 24 [.own 0 0] [Rv t] (.aN [.agg (scR HZ cf),iA 0]) (M7 t t.n zf cf):=by
 refine SG (gL aB av bO (aC (aX (g:=λ _ _=>.aN []) (m:=λ _ _=>afd t zf cf Xg)) bJ) bS) Tryz.func24 (by kernel_rfl) ⟨_,Tryz.func68,rfl,rfl⟩ (o0:=rdo 0) (o2:=rdo 2) (o3:=rdo 3) (k:=4) (x:=2) (y:=3) (g:=68) (by rfl) rfl rfl rfl rfl rfl rfl idle (by rfl) (τ:=τr) (by rfl) (awt t zf cf) (by rfl) (by rfl) (s2:=rs2 t zf cf) ?_ (aww t zf cf) (awx t zf cf);rw[awu];refine(awv t zf cf).trans ?_;refine yS (Io 1 rfl (adz h hz) [.c Xg,.c [iA 0]] (by rfl) (λ i r hi=>?_) (by rfl) (by simp[M7]) (by rfl) (by kernel_rfl)) _;have:i=0:=by have:=(aj8.1 hi).1;simpa using this
 subst this;cases hi;exact⟨rfl,by kernel_rfl⟩
end
end Go.Proofs.YtefphimaggjihaaGreatDoor.Pi.Rd
namespace Go.Gv
open Go.RowKit Go.Ev
def fgZ(keep:List Nat)(τ:List (Option Nat)):mg:=λ s k=>cond (jF τ s) (k (gN keep τ s)) none
theorem apK{keep:List Nat}{τ:List (Option Nat)}:fZ 0 (fgZ keep τ):=λ s k r h=>by
 unfold fgZ at h;cases hf:jF τ s
 .rw[hf]at h;cases h
 .rw[hf]at h
  exact⟨_,h,K6 (by rfl) hf⟩
def ab1(h g:mg):mg:=λ s k=>h s λ s1=>g s1 k
theorem EH{np:Nat}{h g:mg}(hh:fZ np h)(hg:fZ np g):fZ np (ab1 h g):=λ s k r e=>by
 obtain⟨s1,e1,p1⟩:=hh s _ r e;obtain⟨s2,e2,p2⟩:=hg s1 k r e1;exact⟨s2,e2,p1.trans p2⟩
end Go.Gv
namespace Go.Proofs.YtefphimaggjihaaGreatDoor.Pi.Rd
open Go.Shelf Go.RowKit Go.Gv
open Hs.So (dM pJ)
def pl2:Pl:=⟨2,3,4,5,6,7⟩
def pX1(t:Tk)(z:Nat->Int)(c:Ct):List Row:=.c Xg::UO t t.n z pl2 c::rows c
def vX1(c:Ct):AV:=.aN [.agg (scR pl2 c),iA 0]
def scF(c:Ct):List AV:=[.sl 13 c.nS c.S,.sl 2 c.nO c.O,.sl 8 c.nF c.F,.sl 10 c.nK c.K,.sl 6 c.nL c.L,iA (c.jE 0),iA (c.jE 1),iA (c.jE 2),.f (c.eye 0),.f (c.eye 1),.f (c.eye 2),.f (c.eye 3),.f (c.eye 4),.f (c.eye 5),.f (c.eye 6),.f (c.eye 7),.f (c.eye 8),.f (c.eye 9)]
noncomputable def wRd(t:Tk)(zf:Nat->Int)(cf:Ct):bH:=wQ bW 24 (λ _ _=>vX1 cf) (λ _ _=>pX1 t zf cf)
noncomputable def kTk(t:Tk):aV:=kS bW 25 (λ _=>Vl t)
noncomputable def tPa(t:Tk)(zf:Nat->Int)(cf:Ct):Tab:=xu [] [kTk t] [] [wRd t zf cf] []
def paZ:Nat->Option mg:=iH 9003 (ab1 (fgZ [2,3] [some 0,some 2,some 3,some 4,some 5,some 6]) (ab1 (wS 1) (ab1 (wS 2) (ab1 (wS 3) (ab1 (wS 4) (wS 5))))))
theorem apM:∀i h,paZ i=some h->fZ 0 h:=gK (EH apK (EH (jq 1) (EH (jq 2) (EH (jq 3) (EH (jq 4) (jq 5))))))
def frB(n:Nat)(x:Option Out):Option Out:=cond ((ax0 n n&&true)&&true) x none
theorem auN(n:Nat)(x:Option Out):frB n x=x:=by unfold frB;rw[Nat.beq_refl];rfl
section
variable(s:ByteArray)(t:Tk)(zf:Nat->Int)(cf:Ct)
theorem auO:PD bW (tPa t zf cf) (lZ bW (tPa t zf cf)) aM paZ 40 Tryz.f8 [zA s] (λ v=>some (Out.of v)) =
 cond (decide (20000<((s.size:Nat):Int))) (some (Out.of (.aN [.agg Xg,iA 4]))) (gate (aj bW 25 [zA s] (Vl t)) (cond (iY (bP bW 24 [.own 1 0] [.c Xg,Rv t] (vX1 cf) (pX1 t zf cf))) (frB cf.nS (frB cf.nO (frB cf.nF (frB cf.nK (frB cf.nL (some (Out.of (.aN [.agg (scF cf),iA 0]))))))) ) none)):=by kernel_rfl
end
section
variable{s:ByteArray}{t:Tk}{zf:Nat->Int}{c cf:Ct}
theorem Ya(h:Rest t zf cf 0 z0 (VF c))(hz:zf 21=1):bP bW 24 [.own 1 0] [.c Xg,Rv t] (vX1 cf) (pX1 t zf cf):=by
 have hw:=xC (args:=[.own 1 0]) (mem:=[.c Xg,Rv t]) (mem':=pX1 t zf cf) (abo h hz) [1] (by rfl) (by rfl) (by rfl) (λ i k hi=>?_) ⟨λ k hk hlt=>?_,λ i k r hi hr=>?_,λ i r hi hr=>?_⟩
 .exact hw
 .have:i=0:=by have:=(aj8.1 hi).1;simpa using this
  subst this;cases hi;exact⟨Rv t,rfl,rfl,by show some (Rv t)=some _;congr 1⟩
 .have:k=0:=by simp at hlt hk;omega
  subst this;rfl
 .have:i=0:=by have:=(aj8.1 hi).1;simpa using this
  subst this;cases hi;cases hr;show some _=some _;congr 1
 .match i,hr with
  | 1,hr=>cases hr;rfl
  | 2,hr=>cases hr;rfl
  | 3,hr=>cases hr;rfl
  | 4,hr=>cases hr;rfl
  | 5,hr=>cases hr;rfl
  | 6,hr=>cases hr;rfl
  |n+7,hr=>cases hr
theorem Xu(hs:s.size<=20000)(ht:aj bW 25 [zA s] (Vl t))(h:Rest t zf cf 0 z0 (VF c))(hz:zf 21=1):aj bW 8 [zA s] (.aN [.agg (scF cf),iA 0]):=by
 refine pq apM (gL aB (ak aD av) bO (aC (aX (g:=λ _ _=>vX1 cf) (m:=λ _ _=>pX1 t zf cf)) bJ) bS) (iJ (gL aB (ak aD av) bO (aC aX bJ) bS) (by kernel_rfl)) 40 Tryz.func8 (by kernel_rfl) (c:=dG Tryz.f8) (by kernel_rfl) aA rfl ((auO s t zf cf).trans ?_);rw[decide_eq_false (by omega),ah ht,fH (Ya h hz)];show frB _ _=_;simp only[auN]
end
end Go.Proofs.YtefphimaggjihaaGreatDoor.Pi.Rd
namespace Go.Proofs.YtefphimaggjihaaGreatDoor.Pi
open Go.Shelf Go.RowKit Go.Gv
def inW(b:UInt8):Bool:=iwB (b.toNat:Int)&&decide (b.toNat<128)
def Pnc(b:UInt8):Prop:=b=59\/b=44\/b=123\/b=125
def GpC(b:UInt8):Prop:=b=32\/b=10
def wY(t:List UInt8):Prop:=(t≠[]/\∀b,b∈t->inW b=true)\/∃c,Pnc c/\t=[c]
theorem KP{F pre rest:List UInt8}{b:UInt8}(hF:F=pre++b::rest)(hb:b.toNat<128):pre.length<(lB F).size/\CW (lB F) pre.length=(b.toNat:Int)/\yO (lB F) pre.length=pre.length+1:=by
 have hs:pre.length<(lB F).size:=by rw[aY,hF];simp
 have hg:(bL (lB F)).getD pre.length 0=b:=by rw[jr,hF,amh,axY (ao5 _),aDP];rfl
 obtain⟨h1,h2⟩:=aaA hs (by rw[hg];exact hb);rw[hg]at h1;exact⟨hs,h1,h2⟩
theorem Yv{F pre rest:List UInt8}{c:UInt8}(hF:F=pre++c::rest)(hc:GpC c):Gap (lB F) pre.length/\yO (lB F) pre.length=pre.length+1:=by
 obtain⟨h1,h2,h3⟩:=KP hF (by rcases hc with rfl |rfl<;>decide)
 refine⟨⟨h1,?_,?_⟩,h3⟩<;>rw[h2]<;>rcases hc with rfl |rfl<;>decide
theorem aqF{F pre rest:List UInt8}{c:UInt8}(hF:F=pre++c::rest)(hc:Pnc c):Pun (lB F) pre.length/\yO (lB F) pre.length=pre.length+1/\Utf8.encode (CW (lB F) pre.length)=lB [c]:=by
 obtain⟨h1,h2,h3⟩:=KP hF (by rcases hc with rfl |rfl |rfl |rfl<;>decide)
 refine⟨⟨h1,?_,?_⟩,h3,?_⟩<;>rw[h2]<;>rcases hc with rfl |rfl |rfl |rfl<;>first |decide |rfl
theorem ahi:∀(w:List UInt8) {F pre rest:List UInt8},F=pre++(w++rest)->(∀b,b∈w->inW b=true)->Wrd (lB F) pre.length w.length (pre.length+w.length)
 | [],F,pre,rest,_,_=>by show pre.length=pre.length+0;omega
 |b::w,F,pre,rest,hF,h=>by
  have hb:=h b (by simp);unfold inW at hb;simp only[J8,decide_eq_true_eq]at hb;obtain⟨h1,h2,h3⟩:=KP (F:=F) (pre:=pre) (rest:=w++rest) (b:=b) (by rw[hF];rfl) hb.2;refine⟨h1,by rw[h2];exact hb.1,?_⟩;have ih:=ahi w (F:=F) (pre:=pre++[b]) (rest:=rest) (by rw[hF];simp) λ x hx=>h x (by simp[hx]);rw[uI,azM]at ih;rw[h3,anE,show pre.length+(w.length+1)=pre.length+1+w.length by omega];exact ih
theorem akB{s:ByteArray}{p:Nat}{l:List ByteArray}(h:Cut s p l)(g:Gap s p):Cut s (yO s p) l:=by
 obtain⟨g1,g2,g3⟩:=g;cases h with
 |fin h=>omega
 |gap _ r=>exact r
 |pun h _=>rw[h.2.2]at g3;cases g3
 |wrd h _ _ _=>rw[h.2.1]at g2;cases g2
theorem aaB{F pre t rest:List UInt8}{c:UInt8}{l:List ByteArray}(hF:F=pre++(t++c::rest))(ht:wY t)(hc:GpC c)(h:Cut (lB F) (pre++t).length l):Cut (lB F) pre.length (lB t::l):=by
 have hg:=Yv (F:=F) (pre:=pre++t) (rest:=rest) (c:=c) (by rw[hF];simp) hc;rcases ht with⟨hne,hw⟩ | ⟨d,hd,rfl⟩
 .obtain⟨k,hk⟩:∃k,t.length=k+1:=⟨t.length - 1,by have:=aAa.2 hne;omega⟩
  have hW:=ahi t (F:=F) (pre:=pre) (rest:=c::rest) hF hw;have hl:(pre++t).length=pre.length+t.length:=uI
  have e:(lB F).extract pre.length (pre.length+t.length)=lB t:=by
   rw[<-Gl ((lB F).extract _ _),oG,jr,hF,<-aiR,List.take_append_of_le_length (by rw[hl];omega),List.take_of_length_le (by rw[hl];omega)];simp
  rw[hk]at hW;have:=Cut.wrd (s:=lB F) (p:=pre.length) (k:=k) (q:=pre.length+(k+1)) hW (by omega) (by rw[<-hk,<-hl];exact hg.1) (by rw[<-hk,<-hl];exact akB h hg.1);rw[<-hk,e]at this;exact this
 .obtain⟨h1,h2,h3⟩:=aqF (F:=F) (pre:=pre) (rest:=c::rest) (c:=d) (by rw[hF];rfl) hd
  have:=Cut.pun h1 (l:=l) (by rw[h2];rw[uI]at h;exact h);rw[h3]at this;exact this
theorem aaC:∀(ts:List (List UInt8)),(∀t,t∈ts->wY t)->∀{b:Bool} {F pre rest:List UInt8} {c:UInt8} {l:List ByteArray},F=pre++(tks b ts++c::rest)->GpC c->Cut (lB F) (pre++tks b ts).length l->Cut (lB F) pre.length (ts.map lB++l)
 | [],_,b,F,pre,rest,c,l,_,_,h=>by simpa[tks]using h
 |t::r,ht,b,F,pre,rest,c,l,hF,hc,h=>by
  have key:∀ahj:List UInt8,F=ahj++(t++(tks true r++c::rest))->(ahj++(t++tks true r)).length=(pre++tks b (t::r)).length->Cut (lB F) ahj.length ((t::r).map lB++l):=λ ahj e1 e2=>by
   have ih:=aaC r (λ x hx=>ht x (by simp[hx])) (b:=true) (F:=F) (pre:=ahj++t) (rest:=rest) (c:=c) (l:=l) (by rw[e1];simp) hc (by rw[aiR,e2];exact h);cases r with
   |nil=>exact aaB (rest:=rest) (c:=c) (by rw[e1];simp[tks]) (ht t (by simp)) hc ih
   |cons t2 r2=>exact aaB (rest:=t2++tks true r2++c::rest) (c:=32) (by rw[e1];simp[tks]) (ht t (by simp)) (ER rfl) ih
  cases b with
  |false=>exact key pre (by rw[hF];simp[tks]) (by simp[tks])
  |true =>
   obtain⟨g1,g2⟩:=Yv (F:=F) (pre:=pre) (rest:=t++(tks true r++c::rest)) (c:=32) (by rw[hF];simp[tks]) (ER rfl);have:=key (pre++[32]) (by rw[hF];simp[tks]) (by simp[tks]);refine Cut.gap g1 ?_;rw[g2];rw[uI]at this;exact this
def Dk(ts:List (List UInt8)):List UInt8:=tks false (ts++[[59]])++[10]
def Ro(ts:List (List UInt8)):List (List UInt8):=ts++[[59]]
theorem Mq:∀(ls:List (List (List UInt8))),(∀ts,ts∈ls->∀t,t∈ts->wY t)->∀{F pre:List UInt8},F=pre++ls.flatMap Dk->Cut (lB F) pre.length ((ls.flatMap Ro).map lB)
 | [],_,F,pre,hF=>Cut.fin (by rw[aY,hF];simp)
 |ts::r,h,F,pre,hF=>by
  have e:F=pre++(tks false (ts++[[59]])++10::r.flatMap Dk):=by rw[hF];simp[Dk]
  have ih:=Mq r (λ x hx=>h x (by simp[hx])) (F:=F) (pre:=pre++Dk ts) (by rw[hF];simp);obtain⟨g1,g2⟩:=Yv (F:=F) (pre:=pre++tks false (ts++[[59]])) (rest:=r.flatMap Dk) (c:=10) (by rw[e];simp) (aaH rfl);have e2:((ts::r).flatMap Ro).map lB=(ts++[[59]]).map lB++(r.flatMap Ro).map lB:=by simp[Ro]
  rw[e2];refine aaC _ (λ t ht=>?_) e (aaH rfl) (Cut.gap g1 ?_)
  .rcases ayQ.1 ht with ht |ht
   .exact h ts (by simp) t ht
   .simp at ht
    exact aaH ⟨59,ER rfl,ht⟩
  .rw[g2]
   have:(pre++tks false (ts++[[59]])).length+1=(pre++Dk ts).length:=by simp[Dk];omega
   rw[this];exact ih
open Hs.Sc (fT)
def lW(s:fT)(l:List UInt8)(b u:Bool):List Row:=[FT 2 l.length b u,.c s.c,bR l]
def Mc(m:List Row):List Row:=match m with
 |.t T [a,.fJ k s o n,b,u]::bx::r=>[.t T [a,.fJ 2 s o n,b,u],bx,(bx::r).getD (k - 1) .dead]
 |_=>[]
def Fe:List UInt8:=[115,107,121]
section
variable(L:Nat->List UInt8)(U:Nat->Bool)(s:fT)(l l1:List UInt8)(b u u1:Bool)(i:Int)
def q1(i:Int)(mem:List Row):St:=mkS 96 [(0,.own 0 0),(3,.own 1 0),(28,s.vK),(29,iA s.nK),(30,iA i)] mem
def q2(i:Int)(mem:List Row):St:=mkS 96 [(0,.own 0 0),(3,.own 1 0),(41,s.vL),(42,iA s.nL),(43,iA i)] mem
def q3(i:Int)(mem:List Row):St:=mkS 96 [(0,.own 0 0),(3,.own 1 0),(52,s.vS),(53,iA s.nS),(54,iA i)] mem
def q4(i:Int)(mem:List Row):St:=mkS 96 [(0,.own 0 0),(3,.own 1 0),(67,s.vO),(68,iA s.nO),(69,iA i)] mem
def q5(i:Int)(mem:List Row):St:=mkS 96 [(0,.own 0 0),(3,.own 1 0),(82,s.vF),(83,iA s.nF),(84,iA i)] mem
def kq1:List Nat:=[0,3,28,29,30]
def kq2:List Nat:=[0,3,41,42,43]
def kq3:List Nat:=[0,3,52,53,54]
def kq4:List Nat:=[0,3,67,68,69]
def kq5:List Nat:=[0,3,82,83,84]
noncomputable def qC(n:Nat)(x y:Option Out):Option Out:=cond (decide (i<(n:Nat))) (cond (mI i n||false) x none) y
noncomputable def QU:List bH:=[wP 90 false L U,wP 91 false L U,wP 92 true L U,wP 93 false L U,wP 94 true L U,wP 95 true L U]
def iWr(k:Int):Itm:=.w 93 [iA k] false
theorem aiu:tC bW [] [] wN (QU L U) [] aM (au azz 0) (q1 s i (lW s l b u)) (fu kq1 [some 0,some 1,some 4]) =
 qC i s.nK (tH L U [.w 90 [.agg (Hs.Sc.xB (s.K i.toNat)),iA i] false] (lW s l b u++[.c (Hs.Sc.xB (s.K i.toNat))]) λ m=>some ⟨.normal,q1 s (aI (i+1)) (Mc m),.any⟩) none:=by kernel_rfl
theorem am3:tC bW [] [] wN (QU L U) [] aM (au azz 0) (q1 s i (lW s l b u)) (gM kq1 [some 0,some 1,some 2]) =
 qC i s.nK (tH L U [.w 90 [.agg (Hs.Sc.xB (s.K i.toNat)),iA i] false] (lW s l b u++[.c (Hs.Sc.xB (s.K i.toNat))]) λ _=>none) (some ⟨.exit 0,q1 s i (lW s l b u),.any⟩):=by kernel_rfl
theorem aiw:tC bW [] [] wN (QU L U) [] aM (au azz 1) (q2 s i (lW s l b u)) (fu kq2 [some 0,some 1,some 4]) =
 qC i s.nL (tH L U [.w 91 [.agg (Hs.Sc.Ic (s.LA i.toNat) (s.LL i.toNat))] false] (lW s l b u++[.c (Hs.Sc.Ic (s.LA i.toNat) (s.LL i.toNat))]) λ m=>some ⟨.normal,q2 s (aI (i+1)) (Mc m),.any⟩) none:=by kernel_rfl
theorem am4:tC bW [] [] wN (QU L U) [] aM (au azz 1) (q2 s i (lW s l b u)) (gM kq2 [some 0,some 1,some 2]) =
 qC i s.nL (tH L U [.w 91 [.agg (Hs.Sc.Ic (s.LA i.toNat) (s.LL i.toNat))] false] (lW s l b u++[.c (Hs.Sc.Ic (s.LA i.toNat) (s.LL i.toNat))]) λ _=>none) (some ⟨.exit 2,q2 s i (lW s l b u),.any⟩):=by kernel_rfl
theorem aiy:tC bW [] [] wN (QU L U) [] aM (au azz 2) (q3 s i (lW s l b u)) (fu kq3 [some 0,some 1,some 5]) =
 qC i s.nS (tH L U [.w 92 [.agg (s.S i.toNat).c] true,iWr (s.S i.toNat).sk] (lW s l b u++[.c (s.S i.toNat).c]) λ m=>some ⟨.normal,q3 s (aI (i+1)) (Mc m),.any⟩) none:=by kernel_rfl
theorem am5:tC bW [] [] wN (QU L U) [] aM (au azz 2) (q3 s i (lW s l b u)) (gM kq3 [some 0,some 1,some 2]) =
 qC i s.nS (tH L U [.w 92 [.agg (s.S i.toNat).c] true,iWr (s.S i.toNat).sk] (lW s l b u++[.c (s.S i.toNat).c]) λ _=>none) (some ⟨.exit 4,q3 s i (lW s l b u),.any⟩):=by kernel_rfl
theorem aiz:tC bW [] [] wN (QU L U) [] aM (au azz 3) (q4 s i (lW s l b u)) (fu kq4 [some 0,some 1,some 5]) =
 qC i s.nO (tH L U [.w 94 [.agg (s.O i.toNat).c] true,iWr (s.O i.toNat).sk] (lW s l b u++[.c (s.O i.toNat).c]) λ m=>some ⟨.normal,q4 s (aI (i+1)) (Mc m),.any⟩) none:=by kernel_rfl
theorem am6:tC bW [] [] wN (QU L U) [] aM (au azz 3) (q4 s i (lW s l b u)) (gM kq4 [some 0,some 1,some 2]) =
 qC i s.nO (tH L U [.w 94 [.agg (s.O i.toNat).c] true,iWr (s.O i.toNat).sk] (lW s l b u++[.c (s.O i.toNat).c]) λ _=>none) (some ⟨.exit 6,q4 s i (lW s l b u),.any⟩):=by kernel_rfl
theorem aiA:tC bW [] [] wN (QU L U) [] aM (au azz 4) (q5 s i (lW s l b u)) (fu kq5 [some 0,some 1,some 5]) =
 qC i s.nF (tH L U [.w 95 [.agg (s.F i.toNat).c] true,iWr (s.F i.toNat).sk] (lW s l b u++[.c (s.F i.toNat).c]) λ m=>some ⟨.normal,q5 s (aI (i+1)) (Mc m),.any⟩) none:=by kernel_rfl
theorem am7:tC bW [] [] wN (QU L U) [] aM (au azz 4) (q5 s i (lW s l b u)) (gM kq5 [some 0,some 1,some 2]) =
 qC i s.nF (tH L U [.w 95 [.agg (s.F i.toNat).c] true,iWr (s.F i.toNat).sk] (lW s l b u++[.c (s.F i.toNat).c]) λ _=>none) (some ⟨.exit 8,q5 s i (lW s l b u),.any⟩):=by kernel_rfl
end
section
variable(L:Nat->List UInt8)(U:Nat->Bool)(s:fT)(l1 k1 k2 k3 k4 k5:List UInt8)(u1 v1 v2 v3 v4 v5:Bool)
noncomputable def scL:Nat->Option dN:=ny [(6,rC 1 kq1 [some 0,some 1,some 5] (q1 s 0 (lW s (L 5) false (U 5))) (.exit 0) (q1 s s.nK (lW s k1 false v1))),
 (11,rC 1 kq2 [some 0,some 1,some 2] (q2 s 0 (lW s k1 false v1)) (.exit 2) (q2 s s.nL (lW s k2 false v2))),(16,rC 1 kq3 [some 0,some 1,some 2] (q3 s 0 (lW s k2 false v2)) (.exit 4) (q3 s s.nS (lW s k3 false v3))),
 (22,rC 1 kq4 [some 0,some 1,some 2] (q4 s 0 (lW s k3 false v3)) (.exit 6) (q4 s s.nO (lW s k4 false v4))),(28,rC 1 kq5 [some 0,some 1,some 2] (q5 s 0 (lW s k4 false v4)) (.exit 8) (q5 s s.nF (lW s k5 false v5)))]
theorem aec:eu bW [] [] wN [wQ bW 86 (λ _ _=>.aN []) (λ _ _=>lW s l1 false u1),DW L U,wWh L U,afW L U] [] (scL L U s k1 k2 k3 k4 k5 v1 v2 v3 v4 v5) azz [.own 0 0,.agg s.c] (G7 false false) [some 0,some 2] =
  cond (iY (bP bW 86 [.own 0 0,.agg (eyA s.eye)] (G7 false false++[.c s.c]) (.aN []) (lW s l1 false u1)))
   (tH L U [ko [Fe],iWh s.jE,afX] (lW s l1 false u1) λ _=>gate (iV 1 (q1 s 0 (lW s (L 5) false (U 5))) (q1 s 0 (lW s (L 5) false (U 5)))) (gate (iV 1 (q2 s 0 (lW s k1 false v1)) (q2 s 0 (lW s k1 false v1))) (gate (iV 1 (q3 s 0 (lW s k2 false v2)) (q3 s 0 (lW s k2 false v2)))
     (gate (iV 1 (q4 s 0 (lW s k3 false v3)) (q4 s 0 (lW s k3 false v3))) (gate (iV 1 (q5 s 0 (lW s k4 false v4)) (q5 s 0 (lW s k4 false v4))) (fD (.aN []) (pM k5 false v5))))))) none:=by kernel_rfl
end
structure Hq(s:fT)(mem:List Row)(l:List UInt8)(b u:Bool):Prop where
 inv:Inv mem l b u
 two:2<=PX mem
 box:mem[1]?=some (.c s.c)
theorem Hq.ou{s:fT}{mem:List Row}{l l':List UInt8}{b u b' u':Bool}(h:Hq s mem l b u):Hq s (ou mem l' b' u') l' b' u'/\(Pi.ou mem l' b' u').length=mem.length+1:=by
 obtain⟨h1,h2⟩:=h.inv.ou (l':=l') (b':=b') (u':=u');obtain⟨k,r,rfl,hk,hc⟩:=h.inv.cons;have hkl:k<r.length:=(aj8.1 hk).1;have h2':2<=k+1:=by rw[<-hc];exact h.two
 refine⟨⟨h1,by show 2<=r.length+1;omega,?_⟩,h2⟩;show((FT _ _ _ _::r.set (k+1 - 1) .dead)++[bR l'])[1]?=_;rw[List.getElem?_append_left (by simp;omega),azD,ay9 (by omega)];have:=h.box
 rwa [azD]at this
theorem Hq.need{s:fT}{mem:List Row}{l:List UInt8}{b u:Bool}(h:Hq s mem l b u)(t:Bool):Hq s (BO t mem) l b (cond u true (!t))/\(BO t mem).length=mem.length:=by
 obtain⟨h1,h2⟩:=h.inv.need t;obtain⟨k,r,rfl,hk,hc⟩:=h.inv.cons;exact⟨⟨h1,by have:=h.two;rw[hc]at this;exact this,h.box⟩,h2⟩
theorem Hq.Mc{s:fT}{mem:List Row}{l:List UInt8}{b u:Bool}(h:Hq s mem l b u):Mc mem=lW s l b u:=by
 obtain⟨k,r,rfl,hk,hc⟩:=h.inv.cons;have hb:=h.box;rw[azD]at hb;cases r with
 |nil=>simp at hb
 |cons bx r =>
  simp at hb;subst hb;show [_,_,(_::r).getD (k+1 - 1) .dead]=_;rw[amh,azB,hk];rfl
theorem zC{s:fT}:∀(its:List SI) (Z:List (List UInt8 × Bool)) (n0:Nat) (m:List Row) (l:List UInt8) (b u:Bool) (k:List Row->Option Out),Hq s m l b u->n0<=m.length->(∀i,(LU its l b u)[i]?≠none->Z[m.length - n0+i]?=(LU its l b u)[i]?)->(∀i,i∈its->i.ok)->l.length+(comp its b).length<=900000000 ->
  ∃m',Hq s m' (l++comp its b) (cbf its b) (u||fU its)/\tH (λ n=>(Z.getD (n - n0) ([],false)).1) (λ n=>(Z.getD (n - n0) ([],false)).2) (its.map SI.itm) m k=k m'
 | [],Z,n0,m,l,b,u,k,hI,_,_,_,_=>⟨m,by simpa[cbf]using hI,rfl⟩
 |.g p::r,Z,n0,m,l,b,u,k,hI,h0,hZ,hok,hl=>by
  have hp:p:=hok (.g p) (by simp);obtain⟨m',h1,h2⟩:=zC r Z n0 m l b u k hI h0 hZ (λ i hi=>hok i (by simp[hi])) hl;refine⟨m',h1,?_⟩;show gate p _=_;rw[ah hp];exact h2
 |.n t::r,Z,n0,m,l,b,u,k,hI,h0,hZ,hok,hl=>by
  obtain⟨hI',hlen⟩:=hI.need t;obtain⟨m',h1,h2⟩:=zC r Z n0 (BO t m) l b (cond u true (!t)) k hI' (by rw[hlen];exact h0) (by rw[hlen];exact hZ) (λ i hi=>hok i (by simp[hi])) hl;refine⟨m',?_,?_⟩
  .have e:(u||(!t||fU r))=(cond u true (!t)||fU r):=by cases u<;>rfl
   show Hq s m' (l++comp r b) (cbf r b) (u||(!t||fU r));rw[e];exact h1
  .show cond (iY _) _ none=_
   rw[fH (Ny hI.inv t)];exact h2
 |.w f a E bad bf::r,Z,n0,m,l,b,u,k,hI,h0,hZ,hok,hl=>by
  obtain⟨hP,ha⟩:SI.ok (.w f a E bad bf):=hok (.w f a E bad bf) (by simp)
  have hl':l.length+((E b).length+(comp r bf).length)<=900000000:=by
   have:(comp (.w f a E bad bf::r) b).length=(E b).length+(comp r bf).length:=uI;omega
  obtain⟨hI',hlen⟩:=hI.ou (l':=l++E b) (b':=bf) (u':=u||bad)
  have hz:Z.getD (m.length - n0) ([],false)=(l++E b,u||bad):=by
   have:=hZ 0 (by simp[LU]);rw[ayO]at this;rw[amh,this];rfl
  obtain⟨m',h1,h2⟩:=zC r Z n0 (ou m (l++E b) bf (u||bad)) (l++E b) bf (u||bad) k hI' (by rw[hlen];omega) (λ i hi=>by
   have:=hZ (i+1) (by simpa[LU]using hi);rw[hlen,show m.length+1 - n0+i=m.length - n0+(i+1) by omega,this];rfl) (λ i hi=>hok i (by simp[hi])) (by rw[uI];omega)
  refine⟨m',?_,?_⟩
  .have e1:l++comp (.w f a E bad bf::r) b=l++E b++comp r bf:=(aiR _ _ _).symm
   have e2:(u||fU (.w f a E bad bf::r))=(u||bad||fU r):=(aAC _ _ _).symm;rw[e1,e2];exact h1
  .show cond (iY (bP bW f (.own 0 0::a) m (.aN []) (ou m (Z.getD (m.length - n0) ([],false)).1 bf (Z.getD (m.length - n0) ([],false)).2))) (tH _ _ (r.map SI.itm) (ou m (Z.getD (m.length - n0) ([],false)).1 bf (Z.getD (m.length - n0) ([],false)).2) k) none=_
   rw[hz,fH (xP hI.inv ha (λ _=>rfl) (hP l b u (by omega)))];exact h2
theorem Sj(s:fT)(l:List UInt8)(b u:Bool)(r:List Row):Hq s (lW s l b u++r) l b u:=⟨⟨by show 0<2;omega,rfl,rfl⟩,by show 2<=2;omega,rfl⟩
def bY(E:Nat->List UInt8):Nat->List UInt8
 | 0=>[]
 |j+1=>bY E j++E j
def mh(B:Nat->Bool):Nat->Bool
 | 0=>false
 |j+1=>mh B j||B j
theorem wu{E:Nat->List UInt8}{n:Nat}:∀{j:Nat},j<=n->(bY E j).length<=(bY E n).length:=fun{j} h=>by
  induction n with
  | zero => have:j=0:=by omega
            subst this;exact ao5 _
  |succ n ih =>
    by_cases c:j=n+1
    . subst c;exact ao5 _
    . have:=ih (by omega)
      show _<=(bY E n++E n).length;rw[uI];omega
theorem aum{j n:Nat}(hj:j<n)(x y:Option Out):qC (j:Nat) n x y=x:=by unfold qC;rw[dec_lt hj,gy hj];rfl
theorem afY(L:Nat->List UInt8)(U:Nat->Bool):∀e,e∈QU L U->vk bW e:=aC bX <|aC bX <|aC bX <|aC bX <|aC bX <|aC bX bJ
theorem DZ{s:fT}{c:Code}{q:Int->List Row->St}{n:Nat}{ex:Exit}{kq:List Nat}{τ:List (Option Nat)}(hex:ex≠.normal)(hk:KF 1 (fu kq τ))(hk2:KF 1 (gM kq [some 0,some 1,some 2]))(hn:n<=100000)(its:Nat->List SI)(bx:Nat->Row)(X:(Nat->List UInt8)->(Nat->Bool)->List UInt8->Bool->Option Out)
  (hS:∀L U l u (j:Nat),tC bW [] [] wN (QU L U) [] aM c (q (j:Nat) (lW s l false u)) (fu kq τ)=qC (j:Nat) n (tH L U ((its j).map SI.itm) (lW s l false u++[bx j]) λ m=>some ⟨.normal,q (aI ((j:Nat)+1)) (Mc m),.any⟩) none)
  (hE:∀L U l u,tC bW [] [] wN (QU L U) [] aM c (q (n:Nat) (lW s l false u)) (gM kq [some 0,some 1,some 2])=qC (n:Nat) n (X L U l u) (some ⟨ex,q (n:Nat) (lW s l false u),.any⟩))
  (hok:∀j,j<n->∀i,i∈its j->i.ok) (hbf:∀j,cbf (its j) false=false) {l:List UInt8} {u:Bool} (hl:l.length+(bY (λ j=>comp (its j) false) n).length<=900000000) :
  fG 1 bW (.loop c) (q 0 (lW s l false u)) ex (q (n:Nat) (lW s (l++bY (λ j=>comp (its j) false) n) false (u||mh (λ j=>fU (its j)) n))):=by
 suffices key:fG 1 bW (.loop c) (q ((0:Nat):Int) (lW s (l++bY (λ j=>comp (its j) false) 0) false (u||mh (λ j=>fU (its j)) 0))) ex (q (n:Nat) (lW s (l++bY (λ j=>comp (its j) false) n) false (u||mh (λ j=>fU (its j)) n))) by
  have e1:l++bY (λ j=>comp (its j) false) 0=l:=awr _;have e2:(u||mh (λ j=>fU (its j)) 0)=u:=Bool.or_false _;rw[e1,e2]at key;exact key
 have auo:∀(j:Nat) (lj:List UInt8) (uj:Bool),j<n->lj.length+(comp (its j) false).length<=900000000->fG 1 bW c (q (j:Nat) (lW s lj false uj)) .normal (q ((j+1:Nat):Int) (lW s (lj++comp (its j) false) false (uj||fU (its j)))):=λ j lj uj hj hlj=>by
  obtain⟨m',h1,h2⟩:=zC (s:=s) (its j) (LU (its j) lj false uj) 4 (lW s lj false uj++[bx j]) lj false uj (λ m=>some ⟨.normal,q (aI ((j:Nat)+1)) (Mc m),.any⟩) (Sj s _ _ _ _) (ao5 _) (λ i _=>by rw[show(lW s lj false uj++[bx j]).length - 4+i=i by show 4 - 4+i=i;omega]) (hok j hj) hlj;refine jf hk aB av gG (afY _ _) bS aS ((hS (λ n=>((LU (its j) lj false uj).getD (n - 4) ([],false)).1) (λ n=>((LU (its j) lj false uj).getD (n - 4) ([],false)).2) lj uj j).trans ?_);rw[aum hj];refine h2.trans ?_;rw[h1.Mc,hbf,bD (by omega)]
 refine aU (λ j=>q (j:Nat) (lW s (l++bY (λ j=>comp (its j) false) j) false (u||mh (λ j=>fU (its j)) j))) n ex _ hex (λ j hj=>?_) ?_
 .have hle:=wu (E:=λ j=>comp (its j) false) (n:=n) (j:=j+1) (by omega)
  have hnx:(bY (λ j=>comp (its j) false) (j+1)).length=(bY (λ j=>comp (its j) false) j).length+(comp (its j) false).length:=uI;have hlen:(l++bY (λ j=>comp (its j) false) j).length=l.length+(bY (λ j=>comp (its j) false) j).length:=uI;have:=auo j (l++bY (λ j=>comp (its j) false) j) (u||mh (λ j=>fU (its j)) j) hj (by omega);rw[aiR,aAC]at this;exact this
 .refine jf hk2 aB av gG (afY (λ _=>[]) (λ _=>false)) bS aS ((hE (λ _=>[]) (λ _=>false) _ _).trans ?_)
  unfold qC;rw[bQ];rfl
section
variable(dc:Int->List UInt8)(tn:Nat->Int)(tb:Nat->Bool)(s:fT)
def skI(j:Nat):List SI:=[.w 90 [.agg (Hs.Sc.xB (s.K j)),iA (j:Nat)] (λ b=>iD b (skT dc (s.K j) (λ q=>s.K j (3+q)) (λ q=>s.K j (6+q)) (s.K j 9) (j:Nat))) false false]
def lmI(j:Nat):List SI:=[.w 91 [.agg (Hs.Sc.Ic (s.LA j) (s.LL j))] (λ b=>iD b (Vw dc tn (s.LA j) (s.LL j))) (vB tb (s.LA j) 0) false]
def sWr(k:Int):SI:=.w 93 [iA k] (λ b=>iD b [oK k]) false false
def shI(j:Nat):List SI:=[.w 92 [.agg (s.S j).c] (λ b=>tks b (yw dc tn (s.S j).k (s.S j).a)) (CX tb (s.S j).k (s.S j).a (s.S j).sk) true,sWr (s.S j).sk]
noncomputable def Za(j:Nat):List SI:=[.w 94 [.agg (s.O j).c] (λ b=>tks b (soT dc tn (s.O j).n (s.O j).P)) (O4 tb (s.O j).n (s.O j).P) true,sWr (s.O j).sk]
def feI(j:Nat):List SI:=[.w 95 [.agg (s.F j).c] (λ b=>tks b (Y9 dc tn (s.F j))) (JI tb (s.F j)) true,sWr (s.F j).sk]
def yH:List SI:=[ku Fe,sWh s.jE,Si]
def x0:List UInt8:=iD false (eyT dc tn s.eye)
def x1:List UInt8:=x0 dc tn s++comp (yH s) false
def x2:List UInt8:=x1 dc tn s++bY (λ j=>comp (skI dc s j) false) s.nK
def x3:List UInt8:=x2 dc tn s++bY (λ j=>comp (lmI dc tn tb s j) false) s.nL
def x4:List UInt8:=x3 dc tn tb s++bY (λ j=>comp (shI dc tn tb s j) false) s.nS
noncomputable def x5:List UInt8:=x4 dc tn tb s++bY (λ j=>comp (Za dc tn tb s j) false) s.nO
noncomputable def x6:List UInt8:=x5 dc tn tb s++bY (λ j=>comp (feI dc tn tb s j) false) s.nF
def w1:Bool:=GA tb s.eye||fU (yH s)
def w2:Bool:=w1 tb s||mh (λ j=>fU (skI dc s j)) s.nK
def w3:Bool:=w2 dc tb s||mh (λ j=>fU (lmI dc tn tb s j)) s.nL
def w4:Bool:=w3 dc tn tb s||mh (λ j=>fU (shI dc tn tb s j)) s.nS
noncomputable def w5:Bool:=w4 dc tn tb s||mh (λ j=>fU (Za dc tn tb s j)) s.nO
noncomputable def w6:Bool:=w5 dc tn tb s||mh (λ j=>fU (feI dc tn tb s j)) s.nF
structure ScN:Prop where
 e0:NV dc tn tb s.eye 0
 e3:NV dc tn tb s.eye 3
 e6:NV dc tn tb s.eye 6
 e9:Nu dc tn tb (s.eye 9)
 jE:Wh s.jE
 sk:∀j,j<s.nK->Wv oK (j:Nat)/\Wh (s.K j)/\Wh (λ q=>s.K j (3+q))/\Wh (λ q=>s.K j (6+q))/\FDc dc (s.K j 9)/\dc (s.K j 9)≠[]
 lm:∀j,j<s.nL->NV dc tn tb (s.LA j) 0/\Wh (s.LL j)
 sh:∀j,j<s.nS->ShN dc tn tb (s.S j).k (s.S j).a/\Wv oK (s.S j).sk
 so:∀j,j<s.nO->((1<=(s.O j).n/\(s.O j).n<=16)/\PM (s.O j).n (s.O j).P/\∀i,i<(s.O j).n->((s.O j).P i).op=0->ShN dc tn tb ((s.O j).P i).k ((s.O j).P i).a)/\Wv oK (s.O j).sk
 fd:∀j,j<s.nF->((JJ (s.F j).W/\ala (s.F j).W≠[])/\(JJ (s.F j).H/\ala (s.F j).H≠[])/\NV dc tn tb (s.F j).at_ 0/\Nu dc tn tb (s.F j).sd/\(s.F j).n<=1000/\∀q,q<(s.F j).n->FDc dc ((s.F j).hs q)/\dc ((s.F j).hs q)≠[])/\Wv oK (s.F j).sk
 few:s.nS<=1000/\s.nO<=1000/\s.nF<=1000/\s.nK<=1000/\s.nL<=1000
end
section
variable{dc:Int->List UInt8}{tn:Nat->Int}{tb:Nat->Bool}{s:fT}
theorem Ww{k:Int}(h:Wv oK k):(sWr k).ok:=⟨ait h,λ _=>rfl⟩
theorem ad8{l:List UInt8}{u:Bool}(h:cu bW 86 [.own 0 0,.agg (eyA s.eye)] (G7 false false) (.aN []) (pM l false u)):bP bW 86 [.own 0 0,.agg (eyA s.eye)] (G7 false false++[.c s.c]) (.aN []) (lW s l false u):=by
 refine xC (v:=.aN []) h [0] rfl rfl rfl (λ i j hi=>?_) ⟨λ j hj hl=>?_,λ i j r hi hr=>?_,λ i r hi hr=>?_⟩
 .match i,hi with
  | 0,hi=>simp at hi;subst hi;exact⟨_,rfl,rfl,rfl⟩
  |n+1,hi=>simp at hi
 .match j,hj,hl with
  | 0,hj,_=>exact absurd (by simp) hj
  | 1,_,_=>rfl
  |n+2,_,hl=>exact absurd hl (by show ¬n+2<2;omega)
 .match i,hi with
  | 0,hi=>simp at hi;subst hi;cases hr;rfl
  |n+1,hi=>simp at hi
 .match i,hi,hr with
  | 0,hi,_=>exact absurd hi (by show ¬ 1<=0;omega)
  | 1,_,hr=>cases hr;rfl
  |n+2,_,hr=>cases hr
theorem ad9{np:Nat}{P:Program}{c:Code}:nu np P (ny []) c:=λ _ _ _ _ _ h=>by cases h
theorem vW{np:Nat}{P:Program}{c:Code}{i:Nat}{g:dN}{l:List (Nat × dN)}(hg:nu np P (gu i g) c)(hl:nu np P (ny l) c):nu np P (ny ((i,g)::l)) c:=by
 intro c' hc j f hj hf;have hf:cond (ax0 j i) (some g) (ny l j)=some f:=hf;cases hb:ax0 j i
 .rw[hb,cond_false]at hf
  exact hl c' hc j f hj hf
 .rw[hb,cond_true]at hf
  refine hg c' hc j f hj ?_;unfold gu;rw[hb,cond_true];exact hf
theorem DY{np:Nat}{P:Program}{c:Code}{i:Nat}{g:dN}(q m:Nat)(hlen:(bC c).length=m)(hid:((av2 m).all λ j=>ax0 j q||!(isId (jA ((bC c).getD j .skip)) i))=true)(h:Dw np P ((bC c).getD q .skip) g):nu np P (gu i g) c :=
 zk m hlen λ j hj hf=>by
  have:=apB.1 hid j (ayA.2 hj);cases hb:ax0 j q
  .rw[hb,hf]at this
   simp[isId]at this
  .rw[Nat.eq_of_beq_eq_true hb]
   exact h
theorem Wx(h:ScN dc tn tb s)(hl:(x6 dc tn tb s).length<=900000):cu bW 31 [.own 0 0,.agg s.c] (G7 false false) (.aN []) (pM (x6 dc tn tb s) false (w6 dc tn tb s)):=by
 have l6:(x6 dc tn tb s).length=(x5 dc tn tb s).length+(bY (λ j=>comp (feI dc tn tb s j) false) s.nF).length:=uI;have l5:(x5 dc tn tb s).length=(x4 dc tn tb s).length+(bY (λ j=>comp (Za dc tn tb s j) false) s.nO).length:=uI;have l4:(x4 dc tn tb s).length=(x3 dc tn tb s).length+(bY (λ j=>comp (shI dc tn tb s j) false) s.nS).length:=uI;have l3:(x3 dc tn tb s).length=(x2 dc tn s).length+(bY (λ j=>comp (lmI dc tn tb s j) false) s.nL).length:=uI;have l2:(x2 dc tn s).length=(x1 dc tn s).length+(bY (λ j=>comp (skI dc s j) false) s.nK).length:=uI;have l1:(x1 dc tn s).length=(x0 dc tn s).length+(comp (yH s) false).length:=uI;have hf:=h.few;have hw:bP bW 86 [.own 0 0,.agg (eyA s.eye)] (G7 false false++[.c s.c]) (.aN []) (lW s (x0 dc tn s) false (GA tb s.eye)):=ad8 (JK h.e0 h.e3 h.e6 h.e9 (show(x0 dc tn s).length<=900000 by omega))
 have k1:=DZ (s:=s) (c:=au azz 0) (q:=q1 s) (n:=s.nK) (ex:=.exit 0) (kq:=kq1) (τ:=[some 0,some 1,some 4]) (by simp) (jI _ (by rfl)) (lT _ (by rfl)) (by omega) (skI dc s) (λ j=>.c (Hs.Sc.xB (s.K j))) _ (λ L U l u j=>aiu L U s l false u (j:Nat)) (λ L U l u=>am3 L U s l false u (s.nK:Nat))
  (λ j hj=>aJ ⟨aiv (h.sk j hj).1 (h.sk j hj).2.1 (h.sk j hj).2.2.1 (h.sk j hj).2.2.2.1 (h.sk j hj).2.2.2.2.1 (h.sk j hj).2.2.2.2.2,λ _=>rfl⟩ iO) (λ _=>rfl) (l:=x1 dc tn s) (u:=w1 tb s) (by omega)
 have k2:=DZ (s:=s) (c:=au azz 1) (q:=q2 s) (n:=s.nL) (ex:=.exit 2) (kq:=kq2) (τ:=[some 0,some 1,some 4]) (by simp) (jI _ (by rfl)) (lT _ (by rfl)) (by omega) (lmI dc tn tb s) (λ j=>.c (Hs.Sc.Ic (s.LA j) (s.LL j))) _ (λ L U l u j=>aiw L U s l false u (j:Nat)) (λ L U l u=>am4 L U s l false u (s.nL:Nat))
  (λ j hj=>aJ ⟨aix (h.lm j hj).1 (h.lm j hj).2,λ _=>rfl⟩ iO) (λ _=>rfl) (l:=x2 dc tn s) (u:=w2 dc tb s) (by omega)
 have k3:=DZ (s:=s) (c:=au azz 2) (q:=q3 s) (n:=s.nS) (ex:=.exit 4) (kq:=kq3) (τ:=[some 0,some 1,some 5]) (by simp) (jI _ (by rfl)) (lT _ (by rfl)) (by omega) (shI dc tn tb s) (λ j=>.c (s.S j).c) _ (λ L U l u j=>aiy L U s l false u (j:Nat)) (λ L U l u=>am5 L U s l false u (s.nS:Nat))
  (λ j hj=>aJ ⟨Sb (h.sh j hj).1,λ _=>rfl⟩ (aJ (Ww (h.sh j hj).2) iO)) (λ _=>rfl) (l:=x3 dc tn tb s) (u:=w3 dc tn tb s) (by omega)
 have k4:=DZ (s:=s) (c:=au azz 3) (q:=q4 s) (n:=s.nO) (ex:=.exit 6) (kq:=kq4) (τ:=[some 0,some 1,some 5]) (by simp) (jI _ (by rfl)) (lT _ (by rfl)) (by omega) (Za dc tn tb s) (λ j=>.c (s.O j).c) _ (λ L U l u j=>aiz L U s l false u (j:Nat)) (λ L U l u=>am6 L U s l false u (s.nO:Nat))
  (λ j hj=>aJ ⟨aea (h.so j hj).1.1.1 (h.so j hj).1.1.2 (h.so j hj).1.2.1 (h.so j hj).1.2.2,λ _=>rfl⟩ (aJ (Ww (h.so j hj).2) iO)) (λ _=>rfl) (l:=x4 dc tn tb s) (u:=w4 dc tn tb s) (by omega)
 have k5:=DZ (s:=s) (c:=au azz 4) (q:=q5 s) (n:=s.nF) (ex:=.exit 8) (kq:=kq5) (τ:=[some 0,some 1,some 5]) (by simp) (jI _ (by rfl)) (lT _ (by rfl)) (by omega) (feI dc tn tb s) (λ j=>.c (s.F j).c) _ (λ L U l u j=>aiA L U s l false u (j:Nat)) (λ L U l u=>am7 L U s l false u (s.nF:Nat))
  (λ j hj=>aJ ⟨aeb (h.fd j hj).1.1 (h.fd j hj).1.2.1 (h.fd j hj).1.2.2.1 (h.fd j hj).1.2.2.2.1 (h.fd j hj).1.2.2.2.2.1 (h.fd j hj).1.2.2.2.2.2,λ _=>rfl⟩ (aJ (Ww (h.fd j hj).2) iO)) (λ _=>rfl) (l:=x5 dc tn tb s) (u:=w5 dc tn tb s) (by omega)
 obtain⟨m',hm1,hm2⟩:=zC (s:=s) (yH s) (LU (yH s) (x0 dc tn s) false (GA tb s.eye)) 3 (lW s (x0 dc tn s) false (GA tb s.eye)) (x0 dc tn s) false (GA tb s.eye) (λ _=>fD (.aN []) (pM (x6 dc tn tb s) false (w6 dc tn tb s))) (by have:=Sj s (x0 dc tn s) false (GA tb s.eye) [];rwa [awr]at this) (ao5 _) (λ i _=>by rw[show(lW s (x0 dc tn s) false (GA tb s.eye)).length - 3+i=i by show 3 - 3+i=i;omega])
  (aJ (fq (by simp[Fe])) <|aJ (JL h.jE) <|aJ D5 iO) (by omega)
 have e5:(LU (yH s) (x0 dc tn s) false (GA tb s.eye)).getD (5 - 3) ([],false)=(x1 dc tn s,w1 tb s):=by
  unfold x1 w1;simp[LU,yH]
 have hL:nu 1 bW (scL (λ n=>((LU (yH s) (x0 dc tn s) false (GA tb s.eye)).getD (n - 3) ([],false)).1) (λ n=>((LU (yH s) (x0 dc tn s) false (GA tb s.eye)).getD (n - 3) ([],false)).2) s (x2 dc tn s) (x3 dc tn tb s) (x4 dc tn tb s) (x5 dc tn tb s) (x6 dc tn tb s) (w2 dc tb s) (w3 dc tn tb s) (w4 dc tn tb s) (w5 dc tn tb s) (w6 dc tn tb s)) (dG azz):=by
  refine vW (DY 0 5 (by kernel_rfl) (by kernel_rfl) (jy (by rfl) ?_)) <|vW (DY 1 5 (by kernel_rfl) (by kernel_rfl) (jy (by rfl) k2)) <|vW (DY 2 5 (by kernel_rfl) (by kernel_rfl) (jy (by rfl) k3)) <|vW (DY 3 5 (by kernel_rfl) (by kernel_rfl) (jy (by rfl) k4)) <|vW (DY 4 5 (by kernel_rfl) (by kernel_rfl) (jy (by rfl) k5)) ad9;show fG 1 bW _ (q1 s 0 (lW s ((LU (yH s) (x0 dc tn s) false (GA tb s.eye)).getD (5 - 3) ([],false)).1 false ((LU (yH s) (x0 dc tn s) false (GA tb s.eye)).getD (5 - 3) ([],false)).2)) _ _;rw[e5];exact k1
 refine bM aB av gG (aC aX (aC bX (aC bX (aC bX bJ)))) bS Tryz.func31 (by kernel_rfl) (by kernel_rfl) (mem:=G7 false false) hL rfl (τ:=[some 0,some 2]) (by rfl) ((aec (λ n=>((LU (yH s) (x0 dc tn s) false (GA tb s.eye)).getD (n - 3) ([],false)).1) (λ n=>((LU (yH s) (x0 dc tn s) false (GA tb s.eye)).getD (n - 3) ([],false)).2) s (x0 dc tn s) (x2 dc tn s) (x3 dc tn tb s) (x4 dc tn tb s) (x5 dc tn tb s) (x6 dc tn tb s) (GA tb s.eye) (w2 dc tb s) (w3 dc tn tb s) (w4 dc tn tb s) (w5 dc tn tb s) (w6 dc tn tb s)).trans ?_);rw[fH hw,ah (iV.refl _),ah (iV.refl _),ah (iV.refl _),ah (iV.refl _),ah (iV.refl _)];exact hm2
end
end Go.Proofs.YtefphimaggjihaaGreatDoor.Pi
namespace Go.Proofs.YtefphimaggjihaaGreatDoor
open Go.Shelf
def Tryz.lays169_ren:Go.Shelf.Ren:=⟨λ | 169=>32 |n=>n,λ | 0=>0 | 3=>3 | 5=>5 | 9=>9 | 37=>78 | 70=>77 | 72=>80 | 127=>135 |n=>n,λ  |n=>n⟩
theorem Tryz.lays169:Go.Proofs.Lays.n169 bW Tryz.lays169_ren:={
 mixed:=by kernel_rfl
 f169:=aC4.trans (congrArg some (by kernel_rfl))
 t0:=Tryz.underlying0
 a0:=Tryz.isAgg0
 z0:=Tryz.sizeOf0
 v0:=Tryz.zeroValue0
 t3:=Tryz.underlying3
 a3:=Tryz.isAgg3
 z3:=Tryz.sizeOf3
 v3:=Tryz.zeroValue3
 t9:=aAw
 a9:=Tryz.isAgg9
 z9:=Tryz.sizeOf9
 v9:=Tryz.zeroValue9
 t37:=Tryz.underlying78
 a37:=Tryz.isAgg78
 z37:=Tryz.sizeOf78
 v37:=Tryz.zeroValue78
 t70:=Tryz.underlying77
 a70:=Tryz.isAgg77
 z70:=Tryz.sizeOf77
 v70:=Tryz.zeroValue77
 t72:=Tryz.underlying80
 a72:=Tryz.isAgg80
 z72:=Tryz.sizeOf80
 v72:=Tryz.zeroValue80
 t127:=Tryz.underlying135
 a127:=Tryz.isAgg135
 z127:=Tryz.sizeOf135
 v127:=Tryz.zeroValue135
}
end Go.Proofs.YtefphimaggjihaaGreatDoor
namespace Go.Proofs.YtefphimaggjihaaGreatDoor.Pi
open Go.Shelf Go.RowKit Go.Gv
theorem Qa(w:World)(g n:Nat):w.grownBy (w.drew.freeze ⟨g,0,none⟩ n) (some g):=by
 unfold World.freeze;split
 .exact⟨rfl,rfl,rfl,ao5 _,λ _ _ _=>rfl⟩
 .refine⟨rfl,rfl,rfl,by simp,λ k _ hk=>?_⟩
  have hne:g≠k:=λ e=>hk (by rw[e]);show(w.heap.modify g _)[k]?=_;rw[Array.getElem?_modify,if_neg hne]
theorem XF(b g cap:Nat)(p y0 y1:Value)(cur:Array Value)(l:List UInt8)(w:World)(h0:l≠[])(hbk:w.heap[b]?=some (.cells #[p,.slice (some ⟨g,0,none⟩) l.length cap,y0,y1] 82 (0,0)))
  (hg:w.heap[g]?=some (.cells cur 5 (0,0))) (hcap:l.length<=cap) (hsz:cur.size=cap) (hcm:cap<=maxLen) (hel:∀(j:Nat) (x:UInt8),l[j]?=some x->cur[j]?=some (.int .u8 (x.toNat:Nat))) :
  Calls bW 32 #[.pointer (some ⟨b,0,none⟩)] w λ e w'=>e=.returned (.string ⟨l.toArray⟩)/\w'=w.drew.freeze ⟨g,0,none⟩ l.length:=by
 have hl0:l.length≠0:=by simpa using h0
 have c1:w.drew.cell? ⟨b,1,none⟩=some (.slice (some ⟨g,0,none⟩) l.length cap):=by
  have h:w.drew.heap[b]?=some (.cells #[p,.slice (some ⟨g,0,none⟩) l.length cap,y0,y1] 82 (0,0)):=hbk;rw[aDT h];rfl
 have hSD:(Builtin.unsafeSliceData_ #[78] 135 #[.slice (some ⟨g,0,none⟩) l.length cap]).run bW w.drew=.ok (.pointer (some ⟨g,0,none⟩)) w.drew :=
  Lib.run_unsafeSliceData_row _ _ _ _ _ _ (by omega)
 have hUS:(Builtin.unsafeString_ #[135,3] 9 #[.pointer (some ⟨g,0,none⟩),.int .i64 l.length]).run bW w.drew=.ok (.string ⟨l.toArray⟩) (w.drew.freeze ⟨g,0,none⟩ l.length):=by
  have hg':w.drew.heap[g]?=some (.cells cur 5 (0,0)):=hg;refine Lib.run_unsafeString_row w.drew 135 3 9 5 Tryz.underlying135 (by kernel_rfl) g cur.size (by simp[World.shape?,hg']) l h0 (by omega) (by unfold maxLen at hcm;omega) ?_;intro j x hx;rw[Addr.add_lit,aDT hg'];simpa using hel j x hx
 have ayi:=Tryz.lays169;have u80:=run_underlying Tryz.underlying80;have u77:=run_underlying Tryz.underlying77;have u78:=run_underlying Tryz.underlying78;have ayj:=run_underlying Tryz.underlying135;have u3:=run_underlying Tryz.underlying3;have u9:=run_underlying aAw;have u5:=run_underlying Tryz.underlying5
 go_enter aC4,Tryz.ntmps32
 go_wp2
 go_region
 all_goals (go_wp2;go_ret;exact⟨rfl,rfl⟩)
theorem afK{mem:List Row}{k k2:Nat}{P0 Y0 Y1:AV}{l:List UInt8}(hk:mem[k]?=some (.t 82 [P0,.fJ k2 1 0 l.length,Y0,Y1]))(hk2:mem[k2]?=some (bR l))(h0:l≠[]):bP bW 32 [.own k 0] mem (zA (lB l)) (mem.set k2 .dead):=by
 refine⟨⟨_,aC4,by kernel_rfl,by kernel_rfl⟩,λ A0 R w0 E aZ hW hgl hr=>?_⟩;obtain⟨u0,t0,e0,r0,hr⟩:=aH.1 hr;have e1:=bK.1 hr;subst e1;obtain⟨b,c,hO,rfl⟩:=jh.1 r0;have ec:aZ=#[.pointer (some ⟨b,0,none⟩)]:=by apply Array.ext';simpa using e0
 subst ec;obtain⟨row,hrow,hrel⟩:=hW.rows k b c hO;rw[hk]at hrow;cases hrow;obtain⟨cs,hcs,hpre,hsz⟩:=hrel;obtain⟨p,us,e2,rp,hpre⟩:=bE.1 hpre;obtain⟨v,us1,e3,rv,hpre⟩:=bE.1 hpre;obtain⟨y0,us2,e4,ry0,hpre⟩:=bE.1 hpre;obtain⟨y1,us3,e5,ry1,_⟩:=bE.1 hpre
 have hus:us3=[]:=by
  have:=congrArg List.length e2;rw[e3,e4,e5]at this;simp only[Array.length_toList,anE,hsz]at this;exact List.eq_nil_of_length_eq_zero (by simpa using this.symm)
 subst hus e5 e4 e3;have hcs2:cs=#[p,v,y0,y1]:=by apply Array.ext';simpa using e2
 subst hcs2;have hl0:l.length≠0:=by simpa using h0
 rcases fM.1 rv with⟨_,h,_⟩ | ⟨g,cap,n,hO2,hn1,hn2,rfl⟩
 .exact absurd h hl0
 obtain⟨avV,hrow2,aup⟩:=hW.rows k2 g (cap,n) hO2;rw[hk2]at hrow2;cases hrow2;obtain⟨cur,hcur,hcz,hn,hnc,hcm,hel⟩:=aup;have hn:n=l.length:=hn;subst hn;have hlive:aK mem k2=true:=by unfold aK;rw[hk2];rfl
 refine(XF b g cap p y0 y1 cur l E.w h0 (by simpa using hcs) hcur hn2 (by simpa using hcz) hcm ?_).mono ?_
 .intro j x hx
  have hj:j<l.length:=(aj8.1 hx).1;obtain⟨u,us,e4,r4,_⟩:=bE.1 (hel j hj).2;have e5:=bI.1 r4
  have e6:cur.toList[j]?=some u:=by
   have:=congrArg (λ l:List Value=>l[0]?) e4;simpa using this
  rw[<-Array.getElem?_toList,e6,e5,amh,hx];rfl
 .rintro e w' ⟨rfl,rfl⟩
  have hg:=Qa E.w g l.length;obtain⟨hA,hR⟩:=hW.own k2 g (cap,l.length) hO2 hlive;have hlt:g<E.w.heap.size:=hW.small g hA;refine⟨_,E.row (E.w.drew.freeze ⟨g,0,none⟩ l.length) k2 g (cap,l.length),rfl,rfl,Env.kN hg (ER hA) (aaH hO2),?_,bI.2 rfl⟩;refine hW.row (VT:=.dead) hg (ayB hlt hg.size) hR (ER hA) (aaH hO2) (List.getElem?_set_self (aj8.1 hk2).1) (λ k' hk' b' c' hb'=>ER ⟨ay9 (λ h=>hk' h.symm),λ hl e=>?_⟩) trivial;subst e;exact hk' (hW.one k' k2 b' c' (cap,l.length) hb' hO2 hl hlive)
open Hs.Sc (fT)
section
variable(s:fT)(l:List UInt8)(u:Bool)(e:Int)
def atX:List Row:=[.c s.c,.t 82 [.x (.pointer none),.x (.slice none 0 0),bA false,bA false]]
def pnM:List Row:=[.c s.c,.t 82 [.own 1 0,.fJ 2 1 0 l.length,bA false,bA u],bR l]
def pnD:List Row:=[.c s.c,.t 82 [.own 1 0,.fJ 2 1 0 l.length,bA false,bA u],.dead]
noncomputable def pnW:List bH:=[wQ bW 31 (λ _ _=>.aN []) (λ _ _=>pnM s l u),wQ bW 32 (λ _ _=>zA (lB l)) (λ _ _=>pnD s l u)]
theorem alx:evW bW [] [kS bW 14 λ _=>iA e] [typed 82] (pnW s l u) [] aM Tryz.f12 [.agg s.c] ret =
 gate (aj bW 14 [.agg s.c] (iA e)) (cond (!(e==0)) (some (Out.of (.aN [zA ⟨#[]⟩,iA e])))
  (cond (iY (bP bW 31 [.own 1 0,.agg s.c] (atX s) (.aN []) (pnM s l u))) (cond u (some (Out.of (.aN [zA ⟨#[]⟩,iA 11])))
   (cond (iY (bP bW 32 [.own 1 0] (pnM s l u) (zA (lB l)) (pnD s l u))) (some (Out.of (.aN [zA (lB l),iA 0]))) none)) none)):=by kernel_rfl
end
open Hs.Sc (yK Im)
theorem Nc{s:fT}(h:yK s≠0):aj bW 12 [.agg s.c] (.aN [zA ⟨#[]⟩,iA (yK s)]):=by
 refine afJ aB (ak aD av) (jl (TS _) bO) (aC aX (aC aX bJ)) bS aEK (by kernel_rfl) (by kernel_rfl) aA rfl ((alx s [] false (yK s)).trans ?_);rw[ah (Im s),beq_false_of_ne h];rfl
section
variable{dc:Int->List UInt8}{tn:Nat->Int}{tb:Nat->Bool}{s:fT}
theorem XA{l:List UInt8}{u:Bool}(h:cu bW 31 [.own 0 0,.agg s.c] (G7 false false) (.aN []) (pM l false u)):bP bW 31 [.own 1 0,.agg s.c] (atX s) (.aN []) (pnM s l u):=by
 refine xC (v:=.aN []) h [1] rfl rfl ?_ (λ i j hi=>?_) ⟨λ j hj hl=>?_,λ i j r hi hr=>?_,λ i r hi hr=>?_⟩
 .rfl
 .match i,hi with
  | 0,hi=>simp at hi;subst hi;exact⟨_,rfl,rfl,rfl⟩
  |n+1,hi=>simp at hi
 .match j,hj,hl with
  | 0,_,_=>rfl
  | 1,hj,_=>exact absurd (by simp) hj
  |n+2,_,hl=>exact absurd hl (by show ¬n+2<2;omega)
 .match i,hi with
  | 0,hi=>simp at hi;subst hi;cases hr;rfl
  |n+1,hi=>simp at hi
 .match i,hi,hr with
  | 0,hi,_=>exact absurd hi (by show ¬ 1<=0;omega)
  | 1,_,hr=>cases hr;rfl
  |n+2,_,hr=>cases hr
theorem atY:x0 dc tn s≠[]:=by
 unfold x0 iD eyT;simp[Fb]
theorem atZ:x6 dc tn tb s≠[]:=λ h=>atY (dc:=dc) (tn:=tn) (s:=s) (by
 unfold x6 x5 x4 x3 x2 x1 at h;simp only[aBa]at h;exact h.1.1.1.1.1.1)
theorem Vy(h0:yK s=0)(h:ScN dc tn tb s)(hl:(x6 dc tn tb s).length<=900000):aj bW 12 [.agg s.c] (cond (w6 dc tn tb s) (.aN [zA ⟨#[]⟩,iA 11]) (.aN [zA (lB (x6 dc tn tb s)),iA 0])):=by
 have hm:=Im s;rw[h0]at hm;have hw:=XA (Wx h hl);have hS:bP bW 32 [.own 1 0] (pnM s (x6 dc tn tb s) (w6 dc tn tb s)) (zA (lB (x6 dc tn tb s))) (pnD s (x6 dc tn tb s) (w6 dc tn tb s)):=afK (mem:=pnM s (x6 dc tn tb s) (w6 dc tn tb s)) (k:=1) (k2:=2) rfl rfl atZ;refine afJ aB (ak aD av) (jl (TS _) bO) (aC aX (aC aX bJ)) bS aEK (by kernel_rfl) (by kernel_rfl) aA rfl ((alx s (x6 dc tn tb s) (w6 dc tn tb s) 0).trans ?_);rw[ah hm,fH hw,fH hS];cases w6 dc tn tb s<;>rfl
end
end Go.Proofs.YtefphimaggjihaaGreatDoor.Pi
namespace Go.Gv
open Go.RowKit Go.Ev
noncomputable def Aa(j:Nat)(v:Int):mg:=λ s k=>match s.slots[j]? with
 |some (.x (.int .u64 n),c)=>gate (n=v) (k ⟨s.slots.set j (.x (.int .u64 v),c),s.mem⟩)
 |_=>none
theorem agH{np:Nat}(j:Nat)(v:Int):fZ np (Aa j v):=λ s k r h=>by
 unfold Aa at h;split at h
 .rename_i n c hm
  obtain⟨hp,h⟩:=gY h;subst hp
  have e:s.slots.set j (.x (.int .u64 n),c)=s.slots:=by
   obtain⟨hl,he⟩:=aj8.1 hm;rw[<-he];exact List.set_getElem_self hl
  rw[e]at h;exact⟨s,h,iV.refl s⟩
 .cases h
end Go.Gv
namespace Go.Proofs.YtefphimaggjihaaGreatDoor.Pi
open Go.Shelf Go.RowKit Go.Gv
def gFb:List AV->AV
 | [.f w]=>.x (.int .u64 (w:Int))
 |_=>.any
def cFb(nn:Nat->Bool):List AV->Bool
 | [.f w]=>nn w
 |_=>false
def gFf(ff:Int->Nat):List AV->AV
 | [.x (.int .u64 n)]=>.f (ff n)
 |_=>.any
def cFf:List AV->Bool
 | [.x (.int .u64 _)]=>true
 |_=>false
def A8(nn:Nat->Bool):aV:=kIf 197 (cFb nn) gFb
def A9(ff:Int->Nat):aV:=kIf 198 cFf (gFf ff)
def uB(op:BitVec 64->BitVec 64->BitVec 64)(x y:Int):Int:=aAR.wrap ((op (aAc 64 x) (aAc 64 y)).toNat:Nat)
def ab2(x y:Int):Int:=uB (λ a b=>a &&& b) x y
def uOr(x y:Int):Int:=uB (λ a b=>a |||b) x y
def uAn(x y:Int):Int:=uB (λ a b=>a &&& ~~~b) x y
section
variable(w:Nat)(ff:Int->Nat)(nn:Nat->Bool)
def rE(w:Nat):Int:=ab2 ((w:Int).fdiv (2 ^ 52)) 2047
noncomputable def rG(e c1 c2:Int):Option Out:=cond (nn w) (cond (decide (rE w<1023)) (cond (rE w==1022) (some (Out.of (.f (ff (uOr (ab2 w 9223372036854775808) 4607182418800017408))))) (some (Out.of (.f (ff (ab2 w 9223372036854775808))))))
   (cond (decide (rE w<1075)) (gate (aAR.wrap (rE w - 1023)=e) (some (Out.of (.f (ff (uAn (aAR.wrap ((w:Int)+c1)) c2))))))
     (some (Out.of (.f (ff (w:Int))))))) none
theorem rd0:qQ bW [] [A8 nn,A9 ff] [] aM (iH 9 (Aa 4 0)) ayy [.f w] ret=rG w ff nn 0 2251799813685248 4503599627370495:=by kernel_rfl
theorem rd1:qQ bW [] [A8 nn,A9 ff] [] aM (iH 9 (Aa 4 1)) ayy [.f w] ret=rG w ff nn 1 1125899906842624 2251799813685247:=by kernel_rfl
theorem rd2:qQ bW [] [A8 nn,A9 ff] [] aM (iH 9 (Aa 4 2)) ayy [.f w] ret=rG w ff nn 2 562949953421312 1125899906842623:=by kernel_rfl
theorem rd3:qQ bW [] [A8 nn,A9 ff] [] aM (iH 9 (Aa 4 3)) ayy [.f w] ret=rG w ff nn 3 281474976710656 562949953421311:=by kernel_rfl
theorem rd4:qQ bW [] [A8 nn,A9 ff] [] aM (iH 9 (Aa 4 4)) ayy [.f w] ret=rG w ff nn 4 140737488355328 281474976710655:=by kernel_rfl
theorem rd5:qQ bW [] [A8 nn,A9 ff] [] aM (iH 9 (Aa 4 5)) ayy [.f w] ret=rG w ff nn 5 70368744177664 140737488355327:=by kernel_rfl
theorem Nb:qQ bW [] [A8 nn,A9 ff] [] aM (iH 9 (Aa 4 6)) ayy [.f w] ret=rG w ff nn 6 35184372088832 70368744177663:=by kernel_rfl
theorem rd7:qQ bW [] [A8 nn,A9 ff] [] aM (iH 9 (Aa 4 7)) ayy [.f w] ret=rG w ff nn 7 17592186044416 35184372088831:=by kernel_rfl
theorem rd8:qQ bW [] [A8 nn,A9 ff] [] aM (iH 9 (Aa 4 8)) ayy [.f w] ret=rG w ff nn 8 8796093022208 17592186044415:=by kernel_rfl
theorem rd9:qQ bW [] [A8 nn,A9 ff] [] aM (iH 9 (Aa 4 9)) ayy [.f w] ret=rG w ff nn 9 4398046511104 8796093022207:=by kernel_rfl
theorem aw0:qQ bW [] [A8 nn,A9 ff] [] aM (iH 9 (Aa 4 10)) ayy [.f w] ret=rG w ff nn 10 2199023255552 4398046511103:=by kernel_rfl
theorem aw1:qQ bW [] [A8 nn,A9 ff] [] aM (iH 9 (Aa 4 11)) ayy [.f w] ret=rG w ff nn 11 1099511627776 2199023255551:=by kernel_rfl
theorem aw2:qQ bW [] [A8 nn,A9 ff] [] aM (iH 9 (Aa 4 12)) ayy [.f w] ret=rG w ff nn 12 549755813888 1099511627775:=by kernel_rfl
theorem aw3:qQ bW [] [A8 nn,A9 ff] [] aM (iH 9 (Aa 4 13)) ayy [.f w] ret=rG w ff nn 13 274877906944 549755813887:=by kernel_rfl
theorem aw4:qQ bW [] [A8 nn,A9 ff] [] aM (iH 9 (Aa 4 14)) ayy [.f w] ret=rG w ff nn 14 137438953472 274877906943:=by kernel_rfl
theorem aw5:qQ bW [] [A8 nn,A9 ff] [] aM (iH 9 (Aa 4 15)) ayy [.f w] ret=rG w ff nn 15 68719476736 137438953471:=by kernel_rfl
theorem aw6:qQ bW [] [A8 nn,A9 ff] [] aM (iH 9 (Aa 4 16)) ayy [.f w] ret=rG w ff nn 16 34359738368 68719476735:=by kernel_rfl
theorem aw7:qQ bW [] [A8 nn,A9 ff] [] aM (iH 9 (Aa 4 17)) ayy [.f w] ret=rG w ff nn 17 17179869184 34359738367:=by kernel_rfl
theorem aw8:qQ bW [] [A8 nn,A9 ff] [] aM (iH 9 (Aa 4 18)) ayy [.f w] ret=rG w ff nn 18 8589934592 17179869183:=by kernel_rfl
theorem aw9:qQ bW [] [A8 nn,A9 ff] [] aM (iH 9 (Aa 4 19)) ayy [.f w] ret=rG w ff nn 19 4294967296 8589934591:=by kernel_rfl
theorem axa:qQ bW [] [A8 nn,A9 ff] [] aM (iH 9 (Aa 4 20)) ayy [.f w] ret=rG w ff nn 20 2147483648 4294967295:=by kernel_rfl
theorem axb:qQ bW [] [A8 nn,A9 ff] [] aM (iH 9 (Aa 4 21)) ayy [.f w] ret=rG w ff nn 21 1073741824 2147483647:=by kernel_rfl
theorem axc:qQ bW [] [A8 nn,A9 ff] [] aM (iH 9 (Aa 4 22)) ayy [.f w] ret=rG w ff nn 22 536870912 1073741823:=by kernel_rfl
theorem axd:qQ bW [] [A8 nn,A9 ff] [] aM (iH 9 (Aa 4 23)) ayy [.f w] ret=rG w ff nn 23 268435456 536870911:=by kernel_rfl
theorem axe:qQ bW [] [A8 nn,A9 ff] [] aM (iH 9 (Aa 4 24)) ayy [.f w] ret=rG w ff nn 24 134217728 268435455:=by kernel_rfl
theorem axf:qQ bW [] [A8 nn,A9 ff] [] aM (iH 9 (Aa 4 25)) ayy [.f w] ret=rG w ff nn 25 67108864 134217727:=by kernel_rfl
theorem axg:qQ bW [] [A8 nn,A9 ff] [] aM (iH 9 (Aa 4 26)) ayy [.f w] ret=rG w ff nn 26 33554432 67108863:=by kernel_rfl
theorem axh:qQ bW [] [A8 nn,A9 ff] [] aM (iH 9 (Aa 4 27)) ayy [.f w] ret=rG w ff nn 27 16777216 33554431:=by kernel_rfl
theorem axi:qQ bW [] [A8 nn,A9 ff] [] aM (iH 9 (Aa 4 28)) ayy [.f w] ret=rG w ff nn 28 8388608 16777215:=by kernel_rfl
theorem axj:qQ bW [] [A8 nn,A9 ff] [] aM (iH 9 (Aa 4 29)) ayy [.f w] ret=rG w ff nn 29 4194304 8388607:=by kernel_rfl
theorem axk:qQ bW [] [A8 nn,A9 ff] [] aM (iH 9 (Aa 4 30)) ayy [.f w] ret=rG w ff nn 30 2097152 4194303:=by kernel_rfl
theorem axl:qQ bW [] [A8 nn,A9 ff] [] aM (iH 9 (Aa 4 31)) ayy [.f w] ret=rG w ff nn 31 1048576 2097151:=by kernel_rfl
theorem agI:∀k:Nat,k<32->qQ bW [] [A8 nn,A9 ff] [] aM (iH 9 (Aa 4 (k:Nat))) ayy [.f w] ret=rG w ff nn (k:Nat) ((2 ^ (51 - k):Nat):Int) ((2 ^ (52 - k) - 1:Nat):Int):=λ k hk=>by
 match k,hk with
 | 0,_=>exact rd0 w ff nn
 | 1,_=>exact rd1 w ff nn
 | 2,_=>exact rd2 w ff nn
 | 3,_=>exact rd3 w ff nn
 | 4,_=>exact rd4 w ff nn
 | 5,_=>exact rd5 w ff nn
 | 6,_=>exact Nb w ff nn
 | 7,_=>exact rd7 w ff nn
 | 8,_=>exact rd8 w ff nn
 | 9,_=>exact rd9 w ff nn
 | 10,_=>exact aw0 w ff nn
 | 11,_=>exact aw1 w ff nn
 | 12,_=>exact aw2 w ff nn
 | 13,_=>exact aw3 w ff nn
 | 14,_=>exact aw4 w ff nn
 | 15,_=>exact aw5 w ff nn
 | 16,_=>exact aw6 w ff nn
 | 17,_=>exact aw7 w ff nn
 | 18,_=>exact aw8 w ff nn
 | 19,_=>exact aw9 w ff nn
 | 20,_=>exact axa w ff nn
 | 21,_=>exact axb w ff nn
 | 22,_=>exact axc w ff nn
 | 23,_=>exact axd w ff nn
 | 24,_=>exact axe w ff nn
 | 25,_=>exact axf w ff nn
 | 26,_=>exact axg w ff nn
 | 27,_=>exact axh w ff nn
 | 28,_=>exact axi w ff nn
 | 29,_=>exact axj w ff nn
 | 30,_=>exact axk w ff nn
 | 31,_=>exact axl w ff nn
 |n+32,h=>exact absurd h (by omega)
end
def bB(op:BitVec 64->BitVec 64->BitVec 64)(x y:Int):Int:=(((op (aAc 64 x) (aAc 64 y)).toNat:Nat):Int)
theorem agJ{n:Int}(h0:0<=n)(h1:n<18446744073709551616):aAR.wrap n=n:=by
 have e:aAR.wrap n=n % 18446744073709551616:=by
  unfold IntKind.wrap;simp only[IntKind.bits,IntKind.signed,Bool.false_and];rfl
 rw[e];omega
theorem agK(op:BitVec 64->BitVec 64->BitVec 64)(x y:Int):uB op x y=bB op x y:=by
 unfold uB bB;exact agJ (by omega) (by have:=(op (aAc 64 x) (aAc 64 y)).isLt;omega)
theorem F3{x:Nat}(h:x<2 ^ 64):(aAc 64 (x:Int)).toNat=x:=by
 rw[BitVec.toNat_ofInt];omega
theorem ake{x:Nat}(h:x<2 ^ 64):bB (λ a b=>a &&& b) (x:Int) 2047=((x % 2048:Nat):Int):=by
 unfold bB;rw[aBU,F3 h,show(2047:Int)=((2047:Nat):Int) from rfl,F3 (by decide)];congr 1;exact Nat.and_two_pow_sub_one_eq_mod x 11
theorem akf{x:Nat}(h:x<2 ^ 64):bB (λ a b=>a &&& b) (x:Int) 9223372036854775808=((x / 9223372036854775808*9223372036854775808:Nat):Int):=by
 unfold bB;rw[aBU,F3 h,show(9223372036854775808:Int)=((9223372036854775808:Nat):Int) from rfl,F3 (by decide)];congr 1;apply aAp;intro i;rw[show x / 9223372036854775808*9223372036854775808=(x >>> 63) <<< 63 by rw[ayC,azT],aCT,aCK,aEf,show(9223372036854775808:Nat)=2 ^ 63 from rfl,aBx];by_cases hi:i<63
 .simp[aFg.2 hi,show ¬ 63=i by omega]
 .by_cases h63:i=63
  .subst h63;simp
  .have:x.testBit i=false:=aAd (ayB h (as5 (by decide) (by omega)))
   rw[show 63+(i - 63)=i by omega,this];simp
theorem apN{x q:Nat}(h:x<2 ^ 64)(hq:q<=52):bB (λ a b=>a &&& ~~~b) (x:Int) ((2 ^ q - 1:Nat):Int)=((x / 2 ^ q*2 ^ q:Nat):Int):=by
 unfold bB;congr 1;have hp:2 ^ q<=2 ^ 52:=as5 (by decide) hq;have h0:0<2 ^ q:=acy q;apply aAp;intro i;rw[show x / 2 ^ q*2 ^ q=(x >>> q) <<< q by rw[ayC,azT],aCT,aCK];rw[aBU,aEf,F3 h,aCz,BitVec.getLsbD_not,<-aCz,F3 (by omega),Nat.testBit_two_pow_sub_one];by_cases hi:i<q
 .simp[hi,aFg.2 hi]
 .rw[decide_eq_false hi,decide_eq_true (show i≥q by omega)]
  by_cases h64:i<64
  .rw[decide_eq_true h64];simp;congr 1;omega
  .have:x.testBit i=false:=aAd (ayB h (as5 (by decide) (by omega)))
   rw[show q+(i - q)=i by omega,this];simp
def kY(w:Nat):Nat:=if w / 2 ^ 52 % 2048<1023 then(if w / 2 ^ 52 % 2048=1022 then w / 9223372036854775808*9223372036854775808+4607182418800017408 else w / 9223372036854775808*9223372036854775808)else(w+2 ^ (1074 - w / 2 ^ 52 % 2048)) / 2 ^ (1075 - w / 2 ^ 52 % 2048)*2 ^ (1075 - w / 2 ^ 52 % 2048)
open Go.Ev (cn aL)
def nnF(w:Nat):Bool:=!(aL w)&&decide (w<18446744073709551616)
theorem akg{b w:Nat}(h:cn b=w)(hn:aL w=false):b=w:=by
 unfold cn at h;cases hb:aL b
 .rw[hb]at h;exact h
 .rw[hb]at h
  have h:Go.Ev.uP=w:=h;subst h;exact absurd hn (by decide +kernel)
theorem axm{w:Nat}(hn:aL w=false):EF bW 197 [.f w] (.x (.int .u64 (w:Int))):=λ E aZ hv=>by
 obtain⟨l⟩:=aZ;obtain⟨v,t,e1,h1,h2⟩:=aH.1 hv;have e2:=bK.1 h2;obtain⟨b,rfl,hb⟩:=jB.1 h1;obtain rfl:=akg hb hn;have e3:l=[.float .f64 b]:=by rw[e2]at e1;exact e1
 subst e3;refine⟨.int .u64 b,E.w,?_,ER rfl,bI.2 rfl⟩;rw[run_callFunc_extern Tryz.func197 (by kernel_rfl) rfl (by kernel_rfl) (e:=Extern.MathFloatBits.float64bits) (by kernel_rfl)];rfl
theorem axn(n:Int):EF bW 198 [.x (.int .u64 n)] (.f (cn n.toNat)):=λ E aZ hv=>by
 obtain⟨l⟩:=aZ;obtain⟨v,t,e1,h1,h2⟩:=aH.1 hv;have e2:=bK.1 h2;have e0:=bI.1 h1;subst e0;have e3:l=[.int .u64 n]:=by rw[e2]at e1;exact e1
 subst e3;refine⟨.float .f64 n.toNat,E.w,?_,ER rfl,jB.2 ⟨_,rfl,rfl⟩⟩;rw[run_callFunc_extern Tryz.func198 (by kernel_rfl) rfl (by kernel_rfl) (e:=Extern.MathFloatBits.float64frombits) (by kernel_rfl)];rfl
theorem alG{P:Program}{f:Nat}{c:List AV->Bool}{g:List AV->AV}(h:∀args,c args=true->EF P f args (g args)):tO P (kIf f c g):=by
 constructor
 .intro args k o ho
  simp only[kIf]at ho ⊢;cases hc:c args
  .rw[hc]at ho;cases ho
  .rw[hc]at ho
   exact⟨g args,ho,λ k'=>rfl⟩
 .intro args v hv
  have h1:=hv λ x=>some (Out.of x);simp only[kIf]at h1;cases hc:c args
  .rw[hc]at h1;cases h1
  .rw[hc]at h1
   simp only[cond_true,jN,Out.of,Out.mk.injEq,true_and]at h1;subst h1;exact aaH (h args hc)
theorem agL:tO bW (A8 nnF):=alG λ args h=>by
 unfold cFb at h;split at h
 .unfold nnF at h
  simp only[J8,az0]at h;exact axm h.1
 .cases h
theorem agM:tO bW (A9 λ n=>cn n.toNat):=alG λ args h=>by
 unfold cFf at h;split at h
 .exact axn _
 .cases h
theorem qh {l : List Entry} {ks : List aV} {ms : List fQ} {L : Nat -> Option dN} {Z : Nat -> Option mg} (hZ : ∀ i h, Z i = some h -> fZ 0 h) (hl : ∀ e, e ∈ l -> lg bW e) (hks : ∀ e, e ∈ ks -> tO bW e) (hms : ∀ e, e ∈ ms -> vU bW e) {f : Nat} {fn : Func} (hf : bW.funcs[f]? = some fn) (hnm : (fn.name == "runtime.NumGoroutine") = false) (hb : fn.body = some (dG fn)) (hL : yN bW L (dG fn))
  {args:List AV} (hlen:aqE args.length fn.ntmps=true) {r:AV} (h:qQ bW l ks ms L Z fn args ret=some (Out.of r)):aj bW f args r:=pq hZ (qN hl hks hms) (iJ (qN hl hks hms) (by kernel_rfl)) 40 hf hnm hb hL hlen h
theorem auP{w:Nat}(hw:w<18446744073709551616):rE w=((w / 2 ^ 52 % 2048:Nat):Int):=by
 unfold rE ab2
 have e:(w:Int).fdiv (2 ^ 52)=((w / 2 ^ 52:Nat):Int):=by
  rw[Int.fdiv_eq_ediv_of_nonneg _ (by decide)];rfl
 rw[e,agK];exact ake (by omega)
theorem Cr{w:Nat}(hw:w<18446744073709551616)(hn:aL w=false)(hE:w / 2 ^ 52 % 2048<1055):aj bW 171 [.f w] (.f (cn (kY w))):=by
 have hnn:nnF w=true:=by unfold nnF;rw[hn,decide_eq_true hw];rfl
 have hr:=auP hw;by_cases h1:w / 2 ^ 52 % 2048<1023
 .refine qh (gK (agH 4 ((0:Nat):Int))) aB (ak agL (ak agM av)) bO Tryz.func171 (by kernel_rfl) (by kernel_rfl) aA rfl ((agI w (λ n=>cn n.toNat) nnF 0 (by omega)).trans ?_)
  unfold rG kY;have ht:ab2 (w:Int) 9223372036854775808=((w / 9223372036854775808*9223372036854775808:Nat):Int):=by unfold ab2;rw[agK];exact akf (by omega)
  rw[hnn,hr,decide_eq_true (by omega),if_pos h1,ht];by_cases h2:w / 2 ^ 52 % 2048=1022
  .rw[h2,if_pos rfl]
   have ho:uOr ((w / 9223372036854775808*9223372036854775808:Nat):Int) 4607182418800017408=((w / 9223372036854775808*9223372036854775808+4607182418800017408:Nat):Int):=by
    have:w / 9223372036854775808=0\/w / 9223372036854775808=1:=by omega
    rcases this with h |h<;>rw[h]<;>rfl
   rw[ho];rfl
  .rw[if_neg h2,beq_false_of_ne (by omega)]
   rfl
 .obtain⟨k,hk⟩:∃k,w / 2 ^ 52 % 2048=1023+k:=⟨w / 2 ^ 52 % 2048 - 1023,by omega⟩
  refine qh (gK (agH 4 ((k:Nat):Int))) aB (ak agL (ak agM av)) bO Tryz.func171 (by kernel_rfl) (by kernel_rfl) aA rfl ((agI w (λ n=>cn n.toNat) nnF k (by omega)).trans ?_);unfold rG kY;have h0:0<2 ^ (51 - k):=acy _;have hp:2 ^ (51 - k)<=2 ^ 51:=as5 (by decide) (by omega)
  have hw2:w<2 ^ 63+2047*2 ^ 52:=by
   have h3:w / 2 ^ 52 % 2048<=1054:=by omega
   omega
  have hs:aAR.wrap ((w:Int)+((2 ^ (51 - k):Nat):Int))=((w+2 ^ (51 - k):Nat):Int):=by
   generalize 2 ^ (51 - k)=d at h0 hp ⊢;rw[agJ (by omega) (by omega)];omega
  have ha:uAn ((w+2 ^ (51 - k):Nat):Int) ((2 ^ (52 - k) - 1:Nat):Int)=(((w+2 ^ (51 - k)) / 2 ^ (52 - k)*2 ^ (52 - k):Nat):Int):=by unfold uAn;rw[agK];exact apN (by omega) (by omega)
  rw[hnn,hr,hk,decide_eq_false (by omega),decide_eq_true (by omega),if_neg (by omega),ah (by rw[agJ (by omega) (by omega)];omega),hs,ha,show 1074 - (1023+k)=51 - k by omega,show 1075 - (1023+k)=52 - k by omega];rfl
end Go.Proofs.YtefphimaggjihaaGreatDoor.Pi
namespace Go.Proofs.YtefphimaggjihaaGreatDoor.Hs
open Go.Gv
open Go.Ev (cn bq dI bT fdiv d9 fI dK jO kL gN lK fabs)
def ahL(c:Int):Int:=cond (decide (c<0)) (aI (0 - aI (c+1))) c
def dO(c n:Int):Int:=(ahL c).tmod n
theorem acR(c n:Int):ev bW [] [] aM Tryz.f21 [iA c,iA n] ret=cond (decide (c<0)) (cond ((!(n==0))&&true) (some (Out.of (iA ((aI (0 - aI (c+1))).tmod n)))) none) (cond ((!(n==0))&&true) (some (Out.of (iA (c.tmod n)))) none):=by kernel_rfl
theorem acS{c n:Int}(hn:(!(n==0))=true):aj bW 21 [iA c,iA n] (iA (dO c n)):=by
 refine sp aB Tryz.func21 (by kernel_rfl) (by kernel_rfl) rfl ((acR c n).trans ?_);rw[hn];unfold dO ahL;cases decide (c<0)<;>rfl
def ePk(pf:Int->Int->Int):List AV->Option AV
 | [.x (.int .i64 c),.x (.int .i64 n)]=>cond (!(n==0)) (some (iA (pf c n))) none
 |_=>none
theorem U7:lg bW ⟨21,ePk dO⟩:=λ args r hr=>by
 simp only[ePk]at hr;split at hr
 .rename_i c n
  cases hn:!(n==0)
  .rw[hn]at hr;cases hr
  .rw[hn]at hr;cases hr;exact ER (acS hn)
 .cases hr
def yP:Nat:=4652007308841189376
def gJ(n:Int):Nat:=fdiv (cn (ayP.nearest n)) yP
theorem acT(n:Int):aj bW 37 [iA n] (.f (gJ n)):=sp aB Tryz.func37 (by kernel_rfl) (by kernel_rfl) rfl (by kernel_rfl)
def eI(g:Int->AV):List AV->Option AV
 | [.x (.int .i64 n)]=>some (g n)
 |_=>none
theorem acU{f:Nat}{g:Int->AV}(h:∀n,aj bW f [iA n] (g n)):lg bW ⟨f,eI g⟩:=λ args r hr=>by
 simp only[eI]at hr;split at hr
 .cases hr;exact ER (h _)
 .cases hr
def M0(pf:Int->Int->Int)(tf:Int->Nat):List Entry:=⟨21,ePk pf⟩::⟨37,eI λ n=>.f (tf n)⟩::R4
theorem tQ:∀e,e∈M0 dO gJ->lg bW e:=bn U7 <|bn (acU acT) Dc
section
variable(n:Nat)(hs:Nat->Int)(pf:Int->Int->Int)(tf:Int->Nat)(rf:Int->Int)(k fr mo c:Int)
def dU:Int:=cond ((n:Int)==0) 0 (hs (k.tmod (n:Int)).toNat)
theorem ahM:ev bW [] [] aM Tryz.f22 [sI n hs,iA k] ret=cond ((n:Int)==0) (some (Out.of (iA 0))) (cond ((!((n:Int)==0))&&true) (cond (mI (k.tmod (n:Int)) n||false) (some (Out.of (iA (hs (k.tmod (n:Int)).toNat)))) none) none):=by kernel_rfl
theorem arO{n:Nat}{hs:Nat->Int}{k:Int}(hk:0<=k):aj bW 22 [sI n hs,iA k] (iA (dU n hs k)):=by
 refine sp aB Tryz.func22 (by kernel_rfl) (by kernel_rfl) rfl ((ahM n hs k).trans ?_);unfold dU;cases hn:((n:Int)==0)
 .have h0:(n:Int)≠0:=λ e=>by rw[e]at hn;cases hn
  have e:k.tmod (n:Int)=k % (n:Int):=azt hk;have a:=aCi k h0;have b:=aBN k (show(0:Int)<n by omega)
  have hi:mI (k.tmod (n:Int)) n=true:=by
   unfold mI;rw[e,decide_eq_true a,decide_eq_true b];rfl
  rw[hi];rfl
 .rfl
def Q7(pf:Int->Int->Int)(tf:Int->Nat)(c mo:Int):Nat:=tf (aI (pf c (aI (aI (2*mo)+1)) - mo))
theorem ahN:ev bW (M0 pf tf) [] aM aCt [iA c,iA 4000] ret=some (Out.of (.f (Q7 pf tf c 4000))):=by kernel_rfl
theorem ahO:ev bW (M0 pf tf) [] aM aCt [iA c,iA 3000] ret=some (Out.of (.f (Q7 pf tf c 3000))):=by kernel_rfl
theorem ahP:ev bW (M0 pf tf) [] aM aCt [iA c,iA 6000] ret=some (Out.of (.f (Q7 pf tf c 6000))):=by kernel_rfl
theorem ahQ:ev bW (M0 pf tf) [] aM aCt [iA c,iA 1500] ret=some (Out.of (.f (Q7 pf tf c 1500))):=by kernel_rfl
theorem ahR:ev bW (M0 pf tf) [] aM aCt [iA c,iA 5000] ret=some (Out.of (.f (Q7 pf tf c 5000))):=by kernel_rfl
end
def ahS(mo:Int):Prop:=mo=4000\/mo=3000\/mo=6000\/mo=1500\/mo=5000
theorem ami{mo:Int}(h:ahS mo)(c:Int):aj bW 63 [iA c,iA mo] (.f (Q7 dO gJ c mo)):=by
 rcases h with rfl |rfl |rfl |rfl |rfl
 .exact sp tQ Tryz.func63 (by kernel_rfl) (by kernel_rfl) rfl (ahN dO gJ c)
 .exact sp tQ Tryz.func63 (by kernel_rfl) (by kernel_rfl) rfl (ahO dO gJ c)
 .exact sp tQ Tryz.func63 (by kernel_rfl) (by kernel_rfl) rfl (ahP dO gJ c)
 .exact sp tQ Tryz.func63 (by kernel_rfl) (by kernel_rfl) rfl (ahQ dO gJ c)
 .exact sp tQ Tryz.func63 (by kernel_rfl) (by kernel_rfl) rfl (ahR dO gJ c)
section
variable(n:Nat)(hs:Nat->Int)(rf:Int->Int)(mf:Int->Int->Nat)(fr mo:Int)
def rwG(rf:Int->Int):List AV->AV
 | [_,.x (.int .i64 k)]=>iA (rf k)
 |_=>.any
def arQ(mf:Int->Int->Nat):List AV->AV
 | [.x (.int .i64 c),.x (.int .i64 mo)]=>.f (mf c mo)
 |_=>.any
noncomputable def gR(k:Int)(o:Option Out):Option Out:=gate (aj bW 22 [sI n hs,iA k] (iA (rf k))) o
noncomputable def gMi(c mo:Int)(o:Option Out):Option Out:=gate (aj bW 63 [iA c,iA mo] (.f (mf c mo))) o
noncomputable def Gj:aV:=kS bW 22 (rwG rf)
noncomputable def veX:Option Out:=gR n hs rf fr (gMi mf (rf fr) mo (gR n hs rf (aI (fr+1)) (gMi mf (rf (aI (fr+1))) mo (gR n hs rf (aI (fr+2)) (gMi mf (rf (aI (fr+2))) mo (some (Out.of (V (mf (rf fr) mo) (mf (rf (aI (fr+1))) mo) (mf (rf (aI (fr+2))) mo)))))))))
theorem acV:ev bW R4 [Gj rf,kS bW 63 (arQ mf)] aM Tryz.f64 [sI n hs,iA fr,iA mo] ret=veX n hs rf mf fr mo:=by kernel_rfl
end
def pz(n:Nat)(hs:Nat->Int)(fr mo:Int)(i:Nat):Nat:=Q7 dO gJ (dU n hs (aI (fr+(i:Nat)))) mo
theorem cO{n:Nat}{hs:Nat->Int}{k:Int}{o:Option Out}(h:0<=k):gR n hs (dU n hs) k o=o:=ah (arO h)
theorem Ou{c mo:Int}{o:Option Out}(h:ahS mo):gMi (Q7 dO gJ) c mo o=o:=ah (ami h c)
theorem avF{n:Nat}{hs:Nat->Int}{fr mo:Int}(h0:0<=fr)(h1:fr<=1000)(hm:ahS mo):aj bW 64 [sI n hs,iA fr,iA mo] (V (pz n hs fr mo 0) (pz n hs fr mo 1) (pz n hs fr mo 2)):=by
 refine aP Dc (ak aD (ak aD av)) Tryz.func64 (by kernel_rfl) (by kernel_rfl) aA rfl ((acV n hs (dU n hs) (Q7 dO gJ) fr mo).trans ?_);have e0:aI (fr+((0:Nat):Int))=fr:=by rw[aO (by omega) (by omega)];omega
 have a1:0<=aI (fr+1):=by rw[aO (by omega) (by omega)];omega
 have a2:0<=aI (fr+2):=by rw[aO (by omega) (by omega)];omega
 unfold veX pz;rw[cO h0,Ou hm,cO a1,Ou hm,cO a2,Ou hm,e0];rfl
section
variable(n:Nat)(hs:Nat->Int)(pf:Int->Int->Int)(tf:Int->Nat)(rf:Int->Int)(vf:Int->Int->Nat->Nat)
def vcG(vf:Int->Int->Nat->Nat):List AV->AV
 | [_,.x (.int .i64 fr),.x (.int .i64 mo)]=>V (vf fr mo 0) (vf fr mo 1) (vf fr mo 2)
 |_=>.any
noncomputable def vcK:aV:=kS bW 64 (vcG vf)
noncomputable def gV(fr mo:Int)(o:Option Out):Option Out:=gate (aj bW 64 [sI n hs,iA fr,iA mo] (V (vf fr mo 0) (vf fr mo 1) (vf fr mo 2))) o
end
theorem yR{n:Nat}{hs:Nat->Int}{fr mo:Int}{o:Option Out}(h0:0<=fr)(h1:fr<=1000)(hm:ahS mo):gV n hs (pz n hs) fr mo o=o:=ah (avF h0 h1 hm)
section
variable(n:Nat)(hs:Nat->Int)(pf:Int->Int->Int)(tf:Int->Nat)(rf:Int->Int)(vf:Int->Int->Nat->Nat)(x y w:Nat)
def z3:Nat->Nat:=λ _=>0
def M1(pf:Int->Int->Int)(tf:Int->Nat):List Entry:=⟨21,ePk pf⟩::⟨37,eI λ n=>.f (tf n)⟩::⟨96,eV λ a b c=>bA (jv a b c)⟩::R3
theorem akW:∀e,e∈M1 dO gJ->lg bW e:=bn U7 <|bn (acU acT) <|bn (tT Ov) pF
end
theorem kH{c m:Int}(hc:-9223372036854775808<=c)(hc':c<=9223372036854775807)(hm:0<m):0<=dO c m/\dO c m<m:=by
 have h0:0<=ahL c:=by
  unfold ahL;by_cases h:c<0
  .rw[decide_eq_true h,cond_true,aO (n:=c+1) (by omega) (by omega),aO (by omega) (by omega)]
   omega
  .rw[decide_eq_false h];show 0<=c;omega
 unfold dO;rw[azt h0];exact⟨aCi _ (by omega),aBN _ hm⟩
theorem gH{n:Nat}{hs:Nat->Int}(h:∀i,i<n->-9223372036854775808<=hs i/\hs i<=9223372036854775807){k:Int}(hk:0<=k):-9223372036854775808<=dU n hs k/\dU n hs k<=9223372036854775807:=by
 unfold dU;cases hn:((n:Int)==0)
 .have h0:(n:Int)≠0:=λ e=>by rw[e]at hn;cases hn
  rw[cond_false,azt hk];have a:=aCi k h0;have b:=aBN k (show(0:Int)<n by omega);exact h _ (by omega)
 .show -9223372036854775808<=(0:Int)/\(0:Int)<=9223372036854775807;omega
end Go.Proofs.YtefphimaggjihaaGreatDoor.Hs
namespace Go.Proofs.YtefphimaggjihaaGreatDoor.Hs.So
open Go.Gv
open Go.Ev (cn bq dI bT fdiv d9 fI dK jO kL gN lK fabs aL)
def bl'(i:Int)(n:Nat):Bool:=afC (0+i.toNat) n||false
def ow'(i:Int)(n:Nat)(o:Option Out):Option Out:=cond (mI i n||false) (cond (bl' i n) o none) none
theorem atj{i n:Nat}(h:i<n)(o:Option Out):ow' (i:Nat) n o=o:=by
 unfold ow' bl';rw[gy h,Zk,avB,IQ h];rfl
def xE(p:Option Addr)(c:Nat):AV:=.x (.slice p 0 c)
theorem aj.anN{f:Nat}{args args':List AV}{r:AV}(h:∀E:Env,∀us:List Value,dB E args us->∃XB,dB E XB us/\aj bW f XB r)(hE:qG bW f)(_:args'=args):aj bW f args r :=
 ⟨hE,λ A w aZ hA hr hg=>by
  obtain⟨XB,h1,h2⟩:=h _ _ hr;exact h2.2 A w aZ hA h1 hg⟩
theorem abj{E:Env}{sz:Nat}{el:Nat->List AV}{u:Value}(h:rel E (.sl sz 0 el) u):∃p c,rel E (xE p c) u:=by
 obtain⟨a,c,e,_⟩:=iM.1 h;exact⟨a,c,bI.2 e⟩
end Go.Proofs.YtefphimaggjihaaGreatDoor.Hs.So
namespace Go.Proofs.YtefphimaggjihaaGreatDoor.Hs.So
open Go.Gv
open Go.Ev (cn bq dI bT fdiv d9 fI dK jO kL gN lK fabs)
section
variable(n:Nat)(hs:Nat->Int)(pf:Int->Int->Int)(tf:Int->Nat)(rf:Int->Int)(vf:Int->Int->Nat->Nat)(x y w:Nat)(fr:Int)
def xK:Int:=aI (1+pf (rf fr) 6)
def xR:Nat:=tf (aI (1+pf (rf (aI (fr+8))) 2500))
def xA(B C:Nat->Nat)(R Q:Nat):List AV:=[iA (xK pf rf fr),.f (vf (aI (fr+1)) 4000 0),.f (vf (aI (fr+1)) 4000 1),.f (vf (aI (fr+1)) 4000 2),.f (B 0),.f (B 1),.f (B 2),.f (C 0),.f (C 1),.f (C 2),.f R,.f Q,iA (pf (rf (aI (fr+7))) 1)]
def xO(B C:Nat->Nat)(R Q:Nat):Option Out:=some (Out.of (.agg (xA pf rf vf fr B C R Q)))
def xB2:Nat->Nat:=ls [bq (vf (aI (fr+1)) 4000 0) (xR pf tf rf fr),bq (vf (aI (fr+1)) 4000 1) (tf (pf (rf (aI (fr+5))) 2000)),bq (vf (aI (fr+1)) 4000 2) (tf (pf (rf (aI (fr+6))) 2000))]
def xB3:Nat->Nat:=ls [bq (vf (aI (fr+1)) 4000 0) (vf (aI (fr+4)) 3000 0),bq (vf (aI (fr+1)) 4000 1) (vf (aI (fr+4)) 3000 1),bq (vf (aI (fr+1)) 4000 2) (vf (aI (fr+4)) 3000 2)]
def xD:Int:=aI (1+pf (rf (aI (fr+4))) 3)
def xQ:Nat:=tf (aI (1+aI ((pf (rf (aI (fr+8))) 2500).tdiv (xD pf rf fr))))
noncomputable def xPu(o:Option Out):Option Out:=gate (aj bW 141 [V 0 0 0,iA (pf (rf (aI (fr+6))) 3),.f (tf (aI (1+pf (rf (aI (fr+5))) 3000)))] (V x y w)) o
noncomputable def x56:Option Out:=gR n hs rf (aI (fr+6)) (gR n hs rf (aI (fr+5)) (xPu pf tf rf x y w fr (cond (xK pf rf fr==6) (gR n hs rf (aI (fr+8)) (gR n hs rf (aI (fr+4)) (cond ((!(xD pf rf fr==0))&&true) (xO pf rf vf fr (ls [x,y,w]) z3 (xR pf tf rf fr) (xQ pf tf rf fr)) none))) (xO pf rf vf fr (ls [x,y,w]) z3 (xR pf tf rf fr) 0))))
def x4:Option Out:=cond (jv (vf (aI (fr+4)) 3000 0) (vf (aI (fr+4)) 3000 1) (vf (aI (fr+4)) 3000 2)) (xO pf rf vf fr (ls [0,one,0]) z3 (xR pf tf rf fr) 0) (xO pf rf vf fr (vf (aI (fr+4)) 3000) z3 (xR pf tf rf fr) 0)
noncomputable def xX:Option Out:=gR n hs rf fr (gV n hs vf (aI (fr+1)) 4000 (gR n hs rf (aI (fr+7)) (gV n hs vf (aI (fr+4)) 3000 (gR n hs rf (aI (fr+8))
 (cond (xK pf rf fr==1) (xO pf rf vf fr z3 z3 (xR pf tf rf fr) 0) (cond (xK pf rf fr==2) (gR n hs rf (aI (fr+5)) (gR n hs rf (aI (fr+6)) (xO pf rf vf fr (xB2 pf tf rf vf fr) z3 0 0))) (cond (xK pf rf fr==3) (gV n hs vf (aI (fr+9)) 4000 (xO pf rf vf fr (xB3 vf fr) (ls [vf (aI (fr+9)) 4000 0,vf (aI (fr+9)) 4000 1,vf (aI (fr+9)) 4000 2]) 0 0))
  (cond (xK pf rf fr==5) (cond (xK pf rf fr==5) (x56 n hs pf tf rf vf x y w fr) (x4 pf tf rf vf fr)) (cond (xK pf rf fr==6) (x56 n hs pf tf rf vf x y w fr) (x4 pf tf rf vf fr))))))))))
theorem adl:ev bW (M1 pf tf) [Gj rf,vcK vf,kS bW 141 λ _=>V x y w] aM Tryz.f111 [sI n hs,iA fr,iA 1] ret=xX n hs pf tf rf vf x y w fr:=by kernel_rfl
end
def Ah(x:Nat):Nat:=bq (bT x yP) 4602678819172646912
def rdB(x:Nat):Bool:=Ce .i64 (Ah (cond (jO x 0) (fI x) x))
def rdI(x:Nat):Int:=cond (jO x 0) (aI (0 - LC .i64 (Ah (fI x)))) (LC .i64 (Ah x))
theorem adn(tf:Int->Nat)(x:Nat):ev bW [⟨37,eI λ n=>.f (tf n)⟩] [] aM Tryz.f147 [.f x] ret=cond (jO x 0) (cond (Ce .i64 (Ah (fI x))||false) (some (Out.of (.f (tf (aI (0 - LC .i64 (Ah (fI x)))))))) none) (cond (Ce .i64 (Ah x)||false) (some (Out.of (.f (tf (LC .i64 (Ah x)))))) none):=by kernel_rfl
theorem ah6{x:Nat}(h:rdB x=true):aj bW 147 [.f x] (.f (gJ (rdI x))):=by
 refine sp (bn (acU acT) aB) Tryz.func147 (by kernel_rfl) (by kernel_rfl) rfl ((adn gJ x).trans ?_);unfold rdB at h;unfold rdI;cases hf:jO x 0<;>rw[hf]at h
 .rw[show Ce .i64 (Ah x)=true from h];rfl
 .rw[show Ce .i64 (Ah (fI x))=true from h];rfl
end Go.Proofs.YtefphimaggjihaaGreatDoor.Hs.So
namespace Go.Ev
open Ieee
theorem Sk(d e:Datum):d.sum e=e.sum d:=by
 cases d<;>cases e<;>simp only[Datum.sum]
 .rename_i s m i t n j
  rw[Int.min_comm i j,aEL,Bool.and_comm]
 .rename_i s t
  by_cases h:s=t
  .subst h;rfl
  .rw[if_neg h,if_neg (Ne.symm h)]
theorem D6(d e:Datum):d.product e=e.product d:=by
 cases d<;>cases e<;>simp only[Datum.product]
 .rename_i s m i t n j
  rw[aye,aEL,aEu]
 .rename_i s t;rw[aEu]
theorem uO:double.leastPlace=-1074:=by decide +kernel
theorem MU:(double.fractionBits:Int)=52:=rfl
theorem Sl{m:Nat}(k:Nat)(hm:m≠0):(m <<< k).log2=m.log2+k:=by
 have hp:0<2 ^ k:=acy k;have hne:m <<< k≠0:=by rw[ayC];exact Nat.mul_ne_zero hm (Nat.pos_iff_ne_zero.1 hp)
 rw[aEg hne,ayC];refine⟨by rw[ari];exact agT _ (azA hm),?_⟩;rw[show m.log2+k+1=m.log2+1+k by omega,ari];exact aAy azW hp
theorem aa7{m:Nat}(h:m<9007199254740992):m.log2<=52:=by
 by_cases h0:m=0
 .subst h0;decide
 .have:=(aBy h0).2 (show m<2 ^ 53 by omega)
  omega
theorem xG(s:Bool)(p:Int):double.nearest s 0 p=double.word s 0:=by simp[Format.nearest]
theorem aed(s:Bool){r:Nat}(h:r<=9218868437227405312):double.word s r ^^^ 9223372036854775808=double.word (!s) r:=by
 have h63:r<2 ^ 63:=by omega
 unfold Format.word;rw[D7];have e:(9223372036854775808:Nat)=2 ^ 63:=by decide
 rw[e];cases s
 .simp only[ayX,if_false,Bool.not_false,if_true]
  have hor:=aCj h63 1;rw[ayY]at hor;rw[hor];apply aAp;intro n;simp only[aEh,aCY,aBx];by_cases hn:63=n
  .subst hn;simp[aAd h63]
  .simp[hn]
 .simp only[if_true,Bool.not_true,ayX,if_false]
  have hor:=aCj h63 1;rw[ayY]at hor;rw[hor];apply aAp;intro n;simp only[aEh,aCY,aBx];by_cases hn:63=n
  .subst hn;simp[aAd h63]
  .simp[hn]
theorem aaQ(s:Bool){r:Nat}(h:r<=9218868437227405312):fI (double.word s r)=double.word (!s) r:=by
 unfold fI;rw[qZ s h,cond_false,aed s h]
def xI(a g:Nat):Nat:=a / g+(decide (g<2*(a % g))||(g==2*(a % g)&&a / g % 2==1)).toNat
theorem FW{a g:Nat}(h:2*a<g):xI a g=0:=by
 have h1:a / g=0:=azX (by omega);have h2:a % g=a:=aDU (by omega);have h3:decide (g<2*a)=false:=decide_eq_false (by omega);have h4:(g==2*a)=false:=by simp;omega
 unfold xI;rw[h1,h2,h3,h4];rfl
theorem xY(b:Bool):b.toNat<=1:=by cases b<;>decide
theorem Qe(a g:Nat):xI a g<=a / g+1:=aBz (xY _) _
theorem Qf(a g:Nat):a / g<=xI a g:=aDV _ _
theorem agb{a b g:Nat}(h:a<=b):xI a g<=xI b g:=by
 have hd:a / g<=b / g:=az1 h;rcases az7 hd with e |e
 .have h1:=ay1 a g
  have h2:=ay1 b g;have hm:a % g<=b % g:=by rw[e]at h1;omega
  unfold xI;rw[e];refine aBz ?_ _;cases hx:(decide (g<2*(a % g))||(g==2*(a % g)&&b / g % 2==1))
  .exact aAv _
  .have:(decide (g<2*(b % g))||(g==2*(b % g)&&b / g % 2==1))=true:=by
    simp only[aAN,J8,decide_eq_true_eq,beq_iff_eq]at hx ⊢;omega
   rw[this];exact ao5 _
 .exact apL (Qe a g) (apL e (Qf b g))
theorem Ay(a g:Nat){c:Nat}(hc:0<c):xI (a*c) (g*c)=xI a g:=by
 unfold xI;rw[aBj _ _ hc,Nat.mul_mod_mul_right]
 have h1:decide (g*c<2*(a % g*c))=decide (g<2*(a % g)):=by
  rw[<-avH];exact decide_eq_decide.2 (Nat.mul_lt_mul_right hc)
 have h2:(g*c==2*(a % g*c))=(g==2*(a % g)):=by
  rw[<-avH,aBi,beq_iff_eq,beq_iff_eq];exact Nat.mul_left_inj (by omega)
 rw[h1,h2]
theorem aaf(s:Bool)(n d:Nat):Toward.even.cut s n d=xI n (2 ^ d):=by
 have hn:n<2 ^ (n.log2+1):=azW;by_cases h:d<=n.log2+2
 .unfold Toward.cut xI
  rw[aCk h,aBY]
 .have hL:2*n<2 ^ (n.log2+2):=by rw[ayD];omega
  have hd:2*n<2 ^ d:=ayB hL (as5 (by decide) (by omega));rw[FW hd];have:=FW hL;unfold xI at this;unfold Toward.cut;rw[aCb (by omega),aBY];exact this
theorem XH(d n k:Nat)(hn:0<n):xI (2*(d / n)+(d % n !=0).toNat) (2 ^ (k+2))=xI d (n*2 ^ (k+1)):=by
 have hp:0<2 ^ k:=acy k;have e1:2 ^ (k+1)=2*2 ^ k:=by rw[ayD];omega
 have e2:2 ^ (k+2)=2*(2*2 ^ k):=by rw[ayD,e1];omega
 rw[e1,e2];generalize 2 ^ k=H at hp;have hr:d % n<n:=aA8 _ hn;have hd:=ay1 d n;generalize hst:(d % n !=0).toNat=st
 have hs:(st=0/\d % n=0)\/(st=1/\0<d % n):=by
  cases hb:(d % n !=0)
  .rw[hb]at hst;left;exact⟨hst.symm,by simpa using hb⟩
  .rw[hb]at hst;right;refine⟨hst.symm,?_⟩
   have:d % n≠0:=by simpa using hb
   omega
 generalize d % n=r at hr hd hs;have hQ:=ay1 (d / n) (2*H);have hB:d / n % (2*H)<2*H:=aA8 _ (by omega)
 have w1:(2*(d / n)+st) / (2*(2*H))=d / n / (2*H):=by
  rw[<-ay3];congr 1;omega
 have w2:d / (n*(2*H))=d / n / (2*H):=(ay3 d n (2*H)).symm;generalize hA:d / n / (2*H)=A at *;generalize hBe:d / n % (2*H)=Bq at *;generalize hq:d / n=Q at *
 have m1:(2*Q+st) % (2*(2*H))=2*Bq+st:=by
  have:=ay1 (2*Q+st) (2*(2*H));rw[w1]at this;have e:2*(2*H)*A=2*(2*H*A):=by rw[avH]
  omega
 have m2:d % (n*(2*H))=n*Bq+r:=by
  have:=ay1 d (n*(2*H));rw[w2]at this;have e:n*Q=n*(2*H)*A+n*Bq:=by rw[<-hQ,aAz,avH n]
  omega
 unfold xI;rw[w1,w2,m1,m2];congr 2
 have c1:(2*(2*H)<2*(2*Bq+st))↔(n*(2*H)<2*(n*Bq+r)):=by
  have q1:n*(2*H)=2*(n*H):=by rw[azK]
  rw[q1];constructor
  .intro h
   have:H<=Bq:=by omega
   rcases az7 this with e |e
   .subst e;omega
   .have:=ax9 n (show H+1<=Bq from e)
    rw[aAz]at this;omega
  .intro h
   by_cases hl:Bq<H
   .have:=ax9 n (show Bq+1<=H from hl)
    rw[aAz]at this;omega
   .rcases az7 (ayU hl)with e |e
    .subst e;omega
    .omega
 have c2:(2*(2*H)=2*(2*Bq+st))↔(n*(2*H)=2*(n*Bq+r)):=by
  have q1:n*(2*H)=2*(n*H):=by rw[azK]
  rw[q1];constructor
  .intro h
   have:H=Bq:=by omega
   subst this;omega
  .intro h
   rcases aDB Bq H with hl |e |hl
   .have:=ax9 n (show Bq+1<=H from hl)
    rw[aAz]at this;omega
   .subst e;omega
   .have:=ax9 n (show H+1<=Bq from hl)
    rw[aAz]at this;omega
 have d1:decide (2*(2*H)<2*(2*Bq+st))=decide (n*(2*H)<2*(n*Bq+r)):=decide_eq_decide.2 c1
 have d2:(2*(2*H)==2*(2*Bq+st))=(n*(2*H)==2*(n*Bq+r)):=by
  rw[aBi,beq_iff_eq,beq_iff_eq];exact c2
 rw[d1,d2]
def rq(b a g:Nat):Nat:=((a / g).log2 - b)*2 ^ b+xI a (g*2 ^ ((a / g).log2 - b))
theorem Ca(b a g:Nat){c:Nat}(hc:0<c):rq b (a*c) (g*c)=rq b a g:=by
 unfold rq;rw[aBj _ _ hc,aBO,Ay _ _ hc]
theorem vo(b:Nat){a c g:Nat}(h:a<=c):rq b a g<=rq b c g:=by
 have hd:a / g<=c / g:=az1 h
 have hl:(a / g).log2<=(c / g).log2:=by
  by_cases h0:a / g=0
  .rw[h0];simp
  .exact(aA6 (λ hc=>h0 (Nat.le_zero.1 (hc▸hd)))).2 (apL (azA h0) hd)
 unfold rq;have hl2:(a / g).log2 - b<=(c / g).log2 - b:=by omega
 rcases az7 hl2 with e |e
 .rw[e]
  exact aBz (agb h) _
 .
  have h1:xI a (g*2 ^ ((a / g).log2 - b))<=2 ^ (b+1):=by
   refine apL (Qe _ _) ?_;rw[<-ay3];have:a / g<2 ^ ((a / g).log2+1):=azW
   have h2:a / g / 2 ^ ((a / g).log2 - b)<2 ^ (b+1):=by
    rw[aAu (acy _),<-ari];exact ayB this (as5 (by decide) (by omega))
   omega
  have h2:2 ^ b<=xI c (g*2 ^ ((c / g).log2 - b)):=by
   refine apL ?_ (Qf _ _);rw[<-ay3,ayv (acy _),<-ari]
   have h0:c / g≠0:=by
    intro h0;rw[h0]at e;simp at e
   refine apL (as5 (by decide) (by omega)) (azA h0)
  have h3:=agT (2 ^ b) e;rw[aBG]at h3;rw[ayD]at h1;omega
theorem ajZ(b:Nat){a c g h:Nat}(hg:0<g)(hh:0<h)(hle:a*h<=c*g):rq b a g<=rq b c h:=by
 rw[<-Ca b a g hh,<-Ca b c h hg,aye h g];exact vo b hle
theorem uo(b:Nat){g:Nat}(hg:0<g):rq b 0 g=0:=by
 unfold rq;rw[aCU,Nat.log2_zero,Nat.zero_sub,aza,avB];exact FW (by rw[aEM];exact aA7 hg (acy _))
theorem acu(n:Nat):(n / 2).log2=n.log2 - 1:=by
 rw[Nat.log2_def n];by_cases h:n≥2
 .rw[if_pos h];simp
 .rw[if_neg h]
  have:n / 2=0:=by omega
  rw[this];simp
theorem UH(n:Nat):∀v,(n / 2 ^ v).log2=n.log2 - v
 | 0=>by simp
 |v+1=>by rw[ayD,<-ay3,acu,UH n v];omega
theorem UJ(s:Bool)(m u:Nat)(p:Int)(hp:p=u - 1074):double.nearest s m p=double.word s (min (rq 52 (m*2 ^ u) 1) double.infRung):=by
 by_cases hm:m=0
 .subst hm;rw[xG,aza,uo 52 (by decide),aEN]
 .have hl:(m*2 ^ u / 1).log2=m.log2+u:=by rw[aBA,<-ayC,Sl u hm]
  have e1:(max (p+m.log2 - (double.fractionBits:Int)) double.leastPlace - double.leastPlace).toNat=m.log2+u - 52:=by rw[uO,MU];omega
  have e2:(p - max (p+m.log2 - (double.fractionBits:Int)) double.leastPlace).toNat=u - (m.log2+u - 52):=by rw[uO,MU];omega
  have e3:(max (p+m.log2 - (double.fractionBits:Int)) double.leastPlace - p).toNat=(m.log2+u - 52) - u:=by rw[uO,MU];omega
  unfold Format.nearest rq;rw[if_neg hm,hl];simp only[e1,e2,e3];generalize m.log2+u - 52=l;rw[aaf,ayC,azc]
  have:xI (m*2 ^ (u - l)) (2 ^ (l - u))=xI (m*2 ^ u) (2 ^ l):=by
   rw[<-Ay _ _ (acy (min u l)),avH,<-ari,<-ari];congr 3<;>omega
  rw[this];rfl
theorem UK(s:Bool)(m v:Nat)(p:Int)(hp:p=-1074 - v):double.nearest s m p=double.word s (min (rq 52 m (2 ^ v)) double.infRung):=by
 by_cases hm:m=0
 .subst hm;rw[xG,uo 52 (acy _),aEN]
 .have e1:(max (p+m.log2 - (double.fractionBits:Int)) double.leastPlace - double.leastPlace).toNat=m.log2 - v - 52:=by rw[uO,MU];omega
  have e2:(p - max (p+m.log2 - (double.fractionBits:Int)) double.leastPlace).toNat=0:=by rw[uO,MU];omega
  have e3:(max (p+m.log2 - (double.fractionBits:Int)) double.leastPlace - p).toNat=v+(m.log2 - v - 52):=by rw[uO,MU];omega
  unfold Format.nearest rq;rw[if_neg hm,UH];simp only[e1,e2,e3];rw[aaf,ayC,ayW,ayY,ari];rfl
theorem JM(s:Bool)(m u v:Nat)(p:Int)(hp:p+1074=u - v):double.nearest s m p=double.word s (min (rq 52 (m*2 ^ u) (2 ^ v)) double.infRung):=by
 by_cases h:v<=u
 .rw[UJ s m (u - v) p (by omega)]
  have:=Ca 52 (m*2 ^ (u - v)) 1 (acy v);rw[avH,<-ari,azc,aBP h]at this;rw[this]
 .rw[UK s m (v - u) p (by omega)]
  have:=Ca 52 m (2 ^ (v - u)) (acy u);rw[<-ari,aBP (by omega)]at this;rw[this]
theorem UL{x y:Nat}(h:∀k,2 ^ k<=x↔2 ^ k<=y):x.log2=y.log2:=by
 by_cases hx:x=0
 .have:y=0:=by
   by_cases hy:y=0
   .exact hy
   .have:=(h 0).2 (by rw[ayW];omega)
    rw[ayW]at this;omega
  rw[hx,this]
 .have hy:y≠0:=by
   have:=(h 0).1 (by rw[ayW];omega);rw[ayW]at this;omega
  exact aBk ((aA6 hy).2 ((h _).1 (azA hx))) ((aA6 hx).2 ((h _).2 (azA hy)))
theorem aa8(b d n u v:Nat)(hn:0<n)(hq:2 ^ (b+1)<=d / n):rq b ((2*(d / n)+(d % n !=0).toNat)*2 ^ u) (2 ^ v)=rq b (2*d*2 ^ u) (n*2 ^ v):=by
 have hp:0<2 ^ (b+1):=acy _;have hst:=xY (d % n !=0)
 have axP:((2*(d / n)+(d % n !=0).toNat)*2 ^ u / 2 ^ v).log2=(2*d*2 ^ u / (n*2 ^ v)).log2:=by
  refine UL λ k=>?_;rw[ayv (acy _),ayv (aA7 hn (acy _)),<-ari,azK,<-ari]
  have hnd:n<=d:=by
   have:=(ayv hn (x:=1) (y:=d)).1 (by omega);omega
  by_cases hk:k+v<=u
  .have hle:2 ^ (k+v)<=2 ^ u:=as5 (by decide) hk
   constructor
   .intro _;exact apL (azQ hnd hle) (agT _ (by omega))
   .intro _
    exact apL hle (aAe _ (by omega))
  .obtain⟨w,hw⟩:∃w,k+v=w+1+u:=⟨k+v - u - 1,by omega⟩
   rw[hw,ari,<-avH,aCu (acy u),aCu (acy u),ayD];have hiff:=ayv hn (x:=2 ^ w) (y:=d);have e:n*(2 ^ w*2)=2*(2 ^ w*n):=by rw[aye,avH,azK]
   rw[e];omega
 have hl:u+2<=v+(((2*(d / n)+(d % n !=0).toNat)*2 ^ u / 2 ^ v).log2 - b):=by
  by_cases h:v<=b+2+u
  .have h1:2 ^ (b+2+u - v)<=(2*(d / n)+(d % n !=0).toNat)*2 ^ u / 2 ^ v:=by
    rw[ayv (acy _),<-ari,aBP h,ari];refine agT _ ?_;rw[ayD];omega
   have h0:(2*(d / n)+(d % n !=0).toNat)*2 ^ u / 2 ^ v≠0:=by
    have:=acy (b+2+u - v);intro h0;rw[h0]at h1;omega
   have:=(aA6 h0).2 h1;omega
  .omega
 unfold rq;rw[axP]at hl ⊢;generalize(2*d*2 ^ u / (n*2 ^ v)).log2 - b=l at hl;obtain⟨k,hk⟩:∃k,v+l=k+2+u:=⟨v+l - u - 2,by omega⟩;congr 1;rw[<-ari,avH n,<-ari,hk,ari,Ay _ _ (acy u),XH d n k hn,<-avH,Ay _ _ (acy u)];have:=Ay d (n*2 ^ (k+1)) (c:=2) (by decide);rw[<-this,aye d 2,avH n,<-ayD]
theorem IU(s:Bool)(m k:Nat):signed s m k=signed s 1 0*((m:Int)*2 ^ k):=by
 cases s<;>simp[signed,ayC]
theorem wT(s:Bool)(m a b:Nat):signed s m (a+b)=signed s m a*2 ^ b:=by
 rw[IU,IU s m a,aCg,aCg,Int.pow_add]
def rv(b r:Nat):Nat:=if r<2 ^ b then r else(2 ^ b+r % 2 ^ b)*2 ^ (r / 2 ^ b - 1)
theorem Zm(b r:Nat):rv b r<rv b (r+1):=by
 have hN:0<2 ^ b:=acy b;unfold rv;generalize 2 ^ b=N at hN;by_cases h1:r+1<N
 .rw[if_pos (by omega),if_pos h1];omega
 .rw[if_neg h1]
  by_cases h2:r<N
  .rw[if_pos h2]
   have e:r+1=N:=by omega
   rw[e,aEO,Nat.div_self hN,aDP,ayW];omega
  .rw[if_neg h2]
   have hd:=ay1 r N;have hm:r % N<N:=aA8 _ hN;have hq:1<=r / N:=(ayv hN).2 (by omega);by_cases h3:r % N+1<N
   .have e1:(r+1) / N=r / N:=by
     rw[Nat.div_eq_iff hN];have:r / N*N=N*(r / N):=aye _ _;omega
    have e2:(r+1) % N=r % N+1:=by
     have:=ay1 (r+1) N;rw[e1]at this;omega
    rw[e1,e2];exact aAy (by omega) (acy _)
   .have h4:r % N+1=N:=by omega
    have e0:r+1=N*(r / N+1):=by rw[aAz];omega
    have e1:(r+1) / N=r / N+1:=by rw[e0,Nat.mul_div_cancel_left _ hN]
    have e2:(r+1) % N=0:=by rw[e0,aDC]
    rw[e1,e2];obtain⟨q,hq'⟩:∃q,r / N=q+1:=⟨r / N - 1,by omega⟩;rw[hq',azB,azB,ayD,ayO,aye (2 ^ q) 2,<-avH];exact aAy (by omega) (acy _)
theorem BA(b:Nat){r:Nat}:∀{q:Nat},r<q->rv b r<rv b q
 | 0,h=>by omega
 |q+1,h=>by
  rcases az7 (Nat.lt_succ_iff.1 h)with e |e
  .rw[e];exact Zm b q
  .exact Nat.lt_trans (BA b e) (Zm b q)
theorem Aw(b r q:Nat):rv b r<rv b q↔r<q:=by
 constructor
 .intro h
  rcases aDB r q with e |e |e
  .exact e
  .rw[e]at h;omega
  .have:=BA b e;omega
 .exact BA b
theorem Df(b:Nat):rv b 0=0:=by unfold rv;rw[if_pos (acy b)]
theorem Ec{m:Nat}(k:Nat)(hm:m≠0):(m*2 ^ k).log2=m.log2+k:=by rw[<-ayC,Sl k hm]
theorem Zn(a:Nat):xI a 1=a:=by
 unfold xI;rw[aBA,Nat.mod_one];rfl
theorem acY(b r:Nat):rq b (rv b r) 1=r:=by
 have hN:0<2 ^ b:=acy b;unfold rq rv;rw[aBA];by_cases h:r<2 ^ b
 .rw[if_pos h]
  have hl:r.log2 - b=0:=by
   by_cases h0:r=0
   .rw[h0];simp
   .have:=(aBy h0).2 h;omega
  rw[hl,aza,avB,ayW,Zn]
 .rw[if_neg h]
  have hm:r % 2 ^ b<2 ^ b:=aA8 _ hN;have hd:=ay1 r (2 ^ b);have hq:1<=r / 2 ^ b:=(ayv hN).2 (by omega)
  have hl:((2 ^ b+r % 2 ^ b)*2 ^ (r / 2 ^ b - 1)).log2=b+(r / 2 ^ b - 1):=by
   rw[Ec _ (by omega)];congr 1;rw[aEg (by omega),ayD];omega
  rw[hl,Nat.add_sub_cancel_left,Ay _ 1 (acy _),Zn];obtain⟨q,hq'⟩:∃q,r / 2 ^ b=q+1:=⟨r / 2 ^ b - 1,by omega⟩;rw[hq',aAz]at hd;rw[hq',azB,aye q];omega
def jT(x:Nat):Bool:=x / 9223372036854775808 % 2==1
def rung(x:Nat):Nat:=x % 9223372036854775808
def key(x:Nat):Int:=cond (jT x) (-(rung x:Int)) (rung x)
def isFin(x:Nat):Bool:=afC (rung x) 9218868437227405312
def val(x:Nat):Int:=cond (jT x) (-(rv 52 (rung x):Int)) (rv 52 (rung x))
theorem yU{x:Nat}(h:isFin x=true):rung x<9218868437227405312:=Sr h
theorem aeo{r:Nat}(h:r<4503599627370496):rv 52 r=r:=by unfold rv;rw[if_pos (show r<2 ^ 52 from h)]
theorem Ai{r:Nat}(h:¬r<4503599627370496):rv 52 r=(4503599627370496+r % 4503599627370496)*2 ^ (r / 4503599627370496 - 1):=by
 unfold rv;rw[if_neg (show ¬r<2 ^ 52 from h)]
theorem oW(s:Bool)(m k:Nat):signed s m k=cond s (-((m*2 ^ k:Nat):Int)) ((m*2 ^ k:Nat):Int):=by
 unfold signed;rw[ayC];cases s<;>rfl
theorem iQ{x:Nat}(h:isFin x=true):∃m i,double.read x=.number (jT x) m i/\-1074<=i/\m<9007199254740992/\rv 52 (rung x)=m*2 ^ (i+1074).toNat:=by
 have hl:=yU h;unfold rung at hl ⊢;unfold Format.read jT;simp only[D7,O5,Ed,uO];by_cases h1:x % 9223372036854775808<4503599627370496
 .rw[if_pos h1]
  refine⟨_,_,rfl,by omega,by omega,?_⟩;rw[aeo h1,show(-1074+1074:Int).toNat=0 from rfl,ayW,ayY]
 .rw[if_neg h1,if_pos hl]
  have:=aA8 (x % 9223372036854775808) (show 0<4503599627370496 by decide);refine⟨_,_,rfl,by omega,by omega,?_⟩;rw[Ai h1];congr 2;omega
theorem zH{x:Nat}(h:rung x=9218868437227405312):double.read x=.infinity (jT x):=by
 unfold rung at h;unfold Format.read jT;simp only[D7,O5,Ed,uO,h];rfl
theorem oJ{x:Nat}(h:aL x=false):isFin x=true\/rung x=9218868437227405312:=by
 cases hf:isFin x
 .right
  have h1:¬rung x<9218868437227405312:=λ hl=>by
   have:isFin x=true:=ah4 hl;rw[hf]at this;cases this
  unfold rung at h1 ⊢;unfold aL Format.read at h;simp only[D7,O5,Ed,uO]at h;rw[if_neg (by omega),if_neg h1]at h;by_cases he:x % 9223372036854775808=9218868437227405312
  .exact he
  .rw[if_neg he]at h;simp[Datum.isNaN]at h
 .exact ER rfl
theorem jP{x:Nat}(h:isFin x=true):aL x=false:=by
 obtain⟨m,i,hr,_⟩:=iQ h;unfold aL;rw[hr];rfl
theorem qV{a b c d:Int}(h1:a<b↔c<d)(h2:a=b↔c=d):compare a b=compare c d:=by
 show compareOfLessAndEq a b=compareOfLessAndEq c d;unfold compareOfLessAndEq;simp only[h1,h2]
theorem aa9{x y:Nat}(hx:isFin x=true)(hy:isFin y=true):double.order x y=some (compare (val x) (val y)):=by
 obtain⟨m,i,hrx,hi,_,hvx⟩:=iQ hx;obtain⟨n,j,hry,hj,_,hvy⟩:=iQ hy;unfold Format.order;rw[hrx,hry];simp only[Datum.order,jN]
 have e1:val x=signed (jT x) m (i - min i j).toNat*2 ^ (min i j+1074).toNat:=by
  rw[<-wT,show(i - min i j).toNat+(min i j+1074).toNat=(i+1074).toNat by omega,oW,<-hvx];rfl
 have e2:val y=signed (jT y) n (j - min i j).toNat*2 ^ (min i j+1074).toNat:=by
  rw[<-wT,show(j - min i j).toNat+(min i j+1074).toNat=(j+1074).toNat by omega,oW,<-hvy];rfl
 have hp:(0:Int)<2 ^ (min i j+1074).toNat:=aEX (by decide);rw[e1,e2];generalize(2:Int) ^ (min i j+1074).toNat=c at hp;refine qV ?_ ?_
 .exact(Int.mul_lt_mul_right hp).symm
 .exact(Int.mul_eq_mul_right_iff (by omega)).symm
theorem JR{x y:Nat}:val x<val y↔key x<key y:=by
 unfold val key;have a1:=Aw 52 (rung x) (rung y);have a2:=Aw 52 (rung y) (rung x);have a3:=Aw 52 0 (rung x);have a4:=Aw 52 0 (rung y);rw[Df]at a3 a4;cases jT x<;>cases jT y<;>simp only[cond_true,cond_false]<;>omega
theorem oF{x y:Nat}:val x<=val y↔key x<=key y:=by
 have:=JR (x:=y) (y:=x);omega
theorem Au{x y:Nat}(hx:aL x=false)(hy:aL y=false):double.order x y=some (compare (key x) (key y)):=by
 rcases oJ hx with fx |ix
 .rcases oJ hy with fy |iy
  .rw[aa9 fx fy]
   have:=JR (x:=x) (y:=y);have:=JR (x:=y) (y:=x);exact congrArg some (qV (by omega) (by omega))
  .obtain⟨m,i,hr,_⟩:=iQ fx
   have hl:=yU fx;unfold Format.order;rw[hr,zH iy];simp only[Datum.order,jN];unfold key;rw[iy];cases jT y
   .exact(show compare _ _=compare (0:Int) 1 from qV (by cases jT x<;>simp only[cond_true,cond_false]<;>omega) (by cases jT x<;>simp only[cond_true,cond_false]<;>omega)).symm
   .exact(show compare _ _=compare (1:Int) 0 from qV (by cases jT x<;>simp only[cond_true,cond_false]<;>omega) (by cases jT x<;>simp only[cond_true,cond_false]<;>omega)).symm
 .rcases oJ hy with fy |iy
  .obtain⟨m,i,hr,_⟩:=iQ fy
   have hl:=yU fy;unfold Format.order;rw[hr,zH ix];simp only[Datum.order,jN];unfold key;rw[ix];cases jT x
   .exact(show compare _ _=compare (1:Int) 0 from qV (by cases jT y<;>simp only[cond_true,cond_false]<;>omega) (by cases jT y<;>simp only[cond_true,cond_false]<;>omega)).symm
   .exact(show compare _ _=compare (0:Int) 1 from qV (by cases jT y<;>simp only[cond_true,cond_false]<;>omega) (by cases jT y<;>simp only[cond_true,cond_false]<;>omega)).symm
  .unfold Format.order key
   rw[zH ix,zH iy,ix,iy];cases jT x<;>cases jT y<;>decide
theorem aei(a b:Int):(compare a b==Ordering.lt)=decide (a<b):=by
 show(compareOfLessAndEq a b==Ordering.lt)=_;unfold compareOfLessAndEq;by_cases h:a<b
 .simp[h]
 .by_cases h2:a=b
  .simp[h2]
  .simp[h,h2]
theorem cmp_eq(a b:Int):(compare a b==Ordering.eq)=decide (a=b):=by
 show(compareOfLessAndEq a b==Ordering.eq)=_;unfold compareOfLessAndEq;by_cases h:a<b
 .have:a≠b:=by omega
  simp[h,this]
 .by_cases h2:a=b
  .simp[h2]
  .simp[h,h2]
theorem ana(a b:Int):(compare a b==Ordering.gt)=decide (b<a):=by
 show(compareOfLessAndEq a b==Ordering.gt)=_;unfold compareOfLessAndEq;by_cases h:a<b
 .have:¬b<a:=by omega
  simp[h,this]
 .by_cases h2:a=b
  .simp[h2]
  .have:b<a:=by omega
   simp[h,h2,this]
theorem vY(a b:Ordering):(some a==some b)=(a==b):=rfl
theorem Ot{x y:Nat}(hx:aL x=false)(hy:aL y=false):jO x y=decide (key x<key y):=by
 unfold jO;rw[Au hx hy,vY,aei]
theorem Hu{x y:Nat}(hx:aL x=false)(hy:aL y=false):dK x y=decide (key x=key y):=by
 unfold dK;rw[Au hx hy,vY,cmp_eq]
theorem Oq{x y:Nat}(hx:aL x=false)(hy:aL y=false):kL x y=decide (key x<=key y):=by
 unfold kL;rw[Au hx hy,vY,vY,aei,cmp_eq,aBi];simp;omega
theorem Oo{x y:Nat}(hx:aL x=false)(hy:aL y=false):lK x y=decide (key y<=key x):=by
 unfold lK;rw[Au hx hy,vY,vY,ana,cmp_eq,aBi];simp;omega
theorem Cu{x y:Nat}{o:Ordering}(h:double.order x y=some o):aL x=false/\aL y=false:=by
 constructor
 .cases hx:aL x
  .rfl
  .have:double.order x y=none:=nQ hx
   rw[this]at h;cases h
 .cases hy:aL y
  .rfl
  .have:double.order x y=none:=qp hy
   rw[this]at h;cases h
theorem aej{x y:Nat}(h:kL x y=true):aL x=false/\aL y=false/\key x<=key y:=by
 have h':=h;unfold kL at h;cases ho:double.order x y with
 |none=>rw[ho]at h;cases h
 |some o =>
  obtain⟨a,b⟩:=Cu ho;rw[Oq a b]at h';exact⟨a,b,of_decide_eq_true h'⟩
theorem aek{x y:Nat}(h:lK x y=true):aL x=false/\aL y=false/\key y<=key x:=by
 have h':=h;unfold lK at h;cases ho:double.order x y with
 |none=>rw[ho]at h;cases h
 |some o =>
  obtain⟨a,b⟩:=Cu ho;rw[Oo a b]at h';exact⟨a,b,of_decide_eq_true h'⟩
theorem vg{x y:Nat}(h:dK x y=true):aL x=false/\aL y=false/\key x=key y:=by
 have h':=h;unfold dK at h;cases ho:double.order x y with
 |none=>rw[ho]at h;cases h
 |some o =>
  obtain⟨a,b⟩:=Cu ho;rw[Hu a b]at h';exact⟨a,b,of_decide_eq_true h'⟩
def KR(v:Int)(g:Nat):Int:=cond (decide (v<0)) (-((min (rq 52 v.natAbs g) 9218868437227405312:Nat):Int)) ((min (rq 52 v.natAbs g) 9218868437227405312:Nat):Int)
theorem D9{v w:Int}(g:Nat)(h:v<=w):KR v g<=KR w g:=by
 unfold KR;by_cases h1:v<0
 .rw[decide_eq_true h1,cond_true]
  by_cases h2:w<0
  .rw[decide_eq_true h2,cond_true]
   have:=vo 52 (g:=g) (show w.natAbs<=v.natAbs by omega);omega
  .rw[decide_eq_false h2,cond_false];omega
 .rw[decide_eq_false h1,decide_eq_false (show ¬w<0 by omega),cond_false,cond_false]
  have:=vo 52 (g:=g) (show v.natAbs<=w.natAbs by omega);omega
theorem U3(v:Int){g:Nat}(hg:0<g):KR (-v) g=- KR v g:=by
 unfold KR;rw[azU];rcases aDD v 0 with h |h |h
 .rw[decide_eq_true h,decide_eq_false (show ¬ -v<0 by omega),cond_true,cond_false,Int.neg_neg]
 .subst h
  rw[Int.neg_zero,aAA,uo 52 hg];decide
 .rw[decide_eq_false (show ¬v<0 by omega),decide_eq_true (show -v<0 by omega),cond_true,cond_false]
theorem aiG{g:Nat}(hg:0<g):KR 0 g=0:=by
 unfold KR;rw[aAA,uo 52 hg];decide
theorem Ie{v:Int}{g:Nat}:(0<=v->0<=KR v g)/\(v<=0->0<g->KR v g<=0):=by
 unfold KR;constructor
 .intro h;rw[decide_eq_false (show ¬v<0 by omega),cond_false];omega
 .intro h hg
  by_cases h0:v=0
  .subst h0;rw[aAA,uo 52 hg];decide
  .rw[decide_eq_true (show v<0 by omega),cond_true];omega
theorem I6(s:Bool){r:Nat}(h:r<=9218868437227405312):key (double.word s r)=cond s (-(r:Int)) r:=by
 unfold key rung jT Format.word;rw[D7];cases s
 .have h1:r / 9223372036854775808=0:=azX (by omega)
  have h2:r % 9223372036854775808=r:=aDU (by omega);simp[h1,h2]
 .have h1:(9223372036854775808+r) / 9223372036854775808=1:=by omega
  have h2:(9223372036854775808+r) % 9223372036854775808=r:=by omega
  simp[h1,h2]
theorem uq{s:Bool}{m u w:Nat}{p:Int}{v:Int}{g:Nat}(hg:0<g)(hp:p+1074=u - w)(ha:rq 52 (m*2 ^ u) (2 ^ w)=rq 52 v.natAbs g)(hs:v≠0->s=decide (v<0)):key (double.nearest s m p)=KR v g:=by
 rw[JM s m u w p hp,ha,O5,I6 _ (aDZ _ _)];unfold KR;by_cases h0:v=0
 .subst h0
  rw[aAA,uo 52 hg];cases s<;>decide
 .rw[hs h0]
theorem JN{x m:Nat}{i base:Int}(hv:rv 52 (rung x)=m*2 ^ (i+1074).toNat)(h1:base<=i)(h2:-1074<=base):val x=signed (jT x) m (i - base).toNat*2 ^ (base+1074).toNat:=by
 rw[<-wT,show(i - base).toNat+(base+1074).toNat=(i+1074).toNat by omega,oW,<-hv];rfl
theorem aiH{x:Nat}{s t:Bool}{m n:Nat}{i j:Int}{r:Bool}{a b:Int}(hi:-1074<=i)(hj:-1074<=j)
  (ea:a=signed s m (i - min i j).toNat*2 ^ (min i j+1074).toNat) (eb:b=signed t n (j - min i j).toNat*2 ^ (min i j+1074).toNat)
  (hr:x=double.write (.number r (signed s m (i - min i j).toNat+signed t n (j - min i j).toNat).natAbs (min i j)))
  (hs:signed s m (i - min i j).toNat+signed t n (j - min i j).toNat≠0->r=decide (signed s m (i - min i j).toNat+signed t n (j - min i j).toNat<0)):key x=KR (a+b) 1:=by
 generalize signed s m (i - min i j).toNat=A at *;generalize signed t n (j - min i j).toNat=B at *;have e:a+b=(A+B)*2 ^ (min i j+1074).toNat:=by rw[ea,eb,Int.add_mul]
 have hc:(0:Int)<2 ^ (min i j+1074).toNat:=aEX (by decide);rw[hr,e];refine uq (u:=(min i j+1074).toNat) (w:=0) (by decide) (by omega) ?_ ?_
 .rw[ayJ,Int.natAbs_pow];rfl
 .intro h0
  have hAB:A+B≠0:=λ h=>h0 (by rw[h,aAi]);rw[hs hAB];refine decide_eq_decide.2 ?_;constructor
  .intro h;exact azr h hc
  .intro h
   rcases aDD (A+B) 0 with h1 |h1 |h1
   .exact h1
   .exact absurd h1 hAB
   .have:=aDi h1 hc;omega
theorem xH{x y:Nat}(hx:isFin x=true)(hy:isFin y=true):key (bq x y)=KR (val x+val y) 1/\aL (bq x y)=false:=by
 obtain⟨m,i,hrx,hi,_,hvx⟩:=iQ hx;obtain⟨n,j,hry,hj,_,hvy⟩:=iQ hy;constructor
 .unfold bq Format.add
  rw[hrx,hry];simp only[Datum.sum,amS,ayV];refine aiH hi hj (JN hvx (by omega) (by omega)) (JN hvy (by omega) (by omega)) rfl ?_;intro h;rw[if_neg h]
 .have:∃r,double.add x y=some r:=by unfold Format.add;rw[hrx,hry];exact⟨_,rfl⟩
  obtain⟨r,hr⟩:=this;unfold bq;rw[hr];exact MV hr
theorem gF(x:Nat):(val x).natAbs=rv 52 (rung x):=by unfold val;cases jT x<;>simp only[cond_true,cond_false]<;>omega
theorem val_neg{x:Nat}(h:val x≠0):jT x=decide (val x<0):=by
 unfold val at h ⊢;cases hs:jT x
 .rw[cond_false,decide_eq_false (by omega)]
 .rw[hs,cond_true]at h;rw[cond_true,decide_eq_true (by omega)]
theorem JO{a b:Int}(h:a*b≠0):(decide (a<0) ^^ decide (b<0))=decide (a*b<0):=by
 have ha:a≠0:=λ e=>h (by rw[e,aAi]);have hb:b≠0:=λ e=>h (by rw[e,aEP]);rcases aBQ ha with h1 |h1<;>rcases aBQ hb with h2 |h2
 .have:=Int.mul_pos_of_neg_of_neg h1 h2
  rw[decide_eq_true h1,decide_eq_true h2,decide_eq_false (by omega)];rfl
 .have:=azr h1 h2
  rw[decide_eq_true h1,decide_eq_false (by omega),decide_eq_true this];rfl
 .have:=Int.mul_neg_of_pos_of_neg h1 h2
  rw[decide_eq_false (by omega),decide_eq_true h2,decide_eq_true this];rfl
 .have:=aDi h1 h2
  rw[decide_eq_false (by omega),decide_eq_false (by omega),decide_eq_false (by omega)];rfl
theorem Oe{x y c:Nat}(hc:c=1074)(hx:isFin x=true)(hy:isFin y=true):key (bT x y)=KR (val x*val y) (2 ^ c)/\aL (bT x y)=false:=by
 obtain⟨m,i,hrx,hi,_,hvx⟩:=iQ hx;obtain⟨n,j,hry,hj,_,hvy⟩:=iQ hy;constructor
 .unfold bT Format.mul
  rw[hrx,hry];simp only[Datum.product,amS,ayV,Format.write];refine uq (u:=(i+1074).toNat+(j+1074).toNat) (w:=c) (acy _) (by omega) ?_ ?_
  .rw[ayJ,gF,gF,hvx,hvy,ari]
   congr 1;rw[avH,avH,azK n]
  .intro h
   have ha:val x≠0:=λ e=>h (by rw[e,aAi]);have hb:val y≠0:=λ e=>h (by rw[e,aEP]);rw[val_neg ha,val_neg hb,JO h]
 .have:∃r,double.mul x y=some r:=by unfold Format.mul;rw[hrx,hry];exact⟨_,rfl⟩
  obtain⟨r,hr⟩:=this;unfold bT;rw[hr];exact MW hr
def sg(v:Int):Int:=cond (decide (v<0)) (-1) 1
theorem Ig{x y c:Nat}(hc:c=1074)(hx:isFin x=true)(hy:isFin y=true)(h0:val y≠0):key (fdiv x y)=KR (val x*sg (val y)*((2 ^ c:Nat):Int)) (val y).natAbs/\aL (fdiv x y)=false:=by
 obtain⟨m,i,hrx,hi,hm,hvx⟩:=iQ hx;obtain⟨n,j,hry,hj,hn,hvy⟩:=iQ hy
 have hn0:n≠0:=λ e=>h0 (by
  have:(val y).natAbs=0:=by rw[gF,hvy,e,aza]
  omega)
 have hr:double.div x y=some (double.write (.number (jT x ^^ jT y) (2*(m <<< (54+n.log2 - m.log2) / n)+(m <<< (54+n.log2 - m.log2) % n !=0).toNat) (i - j - (54+n.log2 - m.log2:Nat) - 1))):=by
  unfold Format.div;rw[hrx,hry];simp only[Datum.quotient];rw[if_neg hn0];rfl
 refine⟨?_,by unfold fdiv;rw[hr];exact MX hr⟩;unfold fdiv;rw[hr,ayV];have hsg:(sg (val y)).natAbs=1:=by unfold sg;cases decide (val y<0)<;>rfl
 have hP:0<(2 ^ c:Nat):=acy _;refine uq (u:=(i+1074).toNat+c) (w:=(j+1074).toNat+(54+n.log2 - m.log2)+1) (by omega) (by omega) ?_ ?_
 .rw[ayJ,ayJ,hsg,ayY,av1,gF,gF,hvx,hvy]
  by_cases hm0:m=0
  .rw[hm0,Nat.zero_shiftLeft,aCU,Nat.zero_mod,aza,aza]
   show rq 52 (0*_) _=_;rw[aza,uo 52 (acy _),uo 52 (aA7 (by omega) (acy _))]
  .have hl:=aa7 hm
   have hq:2 ^ (52+1)<=m <<< (54+n.log2 - m.log2) / n:=by
    rw[ayv (by omega)]
    have h1:2 ^ (54+n.log2)<=m <<< (54+n.log2 - m.log2):=by
     rw[ayC];have:=agT (2 ^ (54+n.log2 - m.log2)) (azA hm0);rw[<-ari,show m.log2+(54+n.log2 - m.log2)=54+n.log2 by omega]at this;exact this
    refine apL ?_ h1;rw[show 54+n.log2=(52+1)+(n.log2+1) by omega,ari 2 (52+1)];exact ax9 _ (azO azW)
   rw[aa8 52 _ n _ _ (by omega) hq,ayC];generalize 54+n.log2 - m.log2=k;have:=Ca 52 (m*2 ^ (i+1074).toNat*2 ^ c) (n*2 ^ (j+1074).toNat) (acy (k+1));rw[<-this];congr 1
   .rw[ari,ayD]
    generalize 2 ^ (i+1074).toNat=a;generalize 2 ^ c=b;generalize 2 ^ k=d;simp only[avH,aye,azK]
   .rw[avH,<-ari,aAq]
 .intro h
  have hP':(0:Int)<((2 ^ c:Nat):Int):=Int.ofNat_lt.2 hP;generalize((2 ^ c:Nat):Int)=P at h hP';have h1:val x*sg (val y)≠0:=λ e=>h (by rw[e,aAi]);have ha:val x≠0:=λ e=>h1 (by rw[e,aAi]);have h2:=JO h;rw[<-h2,decide_eq_false (show ¬P<0 by omega),Bool.xor_false,<-JO h1,val_neg ha,val_neg h0];congr 1;unfold sg;cases decide (val y<0)<;>decide
theorem M9{a b o:Nat}(ha:isFin a=true)(hb:isFin b=true)(ho:isFin o=true)(h:key a<=key b):key (bq a o)<=key (bq b o):=by
 rw[(xH ha ho).1,(xH hb ho).1];have:=oF.2 h;exact D9 1 (by omega)
theorem Ae{x:Nat}:0<val x↔0<key x:=by
 have h:=JR (x:=0) (y:=x);have h1:val 0=0:=by decide +kernel
 have h2:key 0=0:=by decide +kernel
 rw[h1,h2]at h;exact h
theorem qE{x:Nat}:val x<0↔key x<0:=by
 have h:=JR (x:=x) (y:=0);have h1:val 0=0:=by decide +kernel
 have h2:key 0=0:=by decide +kernel
 rw[h1,h2]at h;exact h
theorem abQ{a b d:Nat}(ha:isFin a=true)(hb:isFin b=true)(hd:isFin d=true)(h0:0<key d)(h:key a<=key b):key (fdiv a d)<=key (fdiv b d):=by
 have hv:=Ae.2 h0;obtain⟨c,hc⟩:∃c,c=1074:=⟨_,rfl⟩;rw[(Ig hc ha hd (by omega)).1,(Ig hc hb hd (by omega)).1];have hsg:sg (val d)=1:=by unfold sg;rw[decide_eq_false (by omega)];rfl
 rw[hsg,aDj,aDj];exact D9 _ (aB5 (oF.2 h) (azv _))
theorem yQ{x lo hi:Nat}(h0:aL x=false)(h1:key lo<=key x)(h2:key x<=key hi)(hl:-9218868437227405312<key lo)(hh:key hi<9218868437227405312):isFin x=true:=by
 rcases oJ h0 with h |h
 .exact h
 .exfalso
  have e:key x=9218868437227405312\/key x=-9218868437227405312:=by
   unfold key;rw[h];cases jT x
   .exact ER rfl
   .exact aaH rfl
  omega
def pw(n:Nat):Nat:=(n - 51)*4503599627370496
theorem YZ{n:Nat}(h:52<=n):rv 52 (pw n)=2 ^ n:=by
 obtain⟨k,rfl⟩:∃k,n=52+k:=⟨n - 52,by omega⟩;have e:pw (52+k)=(k+1)*4503599627370496:=by unfold pw;congr 1;omega
 rw[e,Ai (by omega),aD0,aAO _ (by decide),ayO,azB,ari]
def Bd(n x:Nat):Prop:=rung x<=pw n
theorem Bd.fin{n x:Nat}(h:Bd n x)(hn:n<=2097):isFin x=true:=by
 unfold Bd pw at h;unfold isFin;exact ah4 (by show rung x+1<=_;omega)
theorem Bd.val{n x:Nat}(h:Bd n x)(hn:52<=n):(val x).natAbs<=2 ^ n:=by
 rw[gF,<-YZ hn];rcases aA4 (rung x) (pw n)with e |e
 .exact azO (BA 52 e)
 .rw[show rung x=pw n from aBk h e];exact ao5 _
theorem kQ(x:Nat):(key x).natAbs=rung x:=by unfold key;cases jT x<;>simp only[cond_true,cond_false]<;>omega
theorem acX(v:Int)(g:Nat):(KR v g).natAbs<=rq 52 v.natAbs g:=by
 unfold KR;cases decide (v<0)
 .rw[cond_false,av1];exact aEi _ _
 .rw[cond_true,azU,av1];exact aEi _ _
theorem YF{x g n:Nat}{v:Int}(hk:key x=KR v g)(hg:0<g)(hv:v.natAbs<=2 ^ n*g)(hn:52<=n):Bd n x:=by
 unfold Bd;rw[<-kQ,hk];refine apL (acX v g) (apL (vo 52 hv) ?_);have:=Ca 52 (2 ^ n) 1 hg;rw[azc]at this;rw[this,<-YZ hn,acY];exact ao5 _
theorem Bd.mono{n m x:Nat}(h:Bd n x)(hm:n<=m):Bd m x :=
 apL h (agT _ (Nat.sub_le_sub_right hm _))
theorem YH{r q:Nat}(h:r<=q):rv 52 r<=rv 52 q:=by
 rcases aA4 r q with e |e
 .exact azO (BA 52 e)
 .rw[aBk h e];exact ao5 _
theorem val_zero{x:Nat}:val x=0↔rung x=0:=by
 constructor
 .intro h
  have h1:=gF x;rw[h,aAA]at h1;rcases Nat.eq_zero_or_pos (rung x)with e |e
  .exact e
  .have:=BA 52 e;rw[Df]at this;omega
 .intro h
  have h1:=gF x;rw[h,Df]at h1;omega
theorem Q6{x:Nat}(h:aL x=false):key (fI x)=- key x/\aL (fI x)=false:=by
 have hx:∀s r,r<=9218868437227405312->key (fI (double.word s r))=- key (double.word s r)/\aL (fI (double.word s r))=false:=λ s r hr=>by
  rw[aaQ s hr,I6 _ hr,I6 _ hr,qZ _ hr];cases s<;>simp
 have e:fI x=x ^^^ 9223372036854775808:=by unfold fI;rw[h];rfl
 have hr:rung x<=9218868437227405312:=by
  rcases oJ h with h |h
  .have:=yU h;omega
  .omega
 have hb:(x ^^^ 9223372036854775808) % 9223372036854775808=x % 9223372036854775808:=by
  rw[show(9223372036854775808:Nat)=2 ^ 63 from by decide];rw[aDk,aEO];simp
 have hs:jT (x ^^^ 9223372036854775808)=!jT x:=by
  unfold jT
  have:(x ^^^ 9223372036854775808) / 9223372036854775808=x / 9223372036854775808 ^^^ 1:=by
   rw[show(9223372036854775808:Nat)=2 ^ 63 from by decide,<-azT,<-azT,Nat.shiftRight_xor_distrib];rfl
  rw[this]
  have h2:(x / 9223372036854775808 ^^^ 1) % 2=(x / 9223372036854775808 % 2) ^^^ 1:=by
   rw[show(2:Nat)=2 ^ 1 from rfl,aDk]
  rw[h2];have:x / 9223372036854775808 % 2=0\/x / 9223372036854775808 % 2=1:=by omega
  rcases this with e |e<;>rw[e]<;>rfl
 rw[e];constructor
 .unfold key
  rw[hs];have:rung (x ^^^ 9223372036854775808)=rung x:=hb;rw[this];cases jT x<;>simp
 .unfold aL at *
  rw[q8]at *;rw[hb];exact h
structure Sc(j x y:Nat):Prop where
 s:jT x=jT y
 fx:isFin x=true
 fy:isFin y=true
 r:(rung x=0/\rung y=0)\/(2 ^ 52<=rung x/\rung y=rung x+j*2 ^ 52)
theorem afL{r:Nat}(j:Nat)(h:2 ^ 52<=r):rv 52 (r+j*2 ^ 52)=rv 52 r*2 ^ j:=by
 have p:0<2 ^ 52:=acy 52;unfold rv;generalize 2 ^ 52=b at *;rw[if_neg (by have:r<=r+j*b:=aDV _ _;omega),if_neg (by omega),Nat.add_mul_mod_self_right,Nat.add_mul_div_right _ _ p];have:1<=r / b:=(ayv p).2 (by omega);rw[show r / b+j - 1=(r / b - 1)+j by omega,ari,avH]
theorem Sc.val{j x y:Nat}(h:Sc j x y):val y=val x*((2 ^ j:Nat):Int):=by
 unfold Go.Ev.val;rw[<-h.s]
 have e:rv 52 (rung y)=rv 52 (rung x)*2 ^ j:=by
  rcases h.r with⟨a,b⟩ | ⟨a,b⟩
  .rw[a,b,Df,aza]
  .rw[b];exact afL j a
 rw[e];cases jT x
 .simp only[cond_false];push_cast;rfl
 .simp only[cond_true];push_cast;rw[aBB]
theorem afl{v:Int}{g:Nat}(h:rq 52 v.natAbs g<9218868437227405312):(KR v g).natAbs=rq 52 v.natAbs g:=by
 unfold KR;rw[aCk (azO h)];cases decide (v<0)
 .rw[cond_false,av1]
 .rw[cond_true,azU,av1]
theorem afR(v:Int)(g:Nat){m:Nat}(hm:0<m):KR (v*(m:Int)) (g*m)=KR v g:=by
 unfold KR;have e:=Ca 52 v.natAbs g hm;rw[ayJ,av1,e];have hg':(0:Int)<(m:Int):=by omega
 by_cases h:v<0
 .rw[decide_eq_true h,decide_eq_true (azr h hg')]
 .rw[decide_eq_false h,decide_eq_false (aFh.2 (aC7 (by omega) (by omega)))]
theorem zI{x:Nat}(h:rung x=0):double.read x=.number (jT x) 0 (-1074):=by
 unfold rung at h;unfold Format.read jT;simp only[D7,O5,Ed,uO];rw[h,if_pos (by decide)]
theorem abv{a g:Nat}(hg:0<g)(h:g∣a):xI a g=a / g:=by
 obtain⟨t,rfl⟩:=h;unfold xI;rw[aDC,aEM];have h1:decide (g<0)=false:=decide_eq_false (azu _)
 have h2:(g==0)=false:=by
  cases h3:g==0
  .rfl
  .have:=eq_of_beq h3;omega
 rw[h1,h2];rfl
theorem aqH{a:Nat}(h:2 ^ 52<=a):2 ^ 52<=xI a (2 ^ (a.log2 - 52))/\xI a (2 ^ (a.log2 - 52))<=2 ^ 53:=by
 have h0:a≠0:=by have:=acy 52;omega
 have hL:52<=a.log2:=(aA6 h0).2 h;have l1:=azA h0;have l2:=azW (n:=a);constructor
 .refine apL ?_ (Qf _ _)
  rw[ayv (acy _),<-ari,show 52+(a.log2 - 52)=a.log2 by omega];exact l1
 .refine apL (Qe _ _) ?_
  have:a / 2 ^ (a.log2 - 52)<2 ^ 53:=by
   rw[aAu (acy _),<-ari,show 53+(a.log2 - 52)=a.log2+1 by omega];exact l2
  exact this
theorem atQ{a:Nat}(h:2 ^ 52<=a):rv 52 (rq 52 a 1)=xI a (2 ^ (a.log2 - 52))*2 ^ (a.log2 - 52):=by
 obtain⟨r1,r2⟩:=aqH h;unfold rq;rw[aBA,azc];generalize xI a (2 ^ (a.log2 - 52))=R at *;generalize a.log2 - 52=k;have p52:(2:Nat) ^ 52=4503599627370496:=by decide
 have p53:(2:Nat) ^ 53=9007199254740992:=by decide
 rw[p52]at r1;rw[p53]at r2;rw[p52,Ai (by omega)];rcases aA4 R 9007199254740992 with e |e
 .have h1:(k*4503599627370496+R) % 4503599627370496=R - 4503599627370496:=by omega
  have h2:(k*4503599627370496+R) / 4503599627370496=k+1:=by omega
  rw[h1,h2,azB,show 4503599627370496+(R - 4503599627370496)=R by omega]
 .have h0:R=9007199254740992:=by omega
  subst h0;have h1:(k*4503599627370496+9007199254740992) % 4503599627370496=0:=by omega
  have h2:(k*4503599627370496+9007199254740992) / 4503599627370496=k+2:=by omega
  rw[h1,h2,ayO,show k+2 - 1=k+1 by omega,ayD,show(9007199254740992:Nat)=4503599627370496*2 by decide,avH,aye (2 ^ k) 2]
def Gr(k x:Nat):Prop:=2 ^ k∣(val x).natAbs
theorem Gr.mono{k l x:Nat}(h:Gr k x)(hl:l<=k):Gr l x:=aED (aEj 2 hl) h
structure Wh(c x:Nat)(a:Int):Prop where
 fin:isFin x=true
 val:val x=a*((2 ^ c:Nat):Int)
theorem alp{c n:Nat}(hc:52<=c)(h0:n≠0)(h:n<2 ^ 53):rv 52 (rq 52 (n*2 ^ c) 1)=n*2 ^ c:=by
 have h52:2 ^ 52<=n*2 ^ c:=apL (as5 (by decide) hc) (aAe _ (by omega));have hl:n.log2<53:=(aBy h0).2 h
 have hd:2 ^ ((n*2 ^ c).log2 - 52)∣n*2 ^ c:=by
  rw[Ec c h0];exact aED (aEj 2 (by omega)) (Nat.dvd_mul_left _ _)
 rw[atQ h52,abv (acy _) hd,Nat.div_mul_cancel hd]
theorem ZT{c z:Nat}{a:Int}(hc:c=1074)(hz:key z=KR (a*((2 ^ c:Nat):Int)) 1)(ha:a.natAbs<2 ^ 53):Wh c z a:=by
 have hP:0<2 ^ c:=acy c;have en:(a*((2 ^ c:Nat):Int)).natAbs=a.natAbs*2 ^ c:=by rw[ayJ,av1]
 have hb:Bd (53+c) z:=by
  refine YF hz (by decide) ?_ (by omega);rw[en,ayY,ari];exact agT _ (by omega)
 have hf:isFin z=true:=hb.fin (by omega);refine⟨hf,?_⟩;by_cases h0:a=0
 .subst h0
  rw[aAi,aiG (by decide)]at hz;rw[aAi];refine val_zero.2 ?_;rw[<-kQ,hz];rfl
 .have hn:a.natAbs≠0:=by omega
  have hr:rung z=rq 52 (a.natAbs*2 ^ c) 1:=by
   have hlt:rq 52 (a*((2 ^ c:Nat):Int)).natAbs 1<9218868437227405312:=by
    rw[en];refine aDw (vo 52 (agT _ (azO ha))) ?_;rw[<-ari,<-YZ (by omega),acY];unfold pw;omega
   rw[<-kQ,hz,afl hlt,en]
  have hv:(val z).natAbs=a.natAbs*2 ^ c:=by rw[gF,hr,alp (by omega) hn ha]
  have hk0:key z≠0:=λ e=>by
   have e1:rung z=0:=by rw[<-kQ,e];rfl
   have e2:=val_zero.2 e1;rw[e2]at hv;have:=aA7 (Nat.pos_of_ne_zero hn) hP;have e3:(0:Int).natAbs=0:=rfl;omega
  generalize(2 ^ c:Nat)=P at *;rcases aBQ h0 with h |h
  .have hk:key z<0:=by
    have:=(Ie (v:=a*(P:Int)) (g:=1)).2 (by have:=azr h (show(0:Int)<P by omega);omega) (by decide);omega
   have h1:=qE.2 hk;have e:((a.natAbs*P:Nat):Int)=-a*P:=by rw[azn,show((a.natAbs:Nat):Int)=-a by omega]
   rw[aBB]at e;omega
  .have hk:0<key z:=by
    have:=(Ie (v:=a*(P:Int)) (g:=1)).1 (by have:=aDi h (show(0:Int)<P by omega);omega);omega
   have h1:=Ae.2 hk;have e:((a.natAbs*P:Nat):Int)=a*P:=by rw[azn,show((a.natAbs:Nat):Int)=a by omega]
   omega
section
variable{c x y:Nat}{a b:Int}(hc:c=1074)
include hc
omit hc
end
def VB(a j x:Nat):Prop:=isFin x=true/\(val x).natAbs<=a*2 ^ j
theorem VB.up{a j k x:Nat}(h:VB a j x)(hk:a<=2 ^ k):VB 1 (j+k) x:=⟨h.1,apL h.2 (by rw[azc,ari,aye];exact ax9 _ hk)⟩
theorem ZH{z g a j:Nat}{v:Int}(hz:key z=KR v g)(hg:0<g)(hv:v.natAbs<=a*2 ^ j*g)(ha:a≠0)(ha':a<2 ^ 53)(hj:52<=j)(hj':j<=2000):VB a j z:=by
 have h1:rung z<=rq 52 (a*2 ^ j) 1:=by
  rw[<-kQ,hz];exact apL (acX v g) (ajZ 52 hg (by decide) (by rw[ayY];exact hv))
 constructor
 .have h2:rq 52 (a*2 ^ j) 1<=pw (53+j):=by
   refine apL (vo 52 (agT _ (azO ha'))) ?_;rw[<-ari,<-YZ (by omega),acY];exact ao5 _
  have h3:Bd (53+j) z:=apL h1 h2;exact h3.fin (by omega)
 .rw[gF]
  have h4:=YH h1;rw[alp hj ha ha']at h4;exact h4
theorem ai4(a j:Nat):VB a j 0:=⟨by decide +kernel,by
 have:val 0=0:=val_zero.2 (by decide);rw[this];exact aAv _⟩
section
variable{c x y a b i j:Nat}(hc:c=1074)
theorem ae7(hx:VB a j x)(hy:VB b j y)(h0:a+b≠0)(h:a+b<2 ^ 53)(hj:52<=j)(hj':j<=2000):VB (a+b) j (bq x y):=by
 refine ZH (xH hx.1 hy.1).1 (by decide) ?_ h0 h hj hj';have h1:=hx.2;have h2:=hy.2;rw[ayY,asM];generalize a*2 ^ j=A at *;generalize b*2 ^ j=B at *;omega
include hc
theorem ae6{k:Nat}(hx:VB a i x)(hy:VB 1 j y)(hk:k+c=i+j)(h0:a≠0)(h:a<2 ^ 53)(hj:52<=k)(hj':k<=2000):VB a k (bT x y):=by
 refine ZH (Oe hc hx.1 hy.1).1 (acy _) ?_ h0 h hj hj';rw[ayJ,avH,<-ari,hk,ari,<-avH];have:=hy.2;rw[azc]at this;exact azQ hx.2 this
end
theorem aqN(way:Toward)(s:Bool)(n d:Nat):way.cut s n d<=n+1:=by
 unfold Toward.cut;exact aEv (Nat.div_le_self n _) (xY _)
theorem Td{c j x:Nat}(way:Toward)(hc:c=1074)(hx:VB 1 (c+j) x)(hj:53<=j):∃s M,(double.read x).integral way=.number s M 0/\M<=2 ^ j+1:=by
 obtain⟨m,i,h1,h2,h3,h4⟩:=iQ hx.1;have hv:=hx.2;rw[gF,h4,azc]at hv;rw[h1];refine⟨_,_,rfl,apL (aqN _ _ _ _) (aBo ?_ 1)⟩;rw[ayC];by_cases hi:0<=i
 .obtain⟨u,rfl⟩:∃u:Nat,i=u:=⟨i.toNat,by omega⟩
  rw[show((u:Int)+1074).toNat=u+c by omega,ari,<-avH,aEQ c j,ari]at hv;have:=aAH hv (acy c);rw[Zk];exact this
 .rw[show i.toNat=0 by omega,ayW,ayY]
  have:2 ^ 53<=2 ^ j:=as5 (by decide) hj;have e:2 ^ 53=9007199254740992:=by decide
  omega
theorem WJ{c j x:Nat}(hc:c=1074)(hx:VB 1 (c+j) x)(hj:53<=j)(hj':j<=60):Go.Gv.Ce .i64 x=true:=by
 obtain⟨s,M,h1,h2⟩:=Td .zero hc hx hj;have hM:M<=2 ^ 60+1:=apL h2 (aBo (as5 (by decide) hj') 1);have e60:2 ^ 60=1152921504606846976:=by decide
 unfold Go.Gv.Ce floatToIntVal
 have ht:(ayP.decode x).toInt .zero=some (signed s M 0):=by
  show(double.read x).toInt .zero=_;unfold Datum.toInt;rw[h1]
 rw[ht]
 have hs:signed s M 0=cond s (-(M:Int)) (M:Int):=by
  rw[oW,ayW,ayY]
 have h3:ayN.min<=signed s M 0/\signed s M 0<=ayN.max:=by
  rw[hs,show ayN.min=-9223372036854775808 by decide,show ayN.max=9223372036854775807 by decide];cases s
  .rw[cond_false];omega
  .rw[cond_true];omega
 simp only[h3,and_self,if_true];rfl
theorem FC{j k x:Nat}(h:VB 1 j x)(hk:j<=k):VB 1 k x:=⟨h.1,apL h.2 (ax9 _ (as5 (by decide) hk))⟩
theorem vV{c j x:Nat}(hc:c=1074)(h:(isFin x&&aqE (val x).natAbs (1*2 ^ (1074+j)))=true):VB 1 (c+j) x:=by
 subst hc;simp only[J8]at h;exact⟨h.1,Sr h.2⟩
end Go.Ev
namespace Go.Proofs.YtefphimaggjihaaGreatDoor
open Go.Gv
end Go.Proofs.YtefphimaggjihaaGreatDoor
namespace Go.Proofs.YtefphimaggjihaaGreatDoor.Hs
open Go.Gv
open Go.Ev (cn bq dI bT fdiv d9 fI dK jO kL gN lK fabs aL VB)
end Go.Proofs.YtefphimaggjihaaGreatDoor.Hs
namespace Go.Ev
open Ieee
theorem AJ{c:Nat}(hc:c=1074)(n:Int):key (cn (ayP.nearest n))=KR (n*((2 ^ c:Nat):Int)) 1/\aL (cn (ayP.nearest n))=false:=by
 have hd:ayP.nearest n=Ieee.double.nearest (decide (n<0)) n.natAbs 0:=rfl;have hn:aL (ayP.nearest n)=false:=by rw[hd];exact BK _ _ _
 rw[iI hn];refine⟨?_,hn⟩;rw[hd];refine uq (u:=c) (w:=0) (by decide) (by omega) ?_ ?_
 .rw[ayJ,av1,ayW]
 .intro h
  have hp:(0:Int)<((2 ^ c:Nat):Int):=by have:=acy c;omega
  by_cases h0:n<0
  .rw[decide_eq_true h0,decide_eq_true (azr h0 hp)]
  .rw[decide_eq_false h0,decide_eq_false (aFh.2 (aC7 (by omega) (by omega)))]
theorem Pv{c j:Nat}(hc:c=1074)(hj:j<=70){n:Int}(h:n.natAbs<=2 ^ j):VB 1 (c+j) (cn (ayP.nearest n)):=by
 refine ZH (AJ hc n).1 (by decide) ?_ (by decide) (by decide) (by omega) (by omega);rw[ayJ,av1,ayY,azc,ari,aye];exact ax9 _ h
theorem ZI{j x:Nat}(h:VB 1 j x):VB 1 j (fI x):=by
 obtain⟨e1,e2⟩:=Q6 (jP h.1);have er:rung (fI x)=rung x:=by rw[<-kQ,<-kQ,e1,azU]
 refine⟨?_,?_⟩
 .have:=h.1
  unfold isFin at this ⊢;rw[er];exact this
 .have:=h.2
  rw[gF]at this ⊢;rw[er];exact this
theorem aog{c j x:Nat}(hc:c=1074)(hx:VB 1 (c+j) x)(hj:53<=j)(hj':j<=60):(Go.Gv.LC .i64 x).natAbs<=2 ^ j+1:=by
 obtain⟨s,M,h1,h2⟩:=Td .zero hc hx hj;have hM:M<=2 ^ 60+1:=apL h2 (aBo (as5 (by decide) hj') 1);have e60:2 ^ 60=1152921504606846976:=by decide
 unfold Go.Gv.LC floatToIntVal
 have ht:(ayP.decode x).toInt .zero=some (signed s M 0):=by
  show(double.read x).toInt .zero=_;unfold Datum.toInt;rw[h1]
 rw[ht]
 have hs:signed s M 0=cond s (-(M:Int)) (M:Int):=by
  rw[oW,ayW,ayY]
 have h3:ayN.min<=signed s M 0/\signed s M 0<=ayN.max:=by
  rw[hs,show ayN.min=-9223372036854775808 by decide,show ayN.max=9223372036854775807 by decide];cases s
  .rw[cond_false];omega
  .rw[cond_true];omega
 simp only[h3,and_self,if_true,ayV];rw[hs];generalize 2 ^ j=B at *;cases s
 .rw[cond_false];omega
 .rw[cond_true];omega
end Go.Ev
namespace Go.Proofs.YtefphimaggjihaaGreatDoor.Hs.So
open Go.Gv
open Go.Ev (cn bq dI bT fdiv d9 fI dK jO kL gN lK fabs VB key aL isFin val)
theorem WO{c j:Nat}(hc:c=1074)(hj:j<=60){n:Int}(h:n.natAbs<=2 ^ (j+9)):VB 1 (c+j) (gJ n):=by
 have h1:=Go.Ev.Pv hc (j:=j+9) (by omega) h;have ev:val yP=((1000*2 ^ c:Nat):Int):=by subst hc;decide +kernel
 have hp:=acy c;have hk:=(Go.Ev.Ig hc h1.1 (show isFin yP=true by decide +kernel) (by rw[ev];omega)).1;unfold gJ;refine Go.Ev.ZH hk ?_ ?_ (by decide) (by decide) (by omega) (by omega)
 .rw[ev,av1];omega
 .rw[ev,ayJ,ayJ,av1,av1]
  have es:(Go.Ev.sg ((1000*2 ^ c:Nat):Int)).natAbs=1:=by
   unfold Go.Ev.sg;rw[decide_eq_false (by omega)];rfl
  rw[es,ayY,azc,<-avH];refine agT _ (apL h1.2 ?_);rw[azc,<-aAq,ari _ _ 9];exact ax9 _ (by decide)
theorem ae5{c j x:Nat}(hc:c=1074)(hj:j<=46)(h:VB 1 (c+j) x):VB 1 (c+(j+11)) (Ah x):=by
 have h1:=Go.Ev.ae6 hc h (Go.Ev.vV (j:=10) (x:=yP) hc (by decide +kernel)) (k:=c+(j+10)) (by omega) (by decide) (by decide) (by omega) (by omega);have h2:=Go.Ev.FC (Go.Ev.vV (j:=0) (x:=4602678819172646912) hc (by decide +kernel)) (show c+0<=c+(j+10) by omega);have h3:=Go.Ev.ae7 h1 h2 (by decide) (by decide) (by omega) (by omega);exact Go.Ev.VB.up (k:=1) h3 (by decide)
theorem anF{c j x:Nat}(hc:c=1074)(hj:j<=46)(h:VB 1 (c+j) x):rdB x=true:=by
 have go:∀{x},VB 1 (c+j) x->Ce .i64 (Ah x)=true:=fun{x} h=>Go.Ev.WJ (j:=57) hc (Go.Ev.FC (ae5 hc hj h) (by omega)) (by omega) (by omega);unfold rdB;cases jO x 0
 .exact go h
 .exact go (Go.Ev.ZI h)
theorem aoh{c j x:Nat}(hc:c=1074)(hj:j<=42)(h:VB 1 (c+j) x):(rdI x).natAbs<=2 ^ 54:=by
 have e53:2 ^ 53=9007199254740992:=by decide
 have e54:2 ^ 54=18014398509481984:=by decide
 have go:∀{x},VB 1 (c+j) x->(LC .i64 (Ah x)).natAbs<=2 ^ 53+1:=fun{x} h=>Go.Ev.aog (j:=53) hc (Go.Ev.FC (ae5 hc (by omega) h) (by omega)) (by omega) (by omega);unfold rdI;cases jO x 0
 .have:=go h
  rw[cond_false];omega
 .have:=go (Go.Ev.ZI h)
  rw[cond_true,aO (by omega) (by omega)];omega
theorem aeN{c j x:Nat}(hc:c=1074)(hj:j<=42)(h:VB 1 (c+j) x):VB 1 (c+45) (gJ (rdI x)):=WO hc (by decide) (aoh hc hj h)
theorem WQ{c j x:Nat}(hc:c=1074)(hj:j<=60)(h:VB 1 (c+j) x):VB 1 (c+j) (bT x 4598175219545276416) :=
 Go.Ev.ae6 hc h (Go.Ev.vV (j:=0) (x:=4598175219545276416) hc (by decide +kernel)) (k:=c+j) (by omega) (by decide) (by decide) (by omega) (by omega)
theorem Pn{c j x y:Nat}(hc:c=1074)(hj:j<=60)(h:VB 1 (c+j) x)(g:VB 1 (c+j) y):VB 1 (c+(j+1)) (bq x y):=by
 have h3:=Go.Ev.ae7 h g (by decide) (by decide) (by omega) (by omega);exact Go.Ev.VB.up (k:=1) h3 (by decide)
end Go.Proofs.YtefphimaggjihaaGreatDoor.Hs.So
namespace Go.Ev
open Ieee
theorem aqx(s:Bool)(n d:Nat):Toward.zero.cut s n d=n / 2 ^ d:=by
 unfold Toward.cut;show n / (1 <<< min d (n.log2+2))+0=n / 2 ^ d;rw[ayO,aBY];by_cases h:d<=n.log2+2
 .rw[aCk h]
 .rw[aCb (by omega)]
  have h1:n<2 ^ (n.log2+1):=azW;have h2:2 ^ (n.log2+1)<=2 ^ (n.log2+2):=as5 (by decide) (by omega);have h3:2 ^ (n.log2+1)<=2 ^ d:=as5 (by decide) (by omega);rw[azX (by omega),azX (by omega)]
theorem Yo{c x:Nat}(hc:c=1074)(hx:isFin x=true):(double.read x).integral .zero=.number (jT x) ((val x).natAbs / 2 ^ c) 0:=by
 obtain⟨m,i,h1,h2,h3,h4⟩:=iQ hx;rw[h1,gF,h4];show Datum.number (jT x) (Toward.zero.cut (jT x) (m <<< i.toNat) (-i).toNat) 0=_;congr 1;rw[aqx,ayC];by_cases hi:0<=i
 .obtain⟨u,rfl⟩:∃u:Nat,i=u:=⟨i.toNat,by omega⟩
  rw[show(-(u:Int)).toNat=0 by omega,ayW,aBA,Zk,show((u:Int)+1074).toNat=u+c by omega,ari,<-avH,aAO _ (acy c)]
 .obtain⟨d,hd⟩:∃d:Nat,i=-(d:Int)/\d<=c:=⟨(-i).toNat,by omega,by omega⟩
  rw[hd.1,show(-(d:Int)).toNat=0 by omega,ayW,ayY,show(- -(d:Int)).toNat=d by omega,show(-(d:Int)+1074).toNat=c - d by omega];have e:2 ^ c=2 ^ d*2 ^ (c - d):=by rw[<-ari];congr 1;omega
  rw[e,aBj _ _ (acy _)]
theorem ES{c x:Nat}(hc:c=1074)(hx:isFin x=true)(hb:(val x).natAbs / 2 ^ c<=4611686018427387904):Go.Gv.LC .i64 x=cond (jT x) (-(((val x).natAbs / 2 ^ c:Nat):Int)) (((val x).natAbs / 2 ^ c:Nat):Int):=by
 have h1:=Yo hc hx;generalize(val x).natAbs / 2 ^ c=M at h1 hb ⊢;unfold Go.Gv.LC floatToIntVal
 have ht:(ayP.decode x).toInt .zero=some (signed (jT x) M 0):=by
  show(double.read x).toInt .zero=_;unfold Datum.toInt;rw[h1]
 rw[ht]
 have hs:signed (jT x) M 0=cond (jT x) (-(M:Int)) (M:Int):=by
  rw[oW,ayW,ayY]
 have h3:ayN.min<=signed (jT x) M 0/\signed (jT x) M 0<=ayN.max:=by
  rw[hs,show ayN.min=-9223372036854775808 by decide,show ayN.max=9223372036854775807 by decide];cases jT x
  .rw[cond_false];omega
  .rw[cond_true];omega
 simp only[h3,and_self,if_true,ayV];exact hs
theorem wZ{c x:Nat}(hc:c=1074)(hx:isFin x=true)(h0:0<=val x)(hb:(val x).natAbs / 2 ^ c<=4611686018427387904):Go.Gv.LC .i64 x=(((val x).natAbs / 2 ^ c:Nat):Int):=by
 rw[ES hc hx hb];cases hs:jT x
 .rfl
 .have e:val x=-(rv 52 (rung x):Int):=by unfold val;rw[hs];rfl
  have z:(val x).natAbs=0:=by omega
  rw[z,aCU];rfl
theorem aeD{c x y:Nat}(hc:c=1074)(hx:isFin x=true)(hy:isFin y=true)(h0:0<=val x)(h:key x<=key y)(hb:(val y).natAbs / 2 ^ c<=4611686018427387904):Go.Gv.LC .i64 x<=Go.Gv.LC .i64 y:=by
 have hv:=oF.2 h;have h1:(val x).natAbs / 2 ^ c<=(val y).natAbs / 2 ^ c:=az1 (by omega);rw[wZ hc hx h0 (by omega),wZ hc hy (by omega) hb];omega
theorem VB.cut{c a j x:Nat}(h:VB a j x):(val x).natAbs / 2 ^ c<=a*2 ^ j / 2 ^ c:=az1 h.2
end Go.Ev
namespace Go.Proofs.YtefphimaggjihaaGreatDoor.Hs.So
open Go.Gv
open Go.Ev (cn bq dI bT fdiv d9 fI dK jO kL gN lK fabs VB key aL isFin val)
theorem IY{c:Nat}(hc:c=1074){m n:Int}(h:m<=n)(h1:m.natAbs<=2 ^ 60)(h2:n.natAbs<=2 ^ 60):key (gJ m)<=key (gJ n):=by
 have f1:=(Go.Ev.Pv hc (j:=60) (by decide) h1).1;have f2:=(Go.Ev.Pv hc (j:=60) (by decide) h2).1;unfold gJ;refine Go.Ev.abQ f1 f2 (by decide +kernel) (by decide +kernel) ?_;rw[(Go.Ev.AJ hc m).1,(Go.Ev.AJ hc n).1];exact Go.Ev.D9 1 (aB5 h (azv _))
end Go.Proofs.YtefphimaggjihaaGreatDoor.Hs.So
namespace Go.Ev
open Ieee
theorem aj0(a:Nat){g:Nat}(hg:0<g):2*(xI a g*g)<=2*a+g/\2*a<=2*(xI a g*g)+g:=by
 have hd:=ay1 a g;have hm:=aA8 a hg;unfold xI;generalize ha:a / g=q at *;generalize hr:a % g=r at *;rw[aye g q]at hd;cases hb:(decide (g<2*r)||(g==2*r&&q % 2==1))with
 |true =>
  have h2:g<=2*r:=by
   simp only[aAN,decide_eq_true_eq,J8,beq_iff_eq]at hb;omega
  have e:(q+true.toNat)*g=q*g+g:=by rw[asM];simp
  rw[e];generalize q*g=Q at *;omega
 |false =>
  have h2:2*r<=g:=by
   simp only[Bool.or_eq_false_iff,decide_eq_false_iff_not]at hb;omega
  have e:(q+false.toNat)*g=q*g:=by simp
  rw[e];generalize q*g=Q at *;omega
theorem aph{a g:Nat}(hg:0<g):rv 52 (rq 52 a g)=xI a (g*2 ^ ((a / g).log2 - 52))*2 ^ ((a / g).log2 - 52):=by
 unfold rq;generalize hE:(a / g).log2 - 52=E;have hG:0<g*2 ^ E:=aA7 hg (acy E)
 have hup:xI a (g*2 ^ E)<=2 ^ 53:=by
  refine apL (Qe _ _) ?_;rw[<-ay3]
  have h1:a / g / 2 ^ E<2 ^ 53:=by
   rw[aAu (acy E),<-ari];by_cases h0:a / g=0
   .rw[h0];exact acy _
   .exact(aBy h0).1 (by omega)
  omega
 have hlo:E=0\/2 ^ 52<=xI a (g*2 ^ E):=by
  by_cases h:E=0
  .exact ER h
  .refine aaH (apL ?_ (Qf _ _))
   rw[<-ay3,ayv (acy E),<-ari];have h0:a / g≠0:=λ h0=>by rw[h0]at hE;simp at hE;omega
   exact(aA6 h0).1 (by omega)
 have e52:(2:Nat) ^ 52=4503599627370496:=by decide
 have e53:(2:Nat) ^ 53=9007199254740992:=by decide
 generalize xI a (g*2 ^ E)=R at *;rw[e52]at hlo ⊢;rw[e53]at hup;by_cases hR:R<4503599627370496
 .have h0:E=0:=by omega
  subst h0;rw[aza,avB,aeo hR];omega
 .rw[Ai (by omega)]
  by_cases hS:R=9007199254740992
  .subst hS
   rw[show(E*4503599627370496+9007199254740992) % 4503599627370496=0 by omega,show(E*4503599627370496+9007199254740992) / 4503599627370496 - 1=E+1 by omega,ayD];generalize 2 ^ E=P;omega
  .rw[show(E*4503599627370496+R) % 4503599627370496=R - 4503599627370496 by omega,show(E*4503599627370496+R) / 4503599627370496 - 1=E by omega,show 4503599627370496+(R - 4503599627370496)=R by omega]
theorem apj{a g b:Nat}(hg:0<g)(hb:53<=b)(ha:a<=2 ^ b*g):rv 52 (rq 52 a g)*g<=a+2 ^ (b - 53)*g/\a<=rv 52 (rq 52 a g)*g+2 ^ (b - 53)*g:=by
 rw[aph hg];generalize hE:(a / g).log2 - 52=E;have hG:0<g*2 ^ E:=aA7 hg (acy E);obtain⟨h1,h2⟩:=aj0 a hG
 have hle:2 ^ E<=2*2 ^ (b - 53):=by
  rw[<-Nat.pow_succ'];refine as5 (by decide) ?_;by_cases h0:a / g=0
  .rw[h0]at hE;simp at hE;omega
  .have:a / g<=2 ^ b:=aC8 (by rw[aye];exact ha)
   have h3:(a / g).log2<b+1:=(aBy h0).2 (by rw[ayD];have:=acy b;omega);omega
 have hg2:g*2 ^ E<=2*(2 ^ (b - 53)*g):=by
  rw[aye g,<-avH];exact agT g hle
 have e:xI a (g*2 ^ E)*2 ^ E*g=xI a (g*2 ^ E)*(g*2 ^ E):=by rw[avH,aye (2 ^ E) g]
 rw[e];generalize xI a (g*2 ^ E)*(g*2 ^ E)=Q at *;generalize g*2 ^ E=G at *;generalize 2 ^ (b - 53)*g=W at *;omega
theorem FR{z g b:Nat}{v:Int}(hz:key z=KR v g)(hf:isFin z=true)(hg:0<g)(hb:53<=b)(hv:v.natAbs<=2 ^ b*g):(val z*(g:Int) - v).natAbs<=2 ^ (b - 53)*g:=by
 have hlt:rung z<9218868437227405312:=yU hf
 have hq:rq 52 v.natAbs g<9218868437227405312\/(KR v g).natAbs=9218868437227405312:=by
  by_cases h:rq 52 v.natAbs g<9218868437227405312
  .exact ER h
  .refine aaH ?_
   unfold KR;rw[aCb (by omega)];cases decide (v<0)
   .rw[cond_false,av1]
   .rw[cond_true,azU,av1]
 have hrz:rung z=rq 52 v.natAbs g:=by
  rcases hq with h |h
  .rw[<-kQ,hz,afl h]
  .rw[<-kQ,hz,h]at hlt;omega
 obtain⟨h1,h2⟩:=apj hg hb hv;rw[<-hrz,<-gF]at h1 h2
 have hpos:0<=v->0<=val z:=λ h=>by
  have:=(Ie (v:=v) (g:=g)).1 h;rw[<-hz]at this;have hn:¬val z<0:=λ hc=>by have:=qE.1 hc;omega
  omega
 have hneg:v<=0->val z<=0:=λ h=>by
  have:=(Ie (v:=v) (g:=g)).2 h hg;rw[<-hz]at this;have hn:¬ 0<val z:=λ hc=>by have:=Ae.1 hc;omega
  omega
 generalize 2 ^ (b - 53)*g=W at *;rcases Int.le_total 0 v with h |h
 .have h3:=hpos h
  have e:(((val z).natAbs*g:Nat):Int)=val z*(g:Int):=by rw[azn,show(((val z).natAbs:Nat):Int)=val z by omega]
  generalize(val z).natAbs*g=Q at *;omega
 .have h3:=hneg h
  have e:(((val z).natAbs*g:Nat):Int)=-(val z*(g:Int)):=by rw[azn,show(((val z).natAbs:Nat):Int)=-val z by omega,aBB]
  generalize(val z).natAbs*g=Q at *;omega
open Go.Proofs.YtefphimaggjihaaGreatDoor.Hs (gJ)
open Go.Proofs.YtefphimaggjihaaGreatDoor.Pi (kY)
theorem mul_lt{x y:Nat}(hx:isFin x=true)(hy:isFin y=true):bT x y<18446744073709551616:=by
 obtain⟨m,i,hrx,hi,_,hvx⟩:=iQ hx;obtain⟨n,j,hry,hj,_,hvy⟩:=iQ hy;unfold bT Format.mul;rw[hrx,hry];simp only[Datum.product,amS,ayV,Format.write];rw[JM _ _ ((i+1074).toNat+(j+1074).toNat) 1074 _ (by omega),O5];have hr:=aDZ (rq 52 (m*n*2 ^ ((i+1074).toNat+(j+1074).toNat)) (2 ^ 1074)) 9218868437227405312;generalize min (rq 52 (m*n*2 ^ ((i+1074).toNat+(j+1074).toNat)) (2 ^ 1074)) 9218868437227405312=r at hr ⊢;unfold Format.word;rw[D7];by_cases hs:jT x=jT y
 .simp[hs];omega
 .simp[hs];omega
section
variable{c:Nat}
theorem Da(hc:c=1074):2 ^ c=8796093022208*2 ^ (c - 43)/\2 ^ (c+10 - 53)=2 ^ (c - 43)/\2 ^ (c+10)=9007199254740992*2 ^ (c - 43)/\2 ^ (c+21)=18446744073709551616*2 ^ (c - 43)/\2 ^ (c+21 - 53)=2048*2 ^ (c - 43)/\2 ^ (c - 1)=4398046511104*2 ^ (c - 43):=by
 have f:∀a b:Nat,a=b+(c - 43)->2 ^ a=2 ^ b*2 ^ (c - 43):=λ a b h=>by rw[h,ari]
 refine⟨f c 43 (by omega),by rw[show c+10 - 53=c - 43 by omega],f (c+10) 53 (by omega),f (c+21) 64 (by omega),f (c+21 - 53) 11 (by omega),f (c - 1) 42 (by omega)⟩
theorem kr3(v:Int){P:Nat}(hP:0<P):KR (v*((1000*P:Nat):Int)) P=KR (v*1000) 1:=by
 have:=afR (v*1000) 1 hP;rw[azc]at this;rw[<-this,azn,<-aCg];rfl
def qP(n:Int):Nat:=bT (gJ n) 4652007308841189376
theorem tN(hc:c=1074){n:Int}(h:n.natAbs<=1000000):key (gJ n)=KR (n*((2 ^ c:Nat):Int)) 1000/\isFin (gJ n)=true:=by
 have hp:=acy c;have hw:=(AJ hc n);have hW:Wh c (cn (ayP.nearest n)) n:=ZT hc hw.1 (by omega);have ev:val 4652007308841189376=((1000*2 ^ c:Nat):Int):=by subst hc;decide +kernel
 have hk:=(Ig hc hW.fin (show isFin 4652007308841189376=true by decide +kernel) (by rw[ev];omega)).1;refine⟨?_,(Go.Proofs.YtefphimaggjihaaGreatDoor.Hs.So.WO hc (j:=12) (by omega) (show n.natAbs<=2 ^ 21 by omega)).1⟩;have es:sg ((1000*2 ^ c:Nat):Int)=1:=by unfold sg;rw[decide_eq_false (by omega)];rfl
 rw[hW.val,ev,es,aDj,av1,afR _ _ hp]at hk;exact hk
theorem U2(hc:c=1074){n:Int}(h:n.natAbs<=1000000):isFin (qP n)=true/\(val (qP n) - n*((2 ^ c:Nat):Int)).natAbs<=8192*2 ^ (c - 43):=by
 obtain⟨hk,hf⟩:=tN hc h;obtain⟨p0,p1,p2,p3,p4,_⟩:=Da hc;have hq:=acy (c - 43)
 have e1:=FR hk hf (by decide) (b:=c+10) (by omega) (by
  rw[ayJ,av1,p0,p2];generalize 2 ^ (c - 43)=Q at hq ⊢
  calc n.natAbs*(8796093022208*Q)<=1000000*(8796093022208*Q):=agT _ h
   _<=9007199254740992*Q*1000:=by omega)
 rw[p1,p0]at e1;have ev:val 4652007308841189376=((1000*2 ^ c:Nat):Int):=by subst hc;decide +kernel
 have hfK:isFin 4652007308841189376=true:=by decide +kernel
 have hk2:=(Oe hc hf hfK).1;have hp:=acy c
 have hk3:key (qP n)=KR (val (gJ n)*1000) 1:=by
  unfold qP;rw[hk2,ev];exact kr3 _ hp
 have hv:(val (gJ n)*1000).natAbs<=2 ^ (c+21)*1:=by
  have hn:(n*((8796093022208*2 ^ (c - 43):Nat):Int)).natAbs<=1000000*(8796093022208*2 ^ (c - 43)):=by rw[ayJ,av1];exact agT _ h
  rw[p3];generalize n*((8796093022208*2 ^ (c - 43):Nat):Int)=z at *;generalize 2 ^ (c - 43)=Q at *;omega
 have hF:isFin (qP n)=true:=by
  have hb:Bd (c+21) (qP n):=YF hk3 (by decide) hv (by omega);exact hb.fin (by omega)
 have e2:=FR hk3 hF (by decide) (b:=c+21) (by omega) hv;rw[p4]at e2;refine⟨hF,?_⟩;rw[p0];generalize n*((8796093022208*2 ^ (c - 43):Nat):Int)=z at *;generalize 2 ^ (c - 43)=Q at *;omega
theorem aeE(hc:c=1074){n:Nat}(h:n<=1000000):Go.Gv.LC .i64 (bq (qP n) 4602678819172646912)=(n:Int)/\isFin (bq (qP n) 4602678819172646912)=true:=by
 obtain⟨hf,hy⟩:=U2 hc (n:=(n:Int)) (by simpa using h);obtain⟨p0,p1,p2,p3,p4,p5⟩:=Da hc;have hq:=acy (c - 43);have ev:val 4602678819172646912=((2 ^ (c - 1):Nat):Int):=by subst hc;decide +kernel
 have hk:=(xH hf (show isFin 4602678819172646912=true by decide +kernel)).1;rw[ev,p5]at hk;have hn:(n:Int)*((2 ^ c:Nat):Int)=((n*(8796093022208*2 ^ (c - 43)):Nat):Int):=by rw[p0,azn n]
 have hn2:n*(8796093022208*2 ^ (c - 43))<=1000000*(8796093022208*2 ^ (c - 43)):=agT _ h;rw[hn]at hy
 have hv:(val (qP n)+((4398046511104*2 ^ (c - 43):Nat):Int)).natAbs<=2 ^ (c+21)*1:=by
  rw[p3];generalize n*(8796093022208*2 ^ (c - 43))=z at *;generalize 2 ^ (c - 43)=Q at *;omega
 have hF:isFin (bq (qP n) 4602678819172646912)=true:=by
  have hb:Bd (c+21) (bq (qP n) 4602678819172646912):=YF hk (by decide) hv (by omega);exact hb.fin (by omega)
 have e2:=FR hk hF (by decide) (b:=c+21) (by omega) hv;rw[p4]at e2
 have hlo:n*(8796093022208*2 ^ (c - 43))<=(val (bq (qP n) 4602678819172646912)).natAbs/\(val (bq (qP n) 4602678819172646912)).natAbs<(n+1)*(8796093022208*2 ^ (c - 43))/\0<=val (bq (qP n) 4602678819172646912):=by
  rw[aBG n];generalize n*(8796093022208*2 ^ (c - 43))=z at *;generalize 2 ^ (c - 43)=Q at *;omega
 have hd:(val (bq (qP n) 4602678819172646912)).natAbs / 2 ^ c=n:=by
  rw[p0];exact aDl hlo.1 hlo.2.1
 rw[wZ hc hF hlo.2.2 (by rw[hd];omega),hd];exact⟨rfl,hF⟩
end
theorem adk{E K A H m n t:Nat}(hKA:K*A=4503599627370496)(hH:A=2*H)(ht:t<H)(h1:n*A<=4503599627370496+m+t)(h2:4503599627370496+m<=n*A+t)(hA:0<A):(E*4503599627370496+m+H) / A*A=E*4503599627370496+(n*A - 4503599627370496)/\4503599627370496<=n*A:=by
 have hn:K<=n:=by
  apply ayU;intro hc;have h3:(n+1)*A<=K*A:=agT _ hc;rw[aBG n]at h3;omega
 have hKn:K*A<=n*A:=agT _ hn;have hq:(E*K+(n - K))*A=E*4503599627370496+(n*A - 4503599627370496):=by rw[asM,avH,hKA,Nat.sub_mul,hKA]
 have hd:(E*4503599627370496+m+H) / A=E*K+(n - K):=by
  refine aDl ?_ ?_
  .rw[hq];omega
  .rw[aBG (E*K+(n - K)),hq];omega
 rw[hd,hq];exact⟨rfl,by omega⟩
theorem ak3{E g:Nat}(hE:1<=E)(hg:g<=4503599627370496):rv 52 (E*4503599627370496+g)=(4503599627370496+g)*2 ^ (E - 1):=by
 by_cases h:g=4503599627370496
 .subst h
  rw[show E*4503599627370496+4503599627370496=(E+1)*4503599627370496 by omega,Ai (by omega),aD0,aAO _ (by decide),show E+1 - 1=(E - 1)+1 by omega,ayD];generalize 2 ^ (E - 1)=D;omega
 .rw[Ai (by omega),show(E*4503599627370496+g) % 4503599627370496=g by omega,show(E*4503599627370496+g) / 4503599627370496=E by omega]
section
variable{c:Nat}
theorem QX(hc:c=1074){n:Nat}(h0:1<=n)(h:n<=1000000):qP n<9223372036854775808/\qP n / 2 ^ 52 % 2048<1055/\isFin (kY (qP n))=true/\Go.Gv.LC .i64 (kY (qP n))=(n:Int)/\kY (qP n)<9223372036854775808:=by
 obtain⟨hf,hy⟩:=U2 hc (n:=(n:Int)) (by simpa using h);obtain⟨p0,_,_,_,_,_⟩:=Da hc;have hq:=acy (c - 43);have hlt:=mul_lt (tN hc (n:=(n:Int)) (by simpa using h)).2 (show isFin 4652007308841189376=true by decide +kernel);have hlt:qP n<18446744073709551616:=hlt;have hn:(n:Int)*((2 ^ c:Nat):Int)=((n*2 ^ c:Nat):Int):=by rw[azn n]
 have hnP:2 ^ c<=n*2 ^ c:=aAe _ h0;have avQ:n*2 ^ c<=1000000*2 ^ c:=agT _ h;rw[hn]at hy
 have hpos:0<val (qP n):=by
  rw[p0]at hnP hy;generalize n*(8796093022208*2 ^ (c - 43))=z at *;generalize 2 ^ (c - 43)=Q at *;omega
 have hsg:jT (qP n)=false:=by
  cases hs:jT (qP n)
  .rfl
  .unfold val at hpos;rw[hs]at hpos;simp at hpos;omega
 have hw:qP n<9223372036854775808:=by
  unfold jT at hsg;have:qP n / 9223372036854775808 % 2≠1:=by simpa using hsg
  omega
 have hr:rung (qP n)=qP n:=by unfold rung;omega
 have hval:val (qP n)=((rv 52 (qP n):Nat):Int):=by unfold val;rw[hsg,hr];rfl
 rw[hval]at hy;generalize qP n=y at hf hy hlt hsg hw hr hval ⊢;have hb1:n*2 ^ c<=rv 52 y+8192*2 ^ (c - 43):=by omega
 have hb2:rv 52 y<=n*2 ^ c+8192*2 ^ (c - 43):=by omega
 have hE0:1022*4503599627370496<=y:=by
  apply ayU;intro hc';have h1:=BA 52 hc';have h2:rv 52 (1022*4503599627370496)=4398046511104*2 ^ (c - 43):=by subst hc;decide +kernel
  rw[p0]at hnP hb1;generalize n*(8796093022208*2 ^ (c - 43))=z at *;generalize 2 ^ (c - 43)=Q at *;omega
 have hE1:y<1044*4503599627370496:=by
  apply Nat.lt_of_not_le;intro hc';have h1:=YH hc';have h2:rv 52 (1044*4503599627370496)=18446744073709551616*2 ^ (c - 43):=by subst hc;decide +kernel
  rw[p0]at avQ hb2;generalize n*(8796093022208*2 ^ (c - 43))=z at *;generalize 2 ^ (c - 43)=Q at *;omega
 have e52:(2:Nat) ^ 52=4503599627370496:=by decide
 obtain⟨E,m,hym,hm⟩:∃E m,y=E*4503599627370496+m/\m<4503599627370496:=⟨y / 4503599627370496,y % 4503599627370496,by omega,by omega⟩;have hEd:y / 4503599627370496=E:=by omega
 have hEr:1022<=E/\E<=1043:=by omega
 have hEm:y / 2 ^ 52 % 2048=E:=by rw[e52,hEd];omega
 refine⟨hw,by rw[hEm];omega,?_⟩;by_cases hc1:E=1022
 .have hn1:n=1:=by
   have h1:y<1023*4503599627370496:=by omega
   have h2:=BA 52 h1;have h3:rv 52 (1023*4503599627370496)=8796093022208*2 ^ (c - 43):=by subst hc;decide +kernel
   apply aBk _ h0;apply ayU;intro hc2;have h4:2*2 ^ c<=n*2 ^ c:=agT _ hc2;rw[p0]at h4 hb1;generalize n*(8796093022208*2 ^ (c - 43))=z at *;generalize 2 ^ (c - 43)=Q at *;omega
  have hR:kY y=4607182418800017408:=by
   unfold kY;rw[hEm,hc1,if_pos (by omega),if_pos rfl,show y / 9223372036854775808=0 by omega]
  rw[hR,hn1];decide +kernel
 .obtain⟨k,hk,hk2⟩:∃k,E=1023+k/\k<=20:=⟨E - 1023,by omega,by omega⟩
  have hA:2 ^ (1075 - E)=2*2 ^ (51 - k):=by rw[show 1075 - E=(51 - k)+1 by omega,ayD,aye]
  have hAk:2 ^ k*2 ^ (1075 - E)=4503599627370496:=by rw[<-ari,show k+(1075 - E)=52 by omega]
  have hPD:2 ^ c=2 ^ (1075 - E)*2 ^ (E - 1):=by rw[<-ari,show 1075 - E+(E - 1)=c by omega]
  have hQD:8192*2 ^ (c - 43)=2 ^ (22 - k)*2 ^ (E - 1):=by rw[show(8192:Nat)=2 ^ 13 from rfl,<-ari,<-ari,show 13+(c - 43)=22 - k+(E - 1) by omega]
  have ht:2 ^ (22 - k)<2 ^ (51 - k):=Nat.pow_lt_pow_right (by decide) (by omega);have hD:=acy (E - 1);have hrv:rv 52 y=(4503599627370496+m)*2 ^ (E - 1):=by rw[hym];exact ak3 (by omega) (by omega)
  rw[hrv,hPD,hQD,<-avH,<-asM]at hb1;rw[hrv,hPD,hQD,<-avH,<-asM]at hb2;have g1:=aAH hb1 hD;have g2:=aAH hb2 hD;obtain⟨r1,r2⟩:=adk (E:=E) hAk hA ht g1 g2 (acy _)
  have hR:kY y=E*4503599627370496+(n*2 ^ (1075 - E) - 4503599627370496):=by
   unfold kY;rw[hEm,if_neg (by omega),show 1074 - E=51 - k by omega,hym];exact r1
  have hsm:2 ^ (22 - k)<=4194304:=as5 (n:=2) (by decide) (show 22 - k<=22 by omega)
  have avR:n*2 ^ (1075 - E) - 4503599627370496<=4503599627370496:=by
   obtain⟨j,hj⟩:∃j,n*2 ^ (1075 - E)<=(2 ^ k*2+j)*2 ^ (1075 - E)/\j=0:=by
    refine⟨0,?_,rfl⟩;refine agT _ ?_;apply ayU;intro hc3;have h5:(2 ^ k*2+1)*2 ^ (1075 - E)<=n*2 ^ (1075 - E):=agT _ (by omega);rw[asM,aBO,hAk,azc,hA]at h5;rw[hA]at g1;omega
   rw[hj.2,ayO,aBO,hAk]at hj;omega
  have hRv:rv 52 (kY y)=n*2 ^ c:=by
   have e3:4503599627370496+(n*2 ^ (1075 - E) - 4503599627370496)=n*2 ^ (1075 - E):=by omega
   rw[hR,ak3 (by omega) avR,hPD,<-avH,e3]
  have avS:kY y<9223372036854775808:=by rw[hR];omega
  have hRr:rung (kY y)=kY y:=by unfold rung;omega
  have hRs:jT (kY y)=false:=by
   unfold jT;rw[show kY y / 9223372036854775808=0 by omega];rfl
  have hRf:isFin (kY y)=true:=by
   unfold isFin;rw[hRr,hR];exact ah4 (by omega)
  have ak4:val (kY y)=((n*2 ^ c:Nat):Int):=by unfold val;rw[hRs,hRr,hRv];rfl
  have hdv:(val (kY y)).natAbs / 2 ^ c=n:=by rw[ak4,av1,aAO _ (acy c)]
  refine⟨hRf,?_,avS⟩;rw[wZ hc hRf (by rw[ak4];omega) (by rw[hdv];omega),hdv]
end
end Go.Ev
namespace Go.Proofs.YtefphimaggjihaaGreatDoor.Pi
open Go.Shelf Go.RowKit Go.Gv
open Go.Ev (cn bq dI bT fdiv fI dK jO kL gN lK aL key val isFin)
open Hs (gJ yP)
def WH(rf:Nat->Nat):List AV->AV
 | [.f w]=>.f (rf w)
 |_=>.any
def gBy(bf:Int->Bool):List AV->AV
 | [.x (.int _ n)]=>bA (bf n)
 |_=>.any
section
variable(x:Nat)(rf:Nat->Nat)(bf:Int->Bool)(n:Int)(it:Int->List UInt8)(s t:ByteArray)
def yX(x:Nat):Nat:=bT x 4652007308841189376
def nX:Int:=LC .i64 (rf (yX x))
theorem ata:ev bW [] [] aM Tryz.f172 [iA n] ret=some (Out.of (bA (cond (decide (n< -1000000)) true (decide (n>1000000))))):=by kernel_rfl
theorem atb:ev bW [] [kS bW 171 (WH rf),kS bW 172 (gBy bf)] aM Tryz.f153 [.f x] ret =
 gate (aj bW 171 [.f (yX x)] (.f (rf (yX x)))) (cond (Ce .i64 (rf (yX x))||false) (gate (aj bW 172 [iA (nX x rf)] (bA (bf (nX x rf))))
  (cond (cond (bf (nX x rf)) true (!(dK (gJ (nX x rf)) x))) (some (Out.of (.aN [iA 0,bA false]))) (some (Out.of (.aN [iA (nX x rf),bA true]))))) none):=by kernel_rfl
theorem atc(k:Int):ev bW [] [kIt] aM Tryz.f130 [iA k] ret=gate (JJ k) (cond (mq ⟨#[115]⟩ (lB (ala k))||false) (some (Out.of (zA (⟨#[115]⟩++lB (ala k))))) none):=by kernel_rfl
end
section
variable(n:Int)(tf:ByteArray->ByteArray)
def gTr(tf:ByteArray->ByteArray):List AV->AV
 | [.x (.string s),_]=>zA (tf s)
 |_=>.any
def dtS:ByteArray:=⟨#[46]⟩
def dQ(a:Int):ByteArray:=lB (ala (aI (a.tdiv 1000)))
def dR(a:Int):ByteArray:=lB (ala (aI (1000+a.tmod 1000)))
noncomputable def dSl(a:Int):ByteArray:=(dR a).extract 1 (dR a).size
noncomputable def dmR(sg:ByteArray)(a:Int):Option Out:=gate (JJ (aI (a.tdiv 1000))) (cond (mq sg (dQ a)||false) (cond (a.tmod 1000==0) (some (Out.of (zA (sg++dQ a))))
 (gate (JJ (aI (1000+a.tmod 1000))) (cond (Bh (some 1) none none (dR a).size||false) (cond (mq (sg++dQ a) dtS||false) (gate (aj bW 156 [zA (dSl a),zA ⟨#[48]⟩] (zA (tf (dSl a)))) (cond (mq ((sg++dQ a)++dtS) (tf (dSl a))||false) (some (Out.of (zA (((sg++dQ a)++dtS)++tf (dSl a))))) none)) none) none))) none)
theorem atd:ev bW [] [kIt,kS bW 156 (gTr tf)] aM Tryz.f131 [iA n] ret=cond (decide (n<0)) (dmR tf ⟨#[45]⟩ (aI (0 - n))) (dmR tf ⟨#[]⟩ n):=by kernel_rfl
end
theorem Ij{n:Int}(h0:-9223372036854775808<=n)(h1:n<=9223372036854775807):JJ n:=abe h0 h1
theorem lu{n:Int}(h0:0<=n)(h1:n<100000000):ala n≠[]/\(ala n).length<=8:=by
 obtain⟨k,rfl⟩:=ay2 h0;unfold ala;rw[if_neg (by omega),Zk]
 have key:∀(d k:Nat),k<10 ^ (d+1)->ayh k≠[]/\(ayh k).length<=d+1:=λ d=>by
  induction d with
  |zero=>intro k hk;rw[azY (by omega)];simp
  |succ d ih =>
   intro k hk;by_cases h:k<10
   .rw[azY h];simp
   .rw[ayh,dif_neg h]
    have:=ih (k / 10) (by rw[ayD]at hk;omega);simp only[ne_eq,aBa,uI];exact⟨λ hc=>this.1 hc.1,by simp;omega⟩
 exact key 7 k (by omega)
theorem kW{a b:ByteArray}(h:a.size+b.size<=1000000000):mq a b=true:=by
 rw[Zr];exact decide_eq_true (by show((a.size+b.size:Nat):Int)<=9223372036854775807;omega)
theorem gZ(a b:List UInt8):lB a++lB b=lB (a++b):=by
 apply ByteArray.ext;simp[lB]
theorem Ik{k:Int}(h0:0<=k)(h1:k<100000000):Wv oK k:=by
 have hi:=lu h0 h1;refine aP aB (ak aD av) Tryz.func130 (by kernel_rfl) (by kernel_rfl) aA rfl ((atc k).trans ?_);have e:(⟨#[115]⟩:ByteArray)=lB [115]:=rfl;rw[ah (Ij (by omega) (by omega)),e,kW (by rw[aY,aY];simp;omega),gZ];rfl
def dcA(a:Nat):List UInt8:=ala ((a / 1000:Nat):Int)++(if a % 1000=0 then []else 46::ayI ((ala ((1000+a % 1000:Nat):Int)).drop 1) 48)
def cK(n:Int):List UInt8:=(if n<0 then [45]else [])++dcA n.natAbs
theorem SE(l:List UInt8)(b:UInt8):(ayI l b).length<=l.length:=by
 unfold ayI;rw[aC9];exact apL (List.dropWhile_sublist _).length_le (by rw[aC9];exact ao5 _)
def trF(s:ByteArray):ByteArray:=lB (ayI (bL s) 48)
theorem anm(l:List UInt8):trF (lB l)=lB (ayI l 48):=by unfold trF;rw[jr]
theorem SF{sg:List UInt8}{a:Nat}(hs:sg.length<=1)(ha:a<=10000000):dmR trF (lB sg) (a:Nat)=some (Out.of (zA (lB (sg++dcA a)))):=by
 have e1:aI (((a:Nat):Int).tdiv 1000)=((a / 1000:Nat):Int):=by rw[Int.tdiv_eq_ediv_of_nonneg (by omega),aO (by omega) (by omega)];omega
 have e2:((a:Nat):Int).tmod 1000=((a % 1000:Nat):Int):=by rw[azt (by omega)];omega
 have e3:aI (1000+((a % 1000:Nat):Int))=((1000+a % 1000:Nat):Int):=by rw[aO (by omega) (by omega)];omega
 have i1:=lu (n:=((a / 1000:Nat):Int)) (by omega) (by omega);have i2:=lu (n:=((1000+a % 1000:Nat):Int)) (by omega) (by omega);have l1:(lB sg++lB (ala ((a / 1000:Nat):Int))).size<=20:=by rw[gZ,aY,uI];omega
 unfold dmR dSl dQ dR;rw[e1,e2,e3,ah (Ij (by omega) (by omega)),kW (by rw[aY,aY];omega)];unfold dcA;by_cases h0:a % 1000=0
 .rw[h0,if_pos rfl,awr,gZ]
  rfl
 .have hx:(lB (ala ((1000+a % 1000:Nat):Int))).extract 1 (lB (ala ((1000+a % 1000:Nat):Int))).size=lB ((ala ((1000+a % 1000:Nat):Int)).drop 1):=by
   apply ano;rw[oG,jr,jr,aY,List.take_length]
  have hsb:Bh (some 1) none none (lB (ala ((1000+a % 1000:Nat):Int))).size=true:=by
   unfold Bh;have:1<=(ala ((1000+a % 1000:Nat):Int)).length:=aAa.2 i2.1;rw[aY];generalize(ala ((1000+a % 1000:Nat):Int)).length=z at this ⊢;show(decide ((0:Int)<=1)&&(decide ((1:Int)<=((z:Nat):Int))&&(decide (((z:Nat):Int)<=((z:Nat):Int))&&decide (((z:Nat):Int)<=((z:Nat):Int)))))=true;rw[decide_eq_true (show(1:Int)<=((z:Nat):Int) by omega)];simp
  have ht:=SE ((ala ((1000+a % 1000:Nat):Int)).drop 1) 48;have hd:((ala ((1000+a % 1000:Nat):Int)).drop 1).length<=8:=by rw[aze];omega
  have hT:aj bW 156 [zA (lB ((ala ((1000+a % 1000:Nat):Int)).drop 1)),zA ⟨#[48]⟩] (zA (trF (lB ((ala ((1000+a % 1000:Nat):Int)).drop 1)))):=WI (lB ((ala ((1000+a % 1000:Nat):Int)).drop 1)) (by rw[aY];omega);have edt:dtS=lB [46]:=rfl;rw[beq_false_of_ne (by omega),ah (Ij (by omega) (by omega)),hsb,hx,ah hT,if_neg h0,edt,kW (by have:(lB [46]).size=1:=rfl;omega),gZ,gZ,anm,kW (by rw[aY,aY,uI,uI];have:([46]:List UInt8).length=1:=rfl;omega),gZ];simp
theorem Ph{n:Int}(h:n.natAbs<=10000000):FDc cK n:=by
 refine aP aB (ak aD (ak aD av)) Tryz.func131 (by kernel_rfl) (by kernel_rfl) aA rfl ((atd n trF).trans ?_);unfold cK;by_cases h0:n<0
 .have e:aI (0 - n)=((n.natAbs:Nat):Int):=by rw[aO (by omega) (by omega)];omega
  have es:(⟨#[45]⟩:ByteArray)=lB [45]:=rfl;rw[decide_eq_true h0,if_pos h0,e,es,cond_true];exact SF (by simp) h
 .have e:n=((n.natAbs:Nat):Int):=by omega
  have es:(⟨#[]⟩:ByteArray)=lB []:=rfl;rw[decide_eq_false h0,if_neg h0,es,cond_false]
  conv=>lhs;rw[e]
  exact SF (by simp) h
theorem y8(n:Int)(h:n.natAbs<=10000000):cK n≠[]/\(cK n).length<=20:=by
 have i1:=lu (n:=((n.natAbs / 1000:Nat):Int)) (by omega) (by omega);have i2:=lu (n:=((1000+n.natAbs % 1000:Nat):Int)) (by omega) (by omega);have ht:=SE ((ala ((1000+n.natAbs % 1000:Nat):Int)).drop 1) 48;rw[aze]at ht;unfold cK dcA;constructor
 .intro hc
  simp only[aBa]at hc;exact i1.1 hc.2.1
 .have h1:(if n<0 then([45]:List UInt8)else []).length<=1:=by split<;>simp
  have h2:(if n.natAbs % 1000=0 then([]:List UInt8)else 46::ayI ((ala ((1000+n.natAbs % 1000:Nat):Int)).drop 1) 48).length<=9:=by
   split
   .simp
   .rw[anE];omega
  rw[uI,uI];omega
end Go.Proofs.YtefphimaggjihaaGreatDoor.Pi
namespace Go.Ev
open Ieee
open Go.Proofs.YtefphimaggjihaaGreatDoor.Hs (gJ)
open Go.Proofs.YtefphimaggjihaaGreatDoor.Pi (kY)
theorem YE{w:Nat}(hw:w<9223372036854775808)(hE:w / 2 ^ 52 % 2048<1075):kY (9223372036854775808+w)=9223372036854775808+kY w:=by
 have e52:(2:Nat) ^ 52=4503599627370496:=by decide
 have e1:(9223372036854775808+w) / 2 ^ 52 % 2048=w / 2 ^ 52 % 2048:=by rw[e52];omega
 unfold kY;rw[e1,show(9223372036854775808+w) / 9223372036854775808=1 by omega,show w / 9223372036854775808=0 by omega];by_cases h1:w / 2 ^ 52 % 2048<1023
 .rw[if_pos h1,if_pos h1]
  split<;>omega
 .rw[if_neg h1,if_neg h1]
  generalize w / 2 ^ 52 % 2048=E at *;have hB:9223372036854775808=2 ^ (1075 - E)*2 ^ (E - 1012):=by rw[<-ari,show 1075 - E+(E - 1012)=63 by omega]
  have hA:=acy (1075 - E);rw[aAq]
  conv=>lhs;rw[hB]
  rw[Nat.mul_add_div hA,asM,aye (2 ^ (E - 1012)),<-hB]
theorem QW{w:Nat}(hw:w<18446744073709551616)(hr:rung w<=1053*4503599627370496):rung (kY w)<=1054*4503599627370496/\kY w<18446744073709551616:=by
 have e52:(2:Nat) ^ 52=4503599627370496:=by decide
 have base:∀{v:Nat},v<9223372036854775808->v<=1053*4503599627370496->kY v<=1054*4503599627370496:=fun{v} hv hv2=>by
  unfold kY;rw[show v / 9223372036854775808=0 by omega];have hE:v / 2 ^ 52 % 2048<=1053:=by rw[e52];omega
  by_cases h1:v / 2 ^ 52 % 2048<1023
  .rw[if_pos h1]
   clear e52;generalize(v / 2 ^ 52 % 2048:Nat)=E at *;rw[aza,avB]
   have hu:∀{p:Prop} [Decidable p],(if p then 4607182418800017408 else 0)<=4607182418800017408:=fun{p} _=>by
    by_cases hp:p
    .exact aER (if_pos hp)
    .exact apL (aER (if_neg hp)) (aAv _)
   exact apL hu (by decide)
  .rw[if_neg h1]
   have h3:=Nat.div_mul_le_self (v+2 ^ (1074 - v / 2 ^ 52 % 2048)) (2 ^ (1075 - v / 2 ^ 52 % 2048));have h4:2 ^ (1074 - v / 2 ^ 52 % 2048)<=2 ^ 51:=as5 (by decide) (by omega);have e51:(2:Nat) ^ 51=2251799813685248:=by decide
   omega
 unfold rung at hr;by_cases h:w<9223372036854775808
 .have:=base h (by omega)
  unfold rung;omega
 .obtain⟨v,rfl⟩:∃v,w=9223372036854775808+v:=⟨w - 9223372036854775808,by omega⟩
  have hv:v<9223372036854775808:=by omega
  have:=base hv (by omega);rw[YE hv (by rw[e52];omega)];unfold rung;omega
section
variable{c:Nat}
structure cB(x:Nat):Prop where
 fin:isFin x=true
 le:(val x).natAbs<=1000000*2 ^ 1074
theorem Bz(hc:c=1074){x:Nat}(h:cB x):isFin (bT x 4652007308841189376)=true/\rung (bT x 4652007308841189376)<=1053*4503599627370496/\bT x 4652007308841189376<18446744073709551616/\key (bT x 4652007308841189376)=KR (val x*1000) 1:=by
 have hfK:isFin 4652007308841189376=true:=by decide +kernel
 have ev:val 4652007308841189376=((1000*2 ^ c:Nat):Int):=by subst hc;decide +kernel
 have hp:=acy c;have hk:key (bT x 4652007308841189376)=KR (val x*1000) 1:=by rw[(Oe hc h.fin hfK).1,ev];exact kr3 _ hp
 have hle:(val x).natAbs<=1000000*2 ^ c:=by rw[hc];exact h.le
 have e30:2 ^ (c+30)=1073741824*2 ^ c:=by rw[ari,aye]
 have hv:(val x*1000).natAbs<=2 ^ (c+30)*1:=by
  rw[e30];generalize 2 ^ c=P at *;omega
 have hb:Bd (c+30) (bT x 4652007308841189376):=YF hk (by decide) hv (by omega);refine⟨hb.fin (by omega),?_,mul_lt h.fin hfK,hk⟩;have h2:=hb.val (by omega);rw[gF]at h2;have h3:rv 52 (1053*4503599627370496)=1073741824*2 ^ c:=by subst hc;decide +kernel
 apply ayU;intro hc2;have:=BA 52 hc2;rw[h3,<-e30]at this;omega
theorem YG{x y:Nat}(hx:x<18446744073709551616)(hy:y<18446744073709551616)(h:key x=key y)(h0:key x≠0):x=y:=by
 have h1:rung x=rung y:=by rw[<-kQ,<-kQ,h]
 have hs:jT x=jT y:=by
  unfold key at h h0;cases a:jT x<;>cases b:jT y
  .rfl
  .rw[a,b]at h;rw[a]at h0;simp only[cond_true,cond_false]at h h0;omega
  .rw[a,b]at h;rw[a]at h0;simp only[cond_true,cond_false]at h h0;omega
  .rfl
 unfold rung at h1;unfold jT at hs
 have:x / 9223372036854775808 % 2=1↔y / 9223372036854775808 % 2=1:=by
  constructor
  .intro hh;rw[hh]at hs;simpa using hs.symm
  .intro hh;rw[hh]at hs;simpa using hs
 omega
theorem C9{x y:Nat}(h:key x=key y):val x=val y:=Int.le_antisymm (oF.2 (by omega)) (oF.2 (by omega))
theorem acz{x:Nat}(h:key x=0):val x=0:=by
 have h0:key 0=0:=by decide +kernel
 have:=C9 (h.trans h0.symm);rw[this];decide +kernel
theorem alV{x y:Nat}(h:key x=- key y):val x=- val y:=by
 have h1:rung x=rung y:=by rw[<-kQ,<-kQ,h,azU]
 have h2:(val x).natAbs=(val y).natAbs:=by rw[gF,gF,h1]
 have a1:=@Ae x;have a2:=@Ae y;have a3:=@qE x;have a4:=@qE y;omega
theorem alW{y:Nat}(h:y<9223372036854775808):key (9223372036854775808+y)=- key y:=by
 have hrg:rung (9223372036854775808+y)=rung y:=by unfold rung;omega
 have hs1:jT y=false:=by unfold jT;rw[azX h];rfl
 have hs2:jT (9223372036854775808+y)=true:=by unfold jT;rw[show(9223372036854775808+y) / 9223372036854775808=1 by omega];rfl
 unfold key;rw[hs1,hs2,hrg];rfl
theorem tell(hc:c=1074){x:Nat}(h:cB x){n:Int}(hn:n.natAbs<=1000000)(hk:key (gJ n)=key x):Go.Gv.LC .i64 (kY (bT x 4652007308841189376))=n:=by
 obtain⟨hyf,hyr,hyl,hyk⟩:=Bz hc h;obtain⟨hmk,hmf⟩:=tN hc hn;have hv:=C9 hk.symm;have hm:cB (gJ n):=⟨hmf,by rw[<-hv];exact h.le⟩;obtain⟨aya,ayb,ark,arl⟩:=Bz hc hm;have hkk:key (bT x 4652007308841189376)=key (qP n):=by unfold qP;rw[hyk,arl,hv]
 by_cases h0:key (qP n)=0
 .have z1:key (bT x 4652007308841189376)=0:=hkk.trans h0
  have z2:rung (bT x 4652007308841189376)=0:=by rw[<-kQ,z1];rfl
  have hyn:=(U2 hc hn).2;have hz:val (qP n)=0:=acz h0
  have hn0:n=0:=by
   obtain⟨p0,_,_,_,_,_⟩:=Da hc;have hq:=acy (c - 43);rw[hz,p0]at hyn;apply Classical.byContradiction;intro hne
   have h1:8796093022208*2 ^ (c - 43)<=(n*((8796093022208*2 ^ (c - 43):Nat):Int)).natAbs:=by
    rw[ayJ,av1];exact aAe _ (by omega)
   generalize n*((8796093022208*2 ^ (c - 43):Nat):Int)=z at *;generalize 2 ^ (c - 43)=Q at *;omega
  have hw:bT x 4652007308841189376=0\/bT x 4652007308841189376=9223372036854775808:=by
   unfold rung at z2;omega
  rw[hn0];rcases hw with hw |hw<;>rw[hw]<;>decide +kernel
 .have hyw:bT x 4652007308841189376=qP n:=YG hyl ark hkk (by rw[hkk];exact h0)
  rw[hyw]
  have hn0:n≠0:=by
   intro e;apply h0;subst e;unfold qP;decide +kernel
  by_cases hp:0<n
  .obtain⟨k,rfl⟩:=ay2 (show 0<=n by omega)
   exact(QX hc (n:=k) (by omega) (by omega)).2.2.2.1
  .obtain⟨k,hk'⟩:=ay2 (show 0<=-n by omega)
   have hkn:n=-(k:Int):=by omega
   subst hkn;obtain⟨b1,b2,b3,b4,b5⟩:=QX hc (n:=k) (by omega) (by omega);obtain⟨mk2,mf2⟩:=tN hc (n:=(k:Int)) (by simp at hn;simpa using hn);have hneg:val (gJ (-(k:Int)))=- val (gJ k):=alV (by rw[hmk,mk2,aBB,U3 _ (by decide)]);have hm2:cB (gJ k):=⟨mf2,by have:=hm.le;rw[hneg,azU]at this;exact this⟩;obtain⟨q1,q2,q3,q4⟩:=Bz hc hm2
   have hyy:qP (-(k:Int))=9223372036854775808+qP k:=by
    apply YG ark (by omega) _ h0;rw[alW b1];unfold qP;rw[arl,q4,hneg,aBB,U3 _ (by decide)]
   rw[hyy,YE b1 (by omega)];obtain⟨r1,_⟩:=QW (show qP k<18446744073709551616 by omega) q2
   have hbig:(val (kY (qP k))).natAbs / 2 ^ c<=4611686018427387904:=by
    rw[gF];have h5:=YH r1;have h6:rv 52 (1054*4503599627370496)=2147483648*2 ^ c:=by subst hc;decide +kernel
    have hp:=acy c;rw[h6]at h5;exact aC8 (apL h5 (by rw[aye];exact ax9 _ (by decide)))
   generalize kY (qP k)=r at *;have hrg:rung (9223372036854775808+r)=rung r:=by unfold rung;omega
   have hfr:isFin (9223372036854775808+r)=true:=by
    unfold isFin at b3 ⊢;rw[hrg];exact b3
   have hs1:jT r=false:=by unfold jT;rw[azX b5];rfl
   have hs2:jT (9223372036854775808+r)=true:=by unfold jT;rw[show(9223372036854775808+r) / 9223372036854775808=1 by omega];rfl
   rw[ES hc b3 hbig,hs1,cond_false]at b4;rw[ES hc hfr (by rw[gF,hrg,<-gF];exact hbig),hs2,cond_true,gF,hrg,<-gF,b4]
end
end Go.Ev
namespace Go.Proofs.YtefphimaggjihaaGreatDoor.Pi
open Go.Shelf Go.RowKit Go.Gv
open Go.Ev (cn bq dI bT fdiv fI dK jO kL gN lK aL key val isFin rung cB qP)
open Hs (gJ yP)
def rfR(w:Nat):Nat:=cn (kY w)
def bfR(n:Int):Bool:=cond (decide (n< -1000000)) true (decide (n>1000000))
def nnX(x:Nat):Int:=nX x rfR
def bG(x:Nat):Bool:=!(cond (bfR (nnX x)) true (!(dK (gJ (nnX x)) x)))
def dF(x:Nat):Int:=cond (bG x) (nnX x) 0
theorem afG(n:Int):aj bW 172 [iA n] (bA (bfR n)) :=
 aP aB av Tryz.func172 (by kernel_rfl) (by kernel_rfl) aA rfl (ata n)
theorem atU{x:Nat}(h:cB x):Ce .i64 (rfR (yX x))=true/\aL (kY (yX x))=false:=by
 obtain⟨c,hc⟩:∃c,c=1074:=⟨_,rfl⟩;obtain⟨q1,q2,q3,q4⟩:=Go.Ev.Bz hc h;obtain⟨r1,r2⟩:=Go.Ev.QW q3 q2
 have hf:isFin (kY (yX x))=true:=by
  unfold isFin;exact ah4 (aDw r1 (by decide))
 have hn:=Go.Ev.jP hf
 have hbig:(val (kY (yX x))).natAbs<=2 ^ (c+53):=by
  rw[Go.Ev.gF];have h5:=Go.Ev.YH r1;have h6:Go.Ev.rv 52 (1054*4503599627370496)=2147483648*2 ^ c:=by subst hc;decide +kernel
  rw[h6]at h5;rw[ari,aye];exact apL h5 (agT _ (by decide))
 refine⟨?_,hn⟩;unfold rfR;rw[Go.Ev.iI hn];exact Go.Ev.WJ hc (j:=53) ⟨hf,by rw[azc];exact hbig⟩ (by decide) (by decide)
theorem PO{x:Nat}(h:cB x):FTh dF bG x:=by
 obtain⟨c,hc⟩:∃c,c=1074:=⟨_,rfl⟩;obtain⟨q1,q2,q3,q4⟩:=Go.Ev.Bz hc h;obtain⟨f1,f2⟩:=atU h
 have hE:yX x / 2 ^ 52 % 2048<1055:=by
  have e52:(2:Nat) ^ 52=4503599627370496:=by decide
  unfold rung at q2;unfold yX;rw[e52];omega
 refine aP aB (ak aD (ak aD av)) Tryz.func153 (by kernel_rfl) (by kernel_rfl) aA rfl ((atb x rfR bfR).trans ?_);have hr:aj bW 171 [.f (yX x)] (.f (rfR (yX x))):=Cr q3 (Go.Ev.jP q1) hE;rw[ah hr,f1,ah (afG _)];show cond _ _ _=_;unfold dF bG nnX;cases cond (bfR (nX x rfR)) true (!(dK (gJ (nX x rfR)) x))<;>rfl
theorem arJ{x:Nat}(h:cB x){n:Int}(hn:n.natAbs<=1000000)(he:dK (gJ n) x=true):bG x=true/\dF x=n:=by
 obtain⟨c,hc⟩:∃c,c=1074:=⟨_,rfl⟩;obtain⟨_,_,hk⟩:=Go.Ev.vg he;have ht:=Go.Ev.tell hc h hn hk
 have hx:nnX x=n:=by
  unfold nnX nX rfR;rw[Go.Ev.iI (atU h).2];exact ht
 have hb:bfR n=false:=by
  unfold bfR;rw[decide_eq_false (by omega),cond_false,decide_eq_false (by omega)]
 have h1:bG x=true:=by unfold bG;rw[hx,hb,he];rfl
 exact⟨h1,by unfold dF;rw[h1,cond_true,hx]⟩
theorem Om{x:Nat}(h:bG x=true):(dF x).natAbs<=1000000/\dK (gJ (dF x)) x=true:=by
 have e:dF x=nnX x:=by unfold dF;rw[h];rfl
 rw[e];unfold bG bfR at h;by_cases h1:nnX x< -1000000
 .rw[decide_eq_true h1]at h;cases h
 .by_cases h2:nnX x>1000000
  .rw[decide_eq_false h1,decide_eq_true h2]at h;cases h
  .rw[decide_eq_false h1,decide_eq_false h2]at h
   refine⟨by omega,?_⟩;cases hf:dK (gJ (nnX x)) x
   .rw[hf]at h;cases h
   .rfl
theorem ql(x:Nat):(dF x).natAbs<=1000000:=by
 cases h:bG x
 .unfold dF;rw[h,cond_false];decide
 .exact(Om h).1
theorem ajJ{x:Nat}(h:cB x):Nu cK dF bG x:=⟨PO h,Ph (apL (ql x) (by decide)),(y8 _ (apL (ql x) (by decide))).1⟩
end Go.Proofs.YtefphimaggjihaaGreatDoor.Pi
namespace Go.Proofs.YtefphimaggjihaaGreatDoor.Pi
open Go.Shelf Go.RowKit Go.Gv
open Go.Ev (cn bq dI bT fdiv fI dK jO kL gN lK aL key val isFin cB)
open Hs Hs.So Hs.Sc Hs.Fm
theorem eG{x:Nat}(h:eP x=true):cB x:=by
 unfold eP at h;have e1:key 13920209183539462144=-4696837146684686336:=by decide +kernel
 have e2:key 4696837146684686336=4696837146684686336:=by decide +kernel
 cases h1:lK x 13920209183539462144
 .rw[h1]at h;cases h
 .rw[h1,cond_true]at h
  obtain⟨n1,_,k1⟩:=Go.Ev.aek h1;obtain⟨_,_,k2⟩:=Go.Ev.aej h;have hf:isFin x=true:=Go.Ev.yQ n1 k1 k2 (by rw[e1];decide) (by rw[e2];decide);obtain⟨c,hc⟩:∃c,c=1074:=⟨_,rfl⟩;have t1:val 4696837146684686336=((1000000*2 ^ c:Nat):Int):=by subst hc;decide +kernel
  have t2:val 13920209183539462144=-((1000000*2 ^ c:Nat):Int):=by subst hc;decide +kernel
  have a1:=Go.Ev.oF.2 k1;have a2:=Go.Ev.oF.2 k2;rw[t2]at a1;rw[t1]at a2;refine⟨hf,?_⟩;rw[<-hc];generalize 1000000*2 ^ c=B at *;omega
theorem Lg{x:Nat}(h:eP x=true):Nu cK dF bG x:=ajJ (eG h)
theorem og{a b c:Nat}(h:dL a b c=true):eP a=true/\eP b=true/\eP c=true:=by
 unfold dL at h;revert h;cases eP a<;>cases eP b<;>cases eP c<;>intro h<;>first |exact⟨rfl,rfl,rfl⟩ | (cases h;done)
theorem GY{a:Nat->Nat}{i:Nat}(h:dL (a i) (a (i+1)) (a (i+2))=true):NV cK dF bG a i:=by
 obtain⟨h1,h2,h3⟩:=og h;exact⟨Lg h1,Lg h2,Lg h3⟩
theorem agP{a:Nat->Nat}(h:HV a=false):dL (a 0) (a 1) (a 2)=true/\dL (a 3) (a 4) (a 5)=true/\dL (a 6) (a 7) (a 8)=true/\eP (a 9)=true/\eP (a 10)=true:=by
 unfold HV at h;revert h;cases dL (a 0) (a 1) (a 2)<;>cases dL (a 3) (a 4) (a 5)<;>cases dL (a 6) (a 7) (a 8)<;>cases eP (a 9)<;>cases eP (a 10)<;>intro h<;>first |exact⟨rfl,rfl,rfl,rfl,rfl⟩ | (cases h;done)
theorem alQ{k:Int}{a:Nat->Nat}{sk:Int}(h:jG (fC k a sk)=0):ShN cK dF bG k a/\Wv oK sk:=by
 obtain⟨h1,h2,h3,h4⟩:=kI h;obtain⟨r0,r3,r6,r9,r10⟩:=agP h1;exact⟨⟨h2,GY r0,λ _=>GY r3,λ _=>GY r6,λ _ _=>Lg r9,λ _=>Lg r10⟩,Ik h3 (by omega)⟩
theorem Oa{n:Int}(h0:0<=n)(h1:n<100000000):JJ n/\ala n≠[]:=⟨Ij (by omega) (by omega),(lu h0 h1).1⟩
theorem c4{b:Bool}{e x:Int}(he:e≠0)(h:cond b e x=0):b=false/\x=0:=by
 cases b
 .exact⟨rfl,h⟩
 .exact absurd h he
theorem c0{e x:Int}(h:cond (e==0) x e=0):e=0/\x=0:=by
 by_cases he:e=0
 .subst he;exact⟨rfl,h⟩
 .rw[beq_false_of_ne he]at h;exact absurd h he
theorem cn0{e x:Int}(h:cond (!(e==0)) e x=0):e=0/\x=0:=by
 by_cases he:e=0
 .subst he;exact⟨rfl,h⟩
 .rw[beq_false_of_ne he]at h;exact absurd h he
theorem Rt{e sk:Int}{n:Nat}(h:CZ e sk n=0):e=0:=(cn0 h).1
theorem tY{a b:Bool}(h:cond a true b=false):a=false/\b=false:=by
 cases a
 .exact⟨rfl,h⟩
 .cases h
theorem ze{l:Nat->Int}(h:M8 l=true):∀q,q<3->0<=l q/\l q<=65536:=by
 unfold M8 at h
 have hb:∀{x:Int} {b:Bool},cond (UY x) false b=true->(0<=x/\x<=65536)/\b=true:=fun{x b} h=>by
  cases hx:UY x
  .rw[hx]at h
   obtain⟨h1,h2⟩:=tY hx;have h1:=of_decide_eq_false h1;have h2:=of_decide_eq_false h2;exact⟨by omega,h⟩
  .rw[hx]at h;cases h
 obtain⟨a0,h⟩:=hb h;obtain⟨a1,h⟩:=hb h;obtain⟨a2,_⟩:=hb h;intro q hq
 match q,hq with
 | 0,_=>exact a0
 | 1,_=>exact a1
 | 2,_=>exact a2
theorem ZT{l:Nat->Int}(h:∀q,q<3->0<=l q/\l q<=65536):Wh l:=⟨λ q hq=>Oa (h q hq).1 (by have:=(h q hq).2;omega)⟩
theorem Yx{s m g:Int}(h:(!WC s m g)=false):(0<=s/\s<=1000)/\(0<=m/\m<=1000)/\0<=g/\g<=1000:=by
 unfold WC at h
 have hb:∀{x:Int} {b:Bool},(!cond (cbB x) false b)=false->(0<=x/\x<=1000)/\(!b)=false:=fun{x b} h=>by
  cases hx:cbB x
  .rw[hx]at h
   obtain⟨h1,h2⟩:=tY hx;have h1:=of_decide_eq_false h1;have h2:=of_decide_eq_false h2;exact⟨by omega,h⟩
  .rw[hx]at h;cases h
 obtain⟨a0,h⟩:=hb h;obtain⟨a1,h⟩:=hb h;obtain⟨a2,_⟩:=hb h;exact⟨a0,a1,a2⟩
theorem OG{k:Nat->Int}(h:skE k=0):(∀q,q<9->0<=k q/\k q<=1000)/\100<=k 9/\k 9<=10000:=by
 unfold skE at h;obtain⟨h0,h⟩:=c4 (by decide) h;obtain⟨h1,h⟩:=c4 (by decide) h;obtain⟨h2,h⟩:=c4 (by decide) h;obtain⟨h3,_⟩:=c4 (by decide) h;have m0:=Yx h0;have m1:=Yx h1;have m2:=Yx h2;obtain⟨b1,b2⟩:=tY h3;have b1:=of_decide_eq_false b1;have b2:=of_decide_eq_false b2;refine⟨λ q hq=>?_,by omega,by omega⟩
 match q,hq with
 | 0,_=>omega
 | 1,_=>omega
 | 2,_=>omega
 | 3,_=>omega
 | 4,_=>omega
 | 5,_=>omega
 | 6,_=>omega
 | 7,_=>omega
 | 8,_=>omega
theorem TJ{n:Nat}{P:Nat->dM}(h:∀i,i<n->Iw P i=0):PM n P/\∀i,i<n->(P i).op=0->jG (fC (P i).k (P i).a (P i).sk)=0:=by
 refine⟨λ j hj=>?_,λ i hi h0=>?_⟩
 .have h1:=h j hj
  unfold Iw Qy at h1;by_cases h0:(P j).op=0
  .exact ER h0
  .right
   rw[beq_false_of_ne h0,cond_false]at h1;cases ho:opB (P j).op
   .rw[ho]at h1;exact absurd (show(11:Int)=0 from h1) (by decide)
   .rw[ho,cond_true]at h1
    obtain⟨h2,_⟩:=c4 (by decide) h1;unfold nmB at h2;obtain⟨h2,r2⟩:=tY h2;obtain⟨h2,r1⟩:=tY h2;obtain⟨l1,l2⟩:=tY h2;have r2:=of_decide_eq_false r2;have r1:=of_decide_eq_false r1;have l1:=of_decide_eq_false l1;have l2:=of_decide_eq_false l2
    have:(P j).op=1\/(P j).op=2\/(P j).op=3:=by
     unfold opB at ho;simpa using ho
    omega
 .have h1:=h i hi
  unfold Iw Qy at h1;rw[h0]at h1;have h1:mlE (jG (P i).s) (P i).k=0:=h1;exact(cn0 h1).1
theorem ak5{n:Nat}{P:Nat->dM}{sn:Int}(h:Ms n P sn=0):((1<=n/\n<=16)/\PM n P/\∀i,i<n->(P i).op=0->ShN cK dF bG (P i).k (P i).a)/\Wv oK sn:=by
 unfold Ms at h;obtain⟨h1,h⟩:=c4 (by decide) h;obtain⟨h2,h⟩:=c4 (by decide) h;obtain⟨n1,n2⟩:=tY h1;have n1:=of_decide_eq_false n1;have n2:=of_decide_eq_false n2;obtain⟨p1,p2⟩:=TJ (dh _ h);obtain⟨s1,s2⟩:=Dt h2;exact⟨⟨by omega,p1,λ i hi h0=>(alQ (p2 i hi h0)).1⟩,Ik s1 (by omega)⟩
theorem au8{F:Hs.Fm.Fd}(h:Lr F.c=0):((JJ F.W/\ala F.W≠[])/\(JJ F.H/\ala F.H≠[])/\NV cK dF bG F.at_ 0/\Nu cK dF bG F.sd/\F.n<=1000/\∀q,q<F.n->FDc cK (F.hs q)/\cK (F.hs q)≠[])/\Wv oK F.sk:=by
 obtain⟨h1,h2,h3,h4,h5,h6,_⟩:dL (F.at_ 0) (F.at_ 1) (F.at_ 2)=true/\eP F.sd=true/\F.n<=64/\(2<=F.W/\F.W<=8/\2<=F.H/\F.H<=8)/\(0<=F.sk/\F.sk<16)/\(∀q,q<F.n->oO (F.hs q)=false)/\F.jM=0/\(kM (bx F)==0)=true:=(uJ F).2 h;refine⟨⟨Oa (by omega) (by omega),Oa (by omega) (by omega),GY h1,Lg h2,by omega,λ q hq=>?_⟩,Ik h5.1 (by omega)⟩;obtain⟨b1,b2⟩:=tY (h6 q hq);have b1:=of_decide_eq_false b1;have b2:=of_decide_eq_false b2;exact⟨Ph (by omega),(y8 _ (by omega)).1⟩
theorem alI{e:Nat->Nat}(h:Y4 e=0):dL (e 0) (e 1) (e 2)=true/\dL (e 3) (e 4) (e 5)=true/\dL (e 6) (e 7) (e 8)=true/\eP (e 9)=true:=by
 unfold Y4 at h;obtain⟨h1,_⟩:=c4 (by decide) h;unfold feB at h1;revert h1;cases dL (e 0) (e 1) (e 2)<;>cases dL (e 3) (e 4) (e 5)<;>cases dL (e 6) (e 7) (e 8)<;>cases eP (e 9)<;>intro h<;>first |exact⟨rfl,rfl,rfl,rfl⟩ | (cases h;done)
theorem jC{b:Bool}(h:(!b)=false):b=true:=by cases b<;>first |rfl |cases h
theorem Vx{s:fT}(h:yK s=0):ScN cK dF bG s/\(s.nS<=64/\s.nO<=8/\s.nF<=2/\s.nK<=16/\s.nL<=4):=by
 unfold yK at h;obtain⟨h1,h⟩:=c4 (by decide) h;obtain⟨hK,h⟩:=c0 h;obtain⟨hT,h⟩:=c0 h;obtain⟨hL,h⟩:=c0 h;obtain⟨hY,h⟩:=c4 (by decide) h;have few:=PS s h1;unfold thE at hT;obtain⟨hS,hT⟩:=c0 hT;obtain⟨hO,hF⟩:=c0 hT;obtain⟨y0,y3,y6,y9⟩:=alI h;refine⟨⟨GY y0,GY y3,GY y6,Lg y9,ZT (ze (jC hY)),λ j hj=>?_,λ j hj=>?_,λ j hj=>?_,λ j hj=>?_,λ j hj=>?_,by omega⟩,few⟩
 .obtain⟨k1,k2,k3⟩:=OG (k:=s.K j) (dh _ hK j hj)
  refine⟨Ik (by omega) (by omega),⟨λ q hq=>?_⟩,⟨λ q hq=>?_⟩,⟨λ q hq=>?_⟩,Ph (by omega),(y8 _ (by omega)).1⟩
  .have:=k1 q (by omega);exact Oa this.1 (by omega)
  .have:=k1 (3+q) (by omega);exact Oa this.1 (by omega)
  .have:=k1 (6+q) (by omega);exact Oa this.1 (by omega)
 .have hl:lmE (s.LA j) (s.LL j)=0:=dh _ hL j hj
  unfold lmE at hl;obtain⟨a1,hl⟩:=c4 (by decide) hl;obtain⟨a2,_⟩:=c4 (by decide) hl;exact⟨GY (jC a1),ZT (ze (jC a2))⟩
 .exact alQ (Rt (dh _ hS j hj))
 .exact ak5 (Rt (dh _ hO j hj))
 .exact au8 (Rt (dh _ hF j hj))
end Go.Proofs.YtefphimaggjihaaGreatDoor.Pi
namespace Go.Proofs.YtefphimaggjihaaGreatDoor.Pi
open Go.Shelf Go.RowKit Go.Gv
open Hs Hs.So Hs.Sc Hs.Fm
structure G5(k:Nat)(ts:List (List UInt8)):Prop where
 n:ts.length<=k
 w:∀t,t∈ts->t.length<=20
theorem iU:G5 0 []:=⟨ao5 _,λ _ h=>by cases h⟩
theorem aW{k:Nat}{t:List UInt8}{ts:List (List UInt8)}(ht:t.length<=20)(h:G5 k ts):G5 (k+1) (t::ts):=⟨by simp;exact h.n,λ x hx=>by
 rcases azV.1 hx with rfl |hx
 .exact ht
 .exact h.w x hx⟩
theorem iC{j k:Nat}{A B:List (List UInt8)}(ha:G5 j A)(hb:G5 k B):G5 (j+k) (A++B):=⟨by simp;exact aEv ha.n hb.n,λ x hx=>by
 rcases ayQ.1 hx with hx |hx
 .exact ha.w x hx
 .exact hb.w x hx⟩
theorem G5.up{j k:Nat}{A:List (List UInt8)}(h:G5 j A)(hk:j<=k):G5 k A:=⟨apL h.n hk,h.w⟩
theorem jX:∀{ts:List (List UInt8)} {k:Nat} (b:Bool),G5 k ts->(tks b ts).length<=21*k
 | [],_,_,_=>by simp[tks]
 |t::r,k,b,h=>by
  have h1:=h.w t (by simp);have hn:=h.n;simp at hn;obtain⟨k,rfl⟩:∃j,k=j+1:=⟨k - 1,by omega⟩;have h2:=jX (ts:=r) (k:=k) true ⟨by omega,λ x hx=>h.w x (List.mem_cons_of_mem _ hx)⟩;simp only[tks,uI];have:(if b then([32]:List UInt8)else []).length<=1:=by cases b<;>simp
  omega
theorem Dm{ts:List (List UInt8)}{k:Nat}(b:Bool)(h:G5 k ts):(iD b ts).length<=21*k+22:=by
 unfold iD;have:=jX b (iC h (aW (t:=[59]) (by decide) iU));rw[uI];simp only[anE,arB];omega
theorem qU{E:Nat->List UInt8}{m:Nat}:∀n,(∀j,j<n->(E j).length<=m)->(bY E n).length<=n*m
 | 0,_=>by simp[bY]
 |n+1,h=>by
  have:=qU n λ j hj=>h j (by omega);have h1:=h n (by omega);simp only[bY,uI];rw[asM,azc];omega
theorem lN(x:Nat):(Jd cK dF x).length<=20:=(y8 _ (apL (ql x) (by decide))).2
theorem oM(a:Nat->Nat)(i:Nat):G5 3 (vT cK dF a i):=aW (lN _) (aW (lN _) (aW (lN _) iU))
theorem OD{w t:List UInt8}(hw:w.length<=20)(ht:t.length<=20)(a:Nat->Nat):G5 10 (Dn cK dF w t a) :=
 aW hw (iC (k:=6) (oM a 0) (aW ht (iC (k:=2) (oM a 3) (aW (by decide) (aW (lN _) iU))))) |>.up (by decide)
theorem Dp(k:Int)(a:Nat->Nat):G5 13 (yw cK dF k a):=by
 unfold yw;split
 .exact(aW (by decide) (iC (oM a 0) (aW (by decide) (aW (lN _) iU)))).up (by decide)
 .split
  .exact(aW (by decide) (iC (oM a 0) (aW (by decide) (oM a 3)))).up (by decide)
  .split
   .exact(aW (by decide) (iC (oM a 0) (aW (by decide) (iC (oM a 3) (aW (by decide) (oM a 6)))))).up (by decide)
   .split
    .exact(OD (by decide) (by decide) a).up (by decide)
    .split
     .exact(OD (by decide) (by decide) a).up (by decide)
     .exact(iC (OD (by decide) (by decide) a) (aW (lN _) iU)).up (by decide)
theorem Zb(o:Int):(y7 o).length<=20:=by unfold y7;split<;>(try split)<;>decide
theorem upd_ne(g:Nat->Int){i j:Nat}(h:i≠j)(v:Int):upd g j v i=g i:=if_neg h
theorem Zc(P:Nat->dM)(i:Nat):∀d,(sd P (i+1+d)).1 i=(sd P (i+1)).1 i/\(sd P (i+1+d)).2 i=(sd P (i+1)).2 i
 | 0=>⟨rfl,rfl⟩
 |d+1=>by
  have h:=Zc P i d;rw[show i+1+(d+1)=(i+1+d)+1 by omega,kU];have hne:i≠i+1+d:=by omega
  split
  .exact⟨(upd_ne _ hne _).trans h.1,h.2⟩
  .exact⟨(upd_ne _ hne _).trans h.1,(upd_ne _ hne _).trans h.2⟩
theorem za{P:Nat->dM}{i j:Nat}(h:i<j):(sd P j).1 i=(sd P (i+1)).1 i/\(sd P j).2 i=(sd P (i+1)).2 i:=by
 have:=Zc P i (j - (i+1))
 rwa [show i+1+(j - (i+1))=j by omega]at this
theorem amB{n:Nat}{P:Nat->dM}(hP:PM n P){i:Nat}(hi:i<n)(h0:(P i).op≠0):(sd P n).2 i=1+mx ((sd P n).2 (P i).l.toNat) ((sd P n).2 (P i).r.toNat):=by
 rcases hP i hi with h | ⟨_,⟨l0,l1⟩,r0,r1⟩
 .exact absurd h h0
 .rw[(za hi).2,kU,if_neg h0]
  show upd _ i _ i=_;unfold upd;rw[if_pos rfl,(za (show(P i).l.toNat<n by omega)).2,(za (show(P i).r.toNat<n by omega)).2,(za (show(P i).l.toNat<i by omega)).2,(za (show(P i).r.toNat<i by omega)).2]
theorem OE{n:Nat}{P:Nat->dM}(hP:PM n P):∀(f i d:Nat),i<n->(sd P n).2 i<=d->∃k,G5 k (Fh cK dF P f i)/\k+3<=16*2 ^ d
 | 0,_,d,_,_=>⟨0,iU,by have:=acy d;omega⟩
 |f+1,i,d,hi,hd=>by
  unfold Fh;by_cases h0:(P i).op=0
  .rw[if_pos h0]
   exact⟨13,Dp _ _,by have:=acy d;omega⟩
  .rw[if_neg h0]
   rcases hP i hi with h | ⟨_,⟨l0,l1⟩,r0,r1⟩
   .exact absurd h h0
   .rw[amB hP hi h0]at hd
    have g1:=(qm P n (P i).l.toNat).2.1;have g2:=(qm P n (P i).r.toNat).2.1;obtain⟨d,rfl⟩:∃e,d=e+1:=⟨d - 1,by unfold mx at hd;split at hd<;>omega⟩;obtain⟨k1,f1,e1⟩:=OE hP f (P i).l.toNat d (by omega) (by unfold mx at hd;split at hd<;>omega);obtain⟨k2,f2,e2⟩:=OE hP f (P i).r.toNat d (by omega) (by unfold mx at hd;split at hd<;>omega);refine⟨_,iC (aW (Zb _) (aW (t:=[123]) (by decide) iU)) (iC f1 (iC f2 (aW (t:=[125]) (by decide) iU))),?_⟩;rw[ayD];omega
theorem ah7{n:Nat}{P:Nat->dM}(h1:1<=n)(hP:PM n P):G5 130 (soT cK dF n P):=by
 unfold soT;cases ha:Fg n P
 .exact(aW (by decide) iU).up (by decide)
 .unfold Fg at ha
  have ha:arP n P:=by simpa using ha
  obtain⟨k,hk,he⟩:=OE hP n (n - 1) 3 (by omega) ha.2.2;exact(aW (by decide) hk).up (by omega)
theorem Je{n:Int}(h0:0<=n)(h1:n<100000000):(ala n).length<=20:=apL (lu h0 h1).2 (by decide)
theorem ado{n:Int}(h0:0<=n)(h1:n<100000000):(oK n).length<=20:=by
 have:=(lu h0 h1).2;show(115::ala n).length<=20;simp;omega
theorem Jf{l:Nat->Int}(h:∀q,q<3->0<=l q/\l q<=65536):G5 3 (Bl l):=by
 have a0:=h 0 (by decide);have a1:=h 1 (by decide);have a2:=h 2 (by decide);exact aW (Je a0.1 (by omega)) (aW (Je a1.1 (by omega)) (aW (Je a2.1 (by omega)) iU))
theorem amD{F:Hs.Fm.Fd}(h:∀q,q<F.n->oO (F.hs q)=false):G5 F.n (vE cK F F.n):=⟨by unfold vE;simp,λ t ht=>by
 unfold vE at ht;obtain⟨q,hq,rfl⟩:=azp.1 ht;obtain⟨b1,b2⟩:=tY (h q (ayA.1 hq));have b1:=of_decide_eq_false b1;have b2:=of_decide_eq_false b2;exact(y8 _ (by omega)).2⟩
theorem ah8(e:Nat->Nat):G5 14 (eyT cK dF e) :=
 (aW (by decide) (iC (oM e 0) (aW (by decide) (iC (oM e 3) (aW (by decide) (iC (oM e 6) (aW (by decide) (aW (lN _) iU)))))))).up (by decide)
theorem Dq{k:Int}(h0:0<=k)(h1:k<16)(b:Bool):(iD b [oK k]).length<=43:=Dm b (aW (ado h0 (by omega)) iU)
theorem ah9{s:fT}(h:∀q,q<3->0<=s.jE q/\s.jE q<=65536):(comp (yH s) false).length<=110:=by
 have e:comp (yH s) false=tks false [Fe]++(tks true (Bl s.jE)++((tks true [[59]]++[10])++[])):=rfl;rw[e];have h1:=jX false (aW (t:=Fe) (by decide) iU);have h2:=jX true (Jf h);have h3:=jX true (aW (t:=[59]) (by decide) iU);simp only[uI,anE,arB];omega
theorem aia{s:fT}{j:Nat}(hj:j<16)(h:skE (s.K j)=0):(comp (skI cK s j) false).length<=400:=by
 obtain⟨k1,k2,k3⟩:=OG h;have e:comp (skI cK s j) false=iD false (skT cK (s.K j) (λ q=>s.K j (3+q)) (λ q=>s.K j (6+q)) (s.K j 9) (j:Nat))++[]:=rfl;rw[e,awr];have a:∀d,d<=6->G5 3 (Bl λ q=>s.K j (d+q)):=λ d hd=>Jf λ q hq=>by have:=k1 (d+q) (by omega);omega
 have a0:G5 3 (Bl (s.K j)):=Jf λ q hq=>by have:=k1 q (by omega);omega
 have f:G5 16 (skT cK (s.K j) (λ q=>s.K j (3+q)) (λ q=>s.K j (6+q)) (s.K j 9) (j:Nat)) :=
  (iC (aW (by decide) (aW (ado (by omega) (by omega)) (aW (by decide) iU))) (iC a0 (aW (by decide) (iC (a 3 (by omega)) (aW (by decide) (iC (a 6 (by omega)) (aW (by decide) (aW (y8 _ (by omega)).2 iU)))))))).up (by decide)
 exact apL (Dm false f) (by decide)
theorem aib{s:fT}{j:Nat}(h:∀q,q<3->0<=s.LL j q/\s.LL j q<=65536):(comp (lmI cK dF bG s j) false).length<=200:=by
 have e:comp (lmI cK dF bG s j) false=iD false (Vw cK dF (s.LA j) (s.LL j))++[]:=rfl;rw[e,awr];have f:G5 8 (Vw cK dF (s.LA j) (s.LL j)):=(aW (by decide) (iC (oM _ 0) (aW (by decide) (Jf h)))).up (by decide);exact apL (Dm false f) (by decide)
theorem aic{s:fT}{j:Nat}(h0:0<=(s.S j).sk)(h1:(s.S j).sk<16):(comp (shI cK dF bG s j) false).length<=320:=by
 have e:comp (shI cK dF bG s j) false=tks false (yw cK dF (s.S j).k (s.S j).a)++(iD true [oK (s.S j).sk]++[]):=rfl;rw[e];have a:=jX false (Dp (s.S j).k (s.S j).a);have b:=Dq h0 h1 true;simp only[uI,arB];omega
theorem aie{s:fT}{j:Nat}(h0:0<=(s.O j).sk)(h1:(s.O j).sk<16)(hn:1<=(s.O j).n)(hP:PM (s.O j).n (s.O j).P):(comp (Za cK dF bG s j) false).length<=2800:=by
 have e:comp (Za cK dF bG s j) false=tks false (soT cK dF (s.O j).n (s.O j).P)++(iD true [oK (s.O j).sk]++[]):=rfl;rw[e];have a:=jX false (ah7 hn hP);have b:=Dq h0 h1 true;simp only[uI,arB];omega
theorem aif{s:fT}{j:Nat}(h:Lr (s.F j).c=0):(comp (feI cK dF bG s j) false).length<=1600:=by
 obtain⟨h1,h2,h3,h4,h5,h6,_⟩:dL ((s.F j).at_ 0) ((s.F j).at_ 1) ((s.F j).at_ 2)=true/\eP (s.F j).sd=true/\(s.F j).n<=64/\(2<=(s.F j).W/\(s.F j).W<=8/\2<=(s.F j).H/\(s.F j).H<=8)/\(0<=(s.F j).sk/\(s.F j).sk<16)/\(∀q,q<(s.F j).n->oO ((s.F j).hs q)=false)/\(s.F j).jM=0/\(kM (bx (s.F j))==0)=true:=(uJ (s.F j)).2 h;have e:comp (feI cK dF bG s j) false=tks false (Y9 cK dF (s.F j))++(iD true [oK (s.F j).sk]++[]):=rfl;rw[e];have f:G5 74 (Y9 cK dF (s.F j)):=(iC (aW (by decide) (aW (Je (by omega) (by omega)) (aW (Je (by omega) (by omega)) (aW (by decide) iU)))) (iC (oM _ 0) (aW (by decide) (aW (lN _) (aW (by decide) (amD h6)))))).up (by omega);have a:=jX false f;have b:=Dq h5.1 h5.2 true;simp only[uI,arB];omega
theorem adp{s:fT}(h:yK s=0):(x6 cK dF bG s).length<=900000:=by
 have few:=(Vx h).2;unfold yK at h;obtain⟨h1,h⟩:=c4 (by decide) h;obtain⟨hK,h⟩:=c0 h;obtain⟨hT,h⟩:=c0 h;obtain⟨hL,h⟩:=c0 h;obtain⟨hY,h⟩:=c4 (by decide) h;unfold thE at hT;obtain⟨hS,hT⟩:=c0 hT;obtain⟨hO,hF⟩:=c0 hT;have a0:(x0 cK dF s).length<=316:=Dm false (ah8 s.eye);have a1:=ah9 (s:=s) (ze (jC hY));have a2:=qU (E:=λ j=>comp (skI cK s j) false) (m:=400) s.nK λ j hj=>aia (by omega) (dh _ hK j hj)
 have a3:=qU (E:=λ j=>comp (lmI cK dF bG s j) false) (m:=200) s.nL λ j hj=>by
  have hl:lmE (s.LA j) (s.LL j)=0:=dh _ hL j hj;unfold lmE at hl;obtain⟨_,hl⟩:=c4 (by decide) hl;obtain⟨b2,_⟩:=c4 (by decide) hl;exact aib (ze (jC b2))
 have a4:=qU (E:=λ j=>comp (shI cK dF bG s j) false) (m:=320) s.nS λ j hj=>by
  have hm:jG (fC (s.S j).k (s.S j).a (s.S j).sk)=0:=Rt (dh _ hS j hj);have:=(kI hm).2.2;exact aic this.1 this.2
 have a5:=qU (E:=λ j=>comp (Za cK dF bG s j) false) (m:=2800) s.nO λ j hj=>by
  have hm:Ms (s.O j).n (s.O j).P (s.O j).sk=0:=Rt (dh _ hO j hj);have hm':=(ak5 hm).1;unfold Ms at hm;obtain⟨_,hm⟩:=c4 (by decide) hm;obtain⟨b2,_⟩:=c4 (by decide) hm;have:=Dt b2;exact aie this.1 this.2 hm'.1.1 hm'.2.1
 have a6:=qU (E:=λ j=>comp (feI cK dF bG s j) false) (m:=1600) s.nF λ j hj=>aif (Rt (dh _ hF j hj));unfold x6 x5 x4 x3 x2 x1;simp only[uI];omega
theorem Jg{s:fT}(h:yK s=0):aj bW 12 [.agg s.c] (cond (w6 cK dF bG s) (.aN [zA ⟨#[]⟩,iA 11]) (.aN [zA (lB (x6 cK dF bG s)),iA 0])):=Vy h (Vx h).1 (adp h)
end Go.Proofs.YtefphimaggjihaaGreatDoor.Pi
namespace Go.Proofs.YtefphimaggjihaaGreatDoor.Pi.Rd
open Go.Shelf Go.RowKit Go.Gv
theorem apb:∀d:Fin 10,(azk (48+d.val)).toNat=48+d.val:=by decide
theorem FV{d:Nat}(h:d<10):(azk (48+d)).toNat=48+d:=apb ⟨d,h⟩
theorem aad:∀d:Fin 10,(azk (48+d.val)=48)↔d.val=0:=by decide
theorem ak6:∀(d k:Nat),k<10 ^ (d+1)->YO (ayh k)/\qF (ayh k)=(k:Int)/\(1<=(ayh k).length/\(ayh k).length<=d+1)/\(1<=k->(ayh k).head?≠some 48)/\(k<10->(ayh k).length=1):=λ d=>by
 have one:∀k,k<10->YO (ayh k)/\qF (ayh k)=(k:Int)/\(ayh k).length=1/\(1<=k->(ayh k).head?≠some 48):=λ k h=>by
  rw[azY h];refine⟨λ b hb=>?_,?_,rfl,λ h1=>?_⟩
  .simp only[aDm]at hb
   subst hb;rw[FV h];omega
  .show dv 0 _=_
   unfold dv;rw[FV h];omega
  .simp only[List.head?_cons,ne_eq,jN]
   rw[aad ⟨k,h⟩];show ¬k=0;omega
 induction d with
 |zero =>
  intro k hk;obtain⟨h1,h2,h3,h4⟩:=one k (by omega);exact⟨h1,h2,by omega,h4,λ _=>h3⟩
 |succ d ih =>
  intro k hk;by_cases h:k<10
  .obtain⟨h1,h2,h3,h4⟩:=one k h
   exact⟨h1,h2,by omega,h4,λ _=>h3⟩
  .obtain⟨h1,h2,h3,h4,_⟩:=ih (k / 10) (by rw[ayD]at hk;omega)
   have hm:=FV (show k % 10<10 by omega);rw[ayh,dif_neg h];refine⟨λ b hb=>?_,?_,?_,λ _=>?_,λ hc=>absurd hc h⟩
   .rcases ayQ.1 hb with hb |hb
    .exact h1 b hb
    .simp only[aDm]at hb
     subst hb;rw[hm];omega
   .rw[TY,h2]
    unfold dv;rw[hm];omega
   .rw[uI,azM];omega
   .have:=h4 (by omega)
    cases hx:ayh (k / 10)with
    |nil=>rw[hx]at h3;simp at h3
    |cons a r=>rw[hx]at this;exact this
theorem VA(k:Nat):ala (k:Int)=ayh k:=by
 unfold ala;rw[if_neg (by omega),Zk]
theorem xW{k:Nat}(h:k<1000000000):Pln (ala (k:Int))/\qF (ala (k:Int))=(k:Int):=by
 obtain⟨h1,h2,h3,h4,h5⟩:=ak6 8 k (by omega);rw[VA];refine⟨⟨h3.1,h3.2,h1,λ hl=>?_⟩,h2⟩;refine h4 ?_;by_cases h':k<10
 .have:=h5 h';omega
 .omega
def Vz(r:Nat):List UInt8:=ayI ((ala ((1000+r:Nat):Int)).drop 1) 48
theorem aae(l:List UInt8):ayI (l++[48]) 48=ayI l 48:=by
 unfold ayI;rw[aDa];rfl
theorem KM{l:List UInt8}{b:UInt8}(h:b≠48):ayI (l++[b]) 48=l++[b]:=by
 unfold ayI;rw[aDa];show(List.dropWhile (·==48) (b::l.reverse)).reverse=_;rw[List.dropWhile_cons,if_neg (by simpa using h)];simp
theorem d3{r:Nat}(h:r<1000):(ala ((1000+r:Nat):Int)).drop 1=[azk (48+r / 100),azk (48+r / 10 % 10),azk (48+r % 10)]:=by
 rw[VA,ayh,dif_neg (by omega),ayh,dif_neg (by omega),ayh,dif_neg (by omega),azY (by omega)];show [_,_,_]=_;rw[show(1000+r) / 10 / 10 % 10=r / 100 by omega,show(1000+r) / 10 % 10=r / 10 % 10 by omega,show(1000+r) % 10=r % 10 by omega]
theorem adt{r:Nat}(h0:0<r)(h:r<1000):YO (Vz r)/\Vz r≠[]/\(Vz r).length<=3/\qF (Vz r)*(if(Vz r).length=1 then 100 else if(Vz r).length=2 then 10 else 1)=(r:Int):=by
 have n1:=FV (show r / 100<10 by omega);have n2:=FV (show r / 10 % 10<10 by omega);have n3:=FV (show r % 10<10 by omega);have z3:=aad ⟨r % 10,by omega⟩;have z2:=aad ⟨r / 10 % 10,by omega⟩;have z1:=aad ⟨r / 100,by omega⟩;simp only at z1 z2 z3;unfold Vz;rw[d3 h];generalize azk (48+r / 100)=x at *;generalize azk (48+r / 10 % 10)=y at *;generalize azk (48+r % 10)=w at *;by_cases c3:w=48
 .subst c3
  rw[show [x,y,48]=[x,y]++[48] from rfl,aae];have e3:r % 10=0:=z3.1 rfl;by_cases c2:y=48
  .subst c2
   have e2:r / 10 % 10=0:=z2.1 rfl;rw[show [x,48]=[x]++[48] from rfl,aae];have c1:x≠48:=λ c=>by have:=z1.1 c;omega
   rw[show [x]=[]++[x] from rfl,KM c1];refine⟨λ b hb=>?_,by simp,by simp,?_⟩
   .simp at hb;subst hb;omega
   .simp[qF,dv];omega
  .rw[show [x,y]=[x]++[y] from rfl,KM c2]
   refine⟨λ b hb=>?_,by simp,by simp,?_⟩
   .simp at hb;rcases hb with rfl |rfl<;>omega
   .simp[qF,dv];omega
 .rw[show [x,y,w]=[x,y]++[w] from rfl,KM c3]
  refine⟨λ b hb=>?_,by simp,by simp,?_⟩
  .simp at hb;rcases hb with rfl |rfl |rfl<;>omega
  .simp[qF,dv];omega
def ais(p:List UInt8 × Int):Prop:=aj bW 234 [zA (lB p.1)] (.aN [iA p.2,bA true])/\-1000000<=p.2/\p.2<=1000000
def apc(m:Int)(p:List UInt8 × Int):Prop:=aj bW 245 [zA (lB p.1)] (.aN [iA p.2,bA true])/\0<=p.2/\p.2<=m
theorem Wq{n:Int}(h:n.natAbs<=1000000):ais (cK n,n):=by
 refine⟨?_,by show -1000000<=n;omega,by show n<=1000000;omega⟩;obtain⟨h1,h2⟩:=xW (k:=n.natAbs / 1000) (by omega)
 have key:∀b:List UInt8,YO b->b.length<=3->qF b*(if b.length=1 then 100 else if b.length=2 then 10 else 1)=((n.natAbs % 1000:Nat):Int)->dcA n.natAbs=ala ((n.natAbs / 1000:Nat):Int)++(if b=[]then []else 46::b)->aj bW 234 [zA (lB (cK n))] (.aN [iA n,bA true]):=λ b hb hl hv hd=>by
  have e1:cK n=acM (decide (n<0)) (ala ((n.natAbs / 1000:Nat):Int)) b:=by
   unfold cK acM sg;rw[hd];by_cases h0:n<0
   .simp[h0]
   .simp[h0]
  have e2:acN (decide (n<0)) (ala ((n.natAbs / 1000:Nat):Int)) b=n:=by
   unfold acN;rw[hv,h2];by_cases h0:n<0
   .simp only[h0,decide_true,if_true];omega
   .simp only[h0,decide_false,ayX,if_false];omega
  have:=Q0 (neg:=decide (n<0)) h1 hb hl;rw[<-e1,e2]at this;exact this
 by_cases hr:n.natAbs % 1000=0
 .refine key [] (λ _ h=>by cases h) (by simp) (by rw[hr];rfl) ?_
  unfold dcA;rw[if_pos hr];rfl
 .obtain⟨g1,g2,g3,g4⟩:=adt (r:=n.natAbs % 1000) (by omega) (by omega)
  refine key _ g1 g3 g4 ?_;unfold dcA;rw[if_neg hr,if_neg g2];rfl
theorem apd{k:Nat}(h:k<=1000):ais (ala (k:Int),(k:Int)*1000):=by
 obtain⟨h1,h2⟩:=xW (k:=k) (by omega);refine⟨?_,by show -1000000<=(k:Int)*1000;omega,by show(k:Int)*1000<=1000000;omega⟩;have:=Q0 (neg:=false) (b:=[]) h1 (λ _ h=>by cases h) (by simp);unfold acM acN sg at this;simp[h2]at this;simpa[qF]using this
theorem ape{k:Nat}{m:Int}(h:(k:Int)<=m)(hm:m<=100000000):apc m (ala (k:Int),(k:Int)):=by
 obtain⟨h1,h2⟩:=xW (k:=k) (by omega);have:=Va h1;rw[h2]at this;exact⟨this,by show 0<=(k:Int);omega,h⟩
theorem IE{b:UInt8}(h:48<=b.toNat/\b.toNat<=57):inW b=true:=by
 unfold inW iwB dgB;rw[decide_eq_true (show(48:Int)<=(b.toNat:Int) by omega),decide_eq_true (show((b.toNat:Nat):Int)<=57 by omega),decide_eq_true (show b.toNat<128 by omega)];cases ltB (b.toNat:Int)<;>rfl
theorem aj9{l:List UInt8}(h:YO l)(h0:l≠[]):wY l:=ER ⟨h0,λ b hb=>IE (h b hb)⟩
theorem XR{k:Nat}(h:k<1000000000):wY (ala (k:Int)):=by
 obtain⟨h1,_⟩:=xW h;exact aj9 h1.d (λ e=>by have:=h1.n;rw[e]at this;simp at this)
theorem XT:inW 46=true/\inW 45=true/\inW 115=true:=by decide
theorem XU{n:Int}(h:n.natAbs<=1000000):wY (cK n):=by
 refine ER ⟨(y8 n (by omega)).1,λ b hb=>?_⟩;obtain⟨h1,_⟩:=xW (k:=n.natAbs / 1000) (by omega);unfold cK dcA at hb;rcases ayQ.1 hb with hb |hb
 .split at hb
  .simp at hb;subst hb;exact XT.2.1
  .cases hb
 .rcases ayQ.1 hb with hb |hb
  .exact IE (h1.d b hb)
  .split at hb
   .cases hb
   .rename_i hr
    rcases azV.1 hb with rfl |hb
    .exact XT.1
    .exact IE ((adt (r:=n.natAbs % 1000) (by omega) (by omega)).1 b hb)
theorem apu{k:Nat}(h:k<1000000000):wY (oK (k:Int)):=by
 obtain⟨h1,_⟩:=xW h;refine ER ⟨by unfold oK;simp,λ b hb=>?_⟩;unfold oK at hb;rcases azV.1 hb with rfl |hb
 .exact XT.2.2
 .exact IE (h1.d b hb)
def Low(l:List UInt8):Bool:=!l.isEmpty&&l.all inW
theorem akb{l:List UInt8}(h:Low l=true):wY l:=by
 unfold Low at h;simp only[J8,az0,apB]at h;exact ER ⟨λ e=>by rw[e]at h;simp at h,h.2⟩
theorem Qk{c:UInt8}(h:Pnc c):wY [c]:=aaH ⟨c,h,rfl⟩
theorem aaj:∀(w:List UInt8) {F pre:List UInt8} (n:Nat),F=pre++w->1<=n->YO w->Nms (lB F) pre.length n w.length
 | [],F,pre,n,hF,_,_=>by show(lB F).size<=pre.length;rw[aY,hF];simp
 |b::w,F,pre,n,hF,hn,h=>by
  have hb:=h b (by simp);obtain⟨h1,h2,h3⟩:=KP (F:=F) (pre:=pre) (rest:=w) (b:=b) hF (by omega);refine⟨h1,?_,?_⟩
  .rw[h2]
   unfold nlB dgB;rw[decide_eq_true (show(48:Int)<=(b.toNat:Int) by omega),decide_eq_true (show((b.toNat:Nat):Int)<=57 by omega),beq_false_of_ne (show((n:Nat):Int)≠0 by omega)];cases ltB (b.toNat:Int)<;>rfl
  .have ih:=aaj w (F:=F) (pre:=pre++[b]) (n+1) (by rw[hF];simp) (by omega) λ x hx=>h x (by simp[hx])
   rw[uI,azM]at ih;rw[h3];exact ih
theorem aak{k:Nat}(h:k<1000000000):aj bW 237 [zA (lB (oK (k:Int)))] (bA true):=by
 obtain⟨h1,_⟩:=xW h;have hm:=h1.m;refine aaL (k:=1+(ala (k:Int)).length) (by omega) (by omega) ?_;obtain⟨g1,g2,g3⟩:=KP (F:=oK (k:Int)) (pre:=[]) (rest:=ala (k:Int)) (b:=115) rfl (by decide);rw[aEQ];refine⟨g1,?_,?_⟩
 .show nlB (CW _ 0) _=false
  have g2:CW (lB (oK (k:Int))) 0=((115:UInt8).toNat:Int):=g2;rw[g2];decide
 .have g3:yO (lB (oK (k:Int))) 0=1:=g3
  rw[g3];exact aaj (ala (k:Int)) (F:=oK (k:Int)) (pre:=[115]) 1 rfl (ao5 _) h1.d
theorem apv{j k:Nat}(hj:j<1000000000)(hk:k<1000000000)(h:ala (j:Int)=ala (k:Int)):j=k:=by
 have h1:=(xW hj).2;have h2:=(xW hk).2;rw[h,h2]at h1;omega
abbrev TP:=List UInt8 × Int
def At(t:Tk):Nat->List TP->Prop
 |a,[]=>a<=t.n/\t.n<=1000000
 |a,p::r=>(t.T a=lB p.1/\t.N a=p.2)/\At t (a+1) r
theorem At.le{t:Tk}:∀{l:List TP} {a:Nat},At t a l->a+l.length<=t.n/\t.n<=1000000
 | [],_,h=>h
 |_::r,a,h=>by have:=At.le h.2;rw[anE];omega
theorem At.has{t:Tk}{l:List TP}{a:Nat}(h:At t a l)(k:Nat)(hk:k<=l.length):Has t a k:=⟨by have:=h.le;omega,h.le.2⟩
theorem At.app{t:Tk}:∀{x y:List TP} {a:Nat},At t a (x++y)->At t a x/\At t (a+x.length) y
 | [],y,a,h=>⟨⟨by have:=h.le;omega,h.le.2⟩,h⟩
 |p::r,y,a,h=>by
  obtain⟨h1,h2⟩:=At.app (x:=r) h.2;refine⟨⟨h.1,h1⟩,?_⟩;rw[anE,show a+(r.length+1)=a+1+r.length by omega];exact h2
theorem At.get{t:Tk}:∀{l:List TP} {a i:Nat} {p:TP},At t a l->l[i]?=some p->t.T (a+i)=lB p.1/\t.N (a+i)=p.2
 | [],_,_,_,_,h=>by simp at h
 |q::r,a,0,p,h,hp=>by simp at hp;subst hp;exact h.1
 |q::r,a,i+1,p,h,hp=>by
  have:=At.get (l:=r) h.2 (i:=i) (p:=p) (by simpa using hp);rw[show a+(i+1)=a+1+i by omega];exact this
theorem At.is{t:Tk}{l:List TP}{a i:Nat}{w:List UInt8}{x:Int}(h:At t a l)(hp:l[i]?=some (w,x)):Is t (a+i) w:=(h.get hp).1
theorem At.num{t:Tk}{l:List TP}{a i:Nat}{p:TP}(h:At t a l)(hp:l[i]?=some p)(hn:ais p):mX t (a+i):=by
 obtain⟨h1,h2⟩:=h.get hp;unfold mX;rw[h1,h2];exact hn
theorem At.who{t:Tk}{l:List TP}{a i:Nat}{p:TP}{m:Int}(h:At t a l)(hp:l[i]?=some p)(hn:apc m p):BL t m (a+i):=by
 obtain⟨h1,h2⟩:=h.get hp;unfold BL;rw[h1,h2];exact hn
def aaT(ps:List TP):Tk:=⟨ps.length,λ q=>(ps.map λ p=>lB p.1).getD q eB,λ q=>(ps.map aFm).getD q 0⟩
theorem alr:∀(r pre:List TP) {ps:List TP},ps=pre++r->ps.length<=1000000->At (aaT ps) pre.length r
 | [],pre,ps,h,hl=>⟨by show pre.length<=ps.length;rw[h];simp,hl⟩
 |p::r,pre,ps,h,hl=>by
  refine⟨⟨?_,?_⟩,?_⟩
  .show(ps.map λ p=>lB p.1).getD pre.length eB=lB p.1
   rw[h,amh,ayL,axY (by simp)];simp
  .show(ps.map aFm).getD pre.length 0=p.2
   rw[h,amh,ayL,axY (by simp)];simp
  .have:=alr r (pre++[p]) (ps:=ps) (by rw[h];simp) hl
   rw[uI,azM]at this;exact this
open Hs.So (dM pJ)
open Hs.Sc (fT)
def nP(x:Nat):TP:=(cK (dF x),dF x)
def vP(a:Nat->Nat)(i:Nat):List TP:=[nP (a i),nP (a (i+1)),nP (a (i+2))]
def hP(f:Nat->Int):List TP:=[(ala (f 0),f 0),(ala (f 1),f 1),(ala (f 2),f 2)]
def kP(w:List UInt8):TP:=(w,0)
def Lm(k:Int):TP:=(oK k,0)
def eyP(e:Nat->Nat):List TP:=kP Fb::(vP e 0++(kP [116,111]::(vP e 3++(kP [117,112]::(vP e 6++[kP [119,105,100,101],nP (e 9)])))))
def Jc(f:Nat->Int):List TP:=kP Fe::hP f
def skP(f g h:Nat->Int)(bd k:Int):List TP:=[kP W1,Lm k,kP W2]++(hP f++(kP W3::(hP g++(kP W4::(hP h++[kP W5,(cK bd,bd)])))))
def lmP(a:Nat->Nat)(f:Nat->Int):List TP:=kP [108,97,109,112]::(vP a 0++(kP [108,105,103,104,116]::hP f))
def Vt(w t:List UInt8)(a:Nat->Nat):List TP:=kP w::(vP a 0++(kP t::(vP a 3++[kP Lp,nP (a 9)])))
def Ak(k:Int)(a:Nat->Nat):List TP:=if k=1 then kP [98,97,108,108]::(vP a 0++[kP Lp,nP (a 9)])else if k=2 then kP [98,108,111,99,107]::(vP a 0++(kP [116,111]::vP a 3))else if k=3 then kP [116,114,105]::(vP a 0++(kP [44]::(vP a 3++(kP [44]::vP a 6))))else if k=4 then Vt [112,108,97,116,101] [117,112] a else if k=5 then Vt [116,117,98,101] [97,108,111,110,103] a else Vt [114,105,110,103] [117,112] a++[nP (a 10)]
def BG(P:Nat->dM):Nat->Nat->List TP
 | 0,_=>[]
 |f+1,i=>if(P i).op=0 then Ak (P i).k (P i).a else [kP (y7 (P i).op),kP [123]]++(BG P f (P i).l.toNat++(BG P f (P i).r.toNat++[kP [125]]))
noncomputable def soP(n:Nat)(P:Nat->dM):List TP:=kP soW::cond (Fg n P) (BG P n (n - 1)) []
def hiP(hs:Nat->Int)(j:Nat):List TP:=(av2 j).map λ q=>(cK (hs q),hs q)
def Y8(F:Hs.Fm.Fd):List TP:=[kP [102,105,101,108,100],(ala F.W,F.W*1000),(ala F.H,F.H*1000),kP [97,116]]++(vP F.at_ 0++(kP [115,105,100,101]::(nP F.sd::(kP [104,105,103,104]::hiP F.hs F.n))))
theorem ak2(k:Int)(a:Nat->Nat):(Ak k a).map azy=yw cK dF k a:=by
 unfold Ak yw
 repeat' split
 all_goals rfl
theorem adh(P:Nat->dM):∀f i,(BG P f i).map azy=Fh cK dF P f i
 | 0,_=>rfl
 |f+1,i=>by
  unfold BG Fh;split
  .exact ak2 _ _
  .rw[ayL,ayL,ayL,adh P f,adh P f]
   rfl
theorem asI(n:Nat)(P:Nat->dM):(soP n P).map azy=soT cK dF n P:=by
 unfold soP soT;rw[aB2];cases Fg n P
 .rfl
 .show _::(BG P n (n - 1)).map azy=_
  rw[adh];rfl
theorem asJ(F:Hs.Fm.Fd):(Y8 F).map azy=Y9 cK dF F:=by
 unfold Y8 Y9;simp only[ayL,aB2]
 have:(hiP F.hs F.n).map azy=vE cK F F.n:=by
  unfold hiP vE;rw[aEE];rfl
 rw[this];rfl
section
variable(s:fT)
def ln1:List (List TP):=[eyP s.eye,Jc s.jE]
def ln2(j:Nat):List TP:=skP (s.K j) (λ q=>s.K j (3+q)) (λ q=>s.K j (6+q)) (s.K j 9) (j:Nat)
def ln3(j:Nat):List TP:=lmP (s.LA j) (s.LL j)
def ln4(j:Nat):List TP:=Ak (s.S j).k (s.S j).a++[Lm (s.S j).sk]
noncomputable def ln5(j:Nat):List TP:=soP (s.O j).n (s.O j).P++[Lm (s.O j).sk]
def ln6(j:Nat):List TP:=Y8 (s.F j)++[Lm (s.F j).sk]
noncomputable def lns:List (List TP):=ln1 s++((av2 s.nK).map (ln2 s)++((av2 s.nL).map (ln3 s)++((av2 s.nS).map (ln4 s)++((av2 s.nO).map (ln5 s)++(av2 s.nF).map (ln6 s)))))
def Dj(l:List TP):List UInt8:=Dk (l.map azy)
theorem vG(E:Nat->List UInt8)(L:Nat->List TP)(h:∀j,E j=Dj (L j)):∀n,bY E n=((av2 n).map L).flatMap Dj
 | 0=>rfl
 |n+1=>by
  rw[List.range_succ,ayL,ayz,<-vG E L h n];show _++E n=_;rw[h];simp
theorem Vu{A:List (List UInt8)}(h:A≠[])(k:Int):tks false A++(iD true [oK k]++[])=Dk (A++[oK k]):=by
 show _++((tks true ([oK k]++[[59]])++[10])++[])=tks false (A++[oK k]++[[59]])++[10];rw[awr,aiR,qH A _ false h,aiR]
theorem Vv(k:Int)(a:Nat->Nat):yw cK dF k a≠[]:=by
 unfold yw
 repeat' split
 all_goals exact λ h=>by cases h
theorem Dl:x6 cK dF bG s=(lns s).flatMap Dj:=by
 have e2:∀j,comp (skI cK s j) false=Dj (ln2 s j):=λ j=>awr _;have e3:∀j,comp (lmI cK dF bG s j) false=Dj (ln3 s j):=λ j=>awr _
 have e4:∀j,comp (shI cK dF bG s j) false=Dj (ln4 s j):=λ j=>by
  unfold Dj ln4;rw[ayL,ak2];exact Vu (Vv _ _) _
 have e5:∀j,comp (Za cK dF bG s j) false=Dj (ln5 s j):=λ j=>by
  unfold Dj ln5;rw[ayL,asI];exact Vu (λ h=>by cases h) _
 have e6:∀j,comp (feI cK dF bG s j) false=Dj (ln6 s j):=λ j=>by
  unfold Dj ln6;rw[ayL,asJ];exact Vu (λ h=>by cases h) _
 have e1:comp (yH s) false=Dj (Jc s.jE):=by
  show tks false [Fe]++(tks true (Bl s.jE)++((tks true [[59]]++[10])++[]))=tks false (Fe::Bl s.jE++[[59]])++[10];have:=qH [Fe] (Bl s.jE++[[59]]) false (by simp);rw[awr,show Fe::Bl s.jE++[[59]]=[Fe]++(Bl s.jE++[[59]]) from rfl,this,rA,aiR,aiR]
 unfold x6 x5 x4 x3 x2 x1 x0 lns ln1;rw[vG _ _ e2,vG _ _ e3,vG _ _ e4,vG _ _ e5,vG _ _ e6,e1];simp only[ayz,aiR];rw[ay7,ay7,List.flatMap_nil,awr,aiR];rfl
noncomputable def yJ:List TP:=(lns s).flatMap λ l=>l++[kP [59]]
theorem amA:(yJ s).map azy=((lns s).map λ l=>l.map azy).flatMap Ro:=by
 unfold yJ;rw[List.map_flatMap,aDE];congr 1;funext l;rw[ayL];rfl
end
theorem asK{s:fT}(h:∀l,l∈lns s->∀p,p∈l->wY p.1):Cut (lB (x6 cK dF bG s)) 0 ((yJ s).map λ p=>lB p.1):=by
 have:=Mq ((lns s).map λ l=>l.map azy) (λ ts hts t ht=>by
  obtain⟨l,hl,rfl⟩:=azp.1 hts;obtain⟨p,hp,rfl⟩:=azp.1 ht;exact h l hl p hp) (F:=x6 cK dF bG s) (pre:=[]) (by rw[Dl,aDE];rfl)
 rw[<-amA,aEE]at this;exact this
theorem asL{s:fT}(h:∀l,l∈lns s->∀p,p∈l->wY p.1)(hl:(yJ s).length<=1000000):aj bW 25 [zA (lB (x6 cK dF bG s))] (Vl (aaT (yJ s))):=by
 have:=Rp (asK h) (by rw[aAL];exact hl);rw[aAL]at this;exact this
end Go.Proofs.YtefphimaggjihaaGreatDoor.Pi.Rd
