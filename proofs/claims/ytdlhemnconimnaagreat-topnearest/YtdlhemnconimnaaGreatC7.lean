/- Texts, one behind the other. -/
import Derived.Test.YtdlhemnconimnaaGreatC6
import Derived.Test.YtdlhemnconimnaaGreatC4
open Decidable renaming byContradiction->acQ
open Go.Proofs.Tryz renaming f301->aJu,f303->aNo,f304->aNp,f305->aKW,f306->aKq,f308->aJt,f309->aJs,f313->aI2,f319->aJT,f320->aHW,f322->aLP,f323->aLO,f328->aKp,func301->aN7,func303->aLQ,func308->aKC,func309->aN6,func313->aN5,prog->bO
open Go.Region renaming ready->aFj
open Int renaming add_zero->aHV,le_refl->af2,le_trans->aHF,lt_or_eq_of_le->aMU,mul_ne_zero->aNB,mul_neg->aOu,mul_one->aJ2,mul_zero->aLb,natAbs_mul->aHq,natAbs_neg->aJD,neg_mul->aMJ,pow_succ->aMd,pow_zero->aMe,toNat_natCast->pF,zero_mul->aHU
open List renaming drop_eq_nil_of_le->aJ1,getD_eq_getElem?_getD->Gd,getElem?_eq_none->apa,getElem?_eq_some_iff->abK,length_append->aiR,length_cons->aBz,length_nil->aKc,length_replicate->aJU,mem_cons->aHJ,mem_iff_getElem?->aG7,mem_of_getElem?->ajw,mem_singleton->aGx,not_mem_nil->aM0,replicate->aGe
open Nat renaming add_le_add->aID,add_mul->auK,beq->amH,ble->apB,ble_eq_true_of_le->agl,blt->Tv,le_max_left->aHv,le_max_right->aHC,le_of_lt->aHR,le_refl->ND,le_trans->aa2,lt_of_lt_of_le->anS,min_eq_left->aJH,min_eq_right->aNq,mul_le_mul_left->apL,not_lt_zero->avm,pow_le_pow_right->agX,pow_one->aOt,sub_self->aIr,sub_sub->aOv,sub_zero->aKm,zero_add->ZO,zero_le->alz
open Option.some renaming injEq->gU
open Or renaming inl->wV,inr->Gc
open Rat renaming intCast_add->aNC,intCast_le_intCast->aLR,intCast_lt_intCast->aJJ,intCast_mul->aK5,intCast_natCast->aMK,le_antisymm->aJY,le_of_lt->aKG,le_refl->aIN,le_trans->aMf,mul_inv_cancel->aMV,mul_le_mul_of_nonneg_left->aBL,mul_le_mul_of_nonneg_right->aH0,mul_nonneg->aFF,mul_pos->aHM,natCast_le_natCast->aIK
namespace Go.Proofs.YtdlhemnconimnaaGreat
open Go.Gv
def saS(n:Nat)(f:Nat->Int)(x:Int)(i:Int)(c:List AV):St:=mkS 24 [(0,pA n f),(3,.own 0 0),(5,.own 1 0),(6,iA i)] [.c (wC x),.c c]
def U4:List Nat:=[0,3,5,6]
section
variable(n:Nat)(f:Nat->Int)(x v i:Int)
def alg:Int:=kF (wA v)*kF (wA x)
def ahn:Int:=kF (wA (alg x v))+kF (wA (f i.toNat))
noncomputable def saT(y z:Option Out):Option Out:=cond (decide (i≥0)) (gate (aj bO 316 [wA v,wA x] (wA (alg x v))) (gate (aj bO 317 [wA (alg x v),wA (f i.toNat)] (wA (ahn f x v i))) (cond ((iP i n||false)&&true) y none))) z
theorem aq0:jR bO [] [kS bO 316 tiG,kS bO 317 plG] bC (av aKp 0) (saS n f x i (wC v)) (gu U4 [some 0,some 1])=saT n f x v i (some ⟨.normal,saS n f x (aH (i - 1)) (wC (ahn f x v i)),.any⟩) none:=by kernel_rfl
theorem axH:jR bO [] [kS bO 316 tiG,kS bO 317 plG] bC (av aKp 0) (saS n f x i (wC v)) (iG U4 [some 0,some 1])=saT n f x v i none (some ⟨.exit 0,saS n f x i (wC v),.any⟩):=by kernel_rfl
theorem aCC(j:Int):ev bO [] [⟨316,λ _ _=>none⟩] (eZ 3 (fF U4 [some 0,some 1] (saS n f x i (wC 0)) (.exit 0) (saS n f x j (wC v)))) aKp [pA n f,wA x] ret =
  gate (Sub (saS n f x (aH ((n:Int) - 1)) wz) (saS n f x i (wC 0))) (some (Out.of (iA v.sign))):=by kernel_rfl
end
def slS(n:Nat)(f:Nat->Int)(i:Int)(m:Nat)(Y:Nat->List AV):St:=mkS 24 [(3,.bQ 0 2 0 m),(6,pA n f),(7,iA (n:Nat)),(8,iA i)] [.a 342 2 m Y]
def Ow:List Nat:=[3,6,7,8]
section
variable(n:Nat)(f:Nat->Int)(i:Int)(m:Nat)(y:Nat->Int)
def slV:Int:=kF (wA (f i.toNat))*kF (wA i)
theorem alh:jR bO [] [kS bO 316 tiG,kS bO 315 Yt] bC (av aJT 0) (slS n f 0 m λ q=>wC (y q)) (gu Ow [some 0])=cond (decide ((0:Int)<(n:Int))) (cond (iP 0 n||false) (some ⟨.normal,slS n f 1 m λ q=>wC (y q),.any⟩) none) none:=by kernel_rfl
noncomputable def slT(a z:Option Out):Option Out:=cond (decide (i<(n:Int))) (cond (iP i n||false) (cond (decide (i>0)) (gate (aj bO 315 [iA i] (wA i)) (gate (aj bO 316 [wA (f i.toNat),wA i] (wA (slV f i))) (cond ((Qz m 32||false)&&true) a none))) none) none) z
theorem aq1:jR bO [] [kS bO 316 tiG,kS bO 315 Yt] bC (av aJT 0) (slS n f i m λ q=>wC (y q)) (gu Ow [some 3])=slT n f i m (some ⟨.normal,slS n f (aH (i+1)) (m+1) λ q=>bM (Tv q m) (wC (y q)) (wC (slV f i)),.any⟩) none:=by kernel_rfl
theorem axJ:jR bO [] [kS bO 316 tiG,kS bO 315 Yt] bC (av aJT 0) (slS n f i m λ q=>wC (y q)) (iG Ow [some 0])=slT n f i m none (some ⟨.exit 0,slS n f i m λ q=>wC (y q),.any⟩):=by kernel_rfl
theorem aCD(n':Int):ev bO [] [⟨316,λ _ _=>none⟩] (eZ 3 (wG Ow [(3,0,2)] (.a 342 2 0 λ q=>wC (y q)) [none] (slS n f 0 0 λ q=>wC (y q)) (.exit 0) (slS n f n' m λ q=>wC (y q)))) aJT [pA n f] ret =
  gate (Sub (slS n f 0 0 λ q=>wC (y q)) (slS n f 0 0 λ q=>wC (y q))) (some (Out.of (.sl 2 m λ j=>wC (y (0+j))))):=by kernel_rfl
end
def hor(f:Nat->Int)(x:Int):Nat->Nat->Int
 |_,0=>0
 |i,d+1=>hor f x (i+1) d*x+f i
theorem amF{n:Nat}{f:Nat->Int}{x:Int}(hn:n<=8796093022208)(E:Sm x)(hf:∀i,Sm (f i))(G:∀j,j<n->Sm (hor f x (n - j) j)/\Sm (hor f x (n - j) j*x)):bH bO (.loop (av aKp 0)) (saS n f x ((n:Int) - 1) (wC 0)) (.exit 0) (saS n f x (-1) (wC (hor f x 0 n))):=by
 have key:bH bO (.loop (av aKp 0)) (saS n f x ((n:Int) - 1 - ((0:Nat):Int)) (wC (hor f x (n - 0) 0))) (.exit 0) (saS n f x (-1) (wC (hor f x 0 n))):=by
  refine aP (λ j=>saS n f x ((n:Int) - 1 - (j:Nat)) (wC (hor f x (n - j) j))) n (.exit 0) _ (by simp) (λ j F=>?_) ?_
  .have d:=aq0 n f x (hor f x (n - j) j) ((n:Int) - 1 - (j:Nat));have e:(n:Int) - 1 - (j:Nat)=((n - 1 - j:Nat):Int):=by omega
   have e1:alg x (hor f x (n - j) j)=hor f x (n - j) j*x:=by unfold alg;rw[iC,iC]
   have e2:ahn f x (hor f x (n - j) j) ((n:Int) - 1 - (j:Nat))=hor f x (n - (j+1)) (j+1):=by unfold ahn;rw[iC,iC,e1,e,pF,show n - (j+1)=n - 1 - j by omega];show _=hor f x (n - 1 - j+1) j*x+f (n - 1 - j);rw[show n - 1 - j+1=n - j by omega]
   obtain⟨H,h2⟩:=G j F;unfold saT at d;rw[e1,ak (qY H E)]at d
   have hp:aj bO 317 [wA (hor f x (n - j) j*x),wA (f ((n:Int) - 1 - (j:Nat)).toNat)] (wA (ahn f x (hor f x (n - j) j) ((n:Int) - 1 - (j:Nat)))):=by have:=Ig h2 (hf ((n:Int) - 1 - (j:Nat)).toNat);unfold ahn;rw[iC,iC,e1];exact this
   rw[ak hp,e2,show aH ((n:Int) - 1 - (j:Nat) - 1)=(n:Int) - 1 - ((j+1:Nat):Int) by rw[aO];omega]at d;have hi:decide ((n:Int) - 1 - (j:Nat)≥0)=true:=gG (by omega);have o:iP ((n:Int) - 1 - (j:Nat)) n=true:=by rw[e];exact bZ (by omega)
   rw[hi,o]at d;exact aK (bB _ _) aB (au aG (au aG ay)) aC d
  .refine aK (dB _ _) aB (au aG (au aG ay)) aC ((axH n f x (hor f x (n - n) n) ((n:Int) - 1 - (n:Nat))).trans ?_);rw[show(n:Int) - 1 - (n:Nat)=-1 by omega,aIr];rfl
 rw[show(n:Int) - 1 - ((0:Nat):Int)=(n:Int) - 1 by omega]at key;exact key
theorem aDy{sl:List (AV × Chain)}{x:Int}:Sub ⟨sl,[.c (wC x),.c wz]⟩ ⟨sl,[.c (wC x),.c (wC 0)]⟩ :=gZ ⟨wV rfl,Gc (Gc ⟨_,_,rfl,rfl,Mj.2⟩),trivial⟩
theorem apc{n:Nat}{f:Nat->Int}{x:Int}(hn:n<=8796093022208)(d:Sm x)(hf:∀i,Sm (f i))(e:∀j,j<n->Sm (hor f x (n - j) j)/\Sm (hor f x (n - j) j*x)):aj bO 328 [pA n f,wA x] (iA (hor f x 0 n).sign):=by have o:=gq (c:=dH aKp) (i:=3) 0 1 (aS (keep:=U4) (τ:=[some 0,some 1]) (amF hn d hf e));refine aR aB (au (CJ _) ay) Tryz.func328 o ((aCC n f x (hor f x 0 n) ((n:Int) - 1) (-1)).trans ?_);rw[show aH ((n:Int) - 1)=(n:Int) - 1 from aO,ak (show Sub (saS n f x ((n:Int) - 1) wz) (saS n f x ((n:Int) - 1) (wC 0)) from aDy)]
def Fw(f:Nat->Int)(q:Nat):Int:=f (q+1)*((q+1:Nat):Int)
theorem Zb{x:Int}(h:x.natAbs<18446744073709551616):Sm x:=by unfold Sm;have:=Go.Ev.I7 (a:=x.natAbs) (k:=1) (by rw[aOt];exact h);omega
theorem amG{n:Nat}{f:Nat->Int}(hn:n<=1000000)(hf:∀i,Sm (f i)):bH bO (.loop (av aJT 0)) (slS n f 0 0 λ q=>wC (Fw f q)) (.exit 0) (slS n f (n:Nat) (n - 1) λ q=>wC (Fw f q)):=by
 have ks:∀e,e∈[kS bO 316 tiG,kS bO 315 Yt]->sZ bO e:=au aG (au aG ay)
 have key:bH bO (.loop (av aJT 0)) (slS n f ((0:Nat):Int) (0 - 1) λ q=>wC (Fw f q)) (.exit 0) (slS n f (n:Nat) (n - 1) λ q=>wC (Fw f q)):=by
  refine aP (λ j=>slS n f (j:Nat) (j - 1) λ q=>wC (Fw f q)) n (.exit 0) _ (by simp) (λ j E=>?_) ?_
  .by_cases H:j=0
   .subst H;have d:=alh n f 0 (Fw f);rw[show iP 0 n=true from bZ (i:=0) E,gG (show(0:Int)<(n:Int) by omega)]at d;exact aK (bB _ _) aB ks aC d
   .obtain⟨m,rfl⟩:∃m,j=m+1:=⟨j - 1,by omega⟩;have d:=aq1 n f ((m+1:Nat):Int) m (Fw f);have ev:slV f ((m+1:Nat):Int)=Fw f m:=by unfold slV Fw;rw[iC,iC,pF]
    unfold slT at d;have F:aj bO 315 [iA ((m+1:Nat):Int)] (wA ((m+1:Nat):Int)):=qQ (by omega) (by omega);have ht:aj bO 316 [wA (f ((m+1:Nat):Int).toNat),wA ((m+1:Nat):Int)] (wA (Fw f m)):=qY (hf _) (Zb (by omega));rw[bI E,bZ E,gG (show((m+1:Nat):Int)>0 by omega),ak F,ev,ak ht,yB (by omega),aQ (by omega)]at d;refine(aK (bB _ _) aB ks aC d).sub (Sub.refl _) ?_;refine ig ⟨Gc ⟨342,2,m+1,_,_,rfl,rfl,λ q hq=>?_⟩,trivial⟩;rw[Nc];cases o:Tv q m
    .have G:=jM o;have:q=m:=by omega
     subst this;rfl
    .rfl
  .refine aK (dB _ _) aB ks aC ((axJ n f (n:Nat) (n - 1) (Fw f)).trans ?_);unfold slT;rw[bJ,eU]
 exact key
theorem ad8{n:Nat}{f:Nat->Int}(hn:n<=1000000)(hf:∀i,Sm (f i)):aj bO 319 [pA n f] (pA (n - 1) (Fw f)):=by
 have d:=Gz (c:=dH aJT) (i:=3) 0 (oo (keep:=Ow) (jO:=[(3,0,2)]) (nr:=.a 342 2 0 λ q=>wC (Fw f q)) (τ:=[none]) (amG hn hf));refine aR aB (au (CJ _) ay) Tryz.func319 d ((aCD n f (n - 1) (Fw f) (n:Nat)).trans ?_);have e:(λ j=>wC (Fw f (0+j)))=λ j=>wC (Fw f j):=funext λ j=>by rw[ZO]
 rw[ak (Sub.refl _),e];rfl
theorem acp{n:Nat}{f:Nat->Int}(h:Cn n f):Cn (n - 1) (Fw f):=λ i hi=>by unfold Fw;rw[h (i+1) (by omega),aHU]
def qF(n:Nat)(f:Nat->Int)(i b:Int)(Y:Nat->List AV):St:=mkS 30 [(0,pA n f),(3,.bQ 0 2 0 n),(4,.own 1 0),(5,iA i)] [.a 342 2 n Y,.c (wC b)]
def EL:List Nat:=[0,3,4,5]
def stB(i:Int)(n:Nat):Bool:=(iP i n||false)&&(stU i.toNat n&&true)
section
variable(n:Nat)(f:Nat->Int)(i b:Int)(y:Nat->Int)
def fiV:Int:=kF (wA (f i.toNat))*kF (wA b)
def fiB:Int:=kF (wA b)*kF (wA 65536)
noncomputable def fiT(x z:Option Out):Option Out:=cond (decide (i≥0)) (gate (aj bO 316 [wA (f i.toNat),wA b] (wA (fiV f i b))) (cond ((iP i n||false)&&stB i n) (gate (aj bO 315 [iA 65536] (wA 65536)) (gate (aj bO 316 [wA b,wA 65536] (wA (fiB b))) x)) none)) z
theorem acA:jR bO [] [kS bO 316 tiG,kS bO 315 Yt] bC (av aKq 0) (qF n f i b λ q=>wC (y q)) (gu EL [some 0,some 1])=fiT n f i b (some ⟨.normal,qF n f (aH (i - 1)) (fiB b) λ q=>bM (q==0+i.toNat) (wC (fiV f i b)) (wC (y q)),.any⟩) none:=by kernel_rfl
theorem ahJ:jR bO [] [kS bO 316 tiG,kS bO 315 Yt] bC (av aKq 0) (qF n f i b λ q=>wC (y q)) (iG EL [some 0,some 1])=fiT n f i b none (some ⟨.exit 0,qF n f i b λ q=>wC (y q),.any⟩):=by kernel_rfl
theorem aDl(i' d:Int):ev bO [] [⟨316,λ _ _=>none⟩,kS bO 315 Yt] (eZ 4 (fF EL [some 0,some 1] (qF n f i 1 λ _=>wC 0) (.exit 0) (qF n f i' d λ q=>wC (y q)))) aKq [pA n f] ret =
  cond (QD (n:Nat)||false) (gate (aj bO 315 [iA 1] (wA 1)) (gate (Sub (qF n f (aH ((n:Int) - 1)) 1 λ _=>wz) (qF n f i 1 λ _=>wC 0)) (some (Out.of (.sl 2 n λ j=>wC (y (0+j))))))) none:=by kernel_rfl
end
def xI(n:Nat)(f:Nat->Int)(m:Nat)(g:Nat->Int)(N:Nat)(i j a:Int)(Y:Nat->List AV):St:=mkS 58 [(0,pA n f),(1,pA m g),(5,.bQ 0 2 0 N),(6,iA i),(7,.own 1 0),(25,pA n f),(26,iA (n:Nat)),(27,iA i),(32,pA m g),(33,iA (m:Nat)),(34,iA j)] [.a 342 2 N Y,.c (wC a)]
def acC:List Nat:=[0,1,5,6,7,25,26,27,32,33,34]
def sS(n:Nat)(f:Nat->Int)(m:Nat)(g:Nat->Int)(N:Nat)(i:Int)(Y:Nat->List AV):St:=mkS 58 [(0,pA n f),(1,pA m g),(5,.bQ 0 2 0 N),(25,pA n f),(26,iA (n:Nat)),(27,iA i)] [.a 342 2 N Y]
def EM:List Nat:=[0,1,5,25,26,27]
section
variable(n:Nat)(f:Nat->Int)(m:Nat)(g:Nat->Int)(N:Nat)(i j a:Int)(y:Nat->Int)
def tnM:Int:=kF (wA a)*kF (wA (g j.toNat))
def Vp:Int:=kF (wA (y (0+(aH (i+j)).toNat)))+kF (wA (tnM g j a))
noncomputable def tnT(x z:Option Out):Option Out:=cond (decide (j<(m:Int))) (cond (iP j m||false) (gate (aj bO 316 [wA a,wA (g j.toNat)] (wA (tnM g j a))) (gate (aj bO 317 [wA (y (0+(aH (i+j)).toNat)),wA (tnM g j a)] (wA (Vp g i j a y))) (cond ((iP (aH (i+j)) N||false)&&(stU (aH (i+j)).toNat N&&stB (aH (i+j)) N)) x none))) none) z
theorem arF:jR bO [] [kS bO 316 tiG,kS bO 317 plG] bC (av aI2 1) (xI n f m g N i j a λ q=>wC (y q)) (gu acC [some 0,some 1])=tnT m g N i j a y (some ⟨.normal,xI n f m g N i (aH (j+1)) a λ q=>bM (q==0+(aH (i+j)).toNat) (wC (Vp g i j a y)) (wC (y q)),.any⟩) none:=by kernel_rfl
theorem ayx:jR bO [] [kS bO 316 tiG,kS bO 317 plG] bC (av aI2 1) (xI n f m g N i j a λ q=>wC (y q)) (iG acC [some 0,some 1])=tnT m g N i j a y none (some ⟨.exit 2,xI n f m g N i j a λ q=>wC (y q),.any⟩):=by kernel_rfl
noncomputable def toL(d:Nat->Int):Nat->Option dY:=eZ 8 (fF acC [some 0,some 1] (xI n f m g N i 0 (f i.toNat) λ q=>wC (y q)) (.exit 2) (xI n f m g N i (m:Nat) (f i.toNat) λ q=>wC (d q)))
noncomputable def toT(x z:Option Out):Option Out:=cond (decide (i<(n:Int))) (cond (iP i n||false) (gate (Sub (xI n f m g N i 0 (f i.toNat) λ q=>wC (y q)) (xI n f m g N i 0 (f i.toNat) λ q=>wC (y q))) x) none) z
theorem arG(d:Nat->Int):jR bO [] [] (toL n f m g N i y d) (av aI2 0) (sS n f m g N i λ q=>wC (y q)) (gu EM [some 0])=toT n f m g N i y (some ⟨.normal,sS n f m g N (aH (i+1)) λ q=>wC (d q),.any⟩) none:=by kernel_rfl
theorem ahK:jR bO [] [] (eZ 8 λ _ _=>none) (av aI2 0) (sS n f m g N i λ q=>wC (y q)) (iG EM [some 0])=cond (decide (i<(n:Int))) (cond (iP i n||false) none none) (some ⟨.exit 0,sS n f m g N i λ q=>wC (y q),.any⟩):=by kernel_rfl
variable(k:Nat)
noncomputable def amo:Option Out:=cond (fz1 N) (gate (aj bO 311 [.sl 2 N λ q=>wC (y q)] (pA k y)) (some (Out.of (pA k y)))) none
theorem amq:Q6 bO [] [kS bO 311 (λ _=>pA k y)] [] (eZ 5 (fF EM [some 0] (sS n f m g N 0 λ _=>wC 0) (.exit 0) (sS n f m g N (n:Nat) λ q=>wC (y q)))) (Ay 13 (yQ 0)) aI2 [pA n f,pA m g] ret =
  cond (cond ((n:Int)==0) true ((m:Int)==0)) (some (Out.of (.x (.slice none 0 0)))) (cond (QD (aH (aH ((n:Int)+(m:Int)) - 1))||false) (gate (Sub (sS n f m g (aH (aH ((n:Int)+(m:Int)) - 1)).toNat 0 λ _=>wz) (sS n f m g N 0 λ _=>wC 0)) (amo N y k)) none):=by kernel_rfl
end
def zm(f:Nat->Int)(n q:Nat):Int:=f q*65536 ^ (n - 1 - q)
def Qn(z:Nat->Int)(n j q:Nat):Int:=if n - j<=q then z q else 0
theorem aji{i n:Nat}(h:i<n):stB (i:Nat) n=true:=by unfold stB;rw[bZ h,pF,Fx h];rfl
theorem aiE{z:Nat->Int}{n j:Nat}(d:j<n)(q:Nat):cond (q==0+(n - 1 - j)) (z (n - 1 - j)) (Qn z n j q)=Qn z n (j+1) q:=by
 unfold Qn;rw[ZO];by_cases h:q=n - 1 - j
 .subst h;rw[BEq.rfl,aY,gH (show n - (j+1)<=n - 1 - j by omega)]
 .rw[mI h,eU];by_cases h2:n - j<=q
  .rw[gH h2,gH (by omega)]
  .rw[fP h2,fP (by omega)]
theorem at5{sl:List (AV × Chain)}{e:TypeId}{n:Nat}{b:Int}:Sub ⟨sl,[.a e 2 n λ _=>wz,.c (wC b)]⟩ ⟨sl,[.a e 2 n λ _=>wC 0,.c (wC b)]⟩ :=gZ ⟨Gc (wV ⟨e,2,n,_,_,rfl,rfl,λ _ _=>Mj⟩),wV rfl,trivial⟩
theorem aoZ{n:Nat}{f:Nat->Int}(hn:n<=1000000)(hc:Cn n f)(hf:∀i,Sm (f i))(hb:∀j,j<=n->Sm ((65536:Int) ^ j)):bH bO (.loop (av aKq 0)) (qF n f ((n:Int) - 1) 1 λ _=>wC 0) (.exit 0) (qF n f (-1) (65536 ^ n) λ q=>wC (zm f n q)):=by
 have ks:∀e,e∈[kS bO 316 tiG,kS bO 315 Yt]->sZ bO e:=au aG (au aG ay)
 have key:bH bO (.loop (av aKq 0)) (qF n f ((n:Int) - 1 - ((0:Nat):Int)) (65536 ^ 0) λ q=>wC (Qn (zm f n) n 0 q)) (.exit 0) (qF n f (-1) (65536 ^ n) λ q=>wC (zm f n q)):=by
  refine aP (λ j=>qF n f ((n:Int) - 1 - (j:Nat)) (65536 ^ j) λ q=>wC (Qn (zm f n) n j q)) n (.exit 0) _ (by simp) (λ j G=>?_) ?_
  .have e:(n:Int) - 1 - (j:Nat)=((n - 1 - j:Nat):Int):=by omega
   have d:=acA n f ((n:Int) - 1 - (j:Nat)) (65536 ^ j) (Qn (zm f n) n j)
   have e1:fiV f ((n:Int) - 1 - (j:Nat)) (65536 ^ j)=zm f n (n - 1 - j):=by unfold fiV zm;rw[iC,iC,e,pF,show n - 1 - (n - 1 - j)=j by omega]
   have e2:fiB (65536 ^ j)=65536 ^ (j+1):=by unfold fiB;rw[iC,iC,aMd]
   have E:aj bO 316 [wA (f ((n:Int) - 1 - (j:Nat)).toNat),wA (65536 ^ j)] (wA (zm f n (n - 1 - j))):=by rw[<-e1];unfold fiV;rw[iC,iC];exact qY (hf _) (hb j (by omega))
   have o:aj bO 316 [wA (65536 ^ j),wA 65536] (wA (65536 ^ (j+1))):=by rw[aMd];exact qY (hb j (by omega)) (Zb (by decide))
   have F:aj bO 315 [iA 65536] (wA 65536):=qQ (by decide) (by decide);unfold fiT at d
   rw[e1,e2,ak E,ak F,ak o,show aH ((n:Int) - 1 - (j:Nat) - 1)=(n:Int) - 1 - ((j+1:Nat):Int) by rw[aO];omega,show decide ((n:Int) - 1 - (j:Nat)≥0)=true from gG (by omega),
    show iP ((n:Int) - 1 - (j:Nat)) n=true by rw[e];exact bZ (by omega),show stB ((n:Int) - 1 - (j:Nat)) n=true by rw[e];exact aji (by omega),show((n:Int) - 1 - (j:Nat)).toNat=n - 1 - j by omega]at d
   refine(aK (bB _ _) aB ks aC d).sub (Sub.refl _) ?_;refine ig ⟨Gc ⟨342,2,n,_,_,rfl,rfl,λ q hq=>?_⟩,wV rfl,trivial⟩;rw[Nc,aiE G]
  .have e0:(λ q=>wC (Qn (zm f n) n n q))=λ q=>wC (zm f n q):=funext λ q=>by unfold Qn;rw[gH (by omega)]
   refine aK (dB _ _) aB ks aC ((ahJ n f ((n:Int) - 1 - (n:Nat)) (65536 ^ n) (Qn (zm f n) n n)).trans ?_);rw[show(n:Int) - 1 - (n:Nat)=-1 by omega,e0];rfl
 have e0:(λ q=>wC (Qn (zm f n) n 0 q))=λ _=>wC 0:=funext λ q=>by
  unfold Qn zm;by_cases h:n - 0<=q
  .rw[gH h,hc q (by omega),aHU]
  .rw[fP h]
 rw[show(n:Int) - 1 - ((0:Nat):Int)=(n:Int) - 1 by omega,e0,aMe]at key;exact key
theorem adf{n:Nat}{f:Nat->Int}(hn:n<=1000000)(hc:Cn n f)(hf:∀i,Sm (f i))(hb:∀j,j<=n->Sm ((65536:Int) ^ j)):aj bO 306 [pA n f] (pA n (zm f n)):=by
 have o:=gq (c:=dH aKq) (i:=4) 0 1 (aS (keep:=EL) (τ:=[some 0,some 1]) (aoZ hn hc hf hb));refine aR aB (au (CJ _) (au aG ay)) Tryz.func306 o ((aDl n f ((n:Int) - 1) (zm f n) (-1) (65536 ^ n)).trans ?_);have d:aj bO 315 [iA 1] (wA 1):=qQ (by decide) (by decide);have e:(λ j=>wC (zm f n (0+j)))=λ j=>wC (zm f n j):=funext λ j=>by rw[ZO]
 rw[Gh (by omega),ak d,show aH ((n:Int) - 1)=(n:Int) - 1 from aO,ak (show Sub (qF n f ((n:Int) - 1) 1 λ _=>wz) (qF n f ((n:Int) - 1) 1 λ _=>wC 0) from at5),e];rfl
theorem ade{n:Nat}{f:Nat->Int}(hc:Cn n f):Cn n (zm f n):=λ i hi=>by unfold zm;rw[hc i hi,aHU]
def psm(f g:Nat->Int):Nat->Nat->Int
 | 0,_=>0
 |i+1,q=>psm f g i q+if i<=q then f i*g (q - i)else 0
def pin(f g:Nat->Int)(i j q:Nat):Int:=psm f g i q+if i<=q/\q<i+j then f i*g (q - i)else 0
theorem ao0(f g:Nat->Int)(i:Nat):pin f g i 0=psm f g i:=funext λ q=>by unfold pin;rw[fP (by omega),aHV]
theorem at6{f g:Nat->Int}{m:Nat}(hg:Cn m g)(i:Nat):pin f g i m=psm f g (i+1):=funext λ q=>by
 unfold pin;show _=psm f g i q+if i<=q then f i*g (q - i)else 0
 by_cases h:i<=q
 .rw[gH h];by_cases h2:q<i+m
  .rw[gH ⟨h,h2⟩]
  .rw[fP (by omega),hg (q - i) (by omega),aLb]
 .rw[fP h,fP (by omega)]
theorem ao1(f g:Nat->Int)(i j q:Nat):cond (q==0+(i+j)) (pin f g i j (i+j)+f i*g j) (pin f g i j q)=pin f g i (j+1) q:=by
 rw[ZO];unfold pin;by_cases h:q=i+j
 .subst h;rw[BEq.rfl,aY,fP (by omega),gH (by omega),show i+j - i=j by omega,aHV]
 .rw[mI h,eU];by_cases h2:i<=q/\q<i+j
  .rw[gH h2,gH (by omega)]
  .rw[fP h2,fP (by omega)]
theorem ajD{f g:Nat->Int}{n m:Nat}(hg:Cn m g):∀i,i<=n->Cn (n+m - 1) (psm f g i)
 | 0,_=>λ _ _=>rfl
 |i+1,hi=>λ q hq=>by
  show psm f g i q+(if i<=q then f i*g (q - i)else 0)=0
  rw[ajD hg i (by omega) q hq];by_cases h:i<=q
  .rw[gH h,hg (q - i) (by omega),aLb];rfl
  .rw[fP h];rfl
theorem Tk{f:Nat->Int}(h:∀q,f q=0):∀n,tl f n=0
 | 0=>rfl
 |n+1=>by unfold tl;rw[gH (h n),Tk h n]
section
variable{n m:Nat}{f g:Nat->Int}(hn:n<=1000000)(hm:m<=1000000)(hg:Cn m g)(sf:∀i,Sm (f i))(sg:∀i,Sm (g i))(sp:∀i j,Sm (f i*g j))(ss:∀i j q,Sm (pin f g i j q))
include hn hm sf sg sp ss
theorem ao2{i:Nat}(hi:i<n):bH bO (.loop (av aI2 1)) (xI n f m g (n+m - 1) (i:Nat) 0 (f i) λ q=>wC (pin f g i 0 q)) (.exit 2) (xI n f m g (n+m - 1) (i:Nat) (m:Nat) (f i) λ q=>wC (pin f g i m q)):=by
 have ks:∀e,e∈[kS bO 316 tiG,kS bO 317 plG]->sZ bO e:=au aG (au aG ay);refine aP (λ j=>xI n f m g (n+m - 1) (i:Nat) (j:Nat) (f i) λ q=>wC (pin f g i j q)) m (.exit 2) _ (by simp) (λ j o=>?_) ?_
 .have d:=arF n f m g (n+m - 1) (i:Nat) (j:Nat) (f i) (pin f g i j);have E:aH (((i:Nat):Int)+((j:Nat):Int))=((i+j:Nat):Int):=by rw[aO];omega
  have e1:tnM g (j:Nat) (f i)=f i*g j:=by unfold tnM;rw[iC,iC,pF]
  have e2:Vp g (i:Nat) (j:Nat) (f i) (pin f g i j)=pin f g i j (i+j)+f i*g j:=by unfold Vp;rw[iC,iC,e1,E,pF,ZO]
  unfold tnT at d;rw[e1,e2,E,pF,pF,bI o,bZ o,bZ (show i+j<n+m - 1 by omega),Fx (show i+j<n+m - 1 by omega),aji (show i+j<n+m - 1 by omega),ak (qY (sf i) (sg j)),show 0+(i+j)=i+j by omega,ak (Ig (ss i j (i+j)) (sp i j)),aQ (by omega)]at d;refine(aK (bB _ _) aB ks aC d).sub (Sub.refl _) ?_;refine ig ⟨Gc ⟨342,2,n+m - 1,_,_,rfl,rfl,λ q hq=>?_⟩,wV rfl,trivial⟩;rw[Nc,<-ao1,ZO]
 .refine aK (dB _ _) aB ks aC ((ayx n f m g (n+m - 1) (i:Nat) (m:Nat) (f i) (pin f g i m)).trans ?_);unfold tnT;rw[bJ,eU]
include hg
theorem aan:bH bO (.loop (av aI2 0)) (sS n f m g (n+m - 1) 0 λ _=>wC 0) (.exit 0) (sS n f m g (n+m - 1) (n:Nat) λ q=>wC (psm f g n q)):=by
 refine aP (λ i=>sS n f m g (n+m - 1) (i:Nat) λ q=>wC (psm f g i q)) n (.exit 0) _ (by simp) (λ i hi=>?_) ?_
 .have inner:=ao2 hn hm sf sg sp ss hi;rw[ao0,at6 hg]at inner;have e:yx bO (toL n f m g (n+m - 1) (i:Nat) (psm f g i) (psm f g (i+1))) (av aI2 0):=gq (i:=8) 0 1 (aS inner);have d:=arG n f m g (n+m - 1) (i:Nat) (psm f g i) (psm f g (i+1));unfold toT at d;rw[bI hi,bZ hi,ak (Sub.refl _),aQ (by omega)]at d;exact aK (bB _ _) aB ay e d
 .refine aK (dB _ _) aB ay (uj 8) ((ahK n f m g (n+m - 1) (n:Nat) (psm f g n)).trans ?_);rw[bJ,eU]
theorem apN:aj bO 313 [pA n f,pA m g] (pA (tl (psm f g n) (n+m - 1)) (psm f g n)):=by
 have d:=Gz (c:=dH aI2) (i:=5) 1 (aS (keep:=EM) (τ:=[some 0]) (aan hn hm hg sf sg sp ss));have ev:=amq n f m g (n+m - 1) (psm f g n) (tl (psm f g n) (n+m - 1));by_cases hz:n=0\/m=0
 .have e:tl (psm f g n) (n+m - 1)=0:=by
   refine Tk (λ q=>?_) _;rcases hz with h |h
   .subst h;rfl
   .subst h
    have:∀i,psm f g i q=0:=λ i=>by
     induction i with
     |zero=>rfl
     |succ i ih =>
      show psm f g i q+(if i<=q then f i*g (q - i)else 0)=0
      rw[ih,hg (q - i) (alz _),aLb];split<;>rfl
    exact this n
  rw[e];refine aj.wD (r:=.x (.slice none 0 0)) (lY (jJ (jm 0)) aB (au aG ay) aV aN5 d (ev.trans ?_)) λ _ _=>wB
  have:cond (((n:Nat):Int)==0) true (((m:Nat):Int)==0)=true:=by
   rcases hz with h |h<;>subst h
   .rfl
   .cases(((n:Nat):Int)==0)<;>rfl
  rw[this];rfl
 .refine lY (jJ (jm 0)) aB (au aG ay) aV aN5 d (ev.trans ?_)
  have o:aH (aH (((n:Nat):Int)+((m:Nat):Int)) - 1)=((n+m - 1:Nat):Int):=by rw[aO (n:=((n:Nat):Int)+((m:Nat):Int)),aO];omega
  unfold amo;rw[o,mI (show((n:Nat):Int)≠0 by omega),mI (show((m:Nat):Int)≠0 by omega),Gh (by omega),pF,ak (show Sub (sS n f m g (n+m - 1) 0 λ _=>wz) (sS n f m g (n+m - 1) 0 λ _=>wC 0) from Tx),XK,ak (show aj bO 311 [.sl 2 (n+m - 1) λ q=>wC (psm f g n q)] _ from Im (psm f g n) (by omega))];rfl
end
def miG(l:List AV):AV:=wA (-kF (a0 l))
def trI(n:Nat)(f:Nat->Int)(m:Nat)(g:Nat->Int)(R:Nat)(top size lead sh i:Int)(Y:Nat->List AV):St:=mkS 104 [(0,pA n f),(1,pA m g),(5,.own 0 0),(6,.own 1 0),(7,.own 2 0),(8,iA sh),(9,.bQ 3 2 0 R),(52,iA (R:Nat)),(53,iA i)] [.c (wC top),.c (wC size),.c (wC lead),.a 342 2 R Y]
def abU:List Nat:=[0,1,5,6,7,8,9,52,53]
section
variable(n:Nat)(f:Nat->Int)(m:Nat)(g:Nat->Int)(R:Nat)(top size lead sh i:Int)(y:Nat->Int)
def agv:Int:=kF (wA (f i.toNat))*kF (wA size)
def trM:Int:=kF (wA lead)*kF (wA (g (aH (i - sh)).toNat))
def TV:AV:=.agg (bM (0+i.toNat==0+i.toNat) (wC (agv f size i)) (wC (y (0+i.toNat))))
def apD:Int:=kF (TV f size i y)+kF (wA (trM g lead sh i))
noncomputable def TW(e d z:Option Out):Option Out:=cond (decide (i<(R:Int))) (gate (aj bO 316 [wA (f i.toNat),wA size] (wA (agv f size i))) (cond ((iP i n||false)&&stB i R) (cond (decide (i≥sh)) (gate (aj bO 316 [wA lead,wA (g (aH (i - sh)).toNat)] (wA (trM g lead sh i))) (gate (aj bO 317 [TV f size i y,wA (trM g lead sh i)] (wA (apD f g size lead sh i y))) (cond ((iP i R||false)&&(stU i.toNat R&&((iP (aH (i - sh)) m||false)&&stB i R))) e none))) d) none)) z
theorem apC:jR bO [] [kS bO 316 tiG,kS bO 317 plG] bC (av aHW 1) (trI n f m g R top size lead sh i λ q=>wC (y q)) (gu abU [some 0,some 1,some 2,some 3]) =
  TW n f m g R size lead sh i y (some ⟨.normal,trI n f m g R top size lead sh (aH (i+1)) λ q=>bM (q==0+i.toNat) (wC (apD f g size lead sh i y)) (bM (q==0+i.toNat) (wC (agv f size i)) (wC (y q))),.any⟩)
   (some ⟨.normal,trI n f m g R top size lead sh (aH (i+1)) λ q=>bM (q==0+i.toNat) (wC (agv f size i)) (wC (y q)),.any⟩) none:=by kernel_rfl
theorem av1:jR bO [] [kS bO 316 tiG,kS bO 317 plG] bC (av aHW 1) (trI n f m g R top size lead sh i λ q=>wC (y q)) (iG abU [some 0,some 1,some 2,some 3]) =
  TW n f m g R size lead sh i y none none (some ⟨.exit 2,trI n f m g R top size lead sh i λ q=>wC (y q),.any⟩):=by kernel_rfl
end
def qE(n:Nat)(f:Nat->Int)(m:Nat)(g:Nat->Int)(top size:Int):St:=mkS 104 [(0,pA n f),(1,pA m g),(5,.own 0 0),(6,.own 1 0)] [.c (wC top),.c (wC size)]
def abW:List Nat:=[0,1,5,6]
section
variable(n:Nat)(f:Nat->Int)(m:Nat)(g:Nat->Int)(R:Nat)(top size lead sh:Int)(y:Nat->Int)(k:Nat)
noncomputable def trL:Nat->Option dY:=eZ 12 (fF abU [some 0,some 1,some 2,some 3] (trI n f m g R top size lead sh 0 λ _=>wC 0) (.exit 2) (trI n f m g R top size lead sh (R:Nat) λ q=>wC (y q)))
noncomputable def trR(l:Int)(x:Option Out):Option Out:=cond (QD (aH ((n:Int) - 1))||false) (gate (Sub (trI n f m g (aH ((n:Int) - 1)).toNat top size l (aH ((n:Int) - (m:Int))) 0 λ _=>wz) (trI n f m g R top size lead sh 0 λ _=>wC 0)) (cond (fz1 R) (gate (aj bO 311 [.sl 2 R λ q=>wC (y q)] (pA k y)) x) none)) none
def trF:Int:=f (aH ((n:Int) - 1)).toNat
noncomputable def trQ(x z:Option Out):Option Out:=cond (decide ((n:Int)≥(m:Int))) (cond (iP (aH ((n:Int) - 1)) n||false) (cond (decide (top.sign>0)) (gate (aj bO 318 [wA (trF n f)] (wA (-kF (wA (trF n f))))) (trR n f m g R top size lead sh y k (-kF (wA (trF n f))) x)) (trR n f m g R top size lead sh y k (trF n f) x)) none) z
theorem aqW:avS bO [] [kS bO 318 miG,kS bO 311 (λ _=>pA k y)] [] (trL n f m g R top size lead sh y) (Ay 18 (yQ 3)) (av aHW 0) (qE n f m g top size) (gu abW [some 0,some 1])=trQ n f m g R top size lead sh y k (some ⟨.normal,qE k y m g top size,.any⟩) none:=by kernel_rfl
theorem axD:avS bO [] [kS bO 318 miG,⟨311,λ _ _=>none⟩] [] (eZ 12 λ _ _=>none) (λ _=>none) (av aHW 0) (qE n f m g top size) (iG abW [some 0,some 1]) =
  cond (decide ((n:Int)≥(m:Int))) (cond (iP (aH ((n:Int) - 1)) n||false) (cond (decide (top.sign>0)) (gate (aj bO 318 [wA (trF n f)] (wA (-kF (wA (trF n f))))) (cond (QD (aH ((n:Int) - 1))||false) none none)) (cond (QD (aH ((n:Int) - 1))||false) none none)) none) (some ⟨.exit 0,qE n f m g top size,.any⟩):=by kernel_rfl
end
def tuS(n:Nat)(f:Nat->Int)(i:Int)(Y:Nat->List AV):St:=mkS 104 [(11,.bQ 0 2 0 n),(90,pA n f),(91,iA (n:Nat)),(92,iA i)] [.a 342 2 n Y]
def abY:List Nat:=[11,90,91,92]
section
variable(n:Nat)(f:Nat->Int)(i:Int)(y:Nat->Int)
def tuV:Int:=-kF (wA (f i.toNat))
noncomputable def tuT(x z:Option Out):Option Out:=cond (decide (i<(n:Int))) (cond (iP i n||false) (gate (aj bO 318 [wA (f i.toNat)] (wA (tuV f i))) (cond (iP i n||false) (cond (stU i.toNat n) x none) none)) none) z
theorem aqX:jR bO [] [kS bO 318 miG] bC (av aHW 2) (tuS n f i λ q=>wC (y q)) (gu abY [some 0])=tuT n f i (some ⟨.normal,tuS n f (aH (i+1)) λ q=>bM (q==0+i.toNat) (wC (tuV f i)) (wC (y q)),.any⟩) none:=by kernel_rfl
theorem axE:jR bO [] [kS bO 318 miG] bC (av aHW 2) (tuS n f i λ q=>wC (y q)) (iG abY [some 0])=tuT n f i none (some ⟨.exit 4,tuS n f i λ q=>wC (y q),.any⟩):=by kernel_rfl
end
section
variable(n:Nat)(f:Nat->Int)(m:Nat)(g:Nat->Int)(top size:Int)(n1:Nat)(f1 y:Nat->Int)
noncomputable def tzL:Nat->Option dY:=aly 5 (fF abW [some 0,some 1] (qE n f m g top size) (.exit 0) (qE n1 f1 m g top size)) 21 (fF abY [some 2] (tuS n1 f1 0 λ _=>wC 0) (.exit 4) (tuS n1 f1 (n1:Nat) λ q=>wC (y q)))
def tzG:Int:=g (aH ((m:Int) - 1)).toNat
noncomputable def tzW(s:Int):Option Out:=gate (Sub (qE n f m g (tzG m g) s) (qE n f m g top size)) (cond (QD (n1:Nat)||false) (gate (Sub (tuS n1 f1 0 λ _=>wz) (tuS n1 f1 0 λ _=>wC 0)) (some (Out.of (.sl 2 n1 λ j=>wC (y (0+j)))))) none)
theorem aCB:ev bO [] [kS bO 318 miG] (tzL n f m g top size n1 f1 y) aHW [pA n f,pA m g] ret =
  cond (iP (aH ((m:Int) - 1)) m||false) (cond (decide ((tzG m g).sign<0)) (gate (aj bO 318 [wA (tzG m g)] (wA (-kF (wA (tzG m g))))) (tzW n f m g top size n1 f1 y (-kF (wA (tzG m g))))) (tzW n f m g top size n1 f1 y (tzG m g))) none:=by kernel_rfl
end
def uf(g:Nat->Int)(m:Nat):Int:=((g (m - 1)).natAbs:Nat)
def Cz(f:Nat->Int)(n:Nat)(g:Nat->Int)(m:Nat):Int:=if g (m - 1)>0 then -f (n - 1)else f (n - 1)
def x9(f:Nat->Int)(n:Nat)(g:Nat->Int)(m q:Nat):Int:=f q*uf g m+if n - m<=q then Cz f n g m*g (q - (n - m))else 0
theorem aaG{f g:Nat->Int}{n m:Nat}(hm:1<=m)(hn:m<=n)(hf:Cn n f)(hg:Cn m g):Cn (n - 1) (x9 f n g m):=λ q hq=>by
 unfold x9;rw[gH (by omega)];by_cases h:q=n - 1
 .subst h;rw[show n - 1 - (n - m)=m - 1 by omega];unfold uf Cz;by_cases hp:g (m - 1)>0
  .rw[gH hp,show(((g (m - 1)).natAbs:Nat):Int)=g (m - 1) by omega,aMJ];omega
  .rw[fP hp,show(((g (m - 1)).natAbs:Nat):Int)=-g (m - 1) by omega,aOu];omega
 .rw[hf q (by omega),hg (q - (n - m)) (by omega)];simp
abbrev fZ:Type:=Nat × (Nat->Int)
def Li(m:Nat)(g:Nat->Int)(p:fZ):fZ:=(tl (x9 p.2 p.1 g m) (p.1 - 1),x9 p.2 p.1 g m)
def yc(m:Nat)(g:Nat->Int):Nat->fZ->fZ
 | 0,p=>p
 |j+1,p=>yc m g j (Li m g p)
theorem zK(m:Nat)(g:Nat->Int):∀j p,yc m g (j+1) p=Li m g (yc m g j p)
 | 0,_=>rfl
 |j+1,p=>zK m g j (Li m g p)
def rcn(m:Nat)(g:Nat->Int):Nat->fZ->Nat
 | 0,_=>0
 |k+1,p=>if m<=p.1 then rcn m g k (Li m g p)+1 else 0
theorem Gn{m:Nat}(hm:1<=m)(g:Nat->Int):∀(k:Nat) (p:fZ),p.1<=k->(∀j,j<rcn m g k p->m<=(yc m g j p).1)/\(yc m g (rcn m g k p) p).1<m
 | 0,p,h=>⟨λ j d=>by have:j<0:=d;omega,by show p.1<m;omega⟩
 |k+1,p,h=>by
  unfold rcn;by_cases hp:m<=p.1
  .rw[gH hp];obtain⟨e,h2⟩:=Gn hm g k (Li m g p) (by have:=Lj (x9 p.2 p.1 g m) (p.1 - 1);show tl (x9 p.2 p.1 g m) (p.1 - 1)<=k;omega);refine⟨λ j d=>?_,h2⟩;cases j with
   |zero=>exact hp
   |succ j=>exact e j (by omega)
  .rw[fP hp];exact⟨λ j d=>by omega,by show p.1<m;omega⟩
theorem aaH(m:Nat)(g:Nat->Int):∀(k:Nat) (p:fZ),rcn m g k p<=k
 | 0,_=>ND _
 |k+1,p=>by
  unfold rcn;split
  .have:=aaH m g k (Li m g p);omega
  .omega
def nJ(m:Nat)(g:Nat->Int)(p:fZ):fZ:=yc m g (rcn m g p.1 p) p
theorem Gp{m:Nat}(hm:1<=m){g:Nat->Int}(hg:Cn m g){p:fZ}(hp:Cn p.1 p.2){k:Nat}(hk:∀j,j<k->m<=(yc m g j p).1):∀j,j<=k->Cn (yc m g j p).1 (yc m g j p).2/\(yc m g j p).1<=p.1
 | 0,_=>⟨hp,ND _⟩
 |j+1,hj=>by obtain⟨d,h2⟩:=Gp hm hg hp hk j (by omega);rw[zK];refine⟨Xj (aaG hm (hk j (by omega)) d hg),?_⟩;have:=Lj (x9 (yc m g j p).2 (yc m g j p).1 g m) ((yc m g j p).1 - 1);show tl (x9 (yc m g j p).2 (yc m g j p).1 g m) ((yc m g j p).1 - 1)<=p.1;omega
theorem aBC{n m:Nat}{f g:Nat->Int}(sf:∀i,Sm (f i))(sp:∀i j,Sm (f i*g j)):Sm (Cz f n g m)/\∀j,Sm (Cz f n g m*g j):=by
 unfold Cz;by_cases h:g (m - 1)>0
 .rw[gH h];refine⟨?_,λ j=>?_⟩
  .unfold Sm;rw[aJD];exact sf _
  .unfold Sm;rw[aMJ,aJD];exact sp _ _
 .rw[fP h];exact⟨sf _,λ j=>sp _ _⟩
theorem aBD{m:Nat}{f g:Nat->Int}(sg:∀i,Sm (g i))(sp:∀i j,Sm (f i*g j)):Sm (uf g m)/\∀i,Sm (f i*uf g m):=by unfold uf Sm;refine⟨sg _,λ i=>?_⟩;have:=sp i (m - 1);unfold Sm at this;rw[aHq,Int.natAbs_natCast,<-aHq];exact this
theorem Kh{l:List Entry}{ks:List bf}{ms:List dZ}{L:Nat->Option dY}{Z:Nat->Option kH}(E:∀i h,Z i=some h->gD 0 h)(hl:∀e,e∈l->jr bO e)(o:∀e,e∈ks->sZ bO e)(d:∀e,e∈ms->oN bO e){c:Code}{s s':St}{e:Exit}{k:jL}(hk:Ma k)(F:yx bO L c)(h:avS bO l ks ms L Z c s k=some ⟨e,s',.any⟩):bH bO c s e s' :=ags hk E (kV hl o d) (gJ (kV hl o d) (by kernel_rfl)) F h
section
variable{n m:Nat}{f g:Nat->Int}(hn:n<=1000000)(hm:1<=m)(hmn:m<=n)(sf:∀i,Sm (f i))(sg:∀i,Sm (g i))(sp:∀i j,Sm (f i*g j))
include hn hm hmn sf sg sp
theorem ajh:bH bO (.loop (av aHW 1)) (trI n f m g (n - 1) (g (m - 1)) (uf g m) (Cz f n g m) ((n - m:Nat):Int) 0 λ _=>wC 0) (.exit 2) (trI n f m g (n - 1) (g (m - 1)) (uf g m) (Cz f n g m) ((n - m:Nat):Int) ((n - 1:Nat):Int) λ q=>wC (upTo (x9 f n g m) (n - 1) q)):=by
 have ks:∀e,e∈[kS bO 316 tiG,kS bO 317 plG]->sZ bO e:=au aG (au aG ay);obtain⟨l1,l2⟩:=aBC (n:=n) (m:=m) sf sp;obtain⟨G,F⟩:=aBD (m:=m) sg sp
 have key:bH bO (.loop (av aHW 1)) (trI n f m g (n - 1) (g (m - 1)) (uf g m) (Cz f n g m) ((n - m:Nat):Int) ((0:Nat):Int) λ q=>wC (upTo (x9 f n g m) 0 q)) (.exit 2) (trI n f m g (n - 1) (g (m - 1)) (uf g m) (Cz f n g m) ((n - m:Nat):Int) ((n - 1:Nat):Int) λ q=>wC (upTo (x9 f n g m) (n - 1) q)):=by
  refine aP (λ i=>trI n f m g (n - 1) (g (m - 1)) (uf g m) (Cz f n g m) ((n - m:Nat):Int) (i:Nat) λ q=>wC (upTo (x9 f n g m) i q)) (n - 1) (.exit 2) _ (by simp) (λ i hi=>?_) ?_
  .have d:=apC n f m g (n - 1) (g (m - 1)) (uf g m) (Cz f n g m) ((n - m:Nat):Int) (i:Nat) (upTo (x9 f n g m) i);have e1:agv f (uf g m) (i:Nat)=f i*uf g m:=by unfold agv;rw[iC,iC,pF]
   have E:TV f (uf g m) (i:Nat) (upTo (x9 f n g m) i)=wA (f i*uf g m):=by unfold TV;rw[BEq.rfl,Nc,e1];rfl
   have I:aj bO 316 [wA (f ((i:Nat):Int).toNat),wA (uf g m)] (wA (f i*uf g m)):=qY (sf _) G;unfold TW at d;rw[bI hi,e1,ak I,bZ (show i<n by omega),aji hi,aQ (by omega)]at d;by_cases hs:n - m<=i
   .have o:aH (((i:Nat):Int) - ((n - m:Nat):Int))=((i - (n - m):Nat):Int):=by rw[aO];omega
    have e2:trM g (Cz f n g m) ((n - m:Nat):Int) (i:Nat)=Cz f n g m*g (i - (n - m)):=by unfold trM;rw[iC,iC,o,pF]
    have e3:apD f g (uf g m) (Cz f n g m) ((n - m:Nat):Int) (i:Nat) (upTo (x9 f n g m) i)=x9 f n g m i:=by unfold apD;rw[E,e2,iC,iC];unfold x9;rw[gH hs]
    have h2:aj bO 316 [wA (Cz f n g m),wA (g (i - (n - m)))] (wA (Cz f n g m*g (i - (n - m)))):=qY l1 (sg _)
    have H:aj bO 317 [wA (f i*uf g m),wA (Cz f n g m*g (i - (n - m)))] (wA (x9 f n g m i)):=by have:=Ig (F i) (l2 (i - (n - m)));unfold x9;rw[gH hs];exact this
    rw[gG (show((i:Nat):Int)≥((n - m:Nat):Int) by omega),e2,e3,E,o,pF,pF,ak h2,ak H,bZ hi,Fx hi,bZ (show i - (n - m)<m by omega)]at d;refine(aK (bB _ _) aB ks aC d).sub (Sub.refl _) ?_;refine ig ⟨wV rfl,wV rfl,wV rfl,Gc ⟨342,2,n - 1,_,_,rfl,rfl,λ q hq=>?_⟩,trivial⟩;rw[Nc,Nc,<-zx];cases(q==0+i)<;>rfl
   .have e3:f i*uf g m=x9 f n g m i:=by unfold x9;rw[fP hs,aHV]
    rw[iH (show ¬((i:Nat):Int)≥((n - m:Nat):Int) by omega),pF,e3]at d;refine(aK (bB _ _) aB ks aC d).sub (Sub.refl _) ?_;refine ig ⟨wV rfl,wV rfl,wV rfl,Gc ⟨342,2,n - 1,_,_,rfl,rfl,λ q hq=>?_⟩,trivial⟩;rw[Nc,zx]
  .refine aK (dB _ _) aB ks aC ((av1 n f m g (n - 1) (g (m - 1)) (uf g m) (Cz f n g m) ((n - m:Nat):Int) ((n - 1:Nat):Int) (upTo (x9 f n g m) (n - 1))).trans ?_);unfold TW;rw[bJ,eU]
 rw[Ec]at key;exact key
end
theorem alb{sl:List (AV × Chain)}{e:TypeId}{n:Nat}{a b c:List AV}:Sub ⟨sl,[.c a,.c b,.c c,.a e 2 n λ _=>wz]⟩ ⟨sl,[.c a,.c b,.c c,.a e 2 n λ _=>wC 0]⟩ :=gZ ⟨wV rfl,wV rfl,wV rfl,Gc (wV ⟨e,2,n,_,_,rfl,rfl,λ _ _=>Mj⟩),trivial⟩
section
variable{m:Nat}{g:Nat->Int}(hm:1<=m)(hg:Cn m g)(sg:∀i,Sm (g i))
include hm hg sg
theorem alc{n:Nat}{f:Nat->Int}(hn:n<=1000000)(hmn:m<=n)(hf:Cn n f)(sf:∀i,Sm (f i))(sp:∀i j,Sm (f i*g j)):bH bO (av aHW 0) (qE n f m g (g (m - 1)) (uf g m)) .normal (qE (tl (x9 f n g m) (n - 1)) (x9 f n g m) m g (g (m - 1)) (uf g m)):=by
 have inner:=ajh hn hm hmn sf sg sp;rw[(aaG hm hmn hf hg).upTo]at inner;have F:yx bO (trL n f m g (n - 1) (g (m - 1)) (uf g m) (Cz f n g m) ((n - m:Nat):Int) (x9 f n g m)) (av aHW 0):=gq (i:=12) 0 1 (aS inner);have d:=aqW n f m g (n - 1) (g (m - 1)) (uf g m) (Cz f n g m) ((n - m:Nat):Int) (x9 f n g m) (tl (x9 f n g m) (n - 1));have E:aH (((n:Nat):Int) - 1)=((n - 1:Nat):Int):=by rw[aO];omega
 have o:aH (((n:Nat):Int) - ((m:Nat):Int))=((n - m:Nat):Int):=by rw[aO];omega
 have eF:trF n f=f (n - 1):=by unfold trF;rw[E,pF]
 have hp:aj bO 311 [.sl 2 (n - 1) λ q=>wC (x9 f n g m q)] (pA (tl (x9 f n g m) (n - 1)) (x9 f n g m)):=Im (x9 f n g m) (by omega)
 have H:∀x,trR n f m g (n - 1) (g (m - 1)) (uf g m) (Cz f n g m) ((n - m:Nat):Int) (x9 f n g m) (tl (x9 f n g m) (n - 1)) (Cz f n g m) x=x:=λ x=>by unfold trR;rw[E,o,pF,Gh (by omega),ak (show Sub (trI n f m g (n - 1) (g (m - 1)) (uf g m) (Cz f n g m) ((n - m:Nat):Int) 0 λ _=>wz) (trI n f m g (n - 1) (g (m - 1)) (uf g m) (Cz f n g m) ((n - m:Nat):Int) 0 λ _=>wC 0) from alb),XK,ak hp];rfl
 unfold trQ at d;rw[gG (show((n:Nat):Int)≥((m:Nat):Int) by omega),E,bZ (show n - 1<n by omega),eF,iC,ak (MB (f (n - 1)))]at d;by_cases ht:g (m - 1)>0
 .have el:-f (n - 1)=Cz f n g m:=by unfold Cz;rw[gH ht]
  rw[show(g (m - 1)).sign=1 from Int.sign_eq_one_of_pos ht,el,H]at d;exact Kh (jJ (jm 3)) aB (au aG (au aG ay)) aV (bB _ _) F d
 .have el:f (n - 1)=Cz f n g m:=by unfold Cz;rw[fP ht]
  have I:decide ((g (m - 1)).sign>0)=false:=iH (by rcases gy (g (m - 1))with⟨h,G⟩ | ⟨h,G⟩ | ⟨h,G⟩<;>omega)
  rw[I]at d;have e:=(congrArg (λ l=>trR n f m g (n - 1) (g (m - 1)) (uf g m) (Cz f n g m) ((n - m:Nat):Int) (x9 f n g m) (tl (x9 f n g m) (n - 1)) l (some ⟨.normal,qE (tl (x9 f n g m) (n - 1)) (x9 f n g m) m g (g (m - 1)) (uf g m),.any⟩)) el).trans (H _);exact Kh (jJ (jm 3)) aB (au aG (au aG ay)) aV (bB _ _) F (d.trans e)
theorem axC{p:fZ}(hn:p.1<=1000000)(hf:Cn p.1 p.2)(sf:∀j,j<=p.1->∀i,Sm ((yc m g j p).2 i))(sp:∀k,k<=p.1->∀i j,Sm ((yc m g k p).2 i*g j)):bH bO (.loop (av aHW 0)) (qE p.1 p.2 m g (g (m - 1)) (uf g m)) (.exit 0) (qE (nJ m g p).1 (nJ m g p).2 m g (g (m - 1)) (uf g m)):=by
 obtain⟨d,h2⟩:=Gn hm g p.1 p (ND _);refine aP (λ j=>qE (yc m g j p).1 (yc m g j p).2 m g (g (m - 1)) (uf g m)) (rcn m g p.1 p) (.exit 0) _ (by simp) (λ j E=>?_) ?_
 .obtain⟨e,F⟩:=Gp hm hg hf d j (by omega);show bH bO _ _ .normal (qE (yc m g (j+1) p).1 (yc m g (j+1) p).2 m g (g (m - 1)) (uf g m));rw[zK];have o:=aaH m g p.1 p;exact alc hm hg sg (by omega) (d j E) e (sf j (by omega)) (sp j (by omega))
 .obtain⟨e,F⟩:=Gp hm hg hf d _ (ND _);refine Kh (Z:=λ _=>none) (λ _ _ h=>by cases h) aB (au aG (au (CJ _) ay)) aV (dB _ _) (uj 12) ((axD (yc m g (rcn m g p.1 p) p).1 (yc m g (rcn m g p.1 p) p).2 m g (g (m - 1)) (uf g m)).trans ?_);rw[iH (show ¬(((yc m g (rcn m g p.1 p) p).1:Nat):Int)≥((m:Nat):Int) by omega)];rfl
end
def xC(f:Nat->Int)(q:Nat):Int:=-f q
theorem ald{n:Nat}{f:Nat->Int}(h:Cn n f):Cn n (xC f):=λ i hi=>by unfold xC;rw[h i hi];rfl
theorem ale{n:Nat}{f:Nat->Int}(hn:n<=1000000)(hf:Cn n f):bH bO (.loop (av aHW 2)) (tuS n f 0 λ _=>wC 0) (.exit 4) (tuS n f (n:Nat) λ q=>wC (xC f q)):=by
 have key:bH bO (.loop (av aHW 2)) (tuS n f ((0:Nat):Int) λ q=>wC (upTo (xC f) 0 q)) (.exit 4) (tuS n f (n:Nat) λ q=>wC (upTo (xC f) n q)):=by
  refine aP (λ i=>tuS n f (i:Nat) λ q=>wC (upTo (xC f) i q)) n (.exit 4) _ (by simp) (λ i hi=>?_) ?_
  .have d:=aqX n f (i:Nat) (upTo (xC f) i);have e:tuV f (i:Nat)=xC f i:=by unfold tuV xC;rw[iC,pF]
   unfold tuT at d;rw[bI hi,bZ hi,e,pF,ak (show aj bO 318 [wA (f i)] (wA (xC f i)) from MB (f i)),Fx hi,aQ (by omega)]at d;refine(aK (bB _ _) aB (au aG ay) aC d).sub (Sub.refl _) ?_;refine ig ⟨Gc ⟨342,2,n,_,_,rfl,rfl,λ q hq=>?_⟩,trivial⟩;rw[Nc,zx]
  .refine aK (dB _ _) aB (au aG ay) aC ((axE n f (n:Nat) (upTo (xC f) n)).trans ?_);unfold tuT;rw[bJ,eU]
 rw[Ec,(ald hf).upTo]at key;exact key
theorem aqY{m:Nat}{g:Nat->Int}(hm:1<=m)(I:m<=1000000)(hg:Cn m g)(sg:∀i,Sm (g i)){p:fZ}(hn:p.1<=1000000)(hf:Cn p.1 p.2)(sf:∀j,j<=p.1->∀i,Sm ((yc m g j p).2 i))(sp:∀k,k<=p.1->∀i j,Sm ((yc m g k p).2 i*g j)):aj bO 320 [pA p.1 p.2,pA m g] (pA (nJ m g p).1 (xC (nJ m g p).2)):=by
 obtain⟨O,h2⟩:=Gn hm g p.1 p (ND _);obtain⟨d,H⟩:=Gp hm hg hf O _ (ND _);have d:Cn (nJ m g p).1 (nJ m g p).2:=d;have H:(nJ m g p).1<=p.1:=H;have l1:=axC hm hg sg hn hf sf sp;have l2:=ale (n:=(nJ m g p).1) (f:=(nJ m g p).2) (by omega) d
 have J:yx bO (tzL p.1 p.2 m g (g (m - 1)) (uf g m) (nJ m g p).1 (nJ m g p).2 (xC (nJ m g p).2)) (dH aHW) :=aqZ (gq 0 3 (aS l1)) (gq 2 3 (aS l2))
 refine aR aB (au aG ay) Tryz.func320 J ((aCB p.1 p.2 m g (g (m - 1)) (uf g m) (nJ m g p).1 (nJ m g p).2 (xC (nJ m g p).2)).trans ?_);have F:aH (((m:Nat):Int) - 1)=((m - 1:Nat):Int):=by rw[aO];omega
 have G:tzG m g=g (m - 1):=by unfold tzG;rw[F,pF]
 have e:(λ j=>wC (xC (nJ m g p).2 (0+j)))=λ j=>wC (xC (nJ m g p).2 j):=funext λ j=>by rw[ZO]
 have E:tzW p.1 p.2 m g (g (m - 1)) (uf g m) (nJ m g p).1 (nJ m g p).2 (xC (nJ m g p).2) (uf g m)=some (Out.of (pA (nJ m g p).1 (xC (nJ m g p).2))):=by unfold tzW;rw[G,ak (Sub.refl _),Gh (by omega),ak (show Sub (tuS (nJ m g p).1 (nJ m g p).2 0 λ _=>wz) (tuS (nJ m g p).1 (nJ m g p).2 0 λ _=>wC 0) from Tx),e];rfl
 rw[G,F,bZ (show m - 1<m by omega),iC,ak (MB (g (m - 1)))];by_cases ht:g (m - 1)<0
 .rw[show(g (m - 1)).sign=-1 from Int.sign_eq_neg_one_of_neg ht,show -g (m - 1)=uf g m by unfold uf;omega,E];rfl
 .have U:decide ((g (m - 1)).sign<0)=false:=iH (by rcases gy (g (m - 1))with⟨h,o⟩ | ⟨h,o⟩ | ⟨h,o⟩<;>omega)
  rw[U,Bool.true_or,aY,eU];have:g (m - 1)=uf g m:=by unfold uf;omega
  refine Eq.trans ?_ E;congr 1
def seS(n:Nat)(f:Nat->Int)(x side t:Int):St:=mkS 22 [(0,pA n f),(2,iA side),(4,.own 0 0),(7,iA t)] [.c (wC x)]
def sbE(r:Int):St:=mkS 22 [(6,iA r)] []
def aav:List Nat:=[0,2,4,7]
section
variable(n:Nat)(f:Nat->Int)(x side t s:Int)(n1:Nat)(f1:Nat->Int)
noncomputable def sbT(a b:Option Out):Option Out:=gate (aj bO 328 [pA n f,wA x] (iA s)) (cond (!(s==0)) a (gate (aj bO 319 [pA n f] (pA n1 f1)) b))
theorem apb:jR bO [] [kS bO 328 (λ _=>iA s),kS bO 319 (λ _=>pA n1 f1)] bC (av aLO 0) (seS n f x side t) (gu aav [some 0])=sbT n f x s n1 f1 none (some ⟨.normal,seS n1 f1 x side (aH (t*side)),.any⟩):=by kernel_rfl
theorem avo:jR bO [] [kS bO 328 (λ _=>iA s),kS bO 319 (λ _=>pA n1 f1)] bC (av aLO 0) (seS n f x side t) (aaw [6] [])=sbT n f x s n1 f1 (some ⟨.ret,sbE (aH (s*t)),.any⟩) none:=by kernel_rfl
theorem aiN(r:Int):ev bO [] [] (eZ 2 (fF aav [some 0] (seS n f x side 1) .ret (sbE r))) aLO [pA n f,wA x,iA side] ret=gate (Sub (seS n f x side 1) (seS n f x side 1)) (some (Out.of (iA r))):=by kernel_rfl
theorem aBi(r:Int):ev bO [] [kS bO 323 (λ _=>iA r)] bC Tryz.f321 [pA n f,wA x] ret=gate (aj bO 323 [pA n f,wA x,iA (-1)] (iA r)) (some (Out.of (iA r))):=by kernel_rfl
theorem aBj(r:Int):ev bO [] [kS bO 323 (λ _=>iA r)] bC Tryz.f310 [pA n f,wA x] ret=gate (aj bO 323 [pA n f,wA x,iA 1] (iA r)) (some (Out.of (iA r))):=by kernel_rfl
end
def Nb(f:Nat->Int):Nat->Nat->Int
 | 0=>f
 |j+1=>Fw (Nb f j)
def hv(f:Nat->Int)(n:Nat)(x:Int)(j:Nat):Int:=hor (Nb f j) x 0 (n - j)
structure HB(n:Nat)(f:Nat->Int)(x:Int):Prop where
 hn:n<=1000000
 hx:Sm x
 hf:∀i,Sm (f i)
 hh:∀j,j<n->Sm (hor f x (n - j) j)/\Sm (hor f x (n - j) j*x)
theorem HB.at{n:Nat}{f:Nat->Int}{x:Int}(h:HB n f x):aj bO 328 [pA n f,wA x] (iA (hor f x 0 n).sign):=apc (aa2 h.hn (by decide)) h.hx h.hf h.hh
def Qy(side:Int):Nat->Int
 | 0=>1
 |j+1=>Qy side j*side
theorem zu{side:Int}(h:side=1\/side=-1):∀j,Qy side j=1\/Qy side j=-1
 | 0=>wV rfl
 |j+1=>by show Qy side j*side=1\/Qy side j*side=-1;rcases zu h j with e |e<;>rcases h with h |h<;>rw[e,h]<;>decide
theorem ad7{n:Nat}{f:Nat->Int}{x side:Int}(hs:side=1\/side=-1){K:Nat}(hb:∀j,j<=K->HB (n - j) (Nb f j) x)(H:∀j,j<K->hv f n x j=0)(hK:hv f n x K≠0):aj bO 323 [pA n f,wA x,iA side] (iA ((hv f n x K).sign*Qy side K)):=by
 have ks:∀(s:Int) (n1:Nat) (f1:Nat->Int),∀e,e∈[kS bO 328 (λ _=>iA s),kS bO 319 (λ _=>pA n1 f1)]->sZ bO e:=λ _ _ _=>au aG (au aG ay)
 have hl:bH bO (.loop (av aLO 0)) (seS n f x side 1) .ret (sbE ((hv f n x K).sign*Qy side K)):=by
  refine aP (λ j=>seS (n - j) (Nb f j) x side (Qy side j)) K .ret _ (by simp) (λ j G=>?_) ?_
  .have d:=apb (n - j) (Nb f j) x side (Qy side j) 0 (n - (j+1)) (Nb f (j+1));have o:=(hb j (by omega)).at;have hz:hor (Nb f j) x 0 (n - j)=0:=H j G;rw[hz]at o;have h2:aj bO 319 [pA (n - j) (Nb f j)] (pA (n - (j+1)) (Nb f (j+1))):=ad8 (hb j (by omega)).hn (hb j (by omega)).hf
   have F:aH (Qy side j*side)=Qy side (j+1):=by show aH (Qy side (j+1))=_;rcases zu hs (j+1)with e |e<;>rw[e]<;>rfl
   unfold sbT at d;rw[ak (show aj bO 328 [pA (n - j) (Nb f j),wA x] (iA 0) from o),ak h2,F]at d;exact aK (bB _ _) aB (ks _ _ _) aC d
  .have d:=avo (n - K) (Nb f K) x side (Qy side K) (hv f n x K).sign 0 f;have o:=(hb K (ND _)).at;have E:(hv f n x K).sign≠0:=λ h=>hK (Int.sign_eq_zero_iff_zero.1 h)
   have F:aH ((hv f n x K).sign*Qy side K)=(hv f n x K).sign*Qy side K:=by rcases gy (hv f n x K)with⟨_,h⟩ | ⟨_,h⟩ | ⟨_,h⟩<;>rcases zu hs K with e |e<;>rw[h,e]<;>rfl
   unfold sbT at d;rw[ak (show aj bO 328 [pA (n - K) (Nb f K),wA x] (iA (hv f n x K).sign) from o),mI E,F]at d;exact aK (CG _ _) aB (ks _ _ _) aC d
 refine aR aB ay Tryz.func323 (gq (i:=2) 0 1 (aS (keep:=aav) (τ:=[some 0]) hl)) ((aiN n f x side _).trans ?_);rw[ak (Sub.refl _)]
def chS(k:Nat)(C:Nat->fZ)(n:Nat)(f:Nat->Int)(m:Nat)(g:Nat->Int):St:=mkS 21 [(0,pA n f),(3,.bQ 0 1 0 k),(4,pA m g)] [.a 323 1 k λ q=>[pA (C q).1 (C q).2]]
def Tw:List Nat:=[0,3,4]
section
variable(k:Nat)(C:Nat->fZ)(n:Nat)(f:Nat->Int)(m:Nat)(g:Nat->Int)(m1:Nat)(g1:Nat->Int)
noncomputable def chT(x z:Option Out):Option Out:=cond (decide ((m:Int)>0)) (cond (Qz k 24||false) (gate (aj bO 320 [pA n f,pA m g] (pA m1 g1)) x) none) z
def chN:St:=mkS 21 [(0,pA m g),(3,.bQ 0 1 0 (k+1)),(4,pA m1 g1)] [.a 323 1 (k+1) λ q=>bM (Tv q k) [pA (C q).1 (C q).2] [pA m g]]
theorem apd:jR bO [] [kS bO 320 (λ _=>pA m1 g1)] bC (av aKW 0) (chS k C n f m g) (gu Tw [some 2])=chT k n f m g m1 g1 (some ⟨.normal,chN k C m g m1 g1,.any⟩) none:=by kernel_rfl
theorem avp:jR bO [] [kS bO 320 (λ _=>pA m1 g1)] bC (av aKW 0) (chS k C n f m g) (iG Tw [some 0])=chT k n f m g m1 g1 none (some ⟨.exit 0,chS k C n f m g,.any⟩):=by kernel_rfl
theorem aBk(d:Nat->fZ)(n1:Nat)(f1:Nat->Int)(m2:Nat)(g2:Nat->Int):ev bO [] [kS bO 319 (λ _=>pA m g),⟨320,λ _ _=>none⟩] (eZ 3 (fF Tw [some 0] (chS 1 C n f m g) (.exit 0) (chS k d n1 f1 m2 g2))) aKW [pA n f] ret =
  gate (aj bO 319 [pA n f] (pA m g)) (gate (Sub (mkS 21 [(0,pA n f),(3,.bQ 0 1 0 1),(4,pA m g)] [.a 323 1 1 (chunk [pA n f] 1)]) (chS 1 C n f m g)) (some (Out.of (.sl 1 k λ j=>[pA (d (0+j)).1 (d (0+j)).2])))):=by kernel_rfl
end
theorem atM(b:Bool)(n:Nat)(f:Nat->Int)(m:Nat)(g:Nat->Int):bM b [pA n f] [pA m g]=[cond b (pA n f) (pA m g)]:=by unfold pA;cases b<;>simp only[bM,kZ,aY,eU,Nat.beq_refl,Nc]
def nxt(a b:fZ):fZ:=((nJ b.1 b.2 a).1,xC (nJ b.1 b.2 a).2)
def cm(p:fZ):Nat->fZ × fZ
 | 0=>(p,(p.1 - 1,Fw p.2))
 |j+1=>((cm p j).2,nxt (cm p j).1 (cm p j).2)
def cq(p:fZ)(j:Nat):fZ:=(cm p j).1
theorem aAH(p:fZ)(j:Nat):cq p (j+2)=nxt (cq p j) (cq p (j+1)):=rfl
def fD(p:fZ):AV:=pA p.1 p.2
def Ro(k:Nat)(C:Nat->fZ):AV:=.sl 1 k λ q=>[fD (C q)]
structure CB(p:fZ)(k:Nat):Prop where
 hn:p.1<=1000000
 hc:Cn p.1 p.2
 hf:∀i,Sm (p.2 i)
 hg:∀j,j<k->∀i,Sm ((cq p (j+1)).2 i)
 hr:∀j,j<k->∀t,t<=(cq p j).1->∀i,Sm ((yc (cq p (j+1)).1 (cq p (j+1)).2 t (cq p j)).2 i)
 hp:∀j,j<k->∀t,t<=(cq p j).1->∀i l,Sm ((yc (cq p (j+1)).1 (cq p (j+1)).2 t (cq p j)).2 i*(cq p (j+1)).2 l)
theorem ani{p:fZ}{k:Nat}(h:CB p k)(hk:∀j,j<k->0<(cq p (j+1)).1):∀j,j<=k->(Cn (cq p j).1 (cq p j).2/\(cq p j).1<=1000000)/\Cn (cq p (j+1)).1 (cq p (j+1)).2/\(cq p (j+1)).1<=1000000
 | 0,_=>⟨⟨h.hc,h.hn⟩,acp h.hc,by have:=h.hn;show p.1 - 1<=1000000;omega⟩
 |j+1,hj=>by obtain⟨⟨a1,G⟩,e,F⟩:=ani h hk j (by omega);refine⟨⟨e,F⟩,?_⟩;have hm:=hk j (by omega);obtain⟨o,h2⟩:=Gn (m:=(cq p (j+1)).1) hm (cq p (j+1)).2 (cq p j).1 (cq p j) (ND _);obtain⟨E,d⟩:=Gp hm e a1 o _ (ND _);rw[aAH];have d:(nxt (cq p j) (cq p (j+1))).1<=(cq p j).1:=d;exact⟨ald E,by omega⟩
theorem aoz{p:fZ}{k:Nat}(h:CB p k)(F:k<=1000)(hk:∀j,j<k->0<(cq p (j+1)).1)(hz:(cq p (k+1)).1=0):bH bO (.loop (av aKW 0)) (chS 1 (cq p) p.1 p.2 (p.1 - 1) (Fw p.2)) (.exit 0) (chS (k+1) (cq p) (cq p k).1 (cq p k).2 (cq p (k+1)).1 (cq p (k+1)).2):=by
 have ks:∀(n:Nat) (f:Nat->Int),∀e,e∈[kS bO 320 (λ _=>pA n f)]->sZ bO e:=λ _ _=>au aG ay;refine aP (λ j=>chS (j+1) (cq p) (cq p j).1 (cq p j).2 (cq p (j+1)).1 (cq p (j+1)).2) k (.exit 0) _ (by simp) (λ j d=>?_) ?_
 .obtain⟨⟨a1,J⟩,I,H⟩:=ani h hk j (by omega);have o:=apd (j+1) (cq p) (cq p j).1 (cq p j).2 (cq p (j+1)).1 (cq p (j+1)).2 (cq p (j+2)).1 (cq p (j+2)).2;have ht:aj bO 320 [pA (cq p j).1 (cq p j).2,pA (cq p (j+1)).1 (cq p (j+1)).2] (pA (cq p (j+2)).1 (cq p (j+2)).2):=aqY (hk j d) H I (h.hg j d) J a1 (h.hr j d) (h.hp j d);unfold chT at o;rw[gG (show(((cq p (j+1)).1:Nat):Int)>0 by have:=hk j d;omega),yB (by omega),ak ht]at o;refine(aK (bB _ _) aB (ks _ _) aC o).sub (Sub.refl _) ?_;refine ig ⟨Gc ⟨323,1,j+1+1,_,_,rfl,rfl,λ q hq=>?_⟩,trivial⟩;rw[atM];cases E:Tv q (j+1)
  .have G:=jM E;have:q=j+1:=by omega
   subst this;rfl
  .rfl
 .refine aK (dB _ _) aB (ks 0 p.2) aC ((avp (k+1) (cq p) (cq p k).1 (cq p k).2 (cq p (k+1)).1 (cq p (k+1)).2 0 p.2).trans ?_);unfold chT;rw[hz];rfl
theorem asY{p:fZ}{k:Nat}(h:CB p k)(d:k<=1000)(hk:∀j,j<k->0<(cq p (j+1)).1)(hz:(cq p (k+1)).1=0):aj bO 305 [fD p] (Ro (k+1) (cq p)):=by
 have o:=gq (c:=dH aKW) (i:=3) 0 1 (aS (keep:=Tw) (τ:=[some 0]) (aoz h d hk hz));refine aR aB (au aG (au (CJ _) ay)) Tryz.func305 o ((aBk (k+1) (cq p) p.1 p.2 (p.1 - 1) (Fw p.2) (cq p) _ _ _ _).trans ?_)
 have hs:Sub (mkS 21 [(0,pA p.1 p.2),(3,.bQ 0 1 0 1),(4,pA (p.1 - 1) (Fw p.2))] [.a 323 1 1 (chunk [pA p.1 p.2] 1)]) (chS 1 (cq p) p.1 p.2 (p.1 - 1) (Fw p.2)):=by
  refine ig ⟨Gc ⟨323,1,1,_,_,rfl,rfl,λ q hq=>?_⟩,trivial⟩;have:q=0:=by omega
  subst this;rfl
 have e:(λ j=>[pA (cq p (0+j)).1 (cq p (0+j)).2])=λ j=>[fD (cq p j)]:=funext λ j=>by rw[ZO];rfl
 rw[ak (ad8 h.hn h.hf),ak hs,e];rfl
def XC(k:Nat)(C:Nat->fZ)(m:Nat)(u:Nat->Int):AV:=.ref [Ro k C,sJ m u] 0
def LD(fn:Nat)(k:Nat)(C:Nat->fZ)(m:Nat)(u:Nat->Int)(x cnt so i:Int):St:=mkS 37 [(0,XC k C m u),(2,.fn (.func fn) [] []),(7,.own 0 0),(8,iA cnt),(9,iA so),(18,Ro k C),(19,iA (k:Nat)),(20,iA i)] [.c (wC x)]
def Dt:List Nat:=[0,2,7,8,9,18,19,20]
noncomputable def cgT(k:Nat)(C:Nat->fZ)(x so i s:Int)(fn:Nat)(a b z:Option Out):Option Out:=cond (decide (i<(k:Int))) (cond (iP i k||false) (gate (aj bO fn [fD (C i.toNat),wA x] (iA s)) (cond (s==aH (0 - so)) a b)) none) z
section
variable(k:Nat)(C:Nat->fZ)(m:Nat)(u:Nat->Int)(x cnt so i s oL:Int)
theorem alr:jR bO [] [kS bO 321 (λ _=>iA s)] bC (av aJs 0) (LD 321 k C m u x cnt so i) (gu Dt [some 0])=cgT k C x so i s 321 (some ⟨.normal,LD 321 k C m u x (aH (cnt+1)) s (aH (i+1)),.any⟩) (some ⟨.normal,LD 321 k C m u x cnt s (aH (i+1)),.any⟩) none:=by kernel_rfl
theorem aq5:jR bO [] [kS bO 321 (λ _=>iA s)] bC (av aJs 0) (LD 321 k C m u x cnt so i) (iG Dt [some 0])=cgT k C x so i s 321 none none (some ⟨.exit 0,LD 321 k C m u x cnt so i,.any⟩):=by kernel_rfl
theorem axQ:ev bO [] [kS bO 315 Yt] (eZ 4 (fF Dt [some 0] (LD 321 k C m u oL 0 0 0) (.exit 0) (LD 321 k C m u oL cnt so i))) aJs [XC k C m u,iA oL,.fn (.func 321) [] []] ret=gate (aj bO 315 [iA oL] (wA oL)) (gate (Sub (LD 321 k C m u oL 0 0 0) (LD 321 k C m u oL 0 0 0)) (some (Out.of (iA cnt)))):=by kernel_rfl
end
section
variable(k:Nat)(C:Nat->fZ)(m:Nat)(u:Nat->Int)(x cnt so i s oL:Int)
theorem als:jR bO [] [kS bO 310 (λ _=>iA s)] bC (av aJs 0) (LD 310 k C m u x cnt so i) (gu Dt [some 0])=cgT k C x so i s 310 (some ⟨.normal,LD 310 k C m u x (aH (cnt+1)) s (aH (i+1)),.any⟩) (some ⟨.normal,LD 310 k C m u x cnt s (aH (i+1)),.any⟩) none:=by kernel_rfl
theorem aq6:jR bO [] [kS bO 310 (λ _=>iA s)] bC (av aJs 0) (LD 310 k C m u x cnt so i) (iG Dt [some 0])=cgT k C x so i s 310 none none (some ⟨.exit 0,LD 310 k C m u x cnt so i,.any⟩):=by kernel_rfl
theorem axS:ev bO [] [kS bO 315 Yt] (eZ 4 (fF Dt [some 0] (LD 310 k C m u oL 0 0 0) (.exit 0) (LD 310 k C m u oL cnt so i))) aJs [XC k C m u,iA oL,.fn (.func 310) [] []] ret=gate (aj bO 315 [iA oL] (wA oL)) (gate (Sub (LD 310 k C m u oL 0 0 0) (LD 310 k C m u oL 0 0 0)) (some (Out.of (iA cnt)))):=by kernel_rfl
end
def prv(sg:Nat->Int):Nat->Int
 | 0=>0
 |j+1=>sg j
def Mf(sg:Nat->Int):Nat->Int
 | 0=>0
 |j+1=>Mf sg j+if sg j=-prv sg j then 1 else 0
theorem U9(sg:Nat->Int):∀j:Nat,0<=Mf sg j/\Mf sg j<=j
 | 0=>⟨af2 _,af2 _⟩
 |j+1=>by
  obtain⟨d,h2⟩:=U9 sg j;show 0<=Mf sg j+(if sg j=-prv sg j then 1 else 0)/\Mf sg j+(if sg j=-prv sg j then 1 else 0)<=((j+1:Nat):Int)
  split<;>constructor<;>omega
theorem RX{sg:Nat->Int}{k:Nat}(h:∀q,q<k->sg q=1\/sg q=-1):∀i,i<=k->prv sg i=0\/prv sg i=1\/prv sg i=-1
 | 0,_=>wV rfl
 |i+1,hi=>Gc (h i (by omega))
theorem alu{k:Nat}{C:Nat->fZ}{m:Nat}{u:Nat->Int}{oL:Int}{sg:Nat->Int}(hk:k<=1000)(ha:-9223372036854775808<=oL)(hb:oL<=9223372036854775807)(o:∀q,q<k->sg q=1\/sg q=-1)(hs:∀q,q<k->aj bO 321 [fD (C q),wA oL] (iA (sg q))):aj bO 309 [XC k C m u,iA oL,.fn (.func 321) [] []] (iA (Mf sg k)):=by
 have ks:∀s:Int,∀e,e∈[kS bO 321 (λ _=>iA s)]->sZ bO e:=λ _=>au aG ay
 have hl:bH bO (.loop (av aJs 0)) (LD 321 k C m u oL 0 0 0) (.exit 0) (LD 321 k C m u oL (Mf sg k) (prv sg k) (k:Nat)):=by
  refine aP (λ i=>LD 321 k C m u oL (Mf sg i) (prv sg i) (i:Nat)) k (.exit 0) _ (by simp) (λ i hi=>?_) ?_
  .have d:=alr k C m u oL (Mf sg i) (prv sg i) (i:Nat) (sg i)
   have hp:aH (0 - prv sg i)=-prv sg i:=by rcases RX o i (aHR hi)with e |e |e<;>rw[e]<;>rfl
   have hc:=U9 sg i;unfold cgT at d;rw[bI hi,bZ hi,pF,ak (hs i hi),hp,aQ (by omega),aO (n:=Mf sg i+1)]at d;show bH bO _ _ .normal (LD 321 k C m u oL (Mf sg i+if sg i=-prv sg i then 1 else 0) (sg i) ((i+1:Nat):Int))
   by_cases h:sg i=-prv sg i
   .rw[h,BEq.rfl,<-h]at d;rw[gH h];exact aK (bB _ _) aB (ks _) aC d
   .rw[mI h]at d;rw[fP h,aHV];exact aK (bB _ _) aB (ks _) aC d
  .refine aK (dB _ _) aB (ks 0) aC ((aq5 k C m u oL (Mf sg k) (prv sg k) (k:Nat) 0).trans ?_);unfold cgT;rw[bJ,eU]
 refine aR aB (au aG ay) aN6 (gq (i:=4) 0 1 (aS (keep:=Dt) (τ:=[some 0]) hl)) ((axQ k C m u _ _ _ oL).trans ?_);rw[ak (qQ ha hb),ak (Sub.refl _)]
theorem alv{k:Nat}{C:Nat->fZ}{m:Nat}{u:Nat->Int}{oL:Int}{sg:Nat->Int}(hk:k<=1000)(ha:-9223372036854775808<=oL)(hb:oL<=9223372036854775807)(o:∀q,q<k->sg q=1\/sg q=-1)(hs:∀q,q<k->aj bO 310 [fD (C q),wA oL] (iA (sg q))):aj bO 309 [XC k C m u,iA oL,.fn (.func 310) [] []] (iA (Mf sg k)):=by
 have ks:∀s:Int,∀e,e∈[kS bO 310 (λ _=>iA s)]->sZ bO e:=λ _=>au aG ay
 have hl:bH bO (.loop (av aJs 0)) (LD 310 k C m u oL 0 0 0) (.exit 0) (LD 310 k C m u oL (Mf sg k) (prv sg k) (k:Nat)):=by
  refine aP (λ i=>LD 310 k C m u oL (Mf sg i) (prv sg i) (i:Nat)) k (.exit 0) _ (by simp) (λ i hi=>?_) ?_
  .have d:=als k C m u oL (Mf sg i) (prv sg i) (i:Nat) (sg i)
   have hp:aH (0 - prv sg i)=-prv sg i:=by rcases RX o i (aHR hi)with e |e |e<;>rw[e]<;>rfl
   have hc:=U9 sg i;unfold cgT at d;rw[bI hi,bZ hi,pF,ak (hs i hi),hp,aQ (by omega),aO (n:=Mf sg i+1)]at d;show bH bO _ _ .normal (LD 310 k C m u oL (Mf sg i+if sg i=-prv sg i then 1 else 0) (sg i) ((i+1:Nat):Int))
   by_cases h:sg i=-prv sg i
   .rw[h,BEq.rfl,<-h]at d;rw[gH h];exact aK (bB _ _) aB (ks _) aC d
   .rw[mI h]at d;rw[fP h,aHV];exact aK (bB _ _) aB (ks _) aC d
  .refine aK (dB _ _) aB (ks 0) aC ((aq6 k C m u oL (Mf sg k) (prv sg k) (k:Nat) 0).trans ?_);unfold cgT;rw[bJ,eU]
 refine aR aB (au aG ay) aN6 (gq (i:=4) 0 1 (aS (keep:=Dt) (τ:=[some 0]) hl)) ((axS k C m u _ _ _ oL).trans ?_);rw[ak (qQ ha hb),ak (Sub.refl _)]
def iw(a b s:Int):AV:=.agg [iA a,iA b,iA s]
section
variable(k:Nat)(C:Nat->fZ)(m:Nat)(u:Nat->Int)(oL c s:Int)
theorem axU:ev bO [] [kS bO 315 Yt,kS bO 321 (λ _=>iA s),kS bO 309 (λ _=>iA c)] bC Tryz.f307 [XC k C m u,iA oL] ret =
  gate (aj bO 309 [XC k C m u,iA oL,.fn (.func 321) [] []] (iA c)) (gate (aj bO 315 [iA oL] (wA oL)) (gate (aj bO 321 [fD (C 0),wA oL] (iA s)) (cond ((iP 0 k||false)&&true) (some (Out.of (iw oL c s))) none))):=by kernel_rfl
end
def siS(k:Nat)(C:Nat->fZ)(m:Nat)(u:Nat->Int)(la lb ls ha hb hs a b:Int):St:=mkS 39 [(0,XC k C m u),(4,.own 0 0),(5,.own 1 0),(7,iA a),(8,iA b)] [.c [iA la,iA lb,iA ls],.c [iA ha,iA hb,iA hs]]
def Va:List Nat:=[0,4,5,7,8]
section
variable(k:Nat)(C:Nat->fZ)(m:Nat)(u:Nat->Int)(la lb ls ha hb hs a b s:Int)
def siM:Int:=aH (a+aH ((aH (b - a)).tdiv 2))
noncomputable def siT(x y z:Option Out):Option Out:=cond (decide (aH (b - a)>1)) (gate (aj bO 315 [iA (siM a b)] (wA (siM a b))) (gate (aj bO 321 [fD (C 0),wA (siM a b)] (iA s)) (cond ((iP 0 k||false)&&true) (cond (s==ls) x y) none))) z
theorem aq7:jR bO [] [kS bO 315 Yt,kS bO 321 (λ _=>iA s)] bC (av aLP 0) (siS k C m u la lb ls ha hb hs a b) (gu Va [some 0,some 1])=siT k C ls a b s (some ⟨.normal,siS k C m u la lb ls ha hb hs (siM a b) b,.any⟩) (some ⟨.normal,siS k C m u la lb ls ha hb hs a (siM a b),.any⟩) none:=by kernel_rfl
theorem axV:jR bO [] [kS bO 315 Yt,kS bO 321 (λ _=>iA s)] bC (av aLP 0) (siS k C m u la lb ls ha hb hs a b) (iG Va [some 0,some 1])=siT k C ls a b s none none (some ⟨.exit 0,siS k C m u la lb ls ha hb hs a b,.any⟩):=by kernel_rfl
theorem aCG(d e:Int):ev bO [] [] (eZ 2 (fF Va [some 0,some 1] (siS k C m u la lb ls ha hb hs la ha) (.exit 0) (siS k C m u la lb ls ha hb hs d e))) aLP [XC k C m u,iw la lb ls,iw ha hb hs] ret=gate (Sub (siS k C m u la lb ls ha hb hs la ha) (siS k C m u la lb ls ha hb hs la ha)) (some (Out.of (iA d))):=by kernel_rfl
end
end Go.Proofs.YtdlhemnconimnaaGreat
namespace Go.Gv
open Go.RowKit Go.Ev
noncomputable section
theorem Rq{l:List Nat}{k:Nat}(h:rU l k=none):k ∉ l:=λ hk=>by unfold rU at h;rw[List.findIdx?_eq_none_iff]at h;have:=h k hk;simp at this
def Ng(l:List Nat)(n:Nat)(i:Nat):Option Nat:=match l[i]? with
 |some k=>some k
 |none=>some (n+(i - l.length))
structure aFw(l:List Nat)(mem mem1 mem':List Row):Prop where
 other:∀k,k ∉ l->k<mem.length->mem'[k]?=mem[k]?
 mine:∀(i k:Nat) (r:Row),l[i]?=some k->mem1[i]?=some r->mem'[k]?=some (wE (Ng l mem.length) r)
 fresh:∀(i:Nat) (r:Row),l.length<=i->mem1[i]?=some r->mem'[mem.length+(i - l.length)]?=some (wE (Ng l mem.length) r)
theorem TJ{P:Program}{f:Nat}{args ajY:List AV}{mem Gl mem1 mem':List Row}{v:AV}(h:dJ P f ajY Gl v mem1)(l:List Nat)(hl:l.length=Gl.length)(hnd:nodupB l=true)
  (hargs:ajY=jo (rU l) args) (hmem:∀(i k:Nat),l[i]?=some k->∃row,mem[k]?=some row/\row.live=true/\Gl[i]?=some (wE (rU l) row)) (hF:aFw l mem mem1 mem'):rW P f args mem (kG (Ng l mem.length) v) mem':=by
 refine⟨h.1,λ A0 R w0 E bG H hgl hr=>?_⟩
 have dom:∀k p,E.O k=some p->k<mem.length:=λ k p hp=>by obtain⟨row,F,_⟩:=H.rows k p.1 p.2 hp;exact(abK.1 F).1
 have lives:∀k,k∈l->aN mem k=true:=λ k hk=>by obtain⟨i,hi⟩:=aG7.1 hk;obtain⟨row,g1,g2,_⟩:=hmem i k hi;unfold aN;rw[g1];exact g2
 let O1:Nat->Option (Nat × Nat × Nat):=λ i=>(l[i]?).bind E.O;let E1:Env:={ E with O:=O1 }
 have hO1:∀i b c,E1.O i=some (b,c)->∃k,l[i]?=some k/\E.O k=some (b,c):=λ i b c hi=>by
  have hi:(l[i]?).bind E.O=some (b,c):=hi;cases J:l[i]? with
  |none=>rw[J]at hi;cases hi
  |some k=>rw[J]at hi;exact⟨k,rfl,hi⟩
 have Oa:∀(i k:Nat) (p:Nat × Nat × Nat),l[i]?=some k->E.O k=some p->O1 i=some p:=λ i k p hi hp=>by show(l[i]?).bind E.O=some p;rw[hi];exact hp
 have hσ:∀k i p,rU l k=some i->E.O k=some p->O1 i=some p:=λ k i p hi hp=>Oa i k p (sF hi) hp;let R1:Nat->Prop:=λ b=>∃k c,k∈l/\E.O k=some (b,c)
 have hW1:Wd E.A R1 E1 E1 Gl:=by
  refine⟨λ i b c hi=>?_,H.small,λ _ h=>h,λ i b c hi _=>?_,λ i j b c X hi hj _ _=>?_,qz.refl _ _,Env.le.refl _⟩
  .obtain⟨k,F,h2⟩:=hO1 i b c hi;obtain⟨row,g1,_,g2⟩:=hmem i k F;obtain⟨row',g3,g4⟩:=H.rows k b c h2;rw[g1]at g3;cases g3;exact⟨_,g2,Ob hσ g4⟩
  .obtain⟨k,F,h2⟩:=hO1 i b c hi;have hm:=ajw F;exact⟨(H.own k b c h2 (lives k hm)).1,wV ⟨k,c,hm,h2⟩⟩
  .obtain⟨k,F,h2⟩:=hO1 i b c hi;obtain⟨o,G,h4⟩:=hO1 j b X hj;have:=H.one k o b c X h2 h4 (lives k (ajw F)) (lives o (ajw G));subst this;exact qB hnd i j k F G
 have XG:Ib Gl.length E1.A R1 E1:=by
  refine⟨λ i hi=>?_,λ b hb=>?_,H.small⟩
  .show(l[i]?).bind E.O=none;rw[apa (by omega)];rfl
  .obtain⟨k,c,hk,hO⟩:=hb;obtain⟨i,hi⟩:=aG7.1 hk;exact⟨i,c,by have:=(abK.1 hi).1;omega,Oa i k _ hi hO⟩
 have hr1:dW E1 ajY bG.toList:=by rw[hargs];exact oU args hσ _ hr
 refine(h.2 R1 E1 bG XG hW1 (Db hgl _) hr1).mono ?_;rintro e w' ⟨u,Z,rfl,rfl,d,hrel⟩
 have aB4:∀i p,Z.O i=some p->∃r,mem1[i]?=some r:=λ i p hp=>by obtain⟨row,F,_⟩:=d.rows i p.1 p.2 hp;exact⟨row,F⟩
 let O2:Nat->Option (Nat × Nat × Nat):=λ k=>match rU l k with
  |some i=>Z.O i
  |none=>if k<mem.length then E.O k else Z.O (l.length+(k - mem.length))
 let E2:Env:={ Z with O:=O2 }
 have aFx:∀(i k:Nat),l[i]?=some k->rU l k=some i:=λ i k hi=>by
  cases J:rU l k with
  |none=>exact absurd (ajw hi) (Rq J)
  |some j=>rw[qB hnd i j k hi (sF J)]
 have hO2:∀k p,E.O k=some p->E2.O k=some p:=λ k p hp=>by
  show(match rU l k with
   |some i=>Z.O i
   |none=>if k<mem.length then E.O k else Z.O (l.length+(k - mem.length)))=some p
  cases J:rU l k with
  |none=>rw[gH (dom k p hp)];exact hp
  |some i=>exact d.zA.own i p (Oa i k p (sF J) hp)
 have AZ:∀k p,E2.O k=some p->(k ∉ l/\k<mem.length/\E.O k=some p)\/∃i r,Z.O i=some p/\mem1[i]?=some r/\mem'[k]?=some (wE (Ng l mem.length) r)/\Ng l mem.length i=some k:=λ k p hp=>by
  have hp:(match rU l k with
   |some i=>Z.O i
   |none=>if k<mem.length then E.O k else Z.O (l.length+(k - mem.length)))=some p:=hp
  cases J:rU l k with
  |some i =>
   rw[J]at hp;obtain⟨r,hr⟩:=aB4 i p hp;have hi:=sF J;exact Gc ⟨i,r,hp,hr,hF.mine i k r hi hr,by unfold Ng;rw[hi]⟩
  |none =>
   rw[J]at hp;by_cases hk:k<mem.length
   .simp only[gH hk]at hp;exact wV ⟨Rq J,hk,hp⟩
   .simp only[fP hk]at hp;obtain⟨r,hr⟩:=aB4 _ p hp;have e:mem.length+(l.length+(k - mem.length) - l.length)=k:=by omega
    have:=hF.fresh _ r (Nat.le_add_right _ _) hr;rw[e]at this;exact Gc ⟨_,r,hp,hr,this,by unfold Ng;rw[apa (by omega)];simp only;rw[e]⟩
 have hback:∀i o p,Ng l mem.length i=some o->Z.O i=some p->O2 o=some p:=λ i o p hi hp=>by
  unfold Ng at hi;cases J:l[i]? with
  |some k =>
   rw[J]at hi;simp only[gU]at hi;subst hi
   show(match rU l k with
    |some i=>Z.O i
    |none=>if k<mem.length then E.O k else Z.O (l.length+(k - mem.length)))=some p
   rw[aFx i k J];exact hp
  |none =>
   rw[J]at hi;simp only[gU]at hi;have hil:=List.getElem?_eq_none_iff.1 J
   have hk:rU l o=none:=by
    cases hy:rU l o with
    |none=>rfl
    |some j =>
     obtain⟨row,g1,_⟩:=hmem j o (sF hy);have:=(abK.1 g1).1;omega
   show(match rU l o with
    |some i=>Z.O i
    |none=>if o<mem.length then E.O o else Z.O (l.length+(o - mem.length)))=some p
   rw[hk];simp only;rw[fP (by omega),show l.length+(o - mem.length)=i by omega];exact hp
 have hle:E.le E2:=⟨d.zA.keep,hO2⟩
 have ajZ:∀(i k:Nat) (r:Row),mem1[i]?=some r->mem'[k]?=some (wE (Ng l mem.length) r)->aN mem' k=true->aN mem1 i=true:=λ i k r F h2 G=>by unfold aN at G ⊢;rw[h2]at G;rw[F];simp only[XH]at G;exact G
 have aj0:∀k,k ∉ l->k<mem.length->aN mem' k=true->aN mem k=true:=λ k F h2 G=>by unfold aN at G ⊢;rw[hF.other k F h2]at G;exact G
 have cross:∀(k i:Nat) (b:Nat) (c X:Nat × Nat),k ∉ l->E.O k=some (b,c)->aN mem k=true->Z.O i=some (b,X)->aN mem1 i=true->False:=λ k i b c X hk hb hlk ho hl1=>by
  rcases(d.own i b X ho hl1).2 with⟨o,c2,W,U⟩ |g2
  .have:=H.one k o b c c2 hb U hlk (lives o W);subst this;exact hk W
  .have:=H.small b (H.own k b c hb hlk).1;have g2:E.w.heap.size<=b:=g2;omega
 refine⟨u,E2,rfl,rfl,hle,⟨?_,d.small,λ b hb=>d.old b (H.old b hb),?_,?_,?_,H.zA.trans hle⟩,rF v hback u hrel⟩
 .intro k b c hb;rcases AZ k _ hb with⟨F,h2,G⟩ | ⟨i,r,F,h2,G,_⟩
  .obtain⟨row,g3,g4⟩:=H.rows k b c G;refine⟨row,by rw[hF.other k F h2];exact g3,iT hle g4 λ I=>?_⟩;have hlk:aN mem k=true:=by unfold aN;rw[g3];exact I
   refine d.below.block b (H.small b (H.own k b c G hlk).1) ?_;rintro⟨o,X,W,U⟩;have:=H.one k o b c X G U hlk (lives o W);subst this;exact F W
  .obtain⟨row',g3,g4⟩:=d.rows i b c F
   have:row'=r:=by have g3:mem1[i]?=some row':=g3;rw[h2]at g3;cases g3;rfl
   subst this;exact⟨_,G,Ob hback g4⟩
 .intro k b c hb I;rcases AZ k _ hb with⟨F,h2,G⟩ | ⟨i,r,F,h2,G,_⟩
  .obtain⟨g1,g2⟩:=H.own k b c G (aj0 k F h2 I);exact⟨d.old b g1,g2⟩
  .obtain⟨g1,g2⟩:=d.own i b c F (ajZ i k r h2 G I);refine⟨g1,?_⟩;rcases g2 with⟨o,X,W,U⟩ |g2
   .exact(H.own o b X U (lives o W)).2
   .exact Gc (aa2 H.below.size g2)
 .intro k o b c X hb U I zO;rcases AZ k _ hb with⟨F,h2,G⟩ | ⟨i,r,F,h2,G,h4⟩
  .rcases AZ o _ U with⟨g1,g2,g3⟩ | ⟨i',r',g1,g2,g3,_⟩
   .exact H.one k o b c X G g3 (aj0 k F h2 I) (aj0 o g1 g2 zO)
   .exact(cross k i' b c X F G (aj0 k F h2 I) g1 (ajZ i' o r' g2 g3 zO)).elim
  .rcases AZ o _ U with⟨g1,g2,g3⟩ | ⟨i',r',g1,g2,g3,g4⟩
   .exact(cross o i b X c g1 g3 (aj0 o g1 g2 zO) F (ajZ i k r h2 G I)).elim
   .have:=d.one i i' b c X F g1 (ajZ i k r h2 G I) (ajZ i' o r' g2 g3 zO);subst this;rw[h4]at g4;cases g4;rfl
 .refine⟨d.below.os.trans H.below.os,d.below.tape.trans H.below.tape,d.below.output.trans H.below.output,aa2 H.below.size d.below.size,λ b hb hn=>?_⟩;refine(d.below.block b (anS hb H.below.size) ?_).trans (H.below.block b hb hn);rintro⟨k,c,hk,hk2⟩;rcases(H.own k b c hk2 (lives k hk)).2 with h |h
  .exact hn h
  .omega
end
noncomputable section
def wQ(P:Program)(f:Nat)(g:List AV->List Row->AV)(m:List AV->List Row->List Row):iM:=⟨f,λ d mem=>some (jv (rW P f d mem (g d mem) (m d mem)),g d mem,m d mem)⟩
theorem pq{P:Program}{f:Nat}{g:List AV->List Row->AV}{m:List AV->List Row->List Row}:H6 P (wQ P f g m):=λ d mem v e h=>by have h:some (jv (rW P f d mem (g d mem) (m d mem)),g d mem,m d mem)=some (true,v,e):=h;simp only[gU,Prod.mk.injEq]at h;obtain⟨o,rfl,rfl⟩:=h;exact qU o
def rS2(P:Program)(f:Nat)(g:List AV->AV):jK:=⟨f,λ e d=>match e with
 |.own k 0::rest=>match d k with
  |some (.c [x,y])=>match Rw d y with
   |some (b,y',rd)=>cond (iq x&&cK rest) (some (jv (vV P f (.ref [x,y'] 0::rest) (g (.ref [x,y'] 0::rest))/\iq (g (.ref [x,y'] 0::rest))=true)&&b,g (.ref [x,y'] 0::rest),k::rd)) none
   |none=>none
  |_=>none
 |_=>none⟩
theorem Ni{P:Program}{f:Nat}{g:List AV->AV}:E9 P (rS2 P f g):=by
 refine⟨λ I F FK b v rd h hl=>?_,λ I F v rd h=>?_⟩
 .simp only[rS2]at h ⊢;split at h
  .rename_i k d;split at h
   .rename_i x y hk;split at h
    .rename_i b' J X hx;cases hn:(iq x&&cK d)
     .rw[hn]at h;cases h
     .rw[hn]at h;have h':=h;simp only[aY,gU,Prod.mk.injEq]at h';obtain⟨_,_,rfl⟩:=h';rw[<-hl k (by simp),hk];simp only;rw[agW hx λ j hj=>hl j (by simp[hj])];simp only;rw[hn];exact h
    .cases h
   .cases h
  .cases h
 .simp only[rS2]at h;split at h
  .rename_i k d;split at h
   .rename_i x y hk;split at h
    .rename_i b' J X hx;cases hn:(iq x&&cK d)
     .rw[hn]at h;cases h
     .rw[hn]at h;simp only[aY,gU,Prod.mk.injEq,Bool.and_eq_true]at h hn;obtain⟨⟨h1,rfl⟩,rfl,rfl⟩:=h;obtain⟨hF,hno⟩:=qU h1;refine⟨hF.1,λ A0 R w0 E mem bG hW hl hg hr=>?_⟩;have hg':xk (Env.shut E):=Db (vo (E:=E) (E':=⟨E.w,λ _=>False,E.O⟩) ⟨λ _ _ _ o=>⟨id,o⟩,λ _ _ h=>h⟩ hg) _;obtain⟨u,us,e1,r1,r2⟩:=aD.1 hr;obtain⟨b,c,hO,rfl⟩:=mP.1 r1;obtain⟨row,g1,g2⟩:=hW.rows k b c hO;rw[hl k (by simp),hk]at g1;cases g1;obtain⟨cs,e,k1,k2⟩:=g2;obtain⟨W,us0,e3,p0,k2⟩:=bF.1 k2;obtain⟨u1,U,e4,p1,_⟩:=bF.1 k2;have G:∀b,¬E.A b->∀Z,E.w.heap[b]?=some Z->¬E.shut.A b/\E.shut.w.heap[b]?=some Z:=λ _ _ _ o=>⟨λ h=>h,o⟩;have q0:rel E.shut x W:=fG x G hn.1 W p0;have q1:=abe hW.rows hx (λ j hj=>hl j (by simp[hj])) p1
      have hr':dW E.shut (.ref [x,J] 0::d) bG.toList:=by rw[e1];refine aD.2 ⟨_,_,rfl,nR.2 ⟨b,0,cs,e,(0,0),rfl,λ h=>h,k1,?_⟩,GJ r2 hn.2 G⟩;rw[List.drop_zero,e3,e4];exact bF.2 ⟨W,_,rfl,q0,bF.2 ⟨u1,U,rfl,q1,pre_nil⟩⟩
      refine(hF.2 E.w bG hr' hg').mono ?_;rintro e' w' ⟨v',rfl,hv,H⟩;exact⟨v',rfl,fG (g (.ref [x,J] 0::d)) (E:=⟨w',λ b=>b<E.w.heap.size,λ _=>none⟩) (E':={ E with w:=w' }) (λ b hnb Z o=>⟨λ hA=>hnb (hW.small b hA),o⟩) hno v' hv,H⟩
    .cases h
   .cases h
  .cases h
theorem aaB{P:Program}{f:Nat}{args:List AV}{mem:List Row}{v X:AV}{T:TypeId}{sz m:Nat}{u:Nat->List AV}(hlen:mem.length=2)(h:dJ P f args mem v [.c [X,.bQ 1 sz 0 m],.a T sz m u]):dJ P f args mem v [.c [X,.bQ 2 sz 0 m],.dead,.a T sz m u]:=by
 refine⟨h.1,λ R E bG hp hW hg hr=>(h.2 R E bG hp hW hg hr).mono ?_⟩;rintro e w' ⟨x,G,rfl,rfl,d,hx⟩;have h2:E.O 2=none:=hp.1 2 (by omega)
 have dom:∀k p,G.O k=some p->k=0\/k=1:=λ k p hk=>by obtain⟨row,o,_⟩:=d.rows k p.1 p.2 hk;have:=(abK.1 o).1;simp only[aBz,aKc]at this;omega
 let O2:Nat->Option (Nat × Nat × Nat):=λ k=>if k=2 then G.O 1 else G.O k
 let E2:Env:={ G with O:=O2 }
 have I:G.le E2:=⟨λ b hb ob yS=>⟨hb,yS⟩,λ k p hk=>by
  have hne:k≠2:=by rcases dom k p hk with h |h<;>omega
  show(if k=2 then G.O 1 else G.O k)=some p
  rw[fP hne];exact hk⟩
 have U:∀k p,E2.O k=some p->(k=0/\G.O 0=some p)\/(k=1/\G.O 1=some p)\/(k=2/\G.O 1=some p):=λ k p hk=>by
  have hk:(if k=2 then G.O 1 else G.O k)=some p:=hk
  by_cases h:k=2
  .rw[gH h]at hk;exact Gc (Gc ⟨h,hk⟩)
  .rw[fP h]at hk;rcases dom k p hk with rfl |rfl
   .exact wV ⟨rfl,hk⟩
   .exact Gc (wV ⟨rfl,hk⟩)
 refine⟨x,E2,rfl,rfl,⟨?_,d.small,d.old,?_,?_,d.below,d.zA.trans I⟩,lS I hx⟩
 .intro k b c hb;rcases U k _ hb with⟨rfl,o⟩ | ⟨rfl,o⟩ | ⟨rfl,o⟩
  .obtain⟨row,g1,g2⟩:=d.rows 0 b c o;cases g1;obtain⟨cs,e,k1,k2⟩:=g2;obtain⟨u0,us0,e3,p0,k2⟩:=bF.1 k2;obtain⟨u1,Z,e4,p1,k3⟩:=bF.1 k2;refine⟨_,rfl,cs,e,k1,?_⟩;rw[e3,e4];refine bF.2 ⟨u0,_,rfl,lS I p0,bF.2 ⟨u1,Z,rfl,?_,pre_nil⟩⟩;rcases dV.1 p1 with g | ⟨b',W,n',g1,g2⟩
   .exact dV.2 (wV g)
   .exact dV.2 (Gc ⟨b',W,n',by show(if 2=2 then G.O 1 else G.O 2)=_;rw[gH rfl];exact g1,g2⟩)
  .exact⟨.dead,rfl,trivial⟩
  .obtain⟨row,g1,g2⟩:=d.rows 1 b c o;cases g1;exact⟨_,rfl,g2⟩
 .intro k b c hb H;rcases U k _ hb with⟨rfl,o⟩ | ⟨rfl,o⟩ | ⟨rfl,o⟩
  .exact d.own 0 b c o rfl
  .cases H
  .exact d.own 1 b c o rfl
 .intro k k' b c W hb J H zO;rcases U k _ hb with⟨rfl,o⟩ | ⟨rfl,o⟩ | ⟨rfl,o⟩
  .rcases U k' _ J with⟨rfl,F⟩ | ⟨rfl,F⟩ | ⟨rfl,F⟩
   .rfl
   .cases zO
   .have:=d.one 0 1 b c W o F rfl rfl;cases this
  .cases H
  .rcases U k' _ J with⟨rfl,F⟩ | ⟨rfl,F⟩ | ⟨rfl,F⟩
   .have:=d.one 1 0 b c W o F rfl rfl;cases this
   .cases zO
   .rfl
end
end Go.Gv
namespace Go.Proofs.YtdlhemnconimnaaGreat
open Go.Gv
def skM(k:Nat)(C:Nat->fZ)(m:Nat)(u:Nat->Int):List Row:=[.c [Ro k C,.bQ 1 1 0 m],.a 3 1 m λ q=>[iA (u q)]]
def skR(k:Nat)(C:Nat->fZ)(m:Nat)(el:Nat->List AV):List Row:=[.c [Ro k C,.bQ 2 1 0 m],.dead,.a 3 1 m el]
section
variable(k:Nat)(C:Nat->fZ)(m:Nat)(u:Nat->Int)(la lb ls ha hb hs:Int)
def Nh:List AV:=[.own 0 0,iw la lb ls,iw ha hb hs]
def TN:Bool:=cond (aH (lb - hb)==1) (!(ls==hs)) false
def skT(a b c d:Option Out):Option Out:=cond (aH (lb - hb)==0) a (cond (aH (ha - la)==1) b (cond (TN lb ls hb hs) c d))
theorem avE:Gj bO [] [] [] [] [] (eZ 5 λ _ _=>none) aJt (Nh la lb ls ha hb hs) (skM k C m u) [some 0,some 1]=skT la lb ls ha hb hs (nU (.bK []) (skM k C m u)) none none none:=by kernel_rfl
abbrev aBv(r:Int):Prop:=vV bO 322 [XC k C m u,iw la lb ls,iw ha hb hs] (iA r)/\iq (iA r)=true
noncomputable def aBw(r:Int):Bool:=((jv (aBv k C m u la lb ls ha hb hs r)&&(amH 1 1&&apB m m))||false)&&((apI m 8||false)&&true)
theorem avG(r:Int):Gj bO [] [] [] [] [rS2 bO 322 (λ _=>iA r)] (eZ 5 λ _ _=>none) aJt (Nh la lb ls ha hb hs) (skM k C m u) [some 0,some 1,some 5]=skT la lb ls ha hb hs none none (cond (aBw k C m u la lb ls ha hb hs r) (nU (.bK []) (skR k C (m+1) λ q=>bM (Tv q m) [iA (u q)] [iA r])) none) none:=by kernel_rfl
def CR:Int:=aH (la+aH ((aH (ha - la)).tdiv 2))
def aa1(X:AV)(F:AV)(d:Row)(mb ms:Int)(rs:List Row):List Row:=[.c [X,F],d,.c [iA la,iA lb,iA ls],.c [iA ha,iA hb,iA hs],.c [iA (CR la ha),iA mb,iA ms]]++rs
abbrev avH(mb ms:Int):Prop:=vV bO 307 [XC k C m u,iA (CR la ha)] (iw (CR la ha) mb ms)/\iq (iw (CR la ha) mb ms)=true
variable(mb ms:Int)(m1:Nat)(u1:Nat->Int)(m2:Nat)(u2:Nat->Int)
def aFu:List Row:=aa1 la lb ls ha hb hs (Ro k C) (.bQ 1 1 0 m) (.a 3 1 m λ q=>[iA (u q)]) mb ms []
def awu:List Row:=aa1 la lb ls ha hb hs (Ro k C) (.bQ 5 1 0 m1) .dead mb ms [.a 3 1 m1 λ q=>[iA (u1 q)]]
def aBZ:List Row:=aa1 la lb ls ha hb hs (Ro k C) (.bQ 6 1 0 m2) .dead mb ms [.dead,.a 3 1 m2 λ q=>[iA (u2 q)]]
abbrev SK1:Prop:=rW bO 308 [.own 0 0,iw la lb ls,iw (CR la ha) mb ms] (aFu k C m u la lb ls ha hb hs mb ms) (.bK []) (awu k C la lb ls ha hb hs mb ms m1 u1)
abbrev SK2:Prop:=rW bO 308 [.own 0 0,iw (CR la ha) mb ms,iw ha hb hs] (awu k C la lb ls ha hb hs mb ms m1 u1) (.bK []) (aBZ k C la lb ls ha hb hs mb ms m2 u2)
def aFv(mem:List Row):List Row:=cond (amH mem.length 5) (awu k C la lb ls ha hb hs mb ms m1 u1) (aBZ k C la lb ls ha hb hs mb ms m2 u2)
noncomputable def skD:Option Out:=cond ((jv (avH k C m u la ha mb ms)&&(amH 1 1&&apB m m))||false) (cond (jv (SK1 k C m u la lb ls ha hb hs mb ms m1 u1)) (cond (jv (SK2 k C la lb ls ha hb hs mb ms m1 u1 m2 u2)) (nU (.bK []) (skR k C m2 λ q=>[iA (u2 q)])) none) none) none
theorem avI:Gj bO [] [] [] [wQ bO 308 (λ _ _=>.bK []) (λ _ mem=>aFv k C la lb ls ha hb hs mb ms m1 u1 m2 u2 mem)] [rS2 bO 307 (λ _=>iw (CR la ha) mb ms)] (eZ 5 λ _ _=>none) aJt (Nh la lb ls ha hb hs) (skM k C m u) [some 0,some 1,some 6]=skT la lb ls ha hb hs none none none (skD k C m u la lb ls ha hb hs mb ms m1 u1 m2 u2):=by kernel_rfl
end
section
variable(k:Nat)(C:Nat->fZ)(m:Nat)(u:Nat->Int)(la lb ls ha hb hs i n:Int)
def sp0:St:=mkS 77 [(0,.own 0 0),(4,.own 2 0),(5,.own 3 0),(21,iA n),(22,iA i)] [.c [Ro k C,.bQ 1 1 0 m],.a 3 1 m λ q=>[iA (u q)],.c [iA la,iA lb,iA ls],.c [iA ha,iA hb,iA hs]]
def sp1(el:Nat->List AV):St:=mkS 77 [(0,.own 0 0),(4,.own 2 0),(5,.own 3 0),(21,iA n),(22,iA i)] [.c [Ro k C,.bQ 4 1 0 m],.dead,.c [iA la,iA lb,iA ls],.c [iA ha,iA hb,iA hs],.a 3 1 m el]
def zC:List Nat:=[0,4,5,21,22]
def spB:Bool:=(apI m 8||false)&&true
theorem aiY:qO bO [] [] [] bC (av aJt 0) (sp0 k C m u la lb ls ha hb hs i n) (gu zC [some 0,some 1,some 2,some 3,some 5])=cond (decide (i<n)) (cond (spB m) (some ⟨.normal,sp1 k C (m+1) la lb ls ha hb hs (aH (i+1)) n λ q=>bM (Tv q m) [iA (u q)] [iA la],.any⟩) none) none:=by kernel_rfl
theorem aiZ:qO bO [] [] [] bC (av aJt 0) (sp1 k C m la lb ls ha hb hs i n λ q=>[iA (u q)]) (gu zC [some 0,some 1,some 2,some 3,some 6])=cond (decide (i<n)) (cond (spB m) (some ⟨.normal,sp1 k C (m+1) la lb ls ha hb hs (aH (i+1)) n λ q=>bM (Tv q m) [iA (u q)] [iA la],.any⟩) none) none:=by kernel_rfl
theorem apq:qO bO [] [] [] bC (av aJt 0) (sp1 k C m la lb ls ha hb hs i n λ q=>[iA (u q)]) (iG zC [some 0,some 1,some 2,some 3,some 4])=cond (decide (i<n)) (cond (spB m) none none) (some ⟨.exit 0,sp1 k C m la lb ls ha hb hs i n λ q=>[iA (u q)],.any⟩):=by kernel_rfl
theorem avF(m1:Nat)(u1:Nat->Int)(n':Int):Gj bO [] [] [] [] [] (eZ 5 (jS 2 zC [some 0,some 1,some 2,some 3] (sp0 k C m u la lb ls ha hb hs 0 n) (.exit 0) (sp1 k C m1 la lb ls ha hb hs n' n λ q=>[iA (u1 q)]))) aJt (Nh la lb ls ha hb hs) (skM k C m u) [some 0,some 1,some 4]=skT la lb ls ha hb hs none (gate (fQ 2 (sp0 k C m u la lb ls ha hb hs 0 (aH (lb - hb))) (sp0 k C m u la lb ls ha hb hs 0 n)) (nU (.bK []) (skR k C m1 λ q=>[iA (u1 q)]))) none none:=by kernel_rfl
end
def wF(a b:Int):Int:=a+(b - a) / 2
theorem ai0{a b:Int}(h:a<b)(d:-2000000000000000<=a)(h2:b<=2000000000000000):CR a b=wF a b:=by unfold CR wF;rw[aO (n:=b - a),Int.tdiv_eq_ediv_of_nonneg (by omega),aO (n:=(b - a) / 2),aO]
theorem aA4{a b:Int}(h:a<b)(d:-2000000000000000<=a)(h2:b<=2000000000000000):siM a b=wF a b:=ai0 h d h2
def sgs(S:Int->Int)(s:Int)(p:Int × Int):Int × Int:=if S (wF p.1 p.2)=s then(wF p.1 p.2,p.2)else(p.1,wF p.1 p.2)
def QC(S:Int->Int)(s:Int):Nat->Int × Int->Int × Int
 | 0,p=>p
 |j+1,p=>QC S s j (sgs S s p)
theorem aal(S:Int->Int)(s:Int):∀j p,QC S s (j+1) p=sgs S s (QC S s j p)
 | 0,_=>rfl
 |j+1,p=>aal S s j (sgs S s p)
def xV(S:Int->Int)(s:Int):Nat->Int × Int->Nat
 | 0,_=>0
 |k+1,p=>if p.2 - p.1>1 then xV S s k (sgs S s p)+1 else 0
theorem aA5{S:Int->Int}{s:Int}{p:Int × Int}(h:p.2 - p.1>1):p.1<=(sgs S s p).1/\(sgs S s p).2<=p.2/\(sgs S s p).1<(sgs S s p).2/\(sgs S s p).2 - (sgs S s p).1<p.2 - p.1:=by
 unfold sgs wF;split
 .refine⟨?_,af2 _,?_,?_⟩
  .show p.1<=p.1+(p.2 - p.1) / 2;omega
  .show p.1+(p.2 - p.1) / 2<p.2;omega
  .show p.2 - (p.1+(p.2 - p.1) / 2)<p.2 - p.1;omega
 .refine⟨af2 _,?_,?_,?_⟩
  .show p.1+(p.2 - p.1) / 2<=p.2;omega
  .show p.1<p.1+(p.2 - p.1) / 2;omega
  .show p.1+(p.2 - p.1) / 2 - p.1<p.2 - p.1;omega
theorem aoR(S:Int->Int)(s:Int):∀(k:Nat) (p:Int × Int),p.1<p.2->(p.2 - p.1).toNat<=k->(∀j,j<xV S s k p->(QC S s j p).2 - (QC S s j p).1>1)/\¬(QC S s (xV S s k p) p).2 - (QC S s (xV S s k p) p).1>1/\∀j,j<=xV S s k p->p.1<=(QC S s j p).1/\(QC S s j p).2<=p.2/\(QC S s j p).1<(QC S s j p).2
 | 0,p,h,hk=>by omega
 |k+1,p,h,hk=>by
  unfold xV;by_cases hp:p.2 - p.1>1
  .rw[gH hp];obtain⟨E,o,e,J⟩:=aA5 (S:=S) (s:=s) hp;obtain⟨G,h2,F⟩:=aoR S s k (sgs S s p) e (by omega);refine⟨λ j d=>?_,h2,λ j d=>?_⟩
   .cases j with
    |zero=>exact hp
    |succ j=>exact G j (by omega)
   .cases j with
    |zero=>exact⟨af2 _,af2 _,h⟩
    |succ j =>
     obtain⟨a1,I,H⟩:=F j (by omega);exact⟨aHF E a1,aHF I o,H⟩
  .rw[fP hp]
   exact⟨λ j d=>by omega,hp,λ j d=>by
    have:j=0:=by omega
    subst this;exact⟨af2 _,af2 _,h⟩⟩
def sgl(S:Int->Int)(s a b:Int):Int:=(QC S s (xV S s (b - a).toNat (a,b)) (a,b)).1
structure apr(k:Nat)(C:Nat->fZ)(N S:Int->Int)(lo hi:Int):Prop where
 k0:0<k
 l:-2000000000000000<=lo
 h:hi<=2000000000000000
 sg:∀a,lo<=a->a<=hi->aj bO 321 [fD (C 0),wA a] (iA (S a))
 nn:∀a,lo<=a->a<=hi->0<=N a/\N a<=1000
 mono:∀a b,lo<=a->a<=b->b<=hi->N b<=N a
 ah:∀a,lo<=a->a<=hi->∀(m:Nat) (u:Nat->Int),aj bO 307 [XC k C m u,iA a] (iw a (N a) (S a))
theorem aps{k:Nat}{C:Nat->fZ}{N S:Int->Int}{lo hi:Int}(H:apr k C N S lo hi){a b:Int}(hab:a<b)(ha:lo<=a)(hb:b<=hi)(m:Nat)(u:Nat->Int)(lb ls d hs:Int):aj bO 322 [XC k C m u,iw a lb ls,iw b d hs] (iA (sgl S ls a b)):=by
 have ks:∀s:Int,∀e,e∈[kS bO 315 Yt,kS bO 321 (λ _=>iA s)]->sZ bO e:=λ _=>au aG (au aG ay);have hl:=H.l;have X:=H.h;obtain⟨W,h2,O⟩:=aoR S ls (b - a).toNat (a,b) hab (ND _)
 have lead:bH bO (.loop (av aLP 0)) (siS k C m u a lb ls b d hs a b) (.exit 0) (siS k C m u a lb ls b d hs (sgl S ls a b) (QC S ls (xV S ls (b - a).toNat (a,b)) (a,b)).2):=by
  refine aP (λ j=>siS k C m u a lb ls b d hs (QC S ls j (a,b)).1 (QC S ls j (a,b)).2) (xV S ls (b - a).toNat (a,b)) (.exit 0) _ (by simp) (λ j U=>?_) ?_
  .have G:=W j U;obtain⟨F,E,I⟩:=O j (by omega);have F:a<=(QC S ls j (a,b)).1:=F;have E:(QC S ls j (a,b)).2<=b:=E;show bH bO _ _ .normal (siS k C m u a lb ls b d hs (QC S ls (j+1) (a,b)).1 (QC S ls (j+1) (a,b)).2);rw[aal];generalize QC S ls j (a,b)=p at *;have em:=aA4 I (show -2000000000000000<=p.1 by omega) (show p.2<=2000000000000000 by omega);have J:p.1<=wF p.1 p.2/\wF p.1 p.2<=p.2:=by unfold wF;omega
   have o:=aq7 k C m u a lb ls b d hs p.1 p.2 (S (wF p.1 p.2));unfold siT at o;rw[em,aO (n:=p.2 - p.1),gG G,ak (qQ (x:=wF p.1 p.2) (by omega) (by omega)),ak (H.sg _ (by omega) (by omega)),show iP 0 k=true from bZ (i:=0) H.k0]at o;unfold sgs;by_cases hc:S (wF p.1 p.2)=ls
   .rw[gH hc];rw[hc,BEq.rfl]at o;exact aK (bB _ _) aB (ks _) aC o
   .rw[fP hc];rw[mI hc]at o;exact aK (bB _ _) aB (ks _) aC o
  .obtain⟨F,E,I⟩:=O _ (ND _);have F:a<=(QC S ls (xV S ls (b - a).toNat (a,b)) (a,b)).1:=F;have E:(QC S ls (xV S ls (b - a).toNat (a,b)) (a,b)).2<=b:=E;refine aK (dB _ _) aB (ks 0) aC ((axV k C m u a lb ls b d hs _ _ 0).trans ?_);unfold siT;rw[aO,iH h2];rfl
 refine aR aB ay Tryz.func322 (gq (i:=2) 0 1 (aS (keep:=Va) (τ:=[some 0,some 1]) lead)) ((aCG k C m u a lb ls b d hs _ _).trans ?_);rw[ak (Sub.refl _)]
def J5(N S:Int->Int):Nat->Int->Int->List Int
 | 0,_,_=>[]
 |d+1,a,b=>if N a=N b then []else if b - a=1 then aGe (N a - N b).toNat a else if N a - N b=1/\S a≠S b then [sgl S (S a) a b]else J5 N S d a (wF a b)++J5 N S d (wF a b) b
def Gm(m:Nat)(u:Nat->Int)(L:List Int)(q:Nat):Int:=if q<m then u q else L.getD (q - m) 0
theorem TM(m:Nat)(u:Nat->Int)(L d:List Int):Gm (m+L.length) (Gm m u L) d=Gm m u (L++d):=funext λ q=>by
 unfold Gm;by_cases h:q<m
 .rw[gH h,gH (show q<m+L.length by omega),gH h]
 .by_cases h2:q<m+L.length
  .rw[gH h2,fP h,fP h,Gd,Gd,List.getElem?_append_left (by omega)]
  .rw[fP h2,fP h,Gd,Gd,List.getElem?_append_right (by omega),show q - m - L.length=q - (m+L.length) by omega]
theorem Mq(m:Nat)(u:Nat->Int)(x:Int){q:Nat}(hq:q<m+1):bM (Tv q m) [iA (u q)] [iA x]=[iA (Gm m u [x] q)]:=by
 rw[af6];unfold Gm;cases d:Tv q m
 .have:=jM d;have e:q=m:=by omega
  subst e;rw[fP (Nat.lt_irrefl _),aIr];rfl
 .rw[gH (show q<m from Nat.le_of_ble_eq_true d)];rfl
theorem aiW(j:Nat)(a:Int):aGe (j+1) a=aGe j a++[a]:=List.replicate_succ'
theorem aud{m:Nat}(h:m<=1000000):spB m=true:=by unfold spB;rw[aiX (by omega)];rfl
def avB(k:Nat)(C:Nat->fZ)(m:Nat)(u:Nat->Int)(la lb ls ha hb hs n:Int):Nat->St
 | 0=>sp0 k C m u la lb ls ha hb hs 0 n
 |j+1=>sp1 k C (m+(j+1)) la lb ls ha hb hs ((j+1:Nat):Int) n λ q=>[iA (Gm m u (aGe (j+1) la) q)]
theorem WY(k:Nat)(C:Nat->fZ){m:Nat}(u:Nat->Int)(la lb ls ha hb hs:Int){r:Nat}(o:r<=1000)(hm:m<=100000):fM 2 bO (.loop (av aJt 0)) (sp0 k C m u la lb ls ha hb hs 0 ((r+1:Nat):Int)) (.exit 0) (sp1 k C (m+(r+1)) la lb ls ha hb hs ((r+1:Nat):Int) ((r+1:Nat):Int) λ q=>[iA (Gm m u (aGe (r+1) la) q)]):=by
 refine aP (avB k C m u la lb ls ha hb hs ((r+1:Nat):Int)) (r+1) (.exit 0) _ (by simp) (λ j E=>?_) ?_
 .cases j with
  |zero =>
   have d:=aiY k C m u la lb ls ha hb hs 0 ((r+1:Nat):Int);rw[gG (show(0:Int)<((r+1:Nat):Int) by omega),aud (by omega)]at d;refine(pU (fA _ (by rfl)) aB ay aV bN d).sub (fQ.refl _) ?_;refine ig ⟨wV rfl,wV rfl,wV rfl,wV rfl,Gc ⟨3,1,m+1,_,_,rfl,rfl,λ q hq=>?_⟩,trivial⟩;exact(Mq m u la hq).symm
  |succ j =>
   have d:=aiZ k C (m+(j+1)) (Gm m u (aGe (j+1) la)) la lb ls ha hb hs ((j+1:Nat):Int) ((r+1:Nat):Int);rw[bI (by omega),aud (by omega),aQ (by omega)]at d;refine(pU (fA _ (by rfl)) aB ay aV bN d).sub (fQ.refl _) ?_;refine ig ⟨wV rfl,wV rfl,wV rfl,wV rfl,Gc ⟨3,1,m+(j+1)+1,_,_,rfl,rfl,λ q hq=>?_⟩,trivial⟩;have e:=TM m u (aGe (j+1) la) [la];rw[aJU]at e;rw[Mq _ _ la hq,e,aiW (j+1)]
 .refine pU (fC _ (by rfl)) aB ay aV bN ((apq k C (m+(r+1)) (Gm m u (aGe (r+1) la)) la lb ls ha hb hs ((r+1:Nat):Int) ((r+1:Nat):Int)).trans ?_);rw[bJ,eU]
theorem Mr{N S:Int->Int}{lo hi:Int}(mono:∀a b,lo<=a->a<=b->b<=hi->N b<=N a):∀(d:Nat) (a b:Int),lo<=a->a<=b->b<=hi->((J5 N S d a b).length:Int)<=N a - N b
 | 0,a,b,h1,h2,h3=>by have:=mono a b h1 h2 h3;show(0:Int)<=_;omega
 |d+1,a,b,h1,h2,h3=>by
  have h:=mono a b h1 h2 h3;unfold J5;split
  .show(0:Int)<=_;omega
  .split
   .rw[aJU];omega
   .split
    .rename_i hs;show(1:Int)<=_;omega
    .have hm:a<=wF a b/\wF a b<=b:=by unfold wF;omega
     have e1:=Mr (S:=S) mono d a (wF a b) h1 hm.1 (by omega);have e2:=Mr (S:=S) mono d (wF a b) b (by omega) hm.2 h3;rw[aiR];omega
theorem J6{np:Nat}{P:Program}{c:Code}(i:Nat):nT np P (eZ i λ _ _=>none) c:=by
 intro G _ i' E _ hg;unfold eZ at hg;cases hb:amH i' i
 .rw[hb]at hg;cases hg
 .rw[hb]at hg;cases hg;constructor
  .intro s k r d;cases d
  .intro s o F hk;have:=hk λ e s=>some ⟨e,s,.any⟩;cases this
theorem len2{l:List Nat}{i k:Nat}{a b:Nat}(hl:l=[a,b])(h:l[i]?=some k):(i=0/\k=a)\/(i=1/\k=b):=by
 subst hl
 match i,h with
 | 0,h=>simp at h;exact wV ⟨rfl,h.symm⟩
 | 1,h=>simp at h;exact Gc ⟨rfl,h.symm⟩
 |n+2,h=>simp at h
section
variable{k:Nat}{C:Nat->fZ}{N S:Int->Int}{lo hi:Int}
abbrev J7(k:Nat)(C:Nat->fZ)(N S:Int->Int)(a b:Int)(m:Nat)(u:Nat->Int)(L:List Int):Prop:=dJ bO 308 (Nh a (N a) (S a) b (N b) (S b)) (skM k C m u) (.bK []) (skR k C (m+L.length) λ q=>[iA (Gm m u L q)])
theorem avC{la ha:Int}{a b:Int}{m:Nat}{u:Nat->Int}{L:List Int}{mb ms:Int}(hb hs:Int)(F:la=a)(E:CR la ha=b)(em:mb=N b)(o:ms=S b)(h:J7 k C N S a b m u L):SK1 k C m u la (N a) (S a) ha hb hs mb ms (m+L.length) (Gm m u L):=by
 subst F E em o;refine TJ h [0,1] rfl rfl rfl (λ i j hi=>?_) ⟨λ j e hl=>?_,λ i j r hi d=>?_,λ i r hi d=>?_⟩
 .rcases len2 rfl hi with⟨rfl,rfl⟩ | ⟨rfl,rfl⟩
  .exact⟨_,rfl,rfl,rfl⟩
  .exact⟨_,rfl,rfl,rfl⟩
 .match j,e,hl with
  | 0,e,_=>exact absurd (by simp) e
  | 1,e,_=>exact absurd (by simp) e
  | 2,_,_=>rfl
  | 3,_,_=>rfl
  | 4,_,_=>rfl
  |n+5,_,hl=>exact absurd hl (by show ¬n+5<5;omega)
 .rcases len2 rfl hi with⟨rfl,rfl⟩ | ⟨rfl,rfl⟩
  .cases d;rfl
  .cases d;rfl
 .match i,hi,d with
  | 0,hi,_=>exact absurd hi (by show ¬ 2<=0;omega)
  | 1,hi,_=>exact absurd hi (by show ¬ 2<=1;omega)
  | 2,_,d=>cases d;rfl
  |n+3,_,d=>cases d
theorem avD{la ha lb ls:Int}{a b:Int}{m:Nat}{u:Nat->Int}{L:List Int}{mb ms:Int}(F:CR la ha=a)(E:ha=b)(em:mb=N a)(o:ms=S a)(h:J7 k C N S a b m u L):SK2 k C la lb ls ha (N b) (S b) mb ms m u (m+L.length) (Gm m u L):=by
 subst F E em o;refine TJ h [0,5] rfl rfl rfl (λ i j hi=>?_) ⟨λ j e hl=>?_,λ i j r hi d=>?_,λ i r hi d=>?_⟩
 .rcases len2 rfl hi with⟨rfl,rfl⟩ | ⟨rfl,rfl⟩
  .exact⟨_,rfl,rfl,rfl⟩
  .exact⟨_,rfl,rfl,rfl⟩
 .match j,e,hl with
  | 0,e,_=>exact absurd (by simp) e
  | 1,_,_=>rfl
  | 2,_,_=>rfl
  | 3,_,_=>rfl
  | 4,_,_=>rfl
  | 5,e,_=>exact absurd (by simp) e
  |n+6,_,hl=>exact absurd hl (by show ¬n+6<6;omega)
 .rcases len2 rfl hi with⟨rfl,rfl⟩ | ⟨rfl,rfl⟩
  .cases d;rfl
  .cases d;rfl
 .match i,hi,d with
  | 0,hi,_=>exact absurd hi (by show ¬ 2<=0;omega)
  | 1,hi,_=>exact absurd hi (by show ¬ 2<=1;omega)
  | 2,_,d=>cases d;rfl
  |n+3,_,d=>cases d
theorem J8 (H:apr k C N S lo hi):∀(d:Nat) (a b:Int),lo<=a->a<=b->b<=hi->b - a<=d->∀(m:Nat) (u:Nat->Int),(m:Int)+(N a - N b)<=2000->J7 k C N S a b m u (J5 N S (d+1) a b)
  |d,a,b,h1,h2,h3,hd,m,u,hm=>by
    have hl:=H.l;have hh:=H.h;have na:=H.nn a h1 (by omega);have nb:=H.nn b (by omega) h3;have mo:=H.mono a b h1 h2 h3;have I:aH (N a - N b)=N a - N b:=aO;have G:aH (b - a)=b - a:=aO;by_cases E:N a=N b
    . have o:J5 N S (d+1) a b=[]:=by unfold J5;rw[gH E]
      rw[o]
      have g:=nM aB ay aV fH gQ aKC (mem:=skM k C m u) (J6 5) (τ:=[some 0,some 1]) (by rfl) (v:=.bK []) (mem1:=skM k C m u) ((avE k C m u a (N a) (S a) b (N b) (S b)).trans (by unfold skT;rw[I,show N a - N b=0 by omega];rfl))
      refine dJ.AA (aaB rfl g) ⟨wV rfl,wV rfl,Gc ⟨3,1,m,_,_,rfl,rfl,λ q hq=>?_⟩,trivial⟩;show [iA (Gm m u [] q)]=[iA (u q)];unfold Gm;rw[gH hq]
    . have e0:(aH (N a - N b)==0)=false:=by rw[I];exact mI (by omega)
      by_cases hB:b - a=1
      . obtain⟨r,O⟩:∃r:Nat,N a - N b=((r+1:Nat):Int):=⟨(N a - N b).toNat - 1,by omega⟩;have o:J5 N S (d+1) a b=aGe (r+1) a:=by unfold J5;rw[fP E,gH hB,O,pF]
        rw[o];unfold J7;rw[aJU];refine nM aB ay aV fH gQ aKC (mem:=skM k C m u) (iW (g:=jS 2 zC [some 0,some 1,some 2,some 3] (sp0 k C m u a (N a) (S a) b (N b) (S b) 0 ((r+1:Nat):Int)) (.exit 0) (sp1 k C (m+(r+1)) a (N a) (S a) b (N b) (S b) ((r+1:Nat):Int) ((r+1:Nat):Int) λ q=>[iA (Gm m u (aGe (r+1) a) q)])) (i:=5) 1 (by kernel_rfl) λ j hj _=>?_) (τ:=[some 0,some 1,some 4]) (by rfl) ((avF k C m u a (N a) (S a) b (N b) (S b) ((r+1:Nat):Int) (m+(r+1)) (Gm m u (aGe (r+1) a)) ((r+1:Nat):Int)).trans ?_)
        . have:j=0:=by omega
          subst this;exact fq (by rfl) (WY k C u a (N a) (S a) b (N b) (S b) (by omega) (by omega))
        . unfold skT;rw[e0,G,hB,I,O,ak (fQ.refl _)];rfl
      . have e1:(aH (b - a)==1)=false:=by rw[G];exact mI hB
        by_cases F:N a - N b=1/\S a≠S b
        . have hlt : a < b := by rcases aMU h2 with h |h;· exact h
                                 . subst h;exact absurd rfl E
          have o:J5 N S (d+1) a b=[sgl S (S a) a b]:=by unfold J5;rw[fP E,fP hB,gH F]
          rw[o];have hs:aBv k C m u a (N a) (S a) b (N b) (S b) (sgl S (S a) a b):=⟨yA (aps H hlt h1 h3 m u _ _ _ _) rfl,rfl⟩;refine dJ.AA (mem1:=skR k C (m+1) λ q=>bM (Tv q m) [iA (u q)] [iA (sgl S (S a) a b)]) (nM aB ay aV fH (J3 Ni gQ) aKC (mem:=skM k C m u) (J6 5) (τ:=[some 0,some 1,some 5]) (by rfl) ((avG k C m u a (N a) (S a) b (N b) (S b) (sgl S (S a) a b)).trans ?_)) ⟨wV rfl,wV rfl,Gc ⟨3,1,m+1,_,_,rfl,rfl,λ q hq=>(Mq m u _ hq).symm⟩,trivial⟩;unfold skT TN aBw;rw[e0,e1,I,F.1,mI F.2,jl hs,aiX (by omega),agl (ND m)];rfl
        . have hlt : a < b := by rcases aMU h2 with h |h;· exact h
                                 . subst h;exact absurd rfl E
          have em:=ai0 hlt (by omega) (by omega);have U:a<wF a b/\wF a b<b:=by unfold wF;omega
          obtain⟨e,rfl⟩:∃e,d=e+1:=⟨d - 1,by omega⟩;have nm:=H.nn (wF a b) (by omega) (by omega);have m1:=H.mono a (wF a b) h1 (by omega) (by omega);have m2:=H.mono (wF a b) b (by omega) (by omega) h3;have len1:=Mr (S:=S) H.mono (e+1) a (wF a b) h1 (by omega) (by omega);have i1:=J8 H e a (wF a b) h1 (by omega) (by omega) (by omega) m u (by omega);have Z:=J8 H e (wF a b) b (by omega) (by omega) h3 (by omega) (m+(J5 N S (e+1) a (wF a b)).length) (Gm m u (J5 N S (e+1) a (wF a b))) (by omega)
          have o:J5 N S (e+1+1) a b=J5 N S (e+1) a (wF a b)++J5 N S (e+1) (wF a b) b:=by
            show(if N a=N b then []else if b - a=1 then aGe (N a - N b).toNat a else if N a - N b=1/\S a≠S b then [sgl S (S a) a b]else J5 N S (e+1) a (wF a b)++J5 N S (e+1) (wF a b) b)=_
            rw[fP E,fP hB,fP F]
          rw[o];unfold J7;rw[aiR,<-TM,<-Nat.add_assoc];have X:=avC (la:=a) (ha:=b) (N b) (S b) rfl em rfl rfl i1;have W:=avD (la:=a) (ha:=b) (lb:=N a) (ls:=S a) em rfl rfl rfl Z
          have J:avH k C m u a b (N (wF a b)) (S (wF a b)):=by unfold avH;rw[em];exact⟨yA (H.ah (wF a b) (by omega) (by omega) m u) rfl,rfl⟩
          refine nM aB ay aV (jU pq fH) (J3 Ni gQ) aKC (mem:=skM k C m u) (J6 5) (τ:=[some 0,some 1,some 6]) (by rfl) ((avI k C m u a (N a) (S a) b (N b) (S b) (N (wF a b)) (S (wF a b)) (m+(J5 N S (e+1) a (wF a b)).length) (Gm m u (J5 N S (e+1) a (wF a b))) (m+(J5 N S (e+1) a (wF a b)).length+(J5 N S (e+1) (wF a b) b).length) (Gm (m+(J5 N S (e+1) a (wF a b)).length) (Gm m u (J5 N S (e+1) a (wF a b))) (J5 N S (e+1) (wF a b) b))).trans ?_)
          have eb:TN (N a) (S a) (N b) (S b)=false:=by
            unfold TN;rw[I];by_cases hn:N a - N b=1
            . have hs:S a=S b:=acQ λ h=>F ⟨hn,h⟩;rw[hn,hs,show(S b==S b)=true from BEq.rfl];rfl
            . rw[mI hn];rfl
          unfold skT skD;rw[e0,e1,eb,jl J,jl X,jl W,agl (ND m)];rfl
  termination_by d=>d
end
theorem anl{k:Nat}{C:Nat->fZ}{oL:Int}{sg:Nat->Int}(d:0<k)(hk:k<=1000)(ha:-9223372036854775808<=oL)(hb:oL<=9223372036854775807)(e:∀q,q<k->sg q=1\/sg q=-1)(hs:∀q,q<k->aj bO 321 [fD (C q),wA oL] (iA (sg q)))(m:Nat)(u:Nat->Int):aj bO 307 [XC k C m u,iA oL] (iw oL (Mf sg k) (sg 0)):=by refine aR aB (au aG (au aG (au aG ay))) Tryz.func307 aC ((axU k C m u oL (Mf sg k) (sg 0)).trans ?_);rw[ak (alu hk ha hb e hs),ak (qQ ha hb),ak (hs 0 d),show iP 0 k=true from bZ (i:=0) d];rfl
theorem atv{n:Nat}{f:Nat->Int}{x:Int}{K:Nat}(hb:∀j,j<=K->HB (n - j) (Nb f j) x)(d:∀j,j<K->hv f n x j=0)(hK:hv f n x K≠0):aj bO 321 [pA n f,wA x] (iA ((hv f n x K).sign*Qy (-1) K)):=by refine aR aB (au aG ay) Tryz.func321 aC ((aBi n f x ((hv f n x K).sign*Qy (-1) K)).trans ?_);rw[ak (ad7 (Gc rfl) hb d hK)]
theorem atw{n:Nat}{f:Nat->Int}{x:Int}{K:Nat}(hb:∀j,j<=K->HB (n - j) (Nb f j) x)(d:∀j,j<K->hv f n x j=0)(hK:hv f n x K≠0):aj bO 310 [pA n f,wA x] (iA ((hv f n x K).sign*Qy 1 K)):=by refine aR aB (au aG ay) Tryz.func310 aC ((aBj n f x ((hv f n x K).sign*Qy 1 K)).trans ?_);rw[ak (ad7 (wV rfl) hb d hK)]
def mbB(x:Int):Bool:=cond (decide (x< -2147483648)) true (decide (x>2147483648))
def WA(n:Nat)(u:Nat->Int)(i:Int):St:=mkS 18 [(5,sJ n u),(6,iA (n:Nat)),(7,iA i)] []
def mbE:St:=mkS 18 [(2,bA false)] []
section
variable(n:Nat)(u:Nat->Int)(i:Int)
theorem atQ:jR bO [] [] bC (av aJu 0) (WA n u i) (gu [5,6,7] []) =
  cond (decide (i<n)) (cond (iP i n||false) (cond (mbB (u i.toNat)) none (some ⟨.normal,WA n u (aH (i+1)),.any⟩)) none) none:=by kernel_rfl
theorem aAL:jR bO [] [] bC (av aJu 0) (WA n u i) (aaw [2] []) =
  cond (decide (i<n)) (cond (iP i n||false) (cond (mbB (u i.toNat)) (some ⟨.ret,mbE,.any⟩) none) none) none:=by kernel_rfl
theorem aAM:jR bO [] [] bC (av aJu 0) (WA n u i) (iG [5,6,7] []) =
  cond (decide (i<n)) (cond (iP i n||false) (cond (mbB (u i.toNat)) none none) none) (some ⟨.exit 0,WA n u i,.any⟩):=by kernel_rfl
theorem aAN(j:Int):ev bO [] [] (eZ 2 (fF [5,6,7] [] (WA n u 0) (.exit 0) (WA n u j))) aJu [sJ n u] ret=gate (Sub (WA n u 0) (WA n u 0)) (some (Out.of (bA true))):=by kernel_rfl
theorem aAO:ev bO [] [] (eZ 2 (fF [5,6,7] [] (WA n u 0) .ret mbE)) aJu [sJ n u] ret=gate (Sub (WA n u 0) (WA n u 0)) (some (Out.of (bA false))):=by kernel_rfl
end
noncomputable def mbI(n:Nat)(u:Nat->Int):Bool:=BL n λ i=>!mbB (u i)
theorem af7{n:Nat}(u:Nat->Int)(hn:n<=4611686018427387904):aj bO 301 [sJ n u] (bA (mbI n u)):=by
 have e:∀k,k<n->mbB (u k)=false->bH bO (av aJu 0) (WA n u (k:Nat)) .normal (WA n u ((k+1:Nat):Int)):=λ k hk hb=>by have d:=atQ n u (k:Nat);rw[bI hk,bZ hk,pF,hb,aQ (by omega)]at d;exact aK (bB _ _) aB ay aC d
 unfold mbI;rcases o9 (λ i=>!mbB (u i)) n with hl | ⟨K,hK,hp,hq⟩
 .have lead:bH bO (.loop (av aJu 0)) (WA n u 0) (.exit 0) (WA n u (n:Nat)):=by refine aP (λ k=>WA n u (k:Nat)) n (.exit 0) _ (by simp) (λ k hk=>e k hk (by simpa using hl k hk)) ?_;refine aK (dB _ _) aB ay aC ((aAM n u (n:Nat)).trans ?_);rw[bJ,eU]
  refine aR aB ay aN7 (gq (i:=2) 0 1 (aS (keep:=[5,6,7]) (τ:=[]) lead)) ((aAN n u _).trans ?_);rw[ak (Sub.refl _),Qc hl]
 .have lead:bH bO (.loop (av aJu 0)) (WA n u 0) .ret mbE:=by refine aP (λ k=>WA n u (k:Nat)) K .ret _ (by simp) (λ k hk=>e k (by omega) (by simpa using hq k hk)) ?_;refine aK (CG _ _) aB ay aC ((aAL n u (K:Nat)).trans ?_);rw[bI hK,bZ hK,pF,show mbB (u K)=true by simpa using hp];rfl
  refine aR aB ay aN7 (gq (i:=2) 0 1 (aS (keep:=[5,6,7]) (τ:=[]) lead)) ((aAO n u).trans ?_);rw[ak (Sub.refl _),adN hK hp]
def msI(a b:Int):Bool:=cond (decide (a≥-1125899906842624)) (decide (b<=1125899906842624)) false
theorem aE9(a b:Int):ev bO [] [] bC Tryz.f302 [iA a,iA b] ret=some (Out.of (bA (msI a b))):=by kernel_rfl
theorem atU(a b:Int):aj bO 302 [iA a,iA b] (bA (msI a b)):=aR aB ay Tryz.func302 aC (aE9 a b)
def gMs(f:Int->Int->Bool):List AV->Option AV
 | [.x (.int .i64 a),.x (.int .i64 b)]=>some (bA (f a b))
 |_=>none
theorem aAI:jr bO ⟨302,gMs msI⟩:=λ e r d=>by
 simp only[gMs]at d;split at d
 .cases d;exact wV (atU _ _)
 .cases d
def afj(e:Int):Option Out:=some (Out.of (.bK [.x (.slice none 0 0),iA e]))
end Go.Proofs.YtdlhemnconimnaaGreat
namespace Go.Gv
open Go.RowKit Go.Ev
noncomputable section
def AnyS(P:Program)(T:Tab)(ops:Array Oper)(K:St->Prop):Nat->Array Bool->St->Prop
 | 0,listed,s=>aFj .any ops listed=[]/\K s
 |fuel+1,listed,s=>(aFj .any ops listed=[]->K s)/\∀i,i∈aFj .any ops listed->∃o s1,ops[i]?=some o/\LH P T ops.toList s o s1/\AnyS P T ops K fuel (listed.setIfInBounds i true) s1
theorem wm{P:Program}{T:Tab}{ops:Array Oper}{K:St->Prop}{fuel:Nat}{listed:Array Bool}{s:St}(l:List Nat)(hl:aFj .any ops listed=l)(d:l≠[])(h:∀i,i∈l->∃o s1,ops[i]?=some o/\LH P T ops.toList s o s1/\AnyS P T ops K fuel (listed.setIfInBounds i true) s1):AnyS P T ops K (fuel+1) listed s:=by refine⟨λ e=>?_,λ i hi=>h i (by rw[<-hl];exact hi)⟩;rw[hl]at e;exact absurd e d
section
variable{P:Program}{T:Tab}{ops:Array Oper}{Q:Exit->Act->World->Prop}{A0 R:Nat->Prop}{w0:Env}
theorem aoj(e:BR P T){K:St->Prop}(I:∀(E:Env) (a:Act) (s':St),K s'->Inv A0 R w0 E s' a->Q .normal a E.w):∀(fuel:Nat) (listed:Array Bool) (E:Env) (s:St) (a:Act),Inv A0 R w0 E s a->AnyS P T ops K fuel listed s->wpAny P .any ops Q fuel listed a E.w
 | 0,listed,E,s,a,hI,h=>⟨h.1,I E a s h.2 hI⟩
 |fuel+1,listed,E,s,a,hI,h=>by
  refine⟨λ W=>I E a s (h.1 W) hI,λ i hi=>?_⟩;obtain⟨o,s1,O,hs,U⟩:=h.2 i hi
  have X:∀d:Act->World->Prop,(∀G F,Inv A0 R w0 G s1 F->d F G.w)->if Region.wanted o (yielded ops a.tmps)then o.wp P a E.w d Q else d (a.put o.dst undef) E.w:=λ d hK=>by
   rcases hs with(⟨v,mem1,h1,h2,rfl⟩ | ⟨v,rows,h1,h2,rfl⟩ | ⟨g,c,v,h1,h2,h3,h5,rfl⟩ | ⟨b,c,bT,h1,h2,h3,rfl⟩) | ⟨b,c,bT,h1,h2,h3⟩
   .exact Nt e hI h1 h2 d hK
   .exact Nu e hI h1 h2 d hK
   .exact Nv e hI h1 h2 h3 h5 d hK
   .exact Nw e.flat hI h1 h2 h3 d hK
   .exact Ny e hI h1 h2 h3 d hK
  have g:=X (wpAny P .any ops Q fuel (listed.setIfInBounds i true)) λ G F J=>aoj e I fuel _ G s1 F J U;unfold wpOp;rw[O];simp only;split
  .rename_i H;rw[gH H]at g;exact wV g
  .rename_i H;rw[fP H]at g;exact g
end
theorem Inv.drew{A0 R:Nat->Prop}{w0:Env}{E:Env}{s:St}{a:Act}(o:Inv A0 R w0 E s a):Inv A0 R w0 { E with w:=E.w.drew } s a:=by obtain⟨d,e⟩:=o.wd.on (w':=E.w.drew) (Below.refl _ _).drew;exact⟨o.defers,qx e o.frame,d⟩
def Sv(P:Program)(ops:Array Oper)(o s1:St):Prop:=∀(A0 R:Nat->Prop) (w0:Env) (E:Env) (a:Act) (id:Nat) (Q:Exit->Act->World->Prop),Inv A0 R w0 E o a->(∀e d,Inv A0 R w0 e (WL s1) d->Q .normal d e.w)->(Code.region id ops true).wp P Q a E.w
theorem afq{P:Program}{T:Tab}{ops:Array Oper}{s s1:St}(e:BR P T)(hm:P.follows .mixedOrders=true)(h:AnyS P T ops (λ s'=>WL s'=WL s1) ops.size (Array.replicate ops.size false) s):Sv P ops s s1:=λ A0 R w0 E a id Q F o=>by
 refine wp_region_any hm ?_;refine aoj (w0:=w0) (A0:=A0) (R:=R) e (λ H G s' hs d=>?_) ops.size _ { E with w:=E.w.drew } s a F.drew h
 refine o H G ?_;rw[<-hs];exact d.clear
theorem Za{P:Program}{T:Tab}{ops:List Oper}{o:Oper}{s s1:St}(E:QV T)(h:Jk P T ops [o] s (λ s'=>some ⟨.normal,s',.any⟩)=some ⟨.normal,s1,.any⟩):LH P T ops s o s1:=by obtain⟨s',⟨s2,F,h2⟩,d,_⟩:=Br E h;have e:s2=s':=h2;subst e;simp only[gU,Out.mk.injEq,and_true,true_and]at d;subst d;exact F
def aGB(ops:List Oper):Option Nat:=match ops with
 |o::_=>o.dst
 | []=>none
def Pq(d:Nat)(E:List Oper)(e s1:St)(D:List Oper->St->SK->Option Out):List Oper->St->SK->Option Out:=λ ops s k=>match aGB ops with
 |some o=>cond (amH o d) (gate (ops=E/\s=e) (k s1)) (D ops s k)
 |none=>D ops s k
theorem ZP{P:Program}{d:Nat}{G:Array Oper}{H s1:St}{D:List Oper->St->SK->Option Out}(U:DOk P D)(h:Sv P G H s1):DOk P (Pq d G.toList H s1 D):=by
 have get:∀{ops s k r},Pq d G.toList H s1 D ops s k=some r->(D ops s k=some r/\∀o,Pq d G.toList H s1 D ops s o=D ops s o)\/(ops=G.toList/\s=H/\k s1=some r/\∀o,Pq d G.toList H s1 D ops s o=o s1):=fun{ops s k r} F=>by
  unfold Pq at F ⊢;split at F
  .rename_i d' hd;cases hb:amH d' d
   .rw[hb]at F;exact wV ⟨F,λ o=>by simp only[eU]⟩
   .rw[hb]at F;obtain⟨⟨g1,g2⟩,g3⟩:=ji F;exact Gc ⟨g1,g2,g3,λ o=>by simp only[aY];rw[ak ⟨g1,g2⟩]⟩
  .exact wV ⟨F,λ o=>rfl⟩
 constructor
 .intro ops s k r F;rcases get F with⟨g1,g2⟩ | ⟨_,_,g3,Z⟩
  .obtain⟨I,W,h2⟩:=U.1 ops s k r g1;exact⟨I,W,λ o=>by rw[g2];exact h2 o⟩
  .exact⟨s1,g3,Z⟩
 .intro A0 R w0 E s I a id ops Q O hk J;have X:=hk λ s=>some ⟨.normal,s,.any⟩;rcases get X with⟨_,g2⟩ | ⟨g1,g2,g3,_⟩
  .exact U.2 A0 R w0 E s I a id ops Q O (λ o=>by rw[<-g2];exact hk o) J
  .simp only[gU,Out.mk.injEq,and_true,true_and]at g3;subst g3;have e:ops=G:=Array.toList_inj.1 g1;subst e g2;exact h A0 R w0 E a id Q O J
end
end Go.Gv
namespace Go.Proofs.YtdlhemnconimnaaGreat
open Go.Gv
def oQ:AV:=.x (.slice none 0 0)
def Pj:Code->Nat->Option (Array Oper)
 |.region id ops _,i=>cond (amH id i) (some ops) none
 |.seq x y,i=>(Pj x i).or (Pj y i)
 |.cond _ x y,i=>(Pj x i).or (Pj y i)
 |.block _ c,i=>Pj c i
 |.loop c,i=>Pj c i
 |_,_=>none
noncomputable def oF:Array Oper:=((Pj (dH aNo) 5).getD #[])
theorem acO:oF.size=4:=by kernel_rfl
theorem aF6:aFj .any oF #[false,false,false,false]=[0,2]:=by kernel_rfl
theorem aF8:aFj .any oF #[true,false,false,false]=[1,2]:=by kernel_rfl
theorem aGa:aFj .any oF #[false,false,true,false]=[0]:=by kernel_rfl
theorem aF4:aFj .any oF #[true,true,false,false]=[2]:=by kernel_rfl
theorem aF5:aFj .any oF #[true,false,true,false]=[1]:=by kernel_rfl
theorem aF2:aFj .any oF #[true,true,true,false]=[3]:=by kernel_rfl
theorem aF3:aFj .any oF #[true,true,true,true]=[]:=by kernel_rfl
def mkV(n:Nat)(l:List (Nat × AV))(mem:List Row):St:=⟨(List.range n).map λ i=>(match l.find? (λ p=>amH p.1 i)with
 |some p=>p.2
 |none=>.x undef,[]),mem⟩
section
variable(n:Nat)(f f1:Nat->Int)(lo hi:Int)(k:Nat)(C:Nat->fZ)(bh sh bl sl:Int)
def Bl:Bool:=cond (decide ((n:Int)<2)) true (decide (lo>hi))
def plS(r:List (Nat × AV))(mem:List Row):St:=mkV 40 ([(0,pA n f),(1,iA lo),(2,iA hi),(6,oQ),(7,.own 0 0),(8,.own 1 0),(9,pA n f),(10,iA (n:Nat)),(11,bA (decide ((n:Int)<2))),(12,bA (decide ((n:Int)<2))),(13,.any),(14,.any),(15,.any),(16,bA (Bl n lo hi)),(17,pA n f),(18,pA n f1),(19,Ro k C),(20,.agg [Ro k C,oQ]),(21,iA hi),(22,iw hi bh sh)]++r) mem
def plM:List Row:=[.c [Ro k C,oQ],.c [iA hi,iA bh,iA sh]]
abbrev ayQ(oL b s:Int):Prop:=vV bO 307 [.ref [Ro k C,oQ] 0,iA oL] (iw oL b s)/\iq (iw oL b s)=true
noncomputable def acN(oL b s:Int):Bool:=(jv (ayQ k C oL b s)&&true)||false
variable(m:Nat)(u:Nat->Int)
def ahQ:List Row:=[.c [Ro k C,.bQ 2 1 0 m],.c [iA hi,iA bh,iA sh],.a 3 1 m λ q=>[iA (u q)]]
abbrev ayO:Prop:=rW bO 308 [.own 0 0,iw lo bl sl,iw hi bh sh] (plM hi k C bh sh) (.bK []) (ahQ hi k C bh sh m u)
noncomputable def ahR:Tab:=yR [] [] [] [wQ bO 308 (λ _ _=>.bK []) (λ _ _=>ahQ hi k C bh sh m u)] [rS2 bO 307 (λ _=>iw lo bl sl)]
noncomputable def opI(i:Nat):Oper:=match oF[i]? with
 |some o=>o
 | none => ⟨none, .move (.const undef), 0, "", #[], none⟩
def azf:SK:=λ d=>some ⟨.normal,d,.any⟩
def p3:Nat × AV:=(23,iA lo)
def p4:Nat × AV:=(24,iw lo bl sl)
def p5:Nat × AV:=(25,iw hi bh sh)
noncomputable abbrev plX(i:Nat)(r:List (Nat × AV)):Option Out:=Jk bO (ahR lo hi k C bh sh bl sl m u) oF.toList [opI i] (plS n f f1 lo hi k C bh sh r (plM hi k C bh sh)) azf
abbrev plY(r:List (Nat × AV)):Option Out:=some ⟨.normal,plS n f f1 lo hi k C bh sh r (plM hi k C bh sh),.any⟩
theorem aF7:plX n f f1 lo hi k C bh sh bl sl m u 0 []=plY n f f1 lo hi k C bh sh [p3 lo]:=by kernel_rfl
theorem aF9:plX n f f1 lo hi k C bh sh bl sl m u 2 []=plY n f f1 lo hi k C bh sh [p5 hi bh sh]:=by kernel_rfl
theorem aDu:plX n f f1 lo hi k C bh sh bl sl m u 1 [p3 lo]=cond (acN k C lo bl sl) (plY n f f1 lo hi k C bh sh [p3 lo,p4 lo bl sl]) none:=by kernel_rfl
theorem aDv:plX n f f1 lo hi k C bh sh bl sl m u 2 [p3 lo]=plY n f f1 lo hi k C bh sh [p3 lo,p5 hi bh sh]:=by kernel_rfl
theorem aDw:plX n f f1 lo hi k C bh sh bl sl m u 0 [p5 hi bh sh]=plY n f f1 lo hi k C bh sh [p3 lo,p5 hi bh sh]:=by kernel_rfl
theorem ayS:plX n f f1 lo hi k C bh sh bl sl m u 2 [p3 lo,p4 lo bl sl]=plY n f f1 lo hi k C bh sh [p3 lo,p4 lo bl sl,p5 hi bh sh]:=by kernel_rfl
theorem ayR:plX n f f1 lo hi k C bh sh bl sl m u 1 [p3 lo,p5 hi bh sh]=cond (acN k C lo bl sl) (plY n f f1 lo hi k C bh sh [p3 lo,p4 lo bl sl,p5 hi bh sh]) none:=by kernel_rfl
theorem aF1:plX n f f1 lo hi k C bh sh bl sl m u 3 [p3 lo,p4 lo bl sl,p5 hi bh sh]=cond (jv (ayO lo hi k C bh sh bl sl m u)) (some ⟨.normal,plS n f f1 lo hi k C bh sh [p3 lo,p4 lo bl sl,p5 hi bh sh,(26,.bK [])] (ahQ hi k C bh sh m u),.any⟩) none:=by kernel_rfl
end
end Go.Proofs.YtdlhemnconimnaaGreat
namespace Go.Gv
open Go.RowKit Go.Ev
theorem acM{P:Program}{f:Nat}{args:List AV}{X v:AV}{T:TypeId}{sz m:Nat}{u u':Nat->List AV}(hX:iq X=true)(hv:iq v=true)(h:dJ P f args [.c [X,.bQ 1 sz 0 0],.a T sz 0 u] v [.c [X,.bQ 2 sz 0 m],.dead,.a T sz m u']):dJ P f args [.c [X,.x (.slice none 0 0)]] v [.c [X,.bQ 1 sz 0 m],.a T sz m u']:=by
 refine⟨h.1,λ R E bG hp U hg hr=>?_⟩
 have Z:∀k p,E.O k=some p->k=0:=λ k p hk=>by have:=U.dom k p.1 p.2 hk;simp only[aBz,aKc]at this;omega
 have hW1:Wd E.A R E E [.c [X,.bQ 1 sz 0 0],.a T sz 0 u]:=by
  refine⟨λ k b c hb=>?_,U.small,U.old,λ k b c hb _=>?_,λ k k' b c W hb G _ _=>?_,U.below,U.zA⟩
  .have:=Z k _ hb;subst this;obtain⟨row,g1,g2⟩:=U.rows 0 b c hb;cases g1;obtain⟨cs,e,k1,J⟩:=g2;obtain⟨u0,us0,e3,p0,J⟩:=bF.1 J;obtain⟨u1,I,e4,p1,k3⟩:=bF.1 J;refine⟨_,rfl,cs,e,k1,?_⟩;rw[e3,e4];exact bF.2 ⟨u0,_,rfl,p0,bF.2 ⟨u1,I,rfl,dV.2 (wV ⟨rfl,rfl,cB.1 p1⟩),pre_nil⟩⟩
  .have:=Z k _ hb;subst this;exact U.own 0 b c hb rfl
  .rw[Z k _ hb,Z k' _ G]
 have hp1:Ib ([.c [X,.bQ 1 sz 0 0],.a T sz 0 u]:List Row).length E.A R E:=⟨λ k hk=>hp.1 k (aa2 (show 1<=2 by decide) hk),λ b hb=>let⟨k,c,hk,hO⟩:=hp.2.1 b hb;⟨k,c,Nat.lt_succ_of_lt hk,hO⟩,hp.2.2⟩;refine(h.2 R E bG hp1 hW1 hg hr).mono ?_;rintro e w' ⟨x,H,rfl,rfl,d,hx⟩;let O2:Nat->Option (Nat × Nat × Nat):=λ k=>if k=0 then H.O 0 else if k=1 then H.O 2 else none
 let E2:Env:={ H with O:=O2 }
 have hsame:∀b,¬H.A b->∀ob,H.w.heap[b]?=some ob->¬E2.A b/\E2.w.heap[b]?=some ob:=λ _ hb _ yS=>⟨hb,yS⟩
 have Pb:∀k p,E2.O k=some p->(k=0/\H.O 0=some p)\/(k=1/\H.O 2=some p):=λ k p hk=>by
  have hk:(if k=0 then H.O 0 else if k=1 then H.O 2 else none)=some p:=hk
  by_cases h0:k=0
  .rw[gH h0]at hk;exact wV ⟨h0,hk⟩
  .rw[fP h0]at hk;by_cases o:k=1
   .rw[gH o]at hk;exact Gc ⟨o,hk⟩
   .rw[fP o]at hk;cases hk
 refine⟨x,E2,rfl,rfl,⟨?_,d.small,d.old,?_,?_,d.below,⟨d.zA.keep,λ k p hk=>?_⟩⟩,fG v hsame hv x hx⟩
 .intro k b c hb;rcases Pb k _ hb with⟨rfl,o⟩ | ⟨rfl,o⟩
  .obtain⟨row,g1,g2⟩:=d.rows 0 b c o;cases g1;obtain⟨cs,e,k1,J⟩:=g2;obtain⟨u0,us0,e3,p0,J⟩:=bF.1 J;obtain⟨u1,I,e4,p1,k3⟩:=bF.1 J;refine⟨_,rfl,cs,e,k1,?_⟩;rw[e3,e4];refine bF.2 ⟨u0,_,rfl,fG X hsame hX u0 p0,bF.2 ⟨u1,I,rfl,?_,pre_nil⟩⟩;rcases dV.1 p1 with g | ⟨b',W,n',g1,g2⟩
   .exact dV.2 (wV g)
   .exact dV.2 (Gc ⟨b',W,n',g1,g2⟩)
  .obtain⟨row,g1,g2⟩:=d.rows 2 b c o;cases g1;exact⟨_,rfl,g2⟩
 .intro k b c hb hlv;rcases Pb k _ hb with⟨rfl,o⟩ | ⟨rfl,o⟩
  .exact d.own 0 b c o rfl
  .exact d.own 2 b c o rfl
 .intro k k' b c W hb G hlv zO;rcases Pb k _ hb with⟨rfl,o⟩ | ⟨rfl,o⟩
  .rcases Pb k' _ G with⟨rfl,F⟩ | ⟨rfl,F⟩
   .rfl
   .have:=d.one 0 2 b c W o F rfl rfl;cases this
  .rcases Pb k' _ G with⟨rfl,F⟩ | ⟨rfl,F⟩
   .have:=d.one 2 0 b c W o F rfl rfl;cases this
   .rfl
 .have:=Z k p hk;subst this;exact d.zA.own 0 p hk
end Go.Gv
namespace Go.Proofs.YtdlhemnconimnaaGreat
open Go.Gv
theorem aFX:oF[0]?=some (opI 0):=by kernel_rfl
theorem aFY:oF[1]?=some (opI 1):=by kernel_rfl
theorem aFZ:oF[2]?=some (opI 2):=by kernel_rfl
theorem aF0:oF[3]?=some (opI 3):=by kernel_rfl
theorem len1{l:List Nat}{i k a:Nat}(hl:l=[a])(h:l[i]?=some k):i=0/\k=a:=by
 subst hl
 match i,h with
 | 0,h=>simp at h;exact⟨rfl,h.symm⟩
 |n+1,h=>simp at h
theorem aDt{k:Nat}{C:Nat->fZ}{N S:Int->Int}{lo hi:Int}{L:List Int}(h:J7 k C N S lo hi 0 (λ _=>0) L):ayO lo hi k C (N hi) (S hi) (N lo) (S lo) (0+L.length) (Gm 0 (λ _=>0) L):=by
 have g:=acM (X:=Ro k C) rfl rfl h;refine TJ g [0] rfl rfl rfl (λ i j hi=>?_) ⟨λ j e hl=>?_,λ i j r hi d=>?_,λ i r hi d=>?_⟩
 .obtain⟨rfl,rfl⟩:=len1 rfl hi;exact⟨_,rfl,rfl,rfl⟩
 .match j,e,hl with
  | 0,e,_=>exact absurd (by simp) e
  | 1,_,_=>rfl
  |n+2,_,hl=>exact absurd hl (by show ¬n+2<2;omega)
 .obtain⟨rfl,rfl⟩:=len1 rfl hi;cases d;rfl
 .match i,hi,d with
  | 0,hi,_=>exact absurd hi (by show ¬ 1<=0;omega)
  | 1,_,d=>cases d;rfl
  |n+2,_,d=>cases d
section
variable{n:Nat}{f f1:Nat->Int}{lo hi:Int}{k:Nat}{C:Nat->fZ}{bh sh bl sl:Int}{m:Nat}{u:Nat->Int}
theorem ayP(hm:bO.follows .mixedOrders=true)(hA:ayQ k C lo bl sl)(hS:ayO lo hi k C bh sh bl sl m u):Sv bO oF (plS n f f1 lo hi k C bh sh [] (plM hi k C bh sh)) (plS n f f1 lo hi k C bh sh [p3 lo,p4 lo bl sl,p5 hi bh sh,(26,.bK [])] (ahQ hi k C bh sh m u)):=by
 have H:BR bO (ahR lo hi k C bh sh bl sl m u):=jV aB ay aV (jU pq fH) (J3 Ni gQ);have hb:acN k C lo bl sl=true:=by unfold acN;rw[jl hA];rfl
 have d:∀{i:Nat} {r:List (Nat × AV)} {G:St},plX n f f1 lo hi k C bh sh bl sl m u i r=some ⟨.normal,G,.any⟩->LH bO (ahR lo hi k C bh sh bl sl m u) oF.toList (plS n f f1 lo hi k C bh sh r (plM hi k C bh sh)) (opI i) G:=λ h=>Za H.par h;have F:=aDu n f f1 lo hi k C bh sh bl sl m u;have E:=ayR n f f1 lo hi k C bh sh bl sl m u;have e:=aF1 n f f1 lo hi k C bh sh bl sl m u;rw[hb,aY]at F E;rw[jl hS,aY]at e;refine afq H hm ?_;rw[acO]
 have o:∀i,i<4->oF[i]?=some (opI i):=λ i hi=>by
  match i,hi with
  | 0,_=>exact aFX
  | 1,_=>exact aFY
  | 2,_=>exact aFZ
  | 3,_=>exact aF0
  |n+4,h=>omega
 have last:AnyS bO (ahR lo hi k C bh sh bl sl m u) oF (λ J=>WL J=WL (plS n f f1 lo hi k C bh sh [p3 lo,p4 lo bl sl,p5 hi bh sh,(26,.bK [])] (ahQ hi k C bh sh m u))) 1 #[true,true,true,false] (plS n f f1 lo hi k C bh sh [p3 lo,p4 lo bl sl,p5 hi bh sh] (plM hi k C bh sh)) :=
  wm [3] aF2 (by simp) λ i hi=>by rw[aGx]at hi;subst hi;exact⟨_,_,o 3 (by decide),d e,aF3,rfl⟩
 have a1:AnyS bO (ahR lo hi k C bh sh bl sl m u) oF _ 2 #[true,true,false,false] (plS n f f1 lo hi k C bh sh [p3 lo,p4 lo bl sl] (plM hi k C bh sh)) :=
  wm [2] aF4 (by simp) λ i hi=>by rw[aGx]at hi;subst hi;exact⟨_,_,o 2 (by decide),d (ayS n f f1 lo hi k C bh sh bl sl m u),last⟩
 have I:AnyS bO (ahR lo hi k C bh sh bl sl m u) oF _ 2 #[true,false,true,false] (plS n f f1 lo hi k C bh sh [p3 lo,p5 hi bh sh] (plM hi k C bh sh)) :=
  wm [1] aF5 (by simp) λ i hi=>by rw[aGx]at hi;subst hi;exact⟨_,_,o 1 (by decide),d E,last⟩
 refine wm [0,2] aF6 (by simp) λ i hi=>?_;simp only[aHJ,aM0,or_false]at hi;rcases hi with rfl |rfl
 .refine⟨_,_,o 0 (by decide),d (aF7 n f f1 lo hi k C bh sh bl sl m u),wm [1,2] aF8 (by simp) λ i hi=>?_⟩;simp only[aHJ,aM0,or_false]at hi;rcases hi with rfl |rfl
  .exact⟨_,_,o 1 (by decide),d F,a1⟩
  .exact⟨_,_,o 2 (by decide),d (aDv n f f1 lo hi k C bh sh bl sl m u),I⟩
 .refine⟨_,_,o 2 (by decide),d (aF9 n f f1 lo hi k C bh sh bl sl m u),wm [0] aGa (by simp) λ i hi=>?_⟩;rw[aGx]at hi;subst hi;exact⟨_,_,o 0 (by decide),d (aDw n f f1 lo hi k C bh sh bl sl m u),I⟩
end
noncomputable def evD(P:Program)(l:List Entry)(ks:List bf)(ms:List dZ)(e:List iM)(rs:List jK)(d:Nat)(E:List Oper)(o s1:St)(L:Nat->Option dY)(fn:Func)(args:List AV)(k:AV->Option Out):Option Out:=abody P (yR l ks ms e rs) (Pq d E o s1 (lq P (yR l ks ms e rs))) L 40 fn args k
theorem anT{l:List Entry}{ks:List bf}{ms:List dZ}{O:List iM}{rs:List jK}{L:Nat->Option dY}(hl:∀e,e∈l->jr bO e)(H:∀e,e∈ks->sZ bO e)(F:∀e,e∈ms->oN bO e)(o:∀e,e∈O->H6 bO e)(E:∀e,e∈rs->E9 bO e){d:Nat}{W:Array Oper}{U s1:St}(J:Sv bO W U s1){f:Nat}{fn:Func}(hf:bO.funcs[f]?=some fn)(X:yx bO L (dH fn))
  {args : List AV} {r : AV} (h : evD bO l ks ms O rs d W.toList U s1 L fn args ret = some (Out.of r)) (I : (fn.name == "runtime.NumGoroutine") = false := by kernel_rfl) (hb : fn.body = some (dH fn) := by kernel_rfl) (G : apB args.length fn.ntmps = true := by rfl) : aj bO f args r :=
 vG (jV hl H F o E) (ZP (gJ (jV hl H F o E) (by kernel_rfl)) J) 40 hf I hb X G h
section
variable(n:Nat)(f f1:Nat->Int)(lo hi:Int)(k:Nat)(C:Nat->fZ)(bh sh bl sl:Int)(m:Nat)(u:Nat->Int)(c:Int)
abbrev aEF:Prop:=vV bO 309 [XC k C m u,iA hi,.fn (.func 310) [] []] (iA c)/\iq (iA c)=true
noncomputable def az6:Bool:=((jv (aEF hi k C m u c)&&(amH 1 1&&apB m m))||false)&&true
noncomputable def plE:Option Out:=cond (az6 hi k C m u c) (cond (decide (bh>c)) (cond (apI m 8||false) (some (Out.of (.sl 1 (m+1) λ j=>bM (Tv (0+j) m) [iA (u (0+j))] [iA hi]))) none) (some (Out.of (.sl 1 m λ j=>[iA (u (0+j))])))) none
noncomputable abbrev az7:St:=plS n f f1 lo hi k C bh sh [] (plM hi k C bh sh)
noncomputable abbrev aGw:St:=plS n f f1 lo hi k C bh sh [p3 lo,p4 lo bl sl,p5 hi bh sh,(26,.bK [])] (ahQ hi k C bh sh m u)
noncomputable def pGm:Prop:=oF.toList=oF.toList/\az7 n f f1 lo hi k C bh sh=az7 n f f1 lo hi k C bh sh
theorem az8:evD bO [] [kS bO 306 (λ _=>pA n f1),kS bO 305 (λ _=>Ro k C)] [] [] [rS2 bO 307 (λ _=>iw hi bh sh),rS2 bO 309 (λ _=>iA c)] 23 oF.toList (az7 n f f1 lo hi k C bh sh) (aGw n f f1 lo hi k C bh sh bl sl m u) bC aNo [pA n f,iA lo,iA hi] ret =
  cond (Bl n lo hi) (some (Out.of oQ)) (gate (aj bO 306 [pA n f] (pA n f1)) (gate (aj bO 305 [pA n f1] (Ro k C)) (cond (acN k C hi bh sh) (gate (pGm n f f1 lo hi k C bh sh) (plE hi k C bh m u c)) none))):=by kernel_rfl
end
theorem atj{E:Env}{X:AV}{u:Nat->Int}{v:Value}(h:rel E (.ref [X,oQ] 0) v):rel E (.ref [X,sJ 0 u] 0) v:=by obtain⟨b,o,Z,e,fz,W,h2,U,O⟩:=nR.1 h;refine nR.2 ⟨b,o,Z,e,fz,W,h2,U,?_⟩;obtain⟨G,F,e3,I,J⟩:=bF.1 O;obtain⟨u1,d,e4,H,k3⟩:=bF.1 J;exact bF.2 ⟨G,F,e3,I,bF.2 ⟨u1,d,e4,wB H,k3⟩⟩
theorem au7{k:Nat}{C:Nat->fZ}{a b s:Int}(h:aj bO 307 [XC k C 0 λ _=>0,iA a] (iw a b s)):ayQ k C a b s :=
 ⟨yA (aj.vD h λ E F d=>by obtain⟨e,o,e0,r0,d⟩:=aD.1 d;exact aD.2 ⟨e,o,e0,atj r0,d⟩) rfl,rfl⟩
def azH(N S:Int->Int)(c lo hi:Int):List Int:=J5 N S ((hi - lo).toNat+1) lo hi++if N hi>c then [hi]else []
def lsJ(L:List Int):AV:=sJ L.length λ q=>L.getD q 0
theorem ano{n:Nat}{f f1:Nat->Int}{k:Nat}{C:Nat->fZ}{N S:Int->Int}{lo hi c:Int}(hn:2<=n)(hlh:lo<=hi)(H:apr k C N S lo hi)(F:aj bO 306 [pA n f] (pA n f1))(G:aj bO 305 [pA n f1] (Ro k C))(I:∀(m:Nat) (u:Nat->Int),aj bO 309 [XC k C m u,iA hi,.fn (.func 310) [] []] (iA c)):aj bO 303 [pA n f,iA lo,iA hi] (lsJ (azH N S c lo hi)):=by
 have Z:=H.nn lo (af2 _) hlh;have X:=H.nn hi hlh (af2 _);have o:=J8 H (hi - lo).toNat lo hi (af2 _) hlh (af2 _) (by omega) 0 (λ _=>0) (by omega);have O:=Mr (S:=S) H.mono ((hi - lo).toNat+1) lo hi (af2 _) hlh (af2 _);have d:=ayP (n:=n) (f:=f) (f1:=f1) (by kernel_rfl) (au7 (H.ah lo (af2 _) hlh 0 _)) (aDt o);have W:acN k C hi (N hi) (S hi)=true:=by unfold acN;rw[jl (au7 (H.ah hi hlh (af2 _) 0 _))];rfl
 have hB:Bl n lo hi=false:=by unfold Bl;rw[iH (show ¬((n:Nat):Int)<2 by omega),iH (show ¬lo>hi by omega)];rfl
 unfold azH;generalize J5 N S ((hi - lo).toNat+1) lo hi=L at *
 have U:az6 hi k C (0+L.length) (Gm 0 (λ _=>0) L) c=true:=by unfold az6;rw[jl (show aEF hi k C (0+L.length) (Gm 0 (λ _=>0) L) c from⟨yA (I _ _) rfl,rfl⟩),agl (ND _)];rfl
 have ev:=az8 n f f1 lo hi k C (N hi) (S hi) (N lo) (S lo) (0+L.length) (Gm 0 (λ _=>0) L) c;rw[hB,ak F,ak G,W,ak (show pGm n f f1 lo hi k C (N hi) (S hi) from⟨rfl,rfl⟩),eU,aY]at ev;unfold plE at ev;rw[U,aY]at ev;have ks:∀e,e∈[kS bO 306 (λ _=>pA n f1),kS bO 305 (λ _=>Ro k C)]->sZ bO e:=au aG (au aG ay);have J:∀e,e∈[rS2 bO 307 (λ _=>iw hi (N hi) (S hi)),rS2 bO 309 (λ _=>iA c)]->E9 bO e:=J3 Ni (J3 Ni gQ);by_cases hc:N hi>c
 .rw[gG hc,aiX (by omega)]at ev;rw[gH hc];refine aj.wD (anT aB ks aV fH J d aLQ aC (r:=.sl 1 (0+L.length+1) λ j=>bM (Tv (0+j) (0+L.length)) [iA (Gm 0 (λ _=>0) L (0+j))] [iA hi]) ev) λ E v h=>?_;unfold lsJ;rw[aiR,show L.length+[hi].length=0+L.length+1 by simp];refine ql h λ q hq=>?_;rw[ZO q,Mq _ _ hi hq,TM];show [iA ((L++[hi]).getD q 0)]=[iA (Gm 0 (λ _=>0) (L++[hi]) q)];unfold Gm;rw[fP (avm q),aKm]
 .rw[iH hc,eU]at ev;rw[fP hc,List.append_nil];refine aj.wD (anT aB ks aV fH J d aLQ aC (r:=.sl 1 (0+L.length) λ j=>[iA (Gm 0 (λ _=>0) L (0+j))]) ev) λ E v h=>?_;unfold lsJ;rw[show L.length=0+L.length by omega];refine ql h λ q hq=>?_;show [iA (L.getD q 0)]=[iA (Gm 0 (λ _=>0) L (0+q))];unfold Gm;rw[ZO,fP (avm q),aKm]
open Go.Ev (aJ jf nN aW tZ vl aA kL I7 I6 I8 iJ)
def Zw(x:Int):Nat:=aA x.natAbs
theorem Ww(x:Int):Zw (-x)=Zw x:=by unfold Zw;rw[aJD]
theorem su(x y:Int):Zw (x*y)<=Zw x+Zw y:=by
 unfold Zw;rw[aHq];refine I7 ?_;rw[Nat.pow_add];have d:=kL x.natAbs;have h2:=kL y.natAbs;rcases Nat.eq_zero_or_pos y.natAbs with h |h
 .rw[h,Nat.mul_zero];exact Nat.mul_pos (iJ _) (iJ _)
 .exact anS ((Nat.mul_lt_mul_right h).2 d) (apL _ (aHR h2))
theorem Kn{x y:Int}{B:Nat}(e:Zw x<=B)(d:Zw y<=B):Zw (x+y)<=B+1:=by unfold Zw at *;refine I7 ?_;have E:x.natAbs<aJ ^ B:=anS (kL _) (agX jf e);have h2:y.natAbs<aJ ^ B:=anS (kL _) (agX jf d);have o:aJ ^ B*2<=aJ ^ B*aJ:=apL _ (by decide);rw[Nat.pow_succ];have:=Int.natAbs_add_le x y;omega
theorem G5{x:Int}(h:x.natAbs<18446744073709551616):Zw x<=1:=I7 (by rw[aOt];exact h)
theorem nZ{x:Int}(h:Zw x<=1000000):Sm x:=by unfold Sm;unfold Zw at h;omega
theorem tL:Zw 0=0:=rfl
theorem aoV{f:Nat->Int}{x:Int}{B X:Nat}(hf:∀i,Zw (f i)<=B)(e:Zw x<=X):∀d i,Zw (hor f x i d)<=B+d*(X+1)
 | 0,_=>by show Zw 0<=_;rw[tL];exact alz _
 |d+1,i=>by have h:=aoV hf e d (i+1);have o:Zw (hor f x (i+1) d*x)<=B+d*(X+1)+X:=aa2 (su _ _) (aID h e);have h2:=hf i;show Zw (hor f x (i+1) d*x+f i)<=_;refine aa2 (Kn (B:=B+d*(X+1)+X) o (by omega)) ?_;rw[auK];omega
theorem aoW{f:Nat->Int}{n B:Nat}(hc:Cn n f)(hn:n<=1000000)(hf:∀i,Zw (f i)<=B)(q:Nat):Zw (Fw f q)<=B+1:=by
 unfold Fw;by_cases h:n<=q+1
 .rw[hc (q+1) h,aHU,tL];exact alz _
 .exact aa2 (su _ _) (aID (hf _) (G5 (by omega)))
theorem aoX{n:Nat}{f:Nat->Int}(hc:Cn n f):∀j,Cn (n - j) (Nb f j)
 | 0=>hc
 |j+1=>by have:=acp (aoX hc j);rw[aOv]at this;exact this
theorem aoY{f:Nat->Int}{n B:Nat}(hc:Cn n f)(hn:n<=1000000)(hf:∀i,Zw (f i)<=B):∀j q,Zw (Nb f j q)<=B+j
 | 0,q=>hf q
 |j+1,q=>by have:=aoW (aoX hc j) (by omega) (aoY hc hn hf j) q;show Zw (Fw (Nb f j) q)<=_;omega
theorem ava{n B:Nat}{f:Nat->Int}{x:Int}(hc:Cn n f)(hn:n<=1000)(hB:B<=100000)(hf:∀i,Zw (f i)<=B)(e:Zw x<=1)(j:Nat)(o:j<=n):HB (n - j) (Nb f j) x:=by have d:=aoY hc (by omega) hf j;refine⟨by omega,nZ (by omega),λ i=>nZ (aa2 (d i) (by omega)),λ t ht=>?_⟩;have E:=aoV d e t (n - j - t);exact⟨nZ (by omega),nZ (aa2 (su _ _) (by omega))⟩
theorem aA7{f g:Nat->Int}{n m B G:Nat}(hf:∀i,Zw (f i)<=B)(hg:∀i,Zw (g i)<=G)(q:Nat):Zw (x9 f n g m q)<=B+G+1:=by
 unfold x9;have ht:Zw (uf g m)<=G:=by unfold uf Zw;exact hg (m - 1)
 have hl:Zw (Cz f n g m)<=B:=by
  unfold Cz;split
  .rw[Ww];exact hf _
  .exact hf _
 refine Kn (aa2 (su _ _) (aID (hf q) ht)) ?_;split
 .exact aa2 (su _ _) (aID hl (hg _))
 .rw[tL];exact alz _
theorem adX{g:Nat->Int}{m B G:Nat}(hg:∀i,Zw (g i)<=G){p:fZ}(hf:∀i,Zw (p.2 i)<=B):∀t i,Zw ((yc m g t p).2 i)<=B+t*(G+1)
 | 0,i=>by rw[Nat.zero_mul];exact hf i
 |t+1,i=>by rw[zK];have:=aA7 (n:=(yc m g t p).1) (m:=m) (adX (m:=m) hg hf t) hg i;show Zw (x9 (yc m g t p).2 (yc m g t p).1 g m i)<=_;rw[auK];omega
theorem KV{p:fZ}{k:Nat}(hk:∀j,j<k->0<(cq p (j+1)).1):∀j,j<=k->(cq p (j+1)).1+j+1<=p.1\/(cq p (j+1)).1=0
 | 0,_=>by show p.1 - 1+0+1<=p.1\/p.1 - 1=0;omega
 |j+1,hj=>by have d:=hk j (by omega);have e:=KV hk j (by omega);obtain⟨_,h2⟩:=Gn (m:=(cq p (j+1)).1) d (cq p (j+1)).2 (cq p j).1 (cq p j) (ND _);have h2:(cq p (j+2)).1<(cq p (j+1)).1:=h2;show(cq p (j+2)).1+(j+1)+1<=p.1\/(cq p (j+2)).1=0;omega
def bz(B:Nat):Nat->Nat
 | 0=>B
 | 1=>B+1
 |j+2=>bz B j+5*(bz B (j+1)+1)
theorem anh{p:fZ}{k B:Nat}(hn:p.1<=5)(hc:Cn p.1 p.2)(hB:∀i,Zw (p.2 i)<=B)(hk:∀j,j<k->0<(cq p (j+1)).1):∀j,j<=k->(∀i,Zw ((cq p j).2 i)<=bz B j)/\∀i,Zw ((cq p (j+1)).2 i)<=bz B (j+1)
 | 0,_=>⟨hB,λ i=>aoW hc (by omega) hB i⟩
 |j+1,hj=>by
  obtain⟨d,h2⟩:=anh hn hc hB hk j (by omega);refine⟨h2,λ i=>?_⟩
  have hl:(cq p j).1<=5:=by
   cases j with
   |zero=>exact hn
   |succ j=>rcases KV hk j (by omega)with h |h<;>omega
  have e:=aaH (cq p (j+1)).1 (cq p (j+1)).2 (cq p j).1 (cq p j);have:=adX (m:=(cq p (j+1)).1) h2 d (rcn (cq p (j+1)).1 (cq p (j+1)).2 (cq p j).1 (cq p j)) i;show Zw (-(nJ (cq p (j+1)).1 (cq p (j+1)).2 (cq p j)).2 i)<=_;rw[Ww];refine aa2 this ?_;show _<=bz B j+5*(bz B (j+1)+1);exact Nat.add_le_add_left (Nat.mul_le_mul_right _ (by omega)) _
theorem au0{B:Nat}(hB:B<=50):∀j,j<=5->bz B j<=50000
 | 0,_=>by show B<=_;omega
 | 1,_=>by show B+1<=_;omega
 | 2,_=>by simp only[bz];omega
 | 3,_=>by simp only[bz];omega
 | 4,_=>by simp only[bz];omega
 | 5,_=>by simp only[bz];omega
 |j+6,h=>by omega
theorem au1{p:fZ}{k B:Nat}(hn:p.1<=5)(hc:Cn p.1 p.2)(hb:B<=50)(hB:∀i,Zw (p.2 i)<=B)(hk:∀j,j<k->0<(cq p (j+1)).1)(E:k<=4):CB p k:=by
 have z:=anh hn hc hB hk;have b:∀j,j<=5->bz B j<=50000:=au0 hb
 have len:∀j,j<=k->(cq p j).1<=5:=λ j d=>by
  cases j with
  |zero=>exact hn
  |succ j=>rcases KV hk j (by omega)with h |h<;>omega
 have e:∀j,j<k->∀t,t<=(cq p j).1->∀i,Zw ((yc (cq p (j+1)).1 (cq p (j+1)).2 t (cq p j)).2 i)<=400000:=λ j d t ht i=>by have h:=adX (m:=(cq p (j+1)).1) (z j (by omega)).2 (z j (by omega)).1 t i;have hl:=len j (by omega);have G:=b j (by omega);have o:=b (j+1) (by omega);have:t*(bz B (j+1)+1)<=5*(50000+1):=Nat.mul_le_mul (by omega) (by omega);omega
 refine⟨by omega,hc,λ i=>nZ (aa2 (hB i) (by omega)),λ j d i=>?_,λ j d t ht i=>nZ (aa2 (e j d t ht i) (by decide)),λ j d t ht i l=>?_⟩
 .have:=(z j (by omega)).2 i;have o:=b (j+1) (by omega);exact nZ (by omega)
 .have F:=e j d t ht i;have h2:=(z j (by omega)).2 l;have o:=b (j+1) (by omega);exact nZ (aa2 (su _ _) (by omega))
def Tp(p:fZ):Prop:=p.1=0\/p.2 (p.1 - 1)≠0
theorem aof(f:Nat->Int):∀j q,∃c:Int,0<c/\Nb f j q=f (q+j)*c
 | 0,q=>⟨1,by decide,by show f q=f q*1;rw[aJ2]⟩
 |j+1,q=>by obtain⟨c,d,h2⟩:=aof f j (q+1);refine⟨c*((q+1:Nat):Int),Int.mul_pos d (by omega),?_⟩;show Nb f j (q+1)*((q+1:Nat):Int)=_;rw[h2,Int.mul_assoc,show q+1+j=q+(j+1) by omega]
theorem atu{n:Nat}{f:Nat->Int}(hn:0<n)(ht:f (n - 1)≠0)(x:Int):hv f n x (n - 1)≠0:=by obtain⟨c,d,h2⟩:=aof f (n - 1) 0;unfold hv;rw[show n - (n - 1)=1 by omega];show 0*x+Nb f (n - 1) 0≠0;rw[h2,aHU,Int.zero_add,ZO];exact aNB ht (by omega)
def Sj(g:Nat->Int):Nat->Nat
 | 0=>0
 |k+1=>if Sj g k<k then Sj g k else if g k≠0 then k else k+1
theorem adH(g:Nat->Int):∀k,Sj g k<=k/\(∀j,j<Sj g k->g j=0)/\(Sj g k<k->g (Sj g k)≠0)
 | 0=>⟨ND _,λ j o=>by have:j<0:=o;omega,λ h=>by have:0<0:=h;omega⟩
 |k+1=>by
  obtain⟨F,h2,E⟩:=adH g k;unfold Sj;by_cases hk:Sj g k<k
  .rw[gH hk];exact⟨by omega,h2,λ _=>E hk⟩
  .have e:Sj g k=k:=by omega
   rw[fP hk];rw[e]at h2;by_cases hg:g k≠0
   .rw[gH hg];exact⟨by omega,h2,λ _=>hg⟩
   .rw[fP hg];refine⟨ND _,λ j o=>?_,λ h=>by omega⟩;by_cases d:j=k
    .rw[d];exact acQ hg
    .exact h2 j (by omega)
theorem aAf{g:Nat->Int}{k j:Nat}(d:j<k)(h:g j≠0):Sj g k<k:=by
 obtain⟨e,h2,_⟩:=adH g k;rcases Nat.lt_or_ge (Sj g k) k with hl |hg
 .exact hl
 .exact absurd (h2 j (by omega)) h
def Jo(side:Int)(p:fZ)(x:Int):Int:=(hv p.2 p.1 x (Sj (hv p.2 p.1 x) p.1)).sign*Qy side (Sj (hv p.2 p.1 x) p.1)
section
variable{p:fZ}{B:Nat}{x:Int}(hp:0<p.1)(ht:Tp p)
include hp ht
theorem afd(x:Int):Sj (hv p.2 p.1 x) p.1<p.1/\(∀j,j<Sj (hv p.2 p.1 x) p.1->hv p.2 p.1 x j=0)/\hv p.2 p.1 x (Sj (hv p.2 p.1 x) p.1)≠0:=by have d:p.2 (p.1 - 1)≠0:=ht.resolve_left (by omega);have hl:=aAf (g:=hv p.2 p.1 x) (show p.1 - 1<p.1 by omega) (atu hp d x);obtain⟨_,h2,e⟩:=adH (hv p.2 p.1 x) p.1;exact⟨hl,h2,e hl⟩
theorem OX{side:Int}(hs:side=1\/side=-1)(x:Int):Jo side p x=1\/Jo side p x=-1:=by
 obtain⟨_,_,d⟩:=afd hp ht x;unfold Jo;rcases gy (hv p.2 p.1 x (Sj (hv p.2 p.1 x) p.1))with⟨_,h⟩ | ⟨h,_⟩ | ⟨_,h⟩
 .rcases zu hs (Sj (hv p.2 p.1 x) p.1)with e |e<;>rw[h,e]<;>decide
 .exact absurd h d
 .rcases zu hs (Sj (hv p.2 p.1 x) p.1)with e |e<;>rw[h,e]<;>decide
theorem anj(hc:Cn p.1 p.2)(hn:p.1<=1000)(hB:B<=100000)(hf:∀i,Zw (p.2 i)<=B)(d:Zw x<=1):aj bO 321 [fD p,wA x] (iA (Jo (-1) p x)):=by obtain⟨E,h2,e⟩:=afd hp ht x;exact atv (λ j o=>ava hc hn hB hf d j (by omega)) h2 e
theorem ank(hc:Cn p.1 p.2)(hn:p.1<=1000)(hB:B<=100000)(hf:∀i,Zw (p.2 i)<=B)(d:Zw x<=1):aj bO 310 [fD p,wA x] (iA (Jo 1 p x)):=by obtain⟨E,h2,e⟩:=afd hp ht x;exact atw (λ j o=>ava hc hn hB hf d j (by omega)) h2 e
end
theorem aAg{m:Nat}{g:Nat->Int}{p:fZ}(ht:Tp p):∀t,Tp (yc m g t p)
 | 0=>ht
 |t+1=>by
  rw[zK];show tl (x9 (yc m g t p).2 (yc m g t p).1 g m) ((yc m g t p).1 - 1)=0\/_;by_cases h:tl (x9 (yc m g t p).2 (yc m g t p).1 g m) ((yc m g t p).1 - 1)=0
  .exact wV h
  .exact Gc (U6 _ _ h)
theorem LM{p:fZ}(ht:Tp p):∀j,Tp (cq p j)/\Tp (cq p (j+1))
 | 0=>by
  refine⟨ht,?_⟩;show p.1 - 1=0\/Fw p.2 (p.1 - 1 - 1)≠0;by_cases h:p.1<=1
  .exact wV (by omega)
  .right;unfold Fw;rw[show p.1 - 1 - 1+1=p.1 - 1 by omega];exact aNB (ht.resolve_left (by omega)) (by omega)
 |j+1=>by
  obtain⟨d,h2⟩:=LM ht j;refine⟨h2,?_⟩;have:=aAg (m:=(cq p (j+1)).1) (g:=(cq p (j+1)).2) d (rcn (cq p (j+1)).1 (cq p (j+1)).2 (cq p j).1 (cq p j));rcases this with h |h
  .exact wV h
  .right;show -(nJ (cq p (j+1)).1 (cq p (j+1)).2 (cq p j)).2 ((nJ (cq p (j+1)).1 (cq p (j+1)).2 (cq p j)).1 - 1)≠0;have h:(nJ (cq p (j+1)).1 (cq p (j+1)).2 (cq p j)).2 ((nJ (cq p (j+1)).1 (cq p (j+1)).2 (cq p j)).1 - 1)≠0:=h;omega
theorem ang(p:fZ):∃k,k<=p.1/\(∀j,j<k->0<(cq p (j+1)).1)/\(cq p (k+1)).1=0:=by
 rcases o9 (λ j=>decide (0<(cq p (j+1)).1)) (p.1+1)with hl | ⟨K,hK,hp,hq⟩
 .exfalso;have h:=KV (p:=p) (k:=p.1) (λ j d=>by simpa using hl j (by omega)) p.1 (ND _);have:=hl p.1 (by omega);simp at this;omega
 .exact⟨K,by omega,λ j d=>by simpa using hq j d,by simpa using hp⟩
def nV(p:fZ):fZ:=(p.1,zm p.2 p.1)
theorem adb:∀j:Nat,Zw ((65536:Int) ^ j)<=j+1
 | 0=>by rw[aMe];exact G5 (by decide)
 |j+1=>by rw[aMd];exact aa2 (su _ _) (aID (adb j) (G5 (by decide)))
theorem VI{p:fZ}(ht:Tp p):Tp (nV p):=by
 rcases ht with h |h
 .exact wV h
 .right;show p.2 (p.1 - 1)*65536 ^ (p.1 - 1 - (p.1 - 1))≠0;rw[aIr,aMe,aJ2];exact h
theorem anf{p:fZ}{B:Nat}(hn:p.1<=5)(hB:∀i,Zw (p.2 i)<=B)(i:Nat):Zw ((nV p).2 i)<=B+5:=by have h:=adb (p.1 - 1 - i);exact aa2 (su _ _) (aID (hB i) (by omega))
def Nsd(side:Int)(P:fZ)(k:Nat)(a:Int):Int:=Mf (λ q=>Jo side (cq P q) a) (k+1)
noncomputable def uS(P:fZ):Nat:=(ang P).choose
theorem Bv(P:fZ):uS P<=P.1/\(∀j,j<uS P->0<(cq P (j+1)).1)/\(cq P (uS P+1)).1=0:=(ang P).choose_spec
theorem VJ(P:fZ)(hn:0<P.1):uS P+1<=P.1:=by
 obtain⟨d,h2,_⟩:=Bv P;cases hk:uS P with
 |zero=>omega
 |succ j =>
  rw[hk]at h2;have h:=KV h2 j (by omega);have:=h2 j (by omega);omega
noncomputable def rtN(P:fZ)(a:Int):Int:=Nsd (-1) P (uS P) a
noncomputable def rtC(P:fZ)(a:Int):Int:=Nsd 1 P (uS P) a
noncomputable def aEi(p:fZ)(lo hi:Int):List Int:=azH (rtN (nV p)) (Jo (-1) (nV p)) (rtC (nV p) hi) lo hi
section
variable{p:fZ}{B:Nat}(hn2:2<=p.1)(hn:p.1<=5)(hc:Cn p.1 p.2)(ht:Tp p)(hB:B<=45)(hf:∀i,Zw (p.2 i)<=B)
include hn2 hn hc ht hB hf
theorem Pz{a:Int}(ha:-2000000000000000<=a)(hb:a<=2000000000000000)(q:Nat)(hq:q<uS (nV p)+1):aj bO 321 [fD (cq (nV p) q),wA a] (iA (Jo (-1) (cq (nV p) q) a))/\aj bO 310 [fD (cq (nV p) q),wA a] (iA (Jo 1 (cq (nV p) q) a))/\0<(cq (nV p) q).1:=by
 obtain⟨I,h2,H⟩:=Bv (nV p);have hN:(nV p).1=p.1:=rfl;have F:=VJ (nV p) (by omega);have E:Cn (nV p).1 (nV p).2:=ade hc;have o:=anf hn hf;have z:=anh (B:=B+5) (by omega) E o h2 q (by omega);have J:=au0 (B:=B+5) (by omega) q (by omega);have G:=au1 (B:=B+5) (by omega) E (by omega) o h2 (by omega);have ok:=ani G h2 q (by omega)
 have hpos:0<(cq (nV p) q).1:=by
  cases q with
  |zero=>show 0<p.1;omega
  |succ q=>exact h2 q (by omega)
 have hl:(cq (nV p) q).1<=1000:=by
  cases q with
  |zero=>show p.1<=1000;omega
  |succ q=>rcases KV h2 q (by omega)with h |h<;>omega
 have d:=(LM (VI ht) q).1;have e:Zw a<=1:=G5 (by omega);exact⟨anj hpos d ok.1.1 hl (by omega) z.1 e,ank hpos d ok.1.1 hl (by omega) z.1 e,hpos⟩
theorem aEj{lo hi:Int}(d:-2000000000000000<=lo)(e:hi<=2000000000000000)(mono:∀a b,lo<=a->a<=b->b<=hi->rtN (nV p) b<=rtN (nV p) a):apr (uS (nV p)+1) (cq (nV p)) (rtN (nV p)) (Jo (-1) (nV p)) lo hi:=by
 have E:=VJ (nV p) (show 0<p.1 by omega);have hN:(nV p).1=p.1:=rfl;refine⟨by omega,d,e,λ a o h2=>(Pz hn2 hn hc ht hB hf (by omega) (by omega) 0 (by omega)).1,λ a o h2=>?_,mono,λ a o h2 m u=>?_⟩
 .have:=U9 (λ q=>Jo (-1) (cq (nV p) q) a) (uS (nV p)+1);unfold rtN Nsd;omega
 .exact anl (by omega) (by omega) (by omega) (by omega) (λ q hq=>OX (Pz hn2 hn hc ht hB hf (a:=a) (by omega) (by omega) q hq).2.2 (LM (VI ht) q).1 (Gc rfl) a) (λ q hq=>(Pz hn2 hn hc ht hB hf (by omega) (by omega) q hq).1) m u
theorem anm{lo hi:Int}(hlh:lo<=hi)(d:-2000000000000000<=lo)(e:hi<=2000000000000000)(mono:∀a b,lo<=a->a<=b->b<=hi->rtN (nV p) b<=rtN (nV p) a):aj bO 303 [fD p,iA lo,iA hi] (lsJ (aEi p lo hi)):=by obtain⟨I,h2,F⟩:=Bv (nV p);have hN:(nV p).1=p.1:=rfl;have o:=VJ (nV p) (by omega);have E:Cn (nV p).1 (nV p).2:=ade hc;have G:=au1 (B:=B+5) (by omega) E (by omega) (anf hn hf) h2 (by omega);refine ano (n:=p.1) (f:=p.2) (f1:=zm p.2 p.1) hn2 hlh (aEj hn2 hn hc ht hB hf d e mono) (adf (by omega) hc (λ i=>nZ (aa2 (hf i) (by omega))) λ j H=>nZ (aa2 (adb j) (by omega))) (asY G (by omega) h2 F) λ m u=>?_;exact alv (by omega) (by omega) (by omega) (λ q hq=>OX (Pz hn2 hn hc ht hB hf (a:=hi) (by omega) (by omega) q hq).2.2 (LM (VI ht) q).1 (wV rfl) hi) λ q hq=>(Pz hn2 hn hc ht hB hf (by omega) (by omega) q hq).2.1
end
theorem axu(n:Nat)(f:Nat->Int)(lo hi:Int):ev bO [] [⟨306,λ _ _=>none⟩] bC aNo [pA n f,iA lo,iA hi] ret=cond (Bl n lo hi) (some (Out.of oQ)) none:=by kernel_rfl
theorem axv{n:Nat}{f:Nat->Int}{lo hi:Int}(h:Bl n lo hi=true):aj bO 303 [pA n f,iA lo,iA hi] (lsJ []) :=aj.wD (r:=oQ) (aR aB (au (CJ _) ay) aLQ aC ((axu n f lo hi).trans (by rw[h];rfl))) λ _ _=>wB
def rtA(o:List Int × Int):AV:=.bK [lsJ o.1,iA o.2]
theorem Yl{f:Nat}{args:List AV}{e:Int}(h:aj bO f args (.bK [.x (.slice none 0 0),iA e])):aj bO f args (rtA ([],e)):=aj.wD h λ _ _ d=>ahi d λ _=>wB
open Go.Em (qG Ld kJ)
section
variable(n:Nat)(f:Nat->Int)
end
section
variable(n:Nat)(f:Nat->Int)(m:Nat)(g:Nat->Int)(i:Int)
end
section
end
section
end
section
end
section
end
abbrev Bg:Type:=Bool × Nat
def bv(x:Bg):Int:=if x.1 then -(x.2:Int)else(x.2:Int)
section
variable(x y:Bg)
end
def aFI(x:Bg):Bg:=(!x.1,x.2)
def awv(x y:Bg):Bg:=if x.1=y.1 then(x.1,x.2+y.2)else if y.2<=x.2 then(x.1,x.2 - y.2)else(y.1,y.2 - x.2)
section
end
def bOf(n:Int):Bg:=(decide (n<0),n.natAbs)
section
variable(s:Bool)(n:Nat)(f:Nat->Int)(t:Bool)(m:Nat)(g:Nat->Int)(N:Nat)(i cr j:Int)(Y:Nat->Int)
end
end Go.Proofs.YtdlhemnconimnaaGreat
namespace Go.Em
section
end
end Go.Em
namespace Go.Proofs.YtdlhemnconimnaaGreat
open Go.Gv
open Go.Em (qG Ld kJ)
def aww(x y:Bg):Bg:=(!(x.1==y.1),x.2*y.2)
section
variable{s t:Bool}{a b N:Nat}(hN:N=kJ a+kJ b+1)(hs:N<=10000000000000)
include hN hs
end
section
variable(n:Nat)(p:Nat->Int)(x i:Int)(u v:Bg)
end
def btl(f:Nat->Bg)(n:Nat):Nat:=tl (λ i=>bv (f i)) n
section
variable(n:Nat)(f:Nat->Bg)
end
section
variable(n:Nat)(f:Nat->Bg)(m:Nat)(g:Nat->Bg)(i:Int)(c:Nat)(el:Nat->List AV)
end
section
variable(n:Nat)(f:Nat->Bg)(k:Bg)(i:Int)(c:Nat)(el:Nat->List AV)
end
section
variable(n:Nat)(f:Nat->Bg)(i:Int)(c:Nat)(el:Nat->List AV)
end
end Go.Proofs.YtdlhemnconimnaaGreat
namespace Go.iE
abbrev Fn:Type:=Rat->Rat
def Ab(a A:Rat):Prop:=-A<=a/\a<=A
theorem Ab.add{a b A B:Rat}(h:Ab a A)(k:Ab b B):Ab (a+b) (A+B):=⟨by grind [Ab],by grind [Ab]⟩
theorem Ab.neg{a A:Rat}(h:Ab a A):Ab (-a) A:=⟨by grind [Ab],by grind [Ab]⟩
theorem Ab.mono{a A B:Rat}(h:Ab a A)(k:A<=B):Ab a B:=⟨by grind [Ab],by grind [Ab]⟩
theorem Ab.nn{a A:Rat}(h:Ab a A):0<=A:=by grind [Ab]
theorem Ab.mul{a b A B:Rat}(h:Ab a A)(k:Ab b B):Ab (a*b) (A*B):=by have o:0<=(A - a)*(B+b):=aFF (by grind [Ab]) (by grind [Ab]);have h2:0<=(A+a)*(B - b):=aFF (by grind [Ab]) (by grind [Ab]);have e:0<=(A - a)*(B - b):=aFF (by grind [Ab]) (by grind [Ab]);have d:0<=(A+a)*(B+b):=aFF (by grind [Ab]) (by grind [Ab]);exact⟨by grind,by grind⟩
theorem nP(x:Rat):∃A,0<=A/\Ab x A:=by
 by_cases h:0<=x
 .exact⟨x,h,by grind [Ab]⟩
 .exact⟨-x,by grind,by grind [Ab]⟩
theorem aEP(x:Rat):0<=x*x:=by
 by_cases h:0<=x
 .exact aFF h h
 .have:=aFF (show 0<=-x by grind) (show 0<=-x by grind)
  grind
theorem aGC(r:Rat):∃n:Nat,0<n/\r<=(n:Rat):=by refine⟨r.ceil.toNat+1,by omega,aMf (Rat.le_ceil (x:=r)) ?_⟩;rw[<-aMK,aLR];omega
theorem inv_pos{s:Rat}(h:0<s):∃i,0<i/\s*i=1:=by
 have hi:s*s⁻¹=1:=aMV s (by grind);refine⟨s⁻¹,acQ λ d=>?_,hi⟩;have:=aFF (show 0<=-s⁻¹ by grind) (show 0<=s by grind)
 grind
theorem small(c:Rat){d:Rat}(o:0<d):∃t,0<t/\t<=1/\c*t<d:=by
 obtain⟨A,G,ha⟩:=nP c;obtain⟨i,hi,e⟩:=inv_pos (show 0<d+(A+1) by grind);have E:=aHM o hi
 have e2:d*(d*i)+(A+1)*(d*i)=d:=by
  have:d*(d*i)+(A+1)*(d*i)=d*((d+(A+1))*i):=by grind
  rw[this,e];grind
 have H:=aHM o E;generalize d*i=t at *;refine⟨t,E,acQ λ F=>?_,?_⟩
 .have:=aHM (show 0<t - 1 by grind) (show 0<d+(A+1) by grind)
  grind
 .have:=aH0 (show c<=A by grind [Ab]) (show 0<=t by grind)
  grind
theorem parts(c:Rat){d:Rat}(G:0<d):∃(n:Nat) (t:Rat),0<t/\(1:Rat)<=n/\(n:Rat)*t=1/\c<=(n:Rat)*d:=by
 obtain⟨i,hi,e⟩:=inv_pos G;obtain⟨n,F,E⟩:=aGC (c*i)
 have o:(1:Rat)<=(n:Rat):=by have:((1:Nat):Rat)<=(n:Rat):=aIK.2 F;simpa using this
 obtain⟨t,ht,H⟩:=inv_pos (show(0:Rat)<n by grind);refine⟨n,t,ht,o,H,?_⟩;have h:=aH0 E (show 0<=d by grind)
 have e3:c*i*d=c:=by
  have:c*i*d=c*(d*i):=by grind
  rw[this,e];grind
 rw[e3]at h;exact h
def Wv(f g:Fn):Prop:=∀M:Rat,∃C:Rat,0<=C/\∀x y,Ab x M->Ab y M->Ab (f y - f x - (y - x)*g x) (C*((y - x)*(y - x)))
def Bdd(f:Fn):Prop:=∀M:Rat,∃K:Rat,0<=K/\∀x,Ab x M->Ab (f x) K
theorem K9(c:Rat):Wv (λ _=>c) (λ _=>0):=λ M=>⟨0,by grind,λ x y _ _=>by show Ab (c - c - (y - x)*0) (0*((y - x)*(y - x)));exact⟨by grind,by grind⟩⟩
theorem Wv.add{f f' g d:Fn}(h:Wv f f')(k:Wv g d):Wv (λ x=>f x+g x) (λ x=>f' x+d x):=λ M=>by
 obtain⟨C,E,h⟩:=h M;obtain⟨K,hK,k⟩:=k M;refine⟨C+K,by grind,λ x y o e=>?_⟩;have:=(h x y o e).add (k x y o e);have e1:f y+g y - (f x+g x) - (y - x)*(f' x+d x)=f y - f x - (y - x)*f' x+(g y - g x - (y - x)*d x):=by grind
 have e2:(C+K)*((y - x)*(y - x))=C*((y - x)*(y - x))+K*((y - x)*(y - x)):=by grind
 rw[e2];show Ab (f y+g y - (f x+g x) - (y - x)*(f' x+d x)) _;rw[e1];exact this
theorem Wv.smul{f f':Fn}(c:Rat)(h:Wv f f'):Wv (λ x=>c*f x) (λ x=>c*f' x):=λ M=>by
 obtain⟨C,o,h⟩:=h M;obtain⟨A,E,ha⟩:=nP c;refine⟨A*C,aFF E o,λ x y e d=>?_⟩;have:=ha.mul (h x y e d);have e1:c*f y - c*f x - (y - x)*(c*f' x)=c*(f y - f x - (y - x)*f' x):=by grind
 have e2:A*C*((y - x)*(y - x))=A*(C*((y - x)*(y - x))):=by grind
 rw[e2];show Ab (c*f y - c*f x - (y - x)*(c*f' x)) _;rw[e1];exact this
theorem Wv.NH{f f':Fn}(h:Wv f f')(hb:Bdd f'):Wv (λ x=>x*f x) (λ x=>f x+x*f' x):=λ M=>by
 obtain⟨C,o,h⟩:=h M;obtain⟨K,hK,hb⟩:=hb M;by_cases hM:0<=M
 .refine⟨M*C+K,by have:=aFF hM o;grind,λ x y d e=>?_⟩;have E:=e.mul (h x y d e);have h2:Ab ((y - x)*(y - x)*f' x) ((y - x)*(y - x)*K):=(show Ab ((y - x)*(y - x)) ((y - x)*(y - x)) from⟨by have:=aEP (y - x);grind,aIN⟩).mul (hb x d);have e1:y*f y - x*f x - (y - x)*(f x+x*f' x)=y*(f y - f x - (y - x)*f' x)+(y - x)*(y - x)*f' x:=by grind
  have e2:(M*C+K)*((y - x)*(y - x))=M*(C*((y - x)*(y - x)))+(y - x)*(y - x)*K:=by grind
  rw[e2];show Ab (y*f y - x*f x - (y - x)*(f x+x*f' x)) _;rw[e1];exact E.add h2
 .exact⟨0,by grind,λ x y d _=>absurd d.nn hM⟩
theorem Wv.unique{f g d:Fn}(h:Wv f g)(k:Wv f d):g=d:=by
 have key:∀{g d:Fn},Wv f g->Wv f d->∀x,g x<=d x:=by
  intro g d h k x;obtain⟨A,J,ha⟩:=nP x;obtain⟨C,I,h⟩:=h (A+1);obtain⟨K,hK,k⟩:=k (A+1);refine acQ λ hn=>?_;obtain⟨t,ht,G,hs⟩:=small (C+K) (show 0<g x - d x by grind);have E:Ab x (A+1):=ha.mono (by grind);have o:Ab (x+t) (A+1):=⟨by grind [Ab],by grind [Ab]⟩;have H:=(h x (x+t) E o).1;have F:=(k x (x+t) E o).2;have e:x+t - x=t:=by grind
  rw[e]at H F;have:=aHM ht (show 0<g x - d x - (C+K)*t by grind);clear h k hn hs E o ha
  grind
 exact funext λ x=>aJY (key h k x) (key k h x)
inductive PD:Fn->Fn->Prop
 |zero:PD (λ _=>0) (λ _=>0)
 |cons (a:Rat) {f g:Fn}:PD f g->PD (λ x=>a+x*f x) (λ x=>f x+x*g x)
def iY(f:Fn):Prop:=∃g,PD f g
theorem iY.zero:iY (λ _=>0):=⟨_,.zero⟩
theorem iY.cons(a:Rat){f:Fn}(h:iY f):iY (λ x=>a+x*f x):=by obtain⟨g,h⟩:=h;exact⟨_,.cons a h⟩
theorem iY.ind{P:Fn->Prop}(z:P (λ _=>0))(c:∀(a:Rat) {f:Fn},iY f->P f->P (λ x=>a+x*f x)){f:Fn}(h:iY f):P f:=by
 obtain⟨g,h⟩:=h
 induction h with
 |zero=>exact z
 |cons a h ih=>exact c a ⟨_,h⟩ ih
theorem iY.bdd{f:Fn}(h:iY f):Bdd f:=by
 refine h.ind (P:=Bdd) (λ M=>⟨0,by grind,λ x _=>⟨by grind,by grind⟩⟩) λ a f _ e M=>?_;obtain⟨K,hK,e⟩:=e M;obtain⟨A,o,ha⟩:=nP a;by_cases hM:0<=M
 .exact⟨A+M*K,by have:=aFF hM hK;grind,λ x d=>ha.add (d.mul (e x d))⟩
 .exact⟨0,by grind,λ x d=>absurd d.nn hM⟩
theorem iY.add{f g:Fn}(h:iY f)(k:iY g):iY (λ x=>f x+g x):=by
 refine h.ind (P:=λ f=>∀{g:Fn},iY g->iY (λ x=>f x+g x)) (fun{g} k=>?_) (λ a f hf d g k=>?_) k
 .rw[show(λ x=>0+g x)=g from funext λ x=>by grind];exact k
 .refine k.ind (P:=λ g=>iY (λ x=>a+x*f x+g x)) ?_ λ b g hg _=>?_
  .rw[show(λ x=>a+x*f x+0)=λ x=>a+x*f x from funext λ x=>by grind];exact hf.cons a
  .rw[show(λ x=>a+x*f x+(b+x*g x))=λ x=>(a+b)+x*(f x+g x) from funext λ x=>by grind];exact(d hg).cons _
theorem iY.smul{f:Fn}(c:Rat)(h:iY f):iY (λ x=>c*f x):=by
 refine h.ind (P:=λ f=>iY (λ x=>c*f x)) ?_ λ a f _ d=>?_
 .rw[show(λ _:Rat=>c*0)=λ _=>0 from funext λ x=>by grind];exact iY.zero
 .rw[show(λ x=>c*(a+x*f x))=λ x=>c*a+x*(c*f x) from funext λ x=>by grind];exact d.cons _
theorem iY.const(c:Rat):iY (λ _=>c):=by
 have:=iY.zero.cons c
 rwa [show(λ x:Rat=>c+x*0)=λ _=>c from funext λ x=>by grind]at this
theorem iY.NH{f:Fn}(h:iY f):iY (λ x=>x*f x):=by
 have:=h.cons 0
 rwa [show(λ x:Rat=>0+x*f x)=λ x=>x*f x from funext λ x=>by grind]at this
theorem iY.mul{f g:Fn}(h:iY f)(k:iY g):iY (λ x=>f x*g x):=by
 refine h.ind (P:=λ f=>iY (λ x=>f x*g x)) ?_ λ a f _ d=>?_
 .rw[show(λ x=>0*g x)=λ _=>0 from funext λ x=>by grind];exact iY.zero
 .rw[show(λ x=>(a+x*f x)*g x)=λ x=>a*g x+x*(f x*g x) from funext λ x=>by grind];exact(k.smul a).add d.NH
theorem PD.pol{f g:Fn}(h:PD f g):iY g:=by
 induction h with
 |zero=>exact iY.zero
 |cons a h ih=>exact(show iY _ from⟨_,h⟩).add ih.NH
theorem PD.isD{f g:Fn}(h:PD f g):Wv f g:=by
 induction h with
 |zero=>exact K9 0
 |cons a h ih =>
  rename_i f g;have:=(K9 a).add (ih.NH h.pol.bdd)
  rwa [show(λ x=>0+(f x+x*g x))=λ x=>f x+x*g x from funext λ x=>by grind]at this
noncomputable def D(f:Fn):Fn:=open Classical in if h:iY f then h.choose else λ _=>0
theorem aEQ{f:Fn}(h:iY f):PD f (D f):=by unfold D;rw[dif_pos h];exact h.choose_spec
theorem LZ{f:Fn}(h:iY f):Wv f (D f):=(aEQ h).isD
theorem iY.D{f:Fn}(h:iY f):iY (D f):=(aEQ h).pol
theorem atA{f g:Fn}(h:iY f)(k:Wv f g):D f=g:=(LZ h).unique k
theorem AO(c:Rat):D (λ _=>c)=λ _=>0:=atA (iY.const c) (K9 c)
theorem ajj{f g:Fn}(h:iY f)(k:iY g):D (λ x=>f x+g x)=λ x=>D f x+D g x:=atA (h.add k) ((LZ h).add (LZ k))
theorem TP{f:Fn}(c:Rat)(h:iY f):D (λ x=>c*f x)=λ x=>c*D f x:=atA (h.smul c) ((LZ h).smul c)
theorem aaI{f:Fn}(h:iY f):D (λ x=>x*f x)=λ x=>f x+x*D f x:=atA h.NH ((LZ h).NH h.D.bdd)
theorem al6(a:Rat){f:Fn}(h:iY f):D (λ x=>a+x*f x)=λ x=>f x+x*D f x:=by rw[ajj (iY.const a) h.NH,AO,aaI h];exact funext λ x=>by grind
theorem aBE{f g:Fn}(h:iY f)(k:iY g):D (λ x=>f x*g x)=λ x=>D f x*g x+f x*D g x:=by
 refine h.ind (P:=λ f=>D (λ x=>f x*g x)=λ x=>D f x*g x+f x*D g x) ?_ λ a f hf d=>?_
 .rw[AO,show(λ x=>0*g x)=λ _=>0 from funext λ x=>by grind,AO];exact funext λ x=>by grind
 .rw[show(λ x=>(a+x*f x)*g x)=λ x=>a*g x+x*(f x*g x) from funext λ x=>by grind,ajj (k.smul a) (hf.mul k).NH,TP a k,aaI (hf.mul k),d,al6 a hf];exact funext λ x=>by grind
theorem mM{a b x A B:Rat}(ha:Ab a A)(hb:Ab b B)(d:a<=x)(h2:x<=b):Ab x (A+B):=by have:=ha.nn;have:=hb.nn;exact⟨by grind [Ab],by grind [Ab]⟩
theorem mono{f:Fn}(hf:iY f){a b:Rat}(hab:a<=b)(hg:∀x,a<=x->x<=b->0<=D f x):f a<=f b:=by
  obtain⟨A,X,ha⟩:=nP a;obtain⟨B,hB,hb⟩:=nP b;obtain⟨C,W,h⟩:=LZ hf (A+B);refine acQ λ hn=>?_;obtain⟨n,t,ht,I,hi,hn2⟩:=parts (C*((b - a)*(b - a))+1) (show 0<f a - f b by grind);have F:0<=(b - a)*t:=aFF (by grind) (by grind)
  have step:∀k:Nat,k<=n->f a - (k:Rat)*(C*((b - a)*t*((b - a)*t)))<=f (a+(k:Rat)*((b - a)*t)):=by
    intro k
    induction k with
    | zero => intro _;have e:a+((0:Nat):Rat)*((b - a)*t)=a:=by simp;grind
              rw[e];simp;grind
    |succ k o =>
      intro hk;have o:=o (by omega)
      have G:((k:Nat):Rat)+1<=(n:Rat):=by have:((k+1:Nat):Rat)<=(n:Rat):=aIK.2 hk;simpa using this
      have H:(0:Rat)<=(k:Rat):=by have:((0:Nat):Rat)<=(k:Rat):=aIK.2 (alz _);simpa using this
      have ec:((k+1:Nat):Rat)=(k:Rat)+1:=by simp
      rw[ec];have O:0<=(k:Rat)*((b - a)*t):=aFF H F
      have l1:((k:Rat)+1)*((b - a)*t)<=b - a:=by
        have:=aH0 G F;have:(n:Rat)*((b - a)*t)=b - a:=by grind
        grind
      generalize U:a+(k:Rat)*((b - a)*t)=x at o;have J:a+((k:Rat)+1)*((b - a)*t)=x+(b - a)*t:=by grind
      rw[J];have d:a<=x:=by grind
      have E:x+(b - a)*t<=b:=by grind
      have:=(h x (x+(b - a)*t) (mM ha hb d (by grind)) (mM ha hb (by grind) E)).1;have hp:=aFF F (hg x d (by grind))
      grind
  have fin:=step n (ND _);have e1:a+(n:Rat)*((b - a)*t)=b:=by grind
  rw[e1]at fin;have e2:(n:Rat)*(C*((b - a)*t*((b - a)*t)))=C*((b - a)*(b - a))*t:=by grind
  rw[e2]at fin;have:=aBL (show f a - f b<=C*((b - a)*(b - a))*t by grind) (show(0:Rat)<=n by grind);have e3:(n:Rat)*(C*((b - a)*(b - a))*t)=C*((b - a)*(b - a)):=by grind
  grind
theorem aee{f:Fn}(hf:iY f){a b:Rat}(hab:a<b)(hg:∀x,a<=x->x<=b->0<D f x):f a<f b:=by
 obtain⟨A,H,ha⟩:=nP a;obtain⟨B,hB,hb⟩:=nP b;obtain⟨C,G,h⟩:=LZ hf (A+B);have F:=hg a (by grind) (by grind);obtain⟨t,ht,d,hs⟩:=small (C*(b - a)) F;have o:0<(b - a)*t:=aHM (by grind) ht
 have e:(b - a)*t<=b - a:=by
  have:=aBL d (show 0<=b - a by grind)
  grind
 have E:=(h a (a+(b - a)*t) (mM ha hb (by grind) (by grind)) (mM ha hb (by grind) (by grind))).1;have h2:=mono hf (show a+(b - a)*t<=b by grind) λ x E h2=>aKG (hg x (by grind) h2);have J:C*((b - a)*t)<D f a:=by grind
 have I:=aHM o (show 0<D f a - C*((b - a)*t) by grind)
 grind
theorem lip{f:Fn}(hf:iY f)(M:Rat):∃K,0<=K/\∀x y,Ab x M->Ab y M->x<=y->Ab (f y - f x) (K*(y - x)):=by
 obtain⟨C,e,h⟩:=LZ hf M;obtain⟨B,hB,hb⟩:=hf.D.bdd M;by_cases hM:0<=M
 .refine⟨B+C*(2*M),by have:=aFF e (show 0<=2*M by grind);grind,λ x y d o E=>?_⟩;have G:=h x y d o;have h2:Ab ((y - x)*D f x) ((y - x)*B):=(show Ab (y - x) (y - x) from⟨by grind,aIN⟩).mul (hb x d)
  have F:=(G.add h2).mono (B:=(B+C*(2*M))*(y - x)) (by
   have:y - x<=2*M:=by grind [Ab]
   have:=aBL this (show 0<=C*(y - x) from aFF e (by grind))
   grind)
  rwa [show f y - f x - (y - x)*D f x+(y - x)*D f x=f y - f x by grind]at F
 .exact⟨0,by grind,λ x y d _ _=>absurd d.nn hM⟩
theorem agp{f:Fn}(hf:iY f){a b c:Rat}(hab:a<b)(h:∀w,a<w->w<=b->f w<=c):f a<=c:=by
 obtain⟨A,E,ha⟩:=nP a;obtain⟨B,hB,hb⟩:=nP b;obtain⟨K,hK,hl⟩:=lip hf (A+B);refine acQ λ hn=>?_;obtain⟨t,ht,d,hs⟩:=small (K*(b - a)) (show 0<f a - c by grind);have o:0<(b - a)*t:=aHM (by grind) ht
 have e:(b - a)*t<=b - a:=by
  have:=aBL d (show 0<=b - a by grind)
  grind
 have G:=(hl a (a+(b - a)*t) (mM ha hb (by grind) (by grind)) (mM ha hb (by grind) (by grind)) (by grind)).1;have h2:=h (a+(b - a)*t) (by grind) (by grind);have F:K*((b - a)*t)=K*(b - a)*t:=by grind
 clear hl h hn hb ha
 grind
theorem ai4{f:Fn}(hf:iY f){a b c:Rat}(hab:a<b)(h:∀w,a<=w->w<b->f w<=c):f b<=c:=by
 obtain⟨A,E,ha⟩:=nP a;obtain⟨B,hB,hb⟩:=nP b;obtain⟨K,hK,hl⟩:=lip hf (A+B);refine acQ λ hn=>?_;obtain⟨t,ht,d,hs⟩:=small (K*(b - a)) (show 0<f b - c by grind);have o:0<(b - a)*t:=aHM (by grind) ht
 have e:(b - a)*t<=b - a:=by
  have:=aBL d (show 0<=b - a by grind)
  grind
 have G:=(hl (b - (b - a)*t) b (mM ha hb (by grind) (by grind)) (mM ha hb (by grind) (by grind)) (by grind)).2;have h2:=h (b - (b - a)*t) (by grind) (by grind);have F:K*((b - a)*t)=K*(b - a)*t:=by grind
 clear hl h hn hb ha
 grind
structure kT where
 u:Nat->Rat
 v:Nat->Rat
 up:∀n,u n<=u (n+1)
 down:∀n,v (n+1)<=v n
 lt:∀n,u n<v n
 sm:∀e:Rat,0<e->∃n,v n - u n<e
namespace kT
variable(N:kT)
def In(n:Nat)(x:Rat):Prop:=N.u n<=x/\x<=N.v n
theorem ai2{m n:Nat}(h:m<=n):N.u m<=N.u n:=by
 induction h with
 |refl=>exact aIN
 |step _ ih=>exact aMf ih (N.up _)
theorem ai3{m n:Nat}(h:m<=n):N.v n<=N.v m:=by
 induction h with
 |refl=>exact aIN
 |step _ ih=>exact aMf (N.down _) ih
theorem CU(m n:Nat):N.u m<N.v n:=by
 have d:=N.ai2 (aHv m n);have h2:=N.ai3 (aHC m n);have:=N.lt (max m n)
 grind
theorem In.mono{m n:Nat}(h:m<=n){x:Rat}(d:N.In n x):N.In m x:=by have e:=N.ai2 h;have h2:=N.ai3 h;obtain⟨a,b⟩:=d;exact⟨by grind,by grind⟩
theorem W9{m n:Nat}(h:m<=n):N.In m (N.u n):=⟨N.ai2 h,aKG (N.CU n m)⟩
theorem avR{m n:Nat}(h:m<=n):N.In m (N.v n):=⟨aKG (N.CU m n),N.ai3 h⟩
theorem bnd:∃M,∀x,N.In 0 x->Ab x M:=by obtain⟨A,e,ha⟩:=nP (N.u 0);obtain⟨B,hB,hb⟩:=nP (N.v 0);exact⟨A+B,λ x d=>mM ha hb d.1 d.2⟩
def Zr(f:Fn):Prop:=∀e:Rat,0<e->∃n,∀x,N.In n x->Ab (f x) e
def Ps(f:Fn):Prop:=∃c:Rat,0<c/\∃n,∀x,N.In n x->c<=f x
def Lf(x:Rat):Prop:=∃n,x<N.u n
def Rt(x:Rat):Prop:=∃n,N.v n<x
variable{N}
theorem tri{f:Fn}(hf:iY f):N.Zr f\/N.Ps f\/N.Ps (λ x=>-f x):=by
 by_cases F:N.Ps f
 .exact Gc (wV F)
 by_cases h2:N.Ps (λ x=>-f x)
 .exact Gc (Gc h2)
 left;intro e I;obtain⟨M,hM⟩:=N.bnd;obtain⟨K,hK,hl⟩:=lip hf M;obtain⟨i,hi,U⟩:=inv_pos (show 0<K+1 by grind);have H:0<e*i:=aHM I hi;obtain⟨n,hn⟩:=N.sm (e*i / 4) (by grind)
 have near:∀x,N.In n x->Ab (f x - f (N.u n)) (e / 4):=λ x d=>by
  have E:=d.mono N (alz n);have:=hl (N.u n) x (hM _ (N.W9 (alz n))) (hM _ E) d.1;refine this.mono ?_;have O:x - N.u n<=e*i / 4:=by have:=d.2;grind
  have W:=aBL O hK;have h5:K*(e*i / 4)<=(K+1)*(e*i / 4):=by grind
  have J:(K+1)*(e*i / 4)=e*((K+1)*i) / 4:=by grind
  rw[U]at J
  grind
 refine⟨n,λ x d=>?_⟩
 have a1:f (N.u n)<=e / 2:=acQ λ G=>F ⟨e / 4,by grind,n,λ y o=>by
  have:=(near y o).1
  grind⟩
 have X:-(e / 2)<=f (N.u n):=acQ λ G=>h2 ⟨e / 4,by grind,n,λ y o=>by
  have:=(near y o).2;show e / 4<=-f y
  grind⟩
 have:=near x d;exact⟨by grind [Ab],by grind [Ab]⟩
theorem Zr.Nk{f:Fn}(h:N.Zr f):¬N.Ps f:=λ⟨c,hc,n,hp⟩=>by
 obtain⟨m,hm⟩:=h (c / 2) (by grind);have d:=hp (N.u (max m n)) (N.W9 (aHC m n));have h2:=(hm (N.u (max m n)) (N.W9 (aHv m n))).2
 grind
theorem Ps.not_neg{f:Fn}(h:N.Ps f):¬N.Ps (λ x=>-f x):=λ⟨c,hc,n,hp⟩=>by
 obtain⟨d,e,m,hq⟩:=h;have o:=hp (N.u (max m n)) (N.W9 (aHC m n));have h2:=hq (N.u (max m n)) (N.W9 (aHv m n))
 grind
theorem Zr.neg{f:Fn}(h:N.Zr f):N.Zr (λ x=>-f x):=λ e o=>by obtain⟨n,h⟩:=h e o;exact⟨n,λ x d=>(h x d).neg⟩
theorem Zr.add{f g:Fn}(h:N.Zr f)(k:N.Zr g):N.Zr (λ x=>f x+g x):=λ e o=>by
 obtain⟨n,h⟩:=h (e / 2) (by grind);obtain⟨m,k⟩:=k (e / 2) (by grind);refine⟨max n m,λ x d=>?_⟩;have:=(h x (d.mono N (aHv n m))).add (k x (d.mono N (aHC n m)))
 rwa [show e / 2+e / 2=e by grind]at this
theorem Zr.mul{f g:Fn}(h:N.Zr f)(hg:iY g):N.Zr (λ x=>f x*g x):=λ e o=>by
 obtain⟨M,hM⟩:=N.bnd;obtain⟨K,hK,hb⟩:=hg.bdd M;obtain⟨i,hi,F⟩:=inv_pos (show 0<K+1 by grind);obtain⟨n,h⟩:=h (e*i) (aHM o hi);refine⟨n,λ x d=>((h x d).mul (hb x (hM x (d.mono N (alz n))))).mono ?_⟩;have E:e*i*K=e*((K+1)*i) - e*i:=by grind
 rw[F]at E;have:=aHM o hi
 grind
theorem Zr.smul{f:Fn}(c:Rat)(h:N.Zr f):N.Zr (λ x=>c*f x):=by
 have:=h.mul (iY.const c)
 rwa [show(λ x=>f x*c)=λ x=>c*f x from funext λ x=>by grind]at this
theorem apu:N.Zr (λ _=>0):=λ e d=>⟨0,λ _ _=>⟨by grind,by grind⟩⟩
theorem Ps.add{f g:Fn}(h:N.Ps f)(k:N.Ps g):N.Ps (λ x=>f x+g x):=by
 obtain⟨c,hc,n,h⟩:=h;obtain⟨d,o,m,k⟩:=k;refine⟨c,hc,max n m,λ x e=>?_⟩;have E:=h x (e.mono N (aHv n m));have h2:=k x (e.mono N (aHC n m));show c<=f x+g x
 grind
theorem Ps.smul{f:Fn}{c:Rat}(hc:0<c)(h:N.Ps f):N.Ps (λ x=>c*f x):=by obtain⟨d,o,n,h⟩:=h;exact⟨c*d,aHM hc o,n,λ x e=>aBL (h x e) (by grind)⟩
theorem Zr.at{f:Fn}(h:N.Zr f){x:Rat}(d:∀n,N.In n x):f x=0:=by
 refine aJY (acQ λ e=>?_) (acQ λ e=>?_)
 .obtain⟨n,hn⟩:=h (f x / 2) (by grind);have:=(hn x (d n)).2
  grind
 .obtain⟨n,hn⟩:=h (-f x / 2) (by grind);have:=(hn x (d n)).1
  grind
theorem agn{f:Fn}(hf:iY f){k:Nat}(hz:N.Zr f)(G:∀x,N.In k x->N.Rt x->0<D f x)(x:Rat)(I:N.In k x)(O:N.Rt x):0<f x:=by
 refine acQ λ hn=>?_;obtain⟨m,hm⟩:=O;have E:N.v (max m k)<x:=by have:=N.ai3 (aHv m k);grind
 generalize hK:max m k=K at E;have U:k<=K:=by omega
 have o:N.v K<(N.v K+x) / 2/\(N.v K+x) / 2<x:=by grind
 generalize(N.v K+x) / 2=z at o
 have e:∀w,N.v K<=w->w<=x->N.In k w:=λ w H h2=>by have:=N.CU k K;exact⟨by grind,by have:=I.2;grind⟩
 have H:f z<f x:=aee hf o.2 λ w H h2=>G w (e w (by grind) h2) ⟨K,by grind⟩
 have d:∀j,K<=j->f (N.v j)<=f z:=λ j F=>by have J:=N.ai3 F;refine agp hf (b:=z) (by grind) λ w H h2=>?_;refine mono hf h2 λ y X W=>aKG (G y ?_ ⟨j,by grind⟩);have:=N.CU k j;have:=I.2;exact⟨by grind,by grind⟩
 obtain⟨j,F⟩:=hz (-f z) (by grind);have h2:=d (max j K) (aHC j K);obtain⟨t,ht⟩:=hz (-f z / 2) (by grind);have X:=(ht (N.v (max t K)) (N.avR (aHv t K))).1;have W:=d (max t K) (aHC t K);clear F h2 G e d
 grind
theorem Xa{f:Fn}(hf:iY f){k:Nat}(hz:N.Zr f)(I:∀x,N.In k x->N.Lf x->D f x<0)(x:Rat)(J:N.In k x)(U:N.Lf x):0<f x:=by
 refine acQ λ hn=>?_;obtain⟨m,hm⟩:=U;have H:x<N.u (max m k):=by have:=N.ai2 (aHv m k);grind
 generalize hK:max m k=K at H;have W:k<=K:=by omega
 have o:x<(N.u K+x) / 2/\(N.u K+x) / 2<N.u K:=by grind
 generalize(N.u K+x) / 2=z at o
 have e:∀w,x<=w->w<=N.u K->N.In k w:=λ w G h2=>by have:=N.CU K k;exact⟨by have:=J.1;grind,by grind⟩
 have E:iY (λ x=>-1*f x):=hf.smul (-1);have F:∀w,D (λ x=>-1*f x) w=-D f w:=λ w=>by rw[TP (-1) hf];grind
 have G:-1*f x< -1*f z:=aee E o.1 λ w G h2=>by
  rw[F];have:=I w (e w G (by grind)) ⟨K,by grind⟩
  grind
 have d:∀j,K<=j->f (N.u j)<=f z:=λ j X=>by
  have O:=N.ai2 X;refine ai4 hf (a:=z) (by grind) λ w G h2=>?_
  have h5:-1*f z<=-1*f w:=mono E G λ y h3 Z=>by have:=N.CU j k;have h6:=I y ⟨by have:=J.1;grind,by grind⟩ ⟨j,by grind⟩;rw[F];grind
  grind
 obtain⟨t,ht⟩:=hz (-f z / 2) (by grind);have h3:=(ht (N.u (max t K)) (N.W9 (aHv t K))).1;have Z:=d (max t K) (aHC t K);clear I e d
 grind
end kT
noncomputable def Dk:Nat->Fn->Fn
 | 0,f=>f
 |k+1,f=>Dk k (D f)
theorem iY.Dk{f:Fn}(h:iY f):∀k,iY (Dk k f)
 | 0=>h
 |k+1=>iY.Dk h.D k
theorem aeo(f:Fn):∀k,Dk (k+1) f=D (Dk k f)
 | 0=>rfl
 |k+1=>aeo (D f) k
theorem NG{f g:Fn}(h:iY f)(k:iY g):∀n,Dk n (λ x=>f x+g x)=λ x=>Dk n f x+Dk n g x
 | 0=>rfl
 |n+1=>by show Dk n (D _)=_;rw[ajj h k];exact NG h.D k.D n
theorem AL{f:Fn}(c:Rat)(h:iY f):∀n,Dk n (λ x=>c*f x)=λ x=>c*Dk n f x
 | 0=>rfl
 |n+1=>by show Dk n (D _)=_;rw[TP c h];exact AL c h.D n
theorem Ih:∀n,Dk n (λ _=>0)=λ _=>0
 | 0=>rfl
 |n+1=>by show Dk n (D _)=_;rw[AO];exact Ih n
theorem CY(f:Fn):(λ x=>-f x)=λ x=>-1*f x:=funext λ x=>by grind
theorem iY.neg{f:Fn}(h:iY f):iY (λ x=>-f x):=by rw[CY];exact h.smul _
theorem Xk{f:Fn}(h:iY f):D (λ x=>-f x)=λ x=>-D f x:=by rw[CY,TP _ h,CY]
theorem Gq{f:Fn}(h:iY f)(n:Nat):Dk n (λ x=>-f x)=λ x=>-Dk n f x:=by rw[CY,AL _ h,CY]
theorem ajk{f:Fn}(h:iY f):∃k,Dk k f=λ _=>0:=by
 have key:∀k f,iY f->Dk k f=(λ _=>0)->Dk (k+1) (λ x=>x*f x)=λ _=>0:=by
  intro k
  induction k with
  |zero =>
   intro f hf h;have e:f=λ _=>0:=h;rw[e,show(λ x:Rat=>x*0)=λ _=>0 from funext λ x=>by grind];exact Ih 1
  |succ k ih =>
   intro f hf h;show Dk (k+1) (D λ x=>x*f x)=_;rw[aaI hf,NG hf hf.D.NH,ih (D f) hf.D h,h];exact funext λ x=>by grind
 refine h.ind (P:=λ f=>∃k,Dk k f=λ _=>0) ⟨0,rfl⟩ λ a f hf ⟨k,hk⟩=>?_;refine⟨k+1,?_⟩;rw[NG (iY.const a) hf.NH,key k f hf hk];show(λ x=>Dk k (D λ _=>a) x+0)=_;rw[AO,Ih];exact funext λ x=>by grind
theorem ajl{f:Fn}(hf:iY f)(h:D f=λ _=>0)(x y:Rat):f x=f y:=by
 have key:∀{f:Fn},iY f->D f=(λ _=>0)->∀a b:Rat,a<=b->f a<=f b:=λ hf h a b hab=>mono hf hab λ x _ _=>by rw[h];grind
 have d:∀a b:Rat,a<=b->f a=f b:=λ a b hab=>by
  have o:=key hf h a b hab;have h2:=key hf.neg (by rw[Xk hf,h];exact funext λ _=>by grind) a b hab
  grind
 by_cases e:x<=y
 .exact d x y e
 .exact(d y x (by grind)).symm
namespace kT
variable{N:kT}
def Om(N:kT)(f:Fn)(m:Nat):Prop:=∀j,j<m->N.Zr (Dk j f)
theorem Om.D{f:Fn}{m:Nat}(h:N.Om f (m+1)):N.Om (D f) m:=λ j d=>h (j+1) (by omega)
theorem TY{f:Fn}{m:Nat}(h:N.Zr f)(k:N.Om (D f) m):N.Om f (m+1)
 | 0,_=>h
 |j+1,hj=>k j (by omega)
theorem Om.le{f:Fn}{m n:Nat}(h:N.Om f m)(k:n<=m):N.Om f n:=λ j d=>h j (by omega)
theorem Om.add{f g:Fn}(hf:iY f)(hg:iY g){m:Nat}(h:N.Om f m)(k:N.Om g m):N.Om (λ x=>f x+g x) m:=λ j d=>by rw[NG hf hg];exact(h j d).add (k j d)
theorem Om.smul{f:Fn}(c:Rat)(hf:iY f){m:Nat}(h:N.Om f m):N.Om (λ x=>c*f x) m:=λ j d=>by rw[AL c hf];exact(h j d).smul c
theorem aaJ{f:Fn}{c:Rat}(hc:c≠0)(hf:iY f){m:Nat}(h:N.Om (λ x=>c*f x) m):N.Om f m:=by
 have:=h.smul (c⁻¹) (hf.smul c)
 rwa [show(λ x=>c⁻¹*(c*f x))=f from funext λ x=>by
  have:c⁻¹*(c*f x)=c*c⁻¹*f x:=by grind
  rw[this,aMV c hc];grind]at this
theorem Om.mul:∀{m:Nat} {f g:Fn},iY f->iY g->N.Om f m->N.Om (λ x=>f x*g x) m
 | 0,_,_,_,_,_=>λ j d=>by omega
 |m+1,f,g,hf,hg,h=>by refine TY ((h 0 (by omega)).mul hg) ?_;rw[aBE hf hg];exact Om.add (hf.D.mul hg) (hf.mul hg.D) (Om.mul hf.D hg h.D) (Om.mul hf hg.D (h.le (by omega)))
theorem Om.aui{m:Nat}{f g:Fn}(hf:iY f)(hg:iY g)(h:N.Om g m):N.Om (λ x=>f x*g x) m:=by
 have:=Om.mul hg hf h
 rwa [show(λ x=>g x*f x)=λ x=>f x*g x from funext λ x=>by grind]at this
def PO(N:kT)(f:Fn)(m:Nat):Prop:=N.Om f m/\N.Ps (Dk m f)
theorem PO.ajm{f:Fn}{m:Nat}(h:N.PO f m):¬N.Om f (m+1):=λ k=>(k m (by omega)).Nk h.2
theorem agw{f:Fn}(hf:iY f)(d:f≠λ _=>0):∃m,N.PO f m\/N.PO (λ x=>-f x) m:=by
 obtain⟨k,hk⟩:=ajk hf
 have key:∀k,∀f:Fn,iY f->f≠(λ _=>0)->Dk k f=(λ _=>0)->∃m,N.PO f m\/N.PO (λ x=>-f x) m:=by
  intro k
  induction k with
  |zero=>intro f _ d hk;exact absurd hk d
  |succ k ih =>
   intro f hf d hk;rcases tri (N:=N) hf with hz |hp |hn
   .have o:D f≠λ _=>0:=λ e=>d (funext λ x=>by
     have hc:=ajl hf e;refine acQ λ E=>?_;rcases(show f x<0\/0<f x by grind)with h |h
     .exact hz.neg.Nk ⟨-f x,by grind,0,λ y _=>by show -f x<=-f y;rw[hc y x];grind⟩
     .exact hz.Nk ⟨f x,h,0,λ y _=>by rw[hc y x];grind⟩)
    obtain⟨m,h⟩:=ih (D f) hf.D o hk;refine⟨m+1,h.imp (λ h=>⟨TY hz h.1,h.2⟩) λ h=>⟨TY hz.neg ?_,?_⟩⟩
    .rw[Xk hf];exact h.1
    .show N.Ps (Dk m (D λ x=>-f x));rw[Xk hf];exact h.2
   .exact⟨0,wV ⟨λ j F=>by omega,hp⟩⟩
   .exact⟨0,Gc ⟨λ j F=>by omega,hn⟩⟩
 exact key k f hf d hk
def alt:Nat->Rat
 | 0=>1
 |n+1=>-alt n
theorem Rl:∀n,alt n=1\/alt n=-1
 | 0=>wV rfl
 |n+1=>by rcases Rl n with h |h<;>simp[alt,h]
theorem pattern:∀{m:Nat} {f:Fn},iY f->N.PO f m->∃k,∀x,N.In k x->(N.Lf x->0<alt m*f x)/\(N.Rt x->0<f x)
 | 0,f,hf,h=>by obtain⟨c,hc,n,hn⟩:=h.2;have e:Dk 0 f=f:=rfl;rw[e]at hn;exact⟨n,λ x E=>by have:=hn x E;exact⟨λ _=>by show 0<1*f x;grind,λ _=>by grind⟩⟩
 |m+1,f,hf,h=>by
  obtain⟨k,hk⟩:=pattern (m:=m) hf.D ⟨h.1.D,h.2⟩;have hz:N.Zr f:=h.1 0 (by omega);refine⟨k,λ x E=>⟨λ hl=>?_,λ G=>?_⟩⟩
  .rcases Rl m with e |e
   .have:=Xa hf.neg (k:=k) hz.neg (λ y o d=>by
     rw[Xk hf];have:=(hk y o).1 d;rw[e]at this
     grind) x E hl
    show 0< -alt m*f x;rw[e];grind
   .have:=Xa hf (k:=k) hz (λ y o d=>by
     have:=(hk y o).1 d;rw[e]at this
     grind) x E hl
    show 0< -alt m*f x;rw[e];grind
  .exact agn hf hz (λ y o F=>(hk y o).2 F) x E G
end kT
def Ag(q:Rat):Int:=if 0<q then 1 else if q<0 then -1 else 0
theorem OW{q:Rat}(h:0<q):Ag q=1:=by unfold Ag;rw[if_pos h]
theorem OV{q:Rat}(h:q<0):Ag q=-1:=by unfold Ag;rw[if_neg (by grind),if_pos h]
theorem arq:Ag 0=0:=by unfold Ag;rw[if_neg (by grind),if_neg (by grind)]
def oC:Nat->Int
 | 0=>1
 |n+1=>-oC n
theorem Hq:∀n,oC n=1\/oC n=-1
 | 0=>wV rfl
 |n+1=>by rcases Hq n with h |h<;>simp[oC,h]
theorem Qk:∀n,(oC n=1/\kT.alt n=1)\/(oC n=-1/\kT.alt n=-1)
 | 0=>wV ⟨rfl,rfl⟩
 |n+1=>by rcases Qk n with⟨h,k⟩ | ⟨h,k⟩<;>simp[oC,kT.alt,h,k]
def mX(f:Fn)(a:Rat)(k:Nat):Prop:=(∀j,j<k->Dk j f a=0)/\Dk k f a≠0
theorem mX.uniq{f:Fn}{a:Rat}{k l:Nat}(h:mX f a k)(d:mX f a l):k=l:=by
 rcases Nat.lt_trichotomy k l with g |g |g
 .exact absurd (d.1 k g) h.2
 .exact g
 .exact absurd (h.1 l g) d.2
noncomputable def SA(f:Fn)(a:Rat):Int:=open Classical in if h:∃k,mX f a k then Ag (Dk h.choose f a)*oC h.choose else 0
noncomputable def SB(f:Fn)(a:Rat):Int:=open Classical in if h:∃k,mX f a k then Ag (Dk h.choose f a)else 0
theorem afe{f:Fn}{a:Rat}{k:Nat}(h:mX f a k):SA f a=Ag (Dk k f a)*oC k:=by have d:∃k,mX f a k:=⟨k,h⟩;unfold SA;rw[dif_pos d,d.choose_spec.uniq h]
theorem aoS{f:Fn}{a:Rat}{k:Nat}(h:mX f a k):SB f a=Ag (Dk k f a):=by have d:∃k,mX f a k:=⟨k,h⟩;unfold SB;rw[dif_pos d,d.choose_spec.uniq h]
namespace kT
variable{N:kT}
def Loc(N:kT)(f:Fn)(m:Nat)(s:Int):Prop:=(s=1/\N.PO f m)\/(s=-1/\N.PO (λ x=>-f x) m)
theorem ara{f:Fn}(hf:iY f)(d:f≠λ _=>0):∃m s,N.Loc f m s:=by
 obtain⟨m,h |h⟩:=agw (N:=N) hf d
 .exact⟨m,1,wV ⟨rfl,h⟩⟩
 .exact⟨m,-1,Gc ⟨rfl,h⟩⟩
theorem Loc.one{f:Fn}{m:Nat}{s:Int}(h:N.Loc f m s):s=1\/s=-1:=h.imp (·.1) (·.1)
theorem Loc.om{f:Fn}(hf:iY f){m:Nat}{s:Int}(h:N.Loc f m s):N.Om f m:=by
 rcases h with⟨_,h⟩ | ⟨_,h⟩
 .exact h.1
 .intro j d;have:=(h.1 j d).neg;rw[Gq hf]at this
  rwa [show(λ x=>-(-Dk j f x))=Dk j f from funext λ x=>by grind]at this
theorem aA6{f:Fn}(hf:iY f){m:Nat}(h:N.Om f m):N.Om (λ x=>-f x) m:=λ j d=>by rw[Gq hf];exact(h j d).neg
theorem Loc.lt{f:Fn}(hf:iY f){m n:Nat}{s:Int}(h:N.Loc f m s)(k:N.Om f n):n<=m:=by
 refine Nat.le_of_not_lt λ hl=>?_;rcases h with⟨_,h⟩ | ⟨_,h⟩
 .exact h.ajm (k.le hl)
 .exact h.ajm ((aA6 hf k).le hl)
theorem Loc.ge{f:Fn}(hf:iY f){m n:Nat}{s:Int}(h:N.Loc f m s)(k:n<=m):N.Om f n:=(h.om hf).le k
theorem three(x:Rat):N.Lf x\/N.Rt x\/∀n,N.In n x:=by
 by_cases d:N.Lf x
 .exact wV d
 by_cases h2:N.Rt x
 .exact Gc (wV h2)
 refine Gc (Gc λ n=>⟨?_,?_⟩)
 .refine acQ λ h=>d ⟨n,by grind⟩
 .refine acQ λ h=>h2 ⟨n,by grind⟩
theorem axW{f:Fn}(hf:iY f){m:Nat}{s:Int}(h:N.Loc f m s):∃k,∀x,N.In k x->(N.Lf x->SA f x=s*oC m/\SB f x=s*oC m)/\(N.Rt x->SA f x=s/\SB f x=s):=by
 have d:∀x,f x≠0->SA f x=Ag (f x)/\SB f x=Ag (f x):=λ x o=>by have G:mX f x 0:=⟨λ j H=>by omega,o⟩;rw[afe G,aoS G];exact⟨aJ2 _,rfl⟩
 rcases h with⟨rfl,h⟩ | ⟨rfl,h⟩
 .obtain⟨k,hk⟩:=pattern hf h;refine⟨k,λ x o=>⟨λ hl=>?_,λ F=>?_⟩⟩
  .have:=(hk x o).1 hl;rcases Qk m with⟨e,E⟩ | ⟨e,E⟩<;>rw[E]at this<;>rw[e]
   .obtain⟨a,b⟩:=d x (by grind);rw[a,b,OW (by grind)];exact⟨rfl,rfl⟩
   .obtain⟨a,b⟩:=d x (by grind);rw[a,b,OV (by grind)];exact⟨rfl,rfl⟩
  .have:=(hk x o).2 F;obtain⟨a,b⟩:=d x (by grind);rw[a,b,OW this];exact⟨rfl,rfl⟩
 .obtain⟨k,hk⟩:=pattern hf.neg h;refine⟨k,λ x o=>⟨λ hl=>?_,λ F=>?_⟩⟩
  .have:=(hk x o).1 hl;rcases Qk m with⟨e,E⟩ | ⟨e,E⟩<;>rw[E]at this<;>rw[e]
   .obtain⟨a,b⟩:=d x (by grind);rw[a,b,OV (by grind)];exact⟨rfl,rfl⟩
   .obtain⟨a,b⟩:=d x (by grind);rw[a,b,OW (by grind)];exact⟨rfl,rfl⟩
  .have:=(hk x o).2 F;obtain⟨a,b⟩:=d x (by grind);rw[a,b,OV (by grind)];exact⟨rfl,rfl⟩
theorem alx{f:Fn}(hf:iY f){m:Nat}{s:Int}(h:N.Loc f m s){x:Rat}(e:∀n,N.In n x):mX f x m/\SA f x=s*oC m/\SB f x=s:=by
 have hz:∀j,j<m->Dk j f x=0:=λ j o=>(h.om hf j o).at e;rcases h with⟨rfl,h⟩ | ⟨rfl,h⟩
 .obtain⟨c,hc,n,hn⟩:=h.2;have hp:=hn x (e n);have d:mX f x m:=⟨hz,by grind⟩;rw[afe d,aoS d,OW (by grind)];exact⟨d,rfl,rfl⟩
 .obtain⟨c,hc,n,hn⟩:=h.2;have hp:=hn x (e n);rw[Gq hf]at hp;have d:mX f x m:=⟨hz,by grind⟩;rw[afe d,aoS d,OV (by grind)];exact⟨d,rfl,rfl⟩
theorem axX{f:Fn}(hf:iY f){m:Nat}{s:Int}(h:N.Loc f m s):N.Zr f↔0<m:=by
 constructor
 .intro hz;exact h.lt hf (n:=1) λ j d=>by rw[show j=0 by omega];exact hz
 .intro hm;exact h.om hf 0 hm
end kT
def ind(a b:Int):Int:=if b=-a then 1 else 0
def cnt(s:Nat->Int):Nat->Nat->Int
 |_,0=>0
 |j,d+1=>ind (s j) (s (j+1))+cnt s (j+1) d
theorem qK{s t:Nat->Int}:∀{d j:Nat},(∀i,j<=i->i<=j+d->s i=t i)->cnt s j d=cnt t j d
 | 0,_,_=>rfl
 |d+1,j,h=>by show ind (s j) (s (j+1))+cnt s (j+1) d=ind (t j) (t (j+1))+cnt t (j+1) d;rw[h j (by omega) (by omega),h (j+1) (by omega) (by omega),qK λ i e h2=>h i (by omega) (by omega)]
structure Chain0(p:Nat->Fn)(r:Nat):Prop where
 pol:∀i,i<=r->iY (p i)
 nz:∀i,i<=r->p i≠λ _=>0
 one:1<=r
 alf:∃c:Rat,0<c/\∀x,p 1 x=c*D (p 0) x
 step:∀i,i+2<=r->∃(a b:Rat) (Q:Fn),0<a/\b≠0/\iY Q/\∀x,a*p i x+b*p (i+2) x=Q x*p (i+1) x
 last:∃(a:Rat) (Q:Fn),0<a/\iY Q/\∀x,a*p (r - 1) x=Q x*p r x
structure Chain(p:Nat->Fn)(r:Nat):Prop extends Chain0 p r where
 sgn:∀i,i+2<=r->∃(a b:Rat) (Q:Fn),0<a/\0<b/\iY Q/\∀x,a*p i x+b*p (i+2) x=Q x*p (i+1) x
section
variable{p:Nat->Fn}{r:Nat}{N:kT}
theorem WC{a b:Rat}{f g h Q:Fn}(hf:iY f)(hg:iY g)(d:iY h)(o:iY Q)(ha:a≠0)(e:∀x,a*f x+b*g x=Q x*h x){n:Nat}(G:N.Om g n)(F:N.Om h n):N.Om f n:=by have E:=kT.Om.add (o.mul d) (hg.smul (-b)) (kT.Om.aui o d F) (G.smul (-b) hg);rw[show(λ x=>Q x*h x+-b*g x)=λ x=>a*f x from funext λ x=>by rw[<-e x];grind]at E;exact kT.aaJ ha hf E
namespace Chain0
variable(C:Chain0 p r)
include C
theorem aoT{n:Nat}(h:N.Om (p r) n):∀d,d<=r->N.Om (p (r - d)) n/\(0<d->N.Om (p (r - d+1)) n)
 | 0,_=>⟨h,λ h=>by omega⟩
 |d+1,hd=>by
  obtain⟨E,h2⟩:=aoT h d (by omega);have e1:r - (d+1)+1=r - d:=by omega
  rw[e1];refine⟨?_,λ _=>E⟩;by_cases F:d=0
  .subst F;obtain⟨a,Q,ha,o,e⟩:=C.last;exact WC (a:=a) (g:=λ _=>0) (b:=0) (C.pol (r - 1) (by omega)) iY.zero (C.pol r (ND _)) o (by grind) (λ x=>by rw[<-e x];grind) (λ j _=>by rw[Ih];exact kT.apu) h
  .obtain⟨a,b,Q,ha,hb,o,e⟩:=C.step (r - (d+1)) (by omega);have e2:r - (d+1)+2=r - d+1:=by omega
   rw[e1,e2]at e;exact WC (C.pol _ (by omega)) (C.pol _ (by omega)) (C.pol _ (by omega)) o (by grind) e (h2 (by omega)) E
theorem aFd{n i:Nat}(E:N.Om (p i) n)(h2:N.Om (p (i+1)) n)(hi:i+1<=r):N.Om (p r) n:=by
 have key:∀d,i+1+d<=r->N.Om (p (i+d)) n/\N.Om (p (i+1+d)) n:=by
  intro d
  induction d with
  |zero=>intro _;exact⟨E,h2⟩
  |succ d ih =>
   intro F;obtain⟨g1,g2⟩:=ih (by omega);have e1:i+(d+1)=i+1+d:=by omega
   rw[e1];refine⟨g2,?_⟩;obtain⟨a,b,Q,ha,hb,o,e⟩:=C.step (i+d) (by omega);have e2:i+d+1=i+1+d:=by omega
   have e3:i+d+2=i+1+(d+1):=by omega
   rw[e2,e3]at e;exact WC (a:=b) (b:=a) (g:=p (i+d)) (C.pol _ (by omega)) (C.pol _ (by omega)) (C.pol _ (by omega)) o hb (λ x=>by rw[<-e x];grind) g1 g2
 have:=(key (r - (i+1)) (by omega)).2
 rwa [show i+1+(r - (i+1))=r by omega]at this
theorem orders{m:Nat->Nat}{s:Nat->Int}(h:∀i,i<=r->N.Loc (p i) (m i) (s i)):(∀i,i<=r->m r<=m i)/\(∀i,i+1<=r->m i=m r\/m (i+1)=m r)/\(0<m 0->m r+1=m 0/\m 1=m r/\s 1=s 0)/\(m 0=0->m r=0):=by
 have H:=h r (ND _)
 have a1:∀i,i<=r->m r<=m i:=λ i hi=>by have:=(C.aoT (H.om (C.pol r (ND _))) (r - i) (by omega)).1;rw[show r - (r - i)=i by omega]at this;exact(h i hi).lt (C.pol i hi) this
 have I:∀i,i+1<=r->m i=m r\/m (i+1)=m r:=λ i hi=>by refine acQ λ hn=>?_;have g1:=a1 i (by omega);have g2:=a1 (i+1) hi;have:=C.aFd (i:=i) (n:=m r+1) ((h i (by omega)).ge (C.pol i (by omega)) (by omega)) ((h (i+1) hi).ge (C.pol _ hi) (by omega)) hi;have:=H.lt (C.pol r (ND _)) this;omega
 refine⟨a1,I,λ J=>?_,λ J=>?_⟩
 .have E:=C.one;obtain⟨c,hc,e⟩:=C.alf;have F:=C.pol 0 (alz _);have U:p 1=λ x=>c*D (p 0) x:=funext e;obtain⟨k,hk⟩:∃k,m 0=k+1:=⟨m 0 - 1,by omega⟩
  have hl:N.Loc (p 1) k (s 0):=by
   have G:=h 0 (alz _);rw[hk]at G;rw[U];rcases G with⟨e1,o,q⟩ | ⟨e1,o,q⟩
   .refine wV ⟨e1,o.D.smul c F.D,?_⟩;rw[AL c F.D];exact q.smul hc
   .refine Gc ⟨e1,?_⟩;have e2:(λ x=>-(c*D (p 0) x))=λ x=>c*D (λ x=>-p 0 x) x:=funext λ x=>by rw[Xk F];grind
    rw[e2];refine⟨o.D.smul c F.neg.D,?_⟩;rw[AL c F.neg.D];exact q.smul hc
  have d:=h 1 E;have X:=hl.lt (C.pol 1 E) (d.om (C.pol 1 E));have W:=d.lt (C.pol 1 E) (hl.om (C.pol 1 E));have em:m 1=k:=by omega
  have O:s 1=s 0:=by
   rw[em]at d;rcases d with⟨e1,o1⟩ | ⟨e1,o1⟩<;>rcases hl with⟨e2,o2⟩ | ⟨e2,o2⟩
   .rw[e1,e2]
   .have:=o2.2;rw[Gq (C.pol 1 E)]at this;exact absurd this o1.2.not_neg
   .have:=o1.2;rw[Gq (C.pol 1 E)]at this;exact absurd this o2.2.not_neg
   .rw[e1,e2]
  have:m 0=m r\/m 1=m r:=I 0 (by omega);have:=a1 1 E;exact⟨by omega,by omega,O⟩
 .have:=a1 0 (alz _);omega
end Chain0
theorem aoU{a b:Int}(k:Nat):ind (a*oC k) (b*oC k)=ind a b:=by
 unfold ind;rcases Hq k with e |e<;>rw[e]
 .rw[aJ2,aJ2]
 .congr 1;simp only[eq_iff_iff];omega
theorem aga{a b c:Int}(ha:a=1\/a=-1)(hb:b=1\/b=-1)(h:c=-a):ind a b+ind b c=1:=by subst h;rcases ha with rfl |rfl<;>rcases hb with rfl |rfl<;>decide
theorem JW{s:Int}(h:s=1\/s=-1)(k:Nat):s*oC k=1\/s*oC k=-1:=by rcases h with rfl |rfl<;>rcases Hq k with e |e<;>rw[e]<;>decide
theorem Chain.local(C:Chain p r){m:Nat->Nat}{s:Nat->Int}(h:∀i,i<=r->N.Loc (p i) (m i) (s i)):cnt (λ i=>s i*oC (m i)) 0 r=cnt s 0 r+if m 0=0 then 0 else 1:=by
 obtain⟨a1,a2,a3,a4⟩:=C.toChain0.orders h
 have H:∀i,i+2<=r->m r<m (i+1)->m i=m r/\m (i+2)=m r/\s (i+2)=-s i:=λ i hi hm=>by
  have g1:m i=m r:=(a2 i (by omega)).resolve_right (by omega);have g2:m (i+2)=m r:=(a2 (i+1) (by omega)).resolve_left (by omega);refine⟨g1,g2,?_⟩;obtain⟨a,b,Q,ha,hb,hQ,e⟩:=C.sgn i hi;have G:=C.pol i (by omega);have pj:=C.pol (i+1) (by omega);have F:=C.pol (i+2) hi;have hz:N.Zr (Dk (m r) (λ x=>Q x*p (i+1) x)):=kT.Om.aui hQ pj ((h (i+1) (by omega)).ge pj (show m r+1<=m (i+1) by omega)) (m r) (by omega);rw[show(λ x=>Q x*p (i+1) x)=λ x=>a*p i x+b*p (i+2) x from funext λ x=>(e x).symm,NG (G.smul a) (F.smul b),AL a G,AL b F]at hz;have l1:=h i (by omega);have l2:=h (i+2) hi;rw[g1]at l1;rw[g2]at l2;rcases l1 with⟨e1,o1⟩ | ⟨e1,o1⟩<;>rcases l2 with⟨e2,o2⟩ | ⟨e2,o2⟩
  .exact absurd ((o1.2.smul ha).add (o2.2.smul hb)) hz.Nk
  .rw[e1,e2]
  .rw[e1,e2];decide
  .have X:=o1.2;have W:=o2.2;rw[Gq G]at X;rw[Gq F]at W;have:=(X.smul ha).add (W.smul hb);rw[show(λ x=>a*-Dk (m r) (p i) x+b*-Dk (m r) (p (i+2)) x)=λ x=>-(a*Dk (m r) (p i) x+b*Dk (m r) (p (i+2)) x) from funext λ x=>by grind]at this;exact absurd this hz.neg.Nk
 have one:∀i,i<=r->s i=1\/s i=-1:=λ i hi=>(h i hi).one
 have o:∀n d j,d<=n->j+d=r->m j=m r->cnt (λ i=>s i*oC (m i)) j d=cnt s j d:=by
  intro n
  induction n with
  |zero=>intro d j O _ _;rw[show d=0 by omega];rfl
  |succ n ih =>
   intro d j O hj hm;cases d with
   |zero=>rfl
   |succ d =>
    show ind (s j*oC (m j)) (s (j+1)*oC (m (j+1)))+cnt _ (j+1) d=ind (s j) (s (j+1))+cnt s (j+1) d;by_cases U:m (j+1)=m r
    .rw[ih d (j+1) (by omega) (by omega) U,hm,U,aoU]
    .have I:m r<m (j+1):=by have:=a1 (j+1) (by omega);omega
     have J:d≠0:=λ e=>by subst e;exact U (by rw[show j+1=r by omega])
     cases d with
     |zero=>exact absurd rfl J
     |succ d =>
      obtain⟨g1,g2,g3⟩:=H j (by omega) I;show ind (s j*oC (m j)) (s (j+1)*oC (m (j+1)))+(ind (s (j+1)*oC (m (j+1))) (s (j+2)*oC (m (j+2)))+cnt _ (j+2) d)=ind (s j) (s (j+1))+(ind (s (j+1)) (s (j+2))+cnt s (j+2) d);rw[ih d (j+2) (by omega) (by omega) g2];have i1:=aga (one j (by omega)) (one (j+1) (by omega)) g3;have Z:=aga (c:=s (j+2)*oC (m (j+2))) (JW (one j (by omega)) (m j)) (JW (one (j+1) (by omega)) (m (j+1))) (by rw[g1,g2,g3,aMJ]);omega
 by_cases E:m 0=0
 .rw[if_pos E,o r r 0 (ND _) (by omega) (by rw[E,a4 E]),aHV]
 .rw[if_neg E];obtain⟨b1,b2,b3⟩:=a3 (by omega);obtain⟨d,O⟩:∃d,r=d+1:=⟨r - 1,by have:=C.one;omega⟩;have ht:=o d d 1 (ND _) (by omega) b2;have hc:∀t:Nat->Int,cnt t 0 r=ind (t 0) (t 1)+cnt t 1 d:=λ t=>by rw[O];rfl
  rw[hc,hc,ht,b2,<-b1,b3]
  have i1:ind (s 0*oC (m r+1)) (s 0*oC (m r))=1:=by unfold ind;rw[show oC (m r+1)=-oC (m r) from rfl,aOu,Int.neg_neg,if_pos rfl]
  have Z:ind (s 0) (s 0)=0:=by unfold ind;rw[if_neg];rcases one 0 (alz _)with e |e<;>rw[e]<;>decide
  rw[i1,Z];omega
end
def RZ:Nat->Rat
 | 0=>1
 |n+1=>2*RZ n
theorem auG:∀n:Nat,(n:Rat)+1<=RZ n
 | 0=>by show((0:Nat):Rat)+1<=1;simp;grind
 |n+1=>by
  have:=auG n
  have d:(0:Rat)<=(n:Rat):=by have:((0:Nat):Rat)<=(n:Rat):=aIK.2 (alz _);simpa using this
  have e:((n+1:Nat):Rat)=(n:Rat)+1:=by simp
  rw[e];show(n:Rat)+1+1<=2*RZ n
  grind
section
variable{Bad:Rat->Rat->Prop}{a b:Rat}
def BS(Bad:Rat->Rat->Prop)(a b:Rat):Type:={ q:Rat × Rat // a<=q.1/\q.1<q.2/\q.2<=b/\Bad q.1 q.2 }
theorem Yy(st:∀u v,a<=u->u<v->v<=b->Bad u v->Bad u ((u+v) / 2)\/Bad ((u+v) / 2) v)(q:BS Bad a b):∃d:BS Bad a b,q.1.1<=d.1.1/\d.1.2<=q.1.2/\2*(d.1.2 - d.1.1)=q.1.2 - q.1.1:=by
 obtain⟨⟨u,v⟩,o,h2,e,E⟩:=q;replace o:a<=u:=o;replace h2:u<v:=h2;replace e:v<=b:=e;rcases st u v o h2 e E with h |h
 .exact⟨⟨(u,(u+v) / 2),o,by grind,by grind,h⟩,aIN,show(u+v) / 2<=v by grind,show 2*((u+v) / 2 - u)=v - u by grind⟩
 .exact⟨⟨((u+v) / 2,v),by grind,by grind,e,h⟩,show u<=(u+v) / 2 by grind,aIN,show 2*(v - (u+v) / 2)=v - u by grind⟩
noncomputable def OC(st:∀u v,a<=u->u<v->v<=b->Bad u v->Bad u ((u+v) / 2)\/Bad ((u+v) / 2) v)(q:BS Bad a b):BS Bad a b:=(Yy st q).choose
theorem OD(st:∀u v,a<=u->u<v->v<=b->Bad u v->Bad u ((u+v) / 2)\/Bad ((u+v) / 2) v)(q:BS Bad a b):q.1.1<=(OC st q).1.1/\(OC st q).1.2<=q.1.2/\2*((OC st q).1.2 - (OC st q).1.1)=q.1.2 - q.1.1:=(Yy st q).choose_spec
noncomputable def Fg(st:∀u v,a<=u->u<v->v<=b->Bad u v->Bad u ((u+v) / 2)\/Bad ((u+v) / 2) v)(q:BS Bad a b):Nat->BS Bad a b
 | 0=>q
 |n+1=>OC st (Fg st q n)
theorem Yz(st:∀u v,a<=u->u<v->v<=b->Bad u v->Bad u ((u+v) / 2)\/Bad ((u+v) / 2) v)(q:BS Bad a b):∀n,RZ n*((Fg st q n).1.2 - (Fg st q n).1.1)=q.1.2 - q.1.1
 | 0=>by show 1*(q.1.2 - q.1.1)=_;grind
 |n+1=>by
  have d:=Yz st q n;have h2:=(OD st (Fg st q n)).2.2;show 2*RZ n*((OC st (Fg st q n)).1.2 - (OC st (Fg st q n)).1.1)=_;rw[<-d,<-h2]
  grind
theorem bisect(hab:a<b)(h:Bad a b)(st:∀u v,a<=u->u<v->v<=b->Bad u v->Bad u ((u+v) / 2)\/Bad ((u+v) / 2) v):∃N:kT,(∀n,Bad (N.u n) (N.v n))/\∀n,a<=N.u n/\N.v n<=b:=by
 let q:BS Bad a b:=⟨(a,b),aIN,hab,aIN,h⟩;refine⟨⟨λ n=>(Fg st q n).1.1,λ n=>(Fg st q n).1.2,λ n=>(OD st (Fg st q n)).1,λ n=>(OD st (Fg st q n)).2.1,λ n=>(Fg st q n).2.2.1,λ e d=>?_⟩,λ n=>(Fg st q n).2.2.2.2,λ n=>⟨(Fg st q n).2.1,(Fg st q n).2.2.2.1⟩⟩;obtain⟨n,t,ht,hn,_,hc⟩:=parts (b - a) d;refine⟨n,acQ λ E=>?_⟩;have o:=Yz st q n;have h2:=auG n;have e0:q.1.2 - q.1.1=b - a:=rfl;rw[e0]at o;generalize(Fg st q n).1.2 - (Fg st q n).1.1=l at *;have G:=aBL (show e<=l by grind) (show 0<=RZ n by grind);have F:=aH0 h2 (show 0<=e by grind)
 grind
end
theorem aq9(a:Rat):∃N:kT,∀n,N.In n a:=by
 obtain⟨N,h,_⟩:=bisect (Bad:=λ u v=>u<=a/\a<=v) (a:=a - 1) (b:=a+1) (by grind) ⟨by grind,by grind⟩ λ u v _ _ _ h=>by
  by_cases hm:a<=(u+v) / 2
  .exact wV ⟨h.1,hm⟩
  .exact Gc ⟨by grind,h.2⟩
 exact⟨N,h⟩
theorem kT.aCH{N:kT}{x:Rat}(h:∀n,N.In n x){y:Rat}(d:x<y):N.Rt y:=by obtain⟨n,hn⟩:=N.sm (y - x) (by grind);exact⟨n,by have:=(h n).1;grind⟩
theorem kT.aFG{N:kT}{x:Rat}(h:∀n,N.In n x){y:Rat}(d:y<x):N.Lf y:=by obtain⟨n,hn⟩:=N.sm (x - y) (by grind);exact⟨n,by have:=(h n).2;grind⟩
noncomputable def uz(p:Nat->Fn)(r:Nat)(a:Rat):Int:=cnt (λ i=>SA (p i) a) 0 r
noncomputable def xH(p:Nat->Fn)(r:Nat)(a:Rat):Int:=cnt (λ i=>SB (p i) a) 0 r
structure aFH(N:kT)(p:Nat->Fn)(r:Nat)(L R:Int)(k:Nat):Prop where
 lf:∀x,N.In k x->N.Lf x->uz p r x=L/\xH p r x=L
 rt:∀x,N.In k x->N.Rt x->uz p r x=R/\xH p r x=R
 on:∀x,(∀n,N.In n x)->uz p r x=L/\xH p r x=R
theorem common{P:Nat->Nat->Prop}(mono:∀i k l,k<=l->P i k->P i l):∀r,(∀i,i<=r->∃k,P i k)->∃k,∀i,i<=r->P i k
 | 0,h=>by obtain⟨k,hk⟩:=h 0 (ND _);exact⟨k,λ i hi=>by rw[show i=0 by omega];exact hk⟩
 |r+1,h=>by
  obtain⟨k,hk⟩:=common mono r λ i hi=>h i (by omega);obtain⟨l,hl⟩:=h (r+1) (ND _);refine⟨max k l,λ i hi=>?_⟩;by_cases e:i=r+1
  .subst e;exact mono _ _ _ (aHC _ _) hl
  .exact mono _ _ _ (aHv _ _) (hk i (by omega))
section
variable{p:Nat->Fn}{r:Nat}
theorem Chain.near(C:Chain p r)(N:kT):∃L R k,aFH N p r L R k/\((L=R/\¬N.Zr (p 0))\/(L=R+1/\N.Zr (p 0))):=by
 have o:∀i,∃q:Nat × Int,i<=r->N.Loc (p i) q.1 q.2:=λ i=>by
  by_cases hi:i<=r
  .obtain⟨m,s,h⟩:=kT.ara (N:=N) (C.pol i hi) (C.nz i hi);exact⟨(m,s),λ _=>h⟩
  .exact⟨(0,0),λ h=>absurd h hi⟩
 obtain⟨q,hq⟩:=Classical.axiomOfChoice o;have hl:∀i,i<=r->N.Loc (p i) (q i).1 (q i).2:=λ i hi=>hq i hi;have d:=C.local (m:=λ i=>(q i).1) (s:=λ i=>(q i).2) hl;obtain⟨k,hk⟩:=common (P:=λ i k=>∀x,N.In k x->(N.Lf x->SA (p i) x=(q i).2*oC (q i).1/\SB (p i) x=(q i).2*oC (q i).1)/\(N.Rt x->SA (p i) x=(q i).2/\SB (p i) x=(q i).2)) (λ i k l h hp x e=>hp x (e.mono N h)) r λ i hi=>kT.axW (C.pol i hi) (hl i hi);refine⟨cnt (λ i=>(q i).2*oC (q i).1) 0 r,cnt (λ i=>(q i).2) 0 r,k,⟨λ x e h=>?_,λ x e h=>?_,λ x e=>?_⟩,?_⟩
 .exact⟨qK λ i _ hi=>((hk i (by omega) x e).1 h).1,qK λ i _ hi=>((hk i (by omega) x e).1 h).2⟩
 .exact⟨qK λ i _ hi=>((hk i (by omega) x e).2 h).1,qK λ i _ hi=>((hk i (by omega) x e).2 h).2⟩
 .exact⟨qK λ i _ hi=>(kT.alx (C.pol i (by omega)) (hl i (by omega)) e).2.1,qK λ i _ hi=>(kT.alx (C.pol i (by omega)) (hl i (by omega)) e).2.2⟩
 .have hz:=kT.axX (C.pol 0 (alz _)) (hl 0 (alz _));by_cases E:(q 0).1=0
  .rw[if_pos E,aHV]at d;exact wV ⟨d,λ h=>by have:=hz.1 h;omega⟩
  .rw[if_neg E]at d;exact Gc ⟨d,hz.2 (by omega)⟩
theorem aCI{N:kT}{f:Fn}(hf:iY f){a:Rat}(ha:∀n,N.In n a):N.Zr f↔f a=0:=by
 refine⟨λ h=>h.at ha,λ h=>?_⟩;rcases kT.tri (N:=N) hf with g | ⟨c,hc,n,g⟩ | ⟨c,hc,n,g⟩
 .exact g
 .have:=g a (ha n);grind
 .have:=g a (ha n);grind
variable(C:Chain p r)
include C
theorem Chain.ab(a:Rat):uz p r a=xH p r a+if p 0 a=0 then 1 else 0:=by
 obtain⟨N,hN⟩:=aq9 a;obtain⟨L,R,k,hn,h⟩:=C.near N;obtain⟨e1,e2⟩:=hn.on a hN;have hz:=aCI (C.pol 0 (alz _)) hN;rw[e1,e2];rcases h with⟨d,h2⟩ | ⟨d,h2⟩
 .rw[if_neg λ h=>h2 (hz.2 h),d,aHV]
 .rw[if_pos (hz.1 h2),d]
theorem Chain.auH(a:Rat):xH p r a<=uz p r a:=by
 rw[C.ab a];by_cases h:p 0 a=0
 .rw[if_pos h];omega
 .rw[if_neg h];omega
theorem Chain.down{a b:Rat}(hab:a<b):uz p r b<=xH p r a:=by
 refine acQ λ hn=>?_
 obtain⟨N,h,_⟩:=bisect (Bad:=λ u v=>¬uz p r v<=xH p r u) hab hn λ u v _ _ _ h=>by
  have:=C.auH ((u+v) / 2);by_cases G:uz p r ((u+v) / 2)<=xH p r u
  .exact Gc (by omega)
  .exact wV G
 obtain⟨L,R,k,hk,e⟩:=C.near N;have F:R<=L:=by rcases e with⟨h,_⟩ | ⟨h,_⟩<;>omega
 have hb:=h k;have E:=N.W9 (ND k);have o:=N.avR (ND k);rcases N.three (N.u k)with d | ⟨j,d⟩ |d
 .rw[(hk.lf _ E d).2]at hb;rcases N.three (N.v k)with⟨j,hv⟩ |hv |hv
  .exact absurd (N.CU j k) (by grind)
  .rw[(hk.rt _ o hv).1]at hb;omega
  .rw[(hk.on _ hv).1]at hb;omega
 .exact absurd (N.CU k j) (by grind)
 .rw[(hk.on _ d).2,(hk.rt _ o (kT.aCH d (N.lt k))).1]at hb;omega
theorem Chain.mono{a b:Rat}(hab:a<=b):uz p r b<=uz p r a:=by
 by_cases h:a=b
 .rw[h];exact af2 _
 .have:=C.down (show a<b by grind);have:=C.auH a;omega
theorem Chain.none{a b:Rat}(hab:a<b)(O:∀x,a<x->x<b->p 0 x≠0)(h2:∀N:kT,(∀n,a<=N.u n/\N.v n<=b)->N.Zr (p 0)->(∀n,N.In n a)\/∀n,N.In n b):xH p r a=uz p r b:=by
 refine acQ λ hn=>?_
 obtain⟨N,hB,hi⟩:=bisect (Bad:=λ u v=>xH p r u≠uz p r v) hab hn λ u v g1 g2 g3 h=>by
  have e:=C.ab ((u+v) / 2);rw[if_neg (O _ (by grind) (by grind)),aHV]at e;by_cases g:xH p r u=uz p r ((u+v) / 2)
  .exact Gc (by rw[<-e,<-g];exact h)
  .exact wV g
 obtain⟨L,R,k,hk,H⟩:=C.near N;have hb:=hB k;have G:=N.W9 (ND k);have F:=N.avR (ND k);have o:=N.lt k;obtain⟨J,I⟩:=hi k;rcases H with⟨e,_⟩ | ⟨e,hz⟩
 .have e1:xH p r (N.u k)=L:=by
   rcases N.three (N.u k)with d |d |d
   .exact(hk.lf _ G d).2
   .rw[e];exact(hk.rt _ G d).2
   .rw[e];exact(hk.on _ d).2
  have e2:uz p r (N.v k)=L:=by
   rcases N.three (N.v k)with d |d |d
   .exact(hk.lf _ F d).1
   .rw[e];exact(hk.rt _ F d).1
   .exact(hk.on _ d).1
  exact hb (by rw[e1,e2])
 .rcases h2 N hi hz with ha |E
  .have U:N.u k=a:=aJY (ha k).1 J;rw[U]at o hb;exact hb (by rw[(hk.on _ ha).2,(hk.rt _ F (kT.aCH ha o)).1])
  .have ev:N.v k=b:=aJY I (E k).2;rw[ev]at o hb;exact hb (by rw[(hk.lf _ G (kT.aFG E o)).2,(hk.on _ E).1])
end
def hq(f:Nat->Int)(x:Rat):Nat->Nat->Rat
 |_,0=>0
 |i,d+1=>hq f x (i+1) d*x+(f i:Rat)
theorem acn(f:Nat->Int):∀d i,iY (λ x=>hq f x i d)
 | 0,_=>iY.zero
 |d+1,i=>by
  have:=(acn f d (i+1)).cons (f i:Rat)
  rwa [show(λ x=>(f i:Rat)+x*hq f x (i+1) d)=λ x=>hq f x i (d+1) from funext λ x=>by show _=hq f x (i+1) d*x+(f i:Rat);grind]at this
def eq'(f:Nat->Int)(x:Rat):Nat->Nat->Rat->Rat
 | 0,_,_=>0
 |d+1,i,w=>w*(f (i+1):Rat)+x*eq' f x d (i+1) (w+1)
theorem afh(f:Nat->Int)(x:Rat):∀d i w,eq' f x d i (w+1)=eq' f x d i w+hq f x (i+1) d
 | 0,_,_=>by show(0:Rat)=0+0;grind
 |d+1,i,w=>by
  show(w+1)*(f (i+1):Rat)+x*eq' f x d (i+1) (w+1+1)=w*(f (i+1):Rat)+x*eq' f x d (i+1) (w+1)+(hq f x (i+1+1) d*x+(f (i+1):Rat));rw[afh f x d (i+1) (w+1)]
  grind
theorem aCY(f:Nat->Int):∀d i,D (λ x=>hq f x i (d+1))=λ x=>eq' f x d i 1
 | 0,i=>by rw[show(λ x=>hq f x i 1)=λ _=>(f i:Rat) from funext λ x=>by show(0:Rat)*x+_=_;grind,AO];rfl
 |d+1,i=>by
  rw[show(λ x=>hq f x i (d+2))=λ x=>(f i:Rat)+x*hq f x (i+1) (d+1) from funext λ x=>by show hq f x (i+1) (d+1)*x+(f i:Rat)=_;grind,al6 _ (acn f (d+1) (i+1)),aCY f d (i+1)]
  refine funext λ x=>?_;show hq f x (i+1+1) d*x+(f (i+1):Rat)+x*eq' f x d (i+1) 1=1*(f (i+1):Rat)+x*eq' f x d (i+1) (1+1);rw[afh f x d (i+1) 1]
  grind
theorem YW{f g:Nat->Int}(h:∀q,g q=f (q+1)*((q+1:Nat):Int))(x:Rat):∀d i,hq g x i d=eq' f x d i ((i:Rat)+1)
 | 0,_=>rfl
 |d+1,i=>by
  show hq g x (i+1) d*x+(g i:Rat)=((i:Rat)+1)*(f (i+1):Rat)+x*eq' f x d (i+1) ((i:Rat)+1+1);rw[YW h x d (i+1),h i,aK5,aMK];have e:((i+1:Nat):Rat)=(i:Rat)+1:=by simp
  rw[e]
  grind
theorem ayd{f g:Nat->Int}(h:∀q,g q=f (q+1)*((q+1:Nat):Int)):∀n,D (λ x=>hq f x 0 n)=λ x=>hq g x 0 (n - 1)
 | 0=>AO 0
 |n+1=>by
  rw[aCY];refine funext λ x=>?_;have:=YW h x n 0;rw[show n+1 - 1=n by omega,this];congr 1;simp
  grind
theorem alQ{h:(Nat->Int)->Int->Nat->Nat->Int}(o:∀f x i,h f x i 0=0)(e:∀f x i d,h f x i (d+1)=h f x (i+1) d*x+f i)(f:Nat->Int)(x:Int):∀d i,hq f (x:Rat) i d=((h f x i d:Int):Rat)
 | 0,i=>by rw[o];rfl
 |d+1,i=>by show hq f (x:Rat) (i+1) d*(x:Rat)+(f i:Rat)=_;rw[alQ o e f x d (i+1),e,aNC,aK5]
theorem Vo{f:Nat->Int}{x:Rat}:∀d i k,(∀j,i+d<=j->f j=0)->hq f x i (d+k)=hq f x i d
 | 0,i,0,_=>rfl
 | 0,i,k+1,h=>by
  have:=Vo (f:=f) (x:=x) 0 (i+1) k λ j e=>h j (by omega);rw[ZO]at this ⊢;show hq f x (i+1) k*x+(f i:Rat)=0;rw[this,h i (by omega)];show(0:Rat)*x+((0:Int):Rat)=0
  grind
 |d+1,i,k,h=>by rw[show d+1+k=d+k+1 by omega];show hq f x (i+1) (d+k)*x+(f i:Rat)=hq f x (i+1) d*x+(f i:Rat);rw[Vo d (i+1) k λ j e=>h j (by omega)]
theorem ayh{f:Nat->Int}{x:Rat}{n m:Nat}(h:∀j,n<=j->f j=0)(hm:n<=m):hq f x 0 m=hq f x 0 n:=by obtain⟨k,rfl⟩:=Nat.le.dest hm;exact Vo n 0 k λ j d=>h j (by omega)
theorem alS(f g:Nat->Int)(x:Rat):∀d i,hq (λ q=>f q+g q) x i d=hq f x i d+hq g x i d
 | 0,_=>by show(0:Rat)=0+0;grind
 |d+1,i=>by
  show hq (λ q=>f q+g q) x (i+1) d*x+((f i+g i:Int):Rat)=hq f x (i+1) d*x+(f i:Rat)+(hq g x (i+1) d*x+(g i:Rat));rw[alS f g x d (i+1),aNC]
  grind
theorem MU(c:Int)(f:Nat->Int)(x:Rat):∀d i,hq (λ q=>f q*c) x i d=hq f x i d*(c:Rat)
 | 0,_=>by show(0:Rat)=0*_;grind
 |d+1,i=>by
  show hq (λ q=>f q*c) x (i+1) d*x+((f i*c:Int):Rat)=(hq f x (i+1) d*x+(f i:Rat))*(c:Rat);rw[MU c f x d (i+1),aK5]
  grind
def sh(s:Nat)(g:Nat->Int)(q:Nat):Int:=if s<=q then g (q - s)else 0
theorem auM(s:Nat)(g:Nat->Int)(x:Rat):∀d i,hq (sh s g) x (s+i) d=hq g x i d
 | 0,_=>rfl
 |d+1,i=>by show hq (sh s g) x (s+i+1) d*x+((sh s g (s+i):Int):Rat)=hq g x (i+1) d*x+(g i:Rat);rw[show s+i+1=s+(i+1) by omega,auM s g x d (i+1)];unfold sh;rw[if_pos (by omega),show s+i - s=i by omega]
def xp(x:Rat):Nat->Rat
 | 0=>1
 |k+1=>xp x k*x
theorem alW:∀k,iY (λ x=>xp x k)
 | 0=>iY.const 1
 |k+1=>by
  have:=(alW k).NH
  rwa [show(λ x=>x*xp x k)=λ x=>xp x (k+1) from funext λ x=>by show _=xp x k*x;grind]at this
theorem al7(s:Nat)(g:Nat->Int)(x:Rat)(d:Nat):∀k,k<=s->hq (sh s g) x (s - k) (k+d)=xp x k*hq g x 0 d
 | 0,_=>by
  have:=auM s g x d 0;rw[Nat.add_zero]at this;rw[aKm,ZO,this];show _=1*_
  grind
 |k+1,hk=>by
  rw[show k+1+d=k+d+1 by omega];show hq (sh s g) x (s - (k+1)+1) (k+d)*x+((sh s g (s - (k+1)):Int):Rat)=xp x k*x*hq g x 0 d;rw[show s - (k+1)+1=s - k by omega,al7 s g x d k (by omega)];unfold sh;rw[if_neg (by omega)];show xp x k*hq g x 0 d*x+((0:Int):Rat)=_;have e:((0:Int):Rat)=0:=rfl;rw[e]
  grind
theorem alT(s:Nat)(g:Nat->Int)(x:Rat)(d:Nat):hq (sh s g) x 0 (s+d)=xp x s*hq g x 0 d:=by
 have:=al7 s g x d s (ND _)
 rwa [aIr]at this
theorem YN(s:Nat->Int):∀d j,cnt s j (d+1)=cnt s j d+ind (s (j+d)) (s (j+d+1))
 | 0,j=>by show ind (s j) (s (j+1))+0=0+ind (s j) (s (j+1));omega
 |d+1,j=>by show ind (s j) (s (j+1))+cnt s (j+1) (d+1)=ind (s j) (s (j+1))+cnt s (j+1) d+_;rw[YN s d (j+1),show j+1+d=j+(d+1) by omega];omega
end Go.iE
namespace Go.Proofs.YtdlhemnconimnaaGreat
open Go.Gv
open Go.iE (iY hq SA SB uz xH mX Dk oC cnt ind Chain Chain0 xp sh)
def Ci(p:fZ):Go.iE.Fn:=λ x=>hq p.2 x 0 p.1
theorem aro(p:fZ):iY (Ci p):=Go.iE.acn p.2 p.1 0
theorem auL(p:fZ):Go.iE.D (Ci p)=Ci (p.1 - 1,Fw p.2):=Go.iE.ayd (λ _=>rfl) p.1
theorem alP(p:fZ):∀j,Dk j (Ci p)=Ci (p.1 - j,Nb p.2 j)
 | 0=>rfl
 |j+1=>by rw[Go.iE.aeo,alP p j,auL];show Ci (p.1 - j - 1,Fw (Nb p.2 j))=_;rw[aOv];rfl
theorem aye(f:Nat->Int)(x:Int)(d i:Nat):hq f (x:Rat) i d=((hor f x i d:Int):Rat):=Go.iE.alQ (h:=hor) (λ _ _ _=>by simp only[hor]) (λ _ _ _ _=>by simp only[hor]) f x d i
theorem aco(p:fZ)(x:Int)(j:Nat):Dk j (Ci p) (x:Rat)=((hv p.2 p.1 x j:Int):Rat):=by rw[alP];exact aye _ _ _ _
theorem arp(n:Int):Go.iE.Ag (n:Rat)=n.sign:=by
 rcases gy n with⟨h,e⟩ | ⟨h,e⟩ | ⟨h,e⟩
 all_goals first
  | (rw[e];subst h;exact Go.iE.arq)
  | (rw[e];exact Go.iE.OV (aJJ.2 h))
  | (rw[e];exact Go.iE.OW (aJJ.2 h))
theorem afc:∀k,Qy (-1) k=oC k
 | 0=>rfl
 |k+1=>by show Qy (-1) k*-1=-oC k;rw[afc k];omega
theorem ars{n:Int}(h:n≠0):((n:Int):Rat)≠0:=λ e=>h (Rat.intCast_inj.1 (by rw[e];rfl))
section
variable{p:fZ}(hp:0<p.1)(ht:Tp p)
include hp ht
theorem Si(x:Int):mX (Ci p) (x:Rat) (Sj (hv p.2 p.1 x) p.1):=by
 obtain⟨_,h2,e⟩:=afd hp ht x;refine⟨λ j d=>?_,?_⟩
 .rw[aco,h2 j d];rfl
 .rw[aco];exact ars e
theorem ayf(x:Int):Jo (-1) p x=SA (Ci p) (x:Rat):=by rw[Go.iE.afe (Si hp ht x),aco,arp,<-afc];rfl
theorem ayg:Ci p≠λ _=>0:=λ e=>by have:=(Si hp ht 0).2;rw[e,Go.iE.Ih]at this;exact this rfl
end
theorem alR{m:Nat}{g:Nat->Int}{p:fZ}(hm:1<=m)(d:m<=p.1)(hp:Cn p.1 p.2)(hg:Cn m g)(x:Rat):Ci (Li m g p) x=(uf g m:Rat)*Ci p x+(Cz p.2 p.1 g m:Rat)*(xp x (p.1 - m)*hq g x 0 m):=by
 have hc:=Xj (aaG hm d hp hg);have hl:=Lj (x9 p.2 p.1 g m) (p.1 - 1);have e1:Ci (Li m g p) x=hq (x9 p.2 p.1 g m) x 0 p.1:=(Go.iE.ayh (λ j e=>hc j e) (by omega)).symm
 have e2:x9 p.2 p.1 g m=λ q=>p.2 q*uf g m+sh (p.1 - m) g q*Cz p.2 p.1 g m:=funext λ q=>by
  unfold x9 sh;by_cases h:p.1 - m<=q
  .rw[gH h,gH h,Int.mul_comm (Cz _ _ _ _)]
  .rw[fP h,fP h,aHU]
 rw[e1,e2,Go.iE.alS (λ q=>p.2 q*uf g m) (λ q=>sh (p.1 - m) g q*Cz p.2 p.1 g m),Go.iE.MU,Go.iE.MU];have e3:=Go.iE.alT (p.1 - m) g x m;rw[show p.1 - m+m=p.1 by omega]at e3;rw[e3];show hq p.2 x 0 p.1*_+_=_*hq p.2 x 0 p.1+_
 grind
theorem alU{m:Nat}{g:Nat->Int}{p:fZ}(hm:1<=m)(hp:Cn p.1 p.2)(hg:Cn m g)(ht:g (m - 1)≠0):∀t,(∀j,j<t->m<=(yc m g j p).1)->∃(a:Rat) (Q:Go.iE.Fn),0<a/\iY Q/\∀x,Ci (yc m g t p) x=a*Ci p x+Q x*Ci (m,g) x
 | 0,_=>⟨1,λ _=>0,by decide,iY.zero,λ x=>by show Ci p x=_;grind⟩
 |t+1,h=>by
  obtain⟨a,Q,ha,E,e⟩:=alU hm hp hg ht t λ j d=>h j (by omega);have hc:=(Gp hm hg hp (k:=t) (λ j d=>h j (by omega)) t (ND _)).1
  have o:(0:Rat)<(uf g m:Rat):=by
   have:0<uf g m:=by unfold uf;omega
   exact aJJ.2 this
  refine⟨(uf g m:Rat)*a,λ x=>(uf g m:Rat)*Q x+(Cz (yc m g t p).2 (yc m g t p).1 g m:Rat)*xp x ((yc m g t p).1 - m),aHM o ha,(E.smul _).add ((Go.iE.alW _).smul _),λ x=>?_⟩;rw[zK,alR hm (h t (by omega)) hc hg,e x];show _+_*(_*Ci (m,g) x)=_
  grind
theorem ayi(n:Nat)(f:Nat->Int)(x:Rat):Ci (n,xC f) x=-Ci (n,f) x:=by
 have h:=Go.iE.MU (-1) f x n 0;have e:xC f=λ q=>f q*-1:=funext λ q=>by unfold xC;omega
 show hq (xC f) x 0 n=-hq f x 0 n;rw[e,h];have:((-1:Int):Rat)=-1:=rfl;rw[this]
 grind
theorem ayj{a b:fZ}(hb:0<b.1)(ha:Cn a.1 a.2)(hc:Cn b.1 b.2)(ht:Tp b):∃(c:Rat) (Q:Go.iE.Fn),0<c/\iY Q/\∀x,c*Ci a x+Ci (nxt a b) x=Q x*Ci b x:=by
 obtain⟨E,h2⟩:=Gn (m:=b.1) hb b.2 a.1 a (ND _);obtain⟨c,Q,o,d,e⟩:=alU hb ha hc (ht.resolve_left (by omega)) _ E;refine⟨c,λ x=>-Q x,o,d.neg,λ x=>?_⟩;have e2:Ci (nxt a b) x=-Ci (nJ b.1 b.2 a) x:=ayi _ _ x;have e3:Ci (nJ b.1 b.2 a) x=_:=e x;rw[e2,e3]
 grind
theorem ayk{a b:fZ}(hb:0<b.1)(ha:Cn a.1 a.2)(hc:Cn b.1 b.2):Cn (nxt a b).1 (nxt a b).2:=by obtain⟨d,h2⟩:=Gn (m:=b.1) hb b.2 a.1 a (ND _);have:=(Gp hb hc ha d _ (ND _)).1;intro i hi;show -(nJ b.1 b.2 a).2 i=0;rw[show(nJ b.1 b.2 a).2 i=0 from this i hi];rfl
section
variable{P:fZ}(h2:2<=P.1)(hc:Cn P.1 P.2)(ht:Tp P)
include hc in
theorem alX:∀j,j<=uS P->Cn (cq P j).1 (cq P j).2/\Cn (cq P (j+1)).1 (cq P (j+1)).2
 | 0,_=>⟨hc,acp hc⟩
 |j+1,hj=>by obtain⟨a,b⟩:=alX j (by omega);exact⟨b,ayk ((Bv P).2.1 j (by omega)) a b⟩
include h2 in
theorem YM:1<=uS P:=by obtain⟨_,_,d⟩:=Bv P;refine Nat.pos_of_ne_zero λ e=>?_;rw[e]at d;have:P.1 - 1=0:=d;omega
include h2 in
theorem Vl{j:Nat}(d:j<=uS P):0<(cq P j).1:=by
 cases j with
 |zero=>show 0<P.1;omega
 |succ j=>exact(Bv P).2.1 j (by omega)
include h2 hc ht
theorem aff{i:Nat}(hi:i+1<=uS P):∃(c:Rat) (Q:Go.iE.Fn),0<c/\iY Q/\∀x,c*Ci (cq P i) x+Ci (cq P (i+2)) x=Q x*Ci (cq P (i+1)) x:=ayj (Vl h2 hi) (alX hc i (by omega)).1 (alX hc i (by omega)).2 (LM ht i).2
theorem alY:Chain (λ i=>Ci (cq P i)) (uS P):=by
 have G:∀i,i+2<=uS P->∃(a b:Rat) (Q:Go.iE.Fn),0<a/\0<b/\iY Q/\∀x,a*Ci (cq P i) x+b*Ci (cq P (i+2)) x=Q x*Ci (cq P (i+1)) x:=λ i hi=>by obtain⟨c,Q,E,o,d⟩:=aff h2 hc ht (i:=i) (by omega);exact⟨c,1,Q,E,by decide,o,λ x=>by rw[<-d x];grind⟩
 refine⟨⟨λ i _=>aro _,λ i hi=>ayg (Vl h2 hi) (LM ht i).1,YM h2,⟨1,by decide,λ x=>?_⟩,λ i hi=>?_,?_⟩,G⟩
 .show Ci (cq P 1) x=1*Go.iE.D (Ci P) x;rw[auL];show Ci (P.1 - 1,Fw P.2) x=_
  grind
 .obtain⟨a,b,Q,E,o,d,h5⟩:=G i hi;exact⟨a,b,Q,E,by grind,d,h5⟩
 .have E:=YM h2;obtain⟨c,Q,o,d,h5⟩:=aff h2 hc ht (i:=uS P - 1) (by omega);refine⟨c,Q,o,d,λ x=>?_⟩;have F:=h5 x;rw[show uS P - 1+2=uS P+1 by omega,show uS P - 1+1=uS P by omega]at F
  have e:Ci (cq P (uS P+1)) x=0:=by show hq _ x 0 (cq P (uS P+1)).1=0;rw[(Bv P).2.2];rfl
  rw[e]at F;rw[<-F]
  grind
omit h2 hc ht in
theorem afg{s:Nat->Int}(d:s 0≠0):∀k,Mf s (k+1)=cnt s 0 k
 | 0=>by
  show 0+(if s 0=-0 then 1 else 0)=0
  rw[fP (by simpa using d)];rfl
 |k+1=>by
  rw[Go.iE.YN,ZO];show Mf s (k+1)+(if s (k+1)=-s k then 1 else 0)=cnt s 0 k+(if s (k+1)=-s k then 1 else 0)
  rw[afg d k]
omit hc in
theorem alZ(a:Int):rtN P a=uz (λ i=>Ci (cq P i)) (uS P) (a:Rat):=by
 have d:Jo (-1) (cq P 0) a≠0:=by rcases OX (Vl h2 (alz _)) (LM ht 0).1 (Gc rfl) a with e |e<;>rw[e]<;>decide
 show Mf (λ q=>Jo (-1) (cq P q) a) (uS P+1)=_;rw[afg d];exact Go.iE.qK λ i _ hi=>ayf (Vl h2 (by omega)) (LM ht i).1 a
theorem aru{a b:Int}(h:a<=b):rtN P b<=rtN P a:=by rw[alZ h2 ht,alZ h2 ht];exact(alY h2 hc ht).mono (aLR.2 h)
end
open Go.Em (qG kJ)
def I64(x:Int):Prop:=-9223372036854775808<=x/\x<=9223372036854775807
def PBg(n:Nat)(f:Nat->Bg)(B:Nat):Prop:=∀i,i<n->kJ (f i).2<=B
def aB0(n:Nat)(f:Nat->Bg)(m:Nat)(g:Nat->Bg)(i:Nat):Bg:=if i<n then(if i<m then awv (f i) (g i)else f i)else awv (false,0) (g i)
def aB1(f:Nat->Bg)(k:Bg)(i:Nat):Bg:=aww (f i) k
def aB2(f:Nat->Bg)(i:Nat):Bg:=aww (f (i+1)) (bOf ((i+1:Nat):Int))
end Go.Proofs.YtdlhemnconimnaaGreat
namespace Go.Gv
end Go.Gv
namespace Go.Proofs.YtdlhemnconimnaaGreat
open Go.Gv
open Go.Em (qG kJ)
section
end
section
end
def aFR(n:Nat)(f:Nat->Bg)(i:Nat):Int:=if i<n then bv (f i)else 0
def yI(f g:Nat->Bg)(i j:Nat)(y:Nat->Bg)(q:Nat):Bg:=if i<=q/\q<i+j then awv (y q) (aww (f i) (g (q - i)))else y q
def yO(f g:Nat->Bg)(m:Nat):Nat->Nat->Bg
 | 0=>λ _=>(false,0)
 |i+1=>yI f g i m (yO f g m i)
section
variable{n:Nat}{f:Nat->Bg}{m:Nat}{g:Nat->Bg}{B:Nat}(hn:n<=1000)(hm:m<=1000)(hB:B<=100000000000)(hf:PBg n f B)(hg:PBg m g B)
include hn hm hB hf hg
end
abbrev BP:Type:=Nat × (Nat->Bg)
abbrev BF':Type:=List AV->BP
section
variable(by' ad mu:BF')(a b:BP)(ld:Bg)(q:BP)
end
open Go.iE (iY hq xp sh)
def bBy(p:BP)(k:Bg):BP:=(btl (aB1 p.2 k) p.1,aB1 p.2 k)
def aDk(p q:BP):BP:=(btl (aB0 p.1 p.2 q.1 q.2) (max p.1 q.1),aB0 p.1 p.2 q.1 q.2)
def aFQ(p q:BP):BP:=(btl (yO p.2 q.2 q.1 p.1) (p.1+q.1),yO p.2 q.2 q.1 p.1)
def bSl(p:BP):BP:=(btl (aB2 p.2) (p.1 - 1),aB2 p.2)
def bV(p:BP):Nat->Int:=aFR p.1 p.2
def BT(p:BP):Prop:=p.1=0\/bv (p.2 (p.1 - 1))≠0
def tmP(L:Nat)(c:Bg):BP:=(L,λ q=>cond (q==L - 1) c (false,0))
def PBP(p:BP)(B:Nat):Prop:=PBg p.1 p.2 B
theorem PBP.le{p:BP}{A B:Nat}(h:PBP p A)(d:A<=B):PBP p B:=λ i hi=>aa2 (h i hi) d
def dC(a:BP)(ld:Bg):Bg:=if ld.1 then aFI (a.2 (a.1 - 1))else a.2 (a.1 - 1)
def dTm(a b:BP)(ld:Bg):BP:=tmP (a.1 - b.1+1) (dC a ld)
def dA(a b:BP)(ld:Bg):BP:=aDk (bBy a (false,ld.2)) (bBy (aFQ (dTm a b ld) b) (bOf (-1)))
def dQ(a b:BP)(ld:Bg)(q:BP):BP:=aDk (bBy q (false,ld.2)) (dTm a b ld)
def dst(b:BP)(ld:Bg)(s:BP × BP):BP × BP:=(dA s.1 b ld,dQ s.1 b ld s.2)
def aEd(b:BP)(ld:Bg)(s:BP × BP):Nat->BP × BP
 | 0=>s
 |k+1=>dst b ld (aEd b ld s k)
section
variable{a b:BP}(hb:1<=b.1)(hab:b.1<=a.1)
include hb hab
end
def dcn(b:BP)(ld:Bg):Nat->BP × BP->Nat
 | 0,_=>0
 |k+1,s=>if b.1<=s.1.1 then dcn b ld k (dst b ld s)+1 else 0
def q0:BP:=(0,λ _=>(false,0))
def dvN(a b:BP):Nat:=dcn b (b.2 (b.1 - 1)) a.1 (a,q0)
def dvP(a b:BP):BP × BP:=aEd b (b.2 (b.1 - 1)) (a,q0) (dvN a b)
section
variable{a b:BP}{M:Nat}(hb:1<=b.1)(ha5:a.1<=5)(hb5:b.1<=5)(hM:M<=1000000000)(pa:PBP a M)(pb:PBP b M)
include hb ha5 hb5 hM pa pb
end
section
end
abbrev DF:Type:=List AV->BP × BP
section
variable(df:DF)(p a b:BP)
end
section
variable(df:DF)(by':BF')(c:Nat)(C:Nat->BP)
variable(p s:BP)
end
section
variable(af:List AV->Int)(c:Nat)(C:Nat->BP)(x n l i:Int)
end
section
end
section
end
open Go.iE (Chain0 Chain Dk)
def em(p:BP):Nat->BP × BP
 | 0=>(p,bSl p)
 |k+1=>((em p k).2,(dvP (em p k).1 (em p k).2).1)
def ec(p:BP)(k:Nat):BP:=(em p k).1
section
variable{p:BP}{B:Nat}(h5:p.1<=5)(hB:B<=10000)(hp:PBP p B)(ht:BT p)
include h5 hB hp ht
end
def onP(p:BP)(K:Nat):BP:=if(ec p K).1<2 then p else(dvP p (ec p K)).2
def sm(p:BP):Nat->BP × BP
 | 0=>(p,bSl p)
 |k+1=>((sm p k).2,bBy (dvP (sm p k).1 (sm p k).2).1 (bOf (-1)))
def sc(p:BP)(k:Nat):BP:=(sm p k).1
section
variable{p:BP}{B:Nat}(h2:2<=p.1)(h5:p.1<=5)(hB:B<=700000)(hp:PBP p B)(ht:BT p)
include h2 h5 hB hp ht
end
end Go.Proofs.YtdlhemnconimnaaGreat
namespace Go.iE
section
variable{p:Nat->Fn}{r:Nat}{N:kT}
end
section
variable{k:Rat}{l:Nat->Rat}{p:Nat->Fn}{r:Nat}(hk:0<k)(hl:∀i,0<l i)
include hk hl
omit hk in
end
end Go.iE
namespace Go.Proofs.YtdlhemnconimnaaGreat
open Go.Gv
open Go.iE (iY Chain0 Chain Dk kT hq)
open Go.Em (kJ)
section
end
open Go.iE (xH)
section
variable{p:BP}{B K r:Nat}(h2:2<=p.1)(h5:p.1<=5)(hB:B<=400)(hp:PBP p B)(ht:BT p)(hK:K<=4)(hpos:∀j,j<K->0<(ec p (j+1)).1)(hend:(ec p (K+1)).1=0)
 (hr1:1<=r) (hr4:r<=4) (hsp:∀j,j<r->0<(sc (onP p K) (j+1)).1) (hse:(sc (onP p K) r).1<=1\/(dvP (sc (onP p K) (r - 1)) (sc (onP p K) r)).1.1=0)
include h2 h5 hB hp ht hK hpos hend
include hr1 hr4 hsp hse
end
section
end
section
end
def zI(b:Bool):Int:=cond b 1 0
section
variable(T:Int->Int)(z:Int->Bool)(lo:Int)
end
section
variable{T:Int->Int}{z:Int->Bool}{lo hi:Int}(hlh:lo<=hi)(mono:∀x y,lo - 1<=x->x<=y->y<=hi->T y<=T x)(hz:∀x,lo<=x->x<=hi->z x=true->T x+1<=T (x - 1))
include hlh mono hz
variable{N:Int->Int}{k:Int}(hN:∀x,lo<=x->x<=hi->N x=T x+k+zI (z x))
include hN
end
def wdB(n:Int):Bool:=cond (decide (n< -2147483648)) true (decide (n>2147483648))
def frB(a b:Int):Bool:=cond (decide (a< -1125899906842624)) true (decide (b>1125899906842624))
section
variable(wf:Int->Bool)(n:Nat)(f:Nat->Int)(lo hi i:Int)(m:Nat)(Y:Nat->List AV)
variable(ff:Int->Int->Bool)(h:Nat->Bg)(L:List Int)
end
section
variable(n:Nat)(f:Nat->Int)(m:Nat)(g:Nat->Int)(i:Int)
end
def tcA(n:Nat)(p:Nat->Int)(lo sp oL i:Int)(m:Nat)(Y:Nat->List AV):St:=mkS 181 [(0,sJ n p),(1,iA lo),(2,iA sp),(3,iA oL),(11,.bQ 0 1 0 m),(12,iA i)] [.a 3 1 m Y]
def aAv:List Nat:=[0,1,2,3,11,12]
def tcB(n:Nat)(q:Nat->Int)(lo sp oL:Int)(m:Nat)(A:Nat->Int)(i:Int):St:=mkS 181 [(1,iA lo),(2,iA sp),(3,iA oL),(11,sJ n q),(13,sJ m A),(15,iA i)] []
def aAw:List Nat:=[1,2,3,11,13,15]
section
variable(n:Nat)(p q:Nat->Int)(lo sp oL i:Int)(m:Nat)(A:Nat->Int)(Y:Nat->List AV)(pf:Int->Int->Int)
variable(x s t:Int)(z:Bool)
end
section
variable(n:Nat)(q:Nat->Int)(lo sp oL:Int)(m:Nat)(A:Nat->Int)(i:Int)
end
abbrev RF:Type:=Nat->(Nat->Int)->Int->Int->List Int × Int
abbrev TF:Type:=Nat->(Nat->Int)->Int->Int
section
variable(rf:RF)(tf:TF)(pf:Int->Int->Int)(n:Nat)(p:Nat->Int)(lo sp oL:Int)(Q:Nat->Int)
def atD:Int:=aH (pf lo 4000 - 2000)
def aAu:Int:=aH (1+pf sp 3000)
def aGD:Int:=aH (atD pf lo+aAu pf sp)
def tO2:List Int × Int:=rf n Q (atD pf lo) (aGD pf lo sp)
def aEU(k:Nat):Int:=(tO2 rf pf n lo sp Q).1.getD k 0
def aEV:Nat:=(tO2 rf pf n lo sp Q).1.length
variable(i' j':Int)
noncomputable def l1:dY:=wG aAv [(11,0,1)] (.a 3 1 0 λ k=>[iA (Q k)]) [none] (tcA n p lo sp oL 0 0 λ k=>[iA (Q k)]) (.exit 0) (tcA n p lo sp oL (n:Nat) n λ k=>[iA (Q k)])
noncomputable def l2:dY:=fF aAw [] (tcB n Q (atD pf lo) (aAu pf sp) oL (aEV rf pf n lo sp Q) (aEU rf pf n lo sp Q) 0) (.exit 2) (tcB n Q (atD pf lo) (aAu pf sp) oL (aEV rf pf n lo sp Q) (aEU rf pf n lo sp Q) i')
variable(z:Bool)
end
structure amy(L:List Int)(lo hi:Int):Prop where
 rng:∀y,y∈L->lo<=y/\y<=hi
 srt:L.Pairwise (·<=·)
theorem amy.at{L:List Int}{lo hi:Int}(h:amy L lo hi){i:Nat}(d:i<L.length):lo<=L.getD i 0/\L.getD i 0<=hi:=by rw[Gd,List.getElem?_eq_getElem d];exact h.rng _ (List.getElem_mem d)
section
variable{p:fZ}(h2:2<=p.1)(hc:Cn p.1 p.2)(ht:Tp p){lo hi:Int}(hlh:lo<=hi)
include h2 hc ht hlh
end
section
end
section
end
section
end
open Go.iE (uz)
section
variable{c:Int}{w:Nat->Int}{n:Nat}(hc:c≠0)(hn:1<=n)
include hc
include hn
end
def el(z:Int->Bool):Int->Nat->List Int
 |_,0=>[]
 |a,d+1=>cond (z a) [65536*a] []++el z (a+1) d
section
end
section
end
section
end
section
end
def born(t:Nat):dZ:=⟨aeb t,λ _ _ _=>none,none⟩
theorem Bp{P:Program}(t:Nat):oN P (born t):=⟨⟨λ _ _ _ _ h=>(by cases h),λ _ _ _ _ _ _ h=>(by cases h)⟩,λ _ h=>(by cases h)⟩
def OG:Nat->Option kH:=λ _=>none
theorem EI:∀i h,OG i=some h->gD 0 h:=λ _ _ h=>by cases h
def v3(a b c:Int):AV:=.agg [iA a,iA b,iA c]
def p2A(o d:Int):AV:=.sl 1 2 (chunk [iA o,iA d] 1)
def p1A(x:Int):AV:=.sl 2 1 (chunk (wC x) 2)
noncomputable def gY(f:Nat)(l:List AV)(p:fZ)(o:Option Out):Option Out:=gate (aj bO f l (fD p)) o
noncomputable def gW(f:Nat)(l:List AV)(x:Int)(o:Option Out):Option Out:=gate (aj bO f l (wA x)) o
section
variable(wh po tm pp:List AV->fZ)(tw pw mi:List AV->Int)
noncomputable def Ve:List bf:=[kS bO 312 (λ l=>fD (wh l)),kS bO 311 (λ l=>fD (po l)),kS bO 313 (λ l=>fD (tm l)),kS bO 314 (λ l=>fD (pp l)),kS bO 315 Yt,kS bO 316 (λ l=>wA (tw l)),kS bO 317 (λ l=>wA (pw l)),kS bO 318 (λ l=>wA (mi l))]
def rgC(o d:Int):fZ:=po [fD (wh [p2A o d])]
def Fh(o d:Int):fZ:=tm [fD (rgC wh po o d),fD (rgC wh po o d)]
noncomputable def rgI(o d:Int)(x:Option Out):Option Out:=gY 312 [p2A o d] (wh [p2A o d]) (gY 311 [fD (wh [p2A o d])] (rgC wh po o d) (gY 313 [fD (rgC wh po o d),fD (rgC wh po o d)] (Fh wh po tm o d) x))
def rW2(w:Int):Int:=tw [wA w,wA w]
def rM2(t:Int):Int:=mi [wA (rW2 tw t)]
def rD2(w t:Int):Int:=pw [wA (rW2 tw w),wA (rM2 tw mi t)]
def rDp(w t:Int):fZ:=po [p1A (rD2 tw pw mi w t)]
def rIn(a:fZ)(w t:Int):fZ:=pp [fD a,fD (rDp po tw pw mi w t)]
def rF2(w:Int):Int:=tw [wA (rW2 tw w),wA (-4)]
def rFp(w:Int):fZ:=po [p1A (rF2 tw w)]
def rOu(b:fZ)(w:Int):fZ:=tm [fD b,fD (rFp po tw w)]
def rSq(a:fZ)(w t:Int):fZ:=tm [fD (rIn po pp tw pw mi a w t),fD (rIn po pp tw pw mi a w t)]
def rRe(a b:fZ)(w t:Int):fZ:=pp [fD (rSq po tm pp tw pw mi a w t),fD (rOu po tm tw b w)]
noncomputable def rgZ(a b:fZ)(w t:Int):Option Out :=
 gW 315 [iA w] w (gW 315 [iA t] t
 (gW 316 [wA w,wA w] (rW2 tw w) (gW 316 [wA t,wA t] (rW2 tw t) (gW 318 [wA (rW2 tw t)] (rM2 tw mi t) (gW 317 [wA (rW2 tw w),wA (rM2 tw mi t)] (rD2 tw pw mi w t)
 (gY 311 [p1A (rD2 tw pw mi w t)] (rDp po tw pw mi w t) (gY 314 [fD a,fD (rDp po tw pw mi w t)] (rIn po pp tw pw mi a w t)
 (gW 316 [wA w,wA w] (rW2 tw w) (gW 315 [iA (-4)] (-4) (gW 316 [wA (rW2 tw w),wA (-4)] (rF2 tw w) (gY 311 [p1A (rF2 tw w)] (rFp po tw w) (gY 313 [fD b,fD (rFp po tw w)] (rOu po tm tw b w)
 (gY 313 [fD (rIn po pp tw pw mi a w t),fD (rIn po pp tw pw mi a w t)] (rSq po tm pp tw pw mi a w t) (gY 314 [fD (rSq po tm pp tw pw mi a w t),fD (rOu po tm tw b w)] (rRe po tm pp tw pw mi a b w t) (some (Out.of (fD (rRe po tm pp tw pw mi a b w t))))))))))))))))))
def pl0(s:fZ):fZ:=pp [oQ,fD s]
def pl1(a s:fZ):fZ:=pp [fD a,fD s]
noncomputable def gp0(s:fZ)(x:Option Out):Option Out:=gY 314 [oQ,fD s] (pl0 pp s) x
noncomputable def gp1(a s:fZ)(x:Option Out):Option Out:=gY 314 [fD a,fD s] (pl1 pp a s) x
variable(o0 o1 o2 d0 d1 d2 w t:Int)
def rA2:fZ:=pl1 pp (pl0 pp (Fh wh po tm o0 d0)) (Fh wh po tm o1 d1)
def rA3:fZ:=pl1 pp (rA2 wh po tm pp o0 o1 d0 d1) (Fh wh po tm o2 d2)
theorem ax4:Q6 bO [] (Ve wh po tm pp tw pw mi) [born 56,born 322] bC OG aNp [v3 o0 o1 o2,v3 d0 d1 d2,iA 0,iA w,iA t] ret =
  rgI wh po tm o0 d0 (gp0 pp (Fh wh po tm o0 d0) (rgI wh po tm o1 d1 (gp1 pp (pl0 pp (Fh wh po tm o0 d0)) (Fh wh po tm o1 d1) (gp0 pp (Fh wh po tm o1 d1)
  (rgI wh po tm o2 d2 (gp1 pp (rA2 wh po tm pp o0 o1 d0 d1) (Fh wh po tm o2 d2) (gp1 pp (pl0 pp (Fh wh po tm o1 d1)) (Fh wh po tm o2 d2)
  (rgZ po tm pp tw pw mi (rA3 wh po tm pp o0 o1 o2 d0 d1 d2) (pl1 pp (pl0 pp (Fh wh po tm o1 d1)) (Fh wh po tm o2 d2)) w t)))))))):=by kernel_rfl
theorem ax5:Q6 bO [] (Ve wh po tm pp tw pw mi) [born 56,born 322] bC OG aNp [v3 o0 o1 o2,v3 d0 d1 d2,iA 1,iA w,iA t] ret =
  rgI wh po tm o0 d0 (gp0 pp (Fh wh po tm o0 d0) (gp0 pp (Fh wh po tm o0 d0) (rgI wh po tm o1 d1 (gp1 pp (pl0 pp (Fh wh po tm o0 d0)) (Fh wh po tm o1 d1)
  (rgI wh po tm o2 d2 (gp1 pp (rA2 wh po tm pp o0 o1 d0 d1) (Fh wh po tm o2 d2) (gp1 pp (pl0 pp (Fh wh po tm o0 d0)) (Fh wh po tm o2 d2)
  (rgZ po tm pp tw pw mi (rA3 wh po tm pp o0 o1 o2 d0 d1 d2) (pl1 pp (pl0 pp (Fh wh po tm o0 d0)) (Fh wh po tm o2 d2)) w t)))))))):=by kernel_rfl
theorem ax6:Q6 bO [] (Ve wh po tm pp tw pw mi) [born 56,born 322] bC OG aNp [v3 o0 o1 o2,v3 d0 d1 d2,iA 2,iA w,iA t] ret =
  rgI wh po tm o0 d0 (gp0 pp (Fh wh po tm o0 d0) (gp0 pp (Fh wh po tm o0 d0) (rgI wh po tm o1 d1 (gp1 pp (pl0 pp (Fh wh po tm o0 d0)) (Fh wh po tm o1 d1) (gp1 pp (pl0 pp (Fh wh po tm o0 d0)) (Fh wh po tm o1 d1)
  (rgI wh po tm o2 d2 (gp1 pp (rA2 wh po tm pp o0 o1 d0 d1) (Fh wh po tm o2 d2)
  (rgZ po tm pp tw pw mi (rA3 wh po tm pp o0 o1 o2 d0 d1 d2) (pl1 pp (pl0 pp (Fh wh po tm o0 d0)) (Fh wh po tm o1 d1)) w t)))))))):=by kernel_rfl
end
def Kl:AV->fZ
 |.sl _ n el=>(n,λ i=>kF (.agg (el i)))
 |_=>(0,λ _=>0)
theorem Km(p:fZ):Kl (fD p)=p:=by obtain⟨n,f⟩:=p;show((n,λ i=>kF (wA (f i))):fZ)=(n,f);simp only[iC]
def apM:AV->fZ
 |.sl _ n el=>(n,λ i=>av9 ((el i).getD 0 .any))
 |_=>(0,λ _=>0)
def cf(o d:Int):Nat->Int
 | 0=>o
 | 1=>d
 |_=>0
def NT(x:Int):Nat->Int
 | 0=>x
 |_=>0
theorem aBN(o d:Int):Cn 2 (cf o d):=λ i hi=>by
 match i,hi with
 |i+2,_=>rfl
theorem aBO(x:Int):Cn 1 (NT x):=λ i hi=>by
 match i,hi with
 |i+1,_=>rfl
theorem ajB(o d:Int):apM (p2A o d)=(2,cf o d):=by
 show((2,λ i=>av9 ((chunk [iA o,iA d] 1 i).getD 0 .any)):fZ)=(2,cf o d);congr 1;funext i
 match i with
 | 0=>rfl
 | 1=>rfl
 |i+2 =>
  unfold chunk;rw[aJ1 (by simp)];rfl
theorem awc(x:Int):Kl (p1A x)=(1,NT x):=by
 show((1,λ i=>kF (.agg (chunk (wC x) 2 i))):fZ)=(1,NT x);congr 1;funext i
 match i with
 | 0=>exact iC x
 |i+1 =>
  unfold chunk;rw[aJ1 (by simp only[wC,aBz,aKc];omega)];rfl
noncomputable def poY(p:fZ):fZ:=(tl p.2 p.1,p.2)
noncomputable def tmY(p q:fZ):fZ:=(tl (psm p.2 q.2 p.1) (p.1+q.1 - 1),psm p.2 q.2 p.1)
noncomputable def QI(p q:fZ):fZ:=(tl (fV p.2 q.2) (max p.1 q.1),fV p.2 q.2)
def whC(l:List AV):fZ:=apM (a0 l)
noncomputable def poC(l:List AV):fZ:=poY (Kl (a0 l))
noncomputable def tmC(l:List AV):fZ:=tmY (Kl (a0 l)) (Kl (a1 l))
noncomputable def ppC(l:List AV):fZ:=QI (Kl (a0 l)) (Kl (a1 l))
def twC(l:List AV):Int:=kF (a0 l)*kF (a1 l)
def pwC(l:List AV):Int:=kF (a0 l)+kF (a1 l)
def miY(l:List AV):Int:=-kF (a0 l)
theorem aBP(p:fZ):poC [fD p]=poY p:=congrArg poY (Km p)
theorem ajC(p q:fZ):tmC [fD p,fD q]=tmY p q:=by show tmY (Kl (fD p)) (Kl (fD q))=_;rw[Km,Km]
theorem Rn(p q:fZ):ppC [fD p,fD q]=QI p q:=by show QI (Kl (fD p)) (Kl (fD q))=_;rw[Km,Km]
def zP0:fZ:=(0,λ _=>0)
theorem aew(q:fZ):ppC [oQ,fD q]=QI zP0 q:=by show QI (Kl oQ) (Kl (fD q))=_;rw[Km];rfl
theorem aum(x y:Int):twC [wA x,wA y]=x*y:=by show kF (wA x)*kF (wA y)=_;rw[iC,iC]
theorem aBQ(x y:Int):pwC [wA x,wA y]=x+y:=by show kF (wA x)+kF (wA y)=_;rw[iC,iC]
theorem aBR(x:Int):miY [wA x]=-x:=congrArg (λ y:Int=>-y) (iC x)
structure iI(p:fZ)(k B:Nat):Prop where
 len:p.1<=k
 cn:Cn p.1 p.2
 zw:∀i,Zw (p.2 i)<=B
theorem iI.mono{p:fZ}{k B C:Nat}(h:iI p k B)(hB:B<=C):iI p k C:=⟨h.len,h.cn,λ i=>aa2 (h.zw i) hB⟩
theorem aFq:iI zP0 3 0:=⟨alz _,λ _ _=>rfl,λ _=>Nat.le_of_eq tL⟩
theorem auo{p:fZ}{k B:Nat}(h:iI p k B):iI (poY p) k B:=⟨aa2 (Lj _ _) h.len,Xj h.cn,h.zw⟩
theorem Xr{p q:fZ}{k B:Nat}(h:iI p k B)(g:iI q k B):iI (QI p q) k (B+1):=by refine⟨aa2 (Lj _ _) (Nat.max_le.2 ⟨h.len,g.len⟩),Xj (λ i hi=>?_),λ i=>Kn (h.zw i) (g.zw i)⟩;show p.2 i+q.2 i=0;rw[h.cn i (by omega),g.cn i (by omega)];rfl
theorem aaT{f g:Nat->Int}{n A B:Nat}(hf:Cn n f)(ha:∀i,Zw (f i)<=A)(hb:∀i,Zw (g i)<=B)(q:Nat):∀i,Zw (psm f g i q)<=A+B+min i n
 | 0=>by show Zw 0<=_;rw[tL];exact alz _
 |i+1=>by
  show Zw (psm f g i q+if i<=q then f i*g (q - i)else 0)<=_
  have d:=aaT hf ha hb q i;by_cases o:i<n
  .have h2:Zw (if i<=q then f i*g (q - i)else 0)<=A+B+min i n:=by
    by_cases hq:i<=q
    .rw[gH hq];have:=su (f i) (g (q - i));have:=ha i;have:=hb (q - i);omega
    .rw[fP hq,tL];exact alz _
   have:=Kn d h2;have e1:min i n=i:=aJH (by omega);have e2:min (i+1) n=i+1:=aJH (by omega);omega
  .have e:(if i<=q then f i*g (q - i)else 0)=0:=by
    rw[hf i (by omega),aHU];by_cases hq:i<=q
    .rw[gH hq]
    .rw[fP hq]
   rw[e,aHV];have e1:min i n=n:=aNq (by omega);have e2:min (i+1) n=n:=aNq (by omega);omega
theorem awd{f g:Nat->Int}{n A B:Nat}(hf:Cn n f)(ha:∀i,Zw (f i)<=A)(hb:∀i,Zw (g i)<=B)(i j q:Nat):Zw (pin f g i j q)<=A+B+n+1:=by
 have d:=aaT hf ha hb q i;have e:min i n<=n:=Nat.min_le_right _ _;unfold pin;refine Kn (B:=A+B+n) (by omega) ?_;by_cases hq:i<=q/\q<i+j
 .rw[gH hq];have:=su (f i) (g (q - i));have:=ha i;have:=hb (q - i);omega
 .rw[fP hq,tL];exact alz _
theorem aex{p q:fZ}{k m A B:Nat}(h:iI p k A)(g:iI q m B):iI (tmY p q) (k+m - 1) (A+B+k):=by have l1:=h.len;have l2:=g.len;refine⟨aa2 (Lj _ _) (by omega),Xj (ajD g.cn p.1 (ND _)),λ i=>?_⟩;have:=aaT h.cn h.zw g.zw i p.1;show Zw (psm p.2 q.2 p.1 i)<=_;rw[Nat.min_self]at this;omega
theorem aBS{o d:Int}(F:I64 o)(G:I64 d):aj bO 312 [p2A o d] (fD (2,cf o d)):=by
 have:=apf (n:=2) (u:=cf o d) (by decide) (λ i hi=>by
  match i,hi with
  | 0,_=>exact F
  | 1,_=>exact G)
 refine aj.vD this λ E I h=>?_;obtain⟨v,e,rfl,H,h2⟩:=aD.1 h
 exact aD.2 ⟨v,e,rfl,ql H λ i hi=>(by
  match i,hi with
  | 0,_=>rfl
  | 1,_=>rfl),h2⟩
theorem aBT{p:fZ}{k B:Nat}(h:iI p k B)(hk:k<=1000):aj bO 311 [fD p] (fD (poY p)):=Im p.2 (by have:=h.len;omega)
theorem awe(x:Int):aj bO 311 [p1A x] (fD (poY (1,NT x))):=by
 refine aj.vD (Im (n:=1) (NT x) (by decide)) λ E o h=>?_;obtain⟨v,d,rfl,e,h2⟩:=aD.1 h
 exact aD.2 ⟨v,d,rfl,ql e λ i hi=>(by
  match i,hi with
  | 0,_=>rfl),h2⟩
theorem ajE{p q:fZ}{k B:Nat}(h:iI p k B)(g:iI q k B)(hk:k<=1000)(hB:B<=1000):aj bO 314 [fD p,fD q] (fD (QI p q)):=by have l1:=h.len;have l2:=g.len;exact aey (by omega) (by omega) h.cn g.cn (λ i=>nZ (by have:=h.zw i;omega)) (λ i=>nZ (by have:=g.zw i;omega))
theorem awf{q:fZ}{k B:Nat}(g:iI q k B)(hk:k<=1000)(hB:B<=1000):aj bO 314 [oQ,fD q] (fD (QI zP0 q)):=by have l2:=g.len;have:=aey (n:=0) (m:=q.1) (f:=λ _=>0) (g:=q.2) (by omega) (by omega) (λ _ _=>rfl) g.cn (λ i=>nZ (by rw[tL];omega)) (λ i=>nZ (by have:=g.zw i;omega));refine aj.vD this λ E o h=>?_;obtain⟨v,d,rfl,e,h2⟩:=aD.1 h;exact aD.2 ⟨v,d,rfl,wB e,h2⟩
theorem ajF{p q:fZ}{k m A B:Nat}(h:iI p k A)(g:iI q m B)(hk:k<=1000)(hm:m<=1000)(hA:A<=1000)(hB:B<=1000):aj bO 313 [fD p,fD q] (fD (tmY p q)):=by have l1:=h.len;have l2:=g.len;exact apN (by omega) (by omega) g.cn (λ i=>nZ (by have:=h.zw i;omega)) (λ i=>nZ (by have:=g.zw i;omega)) (λ i j=>nZ (by have:=h.zw i;have:=g.zw j;have:=su (p.2 i) (q.2 j);omega)) (λ i j d=>nZ (by have:=awd h.cn h.zw g.zw i j d;omega))
end Go.Proofs.YtdlhemnconimnaaGreat
