/- Texts, one behind the other. -/
import Derived.Test.YtdlhemnconimnaaGreatC8
import Derived.Test.YtdlhemnconimnaaGreatC6
import Derived.Test.YtdlhemnconimnaaGreatC5
import Derived.Test.YtdlhemnconimnaaGreatC7
import Derived.Test.YtdlhemnconimnaaGreatC4
open Classical renaming axiomOfChoice->aIt,choose->aOy,choose_spec->aOz
open Go.Proofs.Tryz renaming f136->aL0,f139->aI3,f140->aIu,f141->aKZ,f16->aIy,f247->aOG,f25->aJh,f41->aJZ,f42->aHT,f43->aKs,f48->aNO,f50->aNP,f52->aNQ,f86->aHZ,f91->aJ0,f95->aMN,f96->aIO,func139->aOa,func247->aOb,func41->aOo,func46->aMy,func86->aJB,func91->aOn,prog->bO
open Int renaming le_refl->af2,natCast_nonneg->avq,toNat_natCast->pF
open List renaming all_eq_true->ab3,mem_range->aHi
open Nat renaming add_mul->auK,beq->amH,beq_refl->aIC,ble->apB,ble_eq_true_of_le->agl,blt->Tv,div_eq_of_lt->aHw,le_of_ble_eq_true->Ou,le_refl->ND,le_trans->aa2,lt_one_iff->aKd,mod_eq_of_lt->aG8,mul_add_div->aNF,mul_add_mod->aNE,mul_comm->aEw,mul_le_mul->aHI,mul_le_mul_right->ahL,not_lt_zero->avm,succ_mul->aMg,zero_add->ZO,zero_mul->aH1
open Or renaming inl->wV,inr->Gc
namespace Go.Proofs.YtdlhemnconimnaaGreat.Hs.So
open Go.Gv
open Go.Ev (cn aM aU aX fdiv bD dG dR dN iB bW iL fabs)
def Runs(c:Code)(s:St)(e:Exit)(o:St):Prop:=∃(S:Nat->St) (n:Nat),S 0=s/\(∀j,j<n->bH bO c (S j) .normal (S (j+1)))/\bH bO c (S n) e o
theorem Runs.last{c:Code}{s o:St}{e:Exit}(h:bH bO c s e o):Runs c s e o:=⟨λ _=>s,0,rfl,λ j C=>absurd C (avm j),h⟩
theorem Runs.cons{c:Code}{s s1 o:St}{e:Exit}(h:bH bO c s .normal s1)(g:Runs c s1 e o):Runs c s e o:=by
 obtain⟨S,n,I,E,C⟩:=g;refine⟨λ j=>match j with | 0=>s |j+1=>S j,n+1,rfl,λ j J=>?_,C⟩
 cases j with
 |zero=>show bH bO c s .normal (S 0);rw[I];exact h
 |succ j=>exact E j (by omega)
theorem Runs.loop{c:Code}{s j:St}{e:Exit}(o:e≠.normal)(h:Runs c s e j):bH bO (.loop c) s e j:=by obtain⟨S,n,rfl,E,C⟩:=h;exact aP S n e j o E C
theorem Jw:∀e,e∈MP dD->jr bO e:=aL acY aB
theorem afy(b:Bool)(P Q:kC):bM b P.c Q.c=(cond b P Q).c:=by cases b<;>rfl
theorem afz(b:Bool)(x y:Int):bM b [iA x] [iA y]=[iA (cond b x y)]:=by cases b<;>rfl
section
variable{n:Nat}{hs:Nat->Int}{F:Nat}{N:Nat}{sk:Int}{i m k:Nat}{PL:Nat->kC}{OL:Nat->Int}
theorem asq(h:2<=k)(j:k<=100):pR k=((k - 2:Nat):Int):=by unfold pR;rw[aO];omega
theorem aDM(h:2<=k)(j:k<=100):BQ k=((k - 1:Nat):Int):=by unfold BQ;rw[aO];omega
theorem amW(h:2<=k)(j:k<=100):NV k=k - 2:=by unfold NV;rw[asq h j];show(((k - 2:Nat):Int) - 0).toNat=k - 2;omega
theorem asr(h:2<=k)(j:k<=100)(o:m<=100):ajG m k=true:=by unfold ajG lN;rw[asq h j,aDM h j,bZ (show k - 2<k by omega),bZ (show k - 1<k by omega),pF,pF,ZO,ZO,iU (show k - 2<k by omega),iU (show k - 1<k by omega),yB (by omega)];rfl
theorem asu(h:2<=k)(j:k<=100):ajH k=true:=by
 unfold ajH;rw[amW h j,asq h j,agl (show k - 2<=k by omega),agl (show(k - 2+1)*8<=140737488355328 by omega)]
 have:AY none (some ((k - 2:Nat):Int)) none k=true:=by unfold AY;show(decide ((0:Int)<=0)&&(decide ((0:Int)<=((k - 2:Nat):Int))&&(decide (((k - 2:Nat):Int)<=(k:Int))&&decide ((k:Int)<=(k:Int)))))=true;rw[gG (show(0:Int)<=((k - 2:Nat):Int) by omega),gG (show((k - 2:Nat):Int)<=(k:Int) by omega),gG (show(k:Int)<=(k:Int) by omega)];rfl
 rw[this];rfl
theorem aDN(hF:F<=50)(hi:i<=10):0<=aH ((F:Int)+(i:Int)):=by rw[aO];omega
theorem auW(hF:F<=50)(hi:i<=10):0<=aH (aH ((F:Int)+3)+(i:Int)):=by rw[aO (n:=(F:Int)+3),aO];omega
theorem amX(hF:F<=50)(hi:i<=10)(j:sfT (F:Nat) dD (dL n hs) (N:Nat) (i:Nat) k=false):bH bO (av aHT 1) (Mc n hs (F:Nat) (N:Nat) sk (i:Nat) m PL k OL) (.exit 2) (Mc n hs (F:Nat) (N:Nat) sk (i:Nat) m PL k OL):=by refine aK (dB rC [some 0,some 1,some 2,some 3]) Jw (au aG ay) aC ((awi n hs (F:Nat) dD (dL n hs) (N:Nat) sk (i:Nat) m PL k OL).trans ?_);unfold sfC;rw[dO (aDN hF hi),j];rfl
end
section
variable{n:Nat}{hs:Nat->Int}{F:Nat}{N:Nat}{sk:Int}{K:Int->Int}{A:Int->Nat->Nat}{S:Int->Int}(hK:∀f:Nat,f<=100->aj bO 86 [sI n hs,iA (f:Nat)] (SH (K (f:Nat)) (A (f:Nat)) (S (f:Nat))))
include hK
theorem afB(hF:F<=50){i:Nat}(hi:i<=4){o:Option Out}:gLf n hs K A S (sfF (F:Nat) (i:Nat)) o=o:=by
 have e:sfF (F:Nat) (i:Nat)=((F+2+9*i:Nat):Int):=by unfold sfF;rw[aO (n:=(F:Int)+2),aO (n:=9*(i:Int)),aO];omega
 unfold gLf;rw[e];exact ak (hK _ (by omega))
omit hK in
theorem at1(c:Code):Dw bO c λ _ _=>none:=⟨λ s k r h=>(by cases h),λ s j e h=>(by have:=h λ _ _=>some ⟨.normal,s,.any⟩;cases this)⟩
omit hK in
theorem asv{m k:Nat}{PL:Nat->kC}{OL:Nat->Int}:bH bO (av aHT 0) (Mc n hs (F:Nat) (N:Nat) sk (N:Nat) m PL k OL) (.exit 0) (Mc n hs (F:Nat) (N:Nat) sk (N:Nat) m PL k OL):=by have j:yx bO (eZ 9 λ _ _=>none) (av aHT 0):=gq (c:=av aHT 0) (i:=9) 0 1 (at1 _);refine aK (dB rC [some 0,some 1,some 2,some 3]) Jw (au aG (au aG ay)) j ((awj n hs (F:Nat) dD (dL n hs) (N:Nat) sk (N:Nat) m PL k OL (λ _=>0) (λ _ _=>0) (λ _=>0)).trans ?_);rw[bJ];rfl
end
noncomputable def sfW(n:Nat)(hs:Nat->Int)(F:Int)(pf:Int->Int->Int)(rf:Int->Int)(N sk:Int)(m:Nat)(PL:Nat->kC):Option Out:=gR n hs rf F (gR n hs rf (aH (F+1)) (gate (Sub (sfN n hs F (aH (1+pf (rf (aH (F+1))) 4)) (pf (rf F) 3)) (sfN n hs F N sk)) (cond (((amH m m)&&true)||false) (some (Out.of (.agg (FI m PL sk)))) none)))
theorem aDO(n:Nat)(hs:Nat->Int)(F:Int)(pf:Int->Int->Int)(rf:Int->Int)(N sk i:Int)(m:Nat)(PL:Nat->kC)(k:Nat)(OL:Nat->Int):Q6 bO (MP pf) [Kg rf] [] (eZ 5 (fF rC [some 0,some 1] (sfN n hs F N sk) (.exit 0) (Mc n hs F N sk i m PL k OL))) (Ay 13 (yQ 2)) aHT [sI n hs,iA F,iA 3] ret=sfW n hs F pf rf N sk m PL:=by kernel_rfl
def Gt(LF:kC->Prop)(PL:Nat->kC)(m:Nat):Prop:=∀q,q<m->LF (PL q)\/((PL q).op=1\/(PL q).op=2\/(PL q).op=3)/\0<=(PL q).l/\(PL q).l<(q:Nat)/\0<=(PL q).r/\(PL q).r<(q:Nat)
def KT(OL:Nat->Int)(k m:Nat):Prop:=∀q,q<k->0<=OL q/\OL q<(m:Nat)
theorem Gt.more{LF:kC->Prop}{PL:Nat->kC}{m:Nat}{p:kC}(h:Gt LF PL m)(g:LF p\/(p.op=1\/p.op=2\/p.op=3)/\0<=p.l/\p.l<(m:Nat)/\0<=p.r/\p.r<(m:Nat)):Gt LF (λ q=>cond (Tv q m) (PL q) p) (m+1):=λ q hq=>by
 show LF (cond (Tv q m) (PL q) p)\/_;cases j:Tv q m
 .have:=jM j;obtain rfl:q=m:=by omega
  simpa only[j,eU]using g
 .have:q<m:=Ou j;simpa only[j,aY]using h q this
theorem azg{m:Nat}(h:m<=1000):aH (((m+1:Nat):Int) - 1)=(m:Nat):=by rw[aO];omega
theorem KT.more{OL:Nat->Int}{j k m:Nat}(h:KT OL k m)(E:j<=k)(o:m<=1000):KT (λ q=>cond (Tv q j) (OL q) (aH (((m+1:Nat):Int) - 1))) (j+1) (m+1):=λ q hq=>by
 show 0<=cond (Tv q j) (OL q) (aH (((m+1:Nat):Int) - 1))/\cond (Tv q j) (OL q) (aH (((m+1:Nat):Int) - 1))<((m+1:Nat):Int);cases C:Tv q j
 .rw[eU,azg o];omega
 .have:q<j:=Ou C;have:=h q (by omega);rw[aY];omega
section
variable{n:Nat}{hs:Nat->Int}(hr:Nf n hs){LF:kC->Prop}{F:Nat}(hF:F<=50){N:Nat}{sk:Int}
include hr hF
theorem azh{i k m:Nat}{OL:Nat->Int}(hi:i<=10)(o:2<=k)(C:k<=10)(j:KT OL k m):((sfP (F:Nat) dD (dL n hs) (i:Nat) k OL).op=1\/(sfP (F:Nat) dD (dL n hs) (i:Nat) k OL).op=2\/(sfP (F:Nat) dD (dL n hs) (i:Nat) k OL).op=3)/\0<=(sfP (F:Nat) dD (dL n hs) (i:Nat) k OL).l/\(sfP (F:Nat) dD (dL n hs) (i:Nat) k OL).l<(m:Nat)/\0<=(sfP (F:Nat) dD (dL n hs) (i:Nat) k OL).r/\(sfP (F:Nat) dD (dL n hs) (i:Nat) k OL).r<(m:Nat):=by
 have h:=fU (n:=n) (hs:=hs) hr (auW hF hi);have e:=jc (m:=3) h.1 h.2 (by decide);have a:=j (k - 2) (by omega);have b:=j (k - 1) (by omega);have M:OL (0+(pR k).toNat)=OL (k - 2):=by rw[asq o (by omega),pF,ZO]
 have J:OL (0+(BQ k).toNat)=OL (k - 1):=by rw[aDM o (by omega),pF,ZO]
 have I:(sfP (F:Nat) dD (dL n hs) (i:Nat) k OL).op=1+dD (dL n hs (aH (aH ((F:Int)+3)+(i:Nat)))) 3:=by show aH (1+dD (dL n hs (aH (aH ((F:Int)+3)+(i:Nat)))) 3)=_;generalize dD (dL n hs (aH (aH ((F:Int)+3)+(i:Nat)))) 3=z at e ⊢;rw[aO]
 have el:(sfP (F:Nat) dD (dL n hs) (i:Nat) k OL).l=OL (k - 2):=M;have E:(sfP (F:Nat) dD (dL n hs) (i:Nat) k OL).r=OL (k - 1):=J;rw[I,el,E];refine⟨by omega,a.1,a.2,b.1,b.2⟩
theorem amV{i m k:Nat}{PL:Nat->kC}{OL:Nat->Int}(E:2<=k)(I:k<=10)(U:m<=100)(hi:i<=10)(Y:sfT (F:Nat) dD (dL n hs) (N:Nat) (i:Nat) k=true)(Z:Gt LF PL m)(Q:KT OL k m):∃o C,bH bO (av aHT 1) (Mc n hs (F:Nat) (N:Nat) sk (i:Nat) m PL k OL) .normal (Mc n hs (F:Nat) (N:Nat) sk (i:Nat) (m+1) o (k - 1) C)/\Gt LF o (m+1)/\KT C (k - 1) (m+1):=by
 have M:bH bO (av aHT 1) (Mc n hs (F:Nat) (N:Nat) sk (i:Nat) m PL k OL) .normal (sfE n hs (F:Nat) (N:Nat) sk (i:Nat) (m+1) (λ q=>bM (Tv q m) (PL q).c (sfP (F:Nat) dD (dL n hs) (i:Nat) k OL).c) (NV k+1) (λ q=>bM (Tv q (NV k)) [iA (OL q)] [iA (aH (((m+1:Nat):Int) - 1))])):=by refine aK (bB rC [some 0,some 1,some 5,some 7]) Jw (au aG ay) aC ((aBU n hs (F:Nat) dD (dL n hs) (N:Nat) sk (i:Nat) m PL k OL).trans ?_);unfold sfC;rw[dO (aDN hF hi),Y,aY,dO (auW hF hi),asr E (by omega) U,aY,asu E (by omega)];rfl
 have eln:=amW E (show k<=100 by omega);have J:=KT.more Q (j:=NV k) (by omega) (by omega);rw[show NV k+1=k - 1 by omega]at M J;refine⟨λ q=>cond (Tv q m) (PL q) (sfP (F:Nat) dD (dL n hs) (i:Nat) k OL),λ q=>cond (Tv q (NV k)) (OL q) (aH (((m+1:Nat):Int) - 1)),M.sub (Sub.refl _) ?_,Z.more (Gc (azh hr hF hi E I Q)),J⟩;exact gZ ⟨wV rfl,wV rfl,Gc (wV ⟨136,16,m+1,_,_,rfl,rfl,λ q hq=>mY (afy _ _ _)⟩),Gc (wV ⟨3,1,k - 1,_,_,rfl,rfl,λ q hq=>mY (afz _ _ _)⟩),trivial⟩
theorem Zh{i:Nat}(hi:i<=10):∀(j:Nat) (m k:Nat) (PL:Nat->kC) (OL:Nat->Int),k=j+1->k<=10->m+k<=50->Gt LF PL m->KT OL k m->∃m2 o pR C,Runs (av aHT 1) (Mc n hs (F:Nat) (N:Nat) sk (i:Nat) m PL k OL) (.exit 2) (Mc n hs (F:Nat) (N:Nat) sk (i:Nat) m2 o pR C)/\1<=pR/\m<=m2/\m2+pR=m+k/\Gt LF o m2/\KT C pR m2
 | 0,m,k,PL,OL,hk,_,_,hP,hO=>by subst hk;exact⟨m,PL,0+1,OL,Runs.last (amX hF hi rfl),by omega,by omega,rfl,hP,hO⟩
 |j+1,m,k,PL,OL,hk,h1,h2,hP,hO=>by
  cases M:sfT (F:Nat) dD (dL n hs) (N:Nat) (i:Nat) k
  .exact⟨m,PL,k,OL,Runs.last (amX hF hi M),by omega,by omega,rfl,hP,hO⟩
  .obtain⟨I,J,E,p1,Q⟩:=amV hr hF (N:=N) (sk:=sk) (show 2<=k by omega) h1 (show m<=100 by omega) hi M hP hO;obtain⟨m2,o,pR,C,Z,g2,g3,g4,Y,U⟩:=Zh hi j (m+1) (k - 1) I J (by omega) (by omega) (by omega) p1 Q;exact⟨m2,o,pR,C,Runs.cons E Z,g2,by omega,by omega,Y,U⟩
end
section
variable{n:Nat}{hs:Nat->Int}(hr:Nf n hs){F:Nat}(hF:F<=50){N:Nat}{sk:Int}{K:Int->Int}{A:Int->Nat->Nat}{S:Int->Int}(hK:∀f:Nat,f<=100->aj bO 86 [sI n hs,iA (f:Nat)] (SH (K (f:Nat)) (A (f:Nat)) (S (f:Nat)))){LF:kC->Prop}(hLF:∀f:Nat,f<=100->LF (lfP K A S (f:Nat)))
include hr hF hK hLF
omit hr hK in
theorem afA{i:Nat}(hi:i<=4):LF (lfP K A S (sfF (F:Nat) (i:Nat))):=by
 have e:sfF (F:Nat) (i:Nat)=((F+2+9*i:Nat):Int):=by unfold sfF;rw[aO (n:=(F:Int)+2),aO (n:=9*(i:Int)),aO];omega
 rw[e];exact hLF _ (by omega)
omit hr in
theorem ac0(C:0<N):∃PL OL,bH bO (av aHT 0) (sfN n hs (F:Nat) (N:Nat) sk) .normal (Mc n hs (F:Nat) (N:Nat) sk ((1:Nat):Int) 1 PL 1 OL)/\Gt LF PL 1/\KT OL 1 1:=by
 have j:bH bO (av aHT 0) (sfN n hs (F:Nat) (N:Nat) sk) .normal (sfE n hs (F:Nat) (N:Nat) sk (aH (0+1)) 1 (λ q=>bM (Tv q 0) [] (lfP K A S (sfF (F:Nat) 0)).c) 1 (λ q=>bM (Tv q 0) [] [iA 0])):=by refine aK (bB rC [some 0,some 1,some 3,some 5]) Jw (au aG (au aG ay)) aC ((ajI n hs (F:Nat) dD (dL n hs) (N:Nat) sk K A S).trans ?_);rw[gG (show(0:Int)<(N:Nat) by omega),aY];have h:=afB hK hF (i:=0) (by decide) (o:=gR n hs (dL n hs) (aH ((F:Int)+0)) (some ⟨.normal,sfE n hs (F:Nat) (N:Nat) sk (aH (0+1)) 1 (λ q=>bM (Tv q 0) [] (lfP K A S (sfF (F:Nat) 0)).c) 1 (λ q=>bM (Tv q 0) [] [iA 0]),.any⟩));exact h.trans (dO (by rw[aO];omega))
 refine⟨λ _=>lfP K A S (sfF (F:Nat) 0),λ _=>0,j.sub (Sub.refl _) ?_,λ q hq=>wV (afA hF hLF (i:=0) (by decide)),λ q hq=>⟨af2 0,(by show(0:Int)<1;decide)⟩⟩;rw[show aH (0+1)=((1:Nat):Int) by decide];refine gZ ⟨wV rfl,wV rfl,Gc (wV ⟨136,16,1,_,_,rfl,rfl,λ q hq=>?_⟩),Gc (wV ⟨3,1,1,_,_,rfl,rfl,λ q hq=>?_⟩),trivial⟩
 .obtain rfl:q=0:=aKd.1 hq;exact mY rfl
 .obtain rfl:q=0:=aKd.1 hq;exact mY rfl
theorem ahW{i m k:Nat}{PL:Nat->kC}{OL:Nat->Int}(hi:i<N)(hN:N<=4)(hk:1<=k)(hm:1<=m)(M:m+k<=20)(Q:k<=8)(U:Gt LF PL m)(Y:KT OL k m):∃C I E J,bH bO (av aHT 0) (Mc n hs (F:Nat) (N:Nat) sk (i:Nat) m PL k OL) .normal (Mc n hs (F:Nat) (N:Nat) sk ((i+1:Nat):Int) C I E J)/\1<=E/\1<=C/\C+E=m+k+2/\E<=k+1/\Gt LF I C/\KT J E C:=by obtain⟨m2,j,pR,o,g1,g2,g3,g4,g5,g6⟩:=Zh hr hF (N:=N) (sk:=sk) (i:=i) (by omega) k (m+1) (k+1) (λ q=>cond (Tv q m) (PL q) (lfP K A S (sfF (F:Nat) (i:Nat)))) (λ q=>cond (Tv q k) (OL q) (aH (((m+1:Nat):Int) - 1))) rfl (by omega) (by omega) (U.more (wV (afA hF hLF (by omega)))) (Y.more (ND k) (by omega));refine⟨m2,j,pR,o,?_,g2,by omega,by omega,by omega,g5,g6⟩;have Z:yx bO (sfL n hs (F:Nat) (N:Nat) sk (i:Nat) m k m2 (λ q=>cond (Tv q m) (PL q) (lfP K A S (sfF (F:Nat) (i:Nat)))) j pR (λ q=>cond (Tv q k) (OL q) (aH (((m+1:Nat):Int) - 1))) o) (av aHT 0):=gq (c:=av aHT 0) (i:=9) 0 1 (aS (keep:=rC) (τ:=[some 0,some 1,some 5,some 7]) (Runs.loop (by simp) g1));refine aK (bB rC [some 0,some 1,some 2,some 3]) Jw (au aG (au aG ay)) Z ((apQ n hs (F:Nat) dD (dL n hs) (N:Nat) sk (i:Nat) m PL k OL K A S m2 _ j pR _ o).trans ?_);unfold sfO;rw[gG (show((i:Nat):Int)<(N:Nat) by omega),aY,afB hK hF (by omega),yB (by omega),agl (ND k),agl (show(k+1)*8<=140737488355328 by omega),aQ (n:=i) (by omega)];refine ak (gZ ⟨wV rfl,wV rfl,Gc (wV ⟨136,16,m+1,_,_,rfl,rfl,λ q hq=>mY (afy _ _ _)⟩),Gc (wV ⟨3,1,k+1,_,_,rfl,rfl,λ q hq=>mY (afz _ _ _)⟩),trivial⟩)
theorem SC(Q:N<=4):∀(j i m k:Nat) (PL:Nat->kC) (OL:Nat->Int),i+j=N->1<=k->1<=m->m+k<=2*i->k<=i->Gt LF PL m->KT OL k m->∃E o I C,Runs (av aHT 0) (Mc n hs (F:Nat) (N:Nat) sk (i:Nat) m PL k OL) (.exit 0) (Mc n hs (F:Nat) (N:Nat) sk (N:Nat) E o I C)/\1<=E/\E<=7/\Gt LF o E
 | 0,i,m,k,PL,OL,e,h1,h2,h3,_,hP,_=>by
  obtain rfl:i=N:=by omega
  exact⟨m,PL,k,OL,Runs.last asv,h2,by omega,hP⟩
 |j+1,i,m,k,PL,OL,e,h1,h2,h3,h4,hP,hO=>by obtain⟨m1,J,BQ,M,g1,g2,g3,g4,g5,g6,g7⟩:=ahW hr hF hK hLF (N:=N) (sk:=sk) (i:=i) (PL:=PL) (OL:=OL) (by omega) Q h1 h2 (by omega) (by omega) hP hO;obtain⟨E,o,I,C,r1,Z,Y,U⟩:=SC Q j (i+1) m1 BQ J M (by omega) g2 g3 (by omega) (by omega) g6 g7;exact⟨E,o,I,C,Runs.cons g1 r1,Z,Y,U⟩
end
theorem Ug{n:Nat}{hs:Nat->Int}(h:Nf n hs){F:Nat}(hF:F<=50){LF:kC->Prop}(hx:∀f:Nat,f<=100->∃k a sk,aj bO 86 [sI n hs,iA (f:Nat)] (SH k a sk)/\LF ⟨0,0,0,k,a,sk⟩):∃m PL,1<=m/\m<=7/\Gt LF PL m/\aj bO 42 [sI n hs,iA (F:Nat),iA 3] (.agg (FI m PL (dD (dL n hs (F:Nat)) 3))):=by
 have h1:∀f:Int,∃y:Int × (Nat->Nat) × Int,∀g:Nat,f=(g:Nat)->g<=100->aj bO 86 [sI n hs,iA (g:Nat)] (SH y.1 y.2.1 y.2.2)/\LF ⟨0,0,0,y.1,y.2.1,y.2.2⟩:=λ f=>by
  by_cases hf:0<=f/\f<=100
  .obtain⟨k,a,sk,hk⟩:=hx f.toNat (by omega);refine⟨(k,a,sk),λ g hg _=>?_⟩;have:f.toNat=g:=by omega
   subst this;exact hk
  .exact⟨(0,λ _=>0,0),λ g hg hg'=>absurd ⟨by omega,by omega⟩ hf⟩
 obtain⟨G,J⟩:=aIt h1;have hK:∀f:Nat,f<=100->aj bO 86 [sI n hs,iA (f:Nat)] (SH ((λ f=>(G f).1) ((f:Nat):Int)) ((λ f=>(G f).2.1) ((f:Nat):Int)) ((λ f=>(G f).2.2) ((f:Nat):Int))):=λ f hf=>(J (f:Nat) f rfl hf).1;have hLF:∀f:Nat,f<=100->LF (lfP (λ f=>(G f).1) (λ f=>(G f).2.1) (λ f=>(G f).2.2) (f:Nat)):=λ f hf=>(J (f:Nat) f rfl hf).2;have Z:0<=((F:Nat):Int):=avq F;have I:0<=aH ((F:Int)+1):=by rw[aO];omega
 have hr:=fU (n:=n) (hs:=hs) h I;have e4:=jc (m:=4) hr.1 hr.2 (by decide);obtain⟨N,C⟩:∃N:Nat,aH (1+dD (dL n hs (aH ((F:Int)+1))) 4)=((N:Nat):Int)/\1<=N/\N<=4:=⟨(1+dD (dL n hs (aH ((F:Int)+1))) 4).toNat,by rw[aO];omega,by omega,by omega⟩;obtain⟨PL,OL,o1,o2,o3⟩:=ac0 (K:=λ f=>(G f).1) (A:=λ f=>(G f).2.1) (S:=λ f=>(G f).2.2) hF hK hLF (N:=N) (sk:=dD (dL n hs (F:Nat)) 3) C.2.1;obtain⟨j,o,k',E,Y,U,Q,M⟩:=SC h hF (K:=λ f=>(G f).1) (A:=λ f=>(G f).2.1) (S:=λ f=>(G f).2.2) hK hLF (N:=N) (sk:=dD (dL n hs (F:Nat)) 3) C.2.2 (N - 1) 1 1 1 PL OL (by omega) (by omega) (by omega) (by omega) (by omega) o2 o3
 refine⟨j,o,U,Q,M,oP (jJ (jm 2)) Jw (au aG ay) aV Tryz.func42
  (gq (c:=dH aHT) (i:=5) 0 2 (aS (keep:=rC) (τ:=[some 0,some 1]) (Runs.loop (by simp) (Runs.cons o1 Y)))) ((aDO n hs (F:Nat) dD (dL n hs) (N:Nat) (dD (dL n hs (F:Nat)) 3) (N:Nat) j o k' E).trans ?_)⟩
 unfold sfW;rw[dO Z,dO I,C.1,ak (Sub.refl _),show amH j j=true from aIC j];rfl
open Go.Ev (VB key aF isFin val bS cZ dU)
theorem Gi{c:Nat}{k:Int}{a:Nat->Nat}{sk:Int}(j:LE k a sk)(hv:∀i,i<11->VB 1 (c+17) (a i)):Mk k a sk:=⟨j,λ i o=>Go.Ev.dX (hv i o).1⟩
theorem v11{c:Nat}{U l1 l2 Q M J I l7 E C j:Nat}(h0:VB 1 (c+17) U)(h1:VB 1 (c+17) l1)(h2:VB 1 (c+17) l2)(h3:VB 1 (c+17) Q)(h4:VB 1 (c+17) M)(h5:VB 1 (c+17) J)(h6:VB 1 (c+17) I)(h7:VB 1 (c+17) l7)(h8:VB 1 (c+17) E)(Z:VB 1 (c+17) C)(o:VB 1 (c+17) j):∀i,i<11->VB 1 (c+17) (ls [U,l1,l2,Q,M,J,I,l7,E,C,j] i):=λ i Y =>
 match i,Y with
 | 0,_=>h0 | 1,_=>h1 | 2,_=>h2 | 3,_=>h3 | 4,_=>h4 | 5,_=>h5 | 6,_=>h6 | 7,_=>h7 | 8,_=>h8 | 9,_=>Z | 10,_=>o
theorem Ed{m:Nat}{X:Nat->Int}(hX:Nf m X){f:Nat}(hf:f<=100)(hm:f+9<=m){e v:Int}(he:dD (X f) 3=e)(hv:v=0\/v=1\/v=4):∃k a sk a',lfX (f:Nat) m X k a sk jT e v=some (Out.of (SH k a' sk))/\Mk k a' sk:=by
 obtain⟨c,C⟩:∃c,c=1074:=⟨_,rfl⟩
 have hY:Nf m (lX (f:Nat) X v):=λ i hi=>by
  unfold lX;cases i==0+((f:Nat):Int).toNat
  .exact hX i hi
  .show -9223372036854775808<=v/\v<=9223372036854775807;omega
 have I:f<=200:=by omega
 have HV:dL m (lX (f:Nat) X v) (f:Nat)=v:=by unfold dL;have h0:((m:Int)==0)=false:=mI (by omega);rw[h0,eU,Int.tmod_eq_emod_of_nonneg (avq f),Int.emod_eq_of_lt (avq f) (by omega),pF];unfold lX;rw[pF,ZO,BEq.rfl];rfl
 have hp:aj bO 17 [iA (X (0+((f:Nat):Int).toNat)),iA 3] (iA e):=by subst he;rw[pF,ZO];exact WR rfl
 have f3:fz3 m=true:=by unfold fz3;rw[show amH m m=true from aIC m];rfl
 have Z:=aay C hY I 0 (by decide);have Y:=aay C hY I 1 (by decide);have U:=aay C hY I 2 (by decide);have p7:=tX I (j:=7) (by decide) (by decide);have sr:=jc (m:=1) (fU (n:=m) (hs:=lX (f:Nat) X v) hY p7.1).1 (fU (n:=m) (hs:=lX (f:Nat) X v) hY p7.1).2 (by decide);obtain⟨rv,rp⟩:=aBn C hY I;obtain⟨tv,tp⟩:=aBo C hY I;have E:VB 1 (c+17) 0:=Go.Ev.Ee 1 _;have up:∀{j x:Nat},j<=17->VB 1 (c+j) x->VB 1 (c+17) x:=λ hj h=>Go.Ev.lg h (by omega);have BQ:v=0->tY dD (dL m (lX (f:Nat) X v)) (f:Nat)=1:=λ e=>by unfold tY;rw[HV,e];decide
 have pR:v=1->tY dD (dL m (lX (f:Nat) X v)) (f:Nat)=2:=λ e=>by unfold tY;rw[HV,e];decide
 have k5:v=4->tY dD (dL m (lX (f:Nat) X v)) (f:Nat)=5:=λ e=>by unfold tY;rw[HV,e];decide
 have Q:∀{k:Int} {a:Nat->Nat} {sk:Int} {o:Option Out},aj bO 85 [sI m (lX (f:Nat) X v),iA (f:Nat),iA 1] (SH k a sk)->(HY jT (aX (a 0) WS) (HY jT (aX (a 1) WS) (HY jT (aX (a 2) WS)
   (cond (k==2) (HY jT (lB a jT 0) (HY jT (lB a jT 1) (HY jT (lB a jT 2) (lO k a sk jT (ls [jT (lB a jT 0),jT (lB a jT 1),jT (lB a jT 2)]))))) (lO k a sk jT (ls [a 3,a 4,a 5]))))))=o->lfX (f:Nat) m X k a sk jT e v=o:=fun{k a sk o} hS J=>by
  unfold lfX;rw[WT (show f<m by omega),ak hp,WT (show f<m by omega),f3,aY,ak hS];exact J
 rcases hv with hv |hv |hv
 .have hS:=aBp I (BQ hv);generalize Q7 m (lX (f:Nat) X v) f 0=y0 at hS Z;generalize Q7 m (lX (f:Nat) X v) f 1=y1 at hS Y;generalize Q7 m (lX (f:Nat) X v) f 2=y2 at hS U;generalize zy dD bU (dL m (lX (f:Nat) X v)) (f:Nat)=R at hS rv rp;generalize dD (dL m (lX (f:Nat) X v) (aH ((f:Nat)+7))) 1=s at hS sr;obtain⟨q0,l0,b0⟩:=Fy (a:=ls [y0,y1,y2,0,0,0,0,0,0,R,0]) (i:=0) C Z;obtain⟨q1,l1,b1⟩:=Fy (a:=ls [y0,y1,y2,0,0,0,0,0,0,R,0]) (i:=1) C Y;obtain⟨M,l2,b2⟩:=Fy (a:=ls [y0,y1,y2,0,0,0,0,0,0,R,0]) (i:=2) C U;have J:=aBq C (k:=1) (a:=ls [y0,y1,y2,0,0,0,0,0,0,R,0]) (sk:=s) Z Y U (by decide);rw[l0,l1,l2]at J;refine⟨1,_,s,ls [bU q0,bU q1,bU M,0,0,0,0,0,0,R,0],Q hS J,?_⟩;have WU:=v11 (up (by decide) (oM C (p:=q0) (by omega))) (up (by decide) (oM C (p:=q1) (by omega))) (up (by decide) (oM C (p:=M) (by omega))) E E E E E E (up (by decide) rv) E;exact Gi (wV ⟨rfl,aiP C ⟨sr.1,by omega⟩ WU rp⟩) WU
 .obtain⟨g0,g1,g2,hS⟩:=aBr I (pR hv);generalize Q7 m (lX (f:Nat) X v) f 0=y0 at hS Z;generalize Q7 m (lX (f:Nat) X v) f 1=y1 at hS Y;generalize Q7 m (lX (f:Nat) X v) f 2=y2 at hS U;generalize dD (dL m (lX (f:Nat) X v) (aH ((f:Nat)+7))) 1=s at hS sr;obtain⟨q0,l0,b0⟩:=Fy (a:=ls [y0,y1,y2,g0,g1,g2,0,0,0,0,0]) (i:=0) C Z;obtain⟨q1,l1,b1⟩:=Fy (a:=ls [y0,y1,y2,g0,g1,g2,0,0,0,0,0]) (i:=1) C Y;obtain⟨M,l2,b2⟩:=Fy (a:=ls [y0,y1,y2,g0,g1,g2,0,0,0,0,0]) (i:=2) C U;have J:=aFl C (k:=2) (a:=ls [y0,y1,y2,g0,g1,g2,0,0,0,0,0]) (sk:=s) Z Y U rfl rfl;rw[l0,l1,l2]at J;obtain⟨w0,o0⟩:=aaz C b0 TD (avt b0);obtain⟨w1,o1⟩:=aaz C b1 WV (aph b1);obtain⟨w2,o2⟩:=aaz C b2 CK (avu b2);have w2:VB 1 (c+4) (jT (aM (bU M) Le)):=w2;have o2:key (bU M)<=key (jT (aM (bU M) Le)):=o2;generalize jT (aM (bU q0) (aM 0 one))=u0 at J w0 o0;generalize jT (aM (bU q1) one)=u1 at J w1 o1;generalize jT (aM (bU M) Le)=u2 at J w2 o2;refine⟨2,_,s,ls [bU q0,bU q1,bU M,u0,u1,u2,0,0,0,0,0],Q hS J,?_⟩;have WU:=v11 (up (by decide) (oM C (p:=q0) (by omega))) (up (by decide) (oM C (p:=q1) (by omega))) (up (by decide) (oM C (p:=M) (by omega))) (up (by decide) w0) (up (by decide) w1) (up (by decide) w2) E E E E E;exact Gi (Gc (wV ⟨rfl,at7 C ⟨sr.1,by omega⟩ WU o0 o1 o2⟩)) WU
 .obtain⟨x,y,w,hS,hd⟩:=aBs hY I (k5 hv);generalize Q7 m (lX (f:Nat) X v) f 0=y0 at hS Z;generalize Q7 m (lX (f:Nat) X v) f 1=y1 at hS Y;generalize Q7 m (lX (f:Nat) X v) f 2=y2 at hS U;generalize zy dD bU (dL m (lX (f:Nat) X v)) (f:Nat)=R at hS rv rp;generalize dD (dL m (lX (f:Nat) X v) (aH ((f:Nat)+7))) 1=s at hS sr;generalize bU (aH (1+dD (dL m (lX (f:Nat) X v) (aH ((f:Nat)+5))) 3000))=t at hd tv tp;obtain⟨q0,l0,b0⟩:=Fy (a:=ls [y0,y1,y2,x,y,w,0,0,0,R,0]) (i:=0) C Z;obtain⟨q1,l1,b1⟩:=Fy (a:=ls [y0,y1,y2,x,y,w,0,0,0,R,0]) (i:=1) C Y;obtain⟨M,l2,b2⟩:=Fy (a:=ls [y0,y1,y2,x,y,w,0,0,0,R,0]) (i:=2) C U;have J:=aBq C (k:=5) (a:=ls [y0,y1,y2,x,y,w,0,0,0,R,0]) (sk:=s) Z Y U (by decide);rw[l0,l1,l2]at J;refine⟨5,_,s,ls [bU q0,bU q1,bU M,x,y,w,0,0,0,R,0],Q hS J,?_⟩
  have apj:VB 1 (c+17) x/\VB 1 (c+17) y/\VB 1 (c+17) w/\Ef x y w=true:=by
   have nt:=aua tv.1 tp;have tu:=up (by decide) tv;rcases hd with⟨rfl,rfl,rfl⟩ | ⟨rfl,rfl,rfl⟩ | ⟨rfl,rfl,rfl⟩
   .exact⟨tu,E,E,by unfold Ef;rw[nt,Q8];rfl⟩
   .exact⟨E,tu,E,by unfold Ef;rw[nt,Q8];rfl⟩
   .exact⟨E,E,tu,by unfold Ef;rw[nt,Q8];rfl⟩
  have WU:=v11 (up (by decide) (oM C (p:=q0) (by omega))) (up (by decide) (oM C (p:=q1) (by omega))) (up (by decide) (oM C (p:=M) (by omega))) apj.1 apj.2.1 apj.2.2.1 E E E (up (by decide) rv) E;exact Gi (Gc (Gc ⟨rfl,aub C ⟨sr.1,by omega⟩ WU rp apj.2.2.2⟩)) WU
end Go.Proofs.YtdlhemnconimnaaGreat.Hs.So
namespace Go.Proofs.YtdlhemnconimnaaGreat.Hs.Fm
open Go.Gv
open Go.Ev (cn aM aU aX fdiv dR dN iB bW iL)
def BG(n:Int):Nat:=cn (FloatKind.f64.nearest n)
def rM(p:Nat->Nat):List AV:=[.f (p 0),.f (p 1),.f (p 2)]
def ae4(b:Nat->Nat):List AV:=[.f (b 0),.f (b 1),.f (b 2),.f (b 3),.f (b 4),.f (b 5)]
def pp(p:Nat->Nat):Nat->Nat:=ls [p 0,p 1,p 2,p 0,p 1,p 2]
def ze(p:Nat->Nat->Nat):Nat->Nat->Nat
 | 0=>pp (p 0)
 |q+1=>ug (ze p q) (pp (p q))
def aED:List AV:=[.f 0,.f 0,.f 0,.f 0,.f 0,.f 0]
def ko(n:Nat)(p:Nat->Nat->Nat)(q:Int)(b:Nat->Nat):St:=mkS 26 [(2,.own 0 0),(3,.own 1 0),(13,.sl 3 n λ q=>rM (p q)),(14,iA n),(15,iA q)] [.c aED,.c (ae4 b)]
def ZJ:List Nat:=[2,3,13,14,15]
theorem ZK(n:Nat)(p:Nat->Nat->Nat)(q:Int)(b:Nat->Nat):jR bO V4 [] bC (av aKZ 0) (ko n p q b) (gu ZJ [some 0,some 1]) =
  cond (decide (q<(n:Int))) (cond ((decide (0<=q)&&decide (q<(n:Int)))&&true) (some ⟨.normal,ko n p (aH (q+1)) (ug b (pp (p q.toNat))),.any⟩) none) none:=by kernel_rfl
theorem adw(n:Nat)(p:Nat->Nat->Nat)(q:Int)(b:Nat->Nat):jR bO V4 [] bC (av aKZ 0) (ko n p q b) (QK ZJ [some 0,some 1]) =
  cond (decide (q<(n:Int))) (cond ((decide (0<=q)&&decide (q<(n:Int)))&&true) none none) (some ⟨.exit 0,ko n p q b,.any⟩):=by kernel_rfl
theorem nG(n:Nat):decide (0<=(n:Int))=true:=gG (avq _)
theorem oW{a b:Nat}(h:a<b):decide ((a:Int)<(b:Int))=true:=gG (by omega)
theorem oh(a:Nat):decide ((a:Int)<(a:Int))=false:=iH (by omega)
theorem og{n:Nat}(h:n<4611686018427387904):aH ((n:Int)+1)=((n+1:Nat):Int):=by rw[aO];omega
theorem VX(n:Nat)(p:Nat->Nat->Nat)(j:n<4611686018427387904):bH bO (.loop (av aKZ 0)) (ko n p 0 (ze p 0)) (.exit 0) (ko n p n (ze p n)):=by
 refine aP (λ q=>ko n p (q:Nat) (ze p q)) n (.exit 0) _ (by simp) (λ q hq=>?_) ?_
 .refine aK (bB ZJ [some 0,some 1]) Dq ay aC ?_;rw[ZK,oW hq,nG,og (by omega)];rfl
 .refine aK (pV ZJ [some 0,some 1]) Dq ay aC ?_;rw[adw,oh];rfl
noncomputable def afR(n:Nat)(p:Nat->Nat->Nat):Nat->Option dY:=eZ 3 (fF ZJ [some 0,some 1] (ko n p 0 (ze p 0)) (.exit 0) (ko n p n (ze p n)))
theorem adx(n:Nat)(p:Nat->Nat->Nat)(o:n<4611686018427387904):yx bO (afR n p) (dH aKZ) :=
 qo (i:=3) 1 (by kernel_rfl) λ j C _=>by
  have:j=0:=by omega
  subst this;exact aS (VX n p o)
theorem aie(n:Nat)(p:Nat->Nat->Nat):ev bO V4 [] (afR n p) aKZ [.sl 3 n λ q=>rM (p q)] ret =
  cond ((decide ((0:Int)<(n:Int))||false)&&((decide ((0:Int)<(n:Int))||false)&&true)) (gate (Sub (ko n p 0 (ze p 0)) (ko n p 0 (ze p 0))) (some (Out.of (.agg (ae4 (ze p n)))))) none:=by kernel_rfl
theorem Ov{n:Nat}(p:Nat->Nat->Nat)(o:0<n)(j:n<4611686018427387904):aj bO 141 [.sl 3 n λ q=>rM (p q)] (.agg (ae4 (ze p n))):=by refine aR Dq ay Tryz.func141 (adx n p j) ?_;rw[aie,gG (show(0:Int)<(n:Int) by omega),ak (Sub.refl _)];rfl
structure Fd where
 W:Int
 H:Int
 at_:Nat->Nat
 sd:Nat
 n:Nat
 hs:Nat->Int
 sk:Int
def Fd.c(F:Fd):List AV:=[iA F.W,iA F.H,.f (F.at_ 0),.f (F.at_ 1),.f (F.at_ 2),.f F.sd,.sl 1 F.n (λ i=>[iA (F.hs i)]),iA F.sk]
def qj(F:Fd)(r q:Int):St:=mkS 68 [(1,.own 0 0),(2,iA r),(55,.sl 1 F.n (λ i=>[iA (F.hs i)])),(56,iA F.n),(57,iA q)] [.c F.c]
def SY:List Nat:=[1,2,55,56,57]
def PN(h:Int):Bool:=cond (decide (h< -1000000)) true (decide (h>1000000))
theorem aif(F:Fd)(q:Int):jR bO V4 [] bC (av aI3 0) (qj F 0 q) (gu SY [some 0]) =
  cond (decide (q<(F.n:Int))) (cond ((decide (0<=q)&&decide (q<(F.n:Int)))&&true) (cond (PN (F.hs q.toNat)) none (some ⟨.normal,qj F 0 (aH (q+1)),.any⟩)) none) none:=by kernel_rfl
theorem ZL(F:Fd)(q:Int):jR bO V4 [] bC (av aI3 0) (qj F 0 q) (QK SY [some 0]) =
  cond (decide (q<(F.n:Int))) (cond ((decide (0<=q)&&decide (q<(F.n:Int)))&&true) (cond (PN (F.hs q.toNat)) (some ⟨.ret,qj F 6 q,.any⟩) none) none) (some ⟨.exit 0,qj F 0 q,.any⟩):=by kernel_rfl
theorem PS{F:Fd}{q:Nat}(o:F.n<4611686018427387904)(hq:q<F.n)(j:PN (F.hs q)=false):bH bO (av aI3 0) (qj F 0 (q:Nat)) .normal (qj F 0 ((q+1:Nat):Int)):=by refine aK (bB SY [some 0]) Dq ay aC ?_;rw[aif,oW hq,nG,og (by omega)];simp only[pF,j];rfl
theorem atf{F:Fd}(j:F.n<4611686018427387904)(h:∀q,q<F.n->PN (F.hs q)=false):bH bO (.loop (av aI3 0)) (qj F 0 0) (.exit 0) (qj F 0 F.n):=by refine aP (λ q=>qj F 0 (q:Nat)) F.n (.exit 0) _ (by simp) (λ q hq=>PS j hq (h q hq)) ?_;refine aK (pV SY [some 0]) Dq ay aC ?_;rw[ZL,oh];rfl
theorem anO{F:Fd}(o:F.n<4611686018427387904){j:Nat}(C:j<F.n)(E:PN (F.hs j)=true)(h:∀q,q<j->PN (F.hs q)=false):bH bO (.loop (av aI3 0)) (qj F 0 0) .ret (qj F 6 (j:Nat)):=by refine aP (λ q=>qj F 0 (q:Nat)) j .ret _ (by simp) (λ q hq=>PS o (by omega) (h q hq)) ?_;refine aK (pV SY [some 0]) Dq ay aC ?_;rw[ZL,oW C,nG];simp only[pF,E];rfl
noncomputable def az4(F:Fd)(o:Exit)(j:St):Nat->Option dY:=eZ 12 (fF SY [some 0] (qj F 0 0) o j)
theorem ZM{F:Fd}{C:Exit}{o:St}(h:bH bO (.loop (av aI3 0)) (qj F 0 0) C o):yx bO (az4 F C o) (dH aI3) :=
 qo (i:=12) 1 (by kernel_rfl) λ j E _=>by
  have:j=0:=by omega
  subst this;exact aS h
def Fd.arZ(F:Fd):Bool:=cond (cond (cond (decide (F.W<2)) true (decide (F.W>8))) true (decide (F.H<2))) true (decide (F.H>8))
def Fd.far(F:Fd):Bool:=cond (!fE (F.at_ 0) (F.at_ 1) (F.at_ 2)) true (!iF F.sd)
def Fd.first(F:Fd)(X:Option Out):Option Out:=cond F.arZ (some (Out.of (iA 4))) (cond (!((F.n:Int)==aH (F.W*F.H))) (some (Out.of (iA 5))) (cond (jN F.sk) (some (Out.of (iA 4))) (cond F.far (some (Out.of (iA 1))) (cond (!bW F.sd 0) (some (Out.of (iA 6))) X))))
theorem aii(F:Fd):ev bO V4 [] (az4 F (.exit 0) (qj F 0 F.n)) aI3 [.agg F.c] ret=F.first (gate (Sub (qj F 0 0) (qj F 0 0)) (some (Out.of (iA 0)))):=by kernel_rfl
theorem ady(F:Fd)(j:Int):ev bO V4 [] (az4 F .ret (qj F 6 j)) aI3 [.agg F.c] ret=F.first (gate (Sub (qj F 0 0) (qj F 0 0)) (some (Out.of (iA 6)))):=by kernel_rfl
theorem S9(hs:Nat->Int):∀n,(∀q,q<n->PN (hs q)=false)\/∃j,j<n/\PN (hs j)=true/\∀q,q<j->PN (hs q)=false
 | 0=>wV λ q hq=>by omega
 |n+1=>by
  rcases S9 hs n with h | ⟨j,I,E,C⟩
  .cases o:PN (hs n)
   .exact wV λ q hq=>by
     by_cases e:q=n
     .rw[e];exact o
     .exact h q (by omega)
   .exact Gc ⟨n,by omega,o,h⟩
  .exact Gc ⟨j,by omega,E,C⟩
def Fd.Sw(F:Fd):Bool:=(List.range F.n).all λ q=>!PN (F.hs q)
def Fd.aaY(F:Fd):Int:=cond F.arZ 4 (cond (!((F.n:Int)==aH (F.W*F.H))) 5 (cond (jN F.sk) 4 (cond F.far 1 (cond (!bW F.sd 0) 6 (cond F.Sw 0 6)))))
theorem ala(F:Fd)(E:F.n<4611686018427387904):aj bO 139 [.agg F.c] (iA F.aaY):=by
 have fin:∀e:Int,F.Sw=(e==0)->(e=0\/e=6)->F.first (some (Out.of (iA e)))=some (Out.of (iA F.aaY)):=λ e C o=>by unfold Fd.first Fd.aaY;rw[C];cases F.arZ<;>simp only[aY,eU];cases(!((F.n:Int)==aH (F.W*F.H)))<;>simp only[aY,eU];cases jN F.sk<;>simp only[aY,eU];cases F.far<;>simp only[aY,eU];cases(!bW F.sd 0)<;>simp only[aY,eU];rcases o with rfl |rfl<;>rfl
 rcases S9 F.hs F.n with h | ⟨j,C,o,I⟩
 .refine aR Dq ay aOa (ZM (atf E h)) ?_;rw[aii,ak (Sub.refl _)];refine fin 0 ?_ (wV rfl);unfold Fd.Sw;rw[ab3.2]
  .rfl
  .intro q hq;rw[h q (aHi.1 hq)];rfl
 .refine aR Dq ay aOa (ZM (anO E C o I)) ?_;rw[ady,ak (Sub.refl _)];refine fin 6 ?_ (Gc rfl);unfold Fd.Sw;rw[List.all_eq_false.2 ⟨j,aHi.2 C,by rw[o];simp⟩];rfl
def atg(F:Fd)(h x y:Int):Nat->Nat:=ls [aM (F.at_ 0) (aX (BG x) F.sd),aM (F.at_ 1) (fdiv (BG h) 4652007308841189376),aM (F.at_ 2) (aX (BG y) F.sd)]
def pt(F:Fd)(q:Nat):Nat->Nat:=atg F (F.hs q) ((q % F.W.toNat:Nat):Int) ((q / F.W.toNat:Nat):Int)
def pts(F:Fd):Nat->List AV:=λ q=>rM (pt F q)
def uQ(F:Fd)(y x:Int)(m:Nat)(j:Nat->List AV):St:=mkS 63 [(1,.own 0 0),(3,.bQ 1 3 0 m),(4,iA y),(13,iA F.H),(14,iA y),(18,iA F.W),(19,iA x)] [.c F.c,.a 30 3 m j]
def ZN:List Nat:=[1,3,4,13,14,18,19]
def ix(W y x:Int):Int:=aH (aH (y*W)+x)
theorem adz(F:Fd)(y x:Int)(m:Nat)(j:Nat->List AV):jR bO [] [] bC (av aIu 1) (uQ F y x m j) (gu ZN [some 0,some 3]) =
   cond (decide (x<F.W)) (cond (((decide (0<=ix F.W y x)&&decide (ix F.W y x<(F.n:Int)))||false)&&((((m==m)&&apB ((m+1)*24) 140737488355328)||false)&&true))
    (some ⟨.normal,uQ F y (aH (x+1)) (m+1) (λ q=>bM (Tv q m) (j q) (rM (atg F (F.hs (ix F.W y x).toNat) x y))),.any⟩) none) none:=by kernel_rfl
theorem aij(F:Fd)(y x:Int)(m:Nat)(j:Nat->List AV):jR bO [] [] bC (av aIu 1) (uQ F y x m j) (QK ZN [some 0,some 1]) =
   cond (decide (x<F.W)) (cond (((decide (0<=ix F.W y x)&&decide (ix F.W y x<(F.n:Int)))||false)&&((((m==m)&&apB ((m+1)*24) 140737488355328)||false)&&true)) none none)
    (some ⟨.exit 2,uQ F y x m j,.any⟩):=by kernel_rfl
structure Ip(F:Fd)(w h:Nat):Prop where
 W:F.W=(w:Int)
 H:F.H=(h:Int)
 n:F.n=w*h
 w1:2<=w
 h1:2<=h
 w8:w<=8
 h8:h<=8
theorem Ip.le{F:Fd}{w h:Nat}(d:Ip F w h):w*h<=64:=aHI d.w8 d.h8
theorem Ip.row{F:Fd}{w h y:Nat}(_:Ip F w h)(j:y<h):y*w+w<=w*h:=by have:(y+1)*w<=h*w:=ahL _ j;rw[auK,aEw h w]at this;omega
theorem Ip.ix{F:Fd}{w h y x:Nat}(d:Ip F w h)(j:y<h)(C:x<w):ix F.W (y:Nat) (x:Nat)=((y*w+x:Nat):Int):=by
 have I:=d.row j;have E:=d.le;unfold Go.Proofs.YtdlhemnconimnaaGreat.Hs.Fm.ix;rw[d.W];have o:((y:Int)*(w:Int))=((y*w:Nat):Int):=by simp
 rw[o,aO (n:=((y*w:Nat):Int)),aO];omega
theorem aEE{F:Fd}{w h y x:Nat}(d:Ip F w h)(j:x<w):pt F (y*w+x)=atg F (F.hs (y*w+x)) (x:Nat) (y:Nat):=by
 have o:(y*w+x) % w=x:=by rw[aEw,aNE];exact aG8 j
 have C:(y*w+x) / w=y:=by rw[aEw,aNF (by omega),aHw j];omega
 unfold pt;rw[d.W,pF,o,C]
theorem Hf{q m:Nat}(h:Tv q m=false):m<=q:=Nat.le_of_not_lt λ j=>by have:Tv q m=true:=agl j;rw[this]at h;cases h
theorem Yo{F:Fd}{w h y:Nat}(d:Ip F w h)(M:y<h) :
  bH bO (.loop (av aIu 1)) (uQ F (y:Nat) 0 (y*w) (pts F)) (.exit 2) (uQ F (y:Nat) (w:Nat) (y*w+w) (pts F)):=by
 have U:=d.le;have Q:=d.row M;refine aP (λ j=>uQ F (y:Nat) (j:Nat) (y*w+j) (pts F)) w (.exit 2) _ (by simp) (λ j I=>?_) ?_
 .have o:=d.ix M I;refine bH.sub (aK (bB ZN [some 0,some 3]) aB ay aC (s':=uQ F (y:Nat) (aH ((j:Int)+1)) (y*w+j+1) (λ q=>bM (Tv q (y*w+j)) (pts F q) (rM (atg F (F.hs (ix F.W (y:Nat) (j:Nat)).toNat) (j:Nat) (y:Nat))))) ?_) (Sub.refl _) ?_
  .rw[adz];have J:decide (((j:Nat):Int)<F.W)=true:=by rw[d.W];exact oW I
   have Z:decide (0<=ix F.W (y:Nat) (j:Nat))=true:=by rw[o];exact nG _
   have rM:decide (ix F.W (y:Nat) (j:Nat)<(F.n:Int))=true:=by rw[o,d.n];exact oW (by omega)
   have Y:apB ((y*w+j+1)*24) 140737488355328=true:=agl (by omega);rw[J,Z,rM,Y];simp only[aY,Bool.and_self,Bool.or_false,BEq.rfl]
  .rw[og (by omega),o,pF];refine ig ⟨wV rfl,Gc ⟨30,3,y*w+j+1,_,_,rfl,rfl,λ q hq=>?_⟩,trivial⟩;cases E:Tv q (y*w+j)
   .have C:q=y*w+j:=by have:=Hf E;omega
    subst C;unfold pts;rw[aEE d I];unfold rM;simp only[bM,kZ,eU]
   .unfold pts rM;simp only[bM,kZ,aY]
 .refine aK (pV ZN [some 0,some 1]) aB ay aC ?_;rw[aij];have J:decide (((w:Nat):Int)<F.W)=false:=by rw[d.W];exact oh w
  rw[J];rfl
def xB(F:Fd)(y:Int)(m:Nat)(j:Nat->List AV):St:=mkS 63 [(1,.own 0 0),(3,.bQ 1 3 0 m),(13,iA F.H),(14,iA y)] [.c F.c,.a 30 3 m j]
def Yp:List Nat:=[1,3,13,14]
noncomputable def ak9(F:Fd)(w y:Nat):Nat->Option dY:=eZ 6 (fF ZN [some 0,some 1] (uQ F (y:Nat) 0 (y*w) (pts F)) (.exit 2) (uQ F (y:Nat) (w:Nat) (y*w+w) (pts F)))
theorem ahk{F:Fd}{w h y:Nat}(d:Ip F w h)(o:y<h):yx bO (ak9 F w y) (av aIu 0) :=
 qo (i:=6) 1 (by kernel_rfl) λ j C _=>by
  have:j=0:=by omega
  subst this;have e:(bL (av aIu 0)).getD 0 .skip=av aIu 1:=by kernel_rfl
  rw[e];exact aS (Yo d o)
theorem abO(F:Fd)(w y:Nat):jR bO [] [] (ak9 F w y) (av aIu 0) (xB F (y:Nat) (y*w) (pts F)) (gu Yp [some 0,some 1]) =
  cond (decide (((y:Nat):Int)<F.H)) (gate (Sub (uQ F (y:Nat) 0 (y*w) (pts F)) (uQ F (y:Nat) 0 (y*w) (pts F))) (some ⟨.normal,xB F (aH (((y:Nat):Int)+1)) (y*w+w) (pts F),.any⟩)) none:=by kernel_rfl
theorem abP(F:Fd)(y m:Nat):jR bO [] [] (eZ 6 λ _ _=>none) (av aIu 0) (xB F (y:Nat) m (pts F)) (QK Yp [some 0,some 1]) =
  cond (decide (((y:Nat):Int)<F.H)) none (some ⟨.exit 0,xB F (y:Nat) m (pts F),.any⟩):=by kernel_rfl
theorem LB{P:Program}{c:Code}(i:Nat):yx P (eZ i λ _ _=>none) c:=by
 intro J _ C I _ j;unfold eZ at j;cases o:amH C i
 .rw[o]at j;cases j
 .rw[o]at j;cases j;exact⟨λ _ _ _ hr=>(by cases hr),λ _ _ _ E=>(by have:=E (λ e s=>some ⟨e,s,.any⟩);cases this)⟩
theorem Yq{F:Fd}{w h:Nat}(d:Ip F w h):bH bO (.loop (av aIu 0)) (xB F 0 (0*w) (pts F)) (.exit 0) (xB F (h:Nat) (h*w) (pts F)):=by
 have C:=d.h8;refine aP (λ y=>xB F (y:Nat) (y*w) (pts F)) h (.exit 0) _ (by simp) (λ y o=>?_) ?_
 .refine aK (bB Yp [some 0,some 1]) aB ay (ahk d o) ?_;have j:decide (((y:Nat):Int)<F.H)=true:=by rw[d.H];exact oW o
  rw[abO,j,ak (Sub.refl _),og (by omega),aMg];rfl
 .refine aK (pV Yp [some 0,some 1]) aB ay (LB 6) ?_;have j:decide (((h:Nat):Int)<F.H)=false:=by rw[d.H];exact oh h
  rw[abP,j];rfl
noncomputable def ae3(F:Fd)(w h:Nat):Nat->Option dY:=eZ 3 (fF Yp [some 0,some 1] (xB F 0 (0*w) (pts F)) (.exit 0) (xB F (h:Nat) (h*w) (pts F)))
theorem abQ{F:Fd}{w h:Nat}(d:Ip F w h):yx bO (ae3 F w h) (dH aIu) :=
  qo (i:=3) 2 (by kernel_rfl) λ j C o=>by
    have:j=0\/j=1:=by omega
    rcases this with rfl |rfl
    . exact aS (Yq d)
    . have e:jI ((bL (dH aIu)).getD 1 .skip)=some 6:=by kernel_rfl
      rw[e]at o;cases o
def auD(F:Fd):St:=mkS 63 [(1,.own 0 0),(3,.bQ 1 3 0 0),(13,iA F.H),(14,iA 0)] [.c F.c,.a 30 3 0 λ _=>[.f 0,.f 0,.f 0]]
theorem ahl(F:Fd)(w h:Nat):ev bO [] [] (ae3 F w h) aIu [.agg F.c] ret =
  cond ((decide (0<=aH (F.W*F.H))&&decide (((24:Nat):Int)*aH (F.W*F.H)<=281474976710656))&&true)
   (gate (Sub (auD F) (xB F 0 (0*w) (pts F))) (some (Out.of (.sl 3 (h*w) λ i=>rM (pt F (0+i)))))) none:=by kernel_rfl
theorem Ip.prod{F:Fd}{w h:Nat}(d:Ip F w h):aH (F.W*F.H)=((w*h:Nat):Int):=by have:=d.le;rw[d.W,d.H,<-Int.natCast_mul];exact aO
theorem Yr{F:Fd}{w h:Nat}(d:Ip F w h):aj bO 140 [.agg F.c] (.sl 3 (w*h) λ q=>rM (pt F q)):=by
 refine aR aB ay Tryz.func140 (abQ d) ?_;have j:=d.le
 have hs:Sub (auD F) (xB F 0 (0*w) (pts F)):=by rw[aH1];exact ig ⟨wV rfl,Gc ⟨30,3,0,_,_,rfl,rfl,λ q hq=>by omega⟩,trivial⟩
 have o:decide (((24:Nat):Int)*((w*h:Nat):Int)<=281474976710656)=true:=gG (by omega);have e:(λ i=>rM (pt F (0+i)))=λ q=>rM (pt F q):=funext λ i=>by rw[ZO]
 rw[ahl,d.prod,nG,o,ak hs,e,aEw h w];rfl
def ajO:List AV:=[iA 0,iA 0,iA 0,.x (.slice none 0 0),.f 0,.f 0,.f 0,.f 0,.f 0,.f 0]
def uX(F:Fd)(n:Nat)(b:Nat->Nat):List AV:=[iA F.W,iA F.H,iA F.sk,.sl 3 n (λ q=>rM (pt F q)),.f (b 0),.f (b 1),.f (b 2),.f (b 3),.f (b 4),.f (b 5)]
theorem ahm(F:Fd)(n:Nat)(b:Nat->Nat):ev bO V4 [Xy 139 [.agg F.c] (iA 0),Xy 140 [.agg F.c] (.sl 3 n λ q=>rM (pt F q)),Xy 141 [.sl 3 n λ q=>rM (pt F q)] (.agg (ae4 b))] bC Tryz.f99 [.agg F.c] ret =
  gate ([AV.agg F.c]=[AV.agg F.c]) (gate ([AV.agg F.c]=[AV.agg F.c]) (gate ([AV.sl 3 n λ q=>rM (pt F q)]=[AV.sl 3 n λ q=>rM (pt F q)]) (cond (!(lG b==0)) (some (Out.of (.bK [.agg ajO,iA 1]))) (some (Out.of (.bK [.agg (uX F n b),iA 0])))))):=by kernel_rfl
def bx(F:Fd):Nat->Nat:=ze (pt F) F.n
theorem ajM{F:Fd}{w h:Nat}(d:Ip F w h)(J:F.aaY=0):aj bO 99 [.agg F.c] (.bK (cond (lG (bx F)==0) [.agg (uX F F.n (bx F)),iA 0] [.agg ajO,iA 1])):=by have I:=d.le;have o:4<=w*h:=aHI d.w1 d.h1;have E:=d.n;have j:=ala F (by omega);rw[J]at j;have s2:=Yr d;have C:=Ov (n:=w*h) (pt F) (by omega) (by omega);refine aR Dq (au (tO j) (au (tO s2) (au (tO C) ay))) Tryz.func99 aC ?_;rw[ahm,ak rfl,ak rfl,ak rfl];unfold bx;rw[E];cases lG (ze (pt F) (w*h))==0<;>rfl
end Go.Proofs.YtdlhemnconimnaaGreat.Hs.Fm
namespace Go.Proofs.YtdlhemnconimnaaGreat.Hs.Sc
open Go.Gv So Fm
abbrev skC(k:Nat->Int):List AV:=[iA (k 0),iA (k 1),iA (k 2),iA (k 3),iA (k 4),iA (k 5),iA (k 6),iA (k 7),iA (k 8),iA (k 9)]
abbrev lmC(a:Nat->Nat)(l:Nat->Int):List AV:=[.f (a 0),.f (a 1),.f (a 2),iA (l 0),iA (l 1),iA (l 2)]
structure FJ where
 k:Int
 a:Nat->Nat
 sk:Int
abbrev FJ.c(s:FJ):List AV:=Cy s.k s.a s.sk
structure Iq where
 n:Nat
 P:Nat->kC
 sk:Int
abbrev Iq.c(s:Iq):List AV:=FI s.n s.P s.sk
structure Kq where
 nS:Nat
 S:Nat->FJ
 nO:Nat
 O:Nat->Iq
 nF:Nat
 F:Nat->Fm.Fd
 nK:Nat
 K:Nat->Nat->Int
 nL:Nat
 LA:Nat->Nat->Nat
 LL:Nat->Nat->Int
 sky:Nat->Int
 eye:Nat->Nat
abbrev Kq.vS(s:Kq):AV:=.sl 13 s.nS λ q=>(s.S q).c
abbrev Kq.vO(s:Kq):AV:=.sl 2 s.nO λ q=>(s.O q).c
abbrev Kq.vF(s:Kq):AV:=.sl 8 s.nF λ q=>(s.F q).c
abbrev Kq.vK(s:Kq):AV:=.sl 10 s.nK λ q=>skC (s.K q)
abbrev Kq.vL(s:Kq):AV:=.sl 6 s.nL λ q=>lmC (s.LA q) (s.LL q)
def Kq.c(s:Kq):List AV:=[s.vS,s.vO,s.vF,s.vK,s.vL,iA (s.sky 0),iA (s.sky 1),iA (s.sky 2),.f (s.eye 0),.f (s.eye 1),.f (s.eye 2),.f (s.eye 3),.f (s.eye 4),.f (s.eye 5),.f (s.eye 6),.f (s.eye 7),.f (s.eye 8),.f (s.eye 9)]
end Go.Proofs.YtdlhemnconimnaaGreat.Hs.Sc
namespace Go.Gv
open Go.RowKit
def O8:List (Nat × dY)->Nat->Option dY
 | [],_=>none
 |x::l,j=>cond (amH j x.1) (some x.2) (O8 l j)
theorem afr{P:Program}{c:Code}:yx P (O8 []) c:=λ _ _ _ _ _ h=>by cases h
theorem Aj{P:Program}{c:Code}{i:Nat}{g:dY}{l:List (Nat × dY)}(M:yx P (eZ i g) c)(J:yx P (O8 l) c):yx P (O8 ((i,g)::l)) c:=by
 intro I E j f C hf;have hf:cond (amH j i) (some g) (O8 l j)=some f:=hf;cases o:amH j i
 .rw[o,eU]at hf;exact J I E j f C hf
 .rw[o,aY]at hf;refine M I E j f C ?_;unfold eZ;rw[o,aY];exact hf
end Go.Gv
namespace Go.Proofs.YtdlhemnconimnaaGreat.Hs.Sc
open Go.Gv So
end Go.Proofs.YtdlhemnconimnaaGreat.Hs.Sc
namespace Go.Gv
def afo(h g:kH):kH:=λ s k=>h s λ j=>g j k
theorem O9{np:Nat}{h g:kH}(C:gD np h)(E:gD np g):gD np (afo h g):=λ s k r e=>by obtain⟨j,e1,o⟩:=C s _ r e;obtain⟨s2,e2,p2⟩:=E j k r e1;exact⟨s2,e2,o.trans p2⟩
end Go.Gv
namespace Go.Proofs.YtdlhemnconimnaaGreat.Hs.Sc
open Go.Gv So Fm
open Go.Ev (cn aM aU aX fdiv bD dG dR dN iB bW iL fabs aF)
theorem aj.Dx{f:Nat}{args:List AV}{r j:AV}(h:aj bO f args r)(hr:∀(E:Env) (v:Value),rel E r v->rel E j v):aj bO f args j :=⟨h.1,λ A w Q I hv o=>(h.2 A w Q I hv o).mono λ _ _ ⟨v,C,M,J⟩=>⟨v,C,hr _ _ M,J⟩⟩
theorem afP{E:Env}{sz:Nat}{el:Nat->List AV}{v:Value}(h:rel E (.x (.slice none 0 0)) v):rel E (.sl sz 0 el) v :=iZ.2 ⟨none,0,cB.1 h,ND _,wV rfl⟩
theorem aEA(e:Bool)(a b:FJ):bM e a.c b.c=(cond e a b).c:=by cases e<;>rfl
def zS:List AV:=[.x (.slice none 0 0),.x (.slice none 0 0),.x (.slice none 0 0),.x (.slice none 0 0),.x (.slice none 0 0),iA 0,iA 0,iA 0,.f 0,.f 0,.f 0,.f 0,.f 0,.f 0,.f 0,.f 0,.f 0,.f 0]
def fzB(n:Nat):Bool:=(amH n n&&true)&&true
theorem au4(n:Nat):fzB n=true:=by unfold fzB;rw[aIC];rfl
end Go.Proofs.YtdlhemnconimnaaGreat.Hs.Sc
namespace Go.Proofs.YtdlhemnconimnaaGreat.Hs.So.T3
open Go.Gv
open Go.Ev (cn aM aU aX fdiv bD dG dR dN iB bW iL fabs)
section
variable(n:Nat)(hs:Nat->Int)(pf:Int->Int->Int)(tf:Int->Nat)(rf:Int->Int)(vf:Int->Int->Nat->Nat)(x y w:Nat)(fr:Int)
def uy:Int:=aH (1+pf (rf fr) 6)
def FT:Nat:=tf (aH (1+pf (rf (aH (fr+8))) 2500))
def auF(B C:Nat->Nat)(R Q:Nat):List AV:=[iA (uy pf rf fr),.f (vf (aH (fr+1)) 4000 0),.f (vf (aH (fr+1)) 4000 1),.f (vf (aH (fr+1)) 4000 2),.f (B 0),.f (B 1),.f (B 2),.f (C 0),.f (C 1),.f (C 2),.f R,.f Q,iA (pf (rf (aH (fr+7))) 3)]
def FU(B C:Nat->Nat)(R Q:Nat):Option Out:=some (Out.of (.agg (auF pf rf vf fr B C R Q)))
def alo:Nat->Nat:=ls [aM (vf (aH (fr+1)) 4000 0) (FT pf tf rf fr),aM (vf (aH (fr+1)) 4000 1) (tf (pf (rf (aH (fr+5))) 2000)),aM (vf (aH (fr+1)) 4000 2) (tf (pf (rf (aH (fr+6))) 2000))]
def alp:Nat->Nat:=ls [aM (vf (aH (fr+1)) 4000 0) (vf (aH (fr+4)) 3000 0),aM (vf (aH (fr+1)) 4000 1) (vf (aH (fr+4)) 3000 1),aM (vf (aH (fr+1)) 4000 2) (vf (aH (fr+4)) 3000 2)]
def Yu:Int:=aH (1+pf (rf (aH (fr+4))) 3)
def ae6:Nat:=tf (aH (1+aH ((pf (rf (aH (fr+8))) 2500).tdiv (Yu pf rf fr))))
noncomputable def alm(o:Option Out):Option Out:=gate (aj bO 109 [V 0 0 0,iA (pf (rf (aH (fr+6))) 3),.f (tf (aH (1+pf (rf (aH (fr+5))) 3000)))] (V x y w)) o
noncomputable def U7:Option Out:=gR n hs rf (aH (fr+6)) (gR n hs rf (aH (fr+5)) (alm pf tf rf x y w fr (cond (uy pf rf fr==6) (gR n hs rf (aH (fr+8)) (gR n hs rf (aH (fr+4)) (cond ((!(Yu pf rf fr==0))&&true) (FU pf rf vf fr (ls [x,y,w]) z3 (FT pf tf rf fr) (ae6 pf tf rf fr)) none))) (FU pf rf vf fr (ls [x,y,w]) z3 (FT pf tf rf fr) 0))))
def aln:Option Out:=cond (lH (vf (aH (fr+4)) 3000 0) (vf (aH (fr+4)) 3000 1) (vf (aH (fr+4)) 3000 2)) (FU pf rf vf fr (ls [0,one,0]) z3 (FT pf tf rf fr) 0) (FU pf rf vf fr (vf (aH (fr+4)) 3000) z3 (FT pf tf rf fr) 0)
noncomputable def alj:Option Out:=gR n hs rf fr (gV n hs vf (aH (fr+1)) 4000 (gR n hs rf (aH (fr+7)) (gV n hs vf (aH (fr+4)) 3000 (gR n hs rf (aH (fr+8))
 (cond (uy pf rf fr==1) (FU pf rf vf fr z3 z3 (FT pf tf rf fr) 0) (cond (uy pf rf fr==2) (gR n hs rf (aH (fr+5)) (gR n hs rf (aH (fr+6)) (FU pf rf vf fr (alo pf tf rf vf fr) z3 0 0))) (cond (uy pf rf fr==3) (gV n hs vf (aH (fr+9)) 4000 (FU pf rf vf fr (alp vf fr) (ls [vf (aH (fr+9)) 4000 0,vf (aH (fr+9)) 4000 1,vf (aH (fr+9)) 4000 2]) 0 0))
  (cond (uy pf rf fr==5) (cond (uy pf rf fr==5) (U7 n hs pf tf rf vf x y w fr) (aln pf tf rf vf fr)) (cond (uy pf rf fr==6) (U7 n hs pf tf rf vf x y w fr) (aln pf tf rf vf fr))))))))))
theorem alk:ev bO (M1 pf tf) [Kg rf,vcK vf,kS bO 109 λ _=>V x y w] bC Tryz.f85 [sI n hs,iA fr,iA 3] ret=alj n hs pf tf rf vf x y w fr:=by kernel_rfl
end
end Go.Proofs.YtdlhemnconimnaaGreat.Hs.So.T3
namespace Go.Proofs.YtdlhemnconimnaaGreat.Hs.Sc
open Go.Gv So Fm
def shG(g:Int->FJ):List AV->AV
 | [_,.x (.int .i64 f),_]=>.agg (g f).c
 |_=>.any
section
variable(n:Nat)(hs:Nat->Int)(g:Int->FJ)(N i:Int)(m:Nat)(el:Nat->List AV)(S:Nat->FJ)
def shN:St:=mkS 25 [(0,sI n hs),(1,iA N),(2,iA 3),(7,.x (.slice none 0 0)),(8,iA 0)] []
def shE:St:=mkS 25 [(0,sI n hs),(1,iA N),(2,iA 3),(7,.bQ 0 13 0 m),(8,iA i)] [.a 73 13 m el]
def shS:St:=shE n hs N i m λ q=>(S q).c
def JU:List Nat:=[0,1,2,7,8]
noncomputable def shO(f:Int)(o:Option Out):Option Out:=gate (aj bO 85 [sI n hs,iA f,iA 3] (.agg (g f).c)) o
theorem aoG:jR bO [] [kS bO 85 (shG g)] bC (av aJZ 0) (shN n hs N) (gu JU [some 2])=cond (decide (0<N)) (shO n hs g (aH (13*0)) (some ⟨.normal,shE n hs N (aH (0+1)) 1 (λ q=>bM (Tv q 0) [] (g (aH (13*0))).c),.any⟩)) none:=by kernel_rfl
theorem adP:jR bO [] [kS bO 85 (shG g)] bC (av aJZ 0) (shS n hs N i m S) (gu JU [some 3])=cond (decide (i<N)) (shO n hs g (aH (13*i)) (cond (Qz m 104||false) (some ⟨.normal,shE n hs N (aH (i+1)) (m+1) (λ q=>bM (Tv q m) (S q).c (g (aH (13*i))).c),.any⟩) none)) none:=by kernel_rfl
theorem aix:jR bO [] [kS bO 85 (shG g)] bC (av aJZ 0) (shS n hs N i m S) (iG JU [some 0])=cond (decide (i<N)) (shO n hs g (aH (13*i)) (cond (Qz m 104||false) none none)) (some ⟨.exit 0,shS n hs N i m S,.any⟩):=by kernel_rfl
theorem aoH:ev bO [] [] (eZ 3 (fF JU [] (shN n hs N) (.exit 0) (shS n hs N i m S))) aJZ [sI n hs,iA N,iA 3] ret=gate (Sub (shN n hs N) (shN n hs N)) (some (Out.of (.sl 13 m λ q=>(S (0+q)).c))):=by kernel_rfl
end
end Go.Proofs.YtdlhemnconimnaaGreat.Hs.Sc
namespace Go.Proofs.YtdlhemnconimnaaGreat.Hs.So.T3
open Go.Gv
open Go.Ev (cn aM aU aX fdiv bD dG dR dN iB bW iL fabs VB key aF isFin val bS cZ dU mK)
open Tr (zQ)
theorem Oz{c:Nat}(o:c=1074){z:Int}(C:0<=z)(E:z<=8000):VB 1 (c+4) (bU z)/\0<=key (bU z):=by
 have m:=nC o (m:=0) (n:=z) C (by decide) (by omega);have k:key (bU 0)=0:=by decide +kernel
 exact⟨rD o (j:=4) (by decide) (by show _<=8192;omega),by omega⟩
theorem OA{f:Nat}(hf:f<=400){j:Int}(C:0<=j)(o:j<=20):0<=aH ((f:Int)+j)/\aH ((f:Int)+j)<=1000:=by rw[aO];omega
theorem abR{n:Nat}{hs:Nat->Int}(h:Nf n hs){f:Nat}(hf:f<=400):∃k a sk,zQ k a sk/\aj bO 85 [sI n hs,iA (f:Nat),iA 3] (.agg (Cy k a sk)):=by
 obtain⟨c,C⟩:∃c,c=1074:=⟨_,rfl⟩;have h':∀i,i<n->-9223372036854775808<=hs i/\hs i<=9223372036854775807:=h;have p0:(0:Int)<=(f:Nat):=avq f;have p1:=OA hf (j:=1) (by decide) (by decide);have p4:=OA hf (j:=4) (by decide) (by decide);have p5:=OA hf (j:=5) (by decide) (by decide);have p6:=OA hf (j:=6) (by decide) (by decide);have p7:=OA hf (j:=7) (by decide) (by decide);have p8:=OA hf (j:=8) (by decide) (by decide);have Z:=OA hf (j:=9) (by decide) (by decide);have Y:∀{k m:Int},0<=k->0<m->0<=dD (dL n hs k) m/\dD (dL n hs k) m<m:=λ hk hm=>jc (fU h' hk).1 (fU h' hk).2 hm;have ax:=Y p6.1 (m:=3) (by decide);have dd:=Y p4.1 (m:=3) (by decide);have sr:=Y p7.1 (m:=3) (by decide);have kr:=Y p0 (m:=6) (by decide);have zr:=Y p8.1 (m:=2500) (by decide);have tr:=Y p5.1 (m:=3000) (by decide);have y5:=Y p5.1 (m:=2000) (by decide);have y6:=Y p6.1 (m:=2000) (by decide)
 have hD:Yu dD (dL n hs) (f:Nat)=1+dD (dL n hs (aH ((f:Nat)+4))) 3:=by unfold Yu;generalize dD (dL n hs (aH ((f:Nat)+4))) 3=z at dd ⊢;rw[aO]
 have hK:uy dD (dL n hs) (f:Nat)=1+dD (dL n hs (f:Nat)) 6:=by unfold uy;generalize dD (dL n hs (f:Nat)) 6=z at kr ⊢;rw[aO]
 have hT:aH (1+dD (dL n hs (aH ((f:Nat)+5))) 3000)=1+dD (dL n hs (aH ((f:Nat)+5))) 3000:=by generalize dD (dL n hs (aH ((f:Nat)+5))) 3000=z at tr ⊢;rw[aO]
 have hR:FT dD bU (dL n hs) (f:Nat)=bU (1+dD (dL n hs (aH ((f:Nat)+8))) 2500):=by unfold FT;generalize dD (dL n hs (aH ((f:Nat)+8))) 2500=z at zr ⊢;rw[aO]
 have hQ:∃q:Int,1<=q/\q<=1+dD (dL n hs (aH ((f:Nat)+8))) 2500/\ae6 dD bU (dL n hs) (f:Nat)=bU q:=by
  unfold ae6;rw[hD];generalize dD (dL n hs (aH ((f:Nat)+8))) 2500=z at zr ⊢;generalize dD (dL n hs (aH ((f:Nat)+4))) 3=d at dd ⊢;rw[Int.tdiv_eq_ediv_of_nonneg zr.1];have:d=0\/d=1\/d=2:=by omega
  rcases this with rfl |rfl |rfl
  .refine⟨1+z / (1+0),by omega,by omega,?_⟩;rw[aO (n:=z / (1+0)),aO]
  .refine⟨1+z / (1+1),by omega,by omega,?_⟩;rw[aO (n:=z / (1+1)),aO]
  .refine⟨1+z / (1+2),by omega,by omega,?_⟩;rw[aO (n:=z / (1+2)),aO]
 obtain⟨q,q1,q2,hQ⟩:=hQ
 obtain⟨x,y,w,hp,hd⟩:∃x y w,aj bO 109 [V 0 0 0,iA (dD (dL n hs (aH ((f:Nat)+6))) 3),.f (bU (aH (1+dD (dL n hs (aH ((f:Nat)+5))) 3000)))] (V x y w)/\((x=bU (1+dD (dL n hs (aH ((f:Nat)+5))) 3000)/\y=0/\w=0)\/(x=0/\y=bU (1+dD (dL n hs (aH ((f:Nat)+5))) 3000)/\w=0)\/(x=0/\y=0/\w=bU (1+dD (dL n hs (aH ((f:Nat)+5))) 3000))):=by
  rw[hT];generalize bU (1+dD (dL n hs (aH ((f:Nat)+5))) 3000)=t;have:dD (dL n hs (aH ((f:Nat)+6))) 3=0\/dD (dL n hs (aH ((f:Nat)+6))) 3=1\/dD (dL n hs (aH ((f:Nat)+6))) 3=2:=by omega
  rcases this with e |e |e<;>rw[e]
  .exact⟨_,_,_,aky 0 0 0 t,wV ⟨rfl,rfl,rfl⟩⟩
  .exact⟨_,_,_,akz 0 0 0 t,Gc (wV ⟨rfl,rfl,rfl⟩)⟩
  .exact⟨_,_,_,akA 0 0 0 t,Gc (Gc ⟨rfl,rfl,rfl⟩)⟩
 have fin:∀k a sk,alj n hs dD bU (dL n hs) (pQ n hs) x y w (f:Nat)=some (Out.of (.agg (Cy k a sk)))->aj bO 85 [sI n hs,iA (f:Nat),iA 3] (.agg (Cy k a sk)):=λ k a sk e=>aR ae5 (au aG (au aG (au aG ay))) Tryz.func85 aC ((alk n hs dD bU (dL n hs) (pQ n hs) x y w (f:Nat)).trans e)
 have g56:U7 n hs dD bU (dL n hs) (pQ n hs) x y w (f:Nat)=cond (uy dD (dL n hs) (f:Nat)==6) (FU dD (dL n hs) (pQ n hs) (f:Nat) (ls [x,y,w]) z3 (FT dD bU (dL n hs) (f:Nat)) (ae6 dD bU (dL n hs) (f:Nat))) (FU dD (dL n hs) (pQ n hs) (f:Nat) (ls [x,y,w]) z3 (FT dD bU (dL n hs) (f:Nat)) 0):=by unfold U7 alm;rw[dO p6.1,dO p5.1,ak hp,dO p8.1,dO p4.1,mI (show Yu dD (dL n hs) (f:Nat)≠0 by omega)];rfl
 unfold alj at fin;rw[dO p0,sD p1.1 p1.2 (wV rfl),dO p7.1,sD p4.1 p4.2 (Gc (wV rfl)),dO p8.1,dO p5.1,dO p6.1,sD Z.1 Z.2 (wV rfl),g56,hR,hQ]at fin;unfold aln alo alp at fin;rw[hR]at fin;have Yv:0<=dD (dL n hs (aH ((f:Nat)+7))) 3/\dD (dL n hs (aH ((f:Nat)+7))) 3<16:=⟨sr.1,by omega⟩;obtain⟨M,d0,b0⟩:=rG h p1.1 p1.2 (mo:=4000) (by decide) (by decide) 0 (by decide);obtain⟨J,d1,b1⟩:=rG h p1.1 p1.2 (mo:=4000) (by decide) (by decide) 1 (by decide);obtain⟨I,d2,b2⟩:=rG h p1.1 p1.2 (mo:=4000) (by decide) (by decide) 2 (by decide);obtain⟨v0,e0,a0⟩:=rG h p4.1 p4.2 (mo:=3000) (by decide) (by decide) 0 (by decide);obtain⟨v1,e1,a1⟩:=rG h p4.1 p4.2 (mo:=3000) (by decide) (by decide) 1 (by decide);obtain⟨v2,e2,a2⟩:=rG h p4.1 p4.2 (mo:=3000) (by decide) (by decide) 2 (by decide);obtain⟨w0,g0,l0⟩:=rG h Z.1 Z.2 (mo:=4000) (by decide) (by decide) 0 (by decide);obtain⟨w1,g1,l1⟩:=rG h Z.1 Z.2 (mo:=4000) (by decide) (by decide) 1 (by decide);obtain⟨w2,g2,l2⟩:=rG h Z.1 Z.2 (mo:=4000) (by decide) (by decide) 2 (by decide);unfold FU auF at fin;rw[d0,d1,d2,e0,e1,e2,g0,g1,g2]at fin;have E:∀{z:Int},z.natAbs<=4000->VB 1 (c+4) (bU z):=λ hz=>rD C (j:=4) (by decide) (by show _<=8192;omega);have up:∀{j X:Nat},j<=17->VB 1 (c+j) X->VB 1 (c+17) X:=λ hj h=>Go.Ev.lg h (by omega);have o:VB 1 (c+17) 0:=Go.Ev.Ee 1 _;have Cc:key 0=0:=by decide +kernel
 have rp:VB 1 (c+4) (bU (1+dD (dL n hs (aH ((f:Nat)+8))) 2500))/\0<key (bU (1+dD (dL n hs (aH ((f:Nat)+8))) 2500)):=⟨(Oz C (by omega) (by omega)).1,Er (by omega) (by omega)⟩;have tp:VB 1 (c+4) (bU (1+dD (dL n hs (aH ((f:Nat)+5))) 3000))/\0<key (bU (1+dD (dL n hs (aH ((f:Nat)+5))) 3000)):=⟨(Oz C (by omega) (by omega)).1,Er (by omega) (by omega)⟩;have m5:=Oz C y5.1 (by omega);have m6:=Oz C y6.1 (by omega);have qp:VB 1 (c+4) (bU q)/\0<key (bU q)/\key (bU q)<=key (bU (1+dD (dL n hs (aH ((f:Nat)+8))) 2500)):=⟨(Oz C (by omega) (by omega)).1,Er (by omega) (by omega),nC C q2 (by omega) (by omega)⟩;generalize bU (1+dD (dL n hs (aH ((f:Nat)+8))) 2500)=R at fin rp qp;generalize bU (1+dD (dL n hs (aH ((f:Nat)+5))) 3000)=t at hd tp;generalize bU (dD (dL n hs (aH ((f:Nat)+5))) 2000)=y5' at fin m5;generalize bU (dD (dL n hs (aH ((f:Nat)+6))) 2000)=y6' at fin m6;generalize bU q=Q at fin qp;generalize dD (dL n hs (aH ((f:Nat)+7))) 3=sk at fin Yv;have V0:=up (by decide) (E (show M.natAbs<=4000 by omega));have V1:=up (by decide) (E (show J.natAbs<=4000 by omega));have V2:=up (by decide) (E (show I.natAbs<=4000 by omega))
 have U:Ef x y w=true/\VB 1 (c+17) x/\VB 1 (c+17) y/\VB 1 (c+17) w:=by
  have nt:=aua tp.1.1 tp.2;have vt:=up (by decide) tp.1;rcases hd with⟨rfl,rfl,rfl⟩ | ⟨rfl,rfl,rfl⟩ | ⟨rfl,rfl,rfl⟩
  .exact⟨by unfold Ef;rw[nt,Q8];rfl,vt,o,o⟩
  .exact⟨by unfold Ef;rw[nt,Q8];rfl,o,vt,o⟩
  .exact⟨by unfold Ef;rw[nt,Q8];rfl,o,o,vt⟩
 obtain⟨U,vx,vy,vw⟩:=U;have RV:=up (by decide) rp.1;have:uy dD (dL n hs) (f:Nat)=1\/uy dD (dL n hs) (f:Nat)=2\/uy dD (dL n hs) (f:Nat)=3\/uy dD (dL n hs) (f:Nat)=4\/uy dD (dL n hs) (f:Nat)=5\/uy dD (dL n hs) (f:Nat)=6:=by omega
 rcases this with e |e |e |e |e |e<;>rw[e]at fin
 .refine⟨1,ls [bU M,bU J,bU I,0,0,0,0,0,0,R,0],sk,wV ⟨rfl,?_⟩,fin _ _ _ rfl⟩;exact aiP C Yv (v11 V0 V1 V2 o o o o o o RV o) rp.2
 .refine⟨2,ls [bU M,bU J,bU I,aM (bU M) R,aM (bU J) y5',aM (bU I) y6',0,0,0,0,0],sk,Gc (wV ⟨rfl,?_⟩),fin _ _ _ rfl⟩;have W0:=up (by decide) (lU (j:=4) C (by decide) (E (show M.natAbs<=4000 by omega)) rp.1);have W1:=up (by decide) (lU (j:=4) C (by decide) (E (show J.natAbs<=4000 by omega)) m5.1);have W2:=up (by decide) (lU (j:=4) C (by decide) (E (show I.natAbs<=4000 by omega)) m6.1);exact at7 C Yv (v11 V0 V1 V2 W0 W1 W2 o o o o o) (mK V0.1 RV.1 (by omega)) (mK V1.1 m5.1.1 m5.2) (mK V2.1 m6.1.1 m6.2)
 .refine⟨3,ls [bU M,bU J,bU I,aM (bU M) (bU v0),aM (bU J) (bU v1),aM (bU I) (bU v2),bU w0,bU w1,bU w2,0,0],sk,Gc (Gc (wV ⟨rfl,?_⟩)),fin _ _ _ rfl⟩;have W0:=up (by decide) (lU (j:=4) C (by decide) (E (show M.natAbs<=4000 by omega)) (E (show v0.natAbs<=4000 by omega)));have W1:=up (by decide) (lU (j:=4) C (by decide) (E (show J.natAbs<=4000 by omega)) (E (show v1.natAbs<=4000 by omega)));have W2:=up (by decide) (lU (j:=4) C (by decide) (E (show I.natAbs<=4000 by omega)) (E (show v2.natAbs<=4000 by omega)));exact aCg C Yv (v11 V0 V1 V2 W0 W1 W2 (up (by decide) (E (show w0.natAbs<=4000 by omega))) (up (by decide) (E (show w1.natAbs<=4000 by omega))) (up (by decide) (E (show w2.natAbs<=4000 by omega))) o o)
 .cases hn:lH (bU v0) (bU v1) (bU v2)
  .rw[hn]at fin;refine⟨4,ls [bU M,bU J,bU I,bU v0,bU v1,bU v2,0,0,0,R,0],sk,Gc (Gc (Gc (wV ⟨rfl,?_⟩))),fin _ _ _ ?_⟩
   .exact auw C Yv (v11 V0 V1 V2 (up (by decide) (E (show v0.natAbs<=4000 by omega))) (up (by decide) (E (show v1.natAbs<=4000 by omega))) (up (by decide) (E (show v2.natAbs<=4000 by omega))) o o o RV o) rp.2 (aCf (by omega) (by omega) (by omega) hn)
   .rfl
  .rw[hn]at fin;refine⟨4,ls [bU M,bU J,bU I,0,one,0,0,0,0,R,0],sk,Gc (Gc (Gc (wV ⟨rfl,?_⟩))),fin _ _ _ rfl⟩;exact auw C Yv (v11 V0 V1 V2 o (up (by decide) (WV c C)) o o o o RV o) rp.2 awR
 .refine⟨5,ls [bU M,bU J,bU I,x,y,w,0,0,0,R,0],sk,Gc (Gc (Gc (Gc (wV ⟨rfl,?_⟩)))),fin _ _ _ rfl⟩;exact aub C Yv (v11 V0 V1 V2 vx vy vw o o o RV o) rp.2 U
 .refine⟨6,ls [bU M,bU J,bU I,x,y,w,0,0,0,R,Q],sk,Gc (Gc (Gc (Gc (Gc ⟨rfl,?_⟩)))),fin _ _ _ rfl⟩;exact aCh C Yv (v11 V0 V1 V2 vx vy vw o o o RV (up (by decide) qp.1)) U qp.2.1 qp.2.2
end Go.Proofs.YtdlhemnconimnaaGreat.Hs.So.T3
namespace Go.Proofs.YtdlhemnconimnaaGreat.Hs.So
open Go.Gv
open Go.Ev (cn aM aU aX fdiv bD dG dR dN iB bW iL fabs aF key bS cZ dU Iy)
noncomputable def N7(P:Nat->kC)(r:Nat->Nat):Pl:=⟨λ k=>(P k).op,λ k=>(P k).l.toNat,λ k=>(P k).r.toNat,λ k=>lfL (k:Nat) (P k).s (l7 r)⟩
theorem ap3(j:Int)(p:kC)(r:Nat->Nat):lfL j p.s (l7 r)=[]\/∃s,lfL j p.s (l7 r)=[s]/\wT s:=by
 unfold lfL;cases h:(Kr p.s (l7 r)).ok
 .exact wV rfl
 .refine Gc ⟨_,rfl,?_⟩;have:=Iy ((Rp p.k p.a p.sk (l7 r)).2.2 h);exact⟨this.1,this.2.1,this.2.2⟩
theorem auq{n:Nat}{P:Nat->kC}(r:Nat->Nat)(o:∀k,k<n->Hw (P k) (k:Nat)=0):aa3 (N7 P r) n:=by
 refine⟨λ j C=>?_,λ j _ _=>ap3 _ _ _⟩;rcases N8 (o j C)with h | ⟨h,l,r,e1,e2,I,E⟩
 .exact wV h
 .refine Gc ⟨h,?_,?_⟩
  .show(P j).l.toNat<j;rw[e1,pF];exact I
  .show(P j).r.toNat<j;rw[e2,pF];exact E
theorem ajV{p:kC}{k:Int}(h:Hw p k=0)(E:p.op≠0):p.op=1\/p.op=2\/p.op=3:=by
 unfold Hw at h;rw[mI E,eU]at h;cases j:opB p.op
 .rw[j]at h;exact absurd (show(11:Int)=0 from h) (by decide)
 .unfold opB at j;by_cases C:p.op=1
  .exact wV C
  .by_cases o:p.op=2
   .exact Gc (wV o)
   .rw[mI C,mI o,Bool.false_or,Bool.false_or]at j;exact Gc (Gc (Aw j))
def Iz(f:List bg->List bg->List bg):List AV->List bg
 | [.sl _ m el,.sl _ m' uL]=>f (pG m el) (pG m' uL)
 |_=>[]
theorem ap4(f:List bg->List bg->List bg)(A B:List bg):Iz f [jX A,jX B]=f A B:=by show f (pG A.length (mF A)) (pG B.length (mF B))=_;rw[vH,vH]
theorem aB3{n:Nat}{P:Nat->kC}{r:Nat->Nat}{k:Nat}(C:k<n)(hn:n<=16)(I:∀k,k<n->Hw (P k) (k:Nat)=0)(f:List bg->Option Out)(o Y:Option Out) :
  spC lfL (Iz mJ) (Iz kD) (Iz oq) n P r (k:Nat) (Cr (N7 P r) k) f o Y=f (N9 (P k).op (lfL (k:Nat) (P k).s (l7 r)) (Cr (N7 P r) k (P k).l.toNat) (Cr (N7 P r) k (P k).r.toNat)):=by
 unfold spC;rw[bI C,bZ C,pF];rcases N8 (I k C)with h | ⟨h,l,E,e1,e2,U,Q⟩
 .have e:((P k).op==0)=true:=by rw[h];rfl
  unfold N9;rw[e];exact WT C _
 .have j:=auq r I;have il:=XD j k (by omega) l U;have Z:=XD j k (by omega) E Q;have ll:=ajW j (by omega) U (by omega);have lr:=ajW j (by omega) Q (by omega)
  have M:∀(fn:Nat) (g:List bg->List bg->List bg),aj bO fn [jX (Cr (N7 P r) k l),jX (Cr (N7 P r) k E)] (jX (g (Cr (N7 P r) k l) (Cr (N7 P r) k E)))->spG n (k:Nat) (Cr (N7 P r) k) fn (Iz g) (P k) f=f (g (Cr (N7 P r) k l) (Cr (N7 P r) k E)):=λ fn g hs=>by unfold spG spA;rw[e1,e2,pF,pF,ZO,ZO,ap4,ak hs,aur (by omega) (by omega) C];rfl
  unfold N9;rw[mI h,eU,aY,eU,M _ mJ (agM (by omega) (by omega)),M _ kD (XE il.ris Z.ris (by omega)),M _ oq (agN (by omega) (by omega)),e1,e2,pF,pF];rcases ajV (I k C) h with J |J |J<;>rw[J]<;>rfl
theorem aa4:∀e,e∈[(⟨132,eLf lfL⟩:Entry)]->jr bO e:=aL awx aB
theorem aa5{C o j:List AV->List bg}:∀e,e∈spK C o j->sZ bO e:=au aG (au aG (au aG ay))
theorem awy(b:Bool)(A B:List bg):bM b [jX A] [jX B]=[jX (cond b A B)]:=by
 have e:bM b [jX A] [jX B]=[.sl 6 (cond b A.length B.length) λ i=>bM b (mF A i) (mF B i)]:=rfl;rw[e];cases b
 .show [AV.sl 6 B.length λ i=>bM false (mF A i) (mF B i)]=[jX B]
  have:(λ i=>bM false (mF A i) (mF B i))=mF B:=by funext i;show bM false (fu A i).c (fu B i).c=_;rw[Ll];rfl
  rw[this];rfl
 .show [AV.sl 6 A.length λ i=>bM true (mF A i) (mF B i)]=[jX A]
  have:(λ i=>bM true (mF A i) (mF B i))=mF A:=by funext i;show bM true (fu A i).c (fu B i).c=_;rw[Ll];rfl
  rw[this];rfl
theorem XF{n:Nat}(C:n<=16){P:Nat->kC}(r:Nat->Nat)(o:∀k,k<n->Hw (P k) (k:Nat)=0):bH bO (.loop (av Tryz.f92 0)) (wU n P r 0 (Cr (N7 P r) 0)) (.exit 0) (wU n P r n (Cr (N7 P r) n)):=by
 refine aP (λ k=>wU n P r (k:Nat) (Cr (N7 P r) k)) n (.exit 0) _ (by simp) (λ k E=>?_) ?_
 .have j:=aa6 lfL (Iz mJ) (Iz kD) (Iz oq) n P r (k:Nat) (Cr (N7 P r) k);rw[aB3 E C o,aQ (by omega),pF]at j;refine(aK (bB _ _) aa4 aa5 aC j).sub (Sub.refl _) ?_;refine ig ⟨wV rfl,Gc ⟨150,1,n,_,_,rfl,rfl,λ q hq=>?_⟩,trivial⟩;rw[awy,ZO];show [jX (if q=k then N9 (P k).op (lfL (k:Nat) (P k).s (l7 r)) (Cr (N7 P r) k (P k).l.toNat) (Cr (N7 P r) k (P k).r.toNat)else Cr (N7 P r) k q)]=_
  by_cases e:q=k
  .subst e;rw[BEq.rfl,gH rfl];rfl
  .rw[mI e,fP e];rfl
 .refine aK (dB _ _) aa4 aa5 aC ((agO lfL (Iz mJ) (Iz kD) (Iz oq) n P r (n:Nat) (Cr (N7 P r) n)).trans ?_);unfold spC;rw[bJ,eU]
noncomputable def soS(n:Nat)(P:Nat->kC)(r:Nat->Nat):List bg:=Cr (N7 P r) n (n - 1)
theorem aeA{n:Nat}(j:1<=n)(I:n<=16){P:Nat->kC}(r:Nat->Nat)(C:∀k,k<n->Hw (P k) (k:Nat)=0):aj bO 92 [pI n P,RY r] (jX (soS n P r)):=by
 refine aR aa4 aa5 Tryz.func92 (gq (i:=3) 0 1 (aS (keep:=Eu) (τ:=[some 0,some 1]) (XF I r C))) ((ajX lfL (Iz mJ) (Iz kD) (Iz oq) n P r (Cr (N7 P r) 0) (Cr (N7 P r) n)).trans ?_)
 have hs:Sub (spR n P r 0 λ _=>[.x (.slice none 0 0)]) (wU n P r 0 (Cr (N7 P r) 0)):=by refine gZ ⟨wV rfl,Gc (wV ⟨150,1,n,_,_,rfl,rfl,λ i U=>⟨rfl,λ E Y M=>?_⟩⟩),trivial⟩;obtain⟨u,o,e,j,Q⟩:=bF.1 M;exact bF.2 ⟨u,o,e,GA j,Q⟩
 have J:((decide (0<=(n:Int))&&(decide ((n:Int)<=n)&&decide (((24:Nat):Int)*n<=281474976710656)))||false)=true:=by rw[gG (show(0:Int)<=n by omega),gG (show(n:Int)<=n by omega),gG (show((24:Nat):Int)*n<=281474976710656 by omega)];rfl
 rw[J,ak hs,aO,show((n:Int) - 1)=((n - 1:Nat):Int) by omega,WT (by omega),pF,ZO];rfl
section
variable(A B:List bg)(i k:Int)(R:List bg)
end
section
end
section
end
section
end
section
end
section
end
section
end
def tkB(lo:Nat)(c:jH):Bool:=cond (iL c.t lo) (bW c.t 0) false
def Ck:jH:=⟨0,0,false⟩
def mZ(lo:Nat)(L:List bg)(i:Int):St:=mkS 37 [(1,.f lo),(4,.own 0 0),(10,jX L),(11,iA L.length),(12,iA i)] [.c Ck.c]
def fiR(c:jH):St:=mkS 37 [(4,.own 0 0),(5,bA true)] [.c c.c]
def qL:List Nat:=[1,4,10,11,12]
section
variable(lo:Nat)(L:List bg)(i:Int)
def fiC(f:jH->Option Out)(o j:Option Out):Option Out:=cond (decide (i<L.length)) (cond (iP i L.length||false) (cond (tkB lo (fu L i.toNat).i) (f (fu L i.toNat).i) (cond (tkB lo (fu L i.toNat).o) (f (fu L i.toNat).o) o)) none) j
theorem ac9:jR bO [] [] bC (av aJ0 0) (mZ lo L i) (gu qL [some 0])=fiC lo L i (λ _=>none) (some ⟨.normal,mZ lo L (aH (i+1)),.any⟩) none:=by kernel_rfl
theorem azs:jR bO [] [] bC (av aJ0 0) (mZ lo L i) (aaw [4,5] [some 0])=fiC lo L i (λ c=>some ⟨.ret,fiR c,.any⟩) none none:=by kernel_rfl
theorem ah6:jR bO [] [] bC (av aJ0 0) (mZ lo L i) (iG qL [some 0])=fiC lo L i (λ _=>none) none (some ⟨.exit 0,mZ lo L i,.any⟩):=by kernel_rfl
theorem azt(j:Int):ev bO [] [] (eZ 2 (fF qL [some 0] (mZ lo L 0) (.exit 0) (mZ lo L j))) aJ0 [jX L,.f lo] ret=gate (Sub (mZ lo L 0) (mZ lo L 0)) (some (Out.of (.bK [Ck.v,bA false]))):=by kernel_rfl
theorem azu(c:jH):ev bO [] [] (eZ 2 (fF qL [some 0] (mZ lo L 0) .ret (fiR c))) aJ0 [jX L,.f lo] ret=gate (Sub (mZ lo L 0) (mZ lo L 0)) (some (Out.of (.bK [c.v,bA true]))):=by kernel_rfl
end
theorem aD1(t n f:Nat):ev bO [] [] bC Tryz.f93 [.f t,.f n,.f f] ret=cond (!(bW t n)) (cond (!(dN n f)) (some (Out.of (.f f))) (some (Out.of (.f n)))) (cond (!(dN t f)) (some (Out.of (.f f))) (some (Out.of (.f t)))):=by kernel_rfl
section
variable(n:Nat)(P:Nat->kC)(sn:Int)(r:Nat->Nat)(e e':Int)(S:List bg)
theorem aD2:ev bO [] [kS bO 51 λ _=>iA e,kS bO 29 λ _=>iA e'] bC Tryz.f89 [.agg (FI n P sn),RY r] ret=gate (aj bO 51 [.agg (FI n P sn)] (iA e)) (cond (!(e==0)) (some (Out.of (iA e))) (gate (aj bO 29 [RY r] (iA e')) (some (Out.of (iA e'))))):=by kernel_rfl
end
noncomputable def srE(n:Nat)(P:Nat->kC)(sn:Int)(r:Nat->Nat):Int:=cond (GU n P sn==0) (gP r) (GU n P sn)
theorem afF(n:Nat)(P:Nat->kC)(sn:Int)(r:Nat->Nat):aj bO 89 [.agg (FI n P sn),RY r] (iA (srE n P sn r)):=by refine aR aB (au aG (au aG ay)) Tryz.func89 aC ((aD2 n P sn r (GU n P sn) (gP r)).trans ?_);rw[ak (Ai n P sn),ak (akj r)];unfold srE;cases GU n P sn==0<;>rfl
theorem azm{n:Nat}{P:Nat->kC}{sn:Int}{r:Nat->Nat}(h:srE n P sn r=0):GU n P sn=0/\gP r=0:=by
 unfold srE at h;by_cases e:GU n P sn=0
 .rw[e]at h;exact⟨e,h⟩
 .rw[mI e]at h;exact absurd h e
def Hg(L:List bg)(i:Nat):jH:=cond (i % 2==1) (fu L (i / 2)).o (fu L (i / 2)).i
theorem anQ(L:List bg)(k:Nat):Hg L (2*k)=(fu L k).i:=by unfold Hg;rw[show 2*k % 2=0 by omega,show 2*k / 2=k by omega];rfl
theorem au5(L:List bg)(k:Nat):Hg L (2*k+1)=(fu L k).o:=by unfold Hg;rw[show(2*k+1) % 2=1 by omega,show(2*k+1) / 2=k by omega];rfl
inductive Px(lo:Nat)(L:List bg):Option jH->Prop
 |none (h:∀i,i<2*L.length->tkB lo (Hg L i)=false):Px lo L none
 |some (K:Nat) (hK:K<2*L.length) (ht:tkB lo (Hg L K)=true) (h:∀i,i<K->tkB lo (Hg L i)=false):Px lo L (some (Hg L K))
theorem afE(lo:Nat)(L:List bg):∃o,Px lo L o:=by
 rcases o9 (λ i=>!(tkB lo (Hg L i))) (2*L.length)with h | ⟨K,I,E,C⟩
 .exact⟨_,.none λ i j=>by simpa using h i j⟩
 .exact⟨_,.some K I (by simpa using E) λ i j=>by simpa using C i j⟩
def aGv(o:Option jH):AV:=match o with
 |some c=>.bK [c.v,bA true]
 |none=>.bK [Ck.v,bA false]
theorem au6{lo:Nat}{L:List bg}(E:L.length<=1000){k:Nat}(j:k<L.length)(C:tkB lo (Hg L (2*k))=false)(o:tkB lo (Hg L (2*k+1))=false):bH bO (av aJ0 0) (mZ lo L (k:Nat)) .normal (mZ lo L ((k+1:Nat):Int)):=by rw[anQ]at C;rw[au5]at o;refine aK (bB qL [some 0]) aB ay aC ((ac9 lo L (k:Nat)).trans ?_);unfold fiC;rw[bI j,bZ j,pF,C,o,aQ (by omega)];rfl
theorem ac4{lo:Nat}{L:List bg}(E:L.length<=1000){o:Option jH}(h:Px lo L o):aj bO 91 [jX L,.f lo] (aGv o):=by
 cases h with
 |none h =>
  have j:bH bO (.loop (av aJ0 0)) (mZ lo L 0) (.exit 0) (mZ lo L (L.length:Nat)):=by refine aP (λ k=>mZ lo L (k:Nat)) L.length (.exit 0) _ (by simp) (λ k C=>au6 E C (h _ (by omega)) (h _ (by omega))) ?_;refine aK (dB qL [some 0]) aB ay aC ((ah6 lo L (L.length:Nat)).trans ?_);unfold fiC;rw[bJ,eU]
  exact aR aB ay aOn (gq (i:=2) 0 2 (aS (keep:=qL) (τ:=[some 0]) j)) ((azt lo L (L.length:Nat)).trans (ak (Sub.refl _)))
 |some K hK ht h =>
  have j:bH bO (.loop (av aJ0 0)) (mZ lo L 0) .ret (fiR (Hg L K)):=by
   refine aP (λ k=>mZ lo L (k:Nat)) (K / 2) .ret _ (by simp) (λ k C=>au6 E (by omega) (h _ (by omega)) (h _ (by omega))) ?_;refine aK (CG [4,5] [some 0]) aB ay aC ((azs lo L ((K / 2:Nat):Int)).trans ?_);unfold fiC;rw[bI (show K / 2<L.length by omega),bZ (show K / 2<L.length by omega),pF];by_cases J:K % 2=0
   .have e:K=2*(K / 2):=by omega
    have e2:Hg L K=(fu L (K / 2)).i:=by rw[<-anQ,<-e]
    rw[e2]at ht ⊢;rw[ht];rfl
   .have e:K=2*(K / 2)+1:=by omega
    have e2:Hg L K=(fu L (K / 2)).o:=by rw[<-au5,<-e]
    have I:tkB lo (fu L (K / 2)).i=false:=by rw[<-anQ];exact h _ (by omega)
    rw[e2]at ht ⊢;rw[I,ht];rfl
  exact aR aB ay aOn (gq (i:=2) 0 2 (aS (keep:=qL) (τ:=[some 0]) j)) ((azu lo L (Hg L K)).trans (ak (Sub.refl _)))
theorem asI(t n f:Nat):aj bO 93 [.f t,.f n,.f f] (.f (FN t n f)):=by refine sp aB Tryz.func93 ((aD1 t n f).trans ?_);unfold FN;cases bW t n<;>cases dN n f<;>cases dN t f<;>rfl
def VY(c:jH)(b:Bool)(e:Int):Option Out:=some (Out.of (.bK [c.v,bA b,iA e]))
section
variable(n:Nat)(P:Nat->kC)(sn:Int)(r:Nat->Nat)(e:Int)(b:Nat->Nat)(S:List bg)(nr fr:Nat)(mk:Bool)(c:jH)(ck:Bool)(bt:Nat->Nat->Nat->Nat)
noncomputable def skK:List bf:=[kS bO 89 λ _=>iA e,kS bO 90 λ _=>BX b,kS bO 67 λ _=>.bK [.f nr,.f fr,bA mk],kS bO 92 λ _=>jX S,kS bO 91 λ _=>.bK [c.v,bA ck]]
theorem am6:ev bO [⟨93,ag3 λ t n f=>.f (bt t n f)⟩] (skK e b S nr fr mk c ck) bC Tryz.f46 [.agg (FI n P sn),RY r] ret=gate (aj bO 89 [.agg (FI n P sn),RY r] (iA e)) (cond (!(e==0)) (VY Ck false e)
  (gate (aj bO 90 [pI n P] (BX b)) (gate (aj bO 67 [BX b,RY r] (.bK [.f nr,.f fr,bA mk])) (cond (!mk) (VY Ck false 0) (gate (aj bO 92 [pI n P,RY r] (jX S)) (gate (aj bO 91 [jX S,.f (r 6)] (.bK [c.v,bA ck])) (cond (!ck) (VY Ck false 0) (VY ⟨bt c.t nr fr,c.l,c.u⟩ true 0)))))))):=by kernel_rfl
end
section
variable(bt:Nat->Nat->Nat->Nat)(n:Nat)(P:Nat->kC)(sn:Int)(r:Nat->Nat)(e:Int)(b:Nat->Nat)(S:List bg)(nr fr:Nat)(mk:Bool)(i:Int)
end
noncomputable def acX(lo:Nat)(L:List bg):Option jH:=aOy (afE lo L)
theorem asF(lo:Nat)(L:List bg):Px lo L (acX lo L):=aOz (afE lo L)
structure Sdk where
 c:jH
 k:Bool
 e:Int
def Sdk.v(x:Sdk):AV:=.bK [x.c.v,bA x.k,iA x.e]
noncomputable def sdk(n:Nat)(P:Nat->kC)(sn:Int)(r:Nat->Nat):Sdk:=cond (srE n P sn r==0) (cond (dw (iD P n (n - 1)) r) (match acX (r 6) (soS n P r)with
 |some c=>⟨⟨FN c.t (bP (iD P n (n - 1)) r) (bX (iD P n (n - 1)) r),c.l,c.u⟩,true,0⟩
 |none=>⟨Ck,false,0⟩) ⟨Ck,false,0⟩) ⟨Ck,false,srE n P sn r⟩
theorem asG{n:Nat}{P:Nat->kC}(C:1<=n)(o:n<=16)(r:Nat->Nat)(j:∀k,k<n->Hw (P k) (k:Nat)=0):(soS n P r).length<=16:=by have:=asH (auq r j) (ND n) (show n - 1<n by omega);unfold soS;omega
theorem Vv(n:Nat)(P:Nat->kC)(sn:Int)(r:Nat->Nat):aj bO 46 [.agg (FI n P sn),RY r] (sdk n P sn r).v:=by
 have o:∀e,e∈[(⟨93,ag3 λ t n f=>.f (FN t n f)⟩:Entry)]->jr bO e:=aL (UC asI) aB;have ks:∀{e:Int} {b:Nat->Nat} {S:List bg} {nr fr:Nat} {mk:Bool} {c:jH} {ck:Bool},∀x,x∈skK e b S nr fr mk c ck->sZ bO x:=au aG (au aG (au aG (au aG (au aG ay))));by_cases e:srE n P sn r=0
 .have ok:=LQ (azm e).1;have M:=asG ok.1 ok.2.1 r ok.2.2;have hF:=ac4 (by omega) (asF (r 6) (soS n P r));unfold sdk;rw[e];have I:=aeB ok.1 ok.2.1 λ k J=>N8 (ok.2.2 k J);have E:aj bO 67 [BX (iD P n (n - 1)),RY r] (.bK [.f (bP (iD P n (n - 1)) r),.f (bX (iD P n (n - 1)) r),bA (dw (iD P n (n - 1)) r)]):=wM _ r;have j:=afF n P sn r;rw[e]at j;cases C:acX (r 6) (soS n P r)with
  |none =>
   rw[C]at hF;have h:=am6 n P sn r 0 (iD P n (n - 1)) (soS n P r) (bP (iD P n (n - 1)) r) (bX (iD P n (n - 1)) r) (dw (iD P n (n - 1)) r) Ck false FN;rw[ak j,ak I,ak E,ak (aeA ok.1 ok.2.1 r ok.2.2),ak (show aj bO 91 [jX (soS n P r),.f (r 6)] (.bK [Ck.v,bA false]) from hF)]at h;refine aR o ks aMy aC (h.trans ?_);cases dw (iD P n (n - 1)) r<;>rfl
  |some c =>
   rw[C]at hF;have h:=am6 n P sn r 0 (iD P n (n - 1)) (soS n P r) (bP (iD P n (n - 1)) r) (bX (iD P n (n - 1)) r) (dw (iD P n (n - 1)) r) c true FN;rw[ak j,ak I,ak E,ak (aeA ok.1 ok.2.1 r ok.2.2),ak (show aj bO 91 [jX (soS n P r),.f (r 6)] (.bK [c.v,bA true]) from hF)]at h;refine aR o ks aMy aC (h.trans ?_);cases dw (iD P n (n - 1)) r<;>rfl
 .have h:=am6 n P sn r (srE n P sn r) (λ _=>0) [] 0 0 false Ck false FN;rw[ak (afF n P sn r),mI e]at h;unfold sdk;rw[mI e];exact aR o ks aMy aC h
end Go.Proofs.YtdlhemnconimnaaGreat.Hs.So
namespace Go.Proofs.YtdlhemnconimnaaGreat.Tr
open Go.Gv Hs
open Go.Ev (cn aM aU aX fdiv bD dG dR dN iB bW iL fabs aF key bS dU cZ iX qm o8 vg tC)
open Hs.So (kC pI FI GU soB sdk Sdk bxV agP Hw LQ N8 BF Vv Ai srE acX soS)
theorem aDH{n f:Nat}(t:Nat)(j:iB n f=true):aF (FN t n f)=false/\iB n (FN t n f)=true:=by
 obtain⟨o,I⟩:=o8 j;have E:iB n n=true:=by rw[iX o o];simp
 unfold FN;cases a:bW t n
 .cases b:dN n f
  .exact⟨I,j⟩
  .exact⟨o,E⟩
 .have C:=(tC a).1;rw[cZ C o]at a;have a:=Qx a;cases b:dN t f
  .exact⟨I,j⟩
  .exact⟨C,by show iB n t=true;rw[iX o C];exact gG (by omega)⟩
section
variable{n:Nat}{P:Nat->kC}{sn:Int}
theorem afs:∀(k:Nat),(∀q,q<k->Hw (P q) (q:Nat)=0)->∀q,q<k->Bx (So.iD P k q)
 | 0,_,q,h=>absurd h (avm q)
 |k+1,hp,q,hq=>by
  have o:=afs k λ q h=>hp q (by omega);show Bx (if q=k then bxV (P k) (So.iD P k)else So.iD P k q)
  by_cases e:q=k
  .rw[gH e];have j:=hp k (by omega);rcases N8 j with C | ⟨C,l,r,e1,e2,I,M⟩
   .have J:CW (P k).s=0:=by
     unfold Hw at j;rw[C]at j;have j:So.mlE (CW (P k).s) (P k).k=0:=j;unfold So.mlE at j;cases E:(CW (P k).s==0)
     .rw[E]at j;have j:CW (P k).s=0:=j;exact j
     .exact Aw E
    unfold bxV;rw[C];exact Xo ((Rs (P k).k (P k).a (P k).sk).2 J)
   .unfold bxV;rw[mI C,eU,e1,e2,pF,pF];cases(P k).op==2
    .exact o l I
    .exact(AQ (aft (o l I)) (aft (o r M))).1
  .rw[fP e];exact o q (by omega)
theorem afu(h:GU n P sn=0):Bx (soB n P sn):=by obtain⟨C,o,j⟩:=LQ h;unfold soB;rw[h];exact afs n j (n - 1) (by omega)
theorem ay5(h:GU n P sn=0)(r:Nat->Nat):Jh (soB n P sn) r (sdk n P sn r).c.t (sdk n P sn r).k:=λ j=>by
 have o:=afu h;have E:soB n P sn=So.iD P n (n - 1):=by unfold soB;rw[h];rfl
 rw[E]at o ⊢;unfold sdk at j ⊢;cases e1:(srE n P sn r==0)
 .rw[e1]at j;cases j
 .rw[e1,aY]at j;cases e2:dw (So.iD P n (n - 1)) r
  .rw[e2]at j;cases j
  .rw[e2,aY]at j;cases e3:acX (r 6) (soS n P r)with
   |none=>rw[e3]at j;cases j
   |some c =>
    obtain⟨_,_,_,C,_⟩:=meet_mono o o (afv _) e2;have:=aDH c.t C;exact⟨this.1,rfl,this.2⟩
end
section
variable(n:Nat)(P:Nat->kC)(sn:Int)(r b:Nat->Nat)(w:Nat)(l:Int)(u ok:Bool)(e:Int)
theorem ay6:ev bO [] [kS bO 244 λ _=>.bK [BX b,iA e]] bC Tryz.f240 [.agg (Th.bo n (λ i=>(P i).c) sn).c] ret=gate (aj bO 244 [.agg (FI n P sn)] (.bK [BX b,iA e])) (some (Out.of (.agg (Bn b)))):=by kernel_rfl
theorem ay7:ev bO [] [kS bO 46 λ _=>.bK [.agg [.f w,iA l,bA u],bA ok,iA e]] bC Tryz.f243 [.agg (Th.bo n (λ i=>(P i).c) sn).c,.agg (kW r)] ret=gate (aj bO 46 [.agg (FI n P sn),RY r] (.bK [.agg [.f w,iA l,bA u],bA ok,iA e])) (some (Out.of (Cq (⟨0,l,u,w⟩,ok)))):=by kernel_rfl
end
end Go.Proofs.YtdlhemnconimnaaGreat.Tr
namespace Go.Proofs.YtdlhemnconimnaaGreat.Hs.Fm
open Go.Gv
open Go.Ev (cn aM aU aX fdiv dR dN iB bW iL)
def GN(a b c:Nat->Nat):Nat->Nat:=ls [a 0,a 1,a 2,b 0,b 1,b 2,c 0,c 1,c 2,0,0]
def Gy(s:Nat->Nat)(sk:Int):List AV:=[iA 3,.f (s 0),.f (s 1),.f (s 2),.f (s 3),.f (s 4),.f (s 5),.f (s 6),.f (s 7),.f (s 8),.f (s 9),.f (s 10),iA sk]
def Qd(F:Fd)(n:Nat)(b:Nat->Nat)(y x:Int)(m:Nat)(j:Nat->List AV):St:=mkS 73 [(1,.own 0 0),(3,.bQ 1 13 0 m),(4,iA y),(13,iA (aH (F.H - 1))),(14,iA y),(19,iA (aH (F.W - 1))),(20,iA x)] [.c (uX F n b),.a 73 13 m j]
def aaj:List Nat:=[1,3,4,13,14,19,20]
noncomputable def PK(P:Program)(g:Func):List bf:=[inl P [] [] (λ _=>bC) 136 g]
theorem avh:∀e,e∈PK bO aL0->sZ bO e:=au (aAP aB ay (by kernel_rfl) Tryz.func136 (by kernel_rfl) (by kernel_rfl) (c:=dH aL0) λ _=>aC) ay
theorem aoK(F:Fd)(n:Nat)(b:Nat->Nat)(y x:Int)(m:Nat)(j:Nat->List AV):jR bO [] (PK bO aL0) bC (av aIO 1) (Qd F n b y x m j) (gu aaj [some 0,some 7]) =
    cond (decide (x<aH (F.W - 1))) (cond ((iP (ix F.W y x) n||false)&&((iP (aH (ix F.W y x+1)) n||false)&&true)) (cond ((iP (aH (ix F.W y x+F.W)) n||false)&&((iP (aH (aH (ix F.W y x+F.W)+1)) n||false)&&true))
      (cond ((((m==m)&&apB ((m+2)*104) 140737488355328)||false)&&true)
        (some ⟨.normal,Qd F n b y (aH (x+1)) (m+2) (λ q=>bM (Tv q m) (j q) (bM (Tv q (m+1)) (Gy (GN (pt F (ix F.W y x).toNat) (pt F (aH (ix F.W y x+F.W)).toNat) (pt F (aH (ix F.W y x+1)).toNat)) F.sk)
          (Gy (GN (pt F (aH (ix F.W y x+1)).toNat) (pt F (aH (ix F.W y x+F.W)).toNat) (pt F (aH (aH (ix F.W y x+F.W)+1)).toNat)) F.sk))),.any⟩) none) none) none) none:=by kernel_rfl
theorem atV(F:Fd)(n:Nat)(b:Nat->Nat)(y x:Int)(m:Nat)(j:Nat->List AV):jR bO [] (PK bO aL0) bC (av aIO 1) (Qd F n b y x m j) (QK aaj [some 0,some 1]) =
  cond (decide (x<aH (F.W - 1))) (cond ((iP (ix F.W y x) n||false)&&((iP (aH (ix F.W y x+1)) n||false)&&true)) (cond ((iP (aH (ix F.W y x+F.W)) n||false)&&((iP (aH (aH (ix F.W y x+F.W)+1)) n||false)&&true))
   (cond ((((m==m)&&apB ((m+2)*104) 140737488355328)||false)&&true) none none) none) none) (some ⟨.exit 2,Qd F n b y x m j,.any⟩):=by kernel_rfl
def crn(w q:Nat):Nat:=q / 2 / (w - 1)*w+q / 2 % (w - 1)
def pc(F:Fd)(w q:Nat):Nat->Nat:=cond (q % 2==0) (GN (pt F (crn w q)) (pt F (crn w q+w)) (pt F (crn w q+1))) (GN (pt F (crn w q+1)) (pt F (crn w q+w)) (pt F (crn w q+w+1)))
def Mh(F:Fd)(w:Nat):Nat->List AV:=λ q=>Gy (pc F w q) F.sk
theorem aAQ{w y x:Nat}(j:x<w - 1):crn w (2*(y*(w - 1)+x))=y*w+x/\crn w (2*(y*(w - 1)+x)+1)=y*w+x:=by
 have I:2*(y*(w - 1)+x) / 2=y*(w - 1)+x:=by omega
 have E:(2*(y*(w - 1)+x)+1) / 2=y*(w - 1)+x:=by omega
 have o:(y*(w - 1)+x) % (w - 1)=x:=by rw[aEw,aNE];exact aG8 j
 have C:(y*(w - 1)+x) / (w - 1)=y:=by rw[aEw,aNF (by omega),aHw j];omega
 unfold crn;rw[I,E,o,C];exact⟨rfl,rfl⟩
theorem Ip.less{F:Fd}{w h:Nat}(d:Ip F w h):aH (F.W - 1)=((w - 1:Nat):Int)/\aH (F.H - 1)=((h - 1:Nat):Int):=by have:=d.w1;have:=d.h1;have:=d.w8;have:=d.h8;rw[d.W,d.H];exact⟨by rw[aO];omega,by rw[aO];omega⟩
theorem aiy{F:Fd}{w h y:Nat}(b:Nat->Nat)(d:Ip F w h)(hy:y<h - 1) :
  bH bO (.loop (av aIO 1)) (Qd F F.n b (y:Nat) 0 (2*(y*(w - 1))) (Mh F w)) (.exit 2) (Qd F F.n b (y:Nat) ((w - 1:Nat):Int) (2*(y*(w - 1)+(w - 1))) (Mh F w)):=by
 have hle:=d.le;have I:=d.row (y:=y+1) (by omega);have e1:(y+1)*w=y*w+w:=aMg y w;rw[e1]at I;have hw:=d.w1;have hn:=d.n;have hyv:y*(w - 1)<=y*w:=Nat.mul_le_mul_left _ (by omega);refine aP (λ j=>Qd F F.n b (y:Nat) (j:Nat) (2*(y*(w - 1)+j)) (Mh F w)) (w - 1) (.exit 2) _ (by simp) (λ j U=>?_) ?_
 .have E:=d.ix (y:=y) (x:=j) (by omega) (by omega);have i1:aH (ix F.W (y:Nat) (j:Nat)+1)=((y*w+j+1:Nat):Int):=by rw[E,aO];omega
  have Q:aH (ix F.W (y:Nat) (j:Nat)+F.W)=((y*w+j+w:Nat):Int):=by rw[E,d.W,aO];omega
  have i3:aH (aH (ix F.W (y:Nat) (j:Nat)+F.W)+1)=((y*w+j+w+1:Nat):Int):=by rw[Q,aO];omega
  have hstep:=aoK F F.n b (y:Nat) (j:Nat) (2*(y*(w - 1)+j)) (Mh F w)
  rw[d.less.1,oW U,i3,Q,i1,E,bZ (show y*w+j<F.n by omega),bZ (show y*w+j+1<F.n by omega),bZ (show y*w+j+w<F.n by omega),bZ (show y*w+j+w+1<F.n by omega),
   agl (show(2*(y*(w - 1)+j)+2)*104<=140737488355328 by omega),og (by omega)]at hstep
  simp only[aY,Bool.and_self,Bool.or_false,BEq.rfl,pF]at hstep;refine bH.sub (aK (bB aaj [some 0,some 7]) aB avh aC hstep) (Sub.refl _) ?_;have e2:2*(y*(w - 1)+(j+1))=2*(y*(w - 1)+j)+2:=by omega
  rw[e2];refine ig ⟨wV rfl,Gc ⟨73,13,2*(y*(w - 1)+j)+2,_,_,rfl,rfl,λ q hq=>?_⟩,trivial⟩;obtain⟨Z,Y⟩:=aAQ (w:=w) (y:=y) (x:=j) U;cases M:Tv q (2*(y*(w - 1)+j))
  .have hge:=Hf M;cases o:Tv q (2*(y*(w - 1)+j)+1)
   .have C:q=2*(y*(w - 1)+j)+1:=by have:=Hf o;omega
    subst C;have J:((2*(y*(w - 1)+j)+1) % 2==0)=false:=by rw[show(2*(y*(w - 1)+j)+1) % 2=1 by omega];rfl
    unfold Mh pc Gy iA;rw[J,Y];simp only[bM,kZ,eU,decide_true,aY]
   .have C:q=2*(y*(w - 1)+j):=by have:q<_:=Ou o;omega
    subst C;have J:(2*(y*(w - 1)+j) % 2==0)=true:=by rw[show 2*(y*(w - 1)+j) % 2=0 by omega];rfl
    unfold Mh pc Gy iA;rw[J,Z];simp only[bM,kZ,eU,decide_true,aY]
  .unfold Mh Gy iA;simp only[bM,kZ,decide_true,aY]
 .refine aK (pV aaj [some 0,some 1]) aB avh aC ?_;rw[atV,d.less.1,oh];rfl
def Aq(F:Fd)(n:Nat)(b:Nat->Nat)(y:Int)(m:Nat)(j:Nat->List AV):St:=mkS 73 [(1,.own 0 0),(3,.bQ 1 13 0 m),(13,iA (aH (F.H - 1))),(14,iA y)] [.c (uX F n b),.a 73 13 m j]
def aai:List Nat:=[1,3,13,14]
noncomputable def aE8(F:Fd)(b:Nat->Nat)(w y:Nat):Nat->Option dY:=eZ 6 (fF aaj [some 0,some 1] (Qd F F.n b (y:Nat) 0 (2*(y*(w - 1))) (Mh F w)) (.exit 2) (Qd F F.n b (y:Nat) ((w - 1:Nat):Int) (2*(y*(w - 1)+(w - 1))) (Mh F w)))
theorem atP{F:Fd}{w h y:Nat}(b:Nat->Nat)(d:Ip F w h)(o:y<h - 1):yx bO (aE8 F b w y) (av aIO 0) :=
 qo (i:=6) 1 (by kernel_rfl) λ j C _=>by
  have:j=0:=by omega
  subst this;have e:(bL (av aIO 0)).getD 0 .skip=av aIO 1:=by kernel_rfl
  rw[e];exact aS (aiy b d o)
theorem aiz(F:Fd)(b:Nat->Nat)(w y:Nat):jR bO [] [] (aE8 F b w y) (av aIO 0) (Aq F F.n b (y:Nat) (2*(y*(w - 1))) (Mh F w)) (gu aai [some 0,some 1]) =
  cond (decide (((y:Nat):Int)<aH (F.H - 1))) (gate (Sub (Qd F F.n b (y:Nat) 0 (2*(y*(w - 1))) (Mh F w)) (Qd F F.n b (y:Nat) 0 (2*(y*(w - 1))) (Mh F w))) (some ⟨.normal,Aq F F.n b (aH (((y:Nat):Int)+1)) (2*(y*(w - 1)+(w - 1))) (Mh F w),.any⟩)) none:=by kernel_rfl
theorem aiA(F:Fd)(b:Nat->Nat)(w y m:Nat):jR bO [] [] (eZ 6 λ _ _=>none) (av aIO 0) (Aq F F.n b (y:Nat) m (Mh F w)) (QK aai [some 0,some 1]) =
  cond (decide (((y:Nat):Int)<aH (F.H - 1))) none (some ⟨.exit 0,Aq F F.n b (y:Nat) m (Mh F w),.any⟩):=by kernel_rfl
theorem adQ{F:Fd}{w h:Nat}(b:Nat->Nat)(d:Ip F w h):bH bO (.loop (av aIO 0)) (Aq F F.n b 0 (2*(0*(w - 1))) (Mh F w)) (.exit 0) (Aq F F.n b ((h - 1:Nat):Int) (2*((h - 1)*(w - 1))) (Mh F w)):=by
 have o:=d.h8;refine aP (λ y=>Aq F F.n b (y:Nat) (2*(y*(w - 1))) (Mh F w)) (h - 1) (.exit 0) _ (by simp) (λ y j=>?_) ?_
 .refine aK (bB aai [some 0,some 1]) aB ay (atP b d j) ?_;rw[aiz,d.less.2,oW j,ak (Sub.refl _),og (by omega),aMg y (w - 1)];rfl
 .refine aK (pV aai [some 0,some 1]) aB ay (LB 6) ?_;rw[aiA,d.less.2,oh];rfl
noncomputable def af9(F:Fd)(b:Nat->Nat)(w h:Nat):Nat->Option dY:=eZ 3 (wG aai [(3,1,13)] (.a 73 13 0 (Mh F w)) [some 0,none] (Aq F F.n b 0 (2*(0*(w - 1))) (Mh F w)) (.exit 0) (Aq F F.n b ((h - 1:Nat):Int) (2*((h - 1)*(w - 1))) (Mh F w)))
theorem adR{F:Fd}{w h:Nat}(b:Nat->Nat)(d:Ip F w h):yx bO (af9 F b w h) (dH aIO) :=
  qo (i:=3) 2 (by kernel_rfl) λ j C o=>by
    have:j=0\/j=1:=by omega
    rcases this with rfl |rfl
    . exact oo (adQ b d)
    . have e:jI ((bL (dH aIO)).getD 1 .skip)=some 6:=by kernel_rfl
      rw[e]at o;cases o
theorem aiB(F:Fd)(b:Nat->Nat)(w h:Nat):ev bO [] [] (af9 F b w h) aIO [.agg (uX F F.n b)] ret =
  gate (Sub (Aq F F.n b 0 0 (Mh F w)) (Aq F F.n b 0 (2*(0*(w - 1))) (Mh F w))) (some (Out.of (.sl 13 (2*((h - 1)*(w - 1))) λ i=>Gy (pc F w (0+i)) F.sk))):=by kernel_rfl
def yC(w h:Nat):Nat:=2*((h - 1)*(w - 1))
theorem Lp{F:Fd}{w h:Nat}(b:Nat->Nat)(d:Ip F w h):aj bO 96 [.agg (uX F F.n b)] (.sl 13 (yC w h) λ q=>Gy (pc F w q) F.sk):=by
 refine aR aB ay Tryz.func96 (adR b d) ?_
 have hs:Sub (Aq F F.n b 0 0 (Mh F w)) (Aq F F.n b 0 (2*(0*(w - 1))) (Mh F w)):=by rw[aH1];exact Sub.refl _
 have e:(λ i=>Gy (pc F w (0+i)) F.sk)=λ q=>Gy (pc F w q) F.sk:=funext λ i=>by rw[ZO]
 rw[aiB,ak hs,e];rfl
structure Hit where
 ok:Bool
 at_:Int
 t:Nat
abbrev Gives:=Nat->Nat × Bool
def better(h:Nat × Bool)(x:Hit):Bool:=cond h.2 (cond (!x.ok) true (dN h.1 x.t)) false
def yX(h:Gives):Nat->Hit
 | 0=>⟨false,0,0⟩
 |q+1=>cond (better (h q) (yX h q)) ⟨true,(q:Nat),(h q).1⟩ (yX h q)
def uW(r:Nat->Nat):List AV:=[.f (r 0),.f (r 1),.f (r 2),.f (r 3),.f (r 4),.f (r 5),.f (r 6)]
def kQ(sk:Int)(n:Nat)(p:Nat->Nat->Nat)(r:Nat->Nat)(x:Hit)(q:Int):St:=mkS 42 [(3,.own 0 0),(4,iA x.at_),(5,.f x.t),(6,bA x.ok),(12,.sl 13 n λ q=>Gy (p q) sk),(13,iA n),(14,iA q)] [.c (uW r)]
def Da:List Nat:=[3,4,5,6,12,13,14]
section
variable(sk:Int)(n:Nat)(p:Nat->Nat->Nat)(r:Nat->Nat)(x:Hit)(q:Int)(t:Nat)(k:Bool)(e:Int)
noncomputable def ajL(t:Nat)(k:Bool)(e:Int):bf:=kS bO 45 λ _=>.bK [.f t,bA k,iA e]
theorem aaW:jR bO [] [ajL t k e] bC (av aMN 0) (kQ sk n p r x q) (gu Da [some 0]) =
  cond (decide (q<(n:Int))) (cond ((decide (0<=q)&&decide (q<(n:Int)))&&true) (gate (aj bO 45 [.agg (Gy (p q.toNat) sk),.agg (uW r)] (.bK [.f t,bA k,iA e])) (cond (better (t,k) x) (some ⟨.normal,kQ sk n p r ⟨true,q,t⟩ (aH (q+1)),.any⟩) (some ⟨.normal,kQ sk n p r x (aH (q+1)),.any⟩))) none) none:=by kernel_rfl
theorem agB:jR bO [] [ajL t k e] bC (av aMN 0) (kQ sk n p r x q) (QK Da [some 0]) =
  cond (decide (q<(n:Int))) (cond ((decide (0<=q)&&decide (q<(n:Int)))&&true) (gate (aj bO 45 [.agg (Gy (p q.toNat) sk),.agg (uW r)] (.bK [.f t,bA k,iA e])) (cond (better (t,k) x) none none)) none) (some ⟨.exit 0,kQ sk n p r x q,.any⟩):=by kernel_rfl
noncomputable def awn(h:Hit):Nat->Option dY:=eZ 2 (fF Da [some 0] (kQ sk n p r ⟨false,0,0⟩ 0) (.exit 0) (kQ sk n p r h (n:Nat)))
theorem Xw:ev bO [] [] (awn sk n p r x) aMN [.sl 13 n λ q=>Gy (p q) sk,.agg (uW r)] ret =
  gate (Sub (kQ sk n p r ⟨false,0,0⟩ 0) (kQ sk n p r ⟨false,0,0⟩ 0)) (some (Out.of (.bK [iA x.at_,.f x.t,bA x.ok]))):=by kernel_rfl
end
def NY(sk:Int)(n:Nat)(p:Nat->Nat->Nat)(r:Nat->Nat)(h:Gives):Prop:=∀q,q<n->∃e,aj bO 45 [.agg (Gy (p q) sk),.agg (uW r)] (.bK [.f (h q).1,bA (h q).2,iA e])
section
variable{sk:Int}{n:Nat}{p:Nat->Nat->Nat}{r:Nat->Nat}{h:Gives}
theorem Xx(j:NY sk n p r h)(o:n<4611686018427387904):bH bO (.loop (av aMN 0)) (kQ sk n p r ⟨false,0,0⟩ 0) (.exit 0) (kQ sk n p r (yX h n) (n:Nat)):=by
 refine aP (λ q=>kQ sk n p r (yX h q) (q:Nat)) n (.exit 0) _ (by simp) (λ q hq=>?_) ?_
 .obtain⟨e,g⟩:=j q hq;refine aK (bB Da [some 0]) aB (au aG ay) aC ((aaW sk n p r (yX h q) (q:Nat) (h q).1 (h q).2 e).trans ?_);rw[oW hq,nG,og (by omega),pF,ak g];show cond (better (h q) (yX h q)) _ _=_;simp only[yX];cases better (h q) (yX h q)<;>rfl
 .refine aK (pV Da [some 0]) aB (au aG ay) aC ((agB sk n p r (yX h n) (n:Nat) 0 false 0).trans ?_);rw[oh];rfl
theorem QL(o:NY sk n p r h)(C:n<4611686018427387904):aj bO 95 [.sl 13 n λ q=>Gy (p q) sk,.agg (uW r)] (.bK [iA (yX h n).at_,.f (yX h n).t,bA (yX h n).ok]):=by
 refine aR aB ay Tryz.func95 (qo (i:=2) 1 (by kernel_rfl) λ j E _=>?_) ((Xw sk n p r (yX h n)).trans (ak (Sub.refl _)));have:j=0:=by omega
 subst this;exact aS (Xx o C)
end
structure mQ(F:Fd)(w h:Nat):Prop where
 d:Ip F w h
 known:aj bO 99 [.agg F.c] (.bK [.agg (uX F F.n (bx F)),iA 0])
 box:lG (bx F)=0
theorem aaX{F:Fd}{w h:Nat}(d:Ip F w h)(o:F.aaY=0)(j:lG (bx F)=0):mQ F w h:=by have k:=ajM d o;rw[j]at k;exact⟨d,k,j⟩
section
variable(F:Fd)(r:Nat->Nat)(n m:Nat)(b:Nat->Nat)(p:Nat->Nat->Nat)(x:Hit)
noncomputable def kKn:bf:=Xy 99 [.agg F.c] (.bK [.agg (uX F n b),iA 0])
noncomputable def kPc:bf:=Xy 96 [.agg (uX F n b)] (.sl 13 m λ q=>Gy (p q) F.sk)
theorem apT:ev bO [] [kKn F n b] bC Tryz.f53 [.agg F.c] ret=gate ([AV.agg F.c]=[AV.agg F.c]) (some (Out.of (iA 0))):=by kernel_rfl
theorem apU:ev bO [] [kKn F n b,kPc F n m b p] bC Tryz.f107 [.agg F.c] ret =
  gate ([AV.agg F.c]=[AV.agg F.c]) (gate ([AV.agg (uX F n b)]=[AV.agg (uX F n b)]) (some (Out.of (.bK [.sl 13 m λ q=>Gy (p q) F.sk,iA 0])))):=by kernel_rfl
theorem awo:ev bO [Tr.ajN] [kKn F n b] bC Tryz.f94 [.agg F.c,.agg (uW r)] ret=gate ([AV.agg F.c]=[AV.agg F.c]) (cond (!(gP (Tr.r7 r)==0)) (some (Out.of (.bK [.agg ajO,iA (gP (Tr.r7 r))]))) (some (Out.of (.bK [.agg (uX F n b),iA 0])))):=by kernel_rfl
theorem apV:ev bO [Tr.eMt] [Xy 94 [.agg F.c,.agg (uW r)] (.bK [.agg (uX F n b),iA 0]),kPc F n m b p,Xy 95 [.sl 13 m λ q=>Gy (p q) F.sk,.agg (uW r)] (.bK [iA x.at_,.f x.t,bA x.ok])] bC Tryz.f47 [.agg F.c,.agg (uW r)] ret =
  gate ([AV.agg F.c,AV.agg (uW r)]=[AV.agg F.c,AV.agg (uW r)]) (cond (!dw (Tr.pz b) (Tr.r7 r)) (some (Out.of (.bK [iA 0,.f 0,bA false,iA 0]))) (gate ([AV.agg (uX F n b)]=[AV.agg (uX F n b)]) (gate ([AV.sl 13 m λ q=>Gy (p q) F.sk,.agg (uW r)]=[AV.sl 13 m λ q=>Gy (p q) F.sk,.agg (uW r)]) (some (Out.of (.bK [iA x.at_,.f x.t,bA x.ok,iA 0])))))):=by kernel_rfl
end
def sX(F:Fd)(w h:Nat)(g:Gives)(r:Nat->Nat):Hit:=cond (dw (Tr.pz (bx F)) (Tr.r7 r)) (yX g (yC w h)) ⟨false,0,0⟩
section
variable{F:Fd}{w h:Nat}{r:Nat->Nat}
theorem Ul(d:Ip F w h):yC w h<=128:=by have j:(h - 1)*(w - 1)<=8*8:=aHI (by have:=d.h8;omega) (by have:=d.w8;omega);unfold yC;omega
theorem apW(d:Ip F w h):0<yC w h:=by have j:1*1<=(h - 1)*(w - 1):=aHI (by have:=d.h1;omega) (by have:=d.w1;omega);unfold yC;omega
theorem agC(g:mQ F w h):aj bO 53 [.agg F.c] (iA 0):=aR aB (au (tO g.known) ay) Tryz.func53 aC ((apT F _ _).trans (ak rfl))
theorem agD(g:mQ F w h):aj bO 107 [.agg F.c] (.bK [.sl 13 (yC w h) λ q=>Gy (pc F w q) F.sk,iA 0]) :=aR aB (au (tO g.known) (au (tO (Lp (bx F) g.d)) ay)) Tryz.func107 aC ((apU F _ _ _ _).trans ((ak rfl).trans (ak rfl)))
theorem agE(g:mQ F w h)(hr:gP (Tr.r7 r)=0){H:Gives}(o:NY F.sk (yC w h) (pc F w) r H):aj bO 47 [.agg F.c,.agg (uW r)] (.bK [iA (sX F w h H r).at_,.f (sX F w h H r).t,bA (sX F w h H r).ok,iA 0]):=by
 have j:aj bO 94 [.agg F.c,.agg (uW r)] (.bK [.agg (uX F F.n (bx F)),iA 0]):=by refine aR (aL Tr.Mw aB) (au (tO g.known) ay) Tryz.func94 aC ((awo F r _ _).trans ((ak rfl).trans ?_));rw[hr];rfl
 refine aR (aL (wL wM) aB) (au (tO j) (au (tO (Lp (bx F) g.d)) (au (tO (QL o (by have:=Ul g.d;omega))) ay))) Tryz.func47 aC ((apV F r _ _ _ _ _).trans ?_);rw[ak rfl,ak rfl,ak rfl];unfold sX;cases dw (Tr.pz (bx F)) (Tr.r7 r)<;>rfl
end
open So
open Go.Ev (bD dG fabs VB key aF isFin val bS cZ dU)
open Tr (Bx NJ AQ Nr Lm)
theorem arY{F:Fd}(h:∀q,q<F.n->∀i,i<3->Nr (pt F q i))(j:0<F.n):lG (bx F)=0:=by
 have pb:∀q,q<F.n->Bx (pp (pt F q)):=λ q hq=>⟨h q hq 0 (by decide),h q hq 1 (by decide),h q hq 2 (by decide),h q hq 0 (by decide),h q hq 1 (by decide),h q hq 2 (by decide),af2 _,af2 _,af2 _⟩
 have all:∀n,n<=F.n->Bx (ze (pt F) n):=λ n=>by
  induction n with
  |zero=>exact λ _=>pb 0 j
  |succ n ih=>exact λ o=>(AQ (ih (by omega)) (pb n (by omega))).1
 exact NJ (all F.n (ND _))
theorem GH{W H:Int}{x y z d:Nat}{N:Nat}{g:Nat->Int}{sk q0 q1 q2 p:Int}(Q:W=2\/W=3\/W=4)(U:H=2\/H=3\/H=4)(hN:(N:Int)=W*H)(hx:x=bU q0)(hy:y=bU q1)(hz:z=bU q2)(l0:q0.natAbs<=3000)(l1:q1.natAbs<=3000)(l2:q2.natAbs<=3000)(hd:d=bU p)(p0:1<=p)(p1:p<=2000)(Cc:0<=sk)(BQ:sk<16)(hg:∀q,q<N->-1000<=g q/\g q<=1000):∃w l,mQ ⟨W,H,ls [x,y,z],d,N,g,sk⟩ w l:=by
 obtain⟨c,o⟩:∃c,c=1074:=⟨_,rfl⟩;have v:∀{u:Int},u.natAbs<=3000->VB 1 (c+3) (bU u):=λ I=>rD o (j:=3) (by decide) (by show _<=4096;omega);have C:VB 1 (c+3) d:=by rw[hd];exact v (by omega)
 have kd:0<key d:=by rw[hd];exact Er (by omega) (by omega)
 have X:=v l0;have Y:=v l1;have Z:=v l2;rw[<-hx]at X;rw[<-hy]at Y;rw[<-hz]at Z
 have d2:Ip ⟨W,H,ls [x,y,z],d,N,g,sk⟩ W.toNat H.toNat:=by refine⟨by show W=_;omega,by show H=_;omega,?_,by omega,by omega,by omega,by omega⟩;show N=_;rcases Q with rfl |rfl |rfl<;>rcases U with rfl |rfl |rfl<;>(have e:((N:Nat):Int)=_:=hN;revert e;simp;omega)
 have hn16:N<=16:=by rcases Q with rfl |rfl |rfl<;>rcases U with rfl |rfl |rfl<;>omega
 have J:0<N:=by rcases Q with rfl |rfl |rfl<;>rcases U with rfl |rfl |rfl<;>omega
 have near:∀{j u:Nat},j<=19->VB 1 (c+j) u->Nr u:=λ hj h=>Lm (ru o (zH h hj))
 have E:(⟨W,H,ls [x,y,z],d,N,g,sk⟩:Fd).aaY=0:=by
  have e1:(⟨W,H,ls [x,y,z],d,N,g,sk⟩:Fd).arZ=false:=by show cond (cond (cond (decide (W<2)) true (decide (W>8))) true (decide (H<2))) true (decide (H>8))=false;rw[iH (by omega),iH (by omega),iH (by omega),iH (by omega)];rfl
  have e2:((N:Int)==aH (W*H))=true:=by rw[<-hN,aO,BEq.rfl]
  have e3:(⟨W,H,ls [x,y,z],d,N,g,sk⟩:Fd).far=false:=by show cond (!fE x y z) true (!iF d)=false;rw[vC o (zH X (by decide)) (zH Y (by decide)) (zH Z (by decide)),ru o (zH C (by decide))];rfl
  have e4:(⟨W,H,ls [x,y,z],d,N,g,sk⟩:Fd).Sw=true:=by unfold Fd.Sw;refine ab3.2 λ q hq=>?_;have:=hg q (aHi.1 hq);show(!(cond (decide (g q< -1000000)) true (decide (g q>1000000))))=true;rw[iH (by omega),iH (by omega)];rfl
  unfold Fd.aaY;rw[e1,e3,e4,ajz ⟨Cc,BQ⟩];show cond false 4 (cond (!((N:Int)==aH (W*H))) 5 (cond false 4 (cond false 1 (cond (!bW d 0) 6 (cond true 0 6)))))=(0:Int);rw[e2,ai9 C.1 kd];rfl
 have box:lG (bx ⟨W,H,ls [x,y,z],d,N,g,sk⟩)=0:=by
  refine arY (λ q hq i hi=>?_) J;have hq:q<N:=hq;have it:∀{u:Nat},u<=16->VB 1 (c+4) (BG (u:Nat)):=λ I=>Go.Ev.MW o (j:=4) (by decide) (by show(Int.natAbs _)<=16;omega);have mq:∀{u:Nat},u<=16->VB 1 (c+7) (aX (BG (u:Nat)) d):=λ I=>Go.Ev.Dh o (it I) C (k:=c+7) (by omega) (by decide) (by decide) (by omega) (by omega);have hm:q % W.toNat<=16:=aa2 (Nat.mod_le _ _) (by omega);have M:q / W.toNat<=16:=aa2 (Nat.div_le_self _ _) (by omega);have a0:Nr (aM x (aX (BG ((q % W.toNat:Nat):Int)) d)):=near (j:=7+1) (by decide) (lU (j:=7) o (by decide) (Go.Ev.lg X (by omega)) (mq hm));have a1:Nr (aM y (bU (g q))):=near (j:=3+1) (by decide) (lU (j:=3) o (by decide) Y (v (by have:=hg q hq;omega)));have a2:Nr (aM z (aX (BG ((q / W.toNat:Nat):Int)) d)):=near (j:=7+1) (by decide) (lU (j:=7) o (by decide) (Go.Ev.lg Z (by omega)) (mq M))
  match i,hi with
  | 0,_=>exact a0
  | 1,_=>exact a1
  | 2,_=>exact a2
 exact⟨_,_,aaX d2 E box⟩
end Go.Proofs.YtdlhemnconimnaaGreat.Hs.Fm
namespace Go.Proofs.YtdlhemnconimnaaGreat.Hs.Sc
open Go.Gv So Fm
open Go.Ev (cn aM aU aX fdiv bD dG dR dN iB bW iL fabs)
theorem aoE{f:Nat}{g:List AV->AV}:∀e,e∈[kS bO f g]->sZ bO e:=au aG ay
section
variable(n:Nat)(hs:Nat->Int)(pf:Int->Int->Int)(tf:Int->Nat)(rf:Int->Int)(vf:Int->Int->Nat->Nat)(W H:Int)(x y z d:Nat)(sk i:Int)(m:Nat)(el:Nat->List AV)(h:Nat->Int)
def zF:List AV:=[iA 0,iA 0,.f 0,.f 0,.f 0,.f 0,.x (.slice none 0 0),iA 0]
def fc(a:AV):List AV:=[iA W,iA H,.f x,.f y,.f z,.f d,a,iA sk]
def foN:St:=mkS 61 [(0,sI n hs),(1,iA 4),(6,.own 0 0),(7,.own 1 0),(8,iA 0)] [.c zF,.c (fc W H x y z d sk (.x (.slice none 0 0)))]
def foE:St:=mkS 61 [(0,sI n hs),(1,iA 4),(6,.own 0 0),(7,.own 1 0),(8,iA i)] [.c zF,.c (fc W H x y z d sk (.bQ 2 1 0 m)),.a 3 1 m el]
def foS:St:=foE n hs W H x y z d sk i m λ q=>[iA (h q)]
def JN:List Nat:=[0,1,6,7,8]
def aq8(m:Nat):Bool:=((apB m m&&apB ((m+1)*8) 140737488355328)||false)&&true
def hgV(i:Int):Int:=aH (pf (rf (aH (aH (4+7)+i))) 2000 - 1000)
theorem aoF:jR bO (MP pf) [Kg rf] bC (av aKs 0) (foN n hs W H x y z d sk) (gu JN [some 0,some 1,some 3])=cond (decide (0<aH (W*H))) (gR n hs rf (aH (aH (4+7)+0)) (some ⟨.normal,foE n hs W H x y z d sk (aH (0+1)) 1 (λ q=>bM (Tv q 0) [] [iA (hgV pf rf 0)]),.any⟩)) none:=by kernel_rfl
theorem atO:jR bO (MP pf) [Kg rf] bC (av aKs 0) (foS n hs W H x y z d sk i m h) (gu JN [some 0,some 1,some 4])=cond (decide (i<aH (W*H))) (gR n hs rf (aH (aH (4+7)+i)) (cond (aq8 m) (some ⟨.normal,foE n hs W H x y z d sk (aH (i+1)) (m+1) (λ q=>bM (Tv q m) [iA (h q)] [iA (hgV pf rf i)]),.any⟩) none)) none:=by kernel_rfl
theorem aAK:jR bO (MP pf) [Kg rf] bC (av aKs 0) (foS n hs W H x y z d sk i m h) (iG JN [some 0,some 1,some 2])=cond (decide (i<aH (W*H))) (gR n hs rf (aH (aH (4+7)+i)) (cond (aq8 m) none none)) (some ⟨.exit 0,foS n hs W H x y z d sk i m h,.any⟩):=by kernel_rfl
def dm(k:Int):Int:=aH (2+pf (rf k) 3)
noncomputable def foW:Option Out:=gR n hs rf 4 (gR n hs rf (aH (4+1)) (gV n hs vf (aH (4+2)) 3000 (gR n hs rf (aH (4+5)) (gR n hs rf (aH (4+6)) (gate (Sub (foN n hs (dm pf rf 4) (dm pf rf (aH (4+1))) (vf (aH (4+2)) 3000 0) (vf (aH (4+2)) 3000 1) (vf (aH (4+2)) 3000 2) (tf (aH (300+pf (rf (aH (4+5))) 1500))) (pf (rf (aH (4+6))) 3)) (foN n hs W H x y z d sk)) (cond (((amH m m)&&true)||false) (some (Out.of (.agg (fc W H x y z d sk (.sl 1 m λ q=>[iA (h q)]))))) none))))))
theorem aE5:Q6 bO (M0 pf tf) [Kg rf,vcK vf] [] (eZ 3 (fF JN [some 0,some 1] (foN n hs W H x y z d sk) (.exit 0) (foS n hs W H x y z d sk i m h))) (Ay 6 (yQ 2)) aKs [sI n hs,iA 4,iA 3] ret=foW n hs pf tf rf vf W H x y z d sk m h:=by kernel_rfl
end
theorem aE6{m:Nat}(h:m<=1000):aq8 m=true:=by unfold aq8;rw[agl (ND m),agl (show(m+1)*8<=140737488355328 by omega)];rfl
theorem VT{n:Nat}{hs:Nat->Int}(h:Nf n hs):∃F:Fm.Fd,(∃w l,Fm.mQ F w l)/\aj bO 43 [sI n hs,iA 4,iA 3] (.agg F.c):=by
 have h':∀i,i<n->-9223372036854775808<=hs i/\hs i<=9223372036854775807:=h;have C:∀k m:Int,0<=k->0<m->0<=dD (dL n hs k) m/\dD (dL n hs k) m<m:=λ k m j hm=>jc (fU h' j).1 (fU h' j).2 hm;have r1:=C 4 3 (by decide) (by decide);have r2:=C (aH (4+1)) 3 (by decide) (by decide)
 obtain⟨N,o,h1,h2⟩:∃N:Nat,aH (dm dD (dL n hs) 4*dm dD (dL n hs) (aH (4+1)))=(N:Int)/\1<=N/\N<=16:=by
  unfold dm;generalize dD (dL n hs 4) 3=a at r1 ⊢;generalize dD (dL n hs (aH (4+1))) 3=b at r2 ⊢;have J:a=0\/a=1\/a=2:=by omega
  have Z:b=0\/b=1\/b=2:=by omega
  rcases J with rfl |rfl |rfl<;>rcases Z with rfl |rfl |rfl<;>first |exact⟨4,by decide,by decide,by decide⟩ |exact⟨6,by decide,by decide,by decide⟩ |exact⟨8,by decide,by decide,by decide⟩ |exact⟨9,by decide,by decide,by decide⟩ |exact⟨12,by decide,by decide,by decide⟩ |exact⟨16,by decide,by decide,by decide⟩
 generalize hW:dm dD (dL n hs) 4=W at o;generalize hH:dm dD (dL n hs) (aH (4+1))=H at o;generalize hx:pQ n hs (aH (4+2)) 3000 0=x;generalize hy:pQ n hs (aH (4+2)) 3000 1=y;generalize hz:pQ n hs (aH (4+2)) 3000 2=z;generalize hd:bU (aH (300+dD (dL n hs (aH (4+5))) 1500))=d;generalize j:dD (dL n hs (aH (4+6))) 3=sk;have E:∀k:Nat,k<=100->0<=aH (aH (4+7)+(k:Int)):=λ k j=>by rw[show aH (4+7)=11 by decide,aO];omega
 have I:bH bO (.loop (av aKs 0)) (foN n hs W H x y z d sk) (.exit 0) (foS n hs W H x y z d sk (N:Nat) N λ q=>hgV dD (dL n hs) (q:Nat)):=by
  refine aP (λ k=>match k with | 0=>foN n hs W H x y z d sk |k+1=>foS n hs W H x y z d sk ((k+1:Nat):Int) (k+1) λ q=>hgV dD (dL n hs) (q:Nat)) N (.exit 0) _ (by simp) (λ k j=>?_) ?_
  .cases k with
   |zero =>
    have Y:bH bO (av aKs 0) (foN n hs W H x y z d sk) .normal (foE n hs W H x y z d sk ((0+1:Nat):Int) 1 (λ q=>bM (Tv q 0) [] [iA (hgV dD (dL n hs) 0)])):=by refine aK (bB _ _) Jw (au aG ay) aC ((aoF n hs dD (dL n hs) W H x y z d sk).trans ?_);rw[o,gG (show(0:Int)<(N:Nat) by omega),aY];exact dO (by decide)
    refine Y.sub (Sub.refl _) (gZ ⟨wV rfl,wV rfl,Gc (wV ⟨3,1,1,_,_,rfl,rfl,λ q hq=>?_⟩),trivial⟩);obtain rfl:q=0:=aKd.1 hq;exact mY rfl
   |succ k =>
    have Y:bH bO (av aKs 0) (foS n hs W H x y z d sk ((k+1:Nat):Int) (k+1) λ q=>hgV dD (dL n hs) (q:Nat)) .normal (foE n hs W H x y z d sk ((k+1+1:Nat):Int) (k+1+1) (λ q=>bM (Tv q (k+1)) [iA (hgV dD (dL n hs) (q:Nat))] [iA (hgV dD (dL n hs) ((k+1:Nat):Int))])):=by refine aK (bB _ _) Jw (au aG ay) aC ((atO n hs dD (dL n hs) W H x y z d sk ((k+1:Nat):Int) (k+1) λ q=>hgV dD (dL n hs) (q:Nat)).trans ?_);rw[o,bI j,aY,dO (E _ (by omega)),aE6 (by omega),aQ (n:=k+1) (by omega)];rfl
    refine Y.sub (Sub.refl _) (gZ ⟨wV rfl,wV rfl,Gc (wV ⟨3,1,k+1+1,_,_,rfl,rfl,λ q hq=>mY ?_⟩),trivial⟩);rw[af6];cases Z:Tv q (k+1)
    .have:=jM Z;obtain rfl:q=k+1:=by omega
     rfl
    .rfl
  .obtain⟨k,rfl⟩:∃k,N=k+1:=⟨N - 1,by omega⟩;refine aK (dB _ _) Jw (au aG ay) aC ((aAK n hs dD (dL n hs) W H x y z d sk ((k+1:Nat):Int) (k+1) λ q=>hgV dD (dL n hs) (q:Nat)).trans ?_);rw[o,bJ,eU]
 have U:∃w l,Fm.mQ ⟨W,H,ls [x,y,z],d,N,λ q=>hgV dD (dL n hs) (q:Nat),sk⟩ w l:=by
  have M:W=2\/W=3\/W=4:=by
   rw[<-hW];unfold dm;generalize dD (dL n hs 4) 3=a at r1 ⊢;have J:a=0\/a=1\/a=2:=by omega
   rcases J with rfl |rfl |rfl<;>decide
  have Q:H=2\/H=3\/H=4:=by
   rw[<-hH];unfold dm;generalize dD (dL n hs (aH (4+1))) 3=a at r2 ⊢;have J:a=0\/a=1\/a=2:=by omega
   rcases J with rfl |rfl |rfl<;>decide
  have hN2:(N:Int)=W*H:=by rw[<-o];rcases M with rfl |rfl |rfl<;>rcases Q with rfl |rfl |rfl<;>decide
  obtain⟨q0,e0,l0⟩:=rG h (fr:=aH (4+2)) (by decide) (by decide) (mo:=3000) (by decide) (by decide) 0 (by decide);obtain⟨q1,e1,l1⟩:=rG h (fr:=aH (4+2)) (by decide) (by decide) (mo:=3000) (by decide) (by decide) 1 (by decide);obtain⟨q2,e2,l2⟩:=rG h (fr:=aH (4+2)) (by decide) (by decide) (mo:=3000) (by decide) (by decide) 2 (by decide);have rd:=C (aH (4+5)) 1500 (by decide) (by decide);have rk:=C (aH (4+6)) 3 (by decide) (by decide)
  have ed:d=bU (300+dD (dL n hs (aH (4+5))) 1500):=by rw[<-hd];generalize dD (dL n hs (aH (4+5))) 1500=a at rd ⊢;rw[aO]
  refine GH M Q hN2 (hx.symm.trans e0) (hy.symm.trans e1) (hz.symm.trans e2) (by omega) (by omega) (by omega) ed (by omega) (by omega) (by omega) (by omega) λ q hq=>?_;have rh:=C (aH (aH (4+7)+(q:Int))) 2000 (E q (by omega)) (by decide);unfold hgV;generalize dD (dL n hs (aH (aH (4+7)+(q:Int)))) 2000=a at rh ⊢;rw[aO];omega
 refine⟨⟨W,H,ls [x,y,z],d,N,λ q=>hgV dD (dL n hs) (q:Nat),sk⟩,U,So.oP (jJ (jm 2)) wP (au aG (au aG ay)) aV Tryz.func43 (gq 0 1 (aS I)) ((aE5 n hs dD bU (dL n hs) (pQ n hs) W H x y z d sk (N:Nat) N λ q=>hgV dD (dL n hs) (q:Nat)).trans ?_)⟩;unfold foW;rw[dO (by decide),dO (by decide),sD (by decide) (by decide) (Gc (wV rfl)),dO (by decide),dO (by decide),hW,hH,hx,hy,hz,hd,j,ak (Sub.refl _),show amH N N=true from aIC N];rfl
theorem QX{n:Nat}{hs:Nat->Int}(h:Nf n hs){N:Nat}(h1:1<=N)(h2:N<=25):∃S:Nat->FJ,(∀q,q<N->Tr.zQ (S q).k (S q).a (S q).sk)/\aj bO 41 [sI n hs,iA (N:Nat),iA 3] (.sl 13 N λ q=>(S q).c):=by
 have Q:∀f:Int,∃y:FJ,∀g:Nat,f=(g:Nat)->g<=400->Tr.zQ y.k y.a y.sk/\aj bO 85 [sI n hs,iA (g:Nat),iA 3] (.agg y.c):=λ f=>by
  by_cases hf:0<=f/\f<=400
  .obtain⟨k,a,sk,U,E⟩:=So.T3.abR h (f:=f.toNat) (by omega);refine⟨⟨k,a,sk⟩,λ g Z _=>?_⟩;have:f.toNat=g:=by omega
   subst this;exact⟨U,E⟩
  .exact⟨⟨0,λ _=>0,0⟩,λ g Z Y=>absurd ⟨by omega,by omega⟩ hf⟩
 obtain⟨G,M⟩:=aIt Q
 have j:∀k:Nat,k<=25->∀o,shO n hs G (aH (13*(k:Int))) o=o:=λ k E o=>by
  have e:aH (13*(k:Int))=((13*k:Nat):Int):=by rw[aO];omega
  unfold shO;rw[e];exact ak (M _ (13*k) rfl (by omega)).2
 have C:bH bO (.loop (av aJZ 0)) (shN n hs (N:Nat)) (.exit 0) (shS n hs (N:Nat) (N:Nat) N λ q=>G (aH (13*((q:Nat):Int)))):=by
  refine aP (λ k=>match k with | 0=>shN n hs (N:Nat) |k+1=>shS n hs (N:Nat) ((k+1:Nat):Int) (k+1) λ q=>G (aH (13*((q:Nat):Int)))) N (.exit 0) _ (by simp) (λ k E=>?_) ?_
  .cases k with
   |zero =>
    have J:bH bO (av aJZ 0) (shN n hs (N:Nat)) .normal (shE n hs (N:Nat) ((0+1:Nat):Int) 1 (λ q=>bM (Tv q 0) [] (G (aH (13*0))).c)):=by refine aK (bB _ _) aB aoE aC ((aoG n hs G (N:Nat)).trans ?_);rw[gG (show(0:Int)<(N:Nat) by omega),aY];exact j 0 (by decide) _
    refine J.sub (Sub.refl _) (gZ ⟨Gc (wV ⟨73,13,1,_,_,rfl,rfl,λ q hq=>?_⟩),trivial⟩);obtain rfl:q=0:=aKd.1 hq;exact mY rfl
   |succ k =>
    have J:bH bO (av aJZ 0) (shS n hs (N:Nat) ((k+1:Nat):Int) (k+1) λ q=>G (aH (13*((q:Nat):Int)))) .normal (shE n hs (N:Nat) ((k+1+1:Nat):Int) (k+1+1) (λ q=>bM (Tv q (k+1)) (G (aH (13*((q:Nat):Int)))).c (G (aH (13*((k+1:Nat):Int)))).c)):=by refine aK (bB _ _) aB aoE aC ((adP n hs G (N:Nat) ((k+1:Nat):Int) (k+1) λ q=>G (aH (13*((q:Nat):Int)))).trans ?_);rw[bI E,aY,j _ (by omega),yB (by omega),aQ (n:=k+1) (by omega)];rfl
    refine J.sub (Sub.refl _) (gZ ⟨Gc (wV ⟨73,13,k+1+1,_,_,rfl,rfl,λ q hq=>mY ?_⟩),trivial⟩);rw[aEA];cases hb:Tv q (k+1)
    .have:=jM hb;obtain rfl:q=k+1:=by omega
     rfl
    .rfl
  .obtain⟨k,rfl⟩:∃k,N=k+1:=⟨N - 1,by omega⟩;refine aK (dB _ _) aB aoE aC ((aix n hs G ((k+1:Nat):Int) ((k+1:Nat):Int) (k+1) λ q=>G (aH (13*((q:Nat):Int)))).trans ?_);rw[bJ,eU]
 have I:∀q,q<N->Tr.zQ (G (aH (13*((q:Nat):Int)))).k (G (aH (13*((q:Nat):Int)))).a (G (aH (13*((q:Nat):Int)))).sk:=λ q hq=>by
  have e:aH (13*(q:Int))=((13*q:Nat):Int):=by rw[aO];omega
  rw[e];exact(M _ (13*q) rfl (by omega)).1
 refine⟨λ q=>G (aH (13*((q:Nat):Int))),I,aj.Dx (aR aB ay aOo (gq 0 1 (aS C)) ((aoH n hs (N:Nat) (N:Nat) N λ q=>G (aH (13*((q:Nat):Int)))).trans (ak (Sub.refl _)))) λ _ _ hr=>?_⟩;exact ql hr λ q _=>by rw[ZO]
abbrev vP:AV:=.x (.slice none 0 0)
def scW(a b c d e:AV)(u v w:Int)(x y r:Nat):List AV:=[a,b,c,d,e,iA u,iA v,iA w,.f x,.f y,.f 13842939354630062080,.f 0,.f 0,.f 0,.f 0,.f 4607182418800017408,.f 0,.f r]
def soG(G:Int->Iq):List AV->AV
 | [_,.x (.int .i64 f),_]=>.agg (G f).c
 |_=>.any
section
variable(n:Nat)(hs:Nat->Int)(pf:Int->Int->Int)(tf:Int->Nat)(rf:Int->Int)(vf:Int->Int->Nat->Nat)(G:Int->Iq)(N:Int)(x y r:Nat)(u v w:Int)(i:Int)(m l:Nat)(el uL:Nat->List AV)(K:Nat->Nat->Int)(A:Nat->Nat->Nat)(L:Nat->Nat->Int)(s:AV)(O:Nat->Iq)
def c1E:St:=mkS 169 [(0,sI n hs),(1,iA N),(4,.own 0 0),(5,.own 1 0),(6,iA i)] [.c zS,.c (scW vP vP vP (.bQ 2 10 0 m) vP 0 0 0 x y r),.a 108 10 m el]
def c1S:St:=c1E n hs N x y r i m λ q=>skC (K q)
def acJ:List Nat:=[0,1,4,5,6]
noncomputable def Vt(c:Int)(o:Option Out):Option Out:=gR n hs rf (aH (aH (11+aH (3*i))+c)) (gR n hs rf (aH (aH (12+aH (2*i))+c)) (gR n hs rf (aH (aH (13+aH (5*i))+c)) o))
def skN(q:Nat):Int:=match q with
 | 0=>pf (rf (aH (aH (11+aH (3*i))+0))) 401
 | 1=>pf (rf (aH (aH (11+aH (3*i))+1))) 401
 | 2=>pf (rf (aH (aH (11+aH (3*i))+2))) 401
 | 3=>aH (pf (rf (aH (aH (12+aH (2*i))+0))) 301*i.tmod 2)
 | 4=>aH (pf (rf (aH (aH (12+aH (2*i))+1))) 301*i.tmod 2)
 | 5=>aH (pf (rf (aH (aH (12+aH (2*i))+2))) 301*i.tmod 2)
 | 6=>aH (pf (rf (aH (aH (13+aH (5*i))+0))) 301*aH (i.tdiv 2))
 | 7=>aH (pf (rf (aH (aH (13+aH (5*i))+1))) 301*aH (i.tdiv 2))
 | 8=>aH (pf (rf (aH (aH (13+aH (5*i))+2))) 301*aH (i.tdiv 2))
 |_=>aH (700+pf (rf (aH (6+i))) 1500)
noncomputable def c1C(o j:Option Out):Option Out:=cond (decide (i<3)) (gR n hs rf (aH (6+i)) (Vt n hs rf i 0 (Vt n hs rf i 1 (Vt n hs rf i 2 (cond (Qz m 80||false) o none))))) j
theorem arO:jR bO (M0 pf tf) [Kg rf] bC (av aIy 0) (c1S n hs N x y r i m K) (gu acJ [some 0,some 1,some 5])=c1C n hs rf i m (some ⟨.normal,c1E n hs N x y r (aH (i+1)) (m+1) (λ q=>bM (Tv q m) (skC (K q)) (skC (skN pf rf i))),.any⟩) none:=by kernel_rfl
theorem ayK:jR bO (M0 pf tf) [Kg rf] bC (av aIy 0) (c1S n hs N x y r i m K) (iG acJ [some 0,some 1,some 2])=c1C n hs rf i m none (some ⟨.exit 0,c1S n hs N x y r i m K,.any⟩):=by kernel_rfl
def c3E:St:=mkS 169 [(0,sI n hs),(1,iA N),(4,.own 0 0),(5,.own 1 0),(9,iA i)] [.c zS,.c (scW vP vP vP (.bQ 2 10 0 3) (.bQ 3 6 0 m) 0 0 0 x y r),.a 108 10 3 λ q=>skC (K q),.a 110 6 m el]
def c3S:St:=c3E n hs N x y r i m (λ q=>lmC (A q) (L q)) K
def acK:List Nat:=[0,1,4,5,9]
def lpN(c:Int):Int:=pf (aH (rf (aH (aH (21+i)+c))*977)) 65537
def lmN:List AV:=[.f (vf (aH (17+aH (4*i))) 6000 0),.f (vf (aH (17+aH (4*i))) 6000 1),.f (vf (aH (17+aH (4*i))) 6000 2),iA (lpN pf rf i 0),iA (lpN pf rf i 1),iA (lpN pf rf i 2)]
noncomputable def c3C(o j:Option Out):Option Out:=gR n hs rf 1 (cond (decide (i<pf (rf 1) 3)) (gV n hs vf (aH (17+aH (4*i))) 6000 (gR n hs rf (aH (aH (21+i)+0)) (gR n hs rf (aH (aH (21+i)+1)) (gR n hs rf (aH (aH (21+i)+2)) (cond (Qz m 48||false) o none))))) j)
theorem arP:jR bO (M0 pf tf) [Kg rf,vcK vf] bC (av aIy 2) (c3S n hs N x y r i m K A L) (gu acK [some 0,some 1,some 2,some 6])=c3C n hs pf rf vf i m (some ⟨.normal,c3E n hs N x y r (aH (i+1)) (m+1) (λ q=>bM (Tv q m) (lmC (A q) (L q)) (lmN pf rf vf i)) K,.any⟩) none:=by kernel_rfl
theorem ayL:jR bO (M0 pf tf) [Kg rf,vcK vf] bC (av aIy 2) (c3S n hs N x y r i m K A L) (iG acK [some 0,some 1,some 2,some 3])=c3C n hs pf rf vf i m none (some ⟨.exit 4,c3S n hs N x y r i m K A L,.any⟩):=by kernel_rfl
def c6E:St:=mkS 169 [(0,sI n hs),(1,iA N),(4,.own 0 0),(5,.own 1 0),(13,iA i)] [.c zS,.c (scW s (.bQ 4 2 0 m) vP (.bQ 2 10 0 3) (.bQ 3 6 0 l) u v w x y r),.a 108 10 3 λ q=>skC (K q),.a 110 6 l λ q=>lmC (A q) (L q),.a 77 2 m el]
def c6S(S:Nat->FJ)(NS:Nat):St:=c6E n hs N x y r u v w i m l (λ q=>(O q).c) K A L (.sl 13 NS λ q=>(S q).c)
def acL:List Nat:=[0,1,4,5,13]
noncomputable def c6C(o j:Option Out):Option Out:=gR n hs rf 9 (cond (decide (i<pf (rf 9) 3)) (gate (aj bO 42 [sI n hs,iA (aH (5+aH (7*i))),iA 3] (.agg (G (aH (5+aH (7*i)))).c)) (cond ((Qz m 32||false)&&true) o none)) j)
theorem arQ(S:Nat->FJ)(NS:Nat):jR bO (M0 pf tf) [Kg rf,kS bO 42 (soG G)] bC (av aIy 5) (c6S n hs N x y r u v w i m l K A L O S NS) (gu acL [some 0,some 1,some 2,some 3,some 6])=c6C n hs pf rf G i m (some ⟨.normal,c6E n hs N x y r u v w (aH (i+1)) (m+1) l (λ q=>bM (Tv q m) (O q).c (G (aH (5+aH (7*i)))).c) K A L (.sl 13 NS λ q=>(S q).c),.any⟩) none:=by kernel_rfl
theorem ayM(S:Nat->FJ)(NS:Nat):jR bO (M0 pf tf) [Kg rf,kS bO 42 (soG G)] bC (av aIy 5) (c6S n hs N x y r u v w i m l K A L O S NS) (iG acL [some 0,some 1,some 2,some 3,some 4])=c6C n hs pf rf G i m none (some ⟨.exit 10,c6S n hs N x y r u v w i m l K A L O S NS,.any⟩):=by kernel_rfl
end
end Go.Proofs.YtdlhemnconimnaaGreat.Hs.Sc
namespace Go.Gv
def amz(k:Nat):kH:=λ s j=>match s.mem[k]? with
 |some (.a _ _ _ _)=>yQ k s j
 |_=>j s
theorem amA(k:Nat):gD 0 (amz k):=λ s j r h=>by
 unfold amz at h;split at h
 .exact jm k s j r h
 .exact⟨s,h,Sub.refl s⟩
end Go.Gv
namespace Go.Proofs.YtdlhemnconimnaaGreat.Hs.Sc
open Go.Gv So Fm
open Go.Ev (cn aM aU aX fdiv bD dG dR dN iB bW iL fabs)
section
variable(n:Nat)(hs:Nat->Int)(pf:Int->Int->Int)(tf:Int->Nat)(rf:Int->Int)(vf:Int->Int->Nat->Nat)(mf:Int->Int->Nat)(G:Int->Iq)(F:Fm.Fd)(N:Int)(NL NO:Nat)(K:Nat->Nat->Int)(A:Nat->Nat->Nat)(L:Nat->Nat->Int)(O:Nat->Iq)(S:Nat->FJ)(NS:Nat)
abbrev eX:Nat:=mf (rf 3) 2000
abbrev Ah:Nat:=mf (rf 4) 2000
abbrev eW:Nat:=tf (aH (500+pf (rf 5) 1500))
abbrev Cw(c:Int):Int:=pf (aH (rf (aH (2+c))*661)) 65537
noncomputable def scL:Nat->Option dY:=O8 [(3,F3 acJ 1 [(3,2,10)] (.a 108 10 0 λ q=>skC (K q)) [some 0,some 1,none] (c1S n hs N (eX rf mf) (Ah rf mf) (eW pf tf rf) 0 0 K) (.exit 0) (c1S n hs N (eX rf mf) (Ah rf mf) (eW pf tf rf) 3 3 K)),
 (14,F3 acK 1 [(4,3,6)] (.a 110 6 0 λ q=>lmC (A q) (L q)) [some 0,some 1,some 2,none] (c3S n hs N (eX rf mf) (Ah rf mf) (eW pf tf rf) 0 0 K A L) (.exit 4) (c3S n hs N (eX rf mf) (Ah rf mf) (eW pf tf rf) NL NL K A L)),
 (28,F3 acL 1 [(1,4,2)] (.a 77 2 0 λ q=>(O q).c) [some 0,some 1,some 2,some 3,none] (c6S n hs N (eX rf mf) (Ah rf mf) (eW pf tf rf) (Cw pf rf 0) (Cw pf rf 1) (Cw pf rf 2) 0 0 NL K A L O S NS) (.exit 10) (c6S n hs N (eX rf mf) (Ah rf mf) (eW pf tf rf) (Cw pf rf 0) (Cw pf rf 1) (Cw pf rf 2) NO NO NL K A L O S NS))]
def scZ:Nat->Option kH:=λ j=>cond (amH j 33) (some (afo (yQ 2) (afo (yQ 3) (afo (yQ 4) (amz 6))))) none
noncomputable def scK:List bf:=[Kg rf,vcK vf,kS bO 19 (aDp mf),kS bO 41 (λ _=>.sl 13 NS λ q=>(S q).c),kS bO 43 (λ _=>.agg F.c)]
def scO(f:AV):Option Out:=cond (fzB NL) (cond (fzB NO) (some (Out.of (.agg (scW (.sl 13 NS λ q=>(S q).c) (.sl 2 NO λ q=>(O q).c) f (.sl 10 3 λ q=>skC (K q)) (.sl 6 NL λ q=>lmC (A q) (L q)) (Cw pf rf 0) (Cw pf rf 1) (Cw pf rf 2) (eX rf mf) (Ah rf mf) (eW pf tf rf))))) none) none
noncomputable def scX:Option Out:=gR n hs rf 3 (gMi mf (rf 3) 2000 (gR n hs rf 4 (gMi mf (rf 4) 2000 (gR n hs rf 5 (gate (Sub (c1S n hs N (eX rf mf) (Ah rf mf) (eW pf tf rf) 0 0 K) (c1S n hs N (eX rf mf) (Ah rf mf) (eW pf tf rf) 0 0 K)) (gate (Sub (c3S n hs N (eX rf mf) (Ah rf mf) (eW pf tf rf) 0 0 K A L) (c3S n hs N (eX rf mf) (Ah rf mf) (eW pf tf rf) 0 0 K A L)) (gR n hs rf (aH (2+0)) (gR n hs rf (aH (2+1)) (gR n hs rf (aH (2+2)) (gate (aj bO 41 [sI n hs,iA N,iA 3] (.sl 13 NS λ q=>(S q).c)) (gate (Sub (c6S n hs N (eX rf mf) (Ah rf mf) (eW pf tf rf) (Cw pf rf 0) (Cw pf rf 1) (Cw pf rf 2) 0 0 NL K A L O S NS) (c6S n hs N (eX rf mf) (Ah rf mf) (eW pf tf rf) (Cw pf rf 0) (Cw pf rf 1) (Cw pf rf 2) 0 0 NL K A L O S NS)) (gR n hs rf 8 (cond (pf (rf 8) 3==0) (gate (aj bO 43 [sI n hs,iA 4,iA 3] (.agg F.c)) (scO pf tf rf mf NL NO K A L O S NS (.sl 8 1 λ q=>bM (Tv q 0) [] F.c))) (scO pf tf rf mf NL NO K A L O S NS vP))))))))))))))
theorem aDq:Q6 bO (M0 pf tf) (scK rf vf mf F S NS) [] (scL n hs pf tf rf mf N NL NO K A L O S NS) scZ aIy [sI n hs,iA N] ret=scX n hs pf tf rf mf F N NL NO K A L O S NS:=by kernel_rfl
theorem arN(c:Int):ev bO (M0 pf tf) [] bC Tryz.f19 [iA c,iA 2000] ret=some (Out.of (.f (WM pf tf c 2000))):=by kernel_rfl
end
theorem afp(c:Int):aj bO 19 [iA c,iA 2000] (.f (WM dD bU c 2000)):=aR wP ay Tryz.func19 aC (arN dD bU c)
theorem ayI:∀i h,scZ i=some h->gD 0 h:=λ i h e=>by
 unfold scZ at e;cases j:amH i 33
 .rw[j]at e;cases e
 .rw[j,aY]at e;cases e;exact O9 (jm 2) (O9 (jm 3) (O9 (jm 4) (amA 6)))
section
variable{n:Nat}{hs:Nat->Int}{N:Int}{x y r:Nat}
theorem p2{a b c:Int}{k:Nat}(ha:0<=a)(E:a<=100)(C:0<=b)(j:b<=10)(J:0<=c)(o:c<=10)(I:k<=10):0<=aH (aH (a+aH (b*(k:Int)))+c):=by
 have M:0<=b*(k:Int)/\b*(k:Int)<=100:=by refine⟨Int.mul_nonneg C (by omega),?_⟩;have:b*(k:Int)<=10*10:=Int.mul_le_mul j (by omega) (by omega) (by decide);omega
 rw[aO (n:=b*(k:Int)),aO (n:=a+b*(k:Int)),aO];omega
theorem aDr(b:Bool)(k j:Nat->Int):bM b (skC k) (skC j)=skC (cond b k j):=by cases b<;>rfl
theorem aDs(b:Bool)(a c:Nat->Nat)(k j:Nat->Int):bM b (lmC a k) (lmC c j)=lmC (cond b a c) (cond b k j):=by cases b<;>rfl
theorem ayJ(b:Bool)(a c:Iq):bM b a.c c.c=(cond b a c).c:=by cases b<;>rfl
theorem amB:bH bO (.loop (av aIy 0)) (c1S n hs N x y r 0 0 λ q=>skN dD (dL n hs) (q:Nat)) (.exit 0) (c1S n hs N x y r 3 3 λ q=>skN dD (dL n hs) (q:Nat)):=by
 refine aP (λ k=>c1S n hs N x y r (k:Nat) k λ q=>skN dD (dL n hs) (q:Nat)) 3 (.exit 0) _ (by simp) (λ k C=>?_) ?_
 .have j:bH bO (av aIy 0) (c1S n hs N x y r (k:Nat) k λ q=>skN dD (dL n hs) (q:Nat)) .normal (c1E n hs N x y r ((k+1:Nat):Int) (k+1) (λ q=>bM (Tv q k) (skC (skN dD (dL n hs) (q:Nat))) (skC (skN dD (dL n hs) (k:Nat))))):=by
   refine aK (bB _ _) wP (au aG ay) aC ((arO n hs dD bU (dL n hs) N x y r (k:Nat) k λ q=>skN dD (dL n hs) (q:Nat)).trans ?_);unfold c1C Vt;rw[gG (show((k:Nat):Int)<3 by omega),aY,dO (show 0<=aH (6+(k:Int)) by rw[aO];omega)]
   iterate 3 rw[dO (p2 (by decide) (by decide) (by decide) (by decide) (by decide) (by decide) (by omega)),dO (p2 (by decide) (by decide) (by decide) (by decide) (by decide) (by decide) (by omega)),dO (p2 (by decide) (by decide) (by decide) (by decide) (by decide) (by decide) (by omega))]
   rw[yB (by omega),aQ (n:=k) (by omega)];rfl
  refine j.sub (Sub.refl _) (gZ ⟨wV rfl,wV rfl,Gc (wV ⟨108,10,k+1,_,_,rfl,rfl,λ q hq=>mY ?_⟩),trivial⟩);rw[aDr];cases o:Tv q k
  .have:=jM o;obtain rfl:q=k:=by omega
   rfl
  .rfl
 .exact aK (dB _ _) wP (au aG ay) aC ((ayK n hs dD bU (dL n hs) N x y r ((3:Nat):Int) 3 λ q=>skN dD (dL n hs) (q:Nat)).trans rfl)
theorem amC{NL:Nat}(K:Nat->Nat->Int)(o:dD (dL n hs 1) 3=(NL:Nat))(J:NL<=3):bH bO (.loop (av aIy 2)) (c3S n hs N x y r 0 0 K (λ q=>pQ n hs (aH (17+aH (4*(q:Int)))) 6000) λ q c=>lpN dD (dL n hs) (q:Nat) (c:Nat)) (.exit 4) (c3S n hs N x y r NL NL K (λ q=>pQ n hs (aH (17+aH (4*(q:Int)))) 6000) λ q c=>lpN dD (dL n hs) (q:Nat) (c:Nat)):=by
 refine aP (λ k=>c3S n hs N x y r (k:Nat) k K (λ q=>pQ n hs (aH (17+aH (4*(q:Int)))) 6000) λ q c=>lpN dD (dL n hs) (q:Nat) (c:Nat)) NL (.exit 4) _ (by simp) (λ k E=>?_) ?_
 .have e:aH (17+aH (4*(k:Int)))=17+4*(k:Int):=by rw[aO (n:=4*(k:Int)),aO]
  have j:∀c:Int,0<=c->c<=2->0<=aH (aH (21+(k:Int))+c):=λ c Q M=>by rw[aO (n:=21+(k:Int)),aO];omega
  have C:bH bO (av aIy 2) (c3S n hs N x y r (k:Nat) k K (λ q=>pQ n hs (aH (17+aH (4*(q:Int)))) 6000) λ q c=>lpN dD (dL n hs) (q:Nat) (c:Nat)) .normal (c3E n hs N x y r ((k+1:Nat):Int) (k+1) (λ q=>bM (Tv q k) (lmC (pQ n hs (aH (17+aH (4*(q:Int)))) 6000) λ c=>lpN dD (dL n hs) (q:Nat) (c:Nat)) (lmC (pQ n hs (aH (17+aH (4*(k:Int)))) 6000) λ c=>lpN dD (dL n hs) (k:Nat) (c:Nat))) K):=by refine aK (bB _ _) wP (au aG (au aG ay)) aC ((arP n hs dD bU (dL n hs) (pQ n hs) N x y r (k:Nat) k K (λ q=>pQ n hs (aH (17+aH (4*(q:Int)))) 6000) λ q c=>lpN dD (dL n hs) (q:Nat) (c:Nat)).trans ?_);unfold c3C;rw[dO (by decide),o,bI E,aY,sD (by rw[e];omega) (by rw[e];omega) (Gc (Gc (wV rfl))),dO (j 0 (by decide) (by decide)),dO (j 1 (by decide) (by decide)),dO (j 2 (by decide) (by decide)),yB (by omega),aQ (n:=k) (by omega)];rfl
  refine C.sub (Sub.refl _) (gZ ⟨wV rfl,wV rfl,wV rfl,Gc (wV ⟨110,6,k+1,_,_,rfl,rfl,λ q hq=>mY ?_⟩),trivial⟩);rw[aDs];cases I:Tv q k
  .have:=jM I;obtain rfl:q=k:=by omega
   rfl
  .rfl
 .refine aK (dB _ _) wP (au aG (au aG ay)) aC ((ayL n hs dD bU (dL n hs) (pQ n hs) N x y r (NL:Nat) NL K (λ q=>pQ n hs (aH (17+aH (4*(q:Int)))) 6000) λ q c=>lpN dD (dL n hs) (q:Nat) (c:Nat)).trans ?_);unfold c3C;rw[dO (by decide),o,bJ,eU]
theorem amD{G:Int->Iq}(J:∀F:Nat,F<=50->aj bO 42 [sI n hs,iA (F:Nat),iA 3] (.agg (G (F:Nat)).c)){NO:Nat}(u v w:Int)(l:Nat)(K:Nat->Nat->Int)(A:Nat->Nat->Nat)(L:Nat->Nat->Int)(S:Nat->FJ)(NS:Nat)(o:dD (dL n hs 9) 3=(NO:Nat))(M:NO<=3):bH bO (.loop (av aIy 5)) (c6S n hs N x y r u v w 0 0 l K A L (λ q=>G (aH (5+aH (7*(q:Int))))) S NS) (.exit 10) (c6S n hs N x y r u v w NO NO l K A L (λ q=>G (aH (5+aH (7*(q:Int))))) S NS):=by
 refine aP (λ k=>c6S n hs N x y r u v w (k:Nat) k l K A L (λ q=>G (aH (5+aH (7*(q:Int))))) S NS) NO (.exit 10) _ (by simp) (λ k E=>?_) ?_
 .have e:aH (5+aH (7*(k:Int)))=((5+7*k:Nat):Int):=by rw[aO (n:=7*(k:Int)),aO];omega
  have j:aj bO 42 [sI n hs,iA (aH (5+aH (7*(k:Int)))),iA 3] (.agg (G (aH (5+aH (7*(k:Int))))).c):=by rw[e];exact J _ (by omega)
  have C:bH bO (av aIy 5) (c6S n hs N x y r u v w (k:Nat) k l K A L (λ q=>G (aH (5+aH (7*(q:Int))))) S NS) .normal (c6E n hs N x y r u v w ((k+1:Nat):Int) (k+1) l (λ q=>bM (Tv q k) (G (aH (5+aH (7*(q:Int))))).c (G (aH (5+aH (7*(k:Int))))).c) K A L (.sl 13 NS λ q=>(S q).c)):=by refine aK (bB _ _) wP (au aG (au aG ay)) aC ((arQ n hs dD bU (dL n hs) G N x y r u v w (k:Nat) k l K A L (λ q=>G (aH (5+aH (7*(q:Int))))) S NS).trans ?_);unfold c6C;rw[dO (by decide),o,bI E,aY,ak j,yB (by omega),aQ (n:=k) (by omega)];rfl
  refine C.sub (Sub.refl _) (gZ ⟨wV rfl,wV rfl,wV rfl,wV rfl,Gc (wV ⟨77,2,k+1,_,_,rfl,rfl,λ q hq=>mY ?_⟩),trivial⟩);rw[ayJ];cases I:Tv q k
  .have:=jM I;obtain rfl:q=k:=by omega
   rfl
  .rfl
 .refine aK (dB _ _) wP (au aG (au aG ay)) aC ((ayM n hs dD bU (dL n hs) G N x y r u v w (NO:Nat) NO l K A L (λ q=>G (aH (5+aH (7*(q:Int))))) S NS).trans ?_);unfold c6C;rw[dO (by decide),o,bJ,eU]
end
end Go.Proofs.YtdlhemnconimnaaGreat.Hs.Sc
namespace Go.Proofs.YtdlhemnconimnaaGreat.Hs.So
open Go.Gv
open Go.Ev (cn aM aU aX fdiv bD dG dR dN iB bW iL fabs VB key aF isFin val bS cZ dU)
theorem aaR{n:Nat}{hs:Nat->Int}(h:Nf n hs)(hn:n<=512){f:Nat}(hf:f<=100):∃k a sk,aj bO 86 [sI n hs,iA (f:Nat)] (SH k a sk)/\Mk k a sk:=by
 have hr:=AR h (f+1) f (by omega);have e3:=jc (m:=3) hr.1 hr.2 (by decide);have e3:dD (QH n hs f) 3=0\/dD (QH n hs f) 3=1\/dD (QH n hs f) 3=2:=by omega
 by_cases h0:0<n
 .have U:lfG n=true:=by unfold lfG;rw[iU h0,El (λ _ _=>rfl),agl (show(0+n)*8<=140737488355328 by omega)];rfl
  have J:=gq (c:=dH aHZ) (i:=2) 0 1 (aS (keep:=nW) (τ:=[some 0,some 2]) (ajx n hs hf));have Q:f+9<=n+(f+9 - n):=by omega
  rcases e3 with o |o |o
  .obtain⟨k,a,sk,I,C,j⟩:=Ed (AR h _) hf Q o (v:=0) (wV rfl);refine⟨k,I,sk,oP (jJ (jm 1)) FH (au aG (au aG (au aG ay))) aV aJB J ((avV n hs (f:Nat) _ _ k a sk jT).trans ?_),j⟩;rw[U,aY,ak NP,C]
  .obtain⟨k,a,sk,I,C,j⟩:=Ed (AR h _) hf Q o (v:=1) (Gc (wV rfl));refine⟨k,I,sk,oP (jJ (jm 1)) FH (au aG (au aG (au aG ay))) aV aJB J ((avW n hs (f:Nat) _ _ k a sk jT).trans ?_),j⟩;rw[U,aY,ak NP,C]
  .obtain⟨k,a,sk,I,C,j⟩:=Ed (AR h _) hf Q o (v:=4) (Gc (Gc rfl));refine⟨k,I,sk,oP (jJ (jm 1)) FH (au aG (au aG (au aG ay))) aV aJB J ((avX n hs (f:Nat) _ _ k a sk jT).trans ?_),j⟩;rw[U,aY,ak NP,C]
 .have e0:n=0:=by omega
  subst e0;have J:∀p c,yx bO (eZ 2 (fF nW [some 0,some 1] (zo (xE p c) (f:Nat) 0 (QH 0 hs)) (.exit 0) (zo (xE p c) (f:Nat) (f+9) (QH 0 hs)))) (dH aHZ):=λ p c=>gq (c:=dH aHZ) (i:=2) 0 1 (aS (keep:=nW) (τ:=[some 0,some 1]) (ajy p c hs hf))
  have key:∃k a sk,(∀p c,aj bO 86 [xE p c,iA (f:Nat)] (SH k a sk))/\Mk k a sk:=by
   rcases e3 with o |o |o
   .obtain⟨k,a,sk,I,C,j⟩:=Ed (AR h (f+9)) hf (ND _) o (v:=0) (wV rfl);refine⟨k,I,sk,λ p c=>oP (jJ (jm 1)) FH (au aG (au aG (au aG ay))) aV aJB (J p c) ((avY p c (f:Nat) _ _ k a sk jT).trans ?_),j⟩;rw[ak NQ,C]
   .obtain⟨k,a,sk,I,C,j⟩:=Ed (AR h (f+9)) hf (ND _) o (v:=1) (Gc (wV rfl));refine⟨k,I,sk,λ p c=>oP (jJ (jm 1)) FH (au aG (au aG (au aG ay))) aV aJB (J p c) ((avZ p c (f:Nat) _ _ k a sk jT).trans ?_),j⟩;rw[ak NQ,C]
   .obtain⟨k,a,sk,I,C,j⟩:=Ed (AR h (f+9)) hf (ND _) o (v:=4) (Gc (Gc rfl));refine⟨k,I,sk,λ p c=>oP (jJ (jm 1)) FH (au aG (au aG (au aG ay))) aV aJB (J p c) ((av0 p c (f:Nat) _ _ k a sk jT).trans ?_),j⟩;rw[ak NQ,C]
  obtain⟨k,a,sk,Y,j⟩:=key;refine⟨k,a,sk,aj.Uf (args':=[sI 0 hs,iA (f:Nat)]) (λ E us hr=>?_) (Y none 0).1 rfl,j⟩;obtain⟨u,M,e0,Z,hr⟩:=aD.1 hr;obtain⟨p,c,q1⟩:=zM Z;exact⟨[xE p c,iA (f:Nat)],aD.2 ⟨u,M,e0,q1,hr⟩,Y p c⟩
def aFo(PL:Nat->kC)(m:Nat):Prop:=∀q,q<m->Hw (PL q) (q:Nat)=0
theorem aBJ{p:kC}{i:Int}(j:p.op=1\/p.op=2\/p.op=3)(o:0<=p.l/\p.l<i)(hr:0<=p.r/\p.r<i):Hw p i=0:=by
 have n:nmB p.l p.r i=false:=by unfold nmB;rw[iH (show ¬p.l<0 by omega),iH (show ¬p.l≥i by omega),iH (show ¬p.r<0 by omega),iH (show ¬p.r≥i by omega)];rfl
 unfold Hw;rw[n];rcases j with e |e |e<;>rw[e]<;>rfl
theorem aBK{PL:Nat->kC}{m:Nat}(h:Gt (λ p=>p.op=0/\∀i,Hw p i=0) PL m):aFo PL m:=λ q hq=>by
 rcases h q hq with⟨_,h⟩ | ⟨I,E,C,o,j⟩
 .exact h _
 .exact aBJ I ⟨E,C⟩ ⟨o,j⟩
theorem aaS{n:Nat}{hs:Nat->Int}(h:Nf n hs)(o:n<=512){F:Nat}(hF:F<=50):∃m PL sk,1<=m/\m<=7/\Gt (λ p=>p.op=0/\∀i,Hw p i=0) PL m/\(0<=sk/\sk<3)/\aj bO 42 [sI n hs,iA (F:Nat),iA 3] (.agg (FI m PL sk)):=by
 obtain⟨m,PL,M,J,I,E⟩:=Ug h hF (LF:=λ p=>p.op=0/\∀i,Hw p i=0) λ f hf=>by obtain⟨k,a,sk,C,j⟩:=aaR h o hf;exact⟨k,a,sk,C,rfl,λ i=>apw j.1 j.2 i⟩
 have hr:=fU (n:=n) (hs:=hs) h (k:=(F:Nat)) (avq F);exact⟨m,PL,_,M,J,I,jc (m:=3) hr.1 hr.2 (by decide),E⟩
end Go.Proofs.YtdlhemnconimnaaGreat.Hs.So
namespace Go.Proofs.YtdlhemnconimnaaGreat.Tr
open Go.Gv Hs
open Go.Ev (cn aM aU aX fdiv bD dG dR dN iB bW iL fabs aF)
open Hs.So (kC pI FI GU soB sdk Sdk bxV agP Hw LQ N8 BF Vv Ai srE acX soS)
open Hs.Fm (yC pc Gy)
def Fe(F:Fm.Fd)(w q:Nat):AV:=(Th.si 3 (pc F w q) F.sk).v
def QT(F:Fm.Fd)(n:Nat)(tv:Nat->AV)(B:Nat->Nat->Nat)(rt:List AV):Th:=.gd F.W F.H (F.at_ 0) (F.at_ 1) (F.at_ 2) F.sd F.sk [gM n tv,lD n B,.ref rt 0]
structure Law(v:AV)(r:Nat->Nat)(h:kE × Bool):Prop where
 tri:∀a sk,v=(Th.si 3 a sk).v->h.2=true->e3 a sk=0/\dw (rV a) r=true
 si:∀k a sk,v=(Th.si k a sk).v->∃e,aj bO 45 [SH k a sk,RY r] (.bK [.f h.1.t,bA h.2,iA e])/\(zQ k a sk->gP r=0->e=0)
 bo:∀n e sk,v=(Th.bo n e sk).v->∃z,aj bO 46 [.agg [.sl 16 n e,iA sk],RY r] (.bK [.agg [.f h.1.t,iA h.1.p,bA h.1.u],bA h.2,iA z])/\(gP r=0->z=0)
 gd:∀F w l B rt,Fm.mQ F w l->v=(QT F (yC w l) (Fe F w) B rt).v->gP r=0->∃p,aj bO 47 [.agg F.c,RY r] (.bK [iA p,.f h.1.t,bA h.2,iA 0])/\(h.2=true->p=h.1.p)
structure VS(v:AV)(b:Nat->Nat):Prop where
 box:Bx b
 th:∃t:Th,v=t.v/\t.Bd b
 hit : ∀ r, ∃ h, rX bO "rayhouse/tree.strike" v [.agg (kW r)] (Cq h) /\ Jh b r h.1.t h.2 /\ Law v r h
theorem ads{k j:Int}{a o:Nat->Nat}{sk C:Int}(h:(Th.si k a sk).v=(Th.si j o C).v):SH k a sk=SH j o C:=by have h:AV.jd 123 (SH k a sk)=AV.jd 123 (SH j o C):=h;injection h
theorem aEx(a:Nat->Nat)(sk:Int):e3 a sk=e3 (ls [a 0,a 1,a 2,a 3,a 4,a 5,a 6,a 7,a 8,a 9,a 10]) sk:=by kernel_rfl
theorem anH(a:Nat->Nat):rV a=rV (ls [a 0,a 1,a 2,a 3,a 4,a 5,a 6,a 7,a 8,a 9,a 10]):=by kernel_rfl
theorem aEy{k C:Int}{a o:Nat->Nat}{sk ZH:Int}(h:SH k a sk=SH C o ZH):k=C/\e3 a sk=e3 o ZH/\rV a=rV o:=by
 unfold SH iA at h;simp only[AV.agg.injEq,List.cons.injEq,AV.x.injEq,Value.int.injEq,true_and,AV.f.injEq,and_true]at h;obtain⟨rfl,h0,h1,Z,Y,U,Q,M,J,I,E,j,rfl⟩:=h;refine⟨rfl,?_,?_⟩
 .rw[aEx a,aEx o,h0,h1,Z,Y,U,Q,M,J,I,E,j]
 .rw[anH a,anH o,h0,h1,Z,Y,U,Q,M,J,I,E,j]
theorem atb{k:Int}{a j:Nat->Nat}{sk o:Int}(h:SH k a sk=SH 3 j o)(C:zQ k a sk):e3 j o=0:=by
 obtain⟨rfl,E,_⟩:=aEy h;rw[<-E];rcases C with⟨e,_⟩ | ⟨e,_⟩ | ⟨_,h⟩ | ⟨e,_⟩ | ⟨e,_⟩ | ⟨e,_⟩
 .exact absurd e (by decide)
 .exact absurd e (by decide)
 .exact h
 .exact absurd e (by decide)
 .exact absurd e (by decide)
 .exact absurd e (by decide)
theorem adt{k:Int}{a:Nat->Nat}{sk:Int}{n:Nat}{e:Nat->List AV}{sn:Int}(h:(Th.si k a sk).v=(Th.bo n e sn).v):False:=by
 have h:AV.jd 123 _=AV.jd 125 _:=h;injection h with h
 exact absurd h (by decide)
theorem abM{k:Int}{a:Nat->Nat}{sk:Int}{W H:Int}{x y z s:Nat}{sn:Int}{tc:List AV}(h:(Th.si k a sk).v=(Th.gd W H x y z s sn tc).v):False:=by
 have h:AV.jd 123 _=AV.jd 128 _:=h;injection h with h
 exact absurd h (by decide)
theorem auC{n:Nat}{e:Nat->List AV}{sk:Int}{W H:Int}{x y z s:Nat}{sn:Int}{tc:List AV}(h:(Th.bo n e sk).v=(Th.gd W H x y z s sn tc).v):False:=by
 have h:AV.jd 125 _=AV.jd 128 _:=h;injection h with h
 exact absurd h (by decide)
theorem anI{k:Int}{a:Nat->Nat}{sk:Int}{b:Nat->Nat}{e:Int}(h:aj bO 130 [SH k a sk] (.bK [BX b,iA e])):(Th.si k a sk).Bd b:=aR aB (au aG ay) Tryz.func232 aC ((az1 k a sk b e).trans (ak h))
theorem adu {k : Int} {a : Nat -> Nat} {sk : Int} {r : Nat -> Nat} {t : Nat} {ok : Bool} {e : Int} (h : aj bO 45 [SH k a sk, RY r] (.bK [.f t, bA ok, iA e])) : rX bO "rayhouse/tree.strike" (Th.si k a sk).v [.agg (kW r)] (Cq (⟨0, 0, false, t⟩, ok)) :=
 ⟨123,.agg (Th.si k a sk).c,235,rfl,by kernel_rfl,rfl,aR aB (au aG ay) Tryz.func235 aC ((az2 k a sk r t ok e).trans (ak h))⟩
theorem adv{k:Int}{a:Nat->Nat}{sk:Int}{r:Nat->Nat}{t:Nat}{ok:Bool}{e:Int}(h:aj bO 45 [SH k a sk,RY r] (.bK [.f t,bA ok,iA e]))(I:∀C j o,SH C j o=SH k a sk->zQ C j o->gP r=0->e=0)(J:k=3->ok=true->e3 a sk=0/\dw (rV a) r=true):Law (Th.si k a sk).v r (⟨0,0,false,t⟩,ok) :=
 ⟨λ j o hv E=>by obtain⟨k3,e1,e2⟩:=aEy (ads hv);rw[<-e1,<-e2];exact J k3 E,λ C j o hv=>⟨e,by rw[<-ads hv];exact h,I _ _ _ (ads hv).symm⟩,λ _ _ _ hv=>(adt hv).elim,λ _ _ _ _ _ _ hv=>(abM hv).elim⟩
theorem ak5(a:Nat->Nat)(sk:Int):∃b,VS (Th.si 3 a sk).v b:=by
 by_cases j:e3 a sk=0
 .have h:=auT j;refine⟨rV a,⟨h.box,⟨_,rfl,anI h.bds⟩,λ r=>?_⟩⟩;obtain⟨t,ok,e,o,g2,g3⟩:=h.stk r;exact⟨(⟨0,0,false,t⟩,ok),adu o,g3,adv o (λ _ _ _ _ _=>g2) λ _ C=>⟨j,(g3 C).2.1⟩⟩
 .refine⟨Hs.FR,⟨?_,⟨_,rfl,anI (YD (MF a sk j) j)⟩,λ r=>?_⟩⟩
  .exact Xo (by decide +kernel)
  .have o:=YB (aCL (r:=r) (MF a sk j) j) j;exact⟨(⟨0,0,false,0⟩,false),adu o,(λ h=>by cases h),adv o (λ I J M hv E=>absurd (atb hv E) j) (λ _ C=>by cases C)⟩
theorem anJ{k:Int}{a:Nat->Nat}{sk:Int}(C:zQ k a sk):∃b,VS (Th.si k a sk).v b:=by
 by_cases j:k=3
 .subst j;exact ak5 a sk
 .obtain⟨b,h⟩:=Zd C;refine⟨b,h.box,⟨_,rfl,anI h.bds⟩,λ r=>?_⟩;obtain⟨t,ok,e,o,g2,g3⟩:=h.stk r;exact⟨(⟨0,0,false,t⟩,ok),adu o,g3,adv o (λ _ _ _ _ _=>g2) λ E=>absurd E j⟩
theorem aEz{n:Nat}{P:Nat->kC}{sn:Int}(h:GU n P sn=0){r:Nat->Nat}(hr:gP r=0):(sdk n P sn r).e=0:=by
 have e1:srE n P sn r=0:=by unfold srE;rw[h,hr];rfl
 unfold sdk;rw[e1];simp only[BEq.rfl,aY];cases dw (So.iD P n (n - 1)) r
 .rfl
 .cases acX (r 6) (soS n P r)<;>rfl
theorem anK{n:Nat}{P:Nat->kC}{sn:Int}(h:GU n P sn=0):∃b,VS (Th.bo n (λ i=>(P i).c) sn).v b:=by
 refine⟨soB n P sn,afu h,⟨_,rfl,aR aB (au aG ay) Tryz.func240 aC ((ay6 n P sn (soB n P sn) (GU n P sn)).trans (ak (BF n P sn)))⟩,λ r=>?_⟩;have g:=Vv n P sn r;refine⟨(⟨0,(sdk n P sn r).c.l,(sdk n P sn r).c.u,(sdk n P sn r).c.t⟩,(sdk n P sn r).k),⟨125,.agg (Th.bo n (λ i=>(P i).c) sn).c,243,rfl,by kernel_rfl,rfl,aR aB (au aG ay) Tryz.func243 aC ((ay7 n P sn r _ _ _ _ (sdk n P sn r).e).trans (ak g))⟩,ay5 h r,λ _ _ hv=>(adt hv.symm).elim,λ _ _ _ hv=>(adt hv.symm).elim,λ j e' o hv=>⟨(sdk n P sn r).e,?_,aEz h⟩,λ _ _ _ _ _ _ hv=>(auC hv).elim⟩;have hv:AV.jd 125 (.agg (FI n P sn))=AV.jd 125 (.agg [.sl 16 j e',iA o]):=hv;injection hv with _ hv
 rw[<-hv];exact g
open Go.Ev (key o8)
open Classical in
noncomputable def alq(v:AV):Nat->Nat:=if h:∃b,VS v b then h.choose else Hs.FR
theorem Jg{v:AV}(h:∃b,VS v b):VS v (alq v):=by unfold alq;rw[dif_pos h];exact h.choose_spec
open Classical in
noncomputable def Yw (r : Nat -> Nat) (v : AV) : kE × Bool := if h : ∃ h, rX bO "rayhouse/tree.strike" v [.agg (kW r)] (Cq h) /\ Jh (alq v) r h.1.t h.2 /\ Law v r h then h.choose else (Hu, false)
theorem yG {v : AV} (h : ∃ b, VS v b) (r : Nat -> Nat) : rX bO "rayhouse/tree.strike" v [.agg (kW r)] (Cq (Yw r v)) /\ Jh (alq v) r (Yw r v).1.t (Yw r v).2 /\ Law v r (Yw r v) := by
 have g:=(Jg h).hit r;unfold Yw;rw[dif_pos g];exact g.choose_spec
theorem aq3{b d r:Nat->Nat}{t:Nat}{ok:Bool}(J:Bx b)(I:Bx d)(w:Wi b d)(h:Jh b r t ok):Jh d r t ok:=λ E=>by obtain⟨j,C,l1⟩:=h E;obtain⟨m2,l2,_⟩:=meet_mono J I w C;have a1:=(o8 l2).1;have o:=(o8 l1).1;rw[Go.Ev.iX a1 o]at l2;rw[Go.Ev.iX o j]at l1;refine⟨j,m2,?_⟩;rw[Go.Ev.iX a1 j];have l2:=Qx l2;have l1:=Qx l1;exact gG (by omega)
def U3(n:Nat)(tv:Nat->AV):Prop:=∀i,i<n->∃b,VS (tv i) b
noncomputable def Me(tv:Nat->AV)(i:Nat):Nat->Nat:=alq (tv i)
noncomputable def qd(r:Nat->Nat)(tv:Nat->AV)(i:Nat):kE × Bool:=Yw r (tv i)
def U8(n:Nat)(tv:Nat->AV)(B:Nat->Nat->Nat)(rt:List AV):AV:=.ref [gM n tv,lD n B,.ref rt 0] 0
structure Grown(n:Nat)(tv:Nat->AV)(X:Nat->Int)(t:Tn):Prop where
 pb:_root_.Go.Gv.PB 0 n (qy n) X
 ok:zq (Me tv) X t 0 n
 of:aj bO 24 [gM n tv] (U8 n tv (Me tv) (t.cF (vB X)))
section
variable{n:Nat}{tv:Nat->AV}
theorem grown(h:U3 n tv)(C:0<n)(o:n<=1000):∃X t,Grown n tv X t:=by obtain⟨X,t,a,b,c⟩:=Yx (tv:=tv) (B:=Me tv) C o (λ k j=>(Jg (h k j)).th) λ k j=>(Jg (h k j)).box;exact⟨X,t,a,b,c⟩
variable{X:Nat->Int}{t:Tn}{r:Nat->Nat}
theorem abS(h:U3 n tv):∀j,j<n->M7 (Me tv) r (qd r tv) j:=λ j C o=>(yG (h j C) r).2.1 o
theorem Grown.first(g:Grown n tv X t)(h:U3 n tv):u6 (qd r tv) n (iR (qd r tv) X r t Hu) :=aau g.ok g.pb (λ j o=>(Jg (h j o)).box) (abS h)
theorem Grown.nearest(g:Grown n tv X t)(h:U3 n tv)(o:n<=1000):aj bO 8 [U8 n tv (Me tv) (t.cF (vB X)),.agg (kW r)] (QM (allM (gP (r7 r)==0) (iR (qd r tv) X r t Hu)) (gP (r7 r))) :=Uy (hA:=Yw r) (λ _ i j=>(yG (h i j) r).1) (λ _ _=>rfl) o g.ok λ _ j=>WQ g.pb j
theorem Grown.any(g:Grown n tv X t)(h:U3 n tv)(o:n<=1000)(far:Nat):aj bO 11 [U8 n tv (Me tv) (t.cF (vB X)),.agg (kW r),.f far] (.bK [bA (cond (gP (r7 r)==0) (anyM (qd r tv) X r far t) false),iA (gP (r7 r))]) :=akk (hA:=Yw r) (λ _ i j=>(yG (h i j) r).1) (λ _ _=>rfl) o g.ok λ _ j=>WQ g.pb j
def Tn.b:Tn->Nat->Nat
 |.lf b _ _=>b
 |.nd b _ _=>b
theorem Yn(g:Grown n tv X t):Cov (Me tv) X t.b 0 n:=by
 have h:=g.ok;cases t with
 |lf b lo m=>obtain⟨rfl,rfl,_,_,h⟩:=h;exact h
 |nd b l r=>obtain⟨h,_⟩:=h;exact h
theorem aqV(g:Grown n tv X t)(h:U3 n tv):Jh t.b r (iR (qd r tv) X r t Hu).t (decide ((iR (qd r tv) X r t Hu).w≥0)):=λ C=>by
 have f:=g.first (r:=r) h;have J:=Qx C;obtain⟨U,I,E,Q⟩:=f.one J;have j:(iR (qd r tv) X r t Hu).w.toNat<n:=by omega
 obtain⟨p,M,e⟩:=aas g.pb j;have c:=Yn g;have e2:(X p).toNat=(iR (qd r tv) X r t Hu).w.toNat:=by omega
 have w:=c.2 p (Nat.zero_le _) (by omega);rw[e2]at w
 have o:(iR (qd r tv) X r t Hu).t=(qd r tv (iR (qd r tv) X r t Hu).w.toNat).1.t:=by have:=congrArg kE.t E;exact this
 rw[o];exact aq3 (Jg (h _ j)).box c.1 w ((yG (h _ j) r).2.1) I
end
open Go.Ev (bS cZ iX)
open Hs.Fm (yX Gives better bx ze pt pp)
structure aoJ(G:Gives)(n:Nat)(x:Fm.Hit):Prop where
 non:x.ok=false->x=⟨false,0,0⟩/\∀j,j<n->(G j).2=false
 one:x.ok=true->∃i,i<n/\x.at_=(i:Nat)/\(G i).2=true/\x.t=(G i).1/\∀j,j<n->(G j).2=true->key (G i).1<=key (G j).1/\(key (G j).1=key (G i).1->i<=j)
theorem Ym{G:Gives}{N:Nat}(Q:∀j,j<N->(G j).2=true->aF (G j).1=false):∀n,n<=N->aoJ G n (yX G n)
 | 0,_=>⟨λ _=>⟨rfl,λ j E=>absurd E (avm j)⟩,λ h=>by cases h⟩
 |n+1,hN=>by
  have I:=Ym Q n (by omega);have e:yX G (n+1)=cond (better (G n) (yX G n)) ⟨true,(n:Nat),(G n).1⟩ (yX G n):=rfl;rw[e];unfold better;cases J:(G n).2
  .rw[eU,eU];refine⟨λ h=>⟨(I.non h).1,λ j E=>?_⟩,λ h=>?_⟩
   .by_cases C:j=n
    .rw[C];exact J
    .exact(I.non h).2 j (by omega)
   .obtain⟨i,a,b,c,d,f⟩:=I.one h;refine⟨i,by omega,b,c,d,λ j E o=>?_⟩;by_cases C:j=n
    .rw[C,J]at o;cases o
    .exact f j (by omega) o
  .rw[aY];cases M:(yX G n).ok
   .simp only[Bool.not_false,aY];have g:=(I.non M).2;refine⟨(λ h=>by cases h),λ _=>⟨n,by omega,rfl,J,rfl,λ j E o=>?_⟩⟩;by_cases C:j=n
    .rw[C];exact⟨af2 _,λ _=>ND _⟩
    .rw[g j (by omega)]at o;cases o
   .obtain⟨i,a,b,c,d,f⟩:=I.one M;rw[d];simp only[Bool.not_true,eU];rw[bS (Q n (by omega) J) (Q i (by omega) c)];by_cases U:key (G n).1<key (G i).1
    .rw[gG U,aY];refine⟨(λ h=>by cases h),λ _=>⟨n,by omega,rfl,J,rfl,λ j E o=>?_⟩⟩;by_cases C:j=n
     .rw[C];exact⟨af2 _,λ _=>ND _⟩
     .have:=f j (by omega) o;omega
    .rw[iH U,eU];refine⟨(λ h=>by rw[M]at h;cases h),λ _=>⟨i,by omega,b,c,d,λ j E o=>?_⟩⟩;by_cases C:j=n
     .subst C;exact⟨by omega,λ _=>by omega⟩
     .exact f j (by omega) o
theorem ak7{G:Gives}{H:Nat->kE × Bool}{n:Nat}{x:Fm.Hit}{F:kE}(E:∀j,j<n->G j=((H j).1.t,(H j).2))(Q:aoJ G n x)(hF:u6 H n F):x.ok=decide (F.w≥0)/\x.t=F.t/\(x.ok=true->x.at_=F.w):=by
 cases U:x.ok
 .obtain⟨e,g⟩:=Q.non U;by_cases C:F.w≥0
  .obtain⟨h1,J,_,_⟩:=hF.one C;have o:F.w.toNat<n:=by omega
   have:=g _ o;rw[E _ o]at this;exact absurd (this.symm.trans J) (by decide)
  .obtain⟨e1,_⟩:=hF.non (by omega);rw[iH C,e,e1];exact⟨rfl,rfl,λ h=>by cases h⟩
 .obtain⟨i,a,b,c,d,f⟩:=Q.one U;have Y:=E i a;rw[Y]at c d;by_cases C:F.w≥0
  .obtain⟨h1,J,h3,h4⟩:=hF.one C;have o:F.w.toNat<n:=by omega
   have M:=f F.w.toNat o (by rw[E _ o];exact J);have I:=hF.fst C i a c
   have et:F.t=(H F.w.toNat).1.t:=by have:=congrArg kE.t h3;exact this
   rw[Y,E _ o]at M
   have Z:(i:Int)=F.w:=by unfold bt gI at I;rw[pF,et]at I;have f1a:key (H i).1.t<=key (H F.w.toNat).1.t:=M.1;have f1b:key (H F.w.toNat).1.t=key (H i).1.t->i<=F.w.toNat:=M.2;have I:¬(key (H i).1.t<key (H F.w.toNat).1.t\/key (H i).1.t=key (H F.w.toNat).1.t/\(i:Int)<F.w):=I;omega
   refine⟨(gG C).symm,?_,λ _=>by rw[b];exact Z⟩;rw[d,et,<-Z,pF]
  .have:=(hF.non (by omega)).2 i a;rw[this]at c;cases c
theorem Qh{m x y:Nat}{k:Int}(o:aF x=false)(j:aF y=false)(E:k<=key x)(C:k<=key y)(e:m=jy x y):aF m=false/\k<=key m:=by
 subst e;unfold jy;cases dN y x
 .exact⟨o,E⟩
 .exact⟨j,C⟩
theorem Qi{m x y:Nat}{k:Int}(o:aF x=false)(j:aF y=false)(E:key x<=k)(C:key y<=k)(e:m=jA x y):aF m=false/\key m<=k:=by
 subst e;unfold jA;cases bW y x
 .exact⟨o,E⟩
 .exact⟨j,C⟩
theorem EX{A x:Nat->Nat}(h:∀q,A (q+1)=jy (A q) (x q)):∀n,aF (A n)=false->aF (A 0)=false/\∀q,q<n->aF (x q)=false->key (A n)<=key (x q)
 | 0,h0=>⟨h0,λ q hq=>absurd hq (avm q)⟩
 |n+1,h0=>by
  have e:=h n
  have j:aF (A n)=false:=by
   cases E:aF (A n)
   .rfl
   .have:dN (x n) (A n)=false:=by
     cases hf:dN (x n) (A n)
     .rfl
     .have:=(Go.Ev.vg hf).2;rw[E]at this;cases this
    unfold jy at e;rw[this,eU]at e;rw[e,E]at h0;cases h0
  obtain⟨M,J⟩:=EX h n j
  have Q:key (A (n+1))<=key (A n):=by
   rw[e];unfold jy;cases hf:dN (x n) (A n)
   .exact af2 _
   .have I:=(Go.Ev.vg hf).1;rw[bS I j]at hf;have:=Qx hf;rw[aY];omega
  refine⟨M,λ q hq o=>?_⟩;by_cases U:q=n
  .subst U;rw[e];unfold jy;rw[bS o j];by_cases C:key (x q)<key (A q)
   .rw[gG C];exact af2 _
   .rw[iH C,eU];omega
  .have:=J q (by omega) o;omega
theorem EY{A x:Nat->Nat}(h:∀q,A (q+1)=jA (A q) (x q)):∀n,aF (A n)=false->aF (A 0)=false/\∀q,q<n->aF (x q)=false->key (x q)<=key (A n)
 | 0,h0=>⟨h0,λ q hq=>absurd hq (avm q)⟩
 |n+1,h0=>by
  have e:=h n
  have j:aF (A n)=false:=by
   cases E:aF (A n)
   .rfl
   .have:bW (x n) (A n)=false:=by
     cases hf:bW (x n) (A n)
     .rfl
     .have:=(Go.Ev.tC hf).2;rw[E]at this;cases this
    unfold jA at e;rw[this,eU]at e;rw[e,E]at h0;cases h0
  obtain⟨M,J⟩:=EY h n j
  have Q:key (A n)<=key (A (n+1)):=by
   rw[e];unfold jA;cases hf:bW (x n) (A n)
   .exact af2 _
   .have I:=(Go.Ev.tC hf).1;rw[cZ I j]at hf;have:=Qx hf;rw[aY];omega
  refine⟨M,λ q hq o=>?_⟩;by_cases U:q=n
  .subst U;rw[e];unfold jA;rw[cZ o j];by_cases C:key (A q)<key (x q)
   .rw[gG C];exact af2 _
   .rw[iH C,eU];omega
  .have:=J q (by omega) o;omega
section
variable{F:Fm.Fd}{w l:Nat}
theorem ak4(j:Bx (bx F)){q:Nat}(hq:q<F.n)(E:aF (pt F q 0)=false)(C:aF (pt F q 1)=false)(o:aF (pt F q 2)=false) :
  (key (bx F 0)<=key (pt F q 0)/\key (bx F 1)<=key (pt F q 1)/\key (bx F 2)<=key (pt F q 2))/\key (pt F q 0)<=key (bx F 3)/\key (pt F q 1)<=key (bx F 4)/\key (pt F q 2)<=key (bx F 5) :=
 ⟨⟨(EX (A:=λ n=>ze (pt F) n 0) (x:=λ q=>pt F q 0) (λ _=>rfl) F.n j.n0.nan).2 q hq E,
  (EX (A:=λ n=>ze (pt F) n 1) (x:=λ q=>pt F q 1) (λ _=>rfl) F.n j.n1.nan).2 q hq C,
  (EX (A:=λ n=>ze (pt F) n 2) (x:=λ q=>pt F q 2) (λ _=>rfl) F.n j.n2.nan).2 q hq o⟩,
  (EY (A:=λ n=>ze (pt F) n 3) (x:=λ q=>pt F q 0) (λ _=>rfl) F.n j.n3.nan).2 q hq E,
  (EY (A:=λ n=>ze (pt F) n 4) (x:=λ q=>pt F q 1) (λ _=>rfl) F.n j.n4.nan).2 q hq C,
  (EY (A:=λ n=>ze (pt F) n 5) (x:=λ q=>pt F q 2) (λ _=>rfl) F.n j.n5.nan).2 q hq o⟩
theorem axy{b x y z:Nat->Nat}(hx:fE (x 0) (x 1) (x 2)=true)(hy:fE (y 0) (y 1) (y 2)=true)(hz:fE (z 0) (z 1) (z 2)=true)
  (ix:(key (b 0)<=key (x 0)/\key (b 1)<=key (x 1)/\key (b 2)<=key (x 2))/\key (x 0)<=key (b 3)/\key (x 1)<=key (b 4)/\key (x 2)<=key (b 5))
  (o:(key (b 0)<=key (y 0)/\key (b 1)<=key (y 1)/\key (b 2)<=key (y 2))/\key (y 0)<=key (b 3)/\key (y 1)<=key (b 4)/\key (y 2)<=key (b 5))
  (j:(key (b 0)<=key (z 0)/\key (b 1)<=key (z 1)/\key (b 2)<=key (z 2))/\key (z 0)<=key (b 3)/\key (z 1)<=key (b 4)/\key (z 2)<=key (b 5)):Wi (rV (Fm.GN x y z)) b:=by
 obtain⟨x0,x1,Z⟩:=qZ hx;obtain⟨Y,U,Q⟩:=qZ hy;obtain⟨M,J,I⟩:=qZ hz
 have lo:∀{k:Int} {p q s:Nat},aF p=false->aF q=false->aF s=false->k<=key p->k<=key q->k<=key s->k<=key (jy (jy p q) s):=λ C hq hs a b c =>(Qh (Qh C hq a b rfl).1 hs (Qh C hq a b rfl).2 c rfl).2
 have E:∀{k:Int} {p q s:Nat},aF p=false->aF q=false->aF s=false->key p<=k->key q<=k->key s<=k->key (jA (jA p q) s)<=k:=λ C hq hs a b c =>(Qi (Qi C hq a b rfl).1 hs (Qi C hq a b rfl).2 c rfl).2
 exact⟨lo x0.nan Y.nan M.nan ix.1.1 o.1.1 j.1.1,lo x1.nan U.nan J.nan ix.1.2.1 o.1.2.1 j.1.2.1,lo Z.nan Q.nan I.nan ix.1.2.2 o.1.2.2 j.1.2.2,
  E x0.nan Y.nan M.nan ix.2.1 o.2.1 j.2.1,E x1.nan U.nan J.nan ix.2.2.1 o.2.2.1 j.2.2.1,E Z.nan Q.nan I.nan ix.2.2.2 o.2.2.2 j.2.2.2⟩
end
open Hs.Fm (crn sX NY)
section
variable{F:Fm.Fd}{w l:Nat}
theorem axx(d:Fm.Ip F w l){q:Nat}(hq:q<yC w l):crn w q+w+1<F.n:=by
 have J:=d.w1;have I:=d.h1;unfold yC at hq;have j:q / 2<(l - 1)*(w - 1):=by omega
 have C:q / 2 / (w - 1)<l - 1:=by refine(Nat.div_lt_iff_lt_mul (by omega)).2 j
 have E:q / 2 % (w - 1)<w - 1:=Nat.mod_lt _ (by omega);have o:(q / 2 / (w - 1)+2)*w<=l*w:=ahL _ (by omega);rw[auK]at o;rw[d.n,aEw w l];unfold crn;omega
theorem aCA(d:Fm.Ip F w l)(o:Bx (bx F)){q:Nat}(hq:q<yC w l){sk:Int}(h3:e3 (pc F w q) sk=0):Wi (rV (pc F w q)) (bx F):=by
 have hc:=axx d hq;have hr:=auB h3
 have key:∀x y z:Nat,x<F.n->y<F.n->z<F.n->Kk (Fm.GN (pt F x) (pt F y) (pt F z))=false->Wi (rV (Fm.GN (pt F x) (pt F y) (pt F z))) (bx F):=λ x y z hx hy hz hr=>by
  have hr:cond (cond (cond (cond (!fE (pt F x 0) (pt F x 1) (pt F x 2)) true (!fE (pt F y 0) (pt F y 1) (pt F y 2))) true (!fE (pt F z 0) (pt F z 1) (pt F z 2))) true (!iF 0)) true (!iF 0)=false:=hr;cases a1:fE (pt F x 0) (pt F x 1) (pt F x 2)
  .rw[a1]at hr;cases hr
  cases j:fE (pt F y 0) (pt F y 1) (pt F y 2)
  .rw[a1,j]at hr;cases hr
  cases C:fE (pt F z 0) (pt F z 1) (pt F z 2)
  .rw[a1,j,C]at hr;cases hr
  obtain⟨x0,Z,Y⟩:=qZ a1;obtain⟨U,Q,M⟩:=qZ j;obtain⟨J,I,E⟩:=qZ C;exact axy a1 j C (ak4 o hx x0.nan Z.nan Y.nan) (ak4 o hy U.nan Q.nan M.nan) (ak4 o hz J.nan I.nan E.nan)
 revert hr;unfold pc;cases(q % 2==0)
 .exact key _ _ _ (by omega) (by omega) (by omega)
 .exact key _ _ _ (by omega) (by omega) (by omega)
end
section
variable(W H:Int)(x y z s:Nat)(sk:Int)(n:Nat)(tv:Nat->AV)(B:Nat->Nat->Nat)(el:Nat->List AV)(r:Nat->Nat)
theorem axz(b:Nat->Nat)(lo m:Nat):ev bO [] [] bC aOG [.agg (Th.gd W H x y z s sk [gM n tv,lD n B,.ref ((Tn.lf b lo m).cF el) 0]).c] ret=some (Out.of (.agg (Bn b))):=by kernel_rfl
theorem axA(b:Nat->Nat)(u v:Tn):ev bO [] [] bC aOG [.agg (Th.gd W H x y z s sk [gM n tv,lD n B,.ref ((Tn.nd b u v).cF el) 0]).c] ret=some (Out.of (.agg (Bn b))):=by kernel_rfl
theorem axB(tc:List AV)(F:kE)(e:Int):ev bO [] [kS bO 8 λ _=>QM F e] bC Tryz.f250 [.agg (Th.gd W H x y z s sk tc).c,.agg (kW r)] ret=gate (aj bO 8 [.ref tc 0,.agg (kW r)] (QM F e)) (some (Out.of (Cq (⟨0,F.w,false,F.t⟩,decide (F.w≥0))))):=by kernel_rfl
end
section
variable{F:Fm.Fd}{w l:Nat}{X:Nat->Int}{t:Tn}
theorem MR(F:Fm.Fd)(w n:Nat):U3 n (Fe F w):=λ _ _=>ak5 _ _
noncomputable def KH(r:Nat->Nat)(tv:Nat->AV):Gives:=λ q=>((qd r tv q).1.t,(qd r tv q).2)
theorem ak6(F:Fm.Fd)(w n:Nat)(r:Nat->Nat):NY F.sk n (pc F w) r (KH r (Fe F w)):=λ q hq=>by obtain⟨e,h,_⟩:=(yG (MR F w n q hq) r).2.2.si 3 (pc F w q) F.sk rfl;exact⟨e,h⟩
theorem aqU(g:Fm.mQ F w l){r:Nat->Nat}{N:kE}(hF:u6 (qd r (Fe F w)) (yC w l) N):(sX F w l (KH r (Fe F w)) r).ok=decide (N.w≥0)/\(sX F w l (KH r (Fe F w)) r).t=N.t/\((sX F w l (KH r (Fe F w)) r).ok=true->(sX F w l (KH r (Fe F w)) r).at_=N.w):=by
 have I:=MR F w (yC w l);have U:=Ym (G:=KH r (Fe F w)) (N:=yC w l) (λ j o C=>((yG (I j o) r).2.1 C).1) (yC w l) (ND _);have hs:=ak7 (λ _ _=>rfl) U hF;have E:=Xo g.box;unfold sX;cases Y:dw (pz (bx F)) (r7 r)
 .rw[eU]
  have none:∀j,j<yC w l->(qd r (Fe F w) j).2=false:=λ j o=>by
   cases C:(qd r (Fe F w) j).2
   .rfl
   .obtain⟨J,m⟩:=(yG (I j o) r).2.2.tri (pc F w j) F.sk rfl C;obtain⟨m2,_⟩:=meet_mono (Ba J) E (aCA g.d E o J) m;have m2:dw (pz (bx F)) (r7 r)=true:=m2;rw[Y]at m2;cases m2
  by_cases Q:N.w≥0
  .obtain⟨Z,M,_,_⟩:=hF.one Q;rw[none _ (by omega)]at M;cases M
  .rw[iH Q,(hF.non (by omega)).1];exact⟨rfl,rfl,λ h=>by cases h⟩
 .exact hs
theorem ahj{F o:Fm.Fd}{w l w' C:Nat}{B E:Nat->Nat->Nat}{rt j:List AV}(h:(QT F (yC w l) (Fe F w) B rt).v=(QT o (yC w' C) (Fe o w') E j).v):yC w l=yC w' C/\Fe F w=Fe o w':=by unfold Th.v QT Th.c gM at h;simp only[AV.jd.injEq,AV.agg.injEq,List.cons.injEq,AV.ref.injEq,AV.sl.injEq,and_true,true_and]at h;obtain⟨_,_,_,_,_,_,_,_,⟨e1,e2⟩,_⟩:=h;refine⟨e1,funext λ q=>?_⟩;have:=congrFun e2 q;injection this
theorem ak8(g:Fm.mQ F w l)(h:Grown (yC w l) (Fe F w) X t):VS (QT F (yC w l) (Fe F w) (Me (Fe F w)) (t.cF (vB X))).v t.b:=by
 have C:=MR F w (yC w l);have Y:yC w l<=1000:=by have:=Fm.Ul g.d;omega
 refine⟨(Yn h).1,⟨_,rfl,?_⟩,λ r=>?_⟩
 .cases t with
  |lf b lo m=>exact aR aB ay aOb aC (axz _ _ _ _ _ _ _ _ _ _ _ b lo m)
  |nd b u v=>exact aR aB ay aOb aC (axA _ _ _ _ _ _ _ _ _ _ _ b u v)
 .have hs:=h.nearest (r:=r) C Y;refine⟨(⟨0,(allM (gP (r7 r)==0) (iR (qd r (Fe F w)) X r t Hu)).w,false,(allM (gP (r7 r)==0) (iR (qd r (Fe F w)) X r t Hu)).t⟩,decide ((allM (gP (r7 r)==0) (iR (qd r (Fe F w)) X r t Hu)).w≥0)),⟨128,.agg (QT F (yC w l) (Fe F w) (Me (Fe F w)) (t.cF (vB X))).c,250,rfl,by kernel_rfl,rfl,aR aB (au aG ay) Tryz.func250 aC ((axB _ _ _ _ _ _ _ r _ _ _).trans (ak hs))⟩,?_,?_⟩
  .cases hr:(gP (r7 r)==0)
   .intro o;cases o
   .exact aqV h C
  .refine⟨λ _ _ hv=>(abM hv.symm).elim,λ _ _ _ hv=>(abM hv.symm).elim,λ _ _ _ hv=>(auC hv.symm).elim,λ F' E U B' Q I hv hr=>?_⟩;have j:gP (r7 r)=0:=hr;obtain⟨Z,M⟩:=ahj hv;rw[j];have hF:=h.first (r:=r) C;rw[M,Z]at hF;have s:=aqU I hF;have J:=Fm.agE I j (ak6 F' E (yC E U) r);rw[s.1,s.2.1]at J;rw[M];exact⟨_,J,λ o=>s.2.2 (s.1.trans o)⟩
end
open Hs.Sc (FJ Iq Kq)
def qA:List Nat:=[1,8,9,10]
section
variable(n:Nat)(S:Nat->FJ)(i:Int)
def Ir:St:=mkS 21 [(1,.fn (.func 49) [] []),(8,.sl 13 n λ q=>(S q).c),(9,iA n),(10,iA i)] []
theorem agF:jR bO [] [kS bO 49 λ _=>iA 0] bC (av aNO 0) (Ir n S i) (gu qA [])=cond (decide (i<(n:Int))) (cond (iP i n||false) (gate (aj bO 49 [.agg (S i.toNat).c] (iA 0)) (some ⟨.normal,Ir n S (aH (i+1)),.any⟩)) none) none:=by kernel_rfl
theorem ajP:jR bO [] [kS bO 49 λ _=>iA 0] bC (av aNO 0) (Ir n S i) (iG qA [])=cond (decide (i<(n:Int))) (cond (iP i n||false) (gate (aj bO 49 [.agg (S i.toNat).c] (iA 0)) none) none) (some ⟨.exit 0,Ir n S i,.any⟩):=by kernel_rfl
theorem apX:ev bO [] [] (eZ 2 (fF qA [] (Ir n S 0) (.exit 0) (Ir n S n))) aNO [.sl 13 n (λ q=>(S q).c),.fn (.func 49) [] []] ret=gate (Sub (Ir n S 0) (Ir n S 0)) (some (Out.of (iA 0))):=by kernel_rfl
theorem agG(o:n<=1000)(h:∀q,q<n->aj bO 49 [.agg (S q).c] (iA 0)):aj bO 48 [.sl 13 n (λ q=>(S q).c),.fn (.func 49) [] []] (iA 0):=by
 refine aR aB ay Tryz.func48 (qo (i:=2) 1 (by kernel_rfl) λ j C _=>?_) ((apX n S).trans (ak (Sub.refl _)));have:j=0:=by omega
 subst this;refine aS (aP (λ q=>Ir n S (q:Nat)) n (.exit 0) _ (by simp) (λ q hq=>?_) ?_)
 .refine aK (bB qA []) aB (au aG ay) aC ((agF n S (q:Nat)).trans ?_);rw[bI hq,aY,bZ hq,pF,ak (h q hq),aQ (by omega)];rfl
 .refine aK (dB qA []) aB (au aG ay) aC ((ajP n S (n:Nat)).trans ?_);rw[bJ];rfl
end
section
variable(n:Nat)(O:Nat->Iq)(i:Int)
def Iu:St:=mkS 21 [(1,.fn (.func 51) [] []),(8,.sl 2 n λ q=>(O q).c),(9,iA n),(10,iA i)] []
theorem agH:jR bO [] [kS bO 51 λ _=>iA 0] bC (av aNP 0) (Iu n O i) (gu qA [])=cond (decide (i<(n:Int))) (cond (iP i n||false) (gate (aj bO 51 [.agg (O i.toNat).c] (iA 0)) (some ⟨.normal,Iu n O (aH (i+1)),.any⟩)) none) none:=by kernel_rfl
theorem ajQ:jR bO [] [kS bO 51 λ _=>iA 0] bC (av aNP 0) (Iu n O i) (iG qA [])=cond (decide (i<(n:Int))) (cond (iP i n||false) (gate (aj bO 51 [.agg (O i.toNat).c] (iA 0)) none) none) (some ⟨.exit 0,Iu n O i,.any⟩):=by kernel_rfl
theorem apY:ev bO [] [] (eZ 2 (fF qA [] (Iu n O 0) (.exit 0) (Iu n O n))) aNP [.sl 2 n (λ q=>(O q).c),.fn (.func 51) [] []] ret=gate (Sub (Iu n O 0) (Iu n O 0)) (some (Out.of (iA 0))):=by kernel_rfl
theorem agI(o:n<=1000)(h:∀q,q<n->aj bO 51 [.agg (O q).c] (iA 0)):aj bO 50 [.sl 2 n (λ q=>(O q).c),.fn (.func 51) [] []] (iA 0):=by
 refine aR aB ay Tryz.func50 (qo (i:=2) 1 (by kernel_rfl) λ j C _=>?_) ((apY n O).trans (ak (Sub.refl _)));have:j=0:=by omega
 subst this;refine aS (aP (λ q=>Iu n O (q:Nat)) n (.exit 0) _ (by simp) (λ q hq=>?_) ?_)
 .refine aK (bB qA []) aB (au aG ay) aC ((agH n O (q:Nat)).trans ?_);rw[bI hq,aY,bZ hq,pF,ak (h q hq),aQ (by omega)];rfl
 .refine aK (dB qA []) aB (au aG ay) aC ((ajQ n O (n:Nat)).trans ?_);rw[bJ];rfl
end
section
variable(n:Nat)(F:Nat->Fm.Fd)(i:Int)
def Iw:St:=mkS 21 [(1,.fn (.func 53) [] []),(8,.sl 8 n λ q=>(F q).c),(9,iA n),(10,iA i)] []
theorem agJ:jR bO [] [kS bO 53 λ _=>iA 0] bC (av aNQ 0) (Iw n F i) (gu qA [])=cond (decide (i<(n:Int))) (cond (iP i n||false) (gate (aj bO 53 [.agg (F i.toNat).c] (iA 0)) (some ⟨.normal,Iw n F (aH (i+1)),.any⟩)) none) none:=by kernel_rfl
theorem ajR:jR bO [] [kS bO 53 λ _=>iA 0] bC (av aNQ 0) (Iw n F i) (iG qA [])=cond (decide (i<(n:Int))) (cond (iP i n||false) (gate (aj bO 53 [.agg (F i.toNat).c] (iA 0)) none) none) (some ⟨.exit 0,Iw n F i,.any⟩):=by kernel_rfl
theorem apZ:ev bO [] [] (eZ 2 (fF qA [] (Iw n F 0) (.exit 0) (Iw n F n))) aNQ [.sl 8 n (λ q=>(F q).c),.fn (.func 53) [] []] ret=gate (Sub (Iw n F 0) (Iw n F 0)) (some (Out.of (iA 0))):=by kernel_rfl
theorem agK(o:n<=1000)(h:∀q,q<n->aj bO 53 [.agg (F q).c] (iA 0)):aj bO 52 [.sl 8 n (λ q=>(F q).c),.fn (.func 53) [] []] (iA 0):=by
 refine aR aB ay Tryz.func52 (qo (i:=2) 1 (by kernel_rfl) λ j C _=>?_) ((apZ n F).trans (ak (Sub.refl _)));have:j=0:=by omega
 subst this;refine aS (aP (λ q=>Iw n F (q:Nat)) n (.exit 0) _ (by simp) (λ q hq=>?_) ?_)
 .refine aK (bB qA []) aB (au aG ay) aC ((agJ n F (q:Nat)).trans ?_);rw[bI hq,aY,bZ hq,pF,ak (h q hq),aQ (by omega)];rfl
 .refine aK (dB qA []) aB (au aG ay) aC ((ajR n F (n:Nat)).trans ?_);rw[bJ];rfl
end
section
variable(nS nO nF:Nat)(S:Nat->FJ)(O:Nat->Iq)(F:Nat->Fm.Fd)
noncomputable def kMe:List bf:=[kS bO 48 λ _=>iA 0,kS bO 50 λ _=>iA 0,kS bO 52 λ _=>iA 0]
def aup:Bool:=cond (cond (decide ((nS:Int)>64)) true (decide ((nO:Int)>8))) true (decide ((nF:Int)>2))
theorem ap0:ev bO [] kMe bC Tryz.f23 [.sl 13 nS λ q=>(S q).c,.sl 2 nO λ q=>(O q).c,.sl 8 nF λ q=>(F q).c] ret =
 cond (aup nS nO nF) (some (Out.of (iA 4))) (gate (aj bO 48 [.sl 13 nS (λ q=>(S q).c),.fn (.func 49) [] []] (iA 0)) (gate (aj bO 50 [.sl 2 nO (λ q=>(O q).c),.fn (.func 51) [] []] (iA 0)) (gate (aj bO 52 [.sl 8 nF (λ q=>(F q).c),.fn (.func 53) [] []] (iA 0)) (some (Out.of (iA 0)))))):=by kernel_rfl
variable{nS nO nF S O F}
theorem agL(E:nS<=64)(C:nO<=8)(o:nF<=2)(hS:∀q,q<nS->aj bO 49 [.agg (S q).c] (iA 0))(j:∀q,q<nO->aj bO 51 [.agg (O q).c] (iA 0))(hF:∀q,q<nF->aj bO 53 [.agg (F q).c] (iA 0)):aj bO 23 [.sl 13 nS λ q=>(S q).c,.sl 2 nO λ q=>(O q).c,.sl 8 nF λ q=>(F q).c] (iA 0):=by refine aR aB (au aG (au aG (au aG ay))) Tryz.func23 aC ((ap0 nS nO nF S O F).trans ?_);unfold aup;rw[iH (by omega),iH (by omega),iH (by omega),ak (agG nS S (by omega) hS),ak (agI nO O (by omega) j),ak (agK nF F (by omega) hF)];rfl
end
end Go.Proofs.YtdlhemnconimnaaGreat.Tr
namespace Go.Gv
theorem ZU{E:Env}{sz:Nat}{el:Nat->List AV}{v:Value}(h:rel E (.x (.slice none 0 0)) v):rel E (.sl sz 0 el) v :=iZ.2 ⟨none,0,cB.1 h,by decide,wV rfl⟩
end Go.Gv
namespace Go.Proofs.YtdlhemnconimnaaGreat.Tr
open Go.Gv Hs
open Hs.So (kC FI)
open Hs.Sc (FJ Iq Kq)
def cpB(n j:Nat):Bool:=((0==0)&&(Tv 0 n&&(TL n (λ _=>true)&&apB ((0+n)*j) 140737488355328)))||false
theorem aEG{n b:Nat}(j:0<n)(h:n*b<=140737488355328):cpB n b=true:=by unfold cpB;rw[iU j,El λ _ _=>rfl,agl (show(0+n)*b<=140737488355328 by rw[ZO];exact h)];rfl
section
variable(n:Nat)(P:Nat->kC)(sn:Int)
theorem aAa:ev bO [] [] bC Tryz.f106 [.sl 16 n λ q=>(P q).c] ret=cond (Tv 0 n||false) (cond (cpB n 128) (some (Out.of (.sl 16 (0+n) λ q=>bM (Tv (0+q) 0) [] ((P (0+q - 0)).c)))) none) none:=by kernel_rfl
theorem aAb:ev bO [] [kS bO 106 λ _=>.sl 16 n λ q=>(P q).c] bC Tryz.f55 [.agg (FI n P sn)] ret=gate (aj bO 106 [.sl 16 n λ q=>(P q).c] (.sl 16 n λ q=>(P q).c)) (some (Out.of (.agg (FI n P sn)))):=by kernel_rfl
variable{n P sn}
theorem an0(j:0<n)(o:n<=1000):aj bO 106 [.sl 16 n λ q=>(P q).c] (.sl 16 n λ q=>(P q).c):=by
 refine aR aB ay Tryz.func106 aC ((aAa n P).trans ?_);rw[iU j,aEG j (by omega),ZO];have e:(λ q=>bM (Tv (0+q) 0) [] ((P (0+q - 0)).c))=λ q=>(P q).c:=funext λ q=>by rw[ZO];rfl
 rw[e];rfl
theorem am0(o:0<n)(j:n<=1000):aj bO 55 [.agg (FI n P sn)] (.agg (FI n P sn)) :=aR aB (au aG ay) Tryz.func55 aC ((aAb n P sn).trans (ak (an0 o j)))
end
def Pm:List Nat:=[1,2,7,14,15,16]
def Pn:List Nat:=[2,7,27,28,29]
def Po:List Nat:=[7,40,41,42]
section
variable(nS nO nF:Nat)(S:Nat->FJ)(O:Nat->Iq)(F:Nat->Fm.Fd)(th:Nat->Th)(i:Int)(m:Nat)(W H:Int)(x y z d:Nat)(sk:Int)(tc:List AV)
def Jy:AV:=.sl 13 nS λ q=>(S q).c
def vO:AV:=.sl 2 nO λ q=>(O q).c
def vF:AV:=.sl 8 nF λ q=>(F q).c
def F5:Row:=.a 98 1 m λ q=>[(th q).v]
def thN(T:Nat)(c:List AV):Row:=.a 98 1 (m+1) λ q=>bM (Tv q m) [(th q).v] [.jd T (.agg c)]
def g1S(i:Int)(R:Row)(m:Nat):St:=mkS 54 [(1,vO nO O),(2,vF nF F),(7,.bQ 0 1 0 m),(14,Jy nS S),(15,iA nS),(16,iA i)] [R]
def g2S(i:Int)(R:Row)(m:Nat):St:=mkS 54 [(2,vF nF F),(7,.bQ 0 1 0 m),(27,vO nO O),(28,iA nO),(29,iA i)] [R]
def g3S(i:Int)(R:Row)(m:Nat):St:=mkS 54 [(7,.bQ 0 1 0 m),(40,vF nF F),(41,iA nF),(42,iA i)] [R]
theorem asw:jR bO [] [] bC (av aJh 0) (g1S nS nO nF S O F i (F5 th m) m) (gu Pm [some 3])=cond (decide (i<(nS:Int))) (cond (iP i nS||false) (cond (Qz m 16||false) (some ⟨.normal,g1S nS nO nF S O F (aH (i+1)) (thN th m 123 (S i.toNat).c) (m+1),.any⟩) none) none) none:=by kernel_rfl
theorem azi:jR bO [] [] bC (av aJh 0) (g1S nS nO nF S O F i (F5 th m) m) (iG Pm [some 0])=cond (decide (i<(nS:Int))) (cond (iP i nS||false) (cond (Qz m 16||false) none none) none) (some ⟨.exit 0,g1S nS nO nF S O F i (F5 th m) m,.any⟩):=by kernel_rfl
theorem asx:jR bO [] [kS bO 55 λ _=>.agg (O i.toNat).c] bC (av aJh 1) (g2S nO nF O F i (F5 th m) m) (gu Pn [some 3])=cond (decide (i<(nO:Int))) (cond (iP i nO||false) (gate (aj bO 55 [.agg (O i.toNat).c] (.agg (O i.toNat).c)) (cond (Qz m 16||false) (some ⟨.normal,g2S nO nF O F (aH (i+1)) (thN th m 125 (O i.toNat).c) (m+1),.any⟩) none)) none) none:=by kernel_rfl
theorem azj:jR bO [] [kS bO 55 λ _=>.agg (O i.toNat).c] bC (av aJh 1) (g2S nO nF O F i (F5 th m) m) (iG Pn [some 0])=cond (decide (i<(nO:Int))) (cond (iP i nO||false) (gate (aj bO 55 [.agg (O i.toNat).c] (.agg (O i.toNat).c)) (cond (Qz m 16||false) none none)) none) (some ⟨.exit 2,g2S nO nF O F i (F5 th m) m,.any⟩):=by kernel_rfl
theorem asy:jR bO [] [kS bO 56 λ _=>.agg (Th.gd W H x y z d sk tc).c] bC (av aJh 2) (g3S nF F i (F5 th m) m) (gu Po [some 3])=cond (decide (i<(nF:Int))) (cond (iP i nF||false) (gate (aj bO 56 [.agg (F i.toNat).c] (.agg (Th.gd W H x y z d sk tc).c)) (cond (Qz m 16||false) (some ⟨.normal,g3S nF F (aH (i+1)) (thN th m 128 (Th.gd W H x y z d sk tc).c) (m+1),.any⟩) none)) none) none:=by kernel_rfl
theorem azk:jR bO [] [kS bO 56 λ _=>.agg (Th.gd W H x y z d sk tc).c] bC (av aJh 2) (g3S nF F i (F5 th m) m) (iG Po [some 0])=cond (decide (i<(nF:Int))) (cond (iP i nF||false) (gate (aj bO 56 [.agg (F i.toNat).c] (.agg (Th.gd W H x y z d sk tc).c)) (cond (Qz m 16||false) none none)) none) (some ⟨.exit 4,g3S nF F i (F5 th m) m,.any⟩):=by kernel_rfl
end
open Hs.Fm (yC pc Gy)
theorem Pk(th:Nat->Th)(m T:Nat)(c:List AV)(h:(th m).v=.jd T (.agg c)):H7 (thN th m T c) (F5 th (m+1)):=ad9 λ q hq=>by
 show [(th q).v]=[cond (Tv q m) (AV.jd (th q).T (.agg (th q).c)) (.jd T (.agg c))];by_cases e:q<m
 .rw[Gg e];rfl
 .have e2:q=m:=by omega
  subst e2;rw[Vm (ND _),h];rfl
section
variable{nS nO nF:Nat}{S:Nat->FJ}{O:Nat->Iq}{F:Nat->Fm.Fd}{th:Nat->Th}
structure Thg(nS nO nF:Nat)(S:Nat->FJ)(O:Nat->Iq)(F:Nat->Fm.Fd)(th:Nat->Th):Prop where
 si:∀q,q<nS->(th q).v=.jd 123 (.agg (S q).c)
 bo:∀q,q<nO->(th (nS+q)).v=.jd 125 (.agg (O q).c)/\0<(O q).n/\(O q).n<=1000
 gd:∀q,q<nF->∃W H x y z d sk tc,(th (nS+nO+q)).v=.jd 128 (.agg (Th.gd W H x y z d sk tc).c)/\aj bO 56 [.agg (F q).c] (.agg (Th.gd W H x y z d sk tc).c)
theorem amY(hs:nS<=1000)(h:Thg nS nO nF S O F th):bH bO (.loop (av aJh 0)) (g1S nS nO nF S O F 0 (F5 th 0) 0) (.exit 0) (g1S nS nO nF S O F nS (F5 th nS) nS):=by
 refine aP (λ q=>g1S nS nO nF S O F (q:Nat) (F5 th q) q) nS (.exit 0) _ (by simp) (λ q hq=>?_) ?_
 .refine(aK (bB Pm [some 3]) aB ay aC (s':=g1S nS nO nF S O F ((q+1:Nat):Int) (thN th q 123 (S q).c) (q+1)) ((asw nS nO nF S O F th (q:Nat) q).trans ?_)).sub (Sub.refl _) ?_
  .rw[bI hq,aY,bZ hq,yB (by omega),pF,aQ (by omega)];rfl
  .unfold g1S;exact gZ ⟨Pk th q _ _ (h.si q hq),trivial⟩
 .refine aK (dB Pm [some 0]) aB ay aC ((azi nS nO nF S O F th (nS:Nat) nS).trans ?_);rw[bJ];rfl
theorem amZ(hs:nS<=1000)(E:nO<=1000)(h:Thg nS nO nF S O F th):bH bO (.loop (av aJh 1)) (g2S nO nF O F 0 (F5 th nS) nS) (.exit 2) (g2S nO nF O F nO (F5 th (nS+nO)) (nS+nO)):=by
 refine aP (λ q=>g2S nO nF O F (q:Nat) (F5 th (nS+q)) (nS+q)) nO (.exit 2) _ (by simp) (λ q hq=>?_) ?_
 .obtain⟨C,o,j⟩:=h.bo q hq;refine(aK (bB Pn [some 3]) aB (au aG ay) aC (s':=g2S nO nF O F ((q+1:Nat):Int) (thN th (nS+q) 125 (O q).c) (nS+q+1)) ((asx nO nF O F th (q:Nat) (nS+q)).trans ?_)).sub (Sub.refl _) ?_
  .rw[bI hq,aY,bZ hq,pF,ak (am0 o j),yB (by omega),aQ (by omega)];rfl
  .unfold g2S;exact gZ ⟨Pk th (nS+q) _ _ C,trivial⟩
 .refine aK (dB Pn [some 0]) aB (au aG ay) aC ((azj nO nF O F th (nO:Nat) (nS+nO)).trans ?_);rw[bJ];rfl
theorem am1(hs:nS<=1000)(C:nO<=1000)(hf:nF<=1000)(h:Thg nS nO nF S O F th):bH bO (.loop (av aJh 2)) (g3S nF F 0 (F5 th (nS+nO)) (nS+nO)) (.exit 4) (g3S nF F nF (F5 th (nS+nO+nF)) (nS+nO+nF)):=by
 refine aP (λ q=>g3S nF F (q:Nat) (F5 th (nS+nO+q)) (nS+nO+q)) nF (.exit 4) _ (by simp) (λ q hq=>?_) ?_
 .obtain⟨W,H,x,y,z,d,sk,tc,o,j⟩:=h.gd q hq;refine(aK (bB Po [some 3]) aB (au aG ay) aC (s':=g3S nF F ((q+1:Nat):Int) (thN th (nS+nO+q) 128 (Th.gd W H x y z d sk tc).c) (nS+nO+q+1)) ((asy nF F th (q:Nat) (nS+nO+q) W H x y z d sk tc).trans ?_)).sub (Sub.refl _) ?_
  .rw[bI hq,aY,bZ hq,pF,ak j,yB (by omega),aQ (by omega)];rfl
  .unfold g3S;exact gZ ⟨Pk th (nS+nO+q) _ _ o,trivial⟩
 .refine aK (dB Po [some 0]) aB (au aG ay) aC ((azk nF F th (nF:Nat) (nS+nO+nF) 0 0 0 0 0 0 0 []).trans ?_);rw[bJ];rfl
end
section
variable(nS nO nF:Nat)(S:Nat->FJ)(O:Nat->Iq)(F:Nat->Fm.Fd)(th:Nat->Th)
noncomputable def gaL:Nat->Option dY:=O8 [(3,wG Pm [(7,0,1)] (F5 th 0) [none] (g1S nS nO nF S O F 0 (F5 th 0) 0) (.exit 0) (g1S nS nO nF S O F nS (F5 th nS) nS)),(8,fF Pn [some 0] (g2S nO nF O F 0 (F5 th nS) nS) (.exit 2) (g2S nO nF O F nO (F5 th (nS+nO)) (nS+nO))),(13,fF Po [some 0] (g3S nF F 0 (F5 th (nS+nO)) (nS+nO)) (.exit 4) (g3S nF F nF (F5 th (nS+nO+nF)) (nS+nO+nF)))]
theorem aDP:ev bO [] [] (gaL nS nO nF S O F th) aJh [Jy nS S,vO nO O,vF nF F] ret=gate (Sub (g1S nS nO nF S O F 0 (F5 th 0) 0) (g1S nS nO nF S O F 0 (F5 th 0) 0)) (gate (Sub (g2S nO nF O F 0 (F5 th nS) nS) (g2S nO nF O F 0 (F5 th nS) nS)) (gate (Sub (g3S nF F 0 (F5 th (nS+nO)) (nS+nO)) (g3S nF F 0 (F5 th (nS+nO)) (nS+nO))) (some (Out.of (.sl 1 (nS+nO+nF) λ q=>[(th (0+q)).v]))))):=by kernel_rfl
variable{nS nO nF S O F th}
theorem afC(hs:nS<=1000)(j:nO<=1000)(hf:nF<=1000)(h:Thg nS nO nF S O F th):aj bO 25 [Jy nS S,vO nO O,vF nF F] (gM (nS+nO+nF) λ q=>(th q).v):=by refine aR aB ay Tryz.func25 (Aj (gq 0 3 (oo (amY hs h))) (Aj (gq 1 3 (aS (amZ hs j h))) (Aj (gq 2 3 (aS (am1 hs j hf h))) afr))) ((aDP nS nO nF S O F th).trans ?_);rw[ak (Sub.refl _),ak (Sub.refl _),ak (Sub.refl _)];unfold gM;simp only[ZO]
end
section
variable(F:Fm.Fd)(n:Nat)(p:Nat->Nat->Nat)(tv:Nat->AV)(tc:List AV)
noncomputable def kGo:List bf:=[kS bO 107 λ _=>.bK [.sl 13 n λ q=>Gy (p q) F.sk,iA 0],kS bO 25 λ _=>gM n tv,kS bO 24 λ _=>.ref tc 0]
theorem aAG:ev bO [] (kGo F n p tv tc) bC Tryz.f56 [.agg F.c] ret=gate (aj bO 107 [.agg F.c] (.bK [.sl 13 n λ q=>Gy (p q) F.sk,iA 0])) (gate (aj bO 25 [.sl 13 n λ q=>Gy (p q) F.sk,C8,C8] (gM n tv)) (gate (aj bO 24 [gM n tv] (.ref tc 0)) (some (Out.of (.agg (Th.gd F.W F.H (F.at_ 0) (F.at_ 1) (F.at_ 2) F.sd F.sk tc).c))))):=by kernel_rfl
variable{F n p tv tc}
variable{w l:Nat}{X:Nat->Int}{t:Tn}
theorem aow(F:Fm.Fd)(w:Nat)(Q:n<=1000):aj bO 25 [.sl 13 n λ q=>Gy (pc F w q) F.sk,C8,C8] (gM n (Fe F w)):=by have h:=afC (nS:=n) (nO:=0) (nF:=0) (S:=λ q=>⟨3,pc F w q,F.sk⟩) (O:=λ _=>⟨0,λ _=>⟨0,0,0,0,λ _=>0,0⟩,0⟩) (F:=λ _=>F) (th:=λ q=>.si 3 (pc F w q) F.sk) Q (by omega) (by omega) ⟨λ _ _=>rfl,λ q hq=>absurd hq (avm q),λ q hq=>absurd hq (avm q)⟩;refine aj.vD h λ E j hr=>?_;obtain⟨I,j,rfl,r0,hr⟩:=aD.1 hr;obtain⟨C,j,rfl,M,hr⟩:=aD.1 hr;obtain⟨o,j,rfl,J,hr⟩:=aD.1 hr;exact aD.2 ⟨I,_,rfl,r0,aD.2 ⟨C,_,rfl,ZU M,aD.2 ⟨o,_,rfl,ZU J,hr⟩⟩⟩
theorem aox(g:Fm.mQ F w l)(h:Grown (yC w l) (Fe F w) X t):aj bO 56 [.agg F.c] (.agg (QT F (yC w l) (Fe F w) (Me (Fe F w)) (t.cF (vB X))).c):=by
 have j:yC w l<=1000:=by have:=Fm.Ul g.d;omega
 refine aR aB (au aG (au aG (au aG ay))) Tryz.func56 aC ((aAG F (yC w l) (pc F w) (Fe F w) [gM (yC w l) (Fe F w),lD (yC w l) (Me (Fe F w)),.ref (t.cF (vB X)) 0]).trans ?_);rw[ak (Fm.agD g),ak (aow F w j)];exact ak h.of
end
section
variable(nS nO nF N:Nat)(S:Nat->FJ)(O:Nat->Iq)(F:Nat->Fm.Fd)(tv:Nat->AV)(tc:List AV)
noncomputable def kBu:List bf:=[kS bO 23 λ _=>iA 0,kS bO 25 λ _=>gM N tv,kS bO 24 λ _=>.ref tc 0]
theorem aE3:ev bO [] (kBu N tv tc) bC Tryz.f6 [Jy nS S,vO nO O,vF nF F] ret=gate (aj bO 23 [Jy nS S,vO nO O,vF nF F] (iA 0)) (gate (aj bO 25 [Jy nS S,vO nO O,vF nF F] (gM N tv)) (gate (aj bO 24 [gM N tv] (.ref tc 0)) (some (Out.of (.bK [.ref tc 0,iA 0]))))):=by kernel_rfl
end
structure asA(nS nO nF:Nat)(S:Nat->FJ)(O:Nat->Iq)(F:Nat->Fm.Fd):Prop where
 s:nS<=64
 o:nO<=8
 f:nF<=2
 S:∀q,q<nS->zQ (S q).k (S q).a (S q).sk
 O:∀q,q<nO->So.GU (O q).n (O q).P (O q).sk=0
 F:∀q,q<nF->∃w l,Fm.mQ (F q) w l
structure Built(nS nO nF:Nat)(S:Nat->FJ)(O:Nat->Iq)(F:Nat->Fm.Fd)(th:Nat->Th)(T:AV):Prop where
 all:U3 (nS+nO+nF) λ q=>(th q).v
 si:∀q,q<nS->(th q).v=(Th.si (S q).k (S q).a (S q).sk).v
 bo:∀q,q<nO->(th (nS+q)).v=(Th.bo (O q).n (λ i=>((O q).P i).c) (O q).sk).v
 gd:∀q,q<nF->∃w l B rt,Fm.mQ (F q) w l/\(th (nS+nO+q)).v=(QT (F q) (yC w l) (Fe (F q) w) B rt).v
 of:aj bO 6 [Jy nS S,vO nO O,vF nF F] (.bK [T,iA 0])
 tree:(nS+nO+nF=0/\∃(tv:Nat->AV) (B:Nat->Nat->Nat),T=tE tv 0 λ q=>Bn (B q))\/∃X t,Grown (nS+nO+nF) (λ q=>(th q).v) X t/\T=U8 (nS+nO+nF) (λ q=>(th q).v) (Me λ q=>(th q).v) (t.cF (vB X))
theorem built{nS nO nF:Nat}{S:Nat->FJ}{O:Nat->Iq}{F:Nat->Fm.Fd}(h:asA nS nO nF S O F):∃th T,Built nS nO nF S O F th T:=by
 have hf:∀q,∃G:Th,q<nF->(∃w l B C,Fm.mQ (F q) w l/\G=QT (F q) (yC w l) (Fe (F q) w) B C)/\(∃b,VS G.v b)/\aj bO 56 [.agg (F q).c] (.agg G.c):=λ q=>by
  by_cases hq:q<nF
  .obtain⟨w,l,g⟩:=h.F q hq;obtain⟨X,t,Q⟩:=grown (MR (F q) w (yC w l)) (Fm.apW g.d) (by have:=Fm.Ul g.d;omega);exact⟨_,λ _=>⟨⟨w,l,_,_,g,rfl⟩,⟨_,ak8 g Q⟩,aox g Q⟩⟩
  .exact⟨.si 0 (λ _=>0) 0,λ hc=>absurd hc hq⟩
 obtain⟨G,I⟩:=aIt hf;let th:Nat->Th:=λ i=>if i<nS then .si (S i).k (S i).a (S i).sk else if i<nS+nO then .bo (O (i - nS)).n (λ j=>((O (i - nS)).P j).c) (O (i - nS)).sk else G (i - nS - nO)
 have e1:∀q,q<nS->th q=.si (S q).k (S q).a (S q).sk:=λ q hq=>gH hq
 have e2:∀q,q<nO->th (nS+q)=.bo (O q).n (λ j=>((O q).P j).c) (O q).sk:=λ q hq=>by
  show(if _ then _ else _)=_
  rw[fP (by omega),gH (by omega),Nat.add_sub_cancel_left]
 have e3:∀q,q<nF->th (nS+nO+q)=G q:=λ q hq=>by
  show(if _ then _ else _)=_
  rw[fP (by omega),fP (by omega),show nS+nO+q - nS - nO=q by omega]
 have all:U3 (nS+nO+nF) λ q=>(th q).v:=λ i hi=>by
  by_cases J:i<nS
  .show ∃b,VS (th i).v b;rw[e1 i J];exact anJ (h.S i J)
  .by_cases h2:i<nS+nO
   .have:=e2 (i - nS) (by omega);rw[show nS+(i - nS)=i by omega]at this;show ∃b,VS (th i).v b;rw[this];exact anK (h.O _ (by omega))
   .have:=e3 (i - nS - nO) (by omega);rw[show nS+nO+(i - nS - nO)=i by omega]at this;show ∃b,VS (th i).v b;rw[this];exact(I _ (by omega)).2.1
 have E:Thg nS nO nF S O F th:=⟨λ q hq=>by rw[e1 q hq];rfl,λ q hq=>by
  obtain⟨a1,a2,_⟩:=So.LQ (h.O q hq);rw[e2 q hq];exact⟨rfl,by omega,by omega⟩,λ q hq=>by
  obtain⟨⟨w,l,B,C,_,e⟩,_,g⟩:=I q hq;rw[e3 q hq];rw[e]at g ⊢;exact⟨_,_,_,_,_,_,_,_,rfl,g⟩⟩
 have a1:=h.s;have a2:=h.o;have a3:=h.f
 have Z:aj bO 23 [Jy nS S,vO nO O,vF nF F] (iA 0):=agL h.s h.o h.f (λ q hq=>by
  obtain⟨b,g⟩:=Zd (h.S q hq);exact g.may) (λ q hq=>by
  have:=So.Ai (O q).n (O q).P (O q).sk;rw[h.O q hq]at this;exact this) λ q hq=>by
  obtain⟨w,l,g⟩:=h.F q hq;exact Fm.agC g
 have hg:=afC (S:=S) (O:=O) (F:=F) (by omega) (by omega) (by omega) E
 have gd:∀q,q<nF->∃w l B C,Fm.mQ (F q) w l/\(th (nS+nO+q)).v=(QT (F q) (yC w l) (Fe (F q) w) B C).v:=λ q hq=>by obtain⟨⟨w,l,B,C,g,e⟩,_,_⟩:=I q hq;exact⟨w,l,B,C,g,by rw[e3 q hq,e]⟩
 have U:∀tc,aj bO 24 [gM (nS+nO+nF) λ q=>(th q).v] (.ref tc 0)->aj bO 6 [Jy nS S,vO nO O,vF nF F] (.bK [.ref tc 0,iA 0]):=λ tc Y=>by refine aR aB (au aG (au aG (au aG ay))) Tryz.func6 aC ((aE3 nS nO nF (nS+nO+nF) S O F (λ q=>(th q).v) tc).trans ?_);rw[ak Z,ak hg,ak Y]
 by_cases M:nS+nO+nF=0
 .refine⟨th,_,all,λ q hq=>by rw[e1 q hq],λ q hq=>by rw[e2 q hq],gd,U _ (by rw[M];exact ZR _ λ _ _=>0),wV ⟨M,_,λ _ _=>0,rfl⟩⟩
 .obtain⟨X,t,g⟩:=grown all (by omega) (by omega);exact⟨th,_,all,λ q hq=>by rw[e1 q hq],λ q hq=>by rw[e2 q hq],gd,U _ g.of,Gc ⟨X,t,g,rfl⟩⟩
end Go.Proofs.YtdlhemnconimnaaGreat.Tr
namespace Go.Proofs.YtdlhemnconimnaaGreat.Hs.Sc
open Go.Gv So Fm
open Go.Ev (cn aM aU aX fdiv bD dG dR dN iB bW iL fabs)
theorem SX{E:Env}{a b c o:AV}{l:List AV}{v:Value}(hc:∀u,rel E c u->rel E o u)(h:rel E (.agg (a::b::c::l)) v):rel E (.agg (a::b::o::l)) v:=by obtain⟨C,e,h⟩:=ku.1 h;refine ku.2 ⟨C,e,?_⟩;obtain⟨M,j,q0,r0,h⟩:=aD.1 h;obtain⟨J,j,Z,U,h⟩:=aD.1 h;obtain⟨I,j,Y,Q,h⟩:=aD.1 h;exact aD.2 ⟨M,_,q0,r0,aD.2 ⟨J,_,Z,U,aD.2 ⟨I,_,Y,hc _ Q,h⟩⟩⟩
theorem as1(n:Nat)(hs:Nat->Int):ev bO [] [] bC aJZ [sI n hs,iA 0,iA 3] ret=some (Out.of (.x (.slice none 0 0))):=by kernel_rfl
theorem VR{n:Nat}{hs:Nat->Int}(h:Nf n hs){N:Nat}(j:N<=25):∃S:Nat->FJ,(∀q,q<N->Tr.zQ (S q).k (S q).a (S q).sk)/\aj bO 41 [sI n hs,iA (N:Nat),iA 3] (.sl 13 N λ q=>(S q).c):=by
 by_cases o:N=0
 .subst o;exact⟨λ _=>⟨0,λ _=>0,0⟩,λ q hq=>absurd hq (avm q),aj.Dx (aR aB ay aOo aC (as1 n hs)) λ _ _ hr=>afP hr⟩
 .exact QX h (by omega) j
theorem adq{n:Nat}{hs:Nat->Int}(h:Nf n hs)(o:n<=512){f:Nat}(hf:f<=50):∃y:Iq,So.GU y.n y.P y.sk=0/\aj bO 42 [sI n hs,iA (f:Nat),iA 3] (.agg y.c):=by obtain⟨m,PL,sk,M,J,I,E,C⟩:=So.aaS h o hf;refine⟨⟨m,PL,sk⟩,?_,C⟩;have j:∀q,q<m->Hw (PL q) (q:Nat)=0:=So.aBK I;show So.GU m PL sk=0;unfold So.GU;rw[iH (show ¬(m:Int)<1 by omega),iH (show ¬(m:Int)>16 by omega),So.ajz ⟨E.1,by omega⟩];exact So.MZ m λ q hq=>j q hq
theorem Vz{n:Nat}{hs:Nat->Int}(h:Nf n hs)(hn:n<=512){N:Nat}(h2:N<=25):∃s:Kq,Tr.asA s.nS s.nO s.nF s.S s.O s.F/\aj bO 16 [sI n hs,iA (N:Nat)] (.agg s.c):=by
 have h':∀i,i<n->-9223372036854775808<=hs i/\hs i<=9223372036854775807:=h;have Y:∀k m:Int,0<=k->0<m->0<=dD (dL n hs k) m/\dD (dL n hs k) m<m:=λ k m I hm=>jc (fU h' I).1 (fU h' I).2 hm;have r1:=Y 1 3 (by decide) (by decide);have r9:=Y 9 3 (by decide) (by decide);obtain⟨NL,hL,Q⟩:∃NL:Nat,dD (dL n hs 1) 3=(NL:Nat)/\NL<=3:=⟨(dD (dL n hs 1) 3).toNat,by omega,by omega⟩;obtain⟨NO,hO,J⟩:∃NO:Nat,dD (dL n hs 9) 3=(NO:Nat)/\NO<=3:=⟨(dD (dL n hs 9) 3).toNat,by omega,by omega⟩;obtain⟨S,o,hS⟩:=VR h h2;obtain⟨F,U,hF⟩:=VT h
 have hx:∀f:Int,∃y:Iq,∀g:Nat,f=(g:Nat)->g<=50->So.GU y.n y.P y.sk=0/\aj bO 42 [sI n hs,iA (g:Nat),iA 3] (.agg y.c):=λ f=>by
  by_cases hf:0<=f/\f<=50
  .obtain⟨y,I⟩:=adq h hn (f:=f.toNat) (by omega);refine⟨y,λ g hg _=>?_⟩;have:f.toNat=g:=by omega
   subst this;exact I
  .exact⟨⟨0,λ _=>⟨0,0,0,0,λ _=>0,0⟩,0⟩,λ g hg hg'=>absurd ⟨by omega,by omega⟩ hf⟩
 obtain⟨G,E⟩:=aIt hx;have hG:∀F:Nat,F<=50->aj bO 42 [sI n hs,iA (F:Nat),iA 3] (.agg (G (F:Nat)).c):=λ F hF=>(E (F:Nat) F rfl hF).2
 have C:∀q:Nat,q<NO->So.GU (G (aH (5+aH (7*(q:Int))))).n (G (aH (5+aH (7*(q:Int))))).P (G (aH (5+aH (7*(q:Int))))).sk=0:=λ q hq=>by
  have e:aH (5+aH (7*(q:Int)))=((5+7*q:Nat):Int):=by rw[aO (n:=7*(q:Int)),aO];omega
  rw[e];exact(E _ (5+7*q) rfl (by omega)).1
 have M:yx bO (scL n hs dD bU (dL n hs) (WM dD bU) (N:Nat) NL NO (λ q=>skN dD (dL n hs) (q:Nat)) (λ q=>pQ n hs (aH (17+aH (4*(q:Int)))) 6000) (λ q c=>lpN dD (dL n hs) (q:Nat) (c:Nat)) (λ q=>G (aH (5+aH (7*(q:Int))))) S N) (dH aIy) :=Aj (gq 0 6 (DZ amB)) (Aj (gq 2 6 (DZ (amC _ hL Q))) (Aj (gq 5 6 (DZ (amD hG _ _ _ _ _ _ _ _ _ hO J))) afr))
 have j:∀c,scX n hs dD bU (dL n hs) (WM dD bU) F (N:Nat) NL NO (λ q=>skN dD (dL n hs) (q:Nat)) (λ q=>pQ n hs (aH (17+aH (4*(q:Int)))) 6000) (λ q c=>lpN dD (dL n hs) (q:Nat) (c:Nat)) (λ q=>G (aH (5+aH (7*(q:Int))))) S N=some (Out.of (.agg c))->aj bO 16 [sI n hs,iA (N:Nat)] (.agg c):=λ c hc =>So.oP ayI wP (au aG (au aG (au aG (au aG (au aG ay))))) aV Tryz.func16 M ((aDq n hs dD bU (dL n hs) (pQ n hs) (WM dD bU) F (N:Nat) NL NO _ _ _ _ S N).trans hc)
 unfold scX gMi at j;rw[dO (by decide),ak (afp _),dO (by decide),ak (afp _),dO (by decide),ak (Sub.refl _),ak (Sub.refl _),dO (by decide),dO (by decide),dO (by decide),ak hS,ak (Sub.refl _),dO (by decide),ak hF]at j;unfold scO at j;rw[au4,au4]at j;let e:Nat->Nat:=ls [WM dD bU (dL n hs 3) 2000,WM dD bU (dL n hs 4) 2000,13842939354630062080,0,0,0,0,4607182418800017408,0,bU (aH (500+dD (dL n hs 5) 1500))];let u:Nat->Int:=λ q=>match q with | 0=>Cw dD (dL n hs) 0 | 1=>Cw dD (dL n hs) 1 |_=>Cw dD (dL n hs) 2
 cases Z:dD (dL n hs 8) 3==0
 .rw[Z]at j;exact⟨⟨N,S,NO,λ q=>G (aH (5+aH (7*(q:Int)))),0,λ _=>F,3,λ q=>skN dD (dL n hs) (q:Nat),NL,λ q=>pQ n hs (aH (17+aH (4*(q:Int)))) 6000,λ q c=>lpN dD (dL n hs) (q:Nat) (c:Nat),u,e⟩,⟨(by show N<=64;omega),(by show NO<=8;omega),(by show 0<=2;omega),o,C,λ q hq=>absurd hq (avm q)⟩,aj.Dx (j _ rfl) λ _ _ hr=>SX (λ _=>afP) hr⟩
 .rw[Z]at j;exact⟨⟨N,S,NO,λ q=>G (aH (5+aH (7*(q:Int)))),1,λ _=>F,3,λ q=>skN dD (dL n hs) (q:Nat),NL,λ q=>pQ n hs (aH (17+aH (4*(q:Int)))) 6000,λ q c=>lpN dD (dL n hs) (q:Nat) (c:Nat),u,e⟩,⟨(by show N<=64;omega),(by show NO<=8;omega),(by show 1<=2;omega),o,C,λ q hq=>U⟩,aj.Dx (j _ rfl) λ _ _ hr=>SX (λ _ h=>ql h λ _ _=>rfl) hr⟩
end Go.Proofs.YtdlhemnconimnaaGreat.Hs.Sc
namespace Go.Proofs.YtdlhemnconimnaaGreat.Tr
open Go.Gv Hs
open Go.Ev (cn aM aU aX fdiv bD dG dR dN iB bW iL fabs aF key bS dU)
open Hs.So (kC FI)
open Hs.Sc (FJ Iq Kq)
open Hs.Fm (yC)
def oB(b:Bool):Option Out:=some (Out.of (bA b))
section
variable(s:Kq)(i:Int)(r:Nat->Nat)(t:Nat)(ok:Bool)(e:Int)(u:Bool)(l p:Int)
noncomputable def axw:List bf:=[kS bO 45 λ _=>.bK [.f t,bA ok,iA e],kS bO 46 λ _=>.bK [.agg [.f t,iA l,bA u],bA ok,iA e],kS bO 47 λ _=>.bK [iA p,.f t,bA ok,iA e]]
def U0:Option Out:=some (Out.of (.bK [.f t,bA ok,bA (e==0)]))
noncomputable def stX:Option Out:=cond (decide (aH (i - s.nS)<0)) (gate (aj bO 45 [.agg (s.S i.toNat).c,RY r] (.bK [.f t,bA ok,iA e])) (cond ((iP i s.nS||false)&&true) (U0 t ok e) none))
 (cond (decide (aH (aH (i - s.nS) - s.nO)<0)) (gate (aj bO 46 [.agg (s.O (aH (i - s.nS)).toNat).c,RY r] (.bK [.agg [.f t,iA l,bA u],bA ok,iA e])) (cond ((iP (aH (i - s.nS)) s.nO||false)&&true) (U0 t ok e) none))
 (gate (aj bO 47 [.agg (s.F (aH (aH (i - s.nS) - s.nO)).toNat).c,RY r] (.bK [iA p,.f t,bA ok,iA e])) (cond ((iP (aH (aH (i - s.nS) - s.nO)) s.nF||false)&&true) (U0 t ok e) none)))
end
def kPk(pf:Int->Int->Int):List AV->AV
 | [.x (.int .i64 c),.x (.int .i64 k)]=>iA (pf c k)
 |_=>.any
def kSk(tf:Int->Nat)(kf gf:Int->Bool):List AV->AV
 | [_,.x (.int .i64 i),_]=>.bK [.f (tf i),bA (kf i),bA (gf i)]
 |_=>.any
section
variable(n:Nat)(hs:Nat->Int)(pf:Int->Int->Int)(s:Kq)(n0 k w:Int)(r:Nat->Nat)(tc:List AV)(F:kE)(tf:Int->Nat)(kf gf:Int->Bool)(a:Bool)
def vM:Int:=aH (aH ((s.nS:Int)+s.nO)+s.nF)
noncomputable def kTn:List bf:=[kS bO 17 (kPk pf),kS bO 16 λ _=>.agg s.c,kS bO 18 λ _=>RY r,kS bO 6 λ _=>.bK [.ref tc 0,iA 0],kS bO 8 λ _=>QM F 0,kS bO 22 (kSk tf kf gf),kS bO 11 λ _=>.bK [bA a,iA 0]]
noncomputable def gSk(i:Int)(o:Option Out):Option Out:=gate (aj bO 22 [.agg s.c,iA i,RY r] (.bK [.f (tf i),bA (kf i),bA (gf i)])) o
def tnB:Bool:=cond (cond (decide (F.w< -1)) true (decide (F.w≥vM s))) true (cond (decide (F.w<0)) (!dR F.t 0) false)
def abL:Bool:=cond (cond (cond (cond (!kf F.w) true (!gf F.w)) true (!dR (tf F.w) F.t)) true a) true false
def tnD(i:Int):Bool:=cond (gf i) (cond (!kf i) true (cond (decide (F.w≥0)) (cond (dN F.t (tf i)) true (cond (dR F.t (tf i)) (decide (F.w<=i)) false)) false)) false
noncomputable def U1:Option Out:=cond (vM s==0) (oB (F.w==-1)) (gate (aj bO 17 [iA w,iA (vM s)] (iA (pf w (vM s)))) (gSk s r tf kf gf (pf w (vM s)) (oB (tnD F tf kf gf (pf w (vM s))))))
noncomputable def U2:Option Out:=cond (decide ((n:Int)>512)) (oB true) (gate (aj bO 17 [iA n0,iA 25] (iA (pf n0 25))) (gate (aj bO 16 [sI n hs,iA (pf n0 25)] (.agg s.c)) (gate (aj bO 17 [iA k,iA 64] (iA (pf k 64))) (gate (aj bO 18 [sI n hs,iA (pf k 64)] (RY r)) (gate (aj bO 6 [s.vS,s.vO,s.vF] (.bK [.ref tc 0,iA 0])) (gate (aj bO 8 [.ref tc 0,RY r] (QM F 0)) (cond (tnB s F) (oB false) (cond (decide (F.w≥0)) (gSk s r tf kf gf F.w (gate (aj bO 11 [.ref tc 0,RY r,.f F.t] (.bK [bA a,iA 0])) (cond (abL F tf kf gf a) (oB false) (U1 pf s w r F tf kf gf)))) (U1 pf s w r F tf kf gf)))))))))
end
section
variable(s:Kq)(i:Int)(r:Nat->Nat)(t:Nat)(ok:Bool)(e:Int)(u:Bool)(l p:Int)
theorem aDQ:ev bO [] (axw t ok e u l p) bC Tryz.f22 [.agg s.c,iA i,RY r] ret=stX s i r t ok e u l p:=by kernel_rfl
end
section
variable(n:Nat)(hs:Nat->Int)(pf:Int->Int->Int)(s:Kq)(n0 k w:Int)(r:Nat->Nat)(tc:List AV)(F:kE)(tf:Int->Nat)(kf gf:Int->Bool)(a:Bool)
theorem aDU:ev bO [] (kTn pf s r tc F tf kf gf a) bC Tryz.f5 [sI n hs,iA n0,iA k,iA w] ret=U2 n hs pf s n0 k w r tc F tf kf gf a:=by kernel_rfl
end
open Hs.So (Nf)
theorem asz{n:Int}(h:(Lit.int .i64 n).wf=true):-9223372036854775808<=n/\n<=9223372036854775807:=by
 have j:IntKind.i64.min<=n/\n<=IntKind.i64.max:=by simpa[Lit.wf]using h
 rw[show IntKind.i64.min=-9223372036854775808 by decide,show IntKind.i64.max=9223372036854775807 by decide]at j;exact j
section
variable{s:Kq}{th:Nat->Th}{T:AV}{r:Nat->Nat}
theorem ac1(hf:asA s.nS s.nO s.nF s.S s.O s.F)(b:Built s.nS s.nO s.nF s.S s.O s.F th T)(hr:gP r=0){i:Nat}(hi:i<s.nS+s.nO+s.nF):aj bO 22 [.agg s.c,iA (i:Nat),RY r] (.bK [.f (qd r (λ q=>(th q).v) i).1.t,bA (qd r (λ q=>(th q).v) i).2,bA true]):=by
 have L:Law (th i).v r (qd r (λ q=>(th q).v) i):=(yG (b.all i hi) r).2.2;generalize qd r (λ q=>(th q).v) i=x at L ⊢;have a1:=hf.s;have Q:=hf.o;have M:=hf.f
 have C:∀(u:Bool) (l p:Int),stX s (i:Nat) r x.1.t x.2 0 u l p=U0 x.1.t x.2 0->aj bO 22 [.agg s.c,iA (i:Nat),RY r] (.bK [.f x.1.t,bA x.2,bA true]):=λ u l p h =>aR aB (au aG (au aG (au aG ay))) Tryz.func22 aC ((aDQ s (i:Nat) r x.1.t x.2 0 u l p).trans h)
 by_cases j:i<s.nS
 .obtain⟨e,g,ge⟩:=L.si (s.S i).k (s.S i).a (s.S i).sk (b.si i j);obtain rfl:e=0:=ge (hf.S i j) hr;refine C false 0 0 ?_;unfold stX;rw[aO (n:=(i:Int) - s.nS),gG (show(i:Int) - s.nS<0 by omega),aY,pF,ak g,bZ j];rfl
 .have e1:aH ((i:Int) - s.nS)=((i - s.nS:Nat):Int):=by rw[aO];omega
  by_cases J:i<s.nS+s.nO
  .have hv:=b.bo (i - s.nS) (by omega);rw[show s.nS+(i - s.nS)=i by omega]at hv;obtain⟨z,g,I⟩:=L.bo _ _ _ hv;obtain rfl:z=0:=I hr;refine C x.1.u x.1.p 0 ?_;unfold stX;rw[e1,iH (show ¬((i - s.nS:Nat):Int)<0 by omega),eU,aO (n:=((i - s.nS:Nat):Int) - s.nO),gG (show((i - s.nS:Nat):Int) - s.nO<0 by omega),aY,pF,bZ (show i - s.nS<s.nO by omega)];exact ak g
  .have e2:aH (((i - s.nS:Nat):Int) - s.nO)=((i - s.nS - s.nO:Nat):Int):=by rw[aO];omega
   obtain⟨w,l,B,E,gd,hv⟩:=b.gd (i - s.nS - s.nO) (by omega);rw[show s.nS+s.nO+(i - s.nS - s.nO)=i by omega]at hv;obtain⟨p,g,_⟩:=L.gd _ w l B E gd hv hr;refine C false 0 p ?_;unfold stX;rw[e1,iH (show ¬((i - s.nS:Nat):Int)<0 by omega),eU,e2,iH (show ¬((i - s.nS - s.nO:Nat):Int)<0 by omega),eU,pF,ak g,bZ (show i - s.nS - s.nO<s.nF by omega)];rfl
end
section
variable{s:Kq}{H:Nat->kE × Bool}{F:kE}{N:Nat}
theorem asB{hf:asA s.nS s.nO s.nF s.S s.O s.F}:vM s=((s.nS+s.nO+s.nF:Nat):Int):=by have a1:=hf.s;have C:=hf.o;have j:=hf.f;unfold vM;rw[aO (n:=(s.nS:Int)+s.nO),aO];omega
theorem aDR(ha:vM s=(N:Nat))(hF:u6 H N F):tnB s F=false:=by
 by_cases j:0<=F.w
 .have o:=(hF.one j).1;unfold tnB;rw[ha,iH (show ¬F.w< -1 by omega),iH (show ¬F.w≥(N:Nat) by omega),iH (show ¬F.w<0 by omega)];rfl
 .rw[(hF.non (by omega)).1];unfold tnB;rw[ha,iH (show ¬Hu.w≥(N:Nat) by show ¬(-1:Int)≥_;omega)];decide +kernel
def tI(H:Nat->kE × Bool)(i:Int):Nat:=(H i.toNat).1.t
def kI(H:Nat->kE × Bool)(i:Int):Bool:=(H i.toNat).2
def gT:Int->Bool:=λ _=>true
theorem aDS(hF:u6 H N F)(I:0<=F.w):abL F (tI H) (kI H) gT false=false:=by obtain⟨_,E,C,o⟩:=hF.one I;have j:(H F.w.toNat).1.t=F.t:=(congrArg kE.t C).symm;unfold abL tI kI gT;rw[E,j,Hs.So.DK o];rfl
theorem aDT(hF:u6 H N F)(I:∀j,j<N->(H j).2=true->aF (H j).1.t=false){j:Nat}(C:j<N):tnD F (tI H) (kI H) gT (j:Nat)=true:=by
 unfold tnD tI kI gT;rw[pF];cases o:(H j).2
 .rfl
 .by_cases E:0<=F.w
  .have f:=hF.fst E j C o;unfold bt gI at f;rw[pF]at f;have f:¬(key (H j).1.t<key F.t\/key (H j).1.t=key F.t/\(j:Int)<F.w):=f;rw[gG (show F.w≥0 from E),bS (hF.one E).2.2.2 (I j C o),dU (hF.one E).2.2.2 (I j C o)];by_cases J:key F.t<key (H j).1.t
   .rw[gG J];rfl
   .have M:key F.t=key (H j).1.t:=by omega
    rw[iH J,gG M,gG (show F.w<=(j:Int) by omega)];rfl
  .have:=(hF.non (by omega)).2 j C;rw[this]at o;cases o
end
theorem Pp{n:Nat}{hs:Nat->Int}(h:Nf n hs){n0 k w:Int}(h0:-9223372036854775808<=n0/\n0<=9223372036854775807)(h1:-9223372036854775808<=k/\k<=9223372036854775807)(h2:-9223372036854775808<=w/\w<=9223372036854775807):aj bO 5 [sI n hs,iA n0,iA k,iA w] (bA true):=by
 have go:∀s r tc F tf kf gf a,U2 n hs dD s n0 k w r tc F tf kf gf a=oB true->aj bO 5 [sI n hs,iA n0,iA k,iA w] (bA true):=λ s r tc F tf kf gf a hx =>aR aB (au aG (au aG (au aG (au aG (au aG (au aG (au aG ay))))))) Tryz.func5 aC ((aDU n hs dD s n0 k w r tc F tf kf gf a).trans hx)
 by_cases hn:n<=512
 .obtain⟨N,hN,hN2⟩:∃N:Nat,dD n0 25=(N:Nat)/\N<=25:=by have:=jc (m:=25) h0.1 h0.2 (by decide);exact⟨(dD n0 25).toNat,by omega,by omega⟩
  obtain⟨f,hf,hf2⟩:∃f:Nat,dD k 64=(f:Nat)/\f<=100:=by have:=jc (m:=64) h1.1 h1.2 (by decide);exact⟨(dD k 64).toNat,by omega,by omega⟩
  obtain⟨s,C,hs1⟩:=Hs.Sc.Vz h hn hN2;obtain⟨r,hr1,hr⟩:=Hs.So.am2 h hf2;obtain⟨th,T,b⟩:=built C;have ha:=asB (hf:=C);have st:∀j:Nat,j<s.nS+s.nO+s.nF->aj bO 22 [.agg s.c,iA (j:Nat),RY r] (.bK [.f (tI (qd r λ q=>(th q).v) (j:Nat)),bA (kI (qd r λ q=>(th q).v) (j:Nat)),bA (gT (j:Nat))]):=λ j Y=>ac1 C b hr Y;have M:gP (r7 r)=0:=hr;have U:=b.all;have hof:aj bO 6 [s.vS,s.vO,s.vF] (.bK [T,iA 0]):=b.of
  have pre:∀tc F a,T=.ref tc 0->aj bO 8 [.ref tc 0,RY r] (QM F 0)->u6 (qd r λ q=>(th q).v) (s.nS+s.nO+s.nF) F->(0<=F.w->aj bO 11 [.ref tc 0,RY r,.f F.t] (.bK [bA false,iA 0]))->a=false->aj bO 5 [sI n hs,iA n0,iA k,iA w] (bA true):=λ tc F a eT E hF Z ea=>by
   subst eT ea
   have hE:U1 dD s w r F (tI (qd r λ q=>(th q).v)) (kI (qd r λ q=>(th q).v)) gT=oB true:=by
    unfold U1;by_cases hz:s.nS+s.nO+s.nF=0
    .have J:F=Hu:=by
      by_cases I:0<=F.w
      .have:=(hF.one I).1;omega
      .exact(hF.non (by omega)).1
     rw[ha,hz,J];rfl
    .rw[ha,mI (show((s.nS+s.nO+s.nF:Nat):Int)≠0 by omega),eU];have g:=jc (m:=((s.nS+s.nO+s.nF:Nat):Int)) h2.1 h2.2 (by omega);rw[ak (WR (by rw[mI (show((s.nS+s.nO+s.nF:Nat):Int)≠0 by omega)];rfl))];obtain⟨j,Y,Q⟩:∃j:Nat,dD w ((s.nS+s.nO+s.nF:Nat):Int)=(j:Nat)/\j<s.nS+s.nO+s.nF:=⟨(dD w ((s.nS+s.nO+s.nF:Nat):Int)).toNat,by omega,by omega⟩;rw[Y];unfold gSk;rw[ak (st j Q),aDT hF (λ q hq hk=>((abS U q hq) hk).1) Q]
   refine go s r tc F (tI (qd r λ q=>(th q).v)) (kI (qd r λ q=>(th q).v)) gT false ?_;unfold U2;rw[iH (show ¬(n:Int)>512 by omega),eU,ak (WR (by decide)),hN,ak hs1,ak (WR (by decide)),hf,ak hr1,ak hof,ak E,aDR ha hF,eU,hE];by_cases J:F.w≥0
   .have hlt:=(hF.one J).1;have sw:=st F.w.toNat (by omega);rw[Int.toNat_of_nonneg J]at sw;rw[gG J,aY];unfold gSk;rw[ak sw,ak (Z J),aDS hF J,eU]
   .rw[iH J,eU]
  rcases b.tree with⟨hz,tv,B,rfl⟩ | ⟨X,t,g,rfl⟩
  .have E:=QN (tv:=tv) (bn:=0) (be:=λ q=>Bn (B q)) (r:=r);rw[M]at E;refine pre _ Hu false rfl E ⟨λ _=>⟨rfl,λ j Y=>by omega⟩,λ I=>absurd I (by decide),λ I=>absurd I (by decide)⟩ (λ I=>absurd I (by decide)) rfl
  .have sz:s.nS+s.nO+s.nF<=1000:=by have a1:=C.s;have a2:=C.o;have a3:=C.f;omega
   have E:=g.nearest (r:=r) U sz;rw[M]at E;have hF:=g.first (r:=r) U;refine pre _ _ false rfl E hF (λ I=>?_) rfl;have Z:=g.any (r:=r) U sz (iR (qd r λ q=>(th q).v) X r t Hu).t;rw[M,agj g.ok g.pb (abS U) hF I]at Z;exact Z
 .let s0:Kq:=⟨0,λ _=>⟨0,λ _=>0,0⟩,0,λ _=>⟨0,λ _=>⟨0,0,0,0,λ _=>0,0⟩,0⟩,0,λ _=>⟨0,0,λ _=>0,0,0,λ _=>0,0⟩,0,λ _ _=>0,0,λ _ _=>0,λ _ _=>0,λ _=>0,λ _=>0⟩;refine go s0 Hs.FR [] Hu (λ _=>0) (λ _=>false) (λ _=>false) false ?_;unfold U2;rw[gG (show(n:Int)>512 by omega)];rfl
end Go.Proofs.YtdlhemnconimnaaGreat.Tr
namespace Go.Proofs.YtdlhemnconimnaaGreat
open Go.Gv Go.RowKit Go.ChangeShapes Go.WideShapes Go.ChangeAt
def rsl(n:Nat)(hs:Nat->Int):AV:=.sl 1 n λ i=>[iA (hs i)]
theorem Pw{H:Type}{enc:TypeId × Value->H}{P:Program}{w:World}{r:Reach}{M:Nat}{t:TypeId}{v:Value}{d:DataW H}{p:List MemPlace}{k:IntKind}(E:P.underlying t=some (.int k))(I:SF P 1 t=some [.i k])(hv:Value.okWide P w r M t v)
  (h:DataW.Trod enc P w 0 (λ _=>true) true t v d p):∃n,rel (Env.all w) (.x (.int k n)) v/\(Lit.int k n).wf=true:=by
 have j:v.cells=#[v]:=by obtain⟨n,rfl,_⟩:=okWide_int E hv;rfl
 obtain⟨fuel,hf⟩:=h;obtain⟨a,o,J⟩:=Zk hf I j;rw[Fv]at o;obtain⟨n,rfl,C⟩:=o;exact⟨n,J,C⟩
def numOf(el:Nat->List AV)(i:Nat):Int:=match el i with
 | [.x (.int .i64 h)]=>h
 |_=>0
theorem asE{E:Env}{sz n:Nat}{el uL:Nat->List AV}{v:Value}(h:rel E (.sl sz n el) v)(I:∀i,i<n->uL i=el i):rel E (.sl sz n uL) v:=by
 have h:bY _ _ _:=h;show bY _ _ _;rw[bY]at h ⊢;obtain⟨a,c,Z,Y,j⟩:=h;refine⟨a,c,Z,Y,?_⟩;rcases j with j | ⟨b,o,cs,e,fz,U,Q,M,J⟩
 .exact wV j
 .exact Gc ⟨b,o,cs,e,fz,U,Q,M,λ i C=>by rw[I i C];exact J i C⟩
theorem Zl{k:Kd}{j:List AV}(h:uF [k] j):∃a,j=[a]/\Fv k a:=by
 match j,h with
 | [a],h=>exact⟨a,rfl,(sU.1 h).1⟩
 | [],h=>have:=uG h;simp at this
 |_::_::_,h=>have:=uG h;simp at this
theorem am5{H:Type}{enc:TypeId × Value->H}{P:Program}{w:World}{r:Reach}{Z:Nat}{t e:TypeId}{v:Value}{d:DataW H}{p:List MemPlace}(M:P.underlying t=some (.slice e))(Q:SF P 2 t=some [.l 1 [.i .i64]])(hv:Value.okWide P w r Z t v)
  (h:DataW.Trod enc P w 0 (λ _=>true) true t v d p):∃n hs,rel (Env.all w) (rsl n hs) v/\∀i,i<n->(Lit.int .i64 (hs i)).wf=true:=by
 have j:v.cells=#[v]:=by obtain⟨a,len,Y,rfl⟩:=okWide_slice M hv;rfl
 obtain⟨fuel,hf⟩:=h;obtain⟨a,I,U⟩:=Zk hf Q j;rw[Fv]at I;obtain⟨n,el,rfl,_,C⟩:=I
 have key:∀i,i<n->el i=[iA (numOf el i)]/\(Lit.int .i64 (numOf el i)).wf=true:=λ i o=>by
  obtain⟨a,E,hf⟩:=Zl (C i o);rw[Fv]at hf;obtain⟨m,rfl,J⟩:=hf;have e:numOf el i=m:=by unfold numOf;rw[E]
  rw[e];exact⟨E,J⟩
 exact⟨n,numOf el,asE U λ i o=>(key i o).1.symm,λ i o=>(key i o).2⟩
end Go.Proofs.YtdlhemnconimnaaGreat
