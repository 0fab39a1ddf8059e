/- Texts, one behind the other. -/
import Derived.Test.YtdlhemnconimnaaGreatC4
import Derived.Test.YtdlhemnconimnaaGreatC2
open Bool renaming and_eq_true->CX,and_true->aMo,eq_iff_iff->aJP,false_eq_true->aFs
open Go.Proofs.Tryz renaming f109->aNf,f117->aNh,f127->aNg,f130->aJN,f133->aIe,f135->aKl,f159->aOC,f160->aLJ,f166->aIf,f185->aKj,f187->aIQ,f19->aLh,f200->aNe,f201->aH5,f26->aKk,f288->aNc,f296->aNd,f45->aOM,f49->aOK,f51->aJz,f62->aKK,f87->aOL,f88->aLg,f90->aMF,f97->aKi,func109->aLD,func117->aJO,func127->aLE,func130->aIP,func137->aNV,func153->aKy,func159->aNW,func160->aKz,func166->aNZ,func185->aJb,func19->aKb,func200->aLC,func201->aN0,func26->aIZ,func288->aLA,func296->aLB,func45->aOg,func49->aOf,func51->aMn,func62->aIc,func87->aMl,func88->aKa,func97->aHL,prog->bO
open Int renaming emod_lt_of_pos->aKu,emod_nonneg->aK1,le_of_lt->aOi,le_refl->af2,lt_or_gt_of_ne->aMQ,mul_assoc->aNX,mul_le_mul_of_nonneg_right->aI0,mul_neg_of_neg_of_pos->aLa,mul_one->aJ2,mul_pos->aOs,mul_zero->aLb,natAbs_mul->aHq,natCast_nonneg->avq,pow_pos->aOr,tmod_eq_emod_of_nonneg->aJc,toNat_natCast->pF,zero_mul->aHU
open List renaming all_cons->aIk,all_eq_true->ab3,append_assoc->aHN,append_nil->aJS,concat_eq_append->aLI,drop_eq_getElem_cons->aJl,drop_length->aKF,eq_nil_or_concat->aLH,find?_cons->aNl,flatMap_cons->aJr,flatMap_nil->aMY,foldl_append->aMR,getD_eq_getElem?_getD->Gd,getElem?_append_left->aiK,getElem?_append_right->aqb,getElem?_cons_succ->aJA,getElem?_eq_getElem->Ga,getElem?_eq_none->apa,getElem?_eq_some_iff->abK,getElem?_map->aG1,getElem_mem->aJk,length_append->aiR,length_cons->aBz,length_eq_zero_iff->aH8,length_nil->aKc,length_singleton->aJR,length_take->aFk,mem_append->aIm,mem_append_left->aH6,mem_append_right->aHt,mem_cons->aHJ,mem_cons_of_mem->aHs,mem_cons_self->aD0,mem_flatMap->aIa,mem_iff_getElem->aKh,mem_iff_getElem?->aG7,mem_of_getElem?->ajw,mem_singleton->aGx,nodup_cons->aKP,pairwise_append->aJ3,pairwise_cons->aMG,pairwise_singleton->aLj,take_length->aIx,take_zero->aKt
open Nat renaming add_comm->aI1,add_le_add->aID,add_le_add_left->aKe,add_mul->auK,add_sub_cancel->aIj,beq->amH,blt->Tv,div_add_mod->aEO,div_div_eq_div_mul->aBu,div_eq_of_lt->aHw,div_le_div_right->aJd,div_one->aJe,eq_of_beq_eq_true->aiL,eq_of_testBit_eq->aMm,eq_or_lt_of_le->aIF,le_div_iff_mul_le->axF,le_log2->aJq,le_of_ble_eq_true->Ou,le_refl->ND,le_trans->aa2,log2_eq_iff->aNx,log2_lt->aNJ,log2_self_le->aHK,lt_log2_self->aId,lt_of_lt_of_le->anS,lt_trichotomy->aJQ,min_eq_left->aJH,min_le_right->aI8,mod_eq_of_lt->aG8,mod_lt->aHY,mul_add->aHx,mul_assoc->arA,mul_comm->aEw,mul_div_mul_right->aL9,mul_le_mul->aHI,mul_le_mul_left->apL,mul_le_mul_right->ahL,mul_le_mul_right_iff->aLi,mul_left_comm->aIi,mul_lt_mul_of_pos_right->aI5,mul_one->aHo,mul_pos->aLG,not_lt_zero->avm,one_mul->aHp,one_shiftLeft->aMX,pow_add->ahO,pow_le_pow_right->agX,pow_succ->aBg,pow_zero->axO,shiftLeft_eq->aG6,sub_add_cancel->aKv,sub_self->aIr,testBit_lt_two_pow->aLF,testBit_or->aMi,testBit_two_pow->aME,testBit_xor->aNy,two_pow_add_eq_or_of_lt->aK2,two_pow_pos->aaZ,zero_add->ZO,zero_div->aK9,zero_le->alz,zero_min->aOh,zero_mul->aH1
open Option renaming bind_some->aH4,getD_some->apP,map_some->aaF
open Option.some renaming inj->aKf,injEq->gU
open Or renaming inl->wV,inr->Gc
open Prod.mk renaming injEq->Ew
noncomputable section
namespace Go.Proofs.YtdlhemnconimnaaGreat.Hs
open Go.Gv
open Go.Ev (cn aM aU aX fdiv bD dG dR dN iB bW iL fabs)
def eKd:List AV->Option AV
 | [.agg [.x (.int .i64 k),.f a0,.f a1,.f a2,.f a3,.f a4,.f a5,.f a6,.f a7,.f a8,.f a9,.f ME,.x (.int .i64 sk)]]=>cond (k==1) (some (.jd 242 (.agg [.x (.int .i64 k),.f a0,.f a1,.f a2,.f a3,.f a4,.f a5,.f a6,.f a7,.f a8,.f a9,.f ME,.x (.int .i64 sk)]))) (cond (k==2) (some (.jd 243 (.agg [.x (.int .i64 k),.f a0,.f a1,.f a2,.f a3,.f a4,.f a5,.f a6,.f a7,.f a8,.f a9,.f ME,.x (.int .i64 sk)]))) (cond (k==3) (some (.jd 244 (.agg [.x (.int .i64 k),.f a0,.f a1,.f a2,.f a3,.f a4,.f a5,.f a6,.f a7,.f a8,.f a9,.f ME,.x (.int .i64 sk)]))) (cond (k==4) (some (.jd 245 (.agg [.x (.int .i64 k),.f a0,.f a1,.f a2,.f a3,.f a4,.f a5,.f a6,.f a7,.f a8,.f a9,.f ME,.x (.int .i64 sk)]))) (cond (k==5) (some (.jd 246 (.agg [.x (.int .i64 k),.f a0,.f a1,.f a2,.f a3,.f a4,.f a5,.f a6,.f a7,.f a8,.f a9,.f ME,.x (.int .i64 sk)]))) (cond (k==6) (some (.jd 247 (.agg [.x (.int .i64 k),.f a0,.f a1,.f a2,.f a3,.f a4,.f a5,.f a6,.f a7,.f a8,.f a9,.f ME,.x (.int .i64 sk)]))) (none))))))
 |_=>none
theorem auy(k:Int)(a:Nat->Nat)(sk:Int):ev bO [] [] bC Tryz.f137 [SH k a sk] ret=cond (k==1) (some (Out.of (.jd 242 (SH k a sk)))) (cond (k==2) (some (Out.of (.jd 243 (SH k a sk)))) (cond (k==3) (some (Out.of (.jd 244 (SH k a sk)))) (cond (k==4) (some (Out.of (.jd 245 (SH k a sk)))) (cond (k==5) (some (Out.of (.jd 246 (SH k a sk)))) (cond (k==6) (some (Out.of (.jd 247 (SH k a sk)))) (some (Out.of (.x .nilIface)))))))):=by kernel_rfl
theorem awT:jr bO ⟨137,eKd⟩:=λ K r hr=>by
 simp only[eKd]at hr;split at hr
 .rename_i k a0 a1 Y W U S Q O N M Z sk;refine wV (sp aB aNV ((auy k (ls [a0,a1,Y,W,U,S,Q,O,N,M,Z]) sk).trans ?_));cases h:k==1
  case true=>rw[h]at hr;cases hr;rfl
  case false =>
  cases C:k==2
  case true=>rw[h,C]at hr;cases hr;rfl
  case false =>
  cases E:k==3
  case true=>rw[h,C,E]at hr;cases hr;rfl
  case false =>
  cases F:k==4
  case true=>rw[h,C,E,F]at hr;cases hr;rfl
  case false =>
  cases I:k==5
  case true=>rw[h,C,E,F,I]at hr;cases hr;rfl
  case false =>
  cases J:k==6
  case true=>rw[h,C,E,F,I,J]at hr;cases hr;rfl
  case false =>
  rw[h,C,E,F,I,J]at hr;cases hr
 .cases hr
def jN(sk:Int):Bool:=cond (decide (sk<0)) true (decide (sk≥16))
def Kk(a:Nat->Nat):Bool:=cond (cond (cond (cond (!fE (a 0) (a 1) (a 2)) true (!fE (a 3) (a 4) (a 5))) true (!fE (a 6) (a 7) (a 8))) true (!iF (a 9))) true (!iF (a 10))
def IU(e:Int):Option Out:=some (Out.of (.bK [.x .nilIface,iA e]))
def zR(T:Nat)(v:AV):Option Out:=some (Out.of (.bK [.jd T v,iA 0]))
def knX(a:Nat->Nat)(sk m:Int)(b:Nat->Nat)(o:Option Out):Option Out:=cond (jN sk) (IU 4) (cond (Kk a) (IU 1) (cond (!(m==0)) (IU m) (cond (!(lG b==0)) (IU 1) o)))
def NR(a:Nat->Nat)(sk m:Int)(b:Nat->Nat):Int:=cond (jN sk) 4 (cond (Kk a) 1 (cond (!(m==0)) m (cond (!(lG b==0)) 1 0)))
theorem zT{a:Nat->Nat}{sk m:Int}{b:Nat->Nat}{o:Option Out}(h:NR a sk m b=0):knX a sk m b o=o:=by
 unfold NR at h;unfold knX;cases F:jN sk
 .rw[F]at h;cases E:Kk a
  .rw[E]at h;cases C:(m==0)
   .rw[C]at h;have h:m=0:=h;rw[h]at C;cases C
   .rw[C]at h;cases I:(lG b==0)
    .rw[I]at h;cases h
    .rfl
  .rw[E]at h;cases h
 .rw[F]at h;cases h
theorem EB{a:Nat->Nat}{sk m:Int}{b:Nat->Nat}{o:Option Out}(h:NR a sk m b≠0):knX a sk m b o=IU (NR a sk m b):=by
 unfold NR at h ⊢;unfold knX;cases I:jN sk
 .cases F:Kk a
  .cases E:(m==0)
   .rfl
   .cases C:(lG b==0)
    .rfl
    .rw[I,F,E,C]at h;exact absurd rfl h
  .rfl
 .rfl
def X1:List Entry:=⟨137,eKd⟩::⟨253,eS λ a=>iA (Il a)⟩::⟨251,eS λ a=>BX (gL a)⟩::⟨262,eS λ a=>iA (AU a)⟩::⟨260,eS λ a=>BX (eH a)⟩::⟨268,eS λ a=>BX (rV a)⟩::⟨280,eS λ a=>iA (Bb a)⟩::⟨279,eS λ a=>BX (gL a)⟩::⟨287,eS λ a=>iA (FC a)⟩::⟨285,eS λ a=>BX (dM a (zB a))⟩::⟨295,eS λ a=>iA (FL a)⟩::⟨294,eS λ a=>BX (kM a (zB a))⟩:: X0
theorem zU:∀e,e∈X1->jr bO e:=aL awT <|aL (Dj aCj) <|aL (Dj aCk) <|aL (Dj awU) <|aL (Dj awV) <|aL (Dj aFA) <|aL (Dj awW) <|aL (Dj awX) <|aL (Dj aCl) <|aL (Dj aCm) <|aL (Dj aCn) <|aL (Dj bring) <|akr
section
variable(a:Nat->Nat)(sk:Int)
theorem aks:ev bO X1 [] bC aKi [SH 1 a sk] ret=knX a sk (Il a) (gL a) (zR 242 (SH 1 a sk)):=by kernel_rfl
def e1:Int:=NR a sk (Il a) (gL a)
theorem IV(h:e1 a sk=0):aj bO 97 [SH 1 a sk] (.bK [.jd 242 (SH 1 a sk),iA 0]):=sp zU aHL ((aks a sk).trans (zT (m:=Il a) (b:=gL a) h))
theorem aeL(h:e1 a sk≠0):aj bO 97 [SH 1 a sk] (.bK [.x .nilIface,iA (e1 a sk)]):=sp zU aHL ((aks a sk).trans (EB (m:=Il a) (b:=gL a) (o:=zR 242 (SH 1 a sk)) h))
theorem akt:ev bO X1 [] bC aKi [SH 2 a sk] ret=knX a sk (AU a) (eH a) (zR 243 (SH 2 a sk)):=by kernel_rfl
def e2:Int:=NR a sk (AU a) (eH a)
theorem IW(h:e2 a sk=0):aj bO 97 [SH 2 a sk] (.bK [.jd 243 (SH 2 a sk),iA 0]):=sp zU aHL ((akt a sk).trans (zT (m:=AU a) (b:=eH a) h))
theorem aeM(h:e2 a sk≠0):aj bO 97 [SH 2 a sk] (.bK [.x .nilIface,iA (e2 a sk)]):=sp zU aHL ((akt a sk).trans (EB (m:=AU a) (b:=eH a) (o:=zR 243 (SH 2 a sk)) h))
theorem aku:ev bO X1 [] bC aKi [SH 3 a sk] ret=cond (jN sk) (IU 4) (cond (Kk a) (IU 1) (cond (!(lG (rV a)==0)) (IU 1) (zR 244 (SH 3 a sk)))):=by kernel_rfl
def e3:Int:=NR a sk (0) (rV a)
theorem IX(h:e3 a sk=0):aj bO 97 [SH 3 a sk] (.bK [.jd 244 (SH 3 a sk),iA 0]):=sp zU aHL ((aku a sk).trans (zT (m:=0) (b:=rV a) h))
theorem MF(h:e3 a sk≠0):aj bO 97 [SH 3 a sk] (.bK [.x .nilIface,iA (e3 a sk)]):=sp zU aHL ((aku a sk).trans (EB (m:=0) (b:=rV a) (o:=zR 244 (SH 3 a sk)) h))
theorem akv:ev bO X1 [] bC aKi [SH 4 a sk] ret=knX a sk (Bb a) (gL a) (zR 245 (SH 4 a sk)):=by kernel_rfl
def e4:Int:=NR a sk (Bb a) (gL a)
theorem IY(h:e4 a sk=0):aj bO 97 [SH 4 a sk] (.bK [.jd 245 (SH 4 a sk),iA 0]):=sp zU aHL ((akv a sk).trans (zT (m:=Bb a) (b:=gL a) h))
theorem aeN(h:e4 a sk≠0):aj bO 97 [SH 4 a sk] (.bK [.x .nilIface,iA (e4 a sk)]):=sp zU aHL ((akv a sk).trans (EB (m:=Bb a) (b:=gL a) (o:=zR 245 (SH 4 a sk)) h))
theorem akw:ev bO X1 [] bC aKi [SH 5 a sk] ret=knX a sk (FC a) (dM a (zB a)) (zR 246 (SH 5 a sk)):=by kernel_rfl
def e5:Int:=NR a sk (FC a) (dM a (zB a))
theorem IZ(h:e5 a sk=0):aj bO 97 [SH 5 a sk] (.bK [.jd 246 (SH 5 a sk),iA 0]):=sp zU aHL ((akw a sk).trans (zT (m:=FC a) (b:=dM a (zB a)) h))
theorem aeO(h:e5 a sk≠0):aj bO 97 [SH 5 a sk] (.bK [.x .nilIface,iA (e5 a sk)]):=sp zU aHL ((akw a sk).trans (EB (m:=FC a) (b:=dM a (zB a)) (o:=zR 246 (SH 5 a sk)) h))
theorem akx:ev bO X1 [] bC aKi [SH 6 a sk] ret=knX a sk (FL a) (kM a (zB a)) (zR 247 (SH 6 a sk)):=by kernel_rfl
def e6:Int:=NR a sk (FL a) (kM a (zB a))
theorem I4(h:e6 a sk=0):aj bO 97 [SH 6 a sk] (.bK [.jd 247 (SH 6 a sk),iA 0]):=sp zU aHL ((akx a sk).trans (zT (m:=FL a) (b:=kM a (zB a)) h))
theorem aeP(h:e6 a sk≠0):aj bO 97 [SH 6 a sk] (.bK [.x .nilIface,iA (e6 a sk)]):=sp zU aHL ((akx a sk).trans (EB (m:=FL a) (b:=kM a (zB a)) (o:=zR 247 (SH 6 a sk)) h))
end
def abj(k:Int):Prop:=k≠1/\k≠2/\k≠3/\k≠4/\k≠5/\k≠6
def e0(a:Nat->Nat)(sk:Int):Int:=cond (jN sk) 4 (cond (Kk a) 1 3)
theorem kd0{k:Int}(h:abj k)(a:Nat->Nat)(sk:Int):aj bO 137 [SH k a sk] (.x .nilIface):=by obtain⟨K,J,I,F,E,C⟩:=h;refine sp aB aNV ((auy k a sk).trans ?_);rw[mI K,mI J,mI I,mI F,mI E,mI C];rfl
theorem awY(k:Int)(a:Nat->Nat)(sk:Int):ev bO X0 [kS bO 137 λ _=>.x .nilIface] bC aKi [SH k a sk] ret=cond (jN sk) (IU 4) (cond (Kk a) (IU 1) (gate (aj bO 137 [SH k a sk] (.x .nilIface)) (IU 3))):=by kernel_rfl
theorem aeQ{k:Int}(h:abj k)(a:Nat->Nat)(sk:Int):aj bO 97 [SH k a sk] (.bK [.x .nilIface,iA (e0 a sk)]):=by refine aR akr (au aG ay) aHL aC ((awY k a sk).trans ?_);rw[ak (kd0 h a sk)];unfold e0;cases jN sk<;>cases Kk a<;>rfl
theorem auz(a:Nat->Nat)(sk:Int):e0 a sk≠0:=by unfold e0;cases jN sk<;>cases Kk a<;>simp
open Go.Ev (aF gB)
def Mg:Nat:=9218868437227405312
def Zm:Nat:=13830554455654793216
theorem aDX {f : Nat} {fn : Func} (hf : bO.funcs[f]? = some fn) (hname : (fn.name == "runtime.NumGoroutine") = false) (F : fn.body.isNone = true) (h : Extern.findNext fn = none)
  (C:Extern.find fn=some Extern.MathFloatBits.float64frombits):Cg bO f [.x (.int .u64 9218868437227405312)] (.f Mg):=λ E K hv=>by
 obtain⟨l⟩:=K;obtain⟨v,t,e1,J,I⟩:=aD.1 hv;have e2:=bR.1 I;have e4:=cB.1 J;have e3:l=[.int .u64 9218868437227405312]:=by rw[e2,e4]at e1;exact e1
 subst e3;refine⟨.float .f64 Mg,E.w,?_,wV rfl,kU.2 ⟨Mg,rfl,gB (by decide +kernel)⟩⟩;rw[run_callFunc_extern hf hname F h C];rfl
def eFb:List AV->Option AV
 | [.x (.int .u64 n)]=>cond (n==9218868437227405312) (some (.f Mg)) none
 |_=>none
theorem azo:jr bO ⟨154,eFb⟩:=λ C r hr=>by
 simp only[eFb]at hr;split at hr
 .rename_i n;cases h:n==9218868437227405312
  .rw[h]at hr;cases hr
  .rw[h]at hr;cases hr;rw[Aw h];exact Gc (aDX Tryz.func154 (by kernel_rfl) (by kernel_rfl) (by kernel_rfl) (by kernel_rfl))
 .cases hr
theorem aGf:aj bO 266 [iA 1] (.f Mg):=sp (aL azo aB) Tryz.func266 (by kernel_rfl)
def azp:List AV->Option AV
 | [.x (.int .i64 n)]=>cond (n==1) (some (.f Mg)) none
 |_=>none
theorem asM:jr bO ⟨266,azp⟩:=λ C r hr=>by
 simp only[azp]at hr;split at hr
 .rename_i n;cases h:n==1
  .rw[h]at hr;cases hr
  .rw[h]at hr;cases hr;rw[Aw h];exact wV aGf
 .cases hr
def X2:List Entry:=⟨266,azp⟩::X1
theorem rO:∀e,e∈X2->jr bO e:=aL asM zU
def sdC(s c:Nat):Nat:=cond (amH s c) Zm (cond (amH s (3+c)) one 0)
def ac6(s:Nat):AV:=V (sdC s 0) (sdC s 1) (sdC s 2)
def sdS{α:Type}(i C h least s:Nat)(k:Nat->Nat->α):α:=cond (dN C least) (cond (dN h C) (k h (3+i)) (k C i)) (cond (dN h least) (k h (3+i)) (k least s))
def sdL(a:Nat->Nat)(p:Nat->Nat)(i:Nat):Nat:=fabs (aU (p i) (a i))
def sdH(a:Nat->Nat)(p:Nat->Nat)(i:Nat):Nat:=fabs (aU (a (3+i)) (p i))
def sdT{α:Type}(a p:Nat->Nat)(least:Nat)(k:Nat->Nat->α):α:=sdS 0 (sdL a p 0) (sdH a p 0) least 0 λ l s=>sdS 1 (sdL a p 1) (sdH a p 1) l s λ l s=>sdS 2 (sdL a p 2) (sdH a p 2) l s k
def sdN(a p:Nat->Nat)(least:Nat):Nat:=sdT a p least λ _ s=>s
theorem VD{α β:Type}(g:α->β)(i h C least s:Nat)(k:Nat->Nat->α):g (sdS i h C least s k)=sdS i h C least s λ l s=>g (k l s):=by unfold sdS;cases dN h least<;>cases dN C h<;>cases dN C least<;>rfl
theorem asN{α β:Type}(g:α->β)(a p:Nat->Nat)(least:Nat)(k:Nat->Nat->α):g (sdT a p least k)=sdT a p least λ l s=>g (k l s):=by unfold sdT;refine(VD g ..).trans (congrArg _ (funext λ l=>funext λ s=>?_));refine(VD g ..).trans (congrArg _ (funext λ l=>funext λ s=>?_));exact VD g ..
section
variable(k:Int)(a:Nat->Nat)(sk:Int)(p q u:Nat)
theorem ahY:ev bO X2 [] bC Tryz.f263 [SH k a sk,V p q u] ret=sdT a (ls [p,q,u]) Mg λ _ s=>some (Out.of (ac6 s)):=by kernel_rfl
theorem azq:aj bO 263 [SH k a sk,V p q u] (ac6 (sdN a (ls [p,q,u]) Mg)) :=sp rO Tryz.func263 ((ahY k a sk p q u).trans (asN (λ s=>some (Out.of (ac6 s))) a (ls [p,q,u]) Mg λ _ s=>s).symm)
variable(z:Nat)
def tnQ(i:Nat):Nat:=Ri z i (aU (ls [p,q,u] i) (a i))
def tnL:Nat:=fabs (aU (kY (tnQ a p q u z 0) (tnQ a p q u z 1) (tnQ a p q u z 2)) (a 9))
def tnA:Nat:=aU (ls [p,q,u] z) (a z)
def VE:Nat:=fabs (aU (tnA a p q u z) (a (3+z)))
def VF{α:Type}(C h E:α):α:=cond (dN (fabs (tnA a p q u z)) (tnL a p q u z)) (cond (dN (VE a p q u z) (fabs (tnA a p q u z))) h E) (cond (dN (VE a p q u z) (tnL a p q u z)) h C)
def zl(i:Nat):Nat:=VF a p q u z (tnQ a p q u z i) (a (3+i)) (aX (a (3+i)) Zm)
def ac7:AV:=V (zl a p q u z 0) (zl a p q u z 1) (zl a p q u z 2)
def oV(x y w:Nat):Option Out:=some (Out.of (V x y w))
def ac8:Option Out:=gTu k a sk z (VF a p q u z (oV (tnQ a p q u z 0) (tnQ a p q u z 1) (tnQ a p q u z 2)) (oV (a 3) (a 4) (a 5)) (oV (aX (a 3) Zm) (aX (a 4) Zm) (aX (a 5) Zm)))
theorem am8:VF a p q u z (oV (tnQ a p q u z 0) (tnQ a p q u z 1) (tnQ a p q u z 2)) (oV (a 3) (a 4) (a 5)) (oV (aX (a 3) Zm) (aX (a 4) Zm) (aX (a 5) Zm))=some (Out.of (ac7 a p q u z)):=by unfold ac7 zl VF oV;cases dN (fabs (tnA a p q u z)) (tnL a p q u z)<;>cases dN (VE a p q u z) (fabs (tnA a p q u z))<;>cases dN (VE a p q u z) (tnL a p q u z)<;>rfl
theorem ahZ:ev bO X2 [tuK 0] bC aNc [SH k a sk,V p q u] ret=ac8 k a sk p q u 0:=by kernel_rfl
theorem ah0:ev bO X2 [tuK 1] bC aNc [SH k a sk,V p q u] ret=ac8 k a sk p q u 1:=by kernel_rfl
theorem ah1:ev bO X2 [tuK 2] bC aNc [SH k a sk,V p q u] ret=ac8 k a sk p q u 2:=by kernel_rfl
theorem aDY:aj bO 288 [SH k a sk,V p q u] (ac7 a p q u (zB a)):=by
 rcases HZ a with h |h |h
 .rw[h];exact aR rO (au aG ay) aLA aC ((ahZ k a sk p q u).trans ((vN k a sk h).trans (am8 a p q u 0)))
 .rw[h];exact aR rO (au aG ay) aLA aC ((ah0 k a sk p q u).trans ((vN k a sk h).trans (am8 a p q u 1)))
 .rw[h];exact aR rO (au aG ay) aLA aC ((ah1 k a sk p q u).trans ((vN k a sk h).trans (am8 a p q u 2)))
def rnL:Nat:=kY (tnQ a p q u z 0) (tnQ a p q u z 1) (tnQ a p q u z 2)
def rnB(i:Nat):Nat:=aU (aU (ls [p,q,u] i) (a i)) (aX (tnQ a p q u z i) (fdiv (a 9) (rnL a p q u z)))
def rnC(i:Nat):Nat:=cond (bW (rnL a p q u z) 0) (rnB a p q u z i) 0
def rnV:AV:=V (rnC a p q u z 0) (rnC a p q u z 1) (rnC a p q u z 2)
def rnX:Option Out:=gRi k a sk z (cond (!bW (rnL a p q u z) 0) (oV 0 0 0) (oV (rnB a p q u z 0) (rnB a p q u z 1) (rnB a p q u z 2)))
theorem am9:cond (!bW (rnL a p q u z) 0) (oV 0 0 0) (oV (rnB a p q u z 0) (rnB a p q u z 1) (rnB a p q u z 2))=some (Out.of (rnV a p q u z)):=by unfold rnV rnC oV;cases bW (rnL a p q u z) 0<;>rfl
theorem ah2:ev bO X2 [riK 0] bC aNd [SH k a sk,V p q u] ret=rnX k a sk p q u 0:=by kernel_rfl
theorem ah3:ev bO X2 [riK 1] bC aNd [SH k a sk,V p q u] ret=rnX k a sk p q u 1:=by kernel_rfl
theorem ah4:ev bO X2 [riK 2] bC aNd [SH k a sk,V p q u] ret=rnX k a sk p q u 2:=by kernel_rfl
theorem aDZ:aj bO 296 [SH k a sk,V p q u] (rnV a p q u (zB a)):=by
 rcases HZ a with h |h |h
 .rw[h];exact aR rO (au aG ay) aLB aC ((ah2 k a sk p q u).trans ((BD k a sk h).trans (am9 a p q u 0)))
 .rw[h];exact aR rO (au aG ay) aLB aC ((ah3 k a sk p q u).trans ((BD k a sk h).trans (am9 a p q u 1)))
 .rw[h];exact aR rO (au aG ay) aLB aC ((ah4 k a sk p q u).trans ((BD k a sk h).trans (am9 a p q u 2)))
end
section
variable(k:Int)(a:Nat->Nat)(sk:Int)(r:Nat->Nat)(e:Int)(T:Nat)(p q u:Nat)
abbrev KNb:Prop:=aj bO 97 [SH k a sk] (.bK [.x .nilIface,iA e])
abbrev KNg:Prop:=aj bO 97 [SH k a sk] (.bK [.jd T (SH k a sk),iA 0])
def kK(x:AV)(e:Int):bf:=kS bO 97 λ _=>.bK [x,iA e]
theorem arf:ev bO X2 [kK (.x .nilIface) e] bC aOK [SH k a sk] ret=gate (KNb k a sk e) (some (Out.of (iA e))):=by kernel_rfl
theorem arh:ev bO X2 [kK (.jd T (SH k a sk)) 0] bC aOK [SH k a sk] ret=gate (KNg k a sk T) (some (Out.of (iA 0))):=by kernel_rfl
theorem aCK{k:Int}{a:Nat->Nat}{sk e:Int}(h:KNb k a sk e):aj bO 49 [SH k a sk] (iA e):=aR rO (au aG ay) aOf aC ((arf k a sk e).trans (ak h))
theorem auI{k:Int}{a:Nat->Nat}{sk:Int}{T:Nat}(h:KNg k a sk T):aj bO 49 [SH k a sk] (iA 0):=aR rO (au aG ay) aOf aC ((arh k a sk T).trans (ak h))
abbrev KTb:Prop:=aj bO 87 [SH k a sk,RY r] (.bK [.x .nilIface,iA e])
abbrev KTg:Prop:=aj bO 87 [SH k a sk,RY r] (.bK [.jd T (SH k a sk),iA 0])
theorem ax1:ev bO X2 [kK (.x .nilIface) e] bC aOL [SH k a sk,RY r] ret=gate (KNb k a sk e) (cond (!(e==0)) (IU e) (cond (!(gP r==0)) (IU (gP r)) (some (Out.of (.bK [.x .nilIface,iA 0]))))):=by kernel_rfl
theorem alD:ev bO X2 [kK (.jd T (SH k a sk)) 0] bC aOL [SH k a sk,RY r] ret=gate (KNg k a sk T) (cond (!(gP r==0)) (IU (gP r)) (zR T (SH k a sk))):=by kernel_rfl
theorem aCL{k:Int}{a:Nat->Nat}{sk e:Int}(h:KNb k a sk e)(C:e≠0):KTb k a sk r e:=by refine aR rO (au aG ay) aMl aC ((ax1 k a sk r e).trans ((ak h).trans ?_));rw[mI C];rfl
theorem ax2{k:Int}{a:Nat->Nat}{sk:Int}{T:Nat}{r:Nat->Nat}(h:KNg k a sk T)(hr:gP r≠0):KTb k a sk r (gP r):=by refine aR rO (au aG ay) aMl aC ((alD k a sk r T).trans ((ak h).trans ?_));rw[mI hr];rfl
theorem ax3{k:Int}{a:Nat->Nat}{sk:Int}{T:Nat}{r:Nat->Nat}(h:KNg k a sk T)(hr:gP r=0):KTg k a sk r T:=by refine aR rO (au aG ay) aMl aC ((alD k a sk r T).trans ((ak h).trans ?_));rw[hr];rfl
def tK(x:AV)(e:Int):bf:=kS bO 87 λ _=>.bK [x,iA e]
def st3(t:Nat)(ok:Bool)(e:Int):Option Out:=some (Out.of (.bK [.f t,bA ok,iA e]))
def sK(t:Nat)(ok:Bool):bf:=kS bO 88 λ _=>.bK [.f t,bA ok]
theorem abZ:ev bO X2 [tK (.x .nilIface) e,sK 0 false] bC aOM [SH k a sk,RY r] ret=gate (KTb k a sk r e) (cond (!(e==0)) (st3 0 false e) (gate (aj bO 88 [.x .nilIface,RY r] (.bK [.f 0,bA false])) (st3 0 false 0))):=by kernel_rfl
theorem ab0(t:Nat)(ok:Bool):ev bO X2 [tK (.jd T (SH k a sk)) 0,sK t ok] bC aOM [SH k a sk,RY r] ret=gate (KTg k a sk r T) (gate (aj bO 88 [.jd T (SH k a sk),RY r] (.bK [.f t,bA ok])) (st3 t ok 0)):=by kernel_rfl
theorem YB{k:Int}{a:Nat->Nat}{sk e:Int}{r:Nat->Nat}(h:KTb k a sk r e)(C:e≠0):aj bO 45 [SH k a sk,RY r] (.bK [.f 0,bA false,iA e]):=by refine aR rO (au aG (au aG ay)) aOg aC ((abZ k a sk r e).trans ((ak h).trans ?_));rw[mI C];rfl
theorem alE{k:Int}{a:Nat->Nat}{sk:Int}{T:Nat}{r:Nat->Nat}{t:Nat}{ok:Bool}(h:KTg k a sk r T)(hs:aj bO 88 [.jd T (SH k a sk),RY r] (.bK [.f t,bA ok])):aj bO 45 [SH k a sk,RY r] (.bK [.f t,bA ok,iA 0]) :=aR rO (au aG (au aG ay)) aOg aC ((ab0 k a sk r T t ok).trans ((ak h).trans (ak hs)))
def wi4(i o:Nat)(ok:Bool)(e:Int):Option Out:=some (Out.of (.bK [.f i,.f o,bA ok,iA e]))
def wK(i o:Nat)(ok:Bool)(e:Int):bf:=kS bO 185 λ _=>.bK [.f i,.f o,bA ok,iA e]
theorem ab1:ev bO X2 [tK (.x .nilIface) e,wK 0 0 false 0] bC aOC [SH k a sk,RY r] ret=gate (KTb k a sk r e) (cond (!(e==0)) (wi4 0 0 false e) (gate (aj bO 185 [.x .nilIface,RY r] (.bK [.f 0,.f 0,bA false,iA 0])) (wi4 0 0 false 0))):=by kernel_rfl
theorem ab2(i o:Nat)(ok:Bool):ev bO X2 [tK (.jd T (SH k a sk)) 0,wK i o ok e] bC aOC [SH k a sk,RY r] ret=gate (KTg k a sk r T) (gate (aj bO 185 [.jd T (SH k a sk),RY r] (.bK [.f i,.f o,bA ok,iA e])) (wi4 i o ok e)):=by kernel_rfl
theorem OE{k:Int}{a:Nat->Nat}{sk e:Int}{r:Nat->Nat}(h:KTb k a sk r e)(C:e≠0):aj bO 159 [SH k a sk,RY r] (.bK [.f 0,.f 0,bA false,iA e]):=by refine aR rO (au aG (au aG ay)) aNW aC ((ab1 k a sk r e).trans ((ak h).trans ?_));rw[mI C];rfl
theorem YC{k:Int}{a:Nat->Nat}{sk e:Int}{T:Nat}{r:Nat->Nat}{i o:Nat}{ok:Bool}(h:KTg k a sk r T)(hs:aj bO 185 [.jd T (SH k a sk),RY r] (.bK [.f i,.f o,bA ok,iA e])):aj bO 159 [SH k a sk,RY r] (.bK [.f i,.f o,bA ok,iA e]) :=aR rO (au aG (au aG ay)) aNW aC ((ab2 k a sk r e T i o ok).trans ((ak h).trans (ak hs)))
def bo7(b:Nat->Nat)(e:Int):Option Out:=some (Out.of (.bK [BX b,iA e]))
def FR:Nat->Nat:=λ _=>0
theorem ab4:ev bO X2 [kK (.x .nilIface) e] bC aJN [SH k a sk] ret=gate (KNb k a sk e) (cond (!(e==0)) (bo7 FR e) none):=by kernel_rfl
theorem YD{k:Int}{a:Nat->Nat}{sk e:Int}(h:KNb k a sk e)(C:e≠0):aj bO 130 [SH k a sk] (.bK [BX FR,iA e]):=by refine aR rO (au aG ay) aIP aC ((ab4 k a sk e).trans ((ak h).trans ?_));rw[mI C];rfl
end
def htK(m k:Bool)(t l:Nat):Bool:=cond m (cond k (iL t l) false) false
def htT(m k:Bool)(t n f l:Nat):Nat:=cond (htK m k t l) (cond (dN t n) n (cond (bW t f) f t)) 0
def htX(m k:Bool)(t n f l:Nat):Option Out:=cond (!m) (s2 0 false) (cond (cond (!k) true (!iL t l)) (s2 0 false) (cond (dN t n) (s2 n true) (cond (bW t f) (s2 f true) (s2 t true))))
theorem KI(m k:Bool)(t n f l:Nat):htX m k t n f l=some (Out.of (.bK [.f (htT m k t n f l),bA (htK m k t l)])):=by unfold htX htT htK s2;cases m<;>cases k<;>cases iL t l<;>cases dN t n<;>cases bW t f<;>rfl
def r0(r:Nat->Nat):Nat->Nat:=ls [r 0,r 1,r 2,r 3,r 4,r 5,0]
def paK(m k:Bool)(i o n f:Nat):Bool:=cond m (cond k (dN (FN i n f) (FN o n f)) false) false
def paI(m k:Bool)(i o n f:Nat):Nat:=cond (paK m k i o n f) (FN i n f) 0
def paO(m k:Bool)(i o n f:Nat):Nat:=cond (paK m k i o n f) (FN o n f) 0
def paX(m k:Bool)(i o n f:Nat):Option Out:=cond (!m) (QE 0 0 false) (cond (!k) (QE 0 0 false) (cond (!dN (FN i n f) (FN o n f)) (QE 0 0 false) (QE (FN i n f) (FN o n f) true)))
def paV(m k:Bool)(i o n f:Nat):AV:=.bK [.f (paI m k i o n f),.f (paO m k i o n f),bA (paK m k i o n f)]
theorem ab5(m k:Bool)(i o n f:Nat):paX m k i o n f=some (Out.of (paV m k i o n f)):=by unfold paX paV paI paO paK QE;cases m<;>cases k<;>cases dN (FN i n f) (FN o n f)<;>rfl
def byD{α:Type}(r:Nat->Nat)(f:Nat->α):α:=cond (dp0 r) (cond (bW (fabs (r 5)) (fabs (r 4))) (f 2) (f 1)) (cond (bW (fabs (r 5)) (fabs (r 3))) (f 2) (f 0))
theorem anG{α:Type}(r:Nat->Nat)(f:Nat->α):byD r f=f (dpZ r):=by unfold byD dpZ;cases dp0 r<;>cases bW (fabs (r 5)) (fabs (r 4))<;>cases bW (fabs (r 5)) (fabs (r 3))<;>rfl
def byZ{α:Type}(a:Nat->Nat)(f:Nat->α):α:=cond (yg (a 5)) (f 2) (cond (yg (a 4)) (f 1) (f 0))
theorem adr{α:Type}(a:Nat->Nat)(f:Nat->α):byZ a f=f (zB a):=by unfold byZ zB;cases yg (a 5)<;>cases yg (a 4)<;>rfl
theorem aEq(k:Int)(a:Nat->Nat)(sk:Int)(r:Nat->Nat)(n f:Nat):aj bO 270 [SH k a sk,RY r,.f n,.f f] (.bK [.f (byD r λ z=>DI a r z),bA (byD r λ z=>trK a r z)]):=by rw[anG,anG];exact aGc k a sk r n f
theorem azQ(k:Int)(a:Nat->Nat)(sk:Int)(p q u:Nat):aj bO 288 [SH k a sk,V p q u] (V (byZ a λ z=>zl a p q u z 0) (byZ a λ z=>zl a p q u z 1) (byZ a λ z=>zl a p q u z 2)):=by rw[adr,adr,adr];exact aDY k a sk p q u
def X3:List Entry:=⟨255,FW λ a r _ _=>.bK [.f (SN a r),bA (QB (DR a r) (DT r) (a 9))]⟩::⟨254,eSV λ a p q u=>V (aU p (a 0)) (aU q (a 1)) (aU u (a 2))⟩::⟨264,FW λ _ r n f=>.bK [.f (cond (bW n (r 6)) n f),bA (true)]⟩::⟨263,eSV λ a p q u=>V (sdC (sdN a (ls [p,q,u]) Mg) 0) (sdC (sdN a (ls [p,q,u]) Mg) 1) (sdC (sdN a (ls [p,q,u]) Mg) 2)⟩::⟨270,FW λ a r _ _=>.bK [.f (byD r λ z=>DI a r z),bA (byD r λ z=>trK a r z)]⟩::⟨269,eSV λ a _ _ _=>V (trX a 1 2) (trX a 2 0) (trX a 0 1)⟩::⟨282,FW λ a r _ _=>.bK [.f (cond (dR (plD a r) 0) 0 (GZ a r)),bA (cond (dR (plD a r) 0) false (plK a r))]⟩::⟨281,eSV λ a _ _ _=>V (a 3) (a 4) (a 5)⟩::⟨289,FW λ a r n f=>.bK [.f (ahH a r n f (zB a)),bA (TG a r n f (zB a))]⟩::⟨288,eSV λ a p q u=>V (byZ a λ z=>zl a p q u z 0) (byZ a λ z=>zl a p q u z 1) (byZ a λ z=>zl a p q u z 2)⟩::⟨296,eSV λ a p q u=>V (rnC a p q u (zB a) 0) (rnC a p q u (zB a) 1) (rnC a p q u (zB a) 2)⟩::X2
theorem qh:∀e,e∈X3->jr bO e:=aL (uE aEg) <|aL (KU aEh) <|aL (uE azE) <|aL (KU azq) <|aL (uE aEq) <|aL (KU aGk) <|aL (uE azF) <|aL (KU azG) <|aL (uE aC5) <|aL (KU azQ) <|aL (KU aDZ) <|rO
section
variable(a:Nat->Nat)(sk:Int)(r:Nat->Nat)(p q u:Nat)
theorem azR:ev bO X3 [] bC aLg [.jd 242 (SH 1 a sk),RY r] ret=htX (dw (gL a) r) (QB (DR a r) (DT r) (a 9)) (SN a r) (bP (gL a) r) (bX (gL a) r) (r 6):=by kernel_rfl
theorem sk1:aj bO 88 [.jd 242 (SH 1 a sk),RY r] (.bK [.f (htT (dw (gL a) r) (QB (DR a r) (DT r) (a 9)) (SN a r) (bP (gL a) r) (bX (gL a) r) (r 6)),bA (htK (dw (gL a) r) (QB (DR a r) (DT r) (a 9)) (SN a r) (r 6))]):=sp qh aKa ((azR a sk r).trans (KI _ _ _ _ _ _))
theorem as2:ev bO X3 [kK (.jd 242 (SH 1 a sk)) 0] bC aJN [SH 1 a sk] ret=gate (KNg 1 a sk 242) (bo7 (gL a) 0):=by kernel_rfl
theorem aEr(h:e1 a sk=0):aj bO 130 [SH 1 a sk] (.bK [BX (gL a),iA 0]):=aR qh (au aG ay) aIP aC ((as2 a sk).trans (ak (IV a sk h)))
theorem azS:ev bO X3 [] bC aNe [.jd 242 (SH 1 a sk),RY r] ret=paX (dw (gL a) (r0 r)) (QB (DR a (r0 r)) (DT (r0 r)) (a 9)) (abN (DR a (r0 r)) (DT (r0 r)) (a 9)) (abF (DR a (r0 r)) (DT (r0 r)) (a 9)) (bP (gL a) (r0 r)) (bX (gL a) (r0 r)):=by kernel_rfl
theorem pa1:aj bO 200 [.jd 242 (SH 1 a sk),RY r] (paV (dw (gL a) (r0 r)) (QB (DR a (r0 r)) (DT (r0 r)) (a 9)) (abN (DR a (r0 r)) (DT (r0 r)) (a 9)) (abF (DR a (r0 r)) (DT (r0 r)) (a 9)) (bP (gL a) (r0 r)) (bX (gL a) (r0 r))):=sp qh aLC ((azS a sk r).trans (ab5 _ _ _ _ _ _))
theorem as3(i o:Nat)(ok:Bool):ev bO X3 [kS bO 200 λ _=>.bK [.f i,.f o,bA ok]] bC aKj [.jd 242 (SH 1 a sk),RY r] ret=gate (aj bO 200 [.jd 242 (SH 1 a sk),RY r] (.bK [.f i,.f o,bA ok])) (wi4 i o ok 0):=by kernel_rfl
theorem aGo:aj bO 185 [.jd 242 (SH 1 a sk),RY r] (.bK [.f (paI (dw (gL a) (r0 r)) (QB (DR a (r0 r)) (DT (r0 r)) (a 9)) (abN (DR a (r0 r)) (DT (r0 r)) (a 9)) (abF (DR a (r0 r)) (DT (r0 r)) (a 9)) (bP (gL a) (r0 r)) (bX (gL a) (r0 r))),.f (paO (dw (gL a) (r0 r)) (QB (DR a (r0 r)) (DT (r0 r)) (a 9)) (abN (DR a (r0 r)) (DT (r0 r)) (a 9)) (abF (DR a (r0 r)) (DT (r0 r)) (a 9)) (bP (gL a) (r0 r)) (bX (gL a) (r0 r))),bA (paK (dw (gL a) (r0 r)) (QB (DR a (r0 r)) (DT (r0 r)) (a 9)) (abN (DR a (r0 r)) (DT (r0 r)) (a 9)) (abF (DR a (r0 r)) (DT (r0 r)) (a 9)) (bP (gL a) (r0 r)) (bX (gL a) (r0 r))),iA 0]):=aR qh (au aG ay) aJb aC ((as3 a sk r _ _ _).trans (ak (pa1 a sk r)))
theorem azT:ev bO X3 [] bC aLg [.jd 243 (SH 2 a sk),RY r] ret=htX (dw (eH a) r) (true) (cond (bW (bP (eH a) r) (r 6)) (bP (eH a) r) (bX (eH a) r)) (bP (eH a) r) (bX (eH a) r) (r 6):=by kernel_rfl
theorem sk2:aj bO 88 [.jd 243 (SH 2 a sk),RY r] (.bK [.f (htT (dw (eH a) r) (true) (cond (bW (bP (eH a) r) (r 6)) (bP (eH a) r) (bX (eH a) r)) (bP (eH a) r) (bX (eH a) r) (r 6)),bA (htK (dw (eH a) r) (true) (cond (bW (bP (eH a) r) (r 6)) (bP (eH a) r) (bX (eH a) r)) (r 6))]):=sp qh aKa ((azT a sk r).trans (KI _ _ _ _ _ _))
theorem as4:ev bO X3 [kK (.jd 243 (SH 2 a sk)) 0] bC aJN [SH 2 a sk] ret=gate (KNg 2 a sk 243) (bo7 (eH a) 0):=by kernel_rfl
theorem aEs(h:e2 a sk=0):aj bO 130 [SH 2 a sk] (.bK [BX (eH a),iA 0]):=aR qh (au aG ay) aIP aC ((as4 a sk).trans (ak (IW a sk h)))
theorem azU:ev bO X3 [] bC aNe [.jd 243 (SH 2 a sk),RY r] ret=paX (dw (eH a) (r0 r)) (true) ((bP (eH a) (r0 r))) ((bX (eH a) (r0 r))) (bP (eH a) (r0 r)) (bX (eH a) (r0 r)):=by kernel_rfl
theorem pa2:aj bO 200 [.jd 243 (SH 2 a sk),RY r] (paV (dw (eH a) (r0 r)) (true) ((bP (eH a) (r0 r))) ((bX (eH a) (r0 r))) (bP (eH a) (r0 r)) (bX (eH a) (r0 r))):=sp qh aLC ((azU a sk r).trans (ab5 _ _ _ _ _ _))
theorem as5(i o:Nat)(ok:Bool):ev bO X3 [kS bO 200 λ _=>.bK [.f i,.f o,bA ok]] bC aKj [.jd 243 (SH 2 a sk),RY r] ret=gate (aj bO 200 [.jd 243 (SH 2 a sk),RY r] (.bK [.f i,.f o,bA ok])) (wi4 i o ok 0):=by kernel_rfl
theorem aGp:aj bO 185 [.jd 243 (SH 2 a sk),RY r] (.bK [.f (paI (dw (eH a) (r0 r)) (true) ((bP (eH a) (r0 r))) ((bX (eH a) (r0 r))) (bP (eH a) (r0 r)) (bX (eH a) (r0 r))),.f (paO (dw (eH a) (r0 r)) (true) ((bP (eH a) (r0 r))) ((bX (eH a) (r0 r))) (bP (eH a) (r0 r)) (bX (eH a) (r0 r))),bA (paK (dw (eH a) (r0 r)) (true) ((bP (eH a) (r0 r))) ((bX (eH a) (r0 r))) (bP (eH a) (r0 r)) (bX (eH a) (r0 r))),iA 0]):=aR qh (au aG ay) aJb aC ((as5 a sk r _ _ _).trans (ak (pa2 a sk r)))
theorem azV:ev bO X3 [] bC aLg [.jd 244 (SH 3 a sk),RY r] ret=htX (dw (rV a) r) (byD r λ z=>trK a r z) (byD r λ z=>DI a r z) (bP (rV a) r) (bX (rV a) r) (r 6):=by kernel_rfl
theorem azW:aj bO 88 [.jd 244 (SH 3 a sk),RY r] (.bK [.f (htT (dw (rV a) r) (byD r λ z=>trK a r z) (byD r λ z=>DI a r z) (bP (rV a) r) (bX (rV a) r) (r 6)),bA (htK (dw (rV a) r) (byD r λ z=>trK a r z) (byD r λ z=>DI a r z) (r 6))]):=sp qh aKa ((azV a sk r).trans (KI _ _ _ _ _ _))
theorem as6:ev bO X3 [kK (.jd 244 (SH 3 a sk)) 0] bC aJN [SH 3 a sk] ret=gate (KNg 3 a sk 244) (bo7 (rV a) 0):=by kernel_rfl
theorem aEt(h:e3 a sk=0):aj bO 130 [SH 3 a sk] (.bK [BX (rV a),iA 0]):=aR qh (au aG ay) aIP aC ((as6 a sk).trans (ak (IX a sk h)))
theorem aGq:aj bO 185 [.jd 244 (SH 3 a sk),RY r] (.bK [.f 0,.f 0,bA false,iA 3]):=sp qh aJb (show ev bO X3 [] bC aKj [.jd 244 (SH 3 a sk),RY r] ret=wi4 0 0 false 3 by kernel_rfl)
theorem azX:ev bO X3 [] bC aLg [.jd 245 (SH 4 a sk),RY r] ret=htX (dw (gL a) r) (cond (dR (plD a r) 0) false (plK a r)) (cond (dR (plD a r) 0) 0 (GZ a r)) (bP (gL a) r) (bX (gL a) r) (r 6):=by kernel_rfl
theorem azY:aj bO 88 [.jd 245 (SH 4 a sk),RY r] (.bK [.f (htT (dw (gL a) r) (cond (dR (plD a r) 0) false (plK a r)) (cond (dR (plD a r) 0) 0 (GZ a r)) (bP (gL a) r) (bX (gL a) r) (r 6)),bA (htK (dw (gL a) r) (cond (dR (plD a r) 0) false (plK a r)) (cond (dR (plD a r) 0) 0 (GZ a r)) (r 6))]):=sp qh aKa ((azX a sk r).trans (KI _ _ _ _ _ _))
theorem as7:ev bO X3 [kK (.jd 245 (SH 4 a sk)) 0] bC aJN [SH 4 a sk] ret=gate (KNg 4 a sk 245) (bo7 (gL a) 0):=by kernel_rfl
theorem aEu(h:e4 a sk=0):aj bO 130 [SH 4 a sk] (.bK [BX (gL a),iA 0]):=aR qh (au aG ay) aIP aC ((as7 a sk).trans (ak (IY a sk h)))
theorem aGr:aj bO 185 [.jd 245 (SH 4 a sk),RY r] (.bK [.f 0,.f 0,bA false,iA 3]):=sp qh aJb (show ev bO X3 [] bC aKj [.jd 245 (SH 4 a sk),RY r] ret=wi4 0 0 false 3 by kernel_rfl)
theorem azZ:ev bO X3 [] bC aLg [.jd 246 (SH 5 a sk),RY r] ret=htX (dw (dM a (zB a)) r) (TG a r (bP (dM a (zB a)) r) (bX (dM a (zB a)) r) (zB a)) (ahH a r (bP (dM a (zB a)) r) (bX (dM a (zB a)) r) (zB a)) (bP (dM a (zB a)) r) (bX (dM a (zB a)) r) (r 6):=by kernel_rfl
theorem sk5:aj bO 88 [.jd 246 (SH 5 a sk),RY r] (.bK [.f (htT (dw (dM a (zB a)) r) (TG a r (bP (dM a (zB a)) r) (bX (dM a (zB a)) r) (zB a)) (ahH a r (bP (dM a (zB a)) r) (bX (dM a (zB a)) r) (zB a)) (bP (dM a (zB a)) r) (bX (dM a (zB a)) r) (r 6)),bA (htK (dw (dM a (zB a)) r) (TG a r (bP (dM a (zB a)) r) (bX (dM a (zB a)) r) (zB a)) (ahH a r (bP (dM a (zB a)) r) (bX (dM a (zB a)) r) (zB a)) (r 6))]):=sp qh aKa ((azZ a sk r).trans (KI _ _ _ _ _ _))
theorem as8:ev bO X3 [kK (.jd 246 (SH 5 a sk)) 0] bC aJN [SH 5 a sk] ret=gate (KNg 5 a sk 246) (bo7 (dM a (zB a)) 0):=by kernel_rfl
theorem aEv(h:e5 a sk=0):aj bO 130 [SH 5 a sk] (.bK [BX (dM a (zB a)),iA 0]):=aR qh (au aG ay) aIP aC ((as8 a sk).trans (ak (IZ a sk h)))
theorem az0:ev bO X3 [] bC aNe [.jd 246 (SH 5 a sk),RY r] ret=paX (dw (dM a (zB a)) (r0 r)) (TG a (r0 r) (bP (dM a (zB a)) (r0 r)) (bX (dM a (zB a)) (r0 r)) (zB a)) (tbN a (r0 r) (bP (dM a (zB a)) (r0 r)) (bX (dM a (zB a)) (r0 r)) (zB a)) (tbF a (r0 r) (bP (dM a (zB a)) (r0 r)) (bX (dM a (zB a)) (r0 r)) (zB a)) (bP (dM a (zB a)) (r0 r)) (bX (dM a (zB a)) (r0 r)):=by kernel_rfl
theorem pa5:aj bO 200 [.jd 246 (SH 5 a sk),RY r] (paV (dw (dM a (zB a)) (r0 r)) (TG a (r0 r) (bP (dM a (zB a)) (r0 r)) (bX (dM a (zB a)) (r0 r)) (zB a)) (tbN a (r0 r) (bP (dM a (zB a)) (r0 r)) (bX (dM a (zB a)) (r0 r)) (zB a)) (tbF a (r0 r) (bP (dM a (zB a)) (r0 r)) (bX (dM a (zB a)) (r0 r)) (zB a)) (bP (dM a (zB a)) (r0 r)) (bX (dM a (zB a)) (r0 r))):=sp qh aLC ((az0 a sk r).trans (ab5 _ _ _ _ _ _))
theorem as9(i o:Nat)(ok:Bool):ev bO X3 [kS bO 200 λ _=>.bK [.f i,.f o,bA ok]] bC aKj [.jd 246 (SH 5 a sk),RY r] ret=gate (aj bO 200 [.jd 246 (SH 5 a sk),RY r] (.bK [.f i,.f o,bA ok])) (wi4 i o ok 0):=by kernel_rfl
theorem aGs:aj bO 185 [.jd 246 (SH 5 a sk),RY r] (.bK [.f (paI (dw (dM a (zB a)) (r0 r)) (TG a (r0 r) (bP (dM a (zB a)) (r0 r)) (bX (dM a (zB a)) (r0 r)) (zB a)) (tbN a (r0 r) (bP (dM a (zB a)) (r0 r)) (bX (dM a (zB a)) (r0 r)) (zB a)) (tbF a (r0 r) (bP (dM a (zB a)) (r0 r)) (bX (dM a (zB a)) (r0 r)) (zB a)) (bP (dM a (zB a)) (r0 r)) (bX (dM a (zB a)) (r0 r))),.f (paO (dw (dM a (zB a)) (r0 r)) (TG a (r0 r) (bP (dM a (zB a)) (r0 r)) (bX (dM a (zB a)) (r0 r)) (zB a)) (tbN a (r0 r) (bP (dM a (zB a)) (r0 r)) (bX (dM a (zB a)) (r0 r)) (zB a)) (tbF a (r0 r) (bP (dM a (zB a)) (r0 r)) (bX (dM a (zB a)) (r0 r)) (zB a)) (bP (dM a (zB a)) (r0 r)) (bX (dM a (zB a)) (r0 r))),bA (paK (dw (dM a (zB a)) (r0 r)) (TG a (r0 r) (bP (dM a (zB a)) (r0 r)) (bX (dM a (zB a)) (r0 r)) (zB a)) (tbN a (r0 r) (bP (dM a (zB a)) (r0 r)) (bX (dM a (zB a)) (r0 r)) (zB a)) (tbF a (r0 r) (bP (dM a (zB a)) (r0 r)) (bX (dM a (zB a)) (r0 r)) (zB a)) (bP (dM a (zB a)) (r0 r)) (bX (dM a (zB a)) (r0 r))),iA 0]):=aR qh (au aG ay) aJb aC ((as9 a sk r _ _ _).trans (ak (pa5 a sk r)))
theorem ata:ev bO X3 [kK (.jd 247 (SH 6 a sk)) 0] bC aJN [SH 6 a sk] ret=gate (KNg 6 a sk 247) (bo7 (kM a (zB a)) 0):=by kernel_rfl
theorem aDA(h:e6 a sk=0):aj bO 130 [SH 6 a sk] (.bK [BX (kM a (zB a)),iA 0]):=aR qh (au aG ay) aIP aC ((ata a sk).trans (ak (I4 a sk h)))
theorem aGt:aj bO 185 [.jd 247 (SH 6 a sk),RY r] (.bK [.f 0,.f 0,bA false,iA 3]):=sp qh aJb (show ev bO X3 [] bC aKj [.jd 247 (SH 6 a sk),RY r] ret=wi4 0 0 false 3 by kernel_rfl)
end
def fOf:List AV->Nat
 | [.f x]=>x
 |_=>0
theorem aCp(g:Nat->Nat):ev bO [] [] bC Tryz.f145 [.sl 1 3 λ i=>[.f (g i)]] ret=some (Out.of (V (g 0) (g 1) (g 2))):=by kernel_rfl
theorem rof(g:Nat->Nat):aj bO 145 [.sl 1 3 λ i=>[.f (g i)]] (V (g 0) (g 1) (g 2)):=sp aB Tryz.func145 (aCp g)
def ofG:List AV->AV
 | [.sl _ _ el]=>V (fOf (el 0)) (fOf (el 1)) (fOf (el 2))
 |_=>.any
def pE(a b c x k:Nat):Nat->List AV:=λ i=>bM ((0+i)==k) [.f x] (chunk [.f a,.f b,.f c] 1 (0+i))
theorem Ky{a b c x k:Nat}(g:Nat->Nat)(h:∀i,i<3->pE a b c x k i=[.f (g i)]):aj bO 145 [.sl 1 3 (pE a b c x k)] (V (g 0) (g 1) (g 2)):=by refine aj.vD (rof g) λ E K hv=>?_;obtain⟨v,C,rfl,J,I⟩:=aD.1 hv;exact aD.2 ⟨v,C,rfl,ql J λ i F=>(h i F).symm,I⟩
section
variable(a b c x:Nat)
def ptO(k:Nat)(v:AV):Option Out:=gate (aj bO 145 [.sl 1 3 (pE a b c x k)] v) (some (Out.of v))
theorem aqn:ev bO [] [kS bO 145 ofG] bC aNf [V a b c,iA 0,.f x] ret=ptO a b c x 0 (V x b c):=by kernel_rfl
theorem aqo:ev bO [] [kS bO 145 ofG] bC aNf [V a b c,iA 1,.f x] ret=ptO a b c x 1 (V a x c):=by kernel_rfl
theorem aqp:ev bO [] [kS bO 145 ofG] bC aNf [V a b c,iA 2,.f x] ret=ptO a b c x 2 (V a b x):=by kernel_rfl
theorem aky:aj bO 109 [V a b c,iA 0,.f x] (V x b c):=aR aB (au aG ay) aLD aC ((aqn a b c x).trans (ak (Ky (ls [x,b,c]) λ i h=>(by match i,h with | 0,_=>rfl | 1,_=>rfl | 2,_=>rfl))))
theorem akz:aj bO 109 [V a b c,iA 1,.f x] (V a x c):=aR aB (au aG ay) aLD aC ((aqo a b c x).trans (ak (Ky (ls [a,x,c]) λ i h=>(by match i,h with | 0,_=>rfl | 1,_=>rfl | 2,_=>rfl))))
theorem akA:aj bO 109 [V a b c,iA 2,.f x] (V a b x):=aR aB (au aG ay) aLD aC ((aqp a b c x).trans (ak (Ky (ls [a,b,x]) λ i h=>(by match i,h with | 0,_=>rfl | 1,_=>rfl | 2,_=>rfl))))
def abk(x k:Nat)(v:AV):Option Out:=gate (aj bO 145 [.sl 1 3 (pE 0 0 0 x k)] v) (some (Out.of v))
theorem abl:ev bO [] [kS bO 145 ofG] bC aNg [iA 0,.f x] ret=abk x 0 (V x 0 0):=by kernel_rfl
theorem abm:ev bO [] [kS bO 145 ofG] bC aNg [iA 1,.f x] ret=abk x 1 (V 0 x 0):=by kernel_rfl
theorem abn:ev bO [] [kS bO 145 ofG] bC aNg [iA 2,.f x] ret=abk x 2 (V 0 0 x):=by kernel_rfl
theorem akB:aj bO 127 [iA 0,.f x] (V x 0 0):=aR aB (au aG ay) aLE aC ((abl x).trans (ak (Ky (ls [x,0,0]) λ i h=>(by match i,h with | 0,_=>rfl | 1,_=>rfl | 2,_=>rfl))))
theorem akC:aj bO 127 [iA 1,.f x] (V 0 x 0):=aR aB (au aG ay) aLE aC ((abm x).trans (ak (Ky (ls [0,x,0]) λ i h=>(by match i,h with | 0,_=>rfl | 1,_=>rfl | 2,_=>rfl))))
theorem akD:aj bO 127 [iA 2,.f x] (V 0 0 x):=aR aB (au aG ay) aLE aC ((abn x).trans (ak (Ky (ls [0,0,x]) λ i h=>(by match i,h with | 0,_=>rfl | 1,_=>rfl | 2,_=>rfl))))
end
def awZ:List AV->Option AV
 | [.agg [.f a,.f b,.f c],.x (.int .i64 k),.f x]=>cond (k==0) (some (V x b c)) (cond (k==1) (some (V a x c)) (cond (k==2) (some (V a b x)) none))
 |_=>none
theorem aqr:jr bO ⟨109,awZ⟩:=λ F r hr=>by
 simp only[awZ]at hr;split at hr
 .rename_i a b c k x;cases E:k==0
  .rw[E]at hr;cases C:k==1
   .rw[C]at hr;cases h:k==2
    .rw[h]at hr;cases hr
    .rw[h]at hr;cases hr;rw[Aw h];exact wV (akA a b c x)
   .rw[C]at hr;cases hr;rw[Aw C];exact wV (akz a b c x)
  .rw[E]at hr;cases hr;rw[Aw E];exact wV (aky a b c x)
 .cases hr
def aw0:List AV->Option AV
 | [.x (.int .i64 k),.f x]=>cond (k==0) (some (V x 0 0)) (cond (k==1) (some (V 0 x 0)) (cond (k==2) (some (V 0 0 x)) none))
 |_=>none
theorem aqs:jr bO ⟨127,aw0⟩:=λ F r hr=>by
 simp only[aw0]at hr;split at hr
 .rename_i k x;cases E:k==0
  .rw[E]at hr;cases C:k==1
   .rw[C]at hr;cases h:k==2
    .rw[h]at hr;cases hr
    .rw[h]at hr;cases hr;rw[Aw h];exact wV (akD x)
   .rw[C]at hr;cases hr;rw[Aw C];exact wV (akC x)
  .rw[E]at hr;cases hr;rw[Aw E];exact wV (akB x)
 .cases hr
def sH(k:Int):Option Out:=some (Out.of (iA k))
def aiT(a b c:Nat):Option Out:=cond (yg a) (cond (yg b) (cond (yg c) (sH (-1)) (sH (-1))) (cond (yg c) (sH (-1)) (sH 0))) (cond (yg b) (cond (yg c) (sH (-1)) (sH 1)) (cond (yg c) (sH 2) (sH (-1))))
def aiS(a b c:Nat):Int:=cond (Ef a b c) (axI a b c) (-1)
theorem aeR(a b c:Nat):aj bO 60 [V a b c] (iA (aiS a b c)):=by refine sp aeS Tryz.func60 ((show ev bO R3 [] bC Tryz.f60 [V a b c] ret=aiT a b c by kernel_rfl).trans ?_);unfold aiT aiS Ef axI sH;cases yg a<;>cases yg b<;>cases yg c<;>rfl
theorem aw1{a:Nat->Nat}(h:Ef (a 3) (a 4) (a 5)=true):aj bO 60 [V (a 3) (a 4) (a 5)] (iA (zB a:Nat)):=by have:=aeR (a 3) (a 4) (a 5);unfold aiS at this;rw[h,aY,akE]at this;exact this
section
variable(o d:Nat->Nat)(r:Nat)
theorem ag2:ev bO R3 [] bC Tryz.f146 [V (o 0) (o 1) (o 2),V (d 0) (d 1) (d 2),.f r] ret=abX o d r:=by kernel_rfl
end
theorem aw2(a b c d e f r:Nat):aj bO 146 [V a b c,V d e f,.f r] (abG a b c d e f r):=sp aeS Tryz.func146 ((ag2 (ls [a,b,c]) (ls [d,e,f]) r).trans (aw3 _ _ _))
theorem aw4(n t f:Nat):ev bO [] [] bC Tryz.f75 [.f n,.f t,.f f] ret=cond (!bW t n) (cond (!dN n f) (some (Out.of (.f f))) (some (Out.of (.f n)))) (cond (!dN t f) (some (Out.of (.f f))) (some (Out.of (.f t)))):=by kernel_rfl
theorem akF(n t f:Nat):aj bO 75 [.f n,.f t,.f f] (.f (FN t n f)):=by refine sp aB Tryz.func75 ((aw4 n t f).trans ?_);unfold FN;cases bW t n<;>cases dN n f<;>cases dN t f<;>rfl
def lH(a b c:Nat):Bool:=cond (cond (dR a 0) (dR b 0) false) (dR c 0) false
theorem aeT(a b c:Nat):aj bO 44 [V a b c] (bA (lH a b c)):=sp aB Tryz.func44 (by kernel_rfl)
def R4:List Entry:=⟨109,awZ⟩::⟨127,aw0⟩::⟨146,aqt abG⟩::⟨75,ag3 λ n t f=>.f (FN t n f)⟩::⟨44,eV λ a b c=>bA (lH a b c)⟩::R3
theorem FH:∀e,e∈R4->jr bO e:=aL aqr <|aL aqs <|aL (aeU aw2) <|aL (UC akF) <|aL (uq aeT) aeS
end Go.Proofs.YtdlhemnconimnaaGreat.Hs
namespace Go.Ev
open Ieee
theorem aaK{d:Datum}(h:d.isNaN=false):d.order d=some .eq:=by
 cases d with
 |number s m i=>simp only[Datum.order];simp
 |infinity s=>simp[Datum.order]
 |nan s f=>simp[Datum.isNaN]at h
theorem Xl(x:Nat):dR x x=!aF x:=by
 unfold dR;cases h:aF x
 .have:double.order x x=some .eq:=aaK h;rw[this];rfl
 .have:double.order x x=none:=jh h;rw[this];rfl
theorem ahM{d e:Datum}(C:d.isNaN=false)(h:e.isNaN=false):∃o,d.order e=some o:=by
 cases d with
 |nan s f=>simp[Datum.isNaN]at C
 |infinity s =>
  cases e with
  |nan s f=>simp[Datum.isNaN]at h
  |infinity t=>cases s<;>cases t<;>exact⟨_,rfl⟩
  |number t m i=>cases s<;>exact⟨_,rfl⟩
 |number s m i =>
  cases e with
  |nan s f=>simp[Datum.isNaN]at h
  |infinity t=>cases t<;>exact⟨_,rfl⟩
  |number t n j=>exact⟨_,rfl⟩
theorem Sr{x y:Nat}(C:aF x=false)(h:aF y=false):∃o,double.order x y=some o:=ahM C h
theorem yu{x y:Nat}(E:aF x=false)(C:aF y=false):iL x y=!dN x y:=by obtain⟨o,h⟩:=Sr E C;unfold iL dN;rw[h];cases o<;>rfl
theorem u7{x y:Nat}(E:aF x=false)(C:aF y=false):iB x y=!bW x y:=by obtain⟨o,h⟩:=Sr E C;unfold iB bW;rw[h];cases o<;>rfl
theorem afn{x y:Nat}(h:iL x y=true):aF x=false/\aF y=false:=by
 unfold iL at h;constructor
 .cases E:aF x
  .rfl
  .have e:double.order x y=none:=jh E;rw[e]at h;cases h
 .cases C:aF y
  .rfl
  .have e:double.order x y=none:=jQ C;rw[e]at h;cases h
theorem tC{x y:Nat}(h:bW x y=true):aF x=false/\aF y=false:=by
 unfold bW at h;constructor
 .cases E:aF x
  .rfl
  .have e:double.order x y=none:=jh E;rw[e]at h;cases h
 .cases C:aF y
  .rfl
  .have e:double.order x y=none:=jQ C;rw[e]at h;cases h
theorem vg{x y:Nat}(h:dN x y=true):aF x=false/\aF y=false:=by
 unfold dN at h;constructor
 .cases E:aF x
  .rfl
  .have e:double.order x y=none:=jh E;rw[e]at h;cases h
 .cases C:aF y
  .rfl
  .have e:double.order x y=none:=jQ C;rw[e]at h;cases h
end Go.Ev
namespace Go.Proofs.YtdlhemnconimnaaGreat.Hs
open Go.Gv
open Go.Ev (cn aM aU aX fdiv bD dG dR dN iB bW iL fabs aF yu u7 afn tC vg Xl)
theorem xA{x:Nat}(h:iF x=true):aF x=false:=by
 unfold iF at h;cases C:iL x 13920209183539462144
 .rw[C]at h;cases h
 .exact(afn C).1
theorem EN{a b c:Nat}(h:fE a b c=true):iF a=true/\iF b=true/\iF c=true:=by unfold fE at h;revert h;cases iF a<;>cases iF b<;>cases iF c<;>intro h<;>first | (cases h;done) |exact⟨rfl,rfl,rfl⟩
theorem O5{a b c:Nat}(h:fE a b c=true):aF a=false/\aF b=false/\aF c=false:=by obtain⟨F,E,C⟩:=EN h;exact⟨xA F,xA E,xA C⟩
theorem ams{b:Nat->Nat}(h:lG b=0):fE (b 0) (b 1) (b 2)=true/\fE (b 3) (b 4) (b 5)=true:=by unfold lG Uc at h;revert h;cases fE (b 0) (b 1) (b 2)<;>cases fE (b 3) (b 4) (b 5)<;>intro h<;>first | (cases h;done) |exact⟨rfl,rfl⟩
structure aDo(r:Nat->Nat):Prop where
 from':fE (r 0) (r 1) (r 2)=true
 dir:fE (r 3) (r 4) (r 5)=true
 least:iF (r 6)=true
theorem acE{r:Nat->Nat}(h:gP r=0):aDo r:=by
 unfold gP at h;cases C:QG r
 .unfold QG at C;revert C;cases I:fE (r 0) (r 1) (r 2)<;>cases F:fE (r 3) (r 4) (r 5)<;>cases E:iF (r 6)<;>intro C<;>first | (cases C;done) |exact⟨I,F,E⟩
 .rw[C]at h;cases h
theorem UZ{x:Nat}(h:iF x=true):iB x 0=!bW x 0:=u7 (xA h) (by decide +kernel)
section
variable(b r:Nat->Nat)
def Y7(lo hi o d n f:Nat)(k:Nat->Nat->Option Out):Option Out :=
 cond (dR d 0) (cond (cond (dN o lo) true (bW o hi)) LP (k n f))
  (cond (dN d 0) (k (jA n (fdiv (aU hi o) d)) (jy f (fdiv (aU lo o) d))) (k (jA n (fdiv (aU lo o) d)) (jy f (fdiv (aU hi o) d))))
theorem O6{lo hi o d n f:Nat}(k:Nat->Nat->Option Out)(h:aF lo=false)(C:aF hi=false)(E:aF o=false):Y7 lo hi o d n f k=cond (Ca lo hi o d) (k (vv lo hi o d n) (wJ lo hi o d f)) LP:=by
 unfold Y7 Ca vv wJ tH tJ;rw[yu E h,u7 E C];cases dR d 0<;>simp only[aY,eU]
 .cases dN d 0<;>rfl
 .cases dN o lo<;>cases bW o hi<;>rfl
def auS(n f:Nat):Option Out:=cond (bW n f) LP (some (Out.of (.bK [.f n,.f f,bA true])))
def amt:Option Out:=cond (Ij b r) LP (Y7 (b 0) (b 3) (r 0) (r 3) (r 6) Gs λ n f=>Y7 (b 1) (b 4) (r 1) (r 4) n f λ n f=>Y7 (b 2) (b 5) (r 2) (r 5) n f auS)
theorem amu:ev bO R4 [] bC Tryz.f71 [BX b,RY r] ret=amt b r:=by kernel_rfl
theorem bad_false{b r:Nat->Nat}(h:Ij b r=false):lG b=0/\gP r=0:=by
 unfold Ij at h;cases C:lG b==0
 .rw[C]at h;cases h
 .rw[C]at h;exact⟨Aw C,by simpa using h⟩
theorem amv:amt b r=some (Out.of (FV b r)):=by
 unfold amt;cases h:Ij b r
 .obtain⟨O,N⟩:=bad_false h;obtain⟨S,Q⟩:=ams O;obtain⟨M,l1,l2⟩:=O5 S;obtain⟨F,E,C⟩:=O5 Q;obtain⟨K,J,I⟩:=O5 (acE N).from';rw[eU,O6 _ M F K];simp only[O6 _ l1 E J,O6 _ l2 C I];unfold FV bP bX dw;rw[h];unfold auS LP;show cond (m1K b r) (cond (m2K b r) (cond (m3K b r) (cond (bW (m3N b r) (m3F b r)) (some (Out.of (.bK [.f 0,.f 0,bA false]))) (some (Out.of (.bK [.f (m3N b r),.f (m3F b r),bA true])))) _) _) _=_;cases m1K b r<;>cases m2K b r<;>cases m3K b r<;>cases bW (m3N b r) (m3F b r)<;>rfl
 .unfold FV bP bX dw;rw[h];rfl
theorem ayE:aj bO 71 [BX b,RY r] (FV b r):=sp FH Tryz.func71 ((amu b r).trans (amv b r))
end
def R5:List Entry:=⟨71,eBY FV⟩::R4
theorem yw:∀e,e∈R5->jr bO e:=aL (wL ayE) FH
section
variable(a:Nat->Nat)(sk:Int)
theorem ar1:aj bO 62 [SH 1 a sk] (BX (gL a)):=sp yw aIc (by kernel_rfl)
theorem ar2:aj bO 62 [SH 2 a sk] (BX (eH a)):=sp yw aIc (by kernel_rfl)
theorem ar3:aj bO 62 [SH 3 a sk] (BX (rV a)):=sp yw aIc (by kernel_rfl)
theorem ar4:aj bO 62 [SH 4 a sk] (BX (gL a)):=sp yw aIc (by kernel_rfl)
def axK(z:Nat):bf:=kS bO 60 λ _=>iA (z:Nat)
def gAx(z:Nat)(o:Option Out):Option Out:=gate (aj bO 60 [V (a 3) (a 4) (a 5)] (iA (z:Nat))) o
theorem vk{z:Nat}{o:Option Out}(h:Ef (a 3) (a 4) (a 5)=true)(C:zB a=z):gAx a z o=o:=ak (by rw[<-C];exact aw1 h)
theorem aqO:ev bO R5 [axK 0] bC aKK [SH 5 a sk] ret=gAx a 0 (some (Out.of (BX (dM a 0)))):=by kernel_rfl
theorem aqP:ev bO R5 [axK 1] bC aKK [SH 5 a sk] ret=gAx a 1 (some (Out.of (BX (dM a 1)))):=by kernel_rfl
theorem aqQ:ev bO R5 [axK 2] bC aKK [SH 5 a sk] ret=gAx a 2 (some (Out.of (BX (dM a 2)))):=by kernel_rfl
theorem ar5(h:Ef (a 3) (a 4) (a 5)=true):aj bO 62 [SH 5 a sk] (BX (dM a (zB a))):=by
 rcases HZ a with C |C |C
 .rw[C];exact aR yw (au aG ay) aIc aC ((aqO a sk).trans (vk a h C))
 .rw[C];exact aR yw (au aG ay) aIc aC ((aqP a sk).trans (vk a h C))
 .rw[C];exact aR yw (au aG ay) aIc aC ((aqQ a sk).trans (vk a h C))
theorem aqR:ev bO R5 [axK 0] bC aKK [SH 6 a sk] ret=gAx a 0 (some (Out.of (BX (kM a 0)))):=by kernel_rfl
theorem aqS:ev bO R5 [axK 1] bC aKK [SH 6 a sk] ret=gAx a 1 (some (Out.of (BX (kM a 1)))):=by kernel_rfl
theorem aqT:ev bO R5 [axK 2] bC aKK [SH 6 a sk] ret=gAx a 2 (some (Out.of (BX (kM a 2)))):=by kernel_rfl
theorem ar6(h:Ef (a 3) (a 4) (a 5)=true):aj bO 62 [SH 6 a sk] (BX (kM a (zB a))):=by
 rcases HZ a with C |C |C
 .rw[C];exact aR yw (au aG ay) aIc aC ((aqR a sk).trans (vk a h C))
 .rw[C];exact aR yw (au aG ay) aIc aC ((aqS a sk).trans (vk a h C))
 .rw[C];exact aR yw (au aG ay) aIc aC ((aqT a sk).trans (vk a h C))
def arK(b:Nat->Nat):bf:=kS bO 62 λ _=>BX b
def gAr(j:Int)(b:Nat->Nat)(o:Option Out):Option Out:=gate (aj bO 62 [SH j a sk] (BX b)) o
def smZ(j:Int)(b:Nat->Nat):Option Out:=gAr a sk j b (cond (!(lG b==0)) (sH 1) (sH 0))
def smX(o:Option Out):Option Out:=cond (jN sk) (sH 4) (cond (Kk a) (sH 1) o)
def R6:List Entry:=⟨60,eV λ a b c=>iA (aiS a b c)⟩::R5
theorem Ad:∀e,e∈R6->jr bO e:=aL (uq aeR) yw
theorem axl(b:Nat->Nat):ev bO R6 [arK b] bC aKk [SH 1 a sk] ret=smX a sk (cond (iB (a 9) 0) (sH 6) (smZ a sk 1 b)):=by kernel_rfl
theorem axm(b:Nat->Nat):ev bO R6 [arK b] bC aKk [SH 2 a sk] ret=smX a sk (cond (Gu a) (sH 6) (smZ a sk 2 b)):=by kernel_rfl
theorem axn(b:Nat->Nat):ev bO R6 [arK b] bC aKk [SH 3 a sk] ret=smX a sk (smZ a sk 3 b):=by kernel_rfl
theorem axo(b:Nat->Nat):ev bO R6 [arK b] bC aKk [SH 4 a sk] ret=smX a sk (cond (iB (a 9) 0) (sH 6) (cond (!(unE (a 3) (a 4) (a 5)==0)) (sH (unE (a 3) (a 4) (a 5))) (smZ a sk 4 b))):=by kernel_rfl
theorem axp(b:Nat->Nat):ev bO R6 [arK b] bC aKk [SH 5 a sk] ret=smX a sk (cond (cond (iB (a 9) 0) true (decide (aiS (a 3) (a 4) (a 5)<0))) (sH 6) (smZ a sk 5 b)):=by kernel_rfl
theorem axq(b:Nat->Nat):ev bO R6 [arK b] bC aKk [SH 6 a sk] ret=smX a sk (cond (cond (cond (iB (a 10) 0) true (dN (a 9) (a 10))) true (decide (aiS (a 3) (a 4) (a 5)<0))) (sH 6) (smZ a sk 6 b)):=by kernel_rfl
theorem axr(k:Int)(b:Nat->Nat):ev bO R6 [arK b] bC aKk [SH k a sk] ret=smX a sk (cond (k==1) (cond (iB (a 9) 0) (sH 6) (smZ a sk k b)) (cond (k==2) (cond (Gu a) (sH 6) (smZ a sk k b)) (cond (k==3) (smZ a sk k b) (cond (k==4) (cond (iB (a 9) 0) (sH 6) (cond (!(unE (a 3) (a 4) (a 5)==0)) (sH (unE (a 3) (a 4) (a 5))) (smZ a sk k b)))
  (cond (k==5) (cond (cond (iB (a 9) 0) true (decide (aiS (a 3) (a 4) (a 5)<0))) (sH 6) (smZ a sk k b)) (cond (k==6) (cond (cond (cond (iB (a 10) 0) true (dN (a 9) (a 10))) true (decide (aiS (a 3) (a 4) (a 5)<0))) (sH 6) (smZ a sk k b)) (sH 3))))))):=by kernel_rfl
end
theorem ae2(x y z:Nat):decide (aiS x y z<0)=!Ef x y z:=by unfold aiS Ef axI;cases yg x<;>cases yg y<;>cases yg z<;>rfl
theorem yF{a:Nat->Nat}(h:Kk a=false):iF (a 9)=true/\iF (a 10)=true:=by unfold Kk at h;revert h;cases fE (a 0) (a 1) (a 2)<;>cases fE (a 3) (a 4) (a 5)<;>cases fE (a 6) (a 7) (a 8)<;>cases iF (a 9)<;>cases iF (a 10)<;>intro h<;>first | (cases h;done) |exact⟨rfl,rfl⟩
theorem KG{a:Nat->Nat}{sk:Int}{m:Int}{b:Nat->Nat}{o:Option Out}(h:Kk a=false->o=cond (!(m==0)) (sH m) (cond (!(lG b==0)) (sH 1) (sH 0))):smX a sk o=some (Out.of (iA (NR a sk m b))):=by
 unfold smX NR;cases jN sk
 .cases hr:Kk a
  .rw[h hr];unfold sH;cases(m==0)<;>cases(lG b==0)<;>rfl
  .rfl
 .rfl
theorem EG{a:Nat->Nat}{sk j:Int}{b:Nat->Nat}(h:aj bO 62 [SH j a sk] (BX b)):smZ a sk j b=cond (!(lG b==0)) (sH 1) (sH 0):=ak h
section
variable(a:Nat->Nat)(sk:Int)
theorem sm1:aj bO 26 [SH 1 a sk] (iA (e1 a sk)):=by refine aR Ad (au aG ay) aIZ aC ((axl a sk (gL a)).trans (KG λ hr=>?_));rw[EG (ar1 a sk),UZ (yF hr).1];unfold Il;cases bW (a 9) 0<;>rfl
theorem sm2:aj bO 26 [SH 2 a sk] (iA (e2 a sk)):=by refine aR Ad (au aG ay) aIZ aC ((axm a sk (eH a)).trans (KG λ hr=>?_));rw[EG (ar2 a sk)];unfold AU;cases Gu a<;>rfl
theorem sm3:aj bO 26 [SH 3 a sk] (iA (e3 a sk)):=by refine aR Ad (au aG ay) aIZ aC ((axn a sk (rV a)).trans (KG λ hr=>?_));rw[EG (ar3 a sk)];rfl
theorem sm4:aj bO 26 [SH 4 a sk] (iA (e4 a sk)):=by
 refine aR Ad (au aG ay) aIZ aC ((axo a sk (gL a)).trans (KG λ hr=>?_));rw[EG (ar4 a sk),UZ (yF hr).1];unfold Bb;cases bW (a 9) 0
 .rfl
 .rfl
theorem sm5:aj bO 26 [SH 5 a sk] (iA (e5 a sk)):=by
 refine aR Ad (au aG ay) aIZ aC ((axp a sk (dM a (zB a))).trans (KG λ hr=>?_));rw[UZ (yF hr).1,ae2];unfold FC;cases h:Ef (a 3) (a 4) (a 5)
 .cases bW (a 9) 0<;>rfl
 .rw[EG (ar5 a sk h)];cases bW (a 9) 0<;>rfl
theorem sm6:aj bO 26 [SH 6 a sk] (iA (e6 a sk)):=by
 refine aR Ad (au aG ay) aIZ aC ((axq a sk (kM a (zB a))).trans (KG λ hr=>?_));rw[UZ (yF hr).2,ae2];unfold FL;rw[yu (xA (yF hr).1) (xA (yF hr).2)];cases h:Ef (a 3) (a 4) (a 5)
 .cases bW (a 10) 0<;>cases dN (a 9) (a 10)<;>rfl
 .rw[EG (ar6 a sk h)];cases bW (a 10) 0<;>cases dN (a 9) (a 10)<;>rfl
theorem sm0{k:Int}(h:abj k):aj bO 26 [SH k a sk] (iA (e0 a sk)):=by obtain⟨K,J,I,F,E,C⟩:=h;refine aR Ad (au aG ay) aIZ aC ((axr a sk k FR).trans ?_);rw[mI K,mI J,mI I,mI F,mI E,mI C];unfold smX e0 sH;cases jN sk<;>cases Kk a<;>rfl
end
section
variable(k:Int)(a:Nat->Nat)(sk:Int)(e:Int)(b:Nat->Nat)
def smK(e:Int):bf:=kS bO 26 λ _=>iA e
abbrev QS:Prop:=aj bO 26 [SH k a sk] (iA e)
end
def asb(c:Int):Int:=cond (decide (c<0)) (aH (0 - aH (c+1))) c
def dD(c n:Int):Int:=(asb c).tmod n
theorem amO(c n:Int):ev bO [] [] bC Tryz.f17 [iA c,iA n] ret=cond (decide (c<0)) (cond ((!(n==0))&&true) (some (Out.of (iA ((aH (0 - aH (c+1))).tmod n)))) none) (cond ((!(n==0))&&true) (some (Out.of (iA (c.tmod n)))) none):=by kernel_rfl
theorem WR{c n:Int}(h:(!(n==0))=true):aj bO 17 [iA c,iA n] (iA (dD c n)):=by refine sp aB Tryz.func17 ((amO c n).trans ?_);rw[h];unfold dD asb;cases decide (c<0)<;>rfl
def ePk(pf:Int->Int->Int):List AV->Option AV
 | [.x (.int .i64 c),.x (.int .i64 n)]=>cond (!(n==0)) (some (iA (pf c n))) none
 |_=>none
theorem acY:jr bO ⟨17,ePk dD⟩:=λ C r hr=>by
 simp only[ePk]at hr;split at hr
 .rename_i c n;cases h:!(n==0)
  .rw[h]at hr;cases hr
  .rw[h]at hr;cases hr;exact wV (WR h)
 .cases hr
def zJ:Nat:=4652007308841189376
def bU(n:Int):Nat:=fdiv (cn (FloatKind.f64.nearest n)) zJ
theorem ajf(n:Int):aj bO 40 [iA n] (.f (bU n)):=sp aB Tryz.func40 (by kernel_rfl)
def eI(g:Int->AV):List AV->Option AV
 | [.x (.int .i64 n)]=>some (g n)
 |_=>none
theorem aje{f:Nat}{g:Int->AV}(h:∀n,aj bO f [iA n] (g n)):jr bO ⟨f,eI g⟩:=λ C r hr=>by
 simp only[eI]at hr;split at hr
 .cases hr;exact wV (h _)
 .cases hr
def M0(pf:Int->Int->Int)(tf:Int->Nat):List Entry:=⟨17,ePk pf⟩::⟨40,eI λ n=>.f (tf n)⟩::R4
theorem wP:∀e,e∈M0 dD bU->jr bO e:=aL acY <|aL (aje ajf) FH
section
variable(n:Nat)(hs:Nat->Int)(pf:Int->Int->Int)(tf:Int->Nat)(rf:Int->Int)(k fr mo c:Int)
def dL:Int:=cond ((n:Int)==0) 0 (hs (k.tmod (n:Int)).toNat)
theorem asc:ev bO [] [] bC Tryz.f20 [sI n hs,iA k] ret=cond ((n:Int)==0) (some (Out.of (iA 0))) (cond ((!((n:Int)==0))&&true) (cond (iP (k.tmod (n:Int)) n||false) (some (Out.of (iA (hs (k.tmod (n:Int)).toNat)))) none) none):=by kernel_rfl
theorem aDI{n:Nat}{hs:Nat->Int}{k:Int}(C:0<=k):aj bO 20 [sI n hs,iA k] (iA (dL n hs k)):=by
 refine sp aB Tryz.func20 ((asc n hs k).trans ?_);unfold dL;cases h:((n:Int)==0)
 .have F:(n:Int)≠0:=λ e=>by rw[e]at h;cases h
  have e:k.tmod (n:Int)=k % (n:Int):=aJc C;have a:=aK1 k F;have b:=aKu k (show(0:Int)<n by omega)
  have E:iP (k.tmod (n:Int)) n=true:=by unfold iP;rw[e,gG a,gG b];rfl
  rw[E];rfl
 .rfl
def WM(pf:Int->Int->Int)(tf:Int->Nat)(c mo:Int):Nat:=tf (aH (pf c (aH (aH (2*mo)+1)) - mo))
theorem ase:ev bO (M0 pf tf) [] bC aLh [iA c,iA 4000] ret=some (Out.of (.f (WM pf tf c 4000))):=by kernel_rfl
theorem asf:ev bO (M0 pf tf) [] bC aLh [iA c,iA 3000] ret=some (Out.of (.f (WM pf tf c 3000))):=by kernel_rfl
theorem asg:ev bO (M0 pf tf) [] bC aLh [iA c,iA 6000] ret=some (Out.of (.f (WM pf tf c 6000))):=by kernel_rfl
theorem ash:ev bO (M0 pf tf) [] bC aLh [iA c,iA 1500] ret=some (Out.of (.f (WM pf tf c 1500))):=by kernel_rfl
theorem asi:ev bO (M0 pf tf) [] bC aLh [iA c,iA 5000] ret=some (Out.of (.f (WM pf tf c 5000))):=by kernel_rfl
end
def asj(mo:Int):Prop:=mo=4000\/mo=3000\/mo=6000\/mo=1500\/mo=5000
theorem ay8{mo:Int}(h:asj mo)(c:Int):aj bO 19 [iA c,iA mo] (.f (WM dD bU c mo)):=by
 rcases h with rfl |rfl |rfl |rfl |rfl
 .exact sp wP aKb (ase dD bU c)
 .exact sp wP aKb (asf dD bU c)
 .exact sp wP aKb (asg dD bU c)
 .exact sp wP aKb (ash dD bU c)
 .exact sp wP aKb (asi dD bU c)
section
variable(n:Nat)(hs:Nat->Int)(rf:Int->Int)(mf:Int->Int->Nat)(fr mo:Int)
def rwG(rf:Int->Int):List AV->AV
 | [_,.x (.int .i64 k)]=>iA (rf k)
 |_=>.any
def aDp(mf:Int->Int->Nat):List AV->AV
 | [.x (.int .i64 c),.x (.int .i64 mo)]=>.f (mf c mo)
 |_=>.any
def gR(k:Int)(o:Option Out):Option Out:=gate (aj bO 20 [sI n hs,iA k] (iA (rf k))) o
def gMi(c mo:Int)(o:Option Out):Option Out:=gate (aj bO 19 [iA c,iA mo] (.f (mf c mo))) o
def Kg:bf:=kS bO 20 (rwG rf)
def veX:Option Out:=gR n hs rf fr (gMi mf (rf fr) mo (gR n hs rf (aH (fr+1)) (gMi mf (rf (aH (fr+1))) mo (gR n hs rf (aH (fr+2)) (gMi mf (rf (aH (fr+2))) mo (some (Out.of (V (mf (rf fr) mo) (mf (rf (aH (fr+1))) mo) (mf (rf (aH (fr+2))) mo)))))))))
theorem aDJ:ev bO R4 [Kg rf,kS bO 19 (aDp mf)] bC Tryz.f21 [sI n hs,iA fr,iA mo] ret=veX n hs rf mf fr mo:=by kernel_rfl
end
def pQ(n:Nat)(hs:Nat->Int)(fr mo:Int)(i:Nat):Nat:=WM dD bU (dL n hs (aH (fr+(i:Nat)))) mo
theorem dO{n:Nat}{hs:Nat->Int}{k:Int}{o:Option Out}(h:0<=k):gR n hs (dL n hs) k o=o:=ak (aDI h)
theorem Vw{c mo:Int}{o:Option Out}(h:asj mo):gMi (WM dD bU) c mo o=o:=ak (ay8 h c)
theorem aGd{n:Nat}{hs:Nat->Int}{fr mo:Int}(C:0<=fr)(F:fr<=1000)(h:asj mo):aj bO 21 [sI n hs,iA fr,iA mo] (V (pQ n hs fr mo 0) (pQ n hs fr mo 1) (pQ n hs fr mo 2)):=by
 refine aR FH (au aG (au aG ay)) Tryz.func21 aC ((aDJ n hs (dL n hs) (WM dD bU) fr mo).trans ?_);have e0:aH (fr+((0:Nat):Int))=fr:=by rw[aO];omega
 have a1:0<=aH (fr+1):=by rw[aO];omega
 have E:0<=aH (fr+2):=by rw[aO];omega
 unfold veX pQ;rw[dO C,Vw h,dO a1,Vw h,dO E,Vw h,e0];rfl
section
variable(n:Nat)(hs:Nat->Int)(pf:Int->Int->Int)(tf:Int->Nat)(rf:Int->Int)(vf:Int->Int->Nat->Nat)
def vcG(vf:Int->Int->Nat->Nat):List AV->AV
 | [_,.x (.int .i64 fr),.x (.int .i64 mo)]=>V (vf fr mo 0) (vf fr mo 1) (vf fr mo 2)
 |_=>.any
def vcK:bf:=kS bO 21 (vcG vf)
def gV(fr mo:Int)(o:Option Out):Option Out:=gate (aj bO 21 [sI n hs,iA fr,iA mo] (V (vf fr mo 0) (vf fr mo 1) (vf fr mo 2))) o
end
theorem sD{n:Nat}{hs:Nat->Int}{fr mo:Int}{o:Option Out}(E:0<=fr)(C:fr<=1000)(h:asj mo):gV n hs (pQ n hs) fr mo o=o:=ak (aGd E C h)
section
variable(n:Nat)(hs:Nat->Int)(pf:Int->Int->Int)(tf:Int->Nat)(rf:Int->Int)(vf:Int->Int->Nat->Nat)(x y w:Nat)
def z3:Nat->Nat:=λ _=>0
def M1(pf:Int->Int->Int)(tf:Int->Nat):List Entry:=⟨17,ePk pf⟩::⟨40,eI λ n=>.f (tf n)⟩::⟨44,eV λ a b c=>bA (lH a b c)⟩::R3
theorem ae5:∀e,e∈M1 dD bU->jr bO e:=aL acY <|aL (aje ajf) <|aL (uq aeT) aeS
end
theorem jc{c m:Int}(I:-9223372036854775808<=c)(E:c<=9223372036854775807)(C:0<m):0<=dD c m/\dD c m<m:=by
 have F:0<=asb c:=by
  unfold asb;by_cases h:c<0
  .rw[gG h,aY,aO (n:=c+1),aO];omega
  .rw[iH h];show 0<=c;omega
 unfold dD;rw[aJc F];exact⟨aK1 _ (by omega),aKu _ C⟩
theorem fU{n:Nat}{hs:Nat->Int}(h:∀i,i<n->-9223372036854775808<=hs i/\hs i<=9223372036854775807){k:Int}(E:0<=k):-9223372036854775808<=dL n hs k/\dL n hs k<=9223372036854775807:=by
 unfold dL;cases C:((n:Int)==0)
 .have F:(n:Int)≠0:=λ e=>by rw[e]at C;cases C
  rw[eU,aJc E];have a:=aK1 k F;have b:=aKu k (show(0:Int)<n by omega);exact h _ (by omega)
 .show -9223372036854775808<=(0:Int)/\(0:Int)<=9223372036854775807;omega
section
variable(k:Int)(a:Nat->Nat)(sk:Int)(r:Nat->Nat)(e:Int)(b:Nat->Nat)(t i o n f p q u x y w:Nat)(ok:Bool)
def ioK:bf:=kS bO 117 λ _=>.bK [.f i,.f o,bA ok]
abbrev agk(n f i o:Nat)(ok:Bool):Prop:=aj bO 117 [SH k a sk,RY r,.f n,.f f] (.bK [.f i,.f o,bA ok])
def rwX(n f:Nat):Option Out:=cond (cond (!ok) true (!dN (FN i n f) (FN o n f))) (wi4 0 0 false 0) (wi4 (FN i n f) (FN o n f) true 0)
def ana:Bool:=cond (cond (!(k==1)) (!(k==2)) false) (!(k==5)) false
theorem VG:ev bO R6 [smK e,arK b,ioK i o ok] bC Tryz.f153 [SH k a sk,RY r] ret =
  gate (QS k a sk e) (cond (!(e==0)) (wi4 0 0 false e) (cond (!(gP r==0)) (wi4 0 0 false (gP r)) (cond (ana k) (wi4 0 0 false 3) (gAr a sk k b (cond (!dw b (r0 r)) (wi4 0 0 false 0) (gate (agk k a sk (r0 r) (bP b (r0 r)) (bX b (r0 r)) i o ok) (rwX i o ok (bP b (r0 r)) (bX b (r0 r))))))))):=by kernel_rfl
theorem aD3{k:Int}{a:Nat->Nat}{sk e:Int}{r:Nat->Nat}(h:QS k a sk e)(C:e≠0):aj bO 153 [SH k a sk,RY r] (.bK [.f 0,.f 0,bA false,iA e]):=by refine aR Ad (au aG (au aG (au aG ay))) aKy aC ((VG k a sk r e FR 0 0 false).trans ((ak h).trans ?_));rw[mI C];rfl
theorem auY{k:Int}{a:Nat->Nat}{sk:Int}{r:Nat->Nat}(h:QS k a sk 0)(hr:gP r≠0):aj bO 153 [SH k a sk,RY r] (.bK [.f 0,.f 0,bA false,iA (gP r)]):=by refine aR Ad (au aG (au aG (au aG ay))) aKy aC ((VG k a sk r 0 FR 0 0 false).trans ((ak h).trans ?_));rw[mI hr];rfl
theorem aD4{k:Int}{a:Nat->Nat}{sk:Int}{r:Nat->Nat}(h:QS k a sk 0)(hr:gP r=0)(C:ana k=true):aj bO 153 [SH k a sk,RY r] (.bK [.f 0,.f 0,bA false,iA 3]):=by refine aR Ad (au aG (au aG (au aG ay))) aKy aC ((VG k a sk r 0 FR 0 0 false).trans ((ak h).trans ?_));rw[hr,C];rfl
theorem aD5{k:Int}{a:Nat->Nat}{sk:Int}{r b:Nat->Nat}{i o:Nat}{ok:Bool}(h:QS k a sk 0)(hr:gP r=0)(F:ana k=false)(I:aj bO 62 [SH k a sk] (BX b))(C:dw b (r0 r)=true->agk k a sk (r0 r) (bP b (r0 r)) (bX b (r0 r)) i o ok) :
  aj bO 153 [SH k a sk,RY r] (.bK [.f (paI (dw b (r0 r)) ok i o (bP b (r0 r)) (bX b (r0 r))),.f (paO (dw b (r0 r)) ok i o (bP b (r0 r)) (bX b (r0 r))),bA (paK (dw b (r0 r)) ok i o (bP b (r0 r)) (bX b (r0 r))),iA 0]):=by
 refine aR Ad (au aG (au aG (au aG ay))) aKy aC ((VG k a sk r 0 b i o ok).trans ((ak h).trans ?_));rw[hr,F];show gAr a sk k b _=_;unfold gAr;rw[ak I];cases E:dw b (r0 r)
 .rfl
 .rw[ak (C E)];unfold rwX paI paO paK wi4;cases ok<;>cases dN (FN i (bP b (r0 r)) (bX b (r0 r))) (FN o (bP b (r0 r)) (bX b (r0 r)))<;>rfl
theorem io1:agk 1 a sk r n f (abN (DR a r) (DT r) (a 9)) (abF (DR a r) (DT r) (a 9)) (QB (DR a r) (DT r) (a 9)):=sp Ad aJO (by kernel_rfl)
theorem io2:agk 2 a sk r n f n f true:=sp Ad aJO (by kernel_rfl)
end
section
variable(a:Nat->Nat)(sk:Int)(r:Nat->Nat)(n f z:Nat)
def tzB:Bool:=lH (tbD r z 0) (tbD r z 1) (tbD r z 2)
theorem avv:tzB r z=tbZ r z:=by unfold tzB tbZ lH;cases dR (tbD r z 0) 0<;>cases dR (tbD r z 1) 0<;>cases dR (tbD r z 2) 0<;>rfl
def rtI:Nat:=cond (tbZ r z) n (tbI a r n z)
def rtU:Nat:=cond (tbZ r z) f (tbU a r f z)
def rtK:Bool:=cond (tbZ r z) (tbA a r z) (cond (tbB a r z) (iB (tbI a r n z) (tbU a r f z)) false)
def rtY(i o:Nat):Option Out:=QE i o (cond (tbB a r z) (iB i o) false)
def rtX:Option Out:=cond (tzB r z) (QE n f (tbA a r z)) (cond (!bW (tbP a r z) n) (cond (!dN (tbQ a r z) f) (rtY a r z n f) (rtY a r z n (tbQ a r z))) (cond (!dN (tbQ a r z) f) (rtY a r z (tbP a r z) f) (rtY a r z (tbP a r z) (tbQ a r z))))
theorem aaA:rtX a r n f z=some (Out.of (.bK [.f (rtI a r n z),.f (rtU a r f z),bA (rtK a r n f z)])):=by
 unfold rtX rtI rtU rtK rtY tbI tbU QE;rw[avv];cases tbZ r z
 .cases bW (tbP a r z) n<;>cases dN (tbQ a r z) f<;>rfl
 .rfl
theorem apk:ev bO R5 [axK 0] bC aNh [SH 5 a sk,RY r,.f n,.f f] ret=gAx a 0 (rtX a r n f 0):=by kernel_rfl
theorem apl:ev bO R5 [axK 1] bC aNh [SH 5 a sk,RY r,.f n,.f f] ret=gAx a 1 (rtX a r n f 1):=by kernel_rfl
theorem apm:ev bO R5 [axK 2] bC aNh [SH 5 a sk,RY r,.f n,.f f] ret=gAx a 2 (rtX a r n f 2):=by kernel_rfl
theorem io5(h:Ef (a 3) (a 4) (a 5)=true):agk 5 a sk r n f (rtI a r n (zB a)) (rtU a r f (zB a)) (rtK a r n f (zB a)):=by
 rcases HZ a with C |C |C
 .rw[C];exact aR yw (au aG ay) aJO aC ((apk a sk r n f).trans ((vk a h C).trans (aaA a r n f 0)))
 .rw[C];exact aR yw (au aG ay) aJO aC ((apl a sk r n f).trans ((vk a h C).trans (aaA a r n f 1)))
 .rw[C];exact aR yw (au aG ay) aJO aC ((apm a sk r n f).trans ((vk a h C).trans (aaA a r n f 2)))
theorem avw(C:aF n=false)(hf:aF f=false):rtK a r n f z=TG a r n f z:=by
 unfold rtK TG
 have F:aF (tbI a r n z)=false:=by
  unfold tbI;cases h:bW (tbP a r z) n
  .exact C
  .exact(tC h).1
 have E:aF (tbU a r f z)=false:=by
  unfold tbU;cases h:dN (tbQ a r z) f
  .exact hf
  .exact(vg h).1
 rw[u7 F E]
variable(i o:Nat)(ok:Bool)
end
section
variable(r:Nat->Nat)(z:Nat)(p q g:Nat->Nat)
variable(hr:gP r=0)(hp:fE (p 0) (p 1) (p 2)=true)(hq:fE (q 0) (q 1) (q 2)=true)(hg:fE (g 0) (g 1) (g 2)=true)
include hr hp hq
omit hr hp hq
include hr hp hq hg
end
section
variable(a:Nat->Nat)(sk:Int)(r:Nat->Nat)(n f:Nat)
variable(hr:gP r=0)(hA:fE (a 0) (a 1) (a 2)=true)(hB:fE (a 3) (a 4) (a 5)=true)(hC:fE (a 6) (a 7) (a 8)=true)
include hr hA hB hC
end
end Go.Proofs.YtdlhemnconimnaaGreat.Hs
namespace Go.Ev
open Ieee
theorem y9:double.leastPlace=-1074:=by decide +kernel
theorem Sk:(double.fractionBits:Int)=52:=rfl
theorem YT{m:Nat}(k:Nat)(C:m≠0):(m <<< k).log2=m.log2+k:=by
 have hp:0<2 ^ k:=aaZ k;have h:m <<< k≠0:=by rw[aG6];exact Nat.mul_ne_zero C (Nat.pos_iff_ne_zero.1 hp)
 rw[aNx h,aG6];refine⟨by rw[ahO];exact ahL _ (aHK C),?_⟩;rw[show m.log2+k+1=m.log2+1+k by omega,ahO];exact aI5 aId hp
theorem ahN{m:Nat}(h:m<9007199254740992):m.log2<=52:=by
 by_cases C:m=0
 .subst C;decide
 .have:=(aNJ C).2 (show m<2 ^ 53 by omega);omega
theorem Bw(s:Bool)(p:Int):double.nearest s 0 p=double.word s 0:=by simp[Format.nearest]
theorem amw(s:Bool){r:Nat}(h:r<=9218868437227405312):double.word s r ^^^ 9223372036854775808=double.word (!s) r:=by
 have C:r<2 ^ 63:=by omega
 unfold Format.word;rw[CO];have e:(9223372036854775808:Nat)=2 ^ 63:=by decide
 rw[e];cases s
 .simp only[aFs,if_false,Bool.not_false,if_true];have hor:=aK2 C 1;rw[aHo]at hor;rw[hor];apply aMm;intro n;simp only[aNy,aMi,aME];by_cases E:63=n
  .subst E;simp[aLF C]
  .simp[E]
 .simp only[if_true,Bool.not_true,aFs,if_false];have hor:=aK2 C 1;rw[aHo]at hor;rw[hor];apply aMm;intro n;simp only[aNy,aMi,aME];by_cases E:63=n
  .subst E;simp[aLF C]
  .simp[E]
theorem TH(s:Bool)(m:Nat)(p:Int):∃r,r<=9218868437227405312/\∀t,double.nearest t m p=double.word t r:=by
 by_cases h:m=0
 .subst h;exact⟨0,by omega,λ t=>Bw t p⟩
 .refine⟨min ((max (p+m.log2 - double.fractionBits) double.leastPlace - double.leastPlace).toNat*double.binade +
   Toward.even.cut s (m <<< (p - max (p+m.log2 - double.fractionBits) double.leastPlace).toNat) (max (p+m.log2 - double.fractionBits) double.leastPlace - p).toNat) double.infRung,by rw[Kv];exact aI8 _ _,λ t=>?_⟩
  unfold Format.nearest;rw[fP h];rfl
theorem aho(s:Bool){r:Nat}(h:r<=9218868437227405312):dG (double.word s r)=double.word (!s) r:=by unfold dG;rw[xD s h,eU,amw s h]
theorem acG(s:Bool)(m k:Nat):signed (!s) m k=- signed s m k:=by cases s<;>simp[signed]
def Hy(a g:Nat):Nat:=a / g+(decide (g<2*(a % g))||(g==2*(a % g)&&a / g % 2==1)).toNat
theorem KM{a g:Nat}(h:2*a<g):Hy a g=0:=by
 have I:a / g=0:=aHw (by omega);have F:a % g=a:=aG8 (by omega);have E:decide (g<2*a)=false:=iH (by omega);have C:(g==2*a)=false:=by simp;omega
 unfold Hy;rw[I,F,E,C];rfl
theorem Bo(b:Bool):b.toNat<=1:=by cases b<;>decide
theorem aaV(a g:Nat):Hy a g<=a / g+1:=aKe (Bo _) _
theorem Ui(a g:Nat):a / g<=Hy a g:=Nat.le_add_right _ _
theorem alL{a b g:Nat}(h:a<=b):Hy a g<=Hy b g:=by
 have E:a / g<=b / g:=aJd h;rcases aIF E with e |e
 .have F:=aEO a g;have J:=aEO b g;have I:a % g<=b % g:=by rw[e]at F;omega
  unfold Hy;rw[e];refine aKe ?_ _;cases C:(decide (g<2*(a % g))||(g==2*(a % g)&&b / g % 2==1))
  .exact alz _
  .have:(decide (g<2*(b % g))||(g==2*(b % g)&&b / g % 2==1))=true:=by simp only[Bool.or_eq_true,CX,UM,WO]at C ⊢;omega
   rw[this];exact ND _
 .exact aa2 (aaV a g) (aa2 e (Ui b g))
theorem Bt(a g:Nat){c:Nat}(h:0<c):Hy (a*c) (g*c)=Hy a g:=by
 unfold Hy;rw[aL9 _ _ h,Nat.mul_mod_mul_right]
 have E:decide (g*c<2*(a % g*c))=decide (g<2*(a % g)):=by rw[<-arA];exact decide_eq_decide.2 (Nat.mul_lt_mul_right h)
 have C:(g*c==2*(a % g*c))=(g==2*(a % g)):=by rw[<-arA,aJP,WO,WO];exact Nat.mul_left_inj (by omega)
 rw[E,C]
theorem afa(s:Bool)(n d:Nat):Toward.even.cut s n d=Hy n (2 ^ d):=by
 have F:n<2 ^ (n.log2+1):=aId;by_cases h:d<=n.log2+2
 .unfold Toward.cut Hy;rw[aJH h,aMX]
 .have C:2*n<2 ^ (n.log2+2):=by rw[aBg];omega
  have E:2*n<2 ^ d:=anS C (agX (by decide) (by omega));rw[KM E];have:=KM C;unfold Hy at this;unfold Toward.cut;rw[Nat.min_eq_right (by omega),aMX];exact this
theorem acf(d n k:Nat)(N:0<n):Hy (2*(d / n)+(d % n !=0).toNat) (2 ^ (k+2))=Hy d (n*2 ^ (k+1)):=by
 have hp:0<2 ^ k:=aaZ k;have e1:2 ^ (k+1)=2*2 ^ k:=by rw[aBg];omega
 have e2:2 ^ (k+2)=2*(2*2 ^ k):=by rw[aBg,e1];omega
 rw[e1,e2];generalize 2 ^ k=H at hp;have hr:d % n<n:=aHY _ N;have O:=aEO d n;generalize C:(d % n !=0).toNat=st
 have hs:(st=0/\d % n=0)\/(st=1/\0<d % n):=by
  cases F:(d % n !=0)
  .rw[F]at C;left;exact⟨C.symm,by simpa using F⟩
  .rw[F]at C;right;refine⟨C.symm,?_⟩;have:d % n≠0:=by simpa using F
   omega
 generalize d % n=r at hr O hs;have S:=aEO (d / n) (2*H);have hB:d / n % (2*H)<2*H:=aHY _ (by omega)
 have K:(2*(d / n)+st) / (2*(2*H))=d / n / (2*H):=by rw[<-aBu];congr 1;omega
 have J:d / (n*(2*H))=d / n / (2*H):=(aBu d n (2*H)).symm;generalize hA:d / n / (2*H)=A at *;generalize U:d / n % (2*H)=Bq at *;generalize hq:d / n=Q at *
 have M:(2*Q+st) % (2*(2*H))=2*Bq+st:=by
  have:=aEO (2*Q+st) (2*(2*H));rw[K]at this;have e:2*(2*H)*A=2*(2*H*A):=by rw[arA]
  omega
 have m2:d % (n*(2*H))=n*Bq+r:=by
  have:=aEO d (n*(2*H));rw[J]at this;have e:n*Q=n*(2*H)*A+n*Bq:=by rw[<-S,aHx,arA n]
  omega
 unfold Hy;rw[K,J,M,m2];congr 2
 have c1:(2*(2*H)<2*(2*Bq+st))↔(n*(2*H)<2*(n*Bq+r)):=by
  have I:n*(2*H)=2*(n*H):=by rw[aIi]
  rw[I];constructor
  .intro h;have:H<=Bq:=by omega
   rcases aIF this with e |e
   .subst e;omega
   .have:=apL n (show H+1<=Bq from e);rw[aHx]at this;omega
  .intro h;by_cases E:Bq<H
   .have:=apL n (show Bq+1<=H from E);rw[aHx]at this;omega
   .rcases aIF (Nat.le_of_not_lt E)with e |e
    .subst e;omega
    .omega
 have Z:(2*(2*H)=2*(2*Bq+st))↔(n*(2*H)=2*(n*Bq+r)):=by
  have I:n*(2*H)=2*(n*H):=by rw[aIi]
  rw[I];constructor
  .intro h;have:H=Bq:=by omega
   subst this;omega
  .intro h;rcases aJQ Bq H with E |e |E
   .have:=apL n (show Bq+1<=H from E);rw[aHx]at this;omega
   .subst e;omega
   .have:=apL n (show H+1<=Bq from E);rw[aHx]at this;omega
 have Y:decide (2*(2*H)<2*(2*Bq+st))=decide (n*(2*H)<2*(n*Bq+r)):=decide_eq_decide.2 c1
 have W:(2*(2*H)==2*(2*Bq+st))=(n*(2*H)==2*(n*Bq+r)):=by rw[aJP,WO,WO];exact Z
 rw[Y,W]
def rq(b a g:Nat):Nat:=((a / g).log2 - b)*2 ^ b+Hy a (g*2 ^ ((a / g).log2 - b))
theorem OT(b a g:Nat){c:Nat}(h:0<c):rq b (a*c) (g*c)=rq b a g:=by unfold rq;rw[aL9 _ _ h,Nat.mul_right_comm,Bt _ _ h]
theorem Dc(b:Nat){a c g:Nat}(h:a<=c):rq b a g<=rq b c g:=by
 have F:a / g<=c / g:=aJd h
 have N:(a / g).log2<=(c / g).log2:=by
  by_cases C:a / g=0
  .rw[C];simp
  .exact(aJq (λ I=>C (Nat.le_zero.1 (I▸F)))).2 (aa2 (aHK C) F)
 unfold rq;have E:(a / g).log2 - b<=(c / g).log2 - b:=by omega
 rcases aIF E with e |e
 .rw[e];exact aKe (alL h) _
 .
  have M:Hy a (g*2 ^ ((a / g).log2 - b))<=2 ^ (b+1):=by
   refine aa2 (aaV _ _) ?_;rw[<-aBu];have:a / g<2 ^ ((a / g).log2+1):=aId
   have K:a / g / 2 ^ ((a / g).log2 - b)<2 ^ (b+1):=by rw[Nat.div_lt_iff_lt_mul (aaZ _),<-ahO];exact anS this (agX (by decide) (by omega))
   omega
  have K:2 ^ b<=Hy c (g*2 ^ ((c / g).log2 - b)):=by
   refine aa2 ?_ (Ui _ _);rw[<-aBu,axF (aaZ _),<-ahO]
   have C:c / g≠0:=by intro C;rw[C]at e;simp at e
   refine aa2 (agX (by decide) (by omega)) (aHK C)
  have J:=ahL (2 ^ b) e;rw[Nat.succ_mul]at J;rw[aBg]at M;omega
theorem aq4(b:Nat){a c g h:Nat}(hg:0<g)(E:0<h)(C:a*h<=c*g):rq b a g<=rq b c h:=by rw[<-OT b a g E,<-OT b c h hg,aEw h g];exact Dc b C
theorem Jm(b:Nat){g:Nat}(hg:0<g):rq b 0 g=0:=by unfold rq;rw[aK9,Nat.log2_zero,Nat.zero_sub,aH1,ZO];exact KM (by rw[Nat.mul_zero];exact aLG hg (aaZ _))
theorem ahw(n:Nat):(n / 2).log2=n.log2 - 1:=by
 rw[Nat.log2_def n];by_cases h:n≥2
 .rw[gH h];simp
 .rw[fP h];have:n / 2=0:=by omega
  rw[this];simp
theorem YR(n:Nat):∀v,(n / 2 ^ v).log2=n.log2 - v
 | 0=>by simp
 |v+1=>by rw[aBg,<-aBu,ahw,YR n v];omega
theorem YS(s:Bool)(m u:Nat)(p:Int)(hp:p=u - 1074):double.nearest s m p=double.word s (min (rq 52 (m*2 ^ u) 1) double.infRung):=by
 by_cases h:m=0
 .subst h;rw[Bw,aH1,Jm 52 (by decide),aOh]
 .have C:(m*2 ^ u / 1).log2=m.log2+u:=by rw[aJe,<-aG6,YT u h]
  have e1:(max (p+m.log2 - (double.fractionBits:Int)) double.leastPlace - double.leastPlace).toNat=m.log2+u - 52:=by rw[y9,Sk];omega
  have e2:(p - max (p+m.log2 - (double.fractionBits:Int)) double.leastPlace).toNat=u - (m.log2+u - 52):=by rw[y9,Sk];omega
  have e3:(max (p+m.log2 - (double.fractionBits:Int)) double.leastPlace - p).toNat=(m.log2+u - 52) - u:=by rw[y9,Sk];omega
  unfold Format.nearest rq;rw[fP h,C];simp only[e1,e2,e3];generalize m.log2+u - 52=l;rw[afa,aG6,aHp]
  have:Hy (m*2 ^ (u - l)) (2 ^ (l - u))=Hy (m*2 ^ u) (2 ^ l):=by rw[<-Bt _ _ (aaZ (min u l)),arA,<-ahO,<-ahO];congr 3<;>omega
  rw[this];rfl
theorem YU(s:Bool)(m v:Nat)(p:Int)(hp:p=-1074 - v):double.nearest s m p=double.word s (min (rq 52 m (2 ^ v)) double.infRung):=by
 by_cases h:m=0
 .subst h;rw[Bw,Jm 52 (aaZ _),aOh]
 .have e1:(max (p+m.log2 - (double.fractionBits:Int)) double.leastPlace - double.leastPlace).toNat=m.log2 - v - 52:=by rw[y9,Sk];omega
  have e2:(p - max (p+m.log2 - (double.fractionBits:Int)) double.leastPlace).toNat=0:=by rw[y9,Sk];omega
  have e3:(max (p+m.log2 - (double.fractionBits:Int)) double.leastPlace - p).toNat=v+(m.log2 - v - 52):=by rw[y9,Sk];omega
  unfold Format.nearest rq;rw[fP h,YR];simp only[e1,e2,e3];rw[afa,aG6,axO,aHo,ahO];rfl
theorem wW(s:Bool)(m u v:Nat)(p:Int)(hp:p+1074=u - v):double.nearest s m p=double.word s (min (rq 52 (m*2 ^ u) (2 ^ v)) double.infRung):=by
 by_cases h:v<=u
 .rw[YS s m (u - v) p (by omega)];have:=OT 52 (m*2 ^ (u - v)) 1 (aaZ v);rw[arA,<-ahO,aHp,aKv h]at this;rw[this]
 .rw[YU s m (v - u) p (by omega)];have:=OT 52 m (2 ^ (v - u)) (aaZ u);rw[<-ahO,aKv (by omega)]at this;rw[this]
theorem YV{x y:Nat}(h:∀k,2 ^ k<=x↔2 ^ k<=y):x.log2=y.log2:=by
 by_cases E:x=0
 .have:y=0:=by
   by_cases C:y=0
   .exact C
   .have:=(h 0).2 (by rw[axO];omega);rw[axO]at this;omega
  rw[E,this]
 .have C:y≠0:=by have:=(h 0).1 (by rw[axO];omega);rw[axO]at this;omega
  exact Nat.le_antisymm ((aJq C).2 ((h _).1 (aHK E))) ((aJq E).2 ((h _).2 (aHK C)))
theorem ahx(b d n u v:Nat)(E:0<n)(hq:2 ^ (b+1)<=d / n):rq b ((2*(d / n)+(d % n !=0).toNat)*2 ^ u) (2 ^ v)=rq b (2*d*2 ^ u) (n*2 ^ v):=by
 have hp:0<2 ^ (b+1):=aaZ _;have S:=Bo (d % n !=0)
 have K:((2*(d / n)+(d % n !=0).toNat)*2 ^ u / 2 ^ v).log2=(2*d*2 ^ u / (n*2 ^ v)).log2:=by
  refine YV λ k=>?_;rw[axF (aaZ _),axF (aLG E (aaZ _)),<-ahO,aIi,<-ahO]
  have F:n<=d:=by have:=(axF E (x:=1) (y:=d)).1 (by omega);omega
  by_cases I:k+v<=u
  .have C:2 ^ (k+v)<=2 ^ u:=agX (by decide) I;constructor
   .intro _;exact aa2 (aHI F C) (ahL _ (by omega))
   .intro _;exact aa2 C (Nat.le_mul_of_pos_left _ (by omega))
  .obtain⟨w,Q⟩:∃w,k+v=w+1+u:=⟨k+v - u - 1,by omega⟩;rw[Q,ahO,<-arA,aLi (aaZ u),aLi (aaZ u),aBg];have N:=axF E (x:=2 ^ w) (y:=d);have e:n*(2 ^ w*2)=2*(2 ^ w*n):=by rw[aEw,arA,aIi]
   rw[e];omega
 have M:u+2<=v+(((2*(d / n)+(d % n !=0).toNat)*2 ^ u / 2 ^ v).log2 - b):=by
  by_cases h:v<=b+2+u
  .have O:2 ^ (b+2+u - v)<=(2*(d / n)+(d % n !=0).toNat)*2 ^ u / 2 ^ v:=by rw[axF (aaZ _),<-ahO,aKv h,ahO];refine ahL _ ?_;rw[aBg];omega
   have J:(2*(d / n)+(d % n !=0).toNat)*2 ^ u / 2 ^ v≠0:=by have:=aaZ (b+2+u - v);intro J;rw[J]at O;omega
   have:=(aJq J).2 O;omega
  .omega
 unfold rq;rw[K]at M ⊢;generalize(2*d*2 ^ u / (n*2 ^ v)).log2 - b=l at M;obtain⟨k,I⟩:∃k,v+l=k+2+u:=⟨v+l - u - 2,by omega⟩;congr 1;rw[<-ahO,arA n,<-ahO,I,ahO,Bt _ _ (aaZ u),acf d n k E,<-arA,Bt _ _ (aaZ u)];have:=Bt d (n*2 ^ (k+1)) (c:=2) (by decide);rw[<-this,aEw d 2,arA n,<-aBg]
theorem NU(s:Bool)(m k:Nat):signed s m k=signed s 1 0*((m:Int)*2 ^ k):=by cases s<;>simp[signed,aG6]
theorem AX(s:Bool)(m a b:Nat):signed s m (a+b)=signed s m a*2 ^ b:=by rw[NU,NU s m a,aNX,aNX,Int.pow_add]
def rv(b r:Nat):Nat:=if r<2 ^ b then r else(2 ^ b+r % 2 ^ b)*2 ^ (r / 2 ^ b - 1)
theorem afI(b r:Nat):rv b r<rv b (r+1):=by
 have h:0<2 ^ b:=aaZ b;unfold rv;generalize 2 ^ b=N at h;by_cases F:r+1<N
 .rw[gH (by omega),gH F];omega
 .rw[fP F];by_cases E:r<N
  .rw[gH E];have e:r+1=N:=by omega
   rw[e,Nat.mod_self,Nat.div_self h,aIr,axO];omega
  .rw[fP E];have J:=aEO r N;have I:r % N<N:=aHY _ h;have hq:1<=r / N:=(axF h).2 (by omega);by_cases M:r % N+1<N
   .have e1:(r+1) / N=r / N:=by rw[Nat.div_eq_iff h];have:r / N*N=N*(r / N):=aEw _ _;omega
    have e2:(r+1) % N=r % N+1:=by have:=aEO (r+1) N;rw[e1]at this;omega
    rw[e1,e2];exact aI5 (by omega) (aaZ _)
   .have K:r % N+1=N:=by omega
    have e0:r+1=N*(r / N+1):=by rw[aHx];omega
    have e1:(r+1) / N=r / N+1:=by rw[e0,Nat.mul_div_cancel_left _ h]
    have e2:(r+1) % N=0:=by rw[e0,Nat.mul_mod_right]
    rw[e1,e2];obtain⟨q,C⟩:∃q,r / N=q+1:=⟨r / N - 1,by omega⟩;rw[C,aIj,aIj,aBg,Nat.add_zero,aEw (2 ^ q) 2,<-arA];exact aI5 (by omega) (aaZ _)
theorem Ox(b:Nat){r:Nat}:∀{q:Nat},r<q->rv b r<rv b q
 | 0,h=>by omega
 |q+1,h=>by
  rcases aIF (Nat.lt_succ_iff.1 h)with e |e
  .rw[e];exact afI b q
  .exact Nat.lt_trans (Ox b e) (afI b q)
theorem ER(b r q:Nat):rv b r<rv b q↔r<q:=by
 constructor
 .intro h;rcases aJQ r q with e |e |e
  .exact e
  .rw[e]at h;omega
  .have:=Ox b e;omega
 .exact Ox b
theorem EH(b:Nat):rv b 0=0:=by unfold rv;rw[gH (aaZ b)]
theorem IQ{m:Nat}(k:Nat)(h:m≠0):(m*2 ^ k).log2=m.log2+k:=by rw[<-aG6,YT k h]
theorem afJ(a:Nat):Hy a 1=a:=by unfold Hy;rw[aJe,Nat.mod_one];rfl
theorem akd(b r:Nat):rq b (rv b r) 1=r:=by
 have F:0<2 ^ b:=aaZ b;unfold rq rv;rw[aJe];by_cases h:r<2 ^ b
 .rw[gH h]
  have E:r.log2 - b=0:=by
   by_cases I:r=0
   .rw[I];simp
   .have:=(aNJ I).2 h;omega
  rw[E,aH1,ZO,axO,afJ]
 .rw[fP h];have K:r % 2 ^ b<2 ^ b:=aHY _ F;have J:=aEO r (2 ^ b);have hq:1<=r / 2 ^ b:=(axF F).2 (by omega)
  have E:((2 ^ b+r % 2 ^ b)*2 ^ (r / 2 ^ b - 1)).log2=b+(r / 2 ^ b - 1):=by rw[IQ _ (by omega)];congr 1;rw[aNx (by omega),aBg];omega
  rw[E,Nat.add_sub_cancel_left,Bt _ 1 (aaZ _),afJ];obtain⟨q,C⟩:∃q,r / 2 ^ b=q+1:=⟨r / 2 ^ b - 1,by omega⟩;rw[C,aHx]at J;rw[C,aIj,aEw q];omega
def dP(x:Nat):Bool:=x / 9223372036854775808 % 2==1
def rung(x:Nat):Nat:=x % 9223372036854775808
def key(x:Nat):Int:=cond (dP x) (-(rung x:Int)) (rung x)
def isFin(x:Nat):Bool:=Tv (rung x) 9218868437227405312
def val(x:Nat):Int:=cond (dP x) (-(rv 52 (rung x):Int)) (rv 52 (rung x))
theorem wX{x:Nat}(h:isFin x=true):rung x<9218868437227405312:=Ou h
theorem azr{r:Nat}(h:r<4503599627370496):rv 52 r=r:=by unfold rv;rw[gH (show r<2 ^ 52 from h)]
theorem Uj{r:Nat}(h:¬r<4503599627370496):rv 52 r=(4503599627370496+r % 4503599627370496)*2 ^ (r / 4503599627370496 - 1):=by unfold rv;rw[fP (show ¬r<2 ^ 52 from h)]
theorem xG(s:Bool)(m k:Nat):signed s m k=cond s (-((m*2 ^ k:Nat):Int)) ((m*2 ^ k:Nat):Int):=by unfold signed;rw[aG6];cases s<;>rfl
theorem j5{x:Nat}(h:isFin x=true):∃m i,double.read x=.number (dP x) m i/\-1074<=i/\m<9007199254740992/\rv 52 (rung x)=m*2 ^ (i+1074).toNat:=by
 have E:=wX h;unfold rung at E ⊢;unfold Format.read dP;simp only[CO,Kv,EA,y9];by_cases C:x % 9223372036854775808<4503599627370496
 .rw[gH C];refine⟨_,_,rfl,by omega,by omega,?_⟩;rw[azr C,show(-1074+1074:Int).toNat=0 from rfl,axO,aHo]
 .rw[fP C,gH E];have:=aHY (x % 9223372036854775808) (show 0<4503599627370496 by decide);refine⟨_,_,rfl,by omega,by omega,?_⟩;rw[Uj C];congr 2;omega
theorem Jz{x:Nat}(h:rung x=9218868437227405312):double.read x=.infinity (dP x):=by unfold rung at h;unfold Format.read dP;simp only[CO,Kv,EA,y9,h];rfl
theorem wH{x:Nat}(h:aF x=false):isFin x=true\/rung x=9218868437227405312:=by
 cases hf:isFin x
 .right
  have E:¬rung x<9218868437227405312:=λ F=>by have:isFin x=true:=Nat.ble_eq_true_of_le F;rw[hf]at this;cases this
  unfold rung at E ⊢;unfold aF Format.read at h;simp only[CO,Kv,EA,y9]at h;rw[fP (by omega),fP E]at h;by_cases C:x % 9223372036854775808=9218868437227405312
  .exact C
  .rw[fP C]at h;simp[Datum.isNaN]at h
 .exact wV rfl
theorem dX{x:Nat}(h:isFin x=true):aF x=false:=by obtain⟨m,i,hr,_⟩:=j5 h;unfold aF;rw[hr];rfl
theorem wo{a b c d:Int}(C:a<b↔c<d)(h:a=b↔c=d):compare a b=compare c d:=by show compareOfLessAndEq a b=compareOfLessAndEq c d;unfold compareOfLessAndEq;simp only[C,h]
theorem ah5{x y:Nat}(J:isFin x=true)(I:isFin y=true):double.order x y=some (compare (val x) (val y)):=by
 obtain⟨m,i,F,M,_,C⟩:=j5 J;obtain⟨n,j,E,K,_,h⟩:=j5 I;unfold Format.order;rw[F,E];simp only[Datum.order,gU]
 have e1:val x=signed (dP x) m (i - min i j).toNat*2 ^ (min i j+1074).toNat:=by rw[<-AX,show(i - min i j).toNat+(min i j+1074).toNat=(i+1074).toNat by omega,xG,<-C];rfl
 have e2:val y=signed (dP y) n (j - min i j).toNat*2 ^ (min i j+1074).toNat:=by rw[<-AX,show(j - min i j).toNat+(min i j+1074).toNat=(j+1074).toNat by omega,xG,<-h];rfl
 have hp:(0:Int)<2 ^ (min i j+1074).toNat:=aOr (by decide);rw[e1,e2];generalize(2:Int) ^ (min i j+1074).toNat=c at hp;refine wo ?_ ?_
 .exact(Int.mul_lt_mul_right hp).symm
 .exact(Int.mul_eq_mul_right_iff (by omega)).symm
theorem Nl{x y:Nat}:val x<val y↔key x<key y:=by unfold val key;have a1:=ER 52 (rung x) (rung y);have E:=ER 52 (rung y) (rung x);have C:=ER 52 0 (rung x);have h:=ER 52 0 (rung y);rw[EH]at C h;cases dP x<;>cases dP y<;>simp only[aY,eU]<;>omega
theorem jZ{x y:Nat}:val x<=val y↔key x<=key y:=by have:=Nl (x:=y) (y:=x);omega
theorem Ak{x y:Nat}(I:aF x=false)(F:aF y=false):double.order x y=some (compare (key x) (key y)):=by
 rcases wH I with E |ix
 .rcases wH F with C |h
  .rw[ah5 E C];have:=Nl (x:=x) (y:=y);have:=Nl (x:=y) (y:=x);exact congrArg some (wo (by omega) (by omega))
  .obtain⟨m,i,hr,_⟩:=j5 E;have J:=wX E;unfold Format.order;rw[hr,Jz h];simp only[Datum.order,gU];unfold key;rw[h];cases dP y
   .exact(show compare _ _=compare (0:Int) 1 from wo (by cases dP x<;>simp only[aY,eU]<;>omega) (by cases dP x<;>simp only[aY,eU]<;>omega)).symm
   .exact(show compare _ _=compare (1:Int) 0 from wo (by cases dP x<;>simp only[aY,eU]<;>omega) (by cases dP x<;>simp only[aY,eU]<;>omega)).symm
 .rcases wH F with C |h
  .obtain⟨m,i,hr,_⟩:=j5 C;have J:=wX C;unfold Format.order;rw[hr,Jz ix];simp only[Datum.order,gU];unfold key;rw[ix];cases dP x
   .exact(show compare _ _=compare (1:Int) 0 from wo (by cases dP y<;>simp only[aY,eU]<;>omega) (by cases dP y<;>simp only[aY,eU]<;>omega)).symm
   .exact(show compare _ _=compare (0:Int) 1 from wo (by cases dP y<;>simp only[aY,eU]<;>omega) (by cases dP y<;>simp only[aY,eU]<;>omega)).symm
  .unfold Format.order key;rw[Jz ix,Jz h,ix,h];cases dP x<;>cases dP y<;>decide
theorem SI(a b:Int):(compare a b==Ordering.lt)=decide (a<b):=by
 show(compareOfLessAndEq a b==Ordering.lt)=_;unfold compareOfLessAndEq;by_cases h:a<b
 .simp[h]
 .by_cases C:a=b
  .simp[C]
  .simp[h,C]
theorem cmp_eq(a b:Int):(compare a b==Ordering.eq)=decide (a=b):=by
 show(compareOfLessAndEq a b==Ordering.eq)=_;unfold compareOfLessAndEq;by_cases h:a<b
 .have:a≠b:=by omega
  simp[h,this]
 .by_cases C:a=b
  .simp[C]
  .simp[h,C]
theorem am7(a b:Int):(compare a b==Ordering.gt)=decide (b<a):=by
 show(compareOfLessAndEq a b==Ordering.gt)=_;unfold compareOfLessAndEq;by_cases h:a<b
 .have:¬b<a:=by omega
  simp[h,this]
 .by_cases C:a=b
  .simp[C]
  .have:b<a:=by omega
   simp[h,C,this]
theorem xL(a b:Ordering):(some a==some b)=(a==b):=rfl
theorem bS{x y:Nat}(C:aF x=false)(h:aF y=false):dN x y=decide (key x<key y):=by unfold dN;rw[Ak C h,xL,SI]
theorem cZ{x y:Nat}(C:aF x=false)(h:aF y=false):bW x y=decide (key y<key x):=by unfold bW;rw[Ak C h,xL,am7]
theorem dU{x y:Nat}(C:aF x=false)(h:aF y=false):dR x y=decide (key x=key y):=by unfold dR;rw[Ak C h,xL,cmp_eq]
theorem iX{x y:Nat}(C:aF x=false)(h:aF y=false):iB x y=decide (key x<=key y):=by unfold iB;rw[Ak C h,xL,xL,SI,cmp_eq,aJP];simp;omega
theorem qm{x y:Nat}(C:aF x=false)(h:aF y=false):iL x y=decide (key y<=key x):=by unfold iL;rw[Ak C h,xL,xL,am7,cmp_eq,aJP];simp;omega
theorem GY{x y:Nat}{o:Ordering}(h:double.order x y=some o):aF x=false/\aF y=false:=by
 constructor
 .cases E:aF x
  .rfl
  .have:double.order x y=none:=jh E;rw[this]at h;cases h
 .cases C:aF y
  .rfl
  .have:double.order x y=none:=jQ C;rw[this]at h;cases h
theorem ai6{x y:Nat}(h:iB x y=true):aF x=false/\aF y=false/\key x<=key y:=by
 have E:=h;unfold iB at h;cases C:double.order x y with
 |none=>rw[C]at h;cases h
 |some o =>
  obtain⟨a,b⟩:=GY C;rw[iX a b]at E;exact⟨a,b,Qx E⟩
theorem ai5{x y:Nat}(h:iL x y=true):aF x=false/\aF y=false/\key y<=key x:=by
 have E:=h;unfold iL at h;cases C:double.order x y with
 |none=>rw[C]at h;cases h
 |some o =>
  obtain⟨a,b⟩:=GY C;rw[qm a b]at E;exact⟨a,b,Qx E⟩
theorem Iy{x y:Nat}(h:dN x y=true):aF x=false/\aF y=false/\key x<key y:=by
 have E:=h;unfold dN at h;cases C:double.order x y with
 |none=>rw[C]at h;cases h
 |some o =>
  obtain⟨a,b⟩:=GY C;rw[bS a b]at E;exact⟨a,b,Qx E⟩
def KR(v:Int)(g:Nat):Int:=cond (decide (v<0)) (-((min (rq 52 v.natAbs g) 9218868437227405312:Nat):Int)) ((min (rq 52 v.natAbs g) 9218868437227405312:Nat):Int)
theorem nQ{v w:Int}(g:Nat)(h:v<=w):KR v g<=KR w g:=by
 unfold KR;by_cases E:v<0
 .rw[gG E,aY];by_cases C:w<0
  .rw[gG C,aY];have:=Dc 52 (g:=g) (show w.natAbs<=v.natAbs by omega);omega
  .rw[iH C,eU];omega
 .rw[iH E,iH (show ¬w<0 by omega),eU,eU];have:=Dc 52 (g:=g) (show v.natAbs<=w.natAbs by omega);omega
theorem Oy(s:Bool){r:Nat}(h:r<=9218868437227405312):key (double.word s r)=cond s (-(r:Int)) r:=by
 unfold key rung dP Format.word;rw[CO];cases s
 .have E:r / 9223372036854775808=0:=aHw (by omega);have C:r % 9223372036854775808=r:=aG8 (by omega);simp[E,C]
 .have E:(9223372036854775808+r) / 9223372036854775808=1:=by omega
  have C:(9223372036854775808+r) % 9223372036854775808=r:=by omega
  simp[E,C]
theorem yM{s:Bool}{m u w:Nat}{p:Int}{v:Int}{g:Nat}(hg:0<g)(hp:p+1074=u - w)(ha:rq 52 (m*2 ^ u) (2 ^ w)=rq 52 v.natAbs g)(hs:v≠0->s=decide (v<0)):key (double.nearest s m p)=KR v g:=by
 rw[wW s m u w p hp,ha,Kv,Oy _ (aI8 _ _)];unfold KR;by_cases h:v=0
 .subst h;rw[Int.natAbs_zero,Jm 52 hg];cases s<;>decide
 .rw[hs h]
theorem TQ{x:Nat}(h:isFin x=true):KR (val x) 1=key x:=by
 have F:=wX h;have E:(val x).natAbs=rv 52 (rung x):=by unfold val;cases dP x<;>simp only[aY,eU]<;>omega
 unfold KR;rw[E,akd];unfold val key
 have C:rung x=0\/0<rv 52 (rung x):=by
  rcases Nat.eq_zero_or_pos (rung x)with e |e
  .exact wV e
  .right;have:=Ox 52 e;rw[EH]at this;exact this
 rw[aJH (by omega)];cases dP x
 .rw[eU,eU,iH (by omega),eU]
 .rw[aY,aY];rcases C with e |e
  .rw[e,EH];decide
  .rw[gG (by omega),aY]
theorem BI{x m:Nat}{i h:Int}(hv:rv 52 (rung x)=m*2 ^ (i+1074).toNat)(E:h<=i)(C:-1074<=h):val x=signed (dP x) m (i - h).toNat*2 ^ (h+1074).toNat:=by rw[<-AX,show(i - h).toNat+(h+1074).toNat=(i+1074).toNat by omega,xG,<-hv];rfl
theorem afH{x:Nat}{s t:Bool}{m n:Nat}{i j:Int}{r:Bool}{a b:Int}(hi:-1074<=i)(M:-1074<=j)
  (K:a=signed s m (i - min i j).toNat*2 ^ (min i j+1074).toNat) (J:b=signed t n (j - min i j).toNat*2 ^ (min i j+1074).toNat)
  (hr:x=double.write (.number r (signed s m (i - min i j).toNat+signed t n (j - min i j).toNat).natAbs (min i j)))
  (hs:signed s m (i - min i j).toNat+signed t n (j - min i j).toNat≠0->r=decide (signed s m (i - min i j).toNat+signed t n (j - min i j).toNat<0)):key x=KR (a+b) 1:=by
 generalize signed s m (i - min i j).toNat=A at *;generalize signed t n (j - min i j).toNat=B at *;have e:a+b=(A+B)*2 ^ (min i j+1074).toNat:=by rw[K,J,Int.add_mul]
 have F:(0:Int)<2 ^ (min i j+1074).toNat:=aOr (by decide);rw[hr,e];refine yM (u:=(min i j+1074).toNat) (w:=0) (by decide) (by omega) ?_ ?_
 .rw[aHq,Int.natAbs_pow];rfl
 .intro I;have C:A+B≠0:=λ h=>I (by rw[h,aHU]);rw[hs C];refine decide_eq_decide.2 ?_;constructor
  .intro h;exact aLa h F
  .intro h;rcases Int.lt_trichotomy (A+B) 0 with E |E |E
   .exact E
   .exact absurd E C
   .have:=aOs E F;omega
theorem Eh{x y:Nat}(K:isFin x=true)(J:isFin y=true):key (aM x y)=KR (val x+val y) 1/\aF (aM x y)=false:=by
 obtain⟨m,i,E,N,_,I⟩:=j5 K;obtain⟨n,j,C,M,_,F⟩:=j5 J;constructor
 .unfold aM Format.add;rw[E,C];simp only[Datum.sum,aaF,apP];refine afH N M (BI I (by omega) (by omega)) (BI F (by omega) (by omega)) rfl ?_;intro h;rw[fP h]
 .have:∃r,double.add x y=some r:=by unfold Format.add;rw[E,C];exact⟨_,rfl⟩
  obtain⟨r,hr⟩:=this;unfold aM;rw[hr];exact RL hr
theorem H8{x y:Nat}(K:isFin x=true)(J:isFin y=true):key (aU x y)=KR (val x - val y) 1/\aF (aU x y)=false:=by
 obtain⟨m,i,E,N,_,I⟩:=j5 K;obtain⟨n,j,C,M,_,F⟩:=j5 J;constructor
 .unfold aU Format.sub;rw[E,C];simp only[Datum.opposite,Datum.sum,aaF,apP];have e:val x - val y=val x+-(val y):=Int.sub_eq_add_neg;rw[e];refine afH N M (BI I (by omega) (by omega)) ?_ rfl ?_
  .rw[acG,Int.neg_mul,<-BI F (by omega) (by omega)]
  .intro h;rw[fP h]
 .have:∃r,double.sub x y=some r:=by unfold Format.sub;rw[E,C];exact⟨_,rfl⟩
  obtain⟨r,hr⟩:=this;unfold aU;rw[hr];exact RN hr
theorem qw(x:Nat):(val x).natAbs=rv 52 (rung x):=by unfold val;cases dP x<;>simp only[aY,eU]<;>omega
theorem val_neg{x:Nat}(h:val x≠0):dP x=decide (val x<0):=by
 unfold val at h ⊢;cases hs:dP x
 .rw[eU,iH (by omega)]
 .rw[hs,aY]at h;rw[aY,gG (by omega)]
theorem Py{a b:Int}(h:a*b≠0):(decide (a<0) ^^ decide (b<0))=decide (a*b<0):=by
 have I:a≠0:=λ e=>h (by rw[e,aHU]);have F:b≠0:=λ e=>h (by rw[e,aLb]);rcases aMQ I with E |E<;>rcases aMQ F with C |C
 .have:=Int.mul_pos_of_neg_of_neg E C;rw[gG E,gG C,iH (by omega)];rfl
 .have:=aLa E C;rw[gG E,iH (by omega),gG this];rfl
 .have:=Int.mul_neg_of_pos_of_neg E C;rw[iH (by omega),gG C,gG this];rfl
 .have:=aOs E C;rw[iH (by omega),iH (by omega),iH (by omega)];rfl
theorem yD{x y c:Nat}(S:c=1074)(K:isFin x=true)(J:isFin y=true):key (aX x y)=KR (val x*val y) (2 ^ c)/\aF (aX x y)=false:=by
 obtain⟨m,i,E,Q,_,I⟩:=j5 K;obtain⟨n,j,C,O,_,F⟩:=j5 J;constructor
 .unfold aX Format.mul;rw[E,C];simp only[Datum.product,aaF,apP,Format.write];refine yM (u:=(i+1074).toNat+(j+1074).toNat) (w:=c) (aaZ _) (by omega) ?_ ?_
  .rw[aHq,qw,qw,I,F,ahO];congr 1;rw[arA,arA,aIi n]
  .intro h;have N:val x≠0:=λ e=>h (by rw[e,aHU]);have M:val y≠0:=λ e=>h (by rw[e,aLb]);rw[val_neg N,val_neg M,Py h]
 .have:∃r,double.mul x y=some r:=by unfold Format.mul;rw[E,C];exact⟨_,rfl⟩
  obtain⟨r,hr⟩:=this;unfold aX;rw[hr];exact RO hr
def CV(v:Int):Int:=cond (decide (v<0)) (-1) 1
theorem Ei{x y c:Nat}(hc:c=1074)(U:isFin x=true)(S:isFin y=true)(Q:val y≠0):key (fdiv x y)=KR (val x*CV (val y)*((2 ^ c:Nat):Int)) (val y).natAbs/\aF (fdiv x y)=false:=by
 obtain⟨m,i,M,hi,W,I⟩:=j5 U;obtain⟨n,j,K,hj,hn,C⟩:=j5 S
 have N:n≠0:=λ e=>Q (by
  have:(val y).natAbs=0:=by rw[qw,C,e,aH1]
  omega)
 have hr:double.div x y=some (double.write (.number (dP x ^^ dP y) (2*(m <<< (54+n.log2 - m.log2) / n)+(m <<< (54+n.log2 - m.log2) % n !=0).toNat) (i - j - (54+n.log2 - m.log2:Nat) - 1))):=by unfold Format.div;rw[M,K];simp only[Datum.quotient];rw[fP N];rfl
 refine⟨?_,by unfold fdiv;rw[hr];exact RP hr⟩;unfold fdiv;rw[hr,apP];have J:(CV (val y)).natAbs=1:=by unfold CV;cases decide (val y<0)<;>rfl
 have Z:0<(2 ^ c:Nat):=aaZ _;refine yM (u:=(i+1074).toNat+c) (w:=(j+1074).toNat+(54+n.log2 - m.log2)+1) (by omega) (by omega) ?_ ?_
 .rw[aHq,aHq,J,aHo,Int.natAbs_natCast,qw,qw,I,C];by_cases E:m=0
  .rw[E,Nat.zero_shiftLeft,aK9,Nat.zero_mod,aH1,aH1];show rq 52 (0*_) _=_;rw[aH1,Jm 52 (aaZ _),Jm 52 (aLG (by omega) (aaZ _))]
  .have hl:=ahN W
   have hq:2 ^ (52+1)<=m <<< (54+n.log2 - m.log2) / n:=by
    rw[axF (by omega)]
    have F:2 ^ (54+n.log2)<=m <<< (54+n.log2 - m.log2):=by rw[aG6];have:=ahL (2 ^ (54+n.log2 - m.log2)) (aHK E);rw[<-ahO,show m.log2+(54+n.log2 - m.log2)=54+n.log2 by omega]at this;exact this
    refine aa2 ?_ F;rw[show 54+n.log2=(52+1)+(n.log2+1) by omega,ahO 2 (52+1)];exact apL _ (Nat.le_of_lt aId)
   rw[ahx 52 _ n _ _ (by omega) hq,aG6];generalize 54+n.log2 - m.log2=k;have:=OT 52 (m*2 ^ (i+1074).toNat*2 ^ c) (n*2 ^ (j+1074).toNat) (aaZ (k+1));rw[<-this];congr 1
   .rw[ahO,aBg];generalize 2 ^ (i+1074).toNat=a;generalize 2 ^ c=b;generalize 2 ^ k=d;simp only[arA,aEw,aIi]
   .rw[arA,<-ahO,Nat.add_assoc]
 .intro h;have O:(0:Int)<((2 ^ c:Nat):Int):=Int.ofNat_lt.2 Z;generalize((2 ^ c:Nat):Int)=P at h O;have F:val x*CV (val y)≠0:=λ e=>h (by rw[e,aHU]);have Y:val x≠0:=λ e=>F (by rw[e,aHU]);have h2:=Py h;rw[<-h2,iH (show ¬P<0 by omega),Bool.xor_false,<-Py F,val_neg Y,val_neg Q];congr 1;unfold CV;cases decide (val y<0)<;>decide
theorem Rb{a b o:Nat}(ha:isFin a=true)(E:isFin b=true)(C:isFin o=true)(h:key a<=key b):key (aU a o)<=key (aU b o):=by rw[(H8 ha C).1,(H8 E C).1];have:=jZ.2 h;exact nQ 1 (by omega)
theorem Rf{a b o:Nat}(ha:isFin a=true)(E:isFin b=true)(C:isFin o=true)(h:key a<=key b):key (aM a o)<=key (aM b o):=by rw[(Eh ha C).1,(Eh E C).1];have:=jZ.2 h;exact nQ 1 (by omega)
theorem aef{x:Nat}:0<val x↔0<key x:=by
 have h:=Nl (x:=0) (y:=x);have E:val 0=0:=by decide +kernel
 have C:key 0=0:=by decide +kernel
 rw[E,C]at h;exact h
theorem H9{x:Nat}:val x<0↔key x<0:=by
 have h:=Nl (x:=x) (y:=0);have E:val 0=0:=by decide +kernel
 have C:key 0=0:=by decide +kernel
 rw[E,C]at h;exact h
theorem J9{a b d:Nat}(ha:isFin a=true)(I:isFin b=true)(E:isFin d=true)(J:0<key d)(h:key a<=key b):key (fdiv a d)<=key (fdiv b d):=by
 have hv:=aef.2 J;obtain⟨c,F⟩:∃c,c=1074:=⟨_,rfl⟩;rw[(Ei F ha E (by omega)).1,(Ei F I E (by omega)).1];have C:CV (val d)=1:=by unfold CV;rw[iH (by omega)];rfl
 rw[C,aJ2,aJ2];exact nQ _ (aI0 (jZ.2 h) (avq _))
theorem Rh{a b d:Nat}(ha:isFin a=true)(I:isFin b=true)(E:isFin d=true)(J:key d<0)(h:key a<=key b):key (fdiv b d)<=key (fdiv a d):=by
 have hv:=H9.2 J;obtain⟨c,F⟩:∃c,c=1074:=⟨_,rfl⟩;rw[(Ei F ha E (by omega)).1,(Ei F I E (by omega)).1];have C:CV (val d)=-1:=by unfold CV;rw[gG hv];rfl
 rw[C];have:=jZ.2 h;exact nQ _ (aI0 (by omega) (avq _))
theorem Lh{x lo hi:Nat}(C:aF x=false)(J:key lo<=key x)(I:key x<=key hi)(E:-9218868437227405312<key lo)(F:key hi<9218868437227405312):isFin x=true:=by
 rcases wH C with h |h
 .exact h
 .exfalso
  have e:key x=9218868437227405312\/key x=-9218868437227405312:=by
   unfold key;rw[h];cases dP x
   .exact wV rfl
   .exact Gc rfl
  omega
theorem Xb{x:Nat}(F:iL x 13920209183539462144=true)(E:iB x 4696837146684686336=true):isFin x=true/\-4696837146684686336<=key x/\key x<=4696837146684686336:=by
 obtain⟨a,_,C⟩:=ai5 F;obtain⟨_,_,h⟩:=ai6 E;have e1:key 13920209183539462144=-4696837146684686336:=by decide +kernel
 have e2:key 4696837146684686336=4696837146684686336:=by decide +kernel
 refine⟨Lh a C h (by rw[e1];decide) (by rw[e2];decide),by omega,by omega⟩
theorem Ia{x y:Nat}(C:isFin x=true)(h:isFin y=true)(M:-4696837146684686336<=key x)(K:key x<=4696837146684686336)(J:-4696837146684686336<=key y)(I:key y<=4696837146684686336):isFin (aU x y)=true:=by
 have e1:key 13920209183539462144=-4696837146684686336:=by decide +kernel
 have e2:key 4696837146684686336=4696837146684686336:=by decide +kernel
 have a1:=jZ.2 (show key 13920209183539462144<=key x by omega);have U:=jZ.2 (show key x<=key 4696837146684686336 by omega);have S:=jZ.2 (show key 13920209183539462144<=key y by omega);have Q:=jZ.2 (show key y<=key 4696837146684686336 by omega);have O:val 4696837146684686336 - val 13920209183539462144=val 4701340746312056832:=by decide +kernel
 have N:val 13920209183539462144 - val 4696837146684686336=val 13924712783166832640:=by decide +kernel
 have F:isFin 4701340746312056832=true:=by decide +kernel
 have E:isFin 13924712783166832640=true:=by decide +kernel
 obtain⟨k,n⟩:=H8 C h;refine Lh (lo:=13924712783166832640) (hi:=4701340746312056832) n ?_ ?_ (by decide +kernel) (by decide +kernel)
 .rw[k,<-TQ E];exact nQ 1 (by omega)
 .rw[k,<-TQ F];exact nQ 1 (by omega)
end Go.Ev
namespace Go.Proofs.YtdlhemnconimnaaGreat.Hs
open Go.Gv
open Go.Ev (cn aM aU aX fdiv bD dG dR dN iB bW iL fabs aF yu u7 tC vg)
section
end
section
variable(k:Int)(a:Nat->Nat)(sk:Int)(r:Nat->Nat)(p q u:Nat)
end
theorem ZV{a:Nat->Nat}{sk m:Int}{b:Nat->Nat}(h:NR a sk m b=0):Kk a=false/\m=0/\lG b=0:=by
 unfold NR at h;cases I:jN sk
 .rw[I]at h;cases F:Kk a
  .rw[F]at h;cases C:(m==0)
   .rw[C]at h;have h:m=0:=h;rw[h]at C;cases C
   .rw[C]at h;cases E:(lG b==0)
    .rw[E]at h;cases h
    .exact⟨rfl,Aw C,Aw E⟩
  .rw[F]at h;cases h
 .rw[I]at h;cases h
theorem arH{a:Nat->Nat}(h:Kk a=false):fE (a 0) (a 1) (a 2)=true/\fE (a 3) (a 4) (a 5)=true/\fE (a 6) (a 7) (a 8)=true:=by unfold Kk at h;revert h;cases fE (a 0) (a 1) (a 2)<;>cases fE (a 3) (a 4) (a 5)<;>cases fE (a 6) (a 7) (a 8)<;>cases iF (a 9)<;>cases iF (a 10)<;>intro h<;>first | (cases h;done) |exact⟨rfl,rfl,rfl⟩
theorem an1{n x:Nat}(h:aF n=false):aF (jA n x)=false:=by
 unfold jA;cases g:bW x n
 .exact h
 .exact(tC g).1
theorem an2{n x:Nat}(h:aF n=false):aF (jy n x)=false:=by
 unfold jy;cases g:dN x n
 .exact h
 .exact(vg g).1
theorem PU{lo hi o d n:Nat}(h:aF n=false):aF (vv lo hi o d n)=false:=by
 unfold vv;cases dR d 0
 .exact an1 h
 .exact h
theorem PV{lo hi o d n:Nat}(h:aF n=false):aF (wJ lo hi o d n)=false:=by
 unfold wJ;cases dR d 0
 .exact an2 h
 .exact h
theorem ZW{b r:Nat->Nat}(h:dw b r=true):aF (bP b r)=false/\aF (bX b r)=false:=by
 have C:Ij b r=false:=by
  unfold dw at h;cases C:Ij b r
  .rfl
  .rw[C]at h;cases h
 have E:=xA (acE (bad_false C).2).least;unfold bP bX;rw[h];exact⟨PU (PU (PU E)),PV (PV (PV (by decide +kernel)))⟩
section
variable(a:Nat->Nat)(sk:Int)(r:Nat->Nat)(p q u:Nat)
theorem an3{a:Nat->Nat}{sk:Int}(h:e5 a sk=0):Ef (a 3) (a 4) (a 5)=true:=by
 have:=(ZV h).2.1;unfold FC at this;cases C:Ef (a 3) (a 4) (a 5)
 .rw[C]at this;cases this
 .rfl
theorem aAc{a:Nat->Nat}{sk:Int}(h:e6 a sk=0):Ef (a 3) (a 4) (a 5)=true:=by
 have:=(ZV h).2.1;unfold FL at this;cases C:Ef (a 3) (a 4) (a 5)
 .rw[C]at this;cases this
 .rfl
end
def aty(k:Int)(a:Nat->Nat)(sk:Int)(r:Nat->Nat):Prop:=∃i o ok e,aj bO 159 [SH k a sk,RY r] (.bK [.f i,.f o,bA ok,iA e])/\aj bO 153 [SH k a sk,RY r] (.bK [.f i,.f o,bA ok,iA e])/\(ok=true->dN i o=true)
theorem aEM{m k:Bool}{i o n f:Nat}(h:paK m k i o n f=true):dN (paI m k i o n f) (paO m k i o n f)=true:=by unfold paI paO;rw[h];unfold paK at h;revert h;cases m<;>cases k<;>simp
theorem xR{k:Int}{a:Nat->Nat}{sk e:Int}(r:Nat->Nat)(h:KNb k a sk e)(g:QS k a sk e)(C:e≠0):aty k a sk r:=⟨0,0,false,e,OE (aCL r h C) C,aD3 g C,λ h=>by cases h⟩
theorem K6{k:Int}{a:Nat->Nat}{sk:Int}{T:Nat}(r:Nat->Nat)(h:KNg k a sk T)(g:QS k a sk 0)(C:ana k=true)
  (E:aj bO 185 [.jd T (SH k a sk),RY r] (.bK [.f 0,.f 0,bA false,iA 3])):aty k a sk r:=by
 by_cases hr:gP r=0
 .exact⟨0,0,false,3,YC (ax3 h hr) E,aD4 g hr C,λ h=>by cases h⟩
 .exact⟨0,0,false,gP r,OE (ax2 h hr) hr,auY g hr,λ h=>by cases h⟩
theorem K7{k:Int}{a:Nat->Nat}{sk:Int}{T:Nat}{b:Nat->Nat}(r:Nat->Nat)(h:KNg k a sk T)(g:QS k a sk 0)(K:ana k=false){i o:Nat}{ok:Bool}
  (O:aj bO 185 [.jd T (SH k a sk),RY r] (.bK [.f (paI (dw b (r0 r)) ok i o (bP b (r0 r)) (bX b (r0 r))),.f (paO (dw b (r0 r)) ok i o (bP b (r0 r)) (bX b (r0 r))),bA (paK (dw b (r0 r)) ok i o (bP b (r0 r)) (bX b (r0 r))),iA 0]))
  (M:aj bO 62 [SH k a sk] (BX b)) (N:∃I F C,(dw b (r0 r)=true->agk k a sk (r0 r) (bP b (r0 r)) (bX b (r0 r)) I F C/\C=ok/\(ok=true->I=i/\F=o))):aty k a sk r:=by
 by_cases hr:gP r=0
 .obtain⟨I,F,C,J⟩:=N;have s2:=aD5 (i:=I) (o:=F) (ok:=C) g hr K M λ E=>(J E).1;refine⟨_,_,_,0,YC (ax3 h hr) O,?_,aEM⟩;cases E:dw b (r0 r)
  .rw[E]at s2;exact s2
  .rw[E]at s2;obtain⟨_,rfl,e⟩:=J E;cases C with
   |false=>exact s2
   |true=>rw[(e rfl).1,(e rfl).2]at s2;exact s2
 .exact⟨0,0,false,gP r,OE (ax2 h hr) hr,auY g hr,λ h=>by cases h⟩
theorem aoh(k:Int)(a:Nat->Nat)(sk:Int)(r:Nat->Nat):aty k a sk r:=by
 by_cases K:k=1
 .subst K;have sm:=sm1 a sk;by_cases h:e1 a sk=0
  .rw[h]at sm;exact K7 r (IV a sk h) sm rfl (aGo a sk r) (ar1 a sk) ⟨_,_,_,λ _=>⟨io1 a sk (r0 r) _ _,rfl,λ _=>⟨rfl,rfl⟩⟩⟩
  .exact xR r (aeL a sk h) sm h
 by_cases J:k=2
 .subst J;have sm:=sm2 a sk;by_cases h:e2 a sk=0
  .rw[h]at sm;exact K7 r (IW a sk h) sm rfl (aGp a sk r) (ar2 a sk) ⟨_,_,_,λ _=>⟨io2 a sk (r0 r) _ _,rfl,λ _=>⟨rfl,rfl⟩⟩⟩
  .exact xR r (aeM a sk h) sm h
 by_cases I:k=3
 .subst I;have sm:=sm3 a sk;by_cases h:e3 a sk=0
  .rw[h]at sm;exact K6 r (IX a sk h) sm rfl (aGq a sk r)
  .exact xR r (MF a sk h) sm h
 by_cases F:k=4
 .subst F;have sm:=sm4 a sk;by_cases h:e4 a sk=0
  .rw[h]at sm;exact K6 r (IY a sk h) sm rfl (aGr a sk r)
  .exact xR r (aeN a sk h) sm h
 by_cases E:k=5
 .subst E;have sm:=sm5 a sk;by_cases h:e5 a sk=0
  .have M:=an3 h;rw[h]at sm;refine K7 r (IZ a sk h) sm rfl (aGs a sk r) (ar5 a sk M) ⟨_,_,_,λ N=>⟨io5 a sk (r0 r) _ _ M,avw a (r0 r) _ _ _ (ZW N).1 (ZW N).2,λ O=>?_⟩⟩;unfold tbN tbF rtI rtU;rw[O];exact⟨rfl,rfl⟩
  .exact xR r (aeO a sk h) sm h
 by_cases C:k=6
 .subst C;have sm:=sm6 a sk;by_cases h:e6 a sk=0
  .rw[h]at sm;exact K6 r (I4 a sk h) sm rfl (aGt a sk r)
  .exact xR r (aeP a sk h) sm h
 exact xR r (aeQ ⟨K,J,I,F,E,C⟩ a sk) (sm0 a sk ⟨K,J,I,F,E,C⟩) (auz a sk)
abbrev Cy(k:Int)(a:Nat->Nat)(sk:Int):List AV:=[iA k,.f (a 0),.f (a 1),.f (a 2),.f (a 3),.f (a 4),.f (a 5),.f (a 6),.f (a 7),.f (a 8),.f (a 9),.f (a 10),iA sk]
structure Cel where
 m:Int
 b:Nat->Nat
 e:Int
def Z8(c:List AV)(x:Cel):Prop:=aj bO 49 [.agg c] (iA x.m)/\aj bO 26 [.agg c] (iA x.m)/\aj bO 130 [.agg c] (.bK [BX x.b,iA x.e])/\(x.m=0->lG x.b=0)/\(x.m=0->aj bO 62 [.agg c] (BX x.b))/\x.e=x.m
theorem K8{a:Nat->Nat}{sk m:Int}{b:Nat->Nat}(h:NR a sk m b=0):lG b=0:=by
 unfold NR at h;cases I:jN sk<;>rw[I]at h<;>try (cases h;done)
 cases F:Kk a<;>rw[F]at h<;>try (cases h;done)
 cases C:(m==0)<;>rw[C]at h
 .have h:m=0:=h;rw[h]at C;cases C
 .cases E:(lG b==0)<;>rw[E]at h
  .cases h
  .exact Aw E
theorem BK{k:Int}{a:Nat->Nat}{sk e:Int}(h:KNb k a sk e)(g:QS k a sk e)(C:e≠0):∃x,Z8 (Cy k a sk) x :=⟨⟨e,FR,e⟩,aCK h,g,YD h C,λ E=>absurd E C,λ E=>absurd E C,rfl⟩
theorem Am{k:Int}{a:Nat->Nat}{sk:Int}{T:Nat}{b:Nat->Nat}(h:KNg k a sk T)(g:QS k a sk 0)(F:aj bO 130 [SH k a sk] (.bK [BX b,iA 0]))(E:aj bO 62 [SH k a sk] (BX b))(C:lG b=0):∃x,Z8 (Cy k a sk) x :=⟨⟨0,b,0⟩,auI h,g,F,λ _=>C,λ _=>E,rfl⟩
theorem af0(k:Int)(a:Nat->Nat)(sk:Int):∃x,Z8 (Cy k a sk) x:=by
 by_cases M:k=1
 .subst M;have sm:=sm1 a sk;by_cases h:e1 a sk=0
  .rw[h]at sm;exact Am (IV a sk h) sm (aEr a sk h) (ar1 a sk) (K8 h)
  .exact BK (aeL a sk h) sm h
 by_cases K:k=2
 .subst K;have sm:=sm2 a sk;by_cases h:e2 a sk=0
  .rw[h]at sm;exact Am (IW a sk h) sm (aEs a sk h) (ar2 a sk) (K8 h)
  .exact BK (aeM a sk h) sm h
 by_cases J:k=3
 .subst J;have sm:=sm3 a sk;by_cases h:e3 a sk=0
  .rw[h]at sm;exact Am (IX a sk h) sm (aEt a sk h) (ar3 a sk) (K8 h)
  .exact BK (MF a sk h) sm h
 by_cases I:k=4
 .subst I;have sm:=sm4 a sk;by_cases h:e4 a sk=0
  .rw[h]at sm;exact Am (IY a sk h) sm (aEu a sk h) (ar4 a sk) (K8 h)
  .exact BK (aeN a sk h) sm h
 by_cases F:k=5
 .subst F;have sm:=sm5 a sk;by_cases h:e5 a sk=0
  .have C:=an3 h;rw[h]at sm;exact Am (IZ a sk h) sm (aEv a sk h) (ar5 a sk C) (K8 h)
  .exact BK (aeO a sk h) sm h
 by_cases E:k=6
 .subst E;have sm:=sm6 a sk;by_cases h:e6 a sk=0
  .have C:=aAc h;rw[h]at sm;exact Am (I4 a sk h) sm (aDA a sk h) (ar6 a sk C) (K8 h)
  .exact BK (aeP a sk h) sm h
 exact BK (aeQ ⟨M,K,J,I,F,E⟩ a sk) (sm0 a sk ⟨M,K,J,I,F,E⟩) (auz a sk)
open Classical in
def aoi(c:List AV):Cel:=if h:∃x,Z8 c x then h.choose else⟨0,λ _=>0,0⟩
theorem EU(k:Int)(a:Nat->Nat)(sk:Int):Z8 (Cy k a sk) (aoi (Cy k a sk)):=by unfold aoi;rw[dif_pos (af0 k a sk)];exact(af0 k a sk).choose_spec
def CW(c:List AV):Int:=(aoi c).m
theorem Rj(k:Int)(a:Nat->Nat)(sk:Int):aj bO 49 [SH k a sk] (iA (CW (Cy k a sk)))/\aj bO 26 [SH k a sk] (iA (CW (Cy k a sk))) :=⟨(EU k a sk).1,(EU k a sk).2.1⟩
def Kt(c:List AV):(Nat->Nat) × Int:=((aoi c).b,(aoi c).e)
theorem Rs(k:Int)(a:Nat->Nat)(sk:Int):aj bO 130 [SH k a sk] (.bK [BX (Kt (Cy k a sk)).1,iA (Kt (Cy k a sk)).2])/\(CW (Cy k a sk)=0->lG (Kt (Cy k a sk)).1=0) :=⟨(EU k a sk).2.2.1,(EU k a sk).2.2.2.1⟩
structure Wit where
 i:Nat
 o:Nat
 ok:Bool
 e:Int
def Wit.v(w:Wit):AV:=.bK [.f w.i,.f w.o,bA w.ok,iA w.e]
open Classical in
def Kr(c:List AV)(r:Nat->Nat):Wit:=if h:∃w:Wit,aj bO 159 [.agg c,RY r] w.v/\aj bO 153 [.agg c,RY r] w.v/\(w.ok=true->dN w.i w.o=true)then h.choose else⟨0,0,false,0⟩
theorem Rp(k:Int)(a:Nat->Nat)(sk:Int)(r:Nat->Nat):aj bO 159 [SH k a sk,RY r] (Kr (Cy k a sk) r).v/\aj bO 153 [SH k a sk,RY r] (Kr (Cy k a sk) r).v/\((Kr (Cy k a sk) r).ok=true->dN (Kr (Cy k a sk) r).i (Kr (Cy k a sk) r).o=true):=by
 have h:∃w:Wit,aj bO 159 [.agg (Cy k a sk),RY r] w.v/\aj bO 153 [.agg (Cy k a sk),RY r] w.v/\(w.ok=true->dN w.i w.o=true):=by obtain⟨i,o,ok,e,F,E,C⟩:=aoh k a sk r;exact⟨⟨i,o,ok,e⟩,F,E,C⟩
 unfold Kr;rw[dif_pos h];exact h.choose_spec
end Go.Proofs.YtdlhemnconimnaaGreat.Hs
namespace Go.Proofs.YtdlhemnconimnaaGreat.Hs.So
open Go.Gv
open Go.Ev (cn aM aU aX fdiv bD dG dR dN iB bW iL fabs aF)
structure kC where
 op:Int
 l:Int
 r:Int
 k:Int
 a:Nat->Nat
 sk:Int
def kC.s(p:kC):List AV:=Cy p.k p.a p.sk
def kC.c(p:kC):List AV:=[iA p.op,iA p.l,iA p.r,iA p.k,.f (p.a 0),.f (p.a 1),.f (p.a 2),.f (p.a 3),.f (p.a 4),.f (p.a 5),.f (p.a 6),.f (p.a 7),.f (p.a 8),.f (p.a 9),.f (p.a 10),iA p.sk]
def pI(n:Nat)(P:Nat->kC):AV:=.sl 16 n λ i=>(P i).c
def FI(n:Nat)(P:Nat->kC)(sn:Int):List AV:=[pI n P,iA sn]
def eSc(g:List AV->AV):List AV->Option AV
 | [.agg [.x (.int .i64 k),.f a0,.f a1,.f a2,.f a3,.f a4,.f a5,.f a6,.f a7,.f a8,.f a9,.f ME,.x (.int .i64 sk)]]=>some (g [.x (.int .i64 k),.f a0,.f a1,.f a2,.f a3,.f a4,.f a5,.f a6,.f a7,.f a8,.f a9,.f ME,.x (.int .i64 sk)])
 |_=>none
theorem aa9{f:Nat}{g:List AV->AV}(h:∀k a sk,aj bO f [SH k a sk] (g (Cy k a sk))):jr bO ⟨f,eSc g⟩:=λ C r hr=>by
 simp only[eSc]at hr;split at hr
 .cases hr;exact wV (h _ (ls [_,_,_,_,_,_,_,_,_,_,_]) _)
 .cases hr
def kin(k:Int):Bool:=(k==1)||((k==2)||(k==5))
def ktT{α:Type}(k:Int)(z t:α):α:=cond (k==1) (cond (k==1) z t) (cond (k==2) (cond (k==2) z t) (cond (k==5) z t))
theorem aAh{α:Type}(k:Int)(z t:α):ktT k z t=cond (kin k) z t:=by unfold ktT kin;cases k==1<;>cases k==2<;>cases k==5<;>rfl
section
variable(mf:List AV->Int)(k:Int)(a:Nat->Nat)(sk:Int)
def mlE(m k:Int):Int:=cond (!(m==0)) m (cond (kin k) 0 3)
theorem aEJ:ev bO [⟨49,eSc λ c=>iA (mf c)⟩] [] bC Tryz.f138 [SH k a sk] ret=cond (!(mf (Cy k a sk)==0)) (sH (mf (Cy k a sk))) (ktT k (sH 0) (sH 3)):=by kernel_rfl
end
theorem atx:jr bO ⟨49,eSc λ c=>iA (CW c)⟩:=aa9 λ k a sk=>(Rj k a sk).1
theorem sml(k:Int)(a:Nat->Nat)(sk:Int):aj bO 138 [SH k a sk] (iA (mlE (CW (Cy k a sk)) k)):=by refine sp (aL atx aB) Tryz.func138 ((aEJ CW k a sk).trans ?_);rw[aAh];unfold mlE sH;cases(CW (Cy k a sk)==0)<;>cases kin k<;>rfl
def aEK:List AV->Int
 |.x (.int .i64 k)::_=>k
 |_=>0
theorem aAi:jr bO ⟨138,eSc λ c=>iA (mlE (CW c) (aEK c))⟩:=aa9 λ k a sk=>sml k a sk
def nmB(l r i:Int):Bool:=cond (cond (cond (decide (l<0)) true (decide (l≥i))) true (decide (r<0))) true (decide (r≥i))
def opT{α:Type}(o:Int)(z t:α):α:=cond (o==1) (cond (o==1) z t) (cond (o==2) (cond (o==2) z t) (cond (o==3) z t))
def opB(o:Int):Bool:=(o==1)||((o==2)||(o==3))
theorem aAj{α:Type}(o:Int)(z t:α):opT o z t=cond (opB o) z t:=by unfold opT opB;cases o==1<;>cases o==2<;>cases o==3<;>rfl
def Hw(p:kC)(i:Int):Int:=cond (p.op==0) (mlE (CW p.s) p.k) (cond (opB p.op) (cond (nmB p.l p.r i) 9 0) 11)
theorem aEL(g:List AV->Int)(p:kC)(i:Int):ev bO [⟨138,eSc λ c=>iA (g c)⟩] [] bC Tryz.f98 [.agg p.c,iA i] ret=cond (p.op==0) (sH (g p.s)) (opT p.op (cond (nmB p.l p.r i) (sH 9) (sH 0)) (sH 11)):=by kernel_rfl
theorem smp(p:kC)(i:Int):aj bO 98 [.agg p.c,iA i] (iA (Hw p i)):=by refine sp (aL aAi aB) Tryz.func98 ((aEL (λ c=>mlE (CW c) (aEK c)) p i).trans ?_);rw[aAj];unfold Hw sH;show cond (p.op==0) (some (Out.of (iA (mlE (CW p.s) p.k)))) _=_;cases p.op==0<;>cases opB p.op<;>cases nmB p.l p.r i<;>rfl
def JL(h:Nat->Int):Nat->Int
 | 0=>0
 |i+1=>cond (JL h i==0) (h i) (JL h i)
theorem MZ{C:Nat->Int}:∀n,(∀i,i<n->C i=0)->JL C n=0
 | 0,_=>rfl
 |n+1,h=>by show cond (JL C n==0) (C n) (JL C n)=0;rw[MZ n λ i hi=>h i (by omega),h n (by omega)];rfl
theorem Td{C:Nat->Int}{K:Nat}(E:C K≠0)(h:∀i,i<K->C i=0):∀n,K<n->JL C n=C K
 | 0,hn=>absurd hn (avm _)
 |n+1,hn=>by
  show cond (JL C n==0) (C n) (JL C n)=_;by_cases e:K=n
  .subst e;rw[MZ K h];rfl
  .rw[Td E h n (by omega),mI E];rfl
theorem Y8{C:Nat->Int}:∀n,JL C n=0->∀i,i<n->C i=0
 | 0,_,i,hi=>absurd hi (avm i)
 |n+1,h,i,hi=>by
  have h:cond (JL C n==0) (C n) (JL C n)=0:=h;by_cases E:JL C n=0
  .rw[E]at h;have h:C n=0:=h;by_cases e:i=n
   .subst e;exact h
   .exact Y8 n E i (by omega)
  .rw[mI E]at h;exact absurd h E
def paE(P:Nat->kC)(i:Nat):Int:=Hw (P i) (i:Nat)
def soX(n:Nat)(sn:Int)(R:Option Out):Option Out:=cond (cond (decide ((n:Int)<1)) true (decide ((n:Int)>16))) (sH 5) (cond (jN sn) (sH 4) R)
def GU(n:Nat)(P:Nat->kC)(sn:Int):Int:=cond (cond (decide ((n:Int)<1)) true (decide ((n:Int)>16))) 5 (cond (jN sn) 4 (JL (paE P) n))
theorem adI{n:Nat}{P:Nat->kC}{sn:Int}{R:Option Out}(h:1<=n->n<=16->R=sH (JL (paE P) n)):soX n sn R=some (Out.of (iA (GU n P sn))):=by
 unfold soX GU;by_cases E:n<1
 .rw[gG (show(n:Int)<1 by omega)];rfl
 .by_cases C:16<n
  .rw[iH (show ¬(n:Int)<1 by omega),gG (show(n:Int)>16 by omega)];rfl
  .rw[iH (show ¬(n:Int)<1 by omega),iH (show ¬(n:Int)>16 by omega),h (by omega) (by omega)];unfold sH;cases jN sn<;>rfl
def nu(n:Nat)(P:Nat->kC)(i:Int):St:=mkS 39 [(25,pI n P),(26,iA n),(27,iA i)] []
def aAk(e:Int):St:=mkS 39 [(2,iA e)] []
def eMp(g:List AV->Int->Int):List AV->Option AV
 | [.agg [.x (.int .i64 o),.x (.int .i64 l),.x (.int .i64 r),.x (.int .i64 k),.f a0,.f a1,.f a2,.f a3,.f a4,.f a5,.f a6,.f a7,.f a8,.f a9,.f ME,.x (.int .i64 sk)],.x (.int .i64 i)]=>some (iA (g [.x (.int .i64 o),.x (.int .i64 l),.x (.int .i64 r),.x (.int .i64 k),.f a0,.f a1,.f a2,.f a3,.f a4,.f a5,.f a6,.f a7,.f a8,.f a9,.f ME,.x (.int .i64 sk)] i))
 |_=>none
def decP:List AV->kC
 | [.x (.int .i64 o),.x (.int .i64 l),.x (.int .i64 r),.x (.int .i64 k),.f a0,.f a1,.f a2,.f a3,.f a4,.f a5,.f a6,.f a7,.f a8,.f a9,.f ME,.x (.int .i64 sk)]=>⟨o,l,r,k,ls [a0,a1,a2,a3,a4,a5,a6,a7,a8,a9,ME],sk⟩
 |_=>⟨0,0,0,0,λ _=>0,0⟩
def mpG(c:List AV)(i:Int):Int:=Hw (decP c) i
theorem aog(p:kC)(i:Int):mpG p.c i=Hw p i:=rfl
theorem aAl:jr bO ⟨98,eMp mpG⟩:=λ h r hr=>by
 simp only[eMp]at hr;split at hr
 .cases hr;exact wV (smp ⟨_,_,_,_,ls [_,_,_,_,_,_,_,_,_,_,_],_⟩ _)
 .cases hr
section
variable(g:List AV->Int->Int)(n:Nat)(P:Nat->kC)(i:Int)(sn:Int)
def smC(o C h:Option Out):Option Out:=cond (decide (i<n)) (cond (iP i n||false) (cond (!(g (P i.toNat).c i==0)) C o) none) h
theorem adJ:jR bO [⟨98,eMp g⟩] [] bC (av aJz 0) (nu n P i) (gu [25,26,27] [])=smC g n P i (some ⟨.normal,nu n P (aH (i+1)),.any⟩) none none:=by kernel_rfl
theorem aAm:jR bO [⟨98,eMp g⟩] [] bC (av aJz 0) (nu n P i) (aaw [2] [])=smC g n P i none (some ⟨.ret,aAk (g (P i.toNat).c i),.any⟩) none:=by kernel_rfl
theorem ais:jR bO [⟨98,eMp g⟩] [] bC (av aJz 0) (nu n P i) (iG [25,26,27] [])=smC g n P i none none (some ⟨.exit 0,nu n P i,.any⟩):=by kernel_rfl
theorem aAn(j:Int):ev bO [⟨98,eMp g⟩] [] (eZ 6 (fF [25,26,27] [] (nu n P 0) (.exit 0) (nu n P j))) aJz [.agg (FI n P sn)] ret=soX n sn (gate (Sub (nu n P 0) (nu n P 0)) (sH 0)):=by kernel_rfl
theorem aAo(e:Int):ev bO [⟨98,eMp g⟩] [] (eZ 6 (fF [25,26,27] [] (nu n P 0) .ret (aAk e))) aJz [.agg (FI n P sn)] ret=soX n sn (gate (Sub (nu n P 0) (nu n P 0)) (sH e)):=by kernel_rfl
theorem aAp:ev bO [⟨98,eMp g⟩] [] (eZ 6 λ _ _=>none) aJz [.agg (FI n P sn)] ret=soX n sn none:=by kernel_rfl
end
theorem Ai(n:Nat)(P:Nat->kC)(sn:Int):aj bO 51 [.agg (FI n P sn)] (iA (GU n P sn)):=by
 have E:=aL aAl aB;by_cases S:n<1\/16<n
 .exact aR E ay aMn (uj 6) ((aAp mpG n P sn).trans (adI λ W U=>absurd S (by omega)))
 .have O:∀k,k<n->paE P k=0->bH bO (av aJz 0) (nu n P (k:Nat)) .normal (nu n P ((k+1:Nat):Int)):=λ k C J=>by refine aK (bB _ _) E ay aC ((adJ mpG n P (k:Nat)).trans ?_);unfold smC;rw[bI C,bZ C,pF,aog,show Hw (P k) (k:Nat)=0 from J,aQ (by omega)];rfl
  rcases o9 (λ i=>paE P i==0) n with Q | ⟨K,N,hp,hq⟩
  .have I:∀i,i<n->paE P i=0:=λ i M=>by simpa using Q i M
   have h:bH bO (.loop (av aJz 0)) (nu n P 0) (.exit 0) (nu n P (n:Nat)):=by refine aP (λ k=>nu n P (k:Nat)) n (.exit 0) _ (by simp) (λ k C=>O k C (I k C)) ?_;refine aK (dB _ _) E ay aC ((ais mpG n P (n:Nat)).trans ?_);unfold smC;rw[bJ,eU]
   refine aR E ay aMn (gq (i:=6) 0 1 (aS (keep:=[25,26,27]) (τ:=[]) h)) ((aAn mpG n P sn (n:Nat)).trans (adI λ _ _=>?_));rw[ak (Sub.refl _),MZ n I]
  .have J:paE P K≠0:=by simpa using hp
   have F:∀i,i<K->paE P i=0:=λ i M=>by simpa using hq i M
   have h:bH bO (.loop (av aJz 0)) (nu n P 0) .ret (aAk (paE P K)):=by refine aP (λ k=>nu n P (k:Nat)) K .ret _ (by simp) (λ k C=>O k (by omega) (F k C)) ?_;refine aK (CG _ _) E ay aC ((aAm mpG n P (K:Nat)).trans ?_);unfold smC;rw[bI N,bZ N,pF,aog,mI (show Hw (P K) (K:Nat)≠0 from J)];rfl
   refine aR E ay aMn (gq (i:=6) 0 1 (aS (keep:=[25,26,27]) (τ:=[]) h)) ((aAo mpG n P sn (paE P K)).trans (adI λ _ _=>?_));rw[ak (Sub.refl _),Td J F n N]
section
variable(mf:List AV->Int)(n:Nat)(P:Nat->kC)(sn:Int)(i:Int)
end
def b6(b:Nat->Nat):List AV:=[.f (b 0),.f (b 1),.f (b 2),.f (b 3),.f (b 4),.f (b 5)]
def lb(b:Nat->Nat):Nat->Nat:=ls [b 0,b 1,b 2,b 3,b 4,b 5]
def boS(n:Nat)(P:Nat->kC)(i:Int)(el:Nat->List AV):St:=mkS 60 [(0,pI n P),(2,.own 0 0),(3,.bQ 1 6 0 n),(9,pI n P),(10,iA n),(11,iA i)] [.c (b6 λ _=>0),.a 119 6 n el]
def Uo:List Nat:=[0,2,3,9,10,11]
def boE(bb:List AV->Nat->Nat)(be:List AV->Int)(jn:(Nat->Nat)->(Nat->Nat)->Nat->Nat):List Entry:=[⟨130,eSc λ c=>.bK [BX (bb c),iA (be c)]⟩,⟨131,eBB λ a b=>BX (jn a b)⟩]
def aa7(n:Int):Bool:=decide (0<=n)&&(decide (n<=n)&&decide (((48:Nat):Int)*n<=281474976710656))
theorem aj1{n:Int}(h:0<=n)(C:n<=100000):aa7 n=true:=by unfold aa7;rw[gG h,gG (af2 n),gG (show((48:Nat):Int)*n<=281474976710656 by omega)];rfl
section
variable(bb:List AV->Nat->Nat)(be:List AV->Int)(jn:(Nat->Nat)->(Nat->Nat)->Nat->Nat)(n:Nat)(P:Nat->kC)(i:Int)(B:Nat->Nat->Nat)
def lN(i:Int)(n:Nat):Bool:=Tv (0+i.toNat) n||false
def ow'(i:Int)(n:Nat)(o:Option Out):Option Out:=cond (iP i n||false) (cond (lN i n) o none) none
def jnB(l r i:Int)(n:Nat):Bool:=(iP l n||false)&&((lN l n)&&((iP r n||false)&&((lN r n)&&((iP i n||false)&&((lN i n)&&true)))))
def boC(f:(Nat->Nat)->Option Out)(h:Option Out):Option Out:=cond (decide (i<n)) (cond (iP i n||false) (cond ((P i.toNat).op==0) (ow' i n (f (bb (P i.toNat).s))) (cond ((P i.toNat).op==2) (cond (jnB (P i.toNat).l (P i.toNat).r i n) (f (jn (lb (B (0+(P i.toNat).l.toNat))) (lb (B (0+(P i.toNat).r.toNat))))) none) (ow' (P i.toNat).l n (ow' i n (f (B (0+(P i.toNat).l.toNat))))))) none) h
theorem ap5:jR bO (boE bb be jn) [] bC (av aMF 0) (boS n P i λ q=>b6 (B q)) (gu Uo [some 0,some 1])=boC bb jn n P i B (λ x=>some ⟨.normal,boS n P (aH (i+1)) λ q=>bM (q==0+i.toNat) (b6 x) (b6 (B q)),.any⟩) none:=by kernel_rfl
theorem awC:jR bO (boE bb be jn) [] bC (av aMF 0) (boS n P i λ q=>b6 (B q)) (iG Uo [some 0,some 1])=boC bb jn n P i B (λ _=>none) (some ⟨.exit 0,boS n P i λ q=>b6 (B q),.any⟩):=by kernel_rfl
theorem aB5:ev bO (boE bb be jn) [] (eZ 3 (fF Uo [some 0,some 1] (boS n P 0 λ _=>b6 λ _=>0) (.exit 0) (boS n P (n:Nat) λ q=>b6 (B q)))) aMF [pI n P] ret=cond (aa7 (n:Int)||false) (gate (Sub (boS n P 0 λ _=>b6 λ _=>0) (boS n P 0 λ _=>b6 λ _=>0)) (ow' (aH ((n:Int) - 1)) n (some (Out.of (.agg (b6 (B (0+(aH ((n:Int) - 1)).toNat)))))))) none:=by kernel_rfl
end
def bxV(p:kC)(B:Nat->Nat->Nat):Nat->Nat:=cond (p.op==0) (Kt p.s).1 (cond (p.op==2) (ug (lb (B p.l.toNat)) (lb (B p.r.toNat))) (B p.l.toNat))
def iD(P:Nat->kC):Nat->Nat->Nat->Nat
 | 0=>λ _ _=>0
 |k+1=>λ q=>if q=k then bxV (P k) (iD P k)else iD P k q
def agP(p:kC)(k:Nat):Prop:=p.op=0\/(p.op≠0/\∃l r:Nat,p.l=(l:Nat)/\p.r=(r:Nat)/\l<k/\r<k)
theorem N8{p:kC}{k:Nat}(h:Hw p (k:Nat)=0):agP p k:=by
 by_cases E:p.op=0
 .exact wV E
 .refine Gc ⟨E,?_⟩;unfold Hw at h;rw[mI E,eU]at h;cases F:opB p.op
  .rw[F]at h;exact absurd (show(11:Int)=0 from h) (by decide)
  .rw[F,aY]at h;cases C:nmB p.l p.r (k:Nat)
   .unfold nmB at C;by_cases K:p.l<0
    .rw[gG K]at C;cases C
    .rw[iH K]at C;by_cases J:p.l≥(k:Nat)
     .rw[gG J]at C;cases C
     .rw[iH J]at C;by_cases I:p.r<0
      .rw[gG I]at C;cases C
      .rw[iH I]at C;by_cases M:p.r≥(k:Nat)
       .rw[gG M]at C;cases C
       .exact⟨p.l.toNat,p.r.toNat,by omega,by omega,by omega,by omega⟩
   .rw[C]at h;exact absurd (show(9:Int)=0 from h) (by decide)
theorem WT{i n:Nat}(h:i<n)(o:Option Out):ow' (i:Nat) n o=o:=by unfold ow' lN;rw[bZ h,pF,ZO,iU h];rfl
theorem aur{l r i n:Nat}(E:l<n)(C:r<n)(h:i<n):jnB (l:Nat) (r:Nat) (i:Nat) n=true:=by unfold jnB lN;rw[bZ E,bZ C,bZ h,pF,pF,pF,ZO,ZO,ZO,iU E,iU C,iU h];rfl
theorem aB6{n:Nat}{P:Nat->kC}{k:Nat}(C:k<n)(hp:agP (P k) k)(B:Nat->Nat->Nat)(f:(Nat->Nat)->Option Out)(E:Option Out):boC (λ c=>(Kt c).1) ug n P (k:Nat) B f E=f (bxV (P k) B):=by
 unfold boC;rw[bI C,bZ C,pF];rcases hp with h | ⟨h,l,r,e1,e2,I,F⟩
 .have e:((P k).op==0)=true:=by rw[h];rfl
  unfold bxV;rw[e];exact WT C _
 .unfold bxV;rw[mI h,e1,e2,pF,pF,ZO,ZO];cases(P k).op==2
  .show ow' (l:Nat) n (ow' (k:Nat) n _)=_;rw[WT (by omega),WT C];rfl
  .show cond (jnB (l:Nat) (r:Nat) (k:Nat) n) _ none=_;rw[aur (by omega) (by omega) C];rfl
theorem aa8:∀e,e∈boE (λ c=>(Kt c).1) (λ c=>(Kt c).2) ug->jr bO e:=aL (aa9 λ k a sk=>(Rs k a sk).1) <|aL (abb aj2) aB
theorem awD(b:Bool)(x y:Nat->Nat):bM b (b6 x) (b6 y)=b6 (cond b x y):=by cases b<;>rfl
theorem aj3{n:Nat}(E:n<=16){P:Nat->kC}(hp:∀k,k<n->agP (P k) k):bH bO (.loop (av aMF 0)) (boS n P 0 λ _=>b6 λ _=>0) (.exit 0) (boS n P (n:Nat) λ q=>b6 (iD P n q)):=by
 refine aP (λ k=>boS n P (k:Nat) λ q=>b6 (iD P k q)) n (.exit 0) _ (by simp) (λ k C=>?_) ?_
 .have h:=ap5 (λ c=>(Kt c).1) (λ c=>(Kt c).2) ug n P (k:Nat) (iD P k);rw[aB6 C (hp k C),aQ (by omega),pF]at h;refine(aK (bB _ _) aa8 ay aC h).sub (Sub.refl _) ?_;refine ig ⟨wV rfl,Gc ⟨119,6,n,_,_,rfl,rfl,λ q hq=>?_⟩,trivial⟩;rw[awD,ZO];show b6 (if q=k then bxV (P k) (iD P k)else iD P k q)=_
  by_cases e:q=k
  .subst e;rw[BEq.rfl,gH rfl];rfl
  .rw[mI e,fP e];rfl
 .refine aK (dB _ _) aa8 ay aC ((awC (λ c=>(Kt c).1) (λ c=>(Kt c).2) ug n P (n:Nat) (iD P n)).trans ?_);unfold boC;rw[bJ,eU]
theorem aeB{n:Nat}(C:1<=n)(h:n<=16){P:Nat->kC}(hp:∀k,k<n->agP (P k) k):aj bO 90 [pI n P] (BX (iD P n (n - 1))):=by refine aR aa8 ay Tryz.func90 (gq (i:=3) 0 1 (aS (keep:=Uo) (τ:=[some 0,some 1]) (aj3 h hp))) ((aB5 (λ c=>(Kt c).1) (λ c=>(Kt c).2) ug n P (iD P n)).trans ?_);rw[aj1 (by omega) (by omega),ak (Sub.refl _),aO,show((n:Int) - 1)=((n - 1:Nat):Int) by omega,WT (by omega),pF,ZO];rfl
section
end
def bo8(b:Nat->Nat)(e:Int):Option Out:=some (Out.of (.bK [BX b,iA e]))
section
variable(n:Nat)(P:Nat->kC)(sn e:Int)(b:Nat->Nat)
def sbX(h C:Nat):Option Out:=gate (aj bO h [.agg (FI n P sn)] (iA e)) (cond (!(e==0)) (bo8 (λ _=>0) e) (gate (aj bO C [pI n P] (BX b)) (bo8 b 0)))
def sbK(h C:Nat):List bf:=[kS bO h λ _=>iA e,kS bO C λ _=>BX b]
theorem amE:ev bO [] (sbK e b 51 90) bC Tryz.f244 [.agg (FI n P sn)] ret=sbX n P sn e b 51 90:=by kernel_rfl
end
theorem LQ{n:Nat}{P:Nat->kC}{sn:Int}(h:GU n P sn=0):1<=n/\n<=16/\∀k,k<n->Hw (P k) (k:Nat)=0:=by
 unfold GU at h;by_cases E:n<1
 .rw[gG (show(n:Int)<1 by omega)]at h;exact absurd (show(5:Int)=0 from h) (by decide)
 .by_cases C:16<n
  .rw[iH (show ¬(n:Int)<1 by omega),gG (show(n:Int)>16 by omega)]at h;exact absurd (show(5:Int)=0 from h) (by decide)
  .rw[iH (show ¬(n:Int)<1 by omega),iH (show ¬(n:Int)>16 by omega)]at h;cases hs:jN sn
   .rw[hs]at h;exact⟨by omega,by omega,Y8 n h⟩
   .rw[hs]at h;exact absurd (show(4:Int)=0 from h) (by decide)
def soB(n:Nat)(P:Nat->kC)(sn:Int):Nat->Nat:=cond (GU n P sn==0) (iD P n (n - 1)) (λ _=>0)
theorem ayN{n:Nat}{P:Nat->kC}{sn:Int}{C E:Nat}(h:aj bO C [.agg (FI n P sn)] (iA (GU n P sn)))(F:GU n P sn=0->aj bO E [pI n P] (BX (iD P n (n - 1)))):sbX n P sn (GU n P sn) (iD P n (n - 1)) C E=some (Out.of (.bK [BX (soB n P sn),iA (GU n P sn)])):=by
 unfold sbX soB;rw[ak h];by_cases e:GU n P sn=0
 .rw[ak (F e),e];rfl
 .rw[mI e];rfl
theorem BF(n:Nat)(P:Nat->kC)(sn:Int):aj bO 244 [.agg (FI n P sn)] (.bK [BX (soB n P sn),iA (GU n P sn)]) :=aR aB (au aG (au aG ay)) Tryz.func244 aC ((amE n P sn _ _).trans (ayN (Ai n P sn) λ h=>aeB (LQ h).1 (LQ h).2.1 λ k C=>N8 ((LQ h).2.2 k C)))
structure Nor where
 x:Nat
 y:Nat
 w:Nat
 e:Int
def Nor.v(g:Nor):AV:=.bK [V g.x g.y g.w,iA g.e]
def mo:Nat:=13830554455654793216
section
variable(G:List AV->Nat->Nat->Nat->Nor)(n:Nat)(P:Nat->kC)(sn e:Int)(t:Nat)(lf:Int)(tu:Bool)(p q u:Nat)
end
structure jH where
 t:Nat
 l:Int
 u:Bool
def jH.c(x:jH):List AV:=[.f x.t,iA x.l,bA x.u]
def jH.v(x:jH):AV:=.agg x.c
def jq(a b:jH):jH:=cond (bW b.t a.t) b a
def pW(a b:jH):jH:=cond (dN b.t a.t) b a
def pY(a:jH):jH:=⟨a.t,a.l,!a.u⟩
theorem aqc(a b:jH):ev bO [] [] bC Tryz.f161 [a.v,b.v] ret=cond (bW b.t a.t) (some (Out.of b.v)) (some (Out.of a.v)):=by kernel_rfl
theorem aqd(a b:jH):ev bO [] [] bC Tryz.f162 [a.v,b.v] ret=cond (dN b.t a.t) (some (Out.of b.v)) (some (Out.of a.v)):=by kernel_rfl
theorem aqe(a:jH):ev bO [] [] bC Tryz.f188 [a.v] ret=some (Out.of (pY a).v):=by kernel_rfl
theorem aul(a b:jH):aj bO 161 [a.v,b.v] (jq a b).v:=sp aB Tryz.func161 ((aqc a b).trans (by unfold jq;cases bW b.t a.t<;>rfl))
theorem aBX(a b:jH):aj bO 162 [a.v,b.v] (pW a b).v:=sp aB Tryz.func162 ((aqd a b).trans (by unfold pW;cases dN b.t a.t<;>rfl))
theorem aCa(a:jH):aj bO 188 [a.v] (pY a).v:=sp aB Tryz.func188 (aqe a)
def arw(g:List AV->(Nat->Nat)->AV):List AV->Option AV
 | [.agg [.x (.int .i64 k),.f a0,.f a1,.f a2,.f a3,.f a4,.f a5,.f a6,.f a7,.f a8,.f a9,.f ME,.x (.int .i64 sk)],.agg [.f a,.f b,.f c,.f d,.f e,.f f,.f x]]=>some (g [.x (.int .i64 k),.f a0,.f a1,.f a2,.f a3,.f a4,.f a5,.f a6,.f a7,.f a8,.f a9,.f ME,.x (.int .i64 sk)] (ls [a,b,c,d,e,f,x]))
 |_=>none
theorem arx{f:Nat}{g:List AV->(Nat->Nat)->AV}(h:∀k a sk r,aj bO f [SH k a sk,RY r] (g (Cy k a sk) r)):jr bO ⟨f,arw g⟩:=λ C r hr=>by
 simp only[arw]at hr;split at hr
 .cases hr;exact wV (h _ (ls [_,_,_,_,_,_,_,_,_,_,_]) _ (ls [_,_,_,_,_,_,_]))
 .cases hr
def l7(r:Nat->Nat):Nat->Nat:=ls [r 0,r 1,r 2,r 3,r 4,r 5,r 6]
structure bg where
 i:jH
 o:jH
def bg.c(x:bg):List AV:=[.f x.i.t,iA x.i.l,bA x.i.u,.f x.o.t,iA x.o.l,bA x.o.u]
theorem al5(w:List AV->(Nat->Nat)->Wit)(h k:Int)(a:Nat->Nat)(sk:Int)(r:Nat->Nat):ev bO [⟨159,arw λ c r=>(w c r).v⟩] [] bC Tryz.f132 [iA h,SH k a sk,RY r] ret =
  cond (!(w (Cy k a sk) (l7 r)).ok) (some (Out.of (.x (.slice none 0 0)))) (some (Out.of (.sl 6 1 λ q=>chunk (⟨⟨(w (Cy k a sk) (l7 r)).i,h,false⟩,⟨(w (Cy k a sk) (l7 r)).o,h,false⟩⟩:bg).c 6 (0+q)))):=by kernel_rfl
open Go.Ev (key bS cZ iX qm Iy)
structure wT(s:bg):Prop where
 ni:aF s.i.t=false
 no:aF s.o.t=false
 lt:key s.i.t<key s.o.t
def yh(L:List bg):Prop:=L.Pairwise (λ a b=>key a.o.t<key b.i.t)/\∀s,s∈L->wT s
def Wn(s a:bg):Prop:=key a.i.t<=key s.i.t/\key s.o.t<=key a.o.t
theorem MV:yh []:=⟨List.Pairwise.nil,λ s h=>by cases h⟩
theorem M4{s:bg}(h:wT s):yh [s]:=⟨aLj _ _,λ x C=>by rw[aGx]at C;subst C;exact h⟩
theorem rR{a:bg}{l:List bg}(h:yh (a::l)):yh l:=⟨(aMG.1 h.1).2,λ s hs=>h.2 s (aHs _ hs)⟩
theorem xQ{a:bg}{l:List bg}(h:yh (a::l)):wT a/\∀b,b∈l->key a.o.t<key b.i.t:=⟨h.2 a aD0,(aMG.1 h.1).1⟩
theorem Wm{l m:List bg}(h:yh l)(g:yh m)(k:∀a,a∈l->∀b,b∈m->key a.o.t<key b.i.t):yh (l++m) :=⟨aJ3.2 ⟨h.1,g.1,k⟩,λ s hs=>(aIm.1 hs).elim (h.2 s) (g.2 s)⟩
theorem an5{l m:List bg}(h:yh (l++m)):yh l:=⟨(aJ3.1 h.1).1,λ s hs=>h.2 s (aH6 _ hs)⟩
theorem PW{A:List bg}{f:bg->List bg}(h:yh A)(hf:∀a,a∈A->yh (f a)/\∀s,s∈f a->Wn s a):yh (A.flatMap f):=by
 refine⟨List.pairwise_flatMap.2 ⟨λ a C=>(hf a C).1.1,?_⟩,λ s hs=>?_⟩
 .refine List.Pairwise.imp_of_mem (fun{a b} C hb hab x hx y hy=>?_) h.1;have:=(hf a C).2 x hx;have:=(hf b hb).2 y hy;unfold Wn at *;omega
 .obtain⟨a,C,hs⟩:=aIa.1 hs;exact(hf a C).1.2 s hs
def piece(a b:jH):List bg:=cond (dN a.t b.t) [⟨a,b⟩] []
theorem wu{a b:jH}{s:bg}(h:s∈piece a b):s=⟨a,b⟩/\wT s:=by
 unfold piece at h;cases hf:dN a.t b.t<;>rw[hf]at h
 .cases h
 .have e:=aGx.1 h;subst e;have:=Iy hf;exact⟨rfl,this.1,this.2.1,this.2.2⟩
theorem K4(a b:jH):yh (piece a b):=by
 refine⟨?_,λ s hs=>(wu hs).2⟩;unfold piece;cases dN a.t b.t
 .exact List.Pairwise.nil
 .exact aLj _ _
theorem ZY{a b:jH}(ha:aF a.t=false)(C:aF b.t=false):key a.t<=key (jq a b).t/\key b.t<=key (jq a b).t:=by
 unfold jq;rw[cZ C ha];by_cases h:key a.t<key b.t
 .rw[gG h,aY];omega
 .rw[iH h,eU];omega
theorem an6{a b:jH}(ha:aF a.t=false)(C:aF b.t=false):key (pW a b).t<=key a.t/\key (pW a b).t<=key b.t:=by
 unfold pW;rw[bS C ha];by_cases h:key b.t<key a.t
 .rw[gG h,aY];omega
 .rw[iH h,eU];omega
theorem afW(a b:jH):jq a b=a\/jq a b=b:=by unfold jq;cases bW b.t a.t;exact wV rfl;exact Gc rfl
theorem ato(a b:jH):pW a b=a\/pW a b=b:=by unfold pW;cases dN b.t a.t;exact wV rfl;exact Gc rfl
def wR(l r:bg):List bg:=piece (jq l.i r.i) (pW l.o r.o)
def mJ(A B:List bg):List bg:=A.flatMap λ l=>B.flatMap λ r=>wR l r
theorem Z0{l r s:bg}(C:wT l)(hr:wT r)(h:s∈wR l r):Wn s l/\Wn s r:=by have e:=(wu h).1;subst e;have:=ZY C.ni hr.ni;have:=an6 C.no hr.no;unfold Wn;show(key l.i.t<=key (jq l.i r.i).t/\key (pW l.o r.o).t<=key l.o.t)/\(key r.i.t<=key (jq l.i r.i).t/\key (pW l.o r.o).t<=key r.o.t);omega
theorem an7{A B:List bg}(hA:yh A)(hB:yh B):yh (mJ A B) :=
 PW hA λ l h=>⟨PW hB λ r hr=>⟨K4 _ _,λ s hs=>(Z0 (hA.2 l h) (hB.2 r hr) hs).2⟩,λ s hs=>by obtain⟨r,hr,hs⟩:=aIa.1 hs;exact(Z0 (hA.2 l h) (hB.2 r hr) hs).1⟩
def Cb(h:bg)(g e:jH):Bool:=iB h.o.t g.t||iL h.i.t e.t
def jD(e:jH):List bg->jH->List bg
 | [],g=>piece g e
 |h::t,g=>cond (Cb h g e) (jD e t g) (piece g (pY h.i)++jD e t (pY h.o))
def oq(A B:List bg):List bg:=A.flatMap λ l=>jD l.o B l.i
theorem Wo:∀(B:List bg),yh B->∀(g e:jH),aF g.t=false->aF e.t=false->yh (jD e B g)/\∀s,s∈jD e B g->Wn s ⟨g,e⟩
 | [],_,g,e,_,_=>⟨K4 _ _,λ s hs=>by have:=(wu hs).1;show Wn s ⟨g,e⟩;rw[this];unfold Wn;exact⟨af2 _,af2 _⟩⟩
 |h::t,hB,g,e,ng,ne=>by
  have E:=xQ hB;unfold jD;cases hs:Cb h g e
  .rw[eU];unfold Cb at hs;rw[iX E.1.no ng,qm E.1.ni ne]at hs;have hs:=Bool.or_eq_false_iff.1 hs;have J:=oDf hs.1;have s2:=oDf hs.2;have C:=Wo t (rR hB) (pY h.o) e E.1.no ne;refine⟨Wm (K4 _ _) C.1 λ a I b F=>?_,λ s hs=>?_⟩
   .have e1:=(wu I).1;have:=(C.2 b F).1;have:=E.1.lt;rw[e1];show key h.i.t<key b.i.t;have:key h.o.t<=key b.i.t:=(C.2 b F).1;omega
   .rcases aIm.1 hs with hs |hs
    .have e1:=(wu hs).1;rw[e1];exact⟨af2 _,by show key h.i.t<=key e.t;omega⟩
    .have q:=C.2 s hs;have K:key h.o.t<=key s.i.t:=q.1;exact⟨by show key g.t<=key s.i.t;omega,q.2⟩
  .rw[aY];exact Wo t (rR hB) g e ng ne
theorem an8{A B:List bg}(hA:yh A)(hB:yh B):yh (oq A B) :=PW hA λ l h=>Wo B hB l.i l.o (hA.2 l h).ni (hA.2 l h).no
def dS:bg:=⟨⟨0,0,false⟩,⟨0,0,false⟩⟩
def BZ(L:List bg):bg:=L.getD (L.length - 1) dS
def nY(L:List bg)(s:bg):List bg:=cond ((L.length==0)||bW s.i.t (BZ L).o.t) (L++[s]) (L.set (L.length - 1) ⟨(BZ L).i,jq (BZ L).o s.o⟩)
theorem PX(L:List bg)(l s:bg):nY (L++[l]) s=cond (bW s.i.t l.o.t) (L++[l]++[s]) (L++[⟨l.i,jq l.o s.o⟩]):=by
 unfold nY
 have e1:BZ (L++[l])=l:=by unfold BZ;rw[aiR,aJR,aIj,Gd,aqb (ND _),aIr];rfl
 rw[e1];have e2:((L++[l]).length==0)=false:=by rw[aiR,aJR];rfl
 rw[e2,Bool.false_or]
 have e3:(L++[l]).set ((L++[l]).length - 1) ⟨l.i,jq l.o s.o⟩=L++[⟨l.i,jq l.o s.o⟩]:=by rw[aiR,aJR,aIj,List.set_append_right _ _ (ND _),aIr];rfl
 rw[e3]
theorem atp{L:List bg}{s:bg}(F:yh L)(hs:wT s):yh (nY L s):=by
 rcases aLH L with h | ⟨M,l,h⟩
 .subst h;exact M4 hs
 .rw[aLI]at h;subst h;rw[PX];have E:wT l:=F.2 l (aHt _ aD0);have J:=(aJ3.1 F.1).2.2;cases hf:bW s.i.t l.o.t
  .rw[eU];have K:=ZY E.no hs.no;refine Wm (an5 F) (M4 ⟨E.ni,?_,?_⟩) λ a C b I=>?_
   .show aF (jq l.o s.o).t=false;rcases afW l.o s.o with h |h<;>rw[h]
    .exact E.no
    .exact hs.no
   .show key l.i.t<key (jq l.o s.o).t;have:=E.lt;omega
   .rw[aGx.1 I];exact J a C l aD0
  .rw[aY];rw[cZ hs.ni E.no]at hf;have hf:=Qx hf;refine Wm F (M4 hs) λ a C b I=>?_;rw[aGx.1 I];rcases aIm.1 C with C |C
   .have:=J a C l aD0;have:=E.lt;omega
   .rw[aGx.1 C];exact hf
theorem Z4:∀(M:List bg) (L:List bg),yh L->(∀s,s∈M->wT s)->yh (M.foldl nY L)
 | [],_,h,_=>h
 |s::M,_,h,g=>Z4 M _ (atp h (g s aD0)) λ x C=>g x (aHs _ C)
def YP:List bg->List bg->List bg
 | [],B=>B
 |a::A,[]=>a::A
 |a::A,b::B=>cond (iB a.i.t b.i.t) (a::YP A (b::B)) (b::YP (a::A) B)
 termination_by A B=>A.length+B.length
theorem M5:∀(A B:List bg) (s:bg),s∈YP A B->s∈A\/s∈B
 | [],B,s,h=>by rw[YP]at h;exact Gc h
 |a::A,[],s,h=>by rw[YP]at h;exact wV h
 |a::A,b::B,s,h=>by
  rw[YP]at h;cases hf:iB a.i.t b.i.t<;>rw[hf]at h
  .rcases aHJ.1 h with h |h
   .exact Gc (by rw[h];exact aD0)
   .rcases M5 (a::A) B s h with h |h
    .exact wV h
    .exact Gc (aHs _ h)
  .rcases aHJ.1 h with h |h
   .exact wV (by rw[h];exact aD0)
   .rcases M5 A (b::B) s h with h |h
    .exact wV (aHs _ h)
    .exact Gc h
 termination_by A B=>A.length+B.length
def kD(A B:List bg):List bg:=(YP A B).foldl nY []
theorem adE{A B:List bg}(hA:yh A)(hB:yh B):yh (kD A B) :=
 Z4 _ _ MV λ s hs=>by
  rcases M5 A B s hs with h |h
  .exact hA.2 s h
  .exact hB.2 s h
def xu(x y:bg):Bool:=dN x.i.t y.i.t
def ins:List bg->bg->List bg
 | [],x=>[x]
 |y::l,x=>cond ((y::l).all (xu x)) (x::y::l) (y::ins l x)
theorem aip{l:List bg}{x:bg}(h:∀y,y∈l->xu x y=true):ins l x=x::l:=by
 cases l with
 |nil=>rfl
 |cons y l =>
  unfold ins;rw[show(y::l).all (xu x)=true from ab3.2 h];rfl
theorem an9{a:bg}{l:List bg}{x:bg}(h:xu x a=false):ins (a::l) x=a::ins l x:=by show cond ((a::l).all (xu x)) _ _=_;rw[show(a::l).all (xu x)=false by rw[aIk,h,Bool.false_and]];rfl
theorem ET:∀(B:List bg) (a:bg) (A:List bg),(∀b,b∈B->xu b a=false)->B.foldl ins (a::A)=a::B.foldl ins A
 | [],_,_,_=>rfl
 |b::B,a,A,h=>by show B.foldl ins (ins (a::A) b)=a::B.foldl ins (ins A b);rw[an9 (h b aD0)];exact ET B a _ λ x C=>h x (aHs _ C)
theorem aoa{a b:bg}(ha:wT a)(C:wT b)(h:key a.i.t<=key b.i.t):xu b a=false:=by unfold xu;rw[bS C.ni ha.ni,iH (by omega)]
theorem aEH{a b:bg}(ha:wT a)(C:wT b)(h:key b.i.t<key a.i.t):xu b a=true:=by unfold xu;rw[bS C.ni ha.ni,gG h]
theorem Wp{a b:bg}{l:List bg}(h:yh (a::l))(C:b∈l):key a.i.t<key b.i.t:=by have:=(xQ h).2 b C;have:=(xQ h).1.lt;omega
theorem PY:∀(B:List bg),yh B->B.foldl ins []=B
 | [],_=>rfl
 |b::B,h=>by show B.foldl ins [b]=b::B;rw[ET B b [] λ x C=>aoa (xQ h).1 ((rR h).2 x C) (aOi (Wp h C)),PY B (rR h)]
theorem PZ:∀(A B:List bg),yh A->yh B->B.foldl ins A=YP A B
 | [],B,_,hB=>by rw[YP];exact PY B hB
 |a::A,[],_,_=>by rw[YP];rfl
 |a::A,b::B,hA,hB=>by
  rw[YP];have I:=(xQ hA).1;have F:=(xQ hB).1;rw[iX I.ni F.ni];by_cases h:key a.i.t<=key b.i.t
  .rw[gG h,aY,ET (b::B) a A,PZ A (b::B) (rR hA) hB];intro x C;refine aoa I (hB.2 x C) ?_;rcases aHJ.1 C with e |C
   .rw[e];exact h
   .have:=Wp hB C;omega
  .rw[iH h,eU];show B.foldl ins (ins (a::A) b)=_;rw[aip,ET B b (a::A),PZ (a::A) B hA (rR hB)]
   .intro x C;exact aoa F ((rR hB).2 x C) (aOi (Wp hB C))
   .intro y E;refine aEH (hA.2 y E) F ?_;rcases aHJ.1 E with e |E
    .rw[e];omega
    .have:=Wp hA E;omega
 termination_by A B=>A.length+B.length
theorem al3{A B:List bg}(hA:yh A)(hB:yh B):(A++B).foldl ins []=YP A B:=by rw[aMR,PY A hA,PZ A B hA hB]
def Fr(D:Nat->Prop)(L:List bg):Prop:=∀s,s∈L->D s.i.t/\D s.o.t
theorem P5{D:Nat->Prop}{a b:jH}(ha:D a.t)(h:D b.t):Fr D (piece a b):=λ s hs=>by rw[(wu hs).1];exact⟨ha,h⟩
theorem afX{D:Nat->Prop}{a b:jH}(ha:D a.t)(C:D b.t):D (jq a b).t:=by rcases afW a b with h |h<;>rw[h]<;>assumption
theorem atq{D:Nat->Prop}{a b:jH}(ha:D a.t)(C:D b.t):D (pW a b).t:=by rcases ato a b with h |h<;>rw[h]<;>assumption
theorem atr{D:Nat->Prop}{A B:List bg}(hA:Fr D A)(hB:Fr D B):Fr D (mJ A B):=λ s hs=>by obtain⟨l,h,hs⟩:=aIa.1 hs;obtain⟨r,hr,hs⟩:=aIa.1 hs;exact P5 (afX (hA l h).1 (hB r hr).1) (atq (hA l h).2 (hB r hr).2) s hs
theorem adF{D:Nat->Prop}:∀{B:List bg} {g e:jH},Fr D B->D g.t->D e.t->Fr D (jD e B g)
 | [],_,_,_,hg,he=>P5 hg he
 |h::t,g,e,hB,hg,he=>by
  have C:Fr D t:=λ s hs=>hB s (aHs _ hs);have E:=hB h aD0;unfold jD;cases Cb h g e
  .intro s hs;rcases aIm.1 hs with hs |hs
   .exact P5 (b:=pY h.i) hg E.1 s hs
   .exact adF (g:=pY h.o) C E.2 he s hs
  .exact adF C hg he
theorem att{D:Nat->Prop}{A B:List bg}(hA:Fr D A)(hB:Fr D B):Fr D (oq A B):=λ s hs=>by obtain⟨l,h,hs⟩:=aIa.1 hs;exact adF hB (hA l h).1 (hA l h).2 s hs
theorem aob{D:Nat->Prop}{A B:List bg}(hA:Fr D A)(hB:Fr D B):Fr D (A++B):=λ s hs=>by
 rcases aIm.1 hs with h |h
 .exact hA s h
 .exact hB s h
theorem adG{D:Nat->Prop}{s:bg}(E:D s.i.t)(C:D s.o.t):Fr D [s]:=λ x h=>by rw[aGx.1 h];exact⟨E,C⟩
theorem aAd{D:Nat->Prop}{L:List bg}{s:bg}(C:Fr D L)(hs:D s.i.t/\D s.o.t):Fr D (nY L s):=by
 rcases aLH L with h | ⟨I,l,h⟩
 .subst h;exact adG hs.1 hs.2
 .rw[aLI]at h;subst h;rw[PX];have E:=C l (aHt _ aD0);cases bW s.i.t l.o.t
  .exact aob (λ x F=>C x (aH6 _ F)) (adG E.1 (afX E.2 hs.2))
  .exact aob C (adG hs.1 hs.2)
theorem afY{D:Nat->Prop}:∀(M L:List bg),Fr D L->Fr D M->Fr D (M.foldl nY L)
 | [],_,h,_=>h
 |s::M,_,h,g=>afY M _ (aAd h (g s aD0)) λ x C=>g x (aHs _ C)
theorem aiq{D:Nat->Prop}{A B:List bg}(hA:Fr D A)(hB:Fr D B):Fr D (kD A B) :=
 afY _ _ (λ s hs=>by cases hs) λ s hs=>by
  rcases M5 A B s hs with h |h
  .exact hA s h
  .exact hB s h
theorem afZ:∀(l D:List Nat),l.Nodup->(∀x,x∈l->x∈D)->l.length<=D.length
 | [],_,_,_=>alz _
 |a::l,D,h,hs=>by
  have ha:=hs a aD0;have F:=aKP.1 h
  have:=afZ l (D.erase a) F.2 λ x C=>by
   have E:x≠a:=λ e=>by rw[e]at C;exact F.1 C
   exact(List.mem_erase_of_ne E).2 (hs x (aHs _ C))
  rw[List.length_erase_of_mem ha]at this;have:=List.length_pos_of_mem ha;rw[aBz];omega
def LY(L:List bg):List Nat:=L.flatMap λ s=>[s.i.t,s.o.t]
theorem P6:∀L,(LY L).length=2*L.length
 | []=>rfl
 |a::L=>by show(a.i.t::a.o.t::LY L).length=_;rw[aBz,aBz,aBz,P6 L];omega
theorem Z5:∀{L:List bg} {x:Nat},x∈LY L->∃s,s∈L/\(x=s.i.t\/x=s.o.t):=fun{L x} h=>by
 obtain⟨s,hs,h⟩:=aIa.1 h;refine⟨s,hs,?_⟩;rcases aHJ.1 h with h |h
 .exact wV h
 .exact Gc (aGx.1 h)
theorem P7:∀{L:List bg},yh L->(LY L).Nodup
 | [],_=>List.nodup_nil
 |a::L,h=>by
  have F:=xQ h;show(a.i.t::a.o.t::LY L).Nodup
  have E:∀x,x∈LY L->key a.o.t<key x:=λ x C=>by obtain⟨s,hs,e⟩:=Z5 C;have:=F.2 s hs;have:=((rR h).2 s hs).lt;rcases e with e |e<;>rw[e]<;>omega
  refine aKP.2 ⟨λ C=>?_,aKP.2 ⟨λ C=>?_,P7 (rR h)⟩⟩
  .have:=F.1.lt;rcases aHJ.1 C with e |C
   .rw[e]at this;omega
   .have:=E _ C;omega
  .have:=E _ C;omega
theorem Wq{L:List bg}{D:List Nat}(h:yh L)(hf:Fr (·∈D) L):2*L.length<=D.length:=by
 rw[<-P6];refine afZ _ _ (P7 h) λ x C=>?_;obtain⟨s,hs,e⟩:=Z5 C;rcases e with e |e<;>rw[e]
 .exact(hf s hs).1
 .exact(hf s hs).2
end Go.Proofs.YtdlhemnconimnaaGreat.Hs.So
namespace Go.Gv
open Go.RowKit Go.Ev
noncomputable section
theorem Sz{P:Program}{f:Nat}{w:Option Nat}{args:List AV}{mem:List Row}{nk:Nat}{rs:List Row}{v:AV}{mem1:List Row}(hrs:yK ((aT args).map λ k=>mem[k]?)=some rs)
  (Q:nodupB (aT args)=true/\rs.all (λ r=>r.live&&r.pure)=true/\mem1.all Row.pure=true/\Nat.ble rs.length mem1.length=true/\Nat.ble mem1.length (rs.length+1)=true)
  (hg:dJ P f (jo (rU (aT args)) args) rs v mem1) (hsame:∀i,i<rs.length->w≠some i->mem1[i]?=rs[i]?)
  {A0 R:Nat->Prop} {w0 E:Env} {mem':List Row} {bG:Array Value} (N:Wd A0 R w0 E mem) (hnk:E.O nk=none) (hgl:xk E) (hr:dW E args bG.toList)
  (happ:kN E mem mem' nk ⟨kG (BH (aT args) ((mem1[(aT args).length]?).map λ _=>nk)) v,aT args,w.bind λ i=>match(aT args)[i]?,mem1[i]? with
     |some k,some r=>some (k,r)
     |_,_=>none,mem1[(aT args).length]?⟩) (amQ:∀k,k∈aT args->∃p,E.O k=some p) :
  Calls P f bG E.w λ e w'=>∃u E',e=.returned u/\E'.w=w'/\E.le E'/\(∀k p,E'.O k=some p->E.O k=some p\/k=nk)/\Wd A0 R w0 E' mem'/\rel E' (kG (BH (aT args) ((mem1[(aT args).length]?).map λ _=>nk)) v) u:=by
 obtain⟨hnd,hlive,acZ,hlen1,Jr⟩:=Q;have hlen1:=Ou hlen1;have Jr:=Ou Jr;have hmap:=DJ hrs
 have hl:rs.length=(aT args).length:=by have:=congrArg List.length hmap;simpa using this.symm
 have hrow:∀(i k:Nat),(aT args)[i]?=some k->∃row,mem[k]?=some row/\rs[i]?=some row:=λ i k C=>by
  have e1:=congrArg (λ l:List (Option Row)=>l[i]?) hmap;simp only[aG1,C,aaF]at e1;cases hr:rs[i]? with
  |none=>rw[hr]at e1;simp at e1
  |some row =>
   rw[hr]at e1;simp only[aaF,gU]at e1;exact⟨row,e1,rfl⟩
 have hok:∀(i:Nat) (row:Row),rs[i]?=some row->row.live=true/\row.pure=true:=λ i row C=>by have:=ab3.1 hlive row (ajw C);simpa using this
 let O1:Nat->Option (Nat × Nat × Nat):=λ i=>((aT args)[i]?).bind E.O;let E1:Env:={ E with O:=O1 }
 have hO1:∀i b c,E1.O i=some (b,c)->∃k,(aT args)[i]?=some k/\E.O k=some (b,c):=λ i b c C=>by
  have C:((aT args)[i]?).bind E.O=some (b,c):=C;cases hx:(aT args)[i]? with
  |none=>rw[hx]at C;cases C
  |some k=>rw[hx]at C;exact⟨k,rfl,C⟩
 have Oa:∀(i k:Nat) (p:Nat × Nat × Nat),(aT args)[i]?=some k->E.O k=some p->E1.O i=some p:=λ i k p C hp=>by show((aT args)[i]?).bind E.O=some p;rw[C];exact hp
 let R1:Nat->Prop:=λ b=>∃k c,k∈aT args/\E.O k=some (b,c)
 have lives:∀k,k∈aT args->aN mem k=true:=λ k Q=>by obtain⟨i,C⟩:=aG7.1 Q;obtain⟨row,W,g2⟩:=hrow i k C;unfold aN;rw[W];exact(hok i row g2).1
 have hW1:Wd E.A R1 E1 E1 rs:=by
  refine⟨λ i b c C=>?_,N.small,λ _ h=>h,λ i b c C _=>?_,λ i j b c Y C hj _ _=>?_,qz.refl _ _,Env.le.refl _⟩
  .obtain⟨k,U,h2⟩:=hO1 i b c C;obtain⟨row,W,g2⟩:=hrow i k U;obtain⟨J,g3,g4⟩:=N.rows k b c h2;rw[W]at g3;cases g3;exact⟨row,g2,yL (E:=E) (E':=E1) rfl (λ _=>Iff.rfl) (hok i row g2).2 g4⟩
  .obtain⟨k,U,h2⟩:=hO1 i b c C;have hm:=ajw U;exact⟨(N.own k b c h2 (lives k hm)).1,wV ⟨k,c,hm,h2⟩⟩
  .obtain⟨k,U,h2⟩:=hO1 i b c C;obtain⟨S,h3,h4⟩:=hO1 j b Y hj;have:=N.one k S b c Y h2 h4 (lives k (ajw U)) (lives S (ajw h3));subst this;exact qB hnd i j k U h3
 have XG:Ib rs.length E1.A R1 E1:=by
  refine⟨λ i C=>?_,λ b M=>?_,N.small⟩
  .show((aT args)[i]?).bind E.O=none;rw[apa (by omega)];rfl
  .obtain⟨k,c,Q,hO⟩:=M;obtain⟨i,C⟩:=aG7.1 Q;exact⟨i,c,by have:=(abK.1 C).1;omega,Oa i k _ C hO⟩
 have hr1:dW E1 (jo (rU (aT args)) args) bG.toList:=oU args (λ k i p C hp=>Oa i k p (sF C) hp) _ hr;refine(hg.2 R1 E1 bG XG hW1 (Db hgl _) hr1).mono ?_;rintro e w' ⟨u,E',rfl,rfl,I,hrel⟩
 have hE1:∀(i k:Nat),(aT args)[i]?=some k->∃p,E.O k=some p/\E'.O i=some p:=λ i k C=>by obtain⟨p,hp⟩:=amQ k (ajw C);exact⟨p,hp,I.zA.own i p (Oa i k p C hp)⟩
 let nw:Option Row:=mem1[(aT args).length]?;let O2:Nat->Option (Nat × Nat × Nat):=λ k=>if k=nk then(nw.bind λ _=>E'.O (aT args).length)else E.O k
 let E2:Env:={ E' with O:=O2 }
 have hO2:∀k p,E.O k=some p->E2.O k=some p:=λ k p hp=>by
  have:k≠nk:=λ e=>by rw[e,hnk]at hp;cases hp
  show(if k=nk then _ else E.O k)=some p
  rw[fP this];exact hp
 have AZ:∀k p,E2.O k=some p->E.O k=some p\/(k=nk/\(∃row,nw=some row)/\E'.O (aT args).length=some p):=λ k p hp=>by
  have hp:(if k=nk then(nw.bind λ _=>E'.O (aT args).length)else E.O k)=some p:=hp
  by_cases Q:k=nk
  .rw[gH Q]at hp;cases K:nw with
   |none=>rw[K]at hp;cases hp
   |some row=>rw[K]at hp;exact Gc ⟨Q,⟨row,rfl⟩,hp⟩
  .rw[fP Q]at hp;exact wV hp
 have hle:E.le E2:=⟨I.zA.keep,hO2⟩
 have hwr:∀k,k ∉ aT args->∀b c,E.O k=some (b,c)->mem'[k]?=mem[k]?:=λ k Q b c M=>by
  have hne:k≠nk:=λ e=>by rw[e,hnk]at M;cases M
  have:=happ.1 k hne b c M;rw[this];simp only;cases hw:(w.bind λ i=>match(aT args)[i]?,mem1[i]? with |some k,some r=>some (k,r) |_,_=>none)with
  |none=>rfl
  |some q =>
   obtain⟨S,J⟩:=q;simp only;rw[fP];intro e;subst e;cases w with
   |none=>cases hw
   |some i =>
    simp only[aH4]at hw;split at hw
    .rename_i k2 r2 W g2;simp only[gU,Ew]at hw;rw[<-hw.1]at Q;exact Q (ajw W)
    .cases hw
 have hin:∀(i k:Nat),(aT args)[i]?=some k->mem'[k]?=mem1[i]?:=λ i k C=>by
  obtain⟨p,hp,_⟩:=hE1 i k C;have hne:k≠nk:=λ e=>by rw[e,hnk]at hp;cases hp
  have U:=happ.1 k hne p.1 p.2 hp;obtain⟨row,W,g2⟩:=hrow i k C;have hil:i<rs.length:=(abK.1 g2).1;rw[U];simp only;by_cases hwi:w=some i
  .subst hwi;have hm1:∃r1,mem1[i]?=some r1:=⟨_,Ga (by omega)⟩;obtain⟨r1,hr1⟩:=hm1;simp only[aH4,C,hr1];simp
  .rw[hsame i hil hwi,g2];cases hw:(w.bind λ i=>match(aT args)[i]?,mem1[i]? with |some k,some r=>some (k,r) |_,_=>none)with
   |none=>exact W
   |some q =>
    obtain⟨S,J⟩:=q;simp only;rw[fP]
    .exact W
    .intro e;subst e;cases w with
     |none=>cases hw
     |some j =>
      simp only[aH4]at hw;split at hw
      .rename_i k2 r2 g3 g4;simp only[gU,Ew]at hw;rw[hw.1]at g3;exact hwi (by rw[qB hnd j i _ g3 C])
      .cases hw
 have hback:∀i S p,BH (aT args) ((mem1[(aT args).length]?).map λ _=>nk) i=some S->E'.O i=some p->O2 S=some p:=λ i S p C hp=>by
  unfold BH at C;cases hx:(aT args)[i]? with
  |some k =>
   rw[hx]at C;simp only[gU]at C;subst C;obtain⟨p',W,g2⟩:=hE1 i k hx;rw[hp]at g2;cases g2;exact hO2 k p W
  |none =>
   rw[hx]at C;simp only at C;cases M:amH i (aT args).length
   .rw[M]at C;cases C
   .rw[M]at C;simp only[aY]at C;have e1:=aiL M;cases K:mem1[(aT args).length]? with
    |none=>rw[K]at C;cases C
    |some row =>
     rw[K]at C;simp only[aaF,gU]at C;subst C;show(if nk=nk then(nw.bind λ _=>E'.O (aT args).length)else E.O nk)=some p
     rw[gH rfl,show nw=some row from K,<-e1,aH4];exact hp
 have hrow2:∀b c row,row.pure=true->lQ E' b c row->lQ E2 b c row:=λ b c row hp h=>yL (E:=E') (E':=E2) rfl (λ _=>Iff.rfl) hp h;have hpure:∀(i:Nat) (row:Row),mem1[i]?=some row->row.pure=true:=λ i row C=>ab3.1 acZ row (ajw C);have Pg:∀row,nw=some row->mem'[nk]?=some row:=λ row K=>happ.2 row K
 have back:∀k b c,E.O k=some (b,c)->aN mem' k=true->aN mem k=true:=λ k b c M F=>by
  by_cases Q:k∈aT args
  .exact lives k Q
  .unfold aN at F ⊢;rw[hwr k Q b c M]at F;exact F
 have Js:∀b c row,nw=some row->E'.O (aT args).length=some (b,c)->row.live=true->E'.A b/\((∃k Y,k∈aT args/\E.O k=some (b,Y))\/E.w.heap.size<=b):=λ b c row K ho F=>by have:=I.own _ b c ho (by unfold aN;rw[show mem1[(aT args).length]?=some row from K];exact F);exact⟨this.1,this.2⟩
 have Jt:∀row,nw=some row->aN mem' nk=true->row.live=true:=λ row K F=>by unfold aN at F;rw[Pg row K]at F;exact F
 refine⟨u,E2,rfl,rfl,hle,λ k p hp=>(AZ k p hp).imp id λ h=>h.1,⟨?_,I.small,λ b M=>I.old b (N.old b M),?_,?_,?_,N.zA.trans hle⟩,rF v hback u hrel⟩
 .intro k b c M;rcases AZ k _ M with U | ⟨rfl,⟨row,K⟩,h2⟩
  .by_cases Q:k∈aT args
   .obtain⟨i,C⟩:=aG7.1 Q;obtain⟨p,W,g2⟩:=hE1 i k C;rw[U]at W;cases W;obtain⟨row,g3,g4⟩:=I.rows i b c g2;exact⟨row,by rw[hin i k C];exact g3,hrow2 b c row (hpure i row g3) g4⟩
   .obtain⟨row,g3,g4⟩:=N.rows k b c U;refine⟨row,by rw[hwr k Q b c U];exact g3,iT hle g4 λ F=>?_⟩;have hlk:aN mem k=true:=by unfold aN;rw[g3];exact F
    refine I.below.block b (N.small b (N.own k b c U hlk).1) ?_;rintro⟨S,Y,hk',Z⟩;have:=N.one k S b c Y U Z hlk (lives S hk');subst this;exact Q hk'
  .obtain⟨J,g3,g4⟩:=I.rows _ b c h2
   have e1:J=row:=by have g3:mem1[(aT args).length]?=some J:=g3;have K:mem1[(aT args).length]?=some row:=K;rw[K]at g3;cases g3;rfl
   subst e1;exact⟨J,Pg J K,hrow2 b c J (hpure _ J g3) g4⟩
 .intro k b c M F;rcases AZ k _ M with U | ⟨rfl,⟨row,K⟩,h2⟩
  .obtain⟨W,g2⟩:=N.own k b c U (back k b c U F);exact⟨I.old b W,g2⟩
  .obtain⟨W,g2⟩:=Js b c row K h2 (Jt row K F);refine⟨W,?_⟩;rcases g2 with⟨S,Y,hk',Z⟩ |g2
   .exact(N.own S b Y Z (lives S hk')).2
   .exact Gc (aa2 N.below.size g2)
 .have cross:∀k b c Y,E.O k=some (b,c)->aN mem' k=true->(∃row,nw=some row)->E'.O (aT args).length=some (b,Y)->aN mem' nk=true->False:=by
   intro k b c Y M F ⟨row,K⟩ ho zO;have hrl:=Jt row K zO;by_cases Q:k∈aT args
   .obtain⟨i,C⟩:=aG7.1 Q;obtain⟨p,W,g2⟩:=hE1 i k C;rw[M]at W;cases W;have U:aN mem1 i=true:=by unfold aN at F ⊢;rw[hin i k C]at F;exact F
    have h2:aN mem1 (aT args).length=true:=by unfold aN;rw[show mem1[(aT args).length]?=some row from K];exact hrl
    have:=I.one i (aT args).length b c Y g2 ho U h2;subst this;rw[apa (ND _)]at C;cases C
   .have hlk:=back k b c M F;rcases(Js b Y row K ho hrl).2 with⟨S,c2,hk',Z⟩ |g2
    .have:=N.one k S b c c2 M Z hlk (lives S hk');subst this;exact Q hk'
    .have:=N.small b (N.own k b c M hlk).1;omega
  intro k S b c Y M Z F zO;rcases AZ k _ M with U | ⟨rfl,K,h2⟩
  .rcases AZ S _ Z with h1' | ⟨rfl,hn',h2'⟩
   .exact N.one k S b c Y U h1' (back k b c U F) (back S b Y h1' zO)
   .exact(cross k b c Y U F hn' h2' zO).elim
  .rcases AZ S _ Z with h1' | ⟨rfl,hn',h2'⟩
   .exact(cross S b Y c h1' zO K h2 F).elim
   .rfl
 .refine⟨I.below.os.trans N.below.os,I.below.tape.trans N.below.tape,I.below.output.trans N.below.output,aa2 N.below.size I.below.size,λ b M K=>?_⟩;refine(I.below.block b (anS M N.below.size) ?_).trans (N.below.block b M K);rintro⟨k,c,Q,hk2⟩;rcases(N.own k b c hk2 (lives k Q)).2 with h |h
  .exact K h
  .omega
theorem YL{P:Program}{f:Nat}{args:List AV}{r0:Row}{T:TypeId}{sz m:Nat}{u:Nat->List AV}(h:dJ P f args [r0] (.bQ 0 sz 0 m) [.a T sz m u]):dJ P f args [r0] (.bQ 1 sz 0 m) [.dead,.a T sz m u]:=by
 refine⟨h.1,λ R E bG hp hW hg hr=>(h.2 R E bG hp hW hg hr).mono ?_⟩;rintro e w' ⟨x,I,rfl,rfl,F,hx⟩
 have dom:∀k p,I.O k=some p->k=0:=λ k p C=>by obtain⟨row,K,_⟩:=F.rows k p.1 p.2 C;have:=(abK.1 K).1;simp only[aBz,aKc]at this;omega
 let O2:Nat->Option (Nat × Nat × Nat):=λ k=>if k=1 then I.O 0 else I.O k
 let Z:Env:={ I with O:=O2 }
 have N:I.le Z:=⟨λ b Q ob yS=>⟨Q,yS⟩,λ k p C=>by
  have U:k≠1:=by rw[dom k p C];omega
  show(if k=1 then I.O 0 else I.O k)=some p
  rw[fP U];exact C⟩
 have M:∀k p,Z.O k=some p->(k=0\/k=1)/\I.O 0=some p:=λ k p C=>by
  have C:(if k=1 then I.O 0 else I.O k)=some p:=C
  by_cases h:k=1
  .rw[gH h]at C;exact⟨Gc h,C⟩
  .rw[fP h]at C;have:=dom k p C;subst this;exact⟨wV rfl,C⟩
 have S:∀k,aN [.dead,Row.a T sz m u] k=true->k=1:=λ k C=>by
  unfold aN at C;rcases k with _ |_ |k
  .cases C
  .rfl
  .cases C
 have l0:aN [Row.a T sz m u] 0=true:=rfl;refine⟨x,Z,rfl,rfl,⟨λ k b c Q=>?_,F.small,F.old,λ k b c Q hl=>?_,λ k k' b c c' _ _ hl W=>by rw[S k hl,S k' W],F.below,F.zA.trans N⟩,?_⟩
 .obtain⟨K,J⟩:=M k _ Q;rcases K with rfl |rfl
  .exact⟨.dead,rfl,trivial⟩
  .obtain⟨row,g1,g2⟩:=F.rows 0 b c J;cases g1;exact⟨_,rfl,iT N g2 λ _=>rfl⟩
 .obtain⟨_,J⟩:=M k _ Q;exact F.own 0 b c J l0
 .rcases dV.1 hx with⟨K,J,Y⟩ | ⟨b,c,n,K,J,Y,h4⟩
  .exact dV.2 (wV ⟨K,J,Y⟩)
  .exact dV.2 (Gc ⟨b,c,n,by show(if 1=1 then I.O 0 else I.O 1)=_;rw[gH rfl];exact K,J,Y,h4⟩)
theorem ahu{P:Program}{f:Nat}{args:List AV}{T:TypeId}{sz:Nat}{u:Nat->List AV}(h:aj P f args (.x (.slice none 0 0))):dJ P f args [] (.bQ 0 sz 0 0) [.a T sz 0 u]:=by
 refine⟨h.1,λ R E Q hp N hg hr=>?_⟩;have I:E.O=λ _=>none:=by funext k;exact hp.1 k (alz _)
 have K:dW ⟨E.w,E.A,λ _=>none⟩ args Q.toList:=by rw[<-I];exact hr
 have M:xk ⟨E.w,E.A,λ _=>none⟩:=by rw[<-I];exact hg
 refine(h.2 E.A E.w Q N.small K M).mono ?_;rintro e S ⟨v,rfl,hv,F⟩;obtain⟨J,_⟩:=N.on F;refine⟨v,{ E with w:=S },rfl,rfl,⟨λ k b c C=>?_,J.small,J.old,λ k b c C=>?_,λ k U b c W C=>?_,J.below,J.zA⟩,dV.2 (wV ⟨rfl,rfl,cB.1 hv⟩)⟩
 .have C:E.O k=some (b,c):=C;rw[I]at C;cases C
 .have C:E.O k=some (b,c):=C;rw[I]at C;cases C
 .have C:E.O k=some (b,c):=C;rw[I]at C;cases C
mutual
theorem Ph:∀(x:AV) (σ:Nat->Option Nat),iq x=true->kG σ x=x
 |.x _,_,_=>by rw[kG]
 |.f _,_,_=>by rw[kG]
 |.cx _ _,_,_=>by rw[kG]
 |.agg l,σ,h=>by rw[kG,oG l σ (by simpa[iq]using h)]
 |.bK l,σ,h=>by rw[kG,oG l σ (by simpa[iq]using h)]
 |.own _ _,_,h=>by simp[iq]at h
 |.qX _ _ _ _,_,h=>by simp[iq]at h
 |.bQ _ _ _ _,_,h=>by simp[iq]at h
 |.view _ _ _ _ _,_,h=>by simp[iq]at h
 |.ref _ _,_,_=>by rw[kG]
 |.iN l _,σ,h=>by rw[kG,oG l σ (by simpa[iq]using h)]
 |.sl _ _ _,_,_=>by rw[kG]
 |.jd _ x,σ,h=>by rw[kG,Ph x σ (by simpa[iq]using h)]
 |.fn _ a b,σ,h=>by simp only[iq,CX]at h;rw[kG,oG a σ h.1,oG b σ h.2]
 |.any,_,_=>by rw[kG]
theorem oG:∀(l:List AV) (σ:Nat->Option Nat),cK l=true->jo σ l=l
 | [],_,_=>by rw[jo]
 |x::xs,σ,h=>by simp only[cK,CX]at h;rw[jo,Ph x σ h.1,oG xs σ h.2]
end
def alO(P:Program)(f:Nat)(e:TypeId)(sz n:Nat)(el:Nat->List AV)(h:List AV)(r:Nat × (Nat->List AV)):Prop :=dJ P f (.bQ 0 sz 0 n::h) [.a e sz n el] (.bQ 1 sz 0 r.1) [.dead,.a e sz r.1 r.2]/\(n=0->dJ P f (.x (.slice none 0 0)::h) [] (.bQ 0 sz 0 r.1) [.a e sz r.1 r.2])
def amR(P:Program)(f:Nat)(g:Nat->(Nat->List AV)->List AV->Nat × (Nat->List AV)):abw:=λ C h E=>match C,h with
 |.bQ k sz 0 m::rest,[some (.a e sz' n el)]=>cond (cK rest&&(amH sz sz')) (some (jv (alO P f e sz m el rest (g m el rest))&&amH m n,⟨.bQ E sz 0 (g m el rest).1,[k],some (k,.dead),some (.a e sz (g m el rest).1 (g m el rest).2)⟩)) none
 |_,_=>none
def mO(P:Program)(f:Nat)(g:Nat->(Nat->List AV)->List AV->Nat × (Nat->List AV)):dZ:=⟨f,amR P f g,none⟩
theorem aCQ{P:Program}{f:Nat}{g:Nat->(Nat->List AV)->List AV->Nat × (Nat->List AV)}:oN P (mO P f g):=by
 refine⟨⟨λ args mem nk bT h hrd=>?_,λ args W nk nk' b bT h hn=>?_⟩,λ _ h=>by cases h⟩
 .have h:amR P f g args ((aT args).map λ k=>mem[k]?) nk=some (true,bT):=h;unfold amR at h;split at h
  .rename_i k F m C e Q n el h0 hrows;clear h0;cases K:(cK C&&amH F Q)
   .rw[K]at h;cases h
   .rw[K]at h;simp only[aY,gU,Ew,CX]at h K;obtain⟨⟨hp,hmn⟩,rfl⟩:=h;obtain⟨Y,hsz⟩:=K;have e1:=aiL hsz;have e2:=aiL hmn;subst e1 e2;have hO:=qU hp;have I:aT (.bQ k F 0 m::C)=[k]:=hrd.symm
    have hrr:aT C=[]:=by
     have:aT (.bQ k F 0 m::C)=[k]++aT C:=by simp[aT,qJ]
     rw[this]at I;simpa using I
    generalize hr2:g m el C=r2 at *;refine⟨hO.1.1,λ A0 R w0 E mem' bG hW Z hgl hr M=>?_⟩;cases S:E.O k with
    |some p =>
     have U:jo (rU (aT (.bQ k F 0 m::C))) (.bQ k F 0 m::C)=.bQ 0 F 0 m::C:=by
      rw[I,jo,oG C _ Y];have:rU [k] k=some 0:=by simp[rU]
      rw[kG,this]
     have hrs:yK ((aT (.bQ k F 0 m::C)).map λ k=>mem[k]?)=some [.a e F m el]:=by rw[hrows];rfl
     have hv:kG (BH (aT (.bQ k F 0 m::C)) ((([Row.dead,.a e F r2.1 r2.2]:List Row)[(aT (.bQ k F 0 m::C)).length]?).map λ _=>nk)) (.bQ 1 F 0 r2.1)=.bQ nk F 0 r2.1:=by rw[I];rfl
     have cr:=Sz (P:=P) (f:=f) (w:=some 0) (args:=.bQ k F 0 m::C) (mem:=mem) (nk:=nk) (rs:=[.a e F m el]) (v:=.bQ 1 F 0 r2.1) (mem1:=[.dead,.a e F r2.1 r2.2]) hrs ⟨by rw[I];simp[nodupB],rfl,rfl,rfl,rfl⟩ (by rw[U];exact hO.1) (λ i hi hw=>by
      have:i=0:=by simpa using hi
      subst this;exact absurd rfl hw) hW Z hgl hr (mem':=mem') (by rw[hv,I];exact M) (λ k' J=>by
      rw[I]at J;rw[aGx.1 J];exact⟨p,S⟩)
     rw[hv]at cr;exact cr
    |none =>
     obtain⟨u,us,e0,r1,hr'⟩:=aD.1 hr
     have hm:m=0/\u=.slice none 0 0:=by
      rcases dV.1 r1 with⟨_,h2,h3⟩ | ⟨b,c,n',h1,_⟩
      .exact⟨h2,h3⟩
      .rw[S]at h1;cases h1
     have hG:=hO.2 hm.1;have N:aT (.x (.slice none 0 0)::C)=[]:=by simp[aT,qJ,hrr]
     have U:jo (rU (aT (.x (.slice none 0 0)::C))) (.x (.slice none 0 0)::C)=.x (.slice none 0 0)::C:=by rw[jo,oG C _ Y,kG]
     have hv:kG (BH (aT (.x (.slice none 0 0)::C)) ((([Row.a e F r2.1 r2.2]:List Row)[(aT (.x (.slice none 0 0)::C)).length]?).map λ _=>nk)) (.bQ 0 F 0 r2.1)=.bQ nk F 0 r2.1:=by rw[N];rfl
     have cr:=Sz (P:=P) (f:=f) (w:=none) (args:=.x (.slice none 0 0)::C) (mem:=mem) (nk:=nk) (rs:=[]) (v:=.bQ 0 F 0 r2.1) (mem1:=[.a e F r2.1 r2.2]) (by rw[N];rfl) ⟨by rw[N];rfl,rfl,rfl,rfl,rfl⟩ (by rw[U];exact hG) (λ i hi _=>absurd hi (avm i)) hW Z hgl (aD.2 ⟨u,us,e0,cB.2 hm.2,hr'⟩) (mem':=mem') (by
      rw[hv,N];refine⟨λ k' J b c K=>?_,M.2⟩;have h1:=M.1 k' J b c K;have hne:k'≠k:=λ e'=>by rw[e',S]at K;cases K
      simp only[fP hne]at h1;exact h1) (λ k' J=>by rw[N]at J;cases J)
     rw[hv]at cr;exact cr
  .cases h
 .have h:amR P f g args W nk=some (b,bT):=h;unfold amR at h;split at h
  .rename_i k F m C e Q n el h0;clear h0;cases K:(cK C&&amH F Q)
   .rw[K]at h;cases h
   .rw[K]at h;simp only[aY,gU,Ew]at h;rw[<-h.2]at hn;cases hn
  .cases h
end
end Go.Gv
namespace Go.Proofs.YtdlhemnconimnaaGreat.Hs.So
open Go.Gv
open Go.Ev (cn aM aU aX fdiv bD dG dR dN iB bW iL fabs aF)
def yj(X:Nat->bg):Nat->List AV:=λ q=>(X q).c
def fu(L:List bg)(q:Nat):bg:=L.getD q dS
def mF(L:List bg):Nat->List AV:=λ q=>(fu L q).c
def jX(L:List bg):AV:=.sl 6 L.length (mF L)
def BU(L:List bg):Row:=.a 155 6 L.length (mF L)
theorem Ll(b:Bool)(x y:bg):bM b x.c y.c=(cond b x y).c:=by cases b<;>rfl
def aBY:AV->jH
 |.agg [.f t,.x (.int .i64 l),.x (.bool u)]=>⟨t,l,u⟩
 |_=>⟨0,0,false⟩
def Uv:List AV->bg
 | [.f t,.x (.int .i64 l),.x (.bool u),.f t',.x (.int .i64 l'),.x (.bool u')]=>⟨⟨t,l,u⟩,⟨t',l',u'⟩⟩
 |_=>dS
def pG(m:Nat)(el:Nat->List AV):List bg:=(List.range m).map λ q=>Uv (el q)
theorem vH(L:List bg):pG L.length (mF L)=L:=by
 apply List.ext_getElem?;intro q;unfold pG;rw[aG1];by_cases h:q<L.length
 .rw[List.getElem?_range h,Ga h,aaF];show some (fu L q)=_;unfold fu;rw[Gd,Ga h];rfl
 .rw[apa (by rw[List.length_range];omega),apa (by omega)];rfl
theorem arn(L:List bg)(s:bg){q:Nat}(hq:q<L.length+1):fu (L++[s]) q=cond (Tv q L.length) (fu L q) s:=by
 unfold fu;cases C:Tv q L.length
 .have:=jM C;have e:q=L.length:=by omega
  subst e;rw[Gd,aqb (ND _),aIr];rfl
 .have h:q<L.length:=Ou C;rw[Gd,Gd,aiK h];rfl
theorem aes(L:List bg)(s:bg){q:Nat}(hq:q<L.length+1):bM (Tv q L.length) (mF L q) s.c=mF (L++[s]) q:=by show bM (Tv q L.length) (fu L q).c s.c=(fu (L++[s]) q).c;rw[Ll,arn L s hq]
def mL(f:Nat)(G:List bg->List AV->List bg):dZ:=mO bO f λ m el h=>((G (pG m el) h).length,mF (G (pG m el) h))
theorem uY{f:Nat}{G:List bg->List AV->List bg}:oN bO (mL f G):=aCQ
abbrev XA(f:Nat)(L:List bg)(rest:List AV)(R:List bg):Prop:=alO bO f 155 6 L.length (mF L) rest (R.length,mF R)
def lsB(f:Nat)(L:List bg)(h:List AV)(R:List bg):Bool:=jv (alO bO f 155 6 L.length (mF L) h (R.length,mF R))&&amH L.length L.length
theorem XB{f:Nat}{L:List bg}{C:List AV}{R:List bg}(h:XA f L C R):lsB f L C R=true:=by unfold lsB;rw[jl h,Nat.beq_refl];rfl
section
variable(a b:jH)(m:Nat)(X:Nat->bg)
theorem ax9:evG bO [] [] [] bC aLJ [.bQ 0 6 0 m,a.v,b.v] [.a 155 6 m (yj X)] [some 0,some 4]=cond (dN a.t b.t) (cond (Qz m 48||false) (nU (.bQ 1 6 0 (m+1)) [.dead,.a 155 6 (m+1) λ q=>bM (Tv q m) (X q).c (⟨a,b⟩:bg).c]) none) none:=by kernel_rfl
theorem aya:evG bO [] [] [] bC aLJ [.x (.slice none 0 0),a.v,b.v] [] [some 3]=cond (dN a.t b.t) (nU (.bQ 0 6 0 1) [.a 155 6 1 λ q=>bM (Tv q 0) [] (⟨a,b⟩:bg).c]) none:=by kernel_rfl
theorem ayb:ev bO [] [] bC aLJ [.x (.slice none 0 0),a.v,b.v] ret=cond (dN a.t b.t) (some (Out.of (.sl 6 1 λ q=>bM (Tv q 0) [] (⟨a,b⟩:bg).c))) (some (Out.of (.x (.slice none 0 0)))):=by kernel_rfl
theorem ayc:evG bO [] [] [] bC aLJ [.bQ 0 6 0 m,a.v,b.v] [.a 155 6 m (yj X)] [some 0]=cond (dN a.t b.t) (cond (Qz m 48||false) (nU .any [.dead]) none) (nU (.bQ 0 6 0 m) [.a 155 6 m (yj X)]):=by kernel_rfl
end
theorem Mx{L:List bg}(I:L.length<=1000000)(a b:jH):XA 160 L [a.v,b.v] (L++piece a b):=by
 unfold piece;cases h:dN a.t b.t
 .rw[eU,aJS];refine⟨YL (rZ (mem:=[BU L]) aB ay aV aKz (λ _ _ _ _ _ h=>by cases h) (by kernel_rfl) ((ayc a b L.length (fu L)).trans ?_)),λ E=>?_⟩
  .rw[h];rfl
  .rw[aH8.1 E];exact ahu (sp aB aKz ((ayb a b).trans (by rw[h];rfl)))
 .rw[aY];have F:(L++[(⟨a,b⟩:bg)]).length=L.length+1:=by rw[aiR];rfl
  unfold XA;rw[F];refine⟨?_,λ E=>?_⟩
  .have C:dJ bO 160 [.bQ 0 6 0 L.length,a.v,b.v] [BU L] (.bQ 1 6 0 (L.length+1)) [.dead,.a 155 6 (L.length+1) λ q=>bM (Tv q L.length) (fu L q).c (⟨a,b⟩:bg).c]:=rZ (mem:=[BU L]) aB ay aV aKz (λ _ _ _ _ _ h=>by cases h) (by kernel_rfl) ((ax9 a b L.length (fu L)).trans (by rw[h,yB (by omega)];rfl));exact C.AA ⟨wV rfl,Gc ⟨155,6,L.length+1,_,_,rfl,rfl,λ q hq=>(aes L _ hq).symm⟩,trivial⟩
  .have e0:=aH8.1 E;subst e0;have C:dJ bO 160 [.x (.slice none 0 0),a.v,b.v] [] (.bQ 0 6 0 1) [.a 155 6 1 λ q=>bM (Tv q 0) [] (⟨a,b⟩:bg).c]:=rZ (mem:=[]) aB ay aV aKz (λ _ _ _ _ _ h=>by cases h) (by kernel_rfl) ((aya a b).trans (by rw[h];rfl));refine C.AA (mem2:=[.a 155 6 1 (mF ([]++[⟨a,b⟩]))]) ⟨Gc ⟨155,6,1,_,_,rfl,rfl,λ q hq=>?_⟩,trivial⟩;have:q=0:=by omega
   subst this;rfl
def eCC(g:jH->jH->AV):List AV->Option AV
 | [.agg [.f t,.x (.int .i64 l),.x (.bool u)],.agg [.f t',.x (.int .i64 l'),.x (.bool u')]]=>some (g ⟨t,l,u⟩ ⟨t',l',u'⟩)
 |_=>none
theorem aaO{f:Nat}{g:jH->jH->AV}(h:∀a b:jH,aj bO f [a.v,b.v] (g a b)):jr bO ⟨f,eCC g⟩:=λ C r hr=>by
 simp only[eCC]at hr;split at hr
 .cases hr;exact wV (h ⟨_,_,_⟩ ⟨_,_,_⟩)
 .cases hr
def eC1(g:jH->AV):List AV->Option AV
 | [.agg [.f t,.x (.int .i64 l),.x (.bool u)]]=>some (g ⟨t,l,u⟩)
 |_=>none
theorem awG{f:Nat}{g:jH->AV}(h:∀a:jH,aj bO f [a.v] (g a)):jr bO ⟨f,eC1 g⟩:=λ C r hr=>by
 simp only[eC1]at hr;split at hr
 .cases hr;exact wV (h ⟨_,_,_⟩)
 .cases hr
def biS(A B:List bg)(l:bg)(i j:Int)(R:List bg):St:=mkS 37 [(1,jX B),(5,.bQ 1 6 0 R.length),(7,.own 0 0),(10,jX A),(11,iA A.length),(12,iA i),(16,jX B),(17,iA B.length),(18,iA j)] [.c l.c,BU R]
def Um:List Nat:=[1,5,7,10,11,12,16,17,18]
def buS(A B:List bg)(i:Int)(R:List bg):St:=mkS 37 [(1,jX B),(5,.bQ 0 6 0 R.length),(10,jX A),(11,iA A.length),(12,iA i)] [BU R]
def Un:List Nat:=[1,5,10,11,12]
def bE(lf ef:jH->jH->jH):List Entry:=[⟨161,eCC λ a b=>(lf a b).v⟩,⟨162,eCC λ a b=>(ef a b).v⟩]
section
variable(lf ef:jH->jH->jH)(G:List bg->List AV->List bg)(A B:List bg)(l:bg)(i j:Int)(R R':List bg)
def biA:List AV:=[(lf l.i (fu B j.toNat).i).v,(ef l.o (fu B j.toNat).o).v]
def biC(f:List bg->Option Out)(h:Option Out):Option Out:=cond (decide (j<B.length)) (cond (iP j B.length||false) (cond ((lsB 160 R (biA lf ef B l j) (G (pG R.length (mF R)) (biA lf ef B l j))||false)&&true) (f (G (pG R.length (mF R)) (biA lf ef B l j))) none) none) h
theorem ap1:qO bO (bE lf ef) [] [mL 160 G] bC (av aIe 1) (biS A B l i j R) (gu Um [some 0,some 3])=biC lf ef G B l j R (λ R'=>some ⟨.normal,biS A B l i (aH (j+1)) R',.any⟩) none:=by kernel_rfl
theorem awp:qO bO (bE lf ef) [] [mL 160 G] bC (av aIe 1) (biS A B l i j R) (iG Um [some 0,some 1])=biC lf ef G B l j R (λ _=>none) (some ⟨.exit 2,biS A B l i j R,.any⟩):=by kernel_rfl
def buL:Nat->Option dY:=eZ 6 (fF Um [some 1,some 0] (biS A B (fu A i.toNat) i 0 R) (.exit 2) (biS A B (fu A i.toNat) i B.length R'))
def buC(o h:Option Out):Option Out:=cond (decide (i<A.length)) (cond (iP i A.length||false) (gate (Sub (biS A B (fu A i.toNat) i 0 R) (biS A B (fu A i.toNat) i 0 R)) o) none) h
theorem ap2:qO bO (bE lf ef) [] [mL 160 G] (buL A B i R R') (av aIe 0) (buS A B i R) (gu Un [some 1])=buC A B i R (some ⟨.normal,buS A B (aH (i+1)) R',.any⟩) none:=by kernel_rfl
theorem awq:qO bO (bE lf ef) [] [mL 160 G] (eZ 6 λ _ _=>none) (av aIe 0) (buS A B i R) (iG Un [some 0])=cond (decide (i<A.length)) (cond (iP i A.length||false) none none) (some ⟨.exit 0,buS A B i R,.any⟩):=by kernel_rfl
theorem aws:evM bO (bE lf ef) [] [mL 160 G] (eZ 3 (wG Un [(5,0,6)] (BU []) [none] (buS A B 0 []) (.exit 0) (buS A B A.length R))) aIe [jX A,jX B] ret=gate (Sub (buS A B 0 []) (buS A B 0 [])) (some (Out.of (.sl 6 R.length λ q=>mF R (0+q)))):=by kernel_rfl
end
theorem Xz:∀e,e∈bE jq pW->jr bO e:=aL (aaO aul) <|aL (aaO aBX) aB
def apG(L:List bg)(h:List AV):List bg:=match h with
 | [a,b]=>L++piece (aBY a) (aBY b)
 |_=>L
theorem NZ{f:bg->List bg}(hf:∀s,(f s).length<=1):∀(l:List bg),(l.flatMap f).length<=l.length
 | []=>ND _
 |a::l=>by rw[aJr,aiR,aBz];have:=hf a;have:=NZ hf l;omega
theorem Es(a b:jH):(piece a b).length<=1:=by unfold piece;cases dN a.t b.t;exact alz _;exact ND _
theorem AP{L:List bg}{k:Nat}(h:k<L.length):L.take (k+1)=L.take k++[fu L k]:=by rw[List.take_add_one,Ga h];unfold fu;rw[Gd,Ga h];rfl
theorem Et{f:bg->List bg}{L:List bg}{k:Nat}(h:k<L.length):(L.take (k+1)).flatMap f=(L.take k).flatMap f++f (fu L k):=by rw[AP h,List.flatMap_append,aJr,aMY,aJS]
theorem awt(B:List bg)(l:bg)(k:Nat)(R:List bg):apG (pG R.length (mF R)) (biA jq pW B l (k:Nat))=R++wR l (fu B k):=by rw[vH];unfold biA;rw[pF];rfl
theorem ajS{A B:List bg}(hB:B.length<=1000)(l:bg)(i:Int){R:List bg}(F:R.length<=100000):bH bO (.loop (av aIe 1)) (biS A B l i 0 R) (.exit 2) (biS A B l i B.length (R++B.flatMap (wR l))):=by
 have h:bH bO (.loop (av aIe 1)) (biS A B l i (0:Nat) (R++(B.take 0).flatMap (wR l))) (.exit 2) (biS A B l i (B.length:Nat) (R++(B.take B.length).flatMap (wR l))):=by
  refine aP (λ k=>biS A B l i (k:Nat) (R++(B.take k).flatMap (wR l))) B.length (.exit 2) _ (by simp) (λ k C=>?_) ?_
  .refine oO (bB _ _) Xz ay (gK uY aV) aC ((ap1 jq pW apG A B l i (k:Nat) (R++(B.take k).flatMap (wR l))).trans ?_);have E:=NZ (f:=wR l) (λ s=>Es _ _) (B.take k);rw[aFk]at E;unfold biC;rw[awt,aHN,<-Et C,bI C,bZ C,aQ (by omega)]
   have hs:XA 160 (R++(B.take k).flatMap (wR l)) (biA jq pW B l (k:Nat)) (R++(B.take (k+1)).flatMap (wR l)):=by have:=Mx (L:=R++(B.take k).flatMap (wR l)) (by rw[aiR];omega) (jq l.i (fu B k).i) (pW l.o (fu B k).o);rw[aHN]at this;rw[Et C];exact this
   rw[XB hs];rfl
  .refine oO (dB _ _) Xz ay (gK uY aV) aC ((awp jq pW apG A B l i (B.length:Nat) (R++(B.take B.length).flatMap (wR l))).trans ?_);unfold biC;rw[bJ,eU]
 rw[aIx,aKt,aMY,aJS]at h;exact h
theorem ajT{A B:List bg}:(mJ A B).length<=A.length*B.length:=by
 unfold mJ
 induction A with
 |nil=>exact alz _
 |cons a A ih =>
  rw[aJr,aiR,aBz,auK,aHp];have h:=NZ (f:=wR a) (λ s=>Es _ _) B;exact aa2 (aID h ih) (by rw[aI1];exact ND _)
theorem ajU{A B:List bg}(hA:A.length<=200)(hB:B.length<=200):bH bO (.loop (av aIe 0)) (buS A B 0 []) (.exit 0) (buS A B A.length (mJ A B)):=by
 have C:∀k,k<=A.length->(mJ (A.take k) B).length<=40000:=λ k E=>by have F:=ajT (A:=A.take k) (B:=B);rw[aFk]at F;have J:min k A.length*B.length<=200*200:=aHI (by omega) hB;omega
 have I:∀(i:Int) (R R':List bg),bH bO (.loop (av aIe 1)) (biS A B (fu A i.toNat) i 0 R) (.exit 2) (biS A B (fu A i.toNat) i B.length R')->yx bO (buL A B i R R') (av aIe 0):=λ i R R' h=>Gz (c:=av aIe 0) (i:=6) 0 (aS (keep:=Um) (τ:=[some 1,some 0]) h)
 have h:bH bO (.loop (av aIe 0)) (buS A B (0:Nat) (mJ (A.take 0) B)) (.exit 0) (buS A B (A.length:Nat) (mJ (A.take A.length) B)):=by
  refine aP (λ k=>buS A B (k:Nat) (mJ (A.take k) B)) A.length (.exit 0) _ (by simp) (λ k E=>?_) ?_
  .have F:=ajS (A:=A) (B:=B) (by omega) (fu A k) (k:Nat) (R:=mJ (A.take k) B) (by have:=C k (by omega);omega)
   have e1:mJ (A.take k) B++B.flatMap (wR (fu A k))=mJ (A.take (k+1)) B:=by unfold mJ;rw[Et E]
   rw[e1]at F;refine oO (bB _ _) Xz ay (gK uY aV) (I (k:Nat) (mJ (A.take k) B) (mJ (A.take (k+1)) B) (by rw[pF];exact F)) ((ap2 jq pW apG A B (k:Nat) (mJ (A.take k) B) (mJ (A.take (k+1)) B)).trans ?_);unfold buC;rw[bI E,bZ E,ak (Sub.refl _),aQ (by omega)];rfl
  .refine oO (dB _ _) Xz ay (gK uY aV) (uj 6) ((awq jq pW apG A B (A.length:Nat) (mJ (A.take A.length) B)).trans ?_);rw[bJ,eU]
 rw[aIx,aKt]at h;exact h
theorem aa0(R:List bg):(AV.sl 6 R.length λ q=>mF R (0+q))=jX R:=by unfold jX;congr 1;funext q;rw[ZO]
theorem agM{A B:List bg}(hA:A.length<=200)(hB:B.length<=200):aj bO 133 [jX A,jX B] (jX (mJ A B)):=by have h:=Gz (c:=dH aIe) (i:=3) 1 (oo (keep:=Un) (jO:=[(5,0,6)]) (nr:=BU []) (τ:=[none]) (ajU hA hB));refine uh Xz ay (gK uY aV) (by kernel_rfl) Tryz.func133 (by kernel_rfl) (by kernel_rfl) h rfl ((aws jq pW apG A B (mJ A B)).trans ?_);rw[ak (Sub.refl _),aa0]
end Go.Proofs.YtdlhemnconimnaaGreat.Hs.So
namespace Go.Gv
open Go.RowKit Go.Ev
noncomputable section
def FB(np:Nat)(k:jL):Prop:=∀e s o,k e s=some o->o.e=e/\fQ np s o.s
theorem DC{np:Nat}{keep:List Nat}{τ:List (Option Nat)}{s:St}(hp:Fa np τ=true)(h:lF τ s=true):fQ np s (bW keep τ s):=by unfold lF at h;simp only[CX]at h;exact ae9 τ (Xu hp) h.1 (EP 0 s.slots) (zN τ h.2)
theorem Sy{np:Nat}(keep:List Nat){τ:List (Option Nat)}(hp:Fa np τ=true):FB np (Ze keep τ):=λ e s o h=>by
 unfold Ze at h;cases hf:lF τ s
 .rw[hf]at h;cases h
 .rw[hf]at h;simp only[aY,gU]at h;subst h;exact⟨rfl,DC hp hf⟩
theorem fA{np:Nat}(keep:List Nat){τ:List (Option Nat)}(hp:Fa np τ=true):FB np (gu keep τ):=λ e s o h=>by unfold gu at h;cases e<;>simp only at h<;>first | (cases h;done) |exact Sy keep hp _ s o h
theorem fC{np:Nat}(keep:List Nat){τ:List (Option Nat)}(hp:Fa np τ=true):FB np (iG keep τ):=λ e s o h=>by unfold iG at h;cases e<;>simp only at h<;>first | (cases h;done) |exact Sy keep hp _ s o h
theorem Az{np:Nat}{P:Program}{T:Tab}{D:List Oper->St->SK->Option Out}{L:Nat->Option dY}{N:Nat}{c:Code}{s s':St}{e:Exit}{k:jL}(I:FB np k)(K:BR P T)(Q:DOk P D)(M:nT np P L c)(h:jw P T D L N c s k=some ⟨e,s',.any⟩):fM np P c s e s':=λ A0 R w0 E a hp O=>by refine Go.Code.wp_mono ?_ (Io hp K Q N c M O h);rintro Y Z w' ⟨E',F,rfl,C,J⟩;obtain⟨W,U⟩:=I Y F _ J;obtain⟨E2,e2,S⟩:=U A0 R w0 E' Z hp C;exact⟨W.symm,E2,e2,S⟩
def jS(np:Nat)(keep:List Nat)(τ:List (Option Nat))(C:St)(e:Exit)(h:St):dY:=λ s k=>cond (lF τ s) (gate (fQ np (bW keep τ s) C) (k e h)) none
theorem fq{np:Nat}{P:Program}{c:Code}{keep:List Nat}{τ:List (Option Nat)}{F C:St}{e:Exit}(hp:Fa np τ=true)(h:fM np P (.loop c) F e C):o7 np P c (jS np keep τ F e C):=by
 have get:∀{s:St} {k:jL} {r:Out},jS np keep τ F e C s k=some r->fQ np s F/\k e C=some r:=fun{s k r} hr=>by
  unfold jS at hr;cases hf:lF τ s
  .rw[hf]at hr;cases hr
  .rw[hf]at hr;simp only[aY]at hr;obtain⟨U,S⟩:=ji hr;exact⟨(DC hp hf).trans U,S⟩
 have Y:∀{s:St} {k:jL} {r:Out},jS np keep τ F e C s k=some r->∀J,jS np keep τ F e C s J=J e C:=fun{s k r} hr J=>by
  unfold jS at hr ⊢;cases hf:lF τ s
  .rw[hf]at hr;cases hr
  .rw[hf]at hr;simp only[aY]at hr ⊢;rw[ak (ji hr).1]
 constructor
 .intro s k r hr;exact⟨e,C,(get hr).2,Y hr⟩
 .intro s s' e' O N R w0 E a I Q;have W:=O (λ e s=>some ⟨e,s,.any⟩);obtain⟨hs,M⟩:=get W;simp only[gU,Out.mk.injEq,and_true]at M;obtain⟨rfl,rfl⟩:=M;obtain⟨Z,e1,K⟩:=hs N R w0 E a I Q;have:=h N R w0 Z a I K;rw[e1]at this;exact this
theorem iW{np:Nat}{P:Program}{c:Code}{i:Nat}{g:dY}(m:Nat)(E:(bL c).length=m)(h:∀j,j<m->jI ((bL c).getD j .skip)=some i->o7 np P ((bL c).getD j .skip) g):nT np P (eZ i g) c:=by
 intro N K F M J hg;obtain⟨j,I,rfl⟩:=aKh.1 K;unfold eZ at hg;cases C:amH F i
 .rw[C]at hg;cases hg
 .rw[C]at hg;cases hg;have e1:=aiL C;subst e1;have e2:(bL c).getD j .skip=(bL c)[j]:=by rw[Gd,Ga I];rfl
  have:=h j (by omega) (by rw[e2];exact J);rw[e2]at this;exact this
theorem bN{np:Nat}{P:Program}{c:Code}:nT np P bC c:=λ _ _ _ _ _ h=>by cases h
end
noncomputable section
def az3(k sz m:Nat):List (Nat × AV)->List (Nat × AV)->Prop
 | [],[]=>True
 |p::ps,q::qs=>q.1=p.1/\(q.2=p.2\/(p.2=.bQ 0 sz 0 m/\q.2=.bQ k sz 0 m))/\az3 k sz m ps qs
 |_,_=>False
theorem afQ{k sz m:Nat}(i:Nat):∀{xs ys:List (Nat × AV)},az3 k sz m xs ys->lkS ys i=lkS xs i\/(lkS xs i=.bQ 0 sz 0 m/\lkS ys i=.bQ k sz 0 m)
 | [],[],_=>wV rfl
 |p::ps,q::qs,h=>by
  obtain⟨F,E,C⟩:=h;unfold lkS;rw[aNl,aNl,F];cases p.1.beq i with
  |true=>exact E
  |false=>exact afQ i C
 | [],_::_,h=>h.elim
 |_::_,[],h=>h.elim
theorem agU{np n sz m:Nat}{T:TypeId}{u:Nat->List AV}{xs ys:List (Nat × AV)}{C:List Row}(hX:az3 (C.length+1) sz m xs ys):fQ np (mkS n xs (.a T sz m u::C)) (mkS n ys (.dead::(C++[.a T sz m u]))):=by
 intro A0 R w0 E a hp0 hI;have I:Wd A0 R w0 E (.a T sz m u::C):=hI.wd;let K:=C.length+1
 have dom:∀k p,E.O k=some p->k<K:=λ k p F=>by obtain⟨row,M,_⟩:=I.rows k p.1 p.2 F;have:=(abK.1 M).1;simpa using this
 let Z:Env:={ E with O:=λ k=>if k=K then E.O 0 else E.O k }
 have U:Z.O K=E.O 0:=by show(if K=K then E.O 0 else E.O K)=_;rw[gH rfl]
 have hO:∀k,k≠K->Z.O k=E.O k:=λ k F=>by show(if k=K then E.O 0 else E.O k)=_;rw[fP F]
 have Q:E.le Z:=⟨λ b J ob yS=>⟨J,yS⟩,λ k p F=>by rw[hO k (by have:=dom k p F;omega)];exact F⟩
 have hrow:∀v,rel E (.bQ 0 sz 0 m) v->rel Z (.bQ K sz 0 m) v:=λ v hv=>by
  rcases dV.1 hv with h | ⟨b,c,n',M,h2⟩
  .exact dV.2 (wV h)
  .exact dV.2 (Gc ⟨b,c,n',by rw[U];exact M,h2⟩)
 have aEC:∀k,k≠0->k≠K->(Row.dead::(C++[Row.a T sz m u]))[k]?=(Row.a T sz m u::C)[k]?:=λ k W F=>by
  obtain⟨j,rfl⟩:∃j,k=j+1:=⟨k - 1,by omega⟩;have hj:j≠C.length:=λ e=>F (by show j+1=C.length+1;omega);rw[aJA,aJA];by_cases h:j<C.length
  .rw[aiK h]
  .rw[apa (by simp;omega),apa (by omega)]
 have aGu:(Row.dead::(C++[Row.a T sz m u]))[K]?=some (.a T sz m u):=by show(Row.dead::(C++[Row.a T sz m u]))[C.length+1]?=_;rw[aJA,aqb (ND _),aIr];rfl
 have l0:aN (.a T sz m u::C) 0=true:=rfl
 have hlive:∀k,aN (Row.dead::(C++[Row.a T sz m u])) k=true->k≠K->k≠0/\aN (.a T sz m u::C) k=true:=λ k F hne=>by
  have W:k≠0:=λ e=>by rw[e]at F;cases F
  refine⟨W,?_⟩;unfold aN at F ⊢;rw[<-aEC k W hne];exact F
 have hfr:AB Z (mkS n ys (.dead::(C++[.a T sz m u]))).slots (mkS n ys (.dead::(C++[.a T sz m u]))).slots a.tmps:=by
  have W:=hI.frame;refine⟨⟨by have:=W.1.1;simpa[mkS]using this,vo Q W.1.2⟩,λ t=>?_⟩;have M:=W.2 t;by_cases ht:t<n
  .rw[(I5 n ys _ t).1 ht];have M:(tF (mkS n xs (.a T sz m u::C)).slots ((mkS n xs (.a T sz m u::C)).slots.getD t dflt).2=true->rel E ((mkS n xs (.a T sz m u::C)).slots.getD t dflt).1 (a.tmps.getD t undef))/\_:=M;rw[(I5 n xs _ t).1 ht]at M;have h2:=M.1 rfl;refine⟨λ _=>?_,λ h=>by cases h⟩;rcases afQ t hX with e | ⟨e1,e2⟩
   .show rel Z (lkS ys t) _;rw[e];exact lS Q h2
   .show rel Z (lkS ys t) _;rw[e2];have h2:rel E (lkS xs t) (a.tmps.getD t undef):=h2;rw[e1]at h2;exact hrow _ h2
  .rw[(I5 n ys _ t).2 ht];have M:(tF (mkS n xs (.a T sz m u::C)).slots ((mkS n xs (.a T sz m u::C)).slots.getD t dflt).2=true->rel E ((mkS n xs (.a T sz m u::C)).slots.getD t dflt).1 (a.tmps.getD t undef))/\_:=M;rw[(I5 n xs _ t).2 ht]at M;exact⟨λ h=>lS Q (M.1 rfl),λ h=>by cases h⟩
 refine⟨Z,rfl,hI.defers,hfr,⟨λ k b c J=>?_,I.small,I.old,λ k b c J hl=>?_,λ k Y b c c' J S hl hl'=>?_,I.below,I.zA.trans Q⟩⟩
 .by_cases F:k=K
  .rw[F,U]at J;obtain⟨row,g1,g2⟩:=I.rows 0 b c J;cases g1;rw[F];exact⟨_,aGu,iT Q g2 λ _=>rfl⟩
  .rw[hO k F]at J;obtain⟨row,g1,g2⟩:=I.rows k b c J;by_cases W:k=0
   .rw[W];exact⟨.dead,rfl,trivial⟩
   .exact⟨row,by rw[<-g1];exact aEC k W F,iT Q g2 λ _=>rfl⟩
 .by_cases F:k=K
  .rw[F,U]at J;exact I.own 0 b c J l0
  .rw[hO k F]at J;exact I.own k b c J (hlive k hl F).2
 .by_cases F:k=K
  .by_cases N:Y=K
   .rw[F,N]
   .rw[F,U]at J;rw[hO Y N]at S;have:=hlive Y hl' N;exact absurd (I.one 0 Y b c c' J S l0 this.2).symm this.1
  .rw[hO k F]at J;have M:=hlive k hl F;by_cases N:Y=K
   .rw[N,U]at S;exact absurd (I.one k 0 b c c' J S M.2 l0) M.1
   .rw[hO Y N]at S;exact I.one k Y b c c' J S M.2 (hlive Y hl' N).2
end
end Go.Gv
namespace Go.Proofs.YtdlhemnconimnaaGreat.Hs.So
open Go.Gv
open Go.Ev (cn aM aU aX fdiv bD dG dR dN iB bW iL fabs aF)
def QF(n:Nat)(keep:List Nat)(τ:List (Option Nat)):jL:=λ e s=>cond (amH s.mem.length n) (gu keep τ e s) none
theorem Ey{np:Nat}(n:Nat)(keep:List Nat){τ:List (Option Nat)}(hp:Fa np τ=true):FB np (QF n keep τ):=λ e s r h=>by
 unfold QF at h;cases C:amH s.mem.length n
 .rw[C]at h;cases h
 .rw[C]at h;exact fA keep hp e s r h
theorem fT{np:Nat}{l:List Entry}{ks:List bf}{ms:List dZ}{L:Nat->Option dY}{c:Code}{s s':St}{e:Exit}{k:jL}(I:FB np k)(F:∀e,e∈l->jr bO e)(E:∀e,e∈ks->sZ bO e)(C:∀e,e∈ms->oN bO e)(J:nT np bO L c)(h:qO bO l ks ms L c s k=some ⟨e,s',.any⟩):fM np bO c s e s' :=Az I (kV F E C) (gJ (kV F E C) (by kernel_rfl)) J h
def pK:List Nat:=[0,4,7,12,13,14]
def cE(tf:jH->jH):List Entry:=[⟨188,eC1 λ a=>(tf a).v⟩]
def aqf(h:bg)(g e:jH):Bool:=cond (iB h.o.t g.t) true (iL h.i.t e.t)
def Df(s:bg)(g:jH)(H:List bg)(j:Int)(R:List bg):St:=mkS 48 [(0,.bQ 3 6 0 R.length),(4,.own 1 0),(7,.own 2 0),(12,jX H),(13,iA H.length),(14,iA j)] [.dead,.c s.c,.c g.c,BU R]
section
variable(tf:jH->jH)(G:List bg->List AV->List bg)(s:bg)(g:jH)(H:List bg)(j:Int)(R R':List bg)
def agR(o:Option Out)(f:List bg->Option Out)(h:Option Out):Option Out:=cond (decide (j<H.length)) (cond (iP j H.length||false) (cond (aqf (fu H j.toNat) g s.o) o (cond ((lsB 160 R [g.v,(tf (fu H j.toNat).i).v] (G (pG R.length (mF R)) [g.v,(tf (fu H j.toNat).i).v])||false)&&true) (f (G (pG R.length (mF R)) [g.v,(tf (fu H j.toNat).i).v])) none)) none) h
theorem ake:qO bO (cE tf) [] [mL 160 G] bC (av aIf 0) (Df s g H j R) (QF 5 pK [some 0,some 1,some 2,some 3])=agR tf G s g H j R (some ⟨.normal,Df s g H (aH (j+1)) R,.any⟩) (λ _=>none) none:=by kernel_rfl
theorem aqg:qO bO (cE tf) [] [mL 160 G] bC (av aIf 0) (Df s g H j R) (QF 6 pK [some 0,some 1,some 2,some 5])=agR tf G s g H j R none (λ R'=>some ⟨.normal,Df s (tf (fu H j.toNat).o) H (aH (j+1)) R',.any⟩) none:=by kernel_rfl
theorem aqh:qO bO (cE tf) [] [mL 160 G] bC (av aIf 0) (Df s g H j R) (iG pK [some 0,some 1,some 2,some 3])=agR tf G s g H j R none (λ _=>none) (some ⟨.exit 0,Df s g H j R,.any⟩):=by kernel_rfl
end
def Dg(s:bg)(g:jH)(H:List bg)(j:Int)(R:List bg):St:=mkS 48 [(0,.bQ 2 6 0 R.length),(4,.own 0 0),(7,.own 1 0),(12,jX H),(13,iA H.length),(14,iA j)] [.c s.c,.c g.c,BU R]
section
variable(tf:jH->jH)(G:List bg->List AV->List bg)(s:bg)(g:jH)(H:List bg)(j:Int)(R R':List bg)
def agT(o:Option Out)(f:List bg->Option Out)(h:Option Out):Option Out:=cond (decide (j<H.length)) (cond (iP j H.length||false) (cond (aqf (fu H j.toNat) g s.o) o (cond ((lsB 160 R [g.v,(tf (fu H j.toNat).i).v] (G (pG R.length (mF R)) [g.v,(tf (fu H j.toNat).i).v])||false)&&true) (f (G (pG R.length (mF R)) [g.v,(tf (fu H j.toNat).i).v])) none)) none) h
theorem akf:qO bO (cE tf) [] [mL 160 G] bC (av aIf 0) (Dg s g H j R) (QF 4 pK [some 0,some 1,some 2])=agT tf G s g H j R (some ⟨.normal,Dg s g H (aH (j+1)) R,.any⟩) (λ _=>none) none:=by kernel_rfl
theorem aqi:qO bO (cE tf) [] [mL 160 G] bC (av aIf 0) (Dg s g H j R) (QF 5 pK [some 0,some 1,some 4])=agT tf G s g H j R none (λ R'=>some ⟨.normal,Dg s (tf (fu H j.toNat).o) H (aH (j+1)) R',.any⟩) none:=by kernel_rfl
theorem aqj:qO bO (cE tf) [] [mL 160 G] bC (av aIf 0) (Dg s g H j R) (iG pK [some 0,some 1,some 2])=agT tf G s g H j R none (λ _=>none) (some ⟨.exit 0,Dg s g H j R,.any⟩):=by kernel_rfl
end
def sG(e:jH)(H:List bg)(g:jH)(L:List bg):Nat->jH × List bg
 | 0=>(g,L)
 |k+1=>cond (Cb (fu H k) (sG e H g L k).1 e) (sG e H g L k) (pY (fu H k).o,(sG e H g L k).2++piece (sG e H g L k).1 (pY (fu H k).i))
theorem aeF(e:jH)(H:List bg)(g:jH)(L:List bg):∀k,k<=H.length->(sG e H g L k).2++jD e (H.drop k) (sG e H g L k).1=L++jD e H g
 | 0,_=>rfl
 |k+1,hk=>by
  rw[<-aeF e H g L k (by omega)]
  have h:H.drop k=fu H k::H.drop (k+1):=by rw[aJl (by omega)];unfold fu;rw[Gd,Ga (by omega)];rfl
  rw[h];have C:jD e (fu H k::H.drop (k+1)) (sG e H g L k).1=cond (Cb (fu H k) (sG e H g L k).1 e) (jD e (H.drop (k+1)) (sG e H g L k).1) (piece (sG e H g L k).1 (pY (fu H k).i)++jD e (H.drop (k+1)) (pY (fu H k).o)):=rfl;rw[C];show(cond _ _ _:jH × List bg).2++jD e (H.drop (k+1)) (cond _ _ _:jH × List bg).1=_;cases Cb (fu H k) (sG e H g L k).1 e
  .rw[eU,eU,aHN]
  .rw[aY,aY]
theorem aeG(e:jH)(H:List bg)(g:jH)(L:List bg):(sG e H g L H.length).2++piece (sG e H g L H.length).1 e=L++jD e H g:=by have:=aeF e H g L H.length (ND _);rw[aKF]at this;exact this
theorem IE(e:jH)(H:List bg)(g:jH)(L:List bg):∀k,(sG e H g L k).2.length<=L.length+k
 | 0=>ND _
 |k+1=>by
  have h:=IE e H g L k;show(cond _ _ _:jH × List bg).2.length<=_;cases Cb (fu H k) (sG e H g L k).1 e
  .show((sG e H g L k).2++piece _ _).length<=_;rw[aiR];have:=Es (sG e H g L k).1 (pY (fu H k).i);omega
  .show(sG e H g L k).2.length<=_;omega
theorem Ut(h:bg)(g e:jH):aqf h g e=Cb h g e:=by unfold aqf Cb;cases iB h.o.t g.t<;>rfl
theorem Lr:∀e,e∈cE pY->jr bO e:=aL (awG aCa) aB
theorem Od(R:List bg)(a b:jH):apG (pG R.length (mF R)) [a.v,b.v]=R++piece a b:=by rw[vH];rfl
theorem agQ{s:bg}{H:List bg}(I:H.length<=1000){L:List bg}(F:L.length<=100000):fM 1 bO (.loop (av aIf 0)) (Df s s.i H 0 L) (.exit 0) (Df s (sG s.o H s.i L H.length).1 H H.length (sG s.o H s.i L H.length).2):=by
 have h:fM 1 bO (.loop (av aIf 0)) (Df s (sG s.o H s.i L 0).1 H (0:Nat) (sG s.o H s.i L 0).2) (.exit 0) (Df s (sG s.o H s.i L H.length).1 H (H.length:Nat) (sG s.o H s.i L H.length).2):=by
  refine aP (λ k=>Df s (sG s.o H s.i L k).1 H (k:Nat) (sG s.o H s.i L k).2) H.length (.exit 0) _ (by simp) (λ k C=>?_) ?_
  .have E:=IE s.o H s.i L k;show fM 1 bO _ (Df s (sG s.o H s.i L k).1 H (k:Nat) (sG s.o H s.i L k).2) .normal (Df s (cond _ _ _:jH × List bg).1 H ((k+1:Nat):Int) (cond _ _ _:jH × List bg).2);cases hs:Cb (fu H k) (sG s.o H s.i L k).1 s.o
   .refine fT (Ey 6 pK (τ:=[some 0,some 1,some 2,some 5]) (by rfl)) Lr ay (gK uY aV) bN ((aqg pY apG s (sG s.o H s.i L k).1 H (k:Nat) (sG s.o H s.i L k).2).trans ?_);unfold agR;rw[bI C,bZ C,pF,Ut,hs,Od,XB (Mx (by omega) _ _),aQ (by omega)];rfl
   .refine fT (Ey 5 pK (τ:=[some 0,some 1,some 2,some 3]) (by rfl)) Lr ay (gK uY aV) bN ((ake pY apG s (sG s.o H s.i L k).1 H (k:Nat) (sG s.o H s.i L k).2).trans ?_);unfold agR;rw[bI C,bZ C,pF,Ut,hs,aQ (by omega)];rfl
  .refine fT (fC pK (τ:=[some 0,some 1,some 2,some 3]) (by rfl)) Lr ay (gK uY aV) bN ((aqh pY apG s _ H (H.length:Nat) _).trans ?_);unfold agR;rw[bJ,eU]
 exact h
theorem agS{s:bg}{H:List bg}(I:H.length<=1000){L:List bg}(F:L.length<=100000):fM 0 bO (.loop (av aIf 0)) (Dg s s.i H 0 L) (.exit 0) (Dg s (sG s.o H s.i L H.length).1 H H.length (sG s.o H s.i L H.length).2):=by
 have h:fM 0 bO (.loop (av aIf 0)) (Dg s (sG s.o H s.i L 0).1 H (0:Nat) (sG s.o H s.i L 0).2) (.exit 0) (Dg s (sG s.o H s.i L H.length).1 H (H.length:Nat) (sG s.o H s.i L H.length).2):=by
  refine aP (λ k=>Dg s (sG s.o H s.i L k).1 H (k:Nat) (sG s.o H s.i L k).2) H.length (.exit 0) _ (by simp) (λ k C=>?_) ?_
  .have E:=IE s.o H s.i L k;show fM 0 bO _ (Dg s (sG s.o H s.i L k).1 H (k:Nat) (sG s.o H s.i L k).2) .normal (Dg s (cond _ _ _:jH × List bg).1 H ((k+1:Nat):Int) (cond _ _ _:jH × List bg).2);cases hs:Cb (fu H k) (sG s.o H s.i L k).1 s.o
   .refine fT (Ey 5 pK (τ:=[some 0,some 1,some 4]) (by rfl)) Lr ay (gK uY aV) bN ((aqi pY apG s (sG s.o H s.i L k).1 H (k:Nat) (sG s.o H s.i L k).2).trans ?_);unfold agT;rw[bI C,bZ C,pF,Ut,hs,Od,XB (Mx (by omega) _ _),aQ (by omega)];rfl
   .refine fT (Ey 4 pK (τ:=[some 0,some 1,some 2]) (by rfl)) Lr ay (gK uY aV) bN ((akf pY apG s (sG s.o H s.i L k).1 H (k:Nat) (sG s.o H s.i L k).2).trans ?_);unfold agT;rw[bI C,bZ C,pF,Ut,hs,aQ (by omega)];rfl
  .refine fT (fC pK (τ:=[some 0,some 1,some 2]) (by rfl)) Lr ay (gK uY aV) bN ((aqj pY apG s _ H (H.length:Nat) _).trans ?_);unfold agT;rw[bJ,eU]
 exact h
def aCb(s:bg)(H:List bg)(L:List bg):St:=mkS 48 [(0,.bQ 0 6 0 L.length),(4,.own 1 0),(7,.own 2 0),(12,jX H),(13,iA H.length),(14,iA 0)] [BU L,.c s.c,.c s.i.c]
section
variable(tf:jH->jH)(G:List bg->List AV->List bg)(s:bg)(g:jH)(H:List bg)(L R:List bg)
def coQ(o:Option Out):Option Out:=cond (lsB 160 R [g.v,s.o.v] (G (pG R.length (mF R)) [g.v,s.o.v])||false) o none
theorem awH:evG bO (cE tf) [] [mL 160 G] (eZ 3 (jS 1 pK [some 0,some 1,some 2] (Df s s.i H 0 L) (.exit 0) (Df s g H H.length R))) aIf [.bQ 0 6 0 L.length,.agg s.c,jX H] [BU L] [some 0,some 4] =
  gate (fQ 1 (aCb s H L) (Df s s.i H 0 L)) (coQ G s g R (nU (.bQ 1 6 0 (G (pG R.length (mF R)) [g.v,s.o.v]).length) [.dead,BU (G (pG R.length (mF R)) [g.v,s.o.v])])):=by kernel_rfl
theorem awI:evG bO (cE tf) [] [mL 160 G] (eZ 3 (wG pK [(0,2,6)] (BU []) [some 0,some 1,none] (Dg s s.i H 0 []) (.exit 0) (Dg s g H H.length R))) aIf [.x (.slice none 0 0),.agg s.c,jX H] [] [some 3] =
  gate (Sub (Dg s s.i H 0 []) (Dg s s.i H 0 [])) (coQ G s g R (nU (.bQ 0 6 0 (G (pG R.length (mF R)) [g.v,s.o.v]).length) [BU (G (pG R.length (mF R)) [g.v,s.o.v])])):=by kernel_rfl
end
theorem awJ(s:bg)(H:List bg)(L:List bg):fQ 1 (aCb s H L) (Df s s.i H 0 L) :=@agU 1 48 6 L.length 155 (mF L) [(0,.bQ 0 6 0 L.length),(4,.own 1 0),(7,.own 2 0),(12,jX H),(13,iA H.length),(14,iA 0)] [(0,.bQ 3 6 0 L.length),(4,.own 1 0),(7,.own 2 0),(12,jX H),(13,iA H.length),(14,iA 0)] [.c s.c,.c s.i.c] ⟨rfl,Gc ⟨rfl,rfl⟩,rfl,wV rfl,rfl,wV rfl,rfl,wV rfl,rfl,wV rfl,rfl,wV rfl,trivial⟩
theorem aqk{L:List bg}(C:L.length<=100000)(s:bg){H:List bg}(E:H.length<=1000):XA 166 L [.agg s.c,jX H] (L++jD s.o H s.i):=by
 have I:=IE s.o H s.i L H.length;have h:=aeG s.o H s.i L
 have hq:∀(o:Option Out),coQ apG s (sG s.o H s.i L H.length).1 (sG s.o H s.i L H.length).2 o=o:=λ o=>by unfold coQ;rw[Od,XB (Mx (by omega) _ _)];rfl
 refine⟨?_,λ F=>?_⟩
 .refine rZ (mem:=[BU L]) Lr ay (gK uY aV) aNZ (iW 1 (by kernel_rfl) λ j J _=>?_) (by kernel_rfl) ((awH pY apG s (sG s.o H s.i L H.length).1 H L (sG s.o H s.i L H.length).2).trans ?_)
  .have:j=0:=by omega
   subst this;exact fq (keep:=pK) (τ:=[some 0,some 1,some 2]) (by rfl) (agQ E C)
  .rw[ak (awJ s H L),hq,Od,h];rfl
 .have e0:=aH8.1 F;subst e0;refine rZ (mem:=[]) Lr ay (gK uY aV) aNZ (Gz (c:=dH aIf) (i:=3) 0 (oo (keep:=pK) (jO:=[(0,2,6)]) (nr:=BU []) (τ:=[some 0,some 1,none]) (agS (s:=s) E C))) (by kernel_rfl) ((awI pY apG s (sG s.o H s.i [] H.length).1 H (sG s.o H s.i [] H.length).2).trans ?_);rw[ak (Sub.refl _),hq,Od,h];rfl
def leS(A B:List bg)(i:Int)(R:List bg):St:=mkS 20 [(1,jX B),(5,.bQ 0 6 0 R.length),(8,jX A),(9,iA A.length),(10,iA i)] [BU R]
def Uu:List Nat:=[1,5,8,9,10]
section
variable(G:List bg->List AV->List bg)(A B:List bg)(i:Int)(R:List bg)
def leC(f:List bg->Option Out)(h:Option Out):Option Out:=cond (decide (i<A.length)) (cond (iP i A.length||false) (cond (lsB 166 R [.agg (fu A i.toNat).c,jX B] (G (pG R.length (mF R)) [.agg (fu A i.toNat).c,jX B])||false) (f (G (pG R.length (mF R)) [.agg (fu A i.toNat).c,jX B])) none) none) h
theorem le_step:qO bO [] [] [mL 166 G] bC (av aKl 0) (leS A B i R) (gu Uu [some 2])=leC G A B i R (λ R'=>some ⟨.normal,leS A B (aH (i+1)) R',.any⟩) none:=by kernel_rfl
theorem awK:qO bO [] [] [mL 166 G] bC (av aKl 0) (leS A B i R) (iG Uu [some 0])=leC G A B i R (λ _=>none) (some ⟨.exit 0,leS A B i R,.any⟩):=by kernel_rfl
theorem aCc:evM bO [] [] [mL 166 G] (eZ 3 (wG Uu [(5,0,6)] (BU []) [none] (leS A B 0 []) (.exit 0) (leS A B A.length R))) aKl [jX A,jX B] ret=gate (Sub (leS A B 0 []) (leS A B 0 [])) (some (Out.of (.sl 6 R.length λ q=>mF R (0+q)))):=by kernel_rfl
end
def coG(L:List bg)(h:List AV):List bg:=match h with
 | [.agg c,.sl _ m el]=>L++jD (Uv c).o (pG m el) (Uv c).i
 |_=>L
theorem awL(R:List bg)(s:bg)(B:List bg):coG (pG R.length (mF R)) [.agg s.c,jX B]=R++jD s.o B s.i:=by show pG R.length (mF R)++jD s.o (pG B.length (mF B)) s.i=_;rw[vH,vH]
theorem aql(e:jH)(B:List bg)(g:jH):(jD e B g).length<=B.length+1:=by have h:=aeG e B g [];have C:=IE e B g [] B.length;rw[List.nil_append]at h;rw[<-h,aiR];have:=Es (sG e B g [] B.length).1 e;simp only[aKc]at C;omega
theorem akg{A B:List bg}:(oq A B).length<=A.length*(B.length+1):=by
 unfold oq
 induction A with
 |nil=>exact alz _
 |cons a A ih =>
  rw[aJr,aiR,aBz,auK,aHp];have h:=aql a.o B a.i;exact aa2 (aID h ih) (by rw[aI1];exact ND _)
theorem akh{A B:List bg}(hA:A.length<=200)(hB:B.length<=200):bH bO (.loop (av aKl 0)) (leS A B 0 []) (.exit 0) (leS A B A.length (oq A B)):=by
 have C:∀k,k<=A.length->(oq (A.take k) B).length<=40200:=λ k E=>by have F:=akg (A:=A.take k) (B:=B);rw[aFk]at F;have I:min k A.length*(B.length+1)<=200*201:=aHI (by omega) (by omega);omega
 have h:bH bO (.loop (av aKl 0)) (leS A B (0:Nat) (oq (A.take 0) B)) (.exit 0) (leS A B (A.length:Nat) (oq (A.take A.length) B)):=by
  refine aP (λ k=>leS A B (k:Nat) (oq (A.take k) B)) A.length (.exit 0) _ (by simp) (λ k E=>?_) ?_
  .refine oO (bB _ _) aB ay (gK uY aV) aC ((le_step coG A B (k:Nat) (oq (A.take k) B)).trans ?_)
   have e1:oq (A.take k) B++jD (fu A k).o B (fu A k).i=oq (A.take (k+1)) B:=by unfold oq;rw[Et E]
   have:=C k (by omega);have hs:=aqk (L:=oq (A.take k) B) (by omega) (fu A k) (H:=B) (by omega);rw[e1]at hs;unfold leC;rw[bI E,bZ E,pF,awL,e1,XB hs,aQ (by omega)];rfl
  .refine oO (dB _ _) aB ay (gK uY aV) aC ((awK coG A B (A.length:Nat) (oq (A.take A.length) B)).trans ?_);unfold leC;rw[bJ,eU]
 rw[aIx,aKt]at h;exact h
theorem agN{A B:List bg}(hA:A.length<=200)(hB:B.length<=200):aj bO 135 [jX A,jX B] (jX (oq A B)):=by have h:=Gz (c:=dH aKl) (i:=3) 0 (oo (keep:=Uu) (jO:=[(5,0,6)]) (nr:=BU []) (τ:=[none]) (akh hA hB));refine uh aB ay (gK uY aV) (by kernel_rfl) Tryz.func135 (by kernel_rfl) (by kernel_rfl) h rfl ((aCc coG A B (oq A B)).trans ?_);rw[ak (Sub.refl _),aa0]
theorem aik(a:Nat):ev bO [] [] bC Tryz.f144 [.f a] ret=some (Out.of (bA (!(dR a a)))):=by kernel_rfl
theorem ath(a:Nat):aj bO 144 [.f a] (bA (!(dR a a))):=sp aB Tryz.func144 (aik a)
def eF1(g:Nat->AV):List AV->Option AV
 | [.f a]=>some (g a)
 |_=>none
theorem az5{f:Nat}{g:Nat->AV}(h:∀a,aj bO f [.f a] (g a)):jr bO ⟨f,eF1 g⟩:=λ C r hr=>by
 simp only[eF1]at hr;split at hr
 .cases hr;exact wV (h _)
 .cases hr
def mR(a b:Nat):Int:=cond (!(dR a a)) (cond (!(dR b b)) 0 (-1)) (cond (!(dR b b)) 1 (cond (dN a b) (-1) (cond (bW a b) 1 0)))
theorem ail(h:Nat->Bool)(a b:Nat):ev bO [⟨144,eF1 λ a=>bA (h a)⟩] [] bC Tryz.f104 [.f a,.f b] ret=cond (h a) (cond (h b) (sH 0) (sH (-1))) (cond (h b) (sH 1) (cond (dN a b) (sH (-1)) (cond (bW a b) (sH 1) (sH 0)))):=by kernel_rfl
theorem ati(a b:Nat):aj bO 104 [.f a,.f b] (iA (mR a b)):=by refine sp (aL (az5 ath) aB) Tryz.func104 ((ail (λ a=>!(dR a a)) a b).trans ?_);unfold mR sH;cases dR a a<;>cases dR b b<;>cases dN a b<;>cases bW a b<;>rfl
theorem anP(cf:Nat->Nat->Int)(x y:bg):ev bO [⟨104,eFF λ a b=>iA (cf a b)⟩] [] bC Tryz.f165 [.agg x.c,.agg y.c] ret=some (Out.of (iA (cf x.i.t y.i.t))):=by kernel_rfl
theorem scl(x y:bg):aj bO 165 [.agg x.c,.agg y.c] (iA (mR x.i.t y.i.t)):=sp (aL (Dp ati) aB) Tryz.func165 (anP mR x y)
def eSS(g:bg->bg->AV):List AV->Option AV
 | [.agg [.f t,.x (.int .i64 l),.x (.bool u),.f t',.x (.int .i64 l'),.x (.bool u')],.agg [.f s,.x (.int .i64 m),.x (.bool v),.f s',.x (.int .i64 m'),.x (.bool v')]]=>some (g ⟨⟨t,l,u⟩,⟨t',l',u'⟩⟩ ⟨⟨s,m,v⟩,⟨s',m',v'⟩⟩)
 |_=>none
theorem axk{f:Nat}{g:bg->bg->AV}(h:∀x y:bg,aj bO f [.agg x.c,.agg y.c] (g x y)):jr bO ⟨f,eSS g⟩:=λ C r hr=>by
 simp only[eSS]at hr;split at hr
 .cases hr;exact wV (h ⟨⟨_,_,_⟩,⟨_,_,_⟩⟩ ⟨⟨_,_,_⟩,⟨_,_,_⟩⟩)
 .cases hr
def jE:AV:=.fn (.func 165) [] []
def uP(n:Nat)(a b i j:Int)(X:Nat->bg):St:=mkS 53 [(0,.bQ 0 6 0 n),(1,iA a),(2,iA b),(3,jE),(8,iA i),(9,iA j)] [.a 155 6 n (yj X)]
def Ac:List Nat:=[0,1,2,3,8,9]
def qD(n:Nat)(a b i:Int)(X:Nat->bg):St:=mkS 53 [(0,.bQ 0 6 0 n),(1,iA a),(2,iA b),(3,jE),(8,iA i)] [.a 155 6 n (yj X)]
def vW:List Nat:=[0,1,2,3,8]
def Yk(b:Bool):Bool:=!(decide (b=true)&&true)
section
variable(cf:bg->bg->Int)(n:Nat)(a b i j:Int)(X:Nat->bg)
def abC:Bool:=(iP j n||Yk (decide (j>a)))&&((Tv (0+j.toNat) n||Yk (decide (j>a)))&&((iP (aH (j - 1)) n||Yk (decide (j>a)))&&((Tv (0+(aH (j - 1)).toNat) n||Yk (decide (j>a)))&&true)))
def abI:Bool:=cond (decide (j>a)) (decide (cf (X (0+j.toNat)) (X (0+(aH (j - 1)).toNat))<0)) false
def abD:Bool:=(iP (aH (j - 1)) n||false)&&((lN (aH (j - 1)) n)&&((iP j n||false)&&((lN j n)&&((iP j n||false)&&((lN j n)&&((iP (aH (j - 1)) n||false)&&((lN (aH (j - 1)) n)&&true)))))))
def UW(o h:Option Out):Option Out:=cond (abC n a j) (cond (abI cf a j X) (cond (abD n j) o none) h) none
def iiE:Nat->List AV:=λ q=>bM (q==0+(aH (j - 1)).toNat) (X (0+j.toNat)).c (bM (q==0+j.toNat) (X (0+(aH (j - 1)).toNat)).c (X q).c)
theorem abJ:qO bO [⟨165,eSS λ x y=>iA (cf x y)⟩] [] [] bC (av aH5 1) (uP n a b i j X) (gu Ac [some 0])=UW cf n a j X (some ⟨.normal,mkS 53 [(0,.bQ 0 6 0 n),(1,iA a),(2,iA b),(3,jE),(8,iA i),(9,iA (aH (j - 1)))] [.a 155 6 n (iiE j X)],.any⟩) none:=by kernel_rfl
theorem ahh:qO bO [⟨165,eSS λ x y=>iA (cf x y)⟩] [] [] bC (av aH5 1) (uP n a b i j X) (iG Ac [some 0])=UW cf n a j X none (some ⟨.exit 2,uP n a b i j X,.any⟩):=by kernel_rfl
end
open Go.Ev (key bS cZ dU)
section
variable(cf:bg->bg->Int)(n:Nat)(a b i:Int)(X X':Nat->bg)
def axj(h:Int):Nat->Option dY:=eZ 4 (jS 1 Ac [some 0] (uP n a b i i X) (.exit 2) (uP n a b i h X'))
theorem abB(h:Int):qO bO [⟨165,eSS λ x y=>iA (cf x y)⟩] [] [] (axj n a b i X X' h) (av aH5 0) (qD n a b i X) (gu vW [some 0])=cond (decide (i<b)) (gate (fQ 1 (uP n a b i i X) (uP n a b i i X)) (some ⟨.normal,qD n a b (aH (i+1)) X',.any⟩)) none:=by kernel_rfl
theorem RU:qO bO [⟨165,eSS λ x y=>iA (cf x y)⟩] [] [] (eZ 4 λ _ _=>none) (av aH5 0) (qD n a b i X) (iG vW [some 0])=cond (decide (i<b)) none (some ⟨.exit 0,qD n a b i X,.any⟩):=by kernel_rfl
theorem Yi:evG bO [⟨165,eSS λ x y=>iA (cf x y)⟩] [] [] (eZ 1 (jS 1 vW [some 0] (qD n a b (aH (a+1)) X) (.exit 0) (qD n a b i X'))) aH5 [.bQ 0 6 0 n,iA a,iA b,jE] [.a 155 6 n (yj X)] [some 0]=gate (fQ 1 (qD n a b (aH (a+1)) X) (qD n a b (aH (a+1)) X)) (nU (.bK []) [.a 155 6 n (yj X')]):=by kernel_rfl
end
theorem MQ:∀(S:List bg) (x:bg),∃p,p<=S.length/\(∀y,y∈S.drop p->xu x y=true)/\(p=0\/xu x (fu S (p - 1))=false)/\ins S x=S.take p++x::S.drop p
 | [],x=>⟨0,ND _,λ y I=>(by cases I),wV rfl,rfl⟩
 |y::l,x=>by
  cases h:(y::l).all (xu x)
  .obtain⟨p,K,F,C,J⟩:=MQ l x;refine⟨p+1,by rw[aBz];omega,F,Gc ?_,?_⟩
   .show xu x (fu (y::l) p)=false;rcases C with C |C
    .subst C;have E:l.all (xu x)=true:=ab3.2 F;rw[aIk,E,aMo]at h;exact h
    .by_cases hp:p=0
     .subst hp;have E:l.all (xu x)=true:=ab3.2 F;rw[aIk,E,aMo]at h;exact h
     .obtain⟨q,rfl⟩:∃q,p=q+1:=⟨p - 1,by omega⟩;exact C
   .show cond ((y::l).all (xu x)) _ _=_;rw[h,eU,J];rfl
  .refine⟨0,alz _,ab3.1 h,wV rfl,?_⟩;show cond ((y::l).all (xu x)) _ _=_;rw[h];rfl
theorem KF{U V:List bg}{x:bg}:fu (U++x::V) U.length=x:=by unfold fu;rw[Gd,aqb (ND _),aIr];rfl
theorem aqK{U V:List bg}{x s:bg}(q:Nat):cond (q==U.length) x (cond (q==U.length+1) s (fu (U++s::x::V) q))=fu (U++x::s::V) q:=by
 by_cases E:q=U.length
 .subst E;rw[BEq.rfl,aY,KF]
 .rw[mI E,eU];by_cases C:q=U.length+1
  .subst C;rw[BEq.rfl,aY];have:U++x::s::V=(U++[x])++s::V:=by simp
   rw[this];have F:U.length+1=(U++[x]).length:=by simp
   rw[F,KF]
  .rw[mI C,eU];unfold fu;rw[Gd,Gd];by_cases h:q<U.length
   .rw[aiK h,aiK h]
   .rw[aqb (by omega),aqb (by omega)];obtain⟨r,hr⟩:∃r,q - U.length=r+2:=⟨q - U.length - 2,by omega⟩;rw[hr];rfl
theorem ahg{x y:bg}(C:aF x.i.t=false)(h:aF y.i.t=false):decide (mR x.i.t y.i.t<0)=xu x y:=by
 unfold mR xu;have e1:dR x.i.t x.i.t=true:=by rw[dU C C];simp
 have e2:dR y.i.t y.i.t=true:=by rw[dU h h];simp
 rw[e1,e2];cases dN x.i.t y.i.t
 .cases bW x.i.t y.i.t<;>rfl
 .rfl
def Cv(S T:List bg)(x:bg)(j:Nat):List bg:=S.take j++x::(S.drop j++T)
theorem mid_step{S T:List bg}{x:bg}{j:Nat}(C:0<j)(h:j<=S.length):∃U V,U.length=j - 1/\Cv S T x j=U++fu S (j - 1)::x::V/\Cv S T x (j - 1)=U++x::fu S (j - 1)::V:=by
 obtain⟨k,rfl⟩:∃k,j=k+1:=⟨j - 1,by omega⟩;refine⟨S.take k,S.drop (k+1)++T,by rw[aFk];show min k S.length=k;omega,?_,?_⟩
 .unfold Cv;rw[AP (by omega),aHN];rfl
 .unfold Cv;show S.take k++x::(S.drop k++T)=_;rw[aJl (show k<S.length by omega)];unfold fu;show _=S.take k++x::S.getD k dS::_;rw[Gd,Ga (by omega)];rfl
theorem Yj{n:Nat}{j:Nat}(C:j<n)(E:n<=1000):abC n 0 (j:Nat)=true:=by
 unfold abC Yk;by_cases h:0<j
 .rw[bZ C,pF,ZO,iU C,aO,show((j:Int) - 1)=((j - 1:Nat):Int) by omega,bZ (by omega),pF,ZO,iU (by omega)];rfl
 .have:j=0:=by omega
  subst this;rw[iH (show ¬((0:Nat):Int)>0 by omega)];simp
theorem ak0{n:Nat}{j:Nat}(E:0<j)(h:j<n)(C:n<=1000):abD n (j:Nat)=true:=by unfold abD lN;rw[bZ h,pF,aO,show((j:Int) - 1)=((j - 1:Nat):Int) by omega,bZ (by omega),pF,ZO,ZO,iU h,iU (by omega)];rfl
theorem GL:∀e,e∈[(⟨165,eSS λ x y=>iA (mR x.i.t y.i.t)⟩:Entry)]->jr bO e:=aL (axk scl) aB
theorem ak1{S T:List bg}{x:bg}{n:Nat}{b i:Int}(hn:S.length<n)(C:n<=1000)(hS:∀s,s∈S->aF s.i.t=false)(Z:aF x.i.t=false):∃Y:Int,fM 1 bO (.loop (av aH5 1)) (uP n 0 b i (S.length:Nat) (fu (S++x::T))) (.exit 2) (uP n 0 b i Y (fu (ins S x++T))):=by
 obtain⟨p,h1,h2,J,h4⟩:=MQ S x
 have gm:∀k,k<S.length->aF (fu S k).i.t=false:=λ k Q=>by refine hS _ ?_;unfold fu;rw[Gd,Ga Q];exact aJk _
 have F:∀j:Nat,j<=S.length->abI (λ x y=>mR x.i.t y.i.t) 0 (j:Nat) (fu (Cv S T x j))=cond (decide (0<j)) (xu x (fu S (j - 1))) false:=λ j W=>by
  unfold abI;by_cases N:0<j
  .obtain⟨U,V,I,e1,_⟩:=mid_step (T:=T) (x:=x) N W;rw[gG (show((j:Nat):Int)>0 by omega),gG N,aY,aY,pF,ZO,aO,show((j:Int) - 1)=((j - 1:Nat):Int) by omega,pF,ZO];have O:fu (Cv S T x j) (j - 1)=fu S (j - 1):=by rw[e1,<-I,KF]
   have g2:fu (Cv S T x j) j=x:=by
    unfold Cv;have M:(S.take j).length=j:=by rw[aFk];omega
    have:=KF (U:=S.take j) (V:=S.drop j++T) (x:=x);rw[M]at this;exact this
   rw[O,g2];exact ahg Z (gm _ (by omega))
  .rw[iH (show ¬((j:Nat):Int)>0 by omega),iH N];rfl
 refine⟨(p:Nat),?_⟩
 have h:fM 1 bO (.loop (av aH5 1)) (uP n 0 b i ((S.length - 0:Nat):Int) (fu (Cv S T x (S.length - 0)))) (.exit 2) (uP n 0 b i (p:Nat) (fu (Cv S T x p))):=by
  refine aP (λ k=>uP n 0 b i ((S.length - k:Nat):Int) (fu (Cv S T x (S.length - k)))) (S.length - p) (.exit 2) _ (by simp) (λ k Q=>?_) ?_
  .generalize W:S.length - k=j;have E:0<j:=by omega
   have hjp:p<j:=by omega
   obtain⟨U,V,I,e1,e2⟩:=mid_step (T:=T) (x:=x) E (show j<=S.length by omega);have K:=abJ (λ x y=>mR x.i.t y.i.t) n 0 b i (j:Nat) (fu (Cv S T x j));unfold UW at K
   have hb:xu x (fu S (j - 1))=true:=by
    refine h2 _ ?_;unfold fu;rw[Gd,Ga (by omega)];show S[j - 1]∈_;have:(S.drop p)[j - 1 - p]?=some S[j - 1]:=by rw[List.getElem?_drop,show p+(j - 1 - p)=j - 1 by omega,Ga (by omega)]
    exact ajw this
   rw[Yj (by omega) C,F j (by omega),gG E,aY,aY,hb,aY,ak0 E (by omega) C,aY]at K;refine(fT (fA Ac (τ:=[some 0]) (by rfl)) GL ay aV bN K).sub (fQ.refl _) ?_;rw[aO,show((j:Int) - 1)=((S.length - (k+1):Nat):Int) by omega,show S.length - (k+1)=j - 1 by omega];refine ig ⟨Gc ⟨155,6,n,_,_,rfl,rfl,λ q hq=>?_⟩,trivial⟩;unfold iiE;rw[aO,pF,ZO,show((j:Int) - 1)=((j - 1:Nat):Int) by omega,pF,ZO,Ll,Ll];refine congrArg bg.c (show fu (Cv S T x (j - 1)) q=_ from ?_);rw[e1,e2];have O:fu (U++fu S (j - 1)::x::V) (j - 1)=fu S (j - 1):=by rw[<-I,KF]
   have g2:fu (U++fu S (j - 1)::x::V) j=x:=by
    have:U++fu S (j - 1)::x::V=(U++[fu S (j - 1)])++x::V:=by simp
    rw[this];have M:(U++[fu S (j - 1)]).length=j:=by rw[aiR,I];show j - 1+1=j;omega
    have:=KF (U:=U++[fu S (j - 1)]) (V:=V) (x:=x);rw[M]at this;exact this
   rw[O,g2];have:=aqK (U:=U) (V:=V) (x:=x) (s:=fu S (j - 1)) q;rw[I,show j - 1+1=j by omega]at this;exact this.symm
  .rw[show S.length - (S.length - p)=p by omega];refine fT (fC Ac (τ:=[some 0]) (by rfl)) GL ay aV bN ((ahh (λ x y=>mR x.i.t y.i.t) n 0 b i (p:Nat) (fu (Cv S T x p))).trans ?_);unfold UW;rw[Yj (by omega) C,F p h1,aY];rcases J with J |J
   .subst J;rfl
   .rw[J];cases decide (0<p)<;>rfl
 rw[Nat.sub_zero]at h;have e1:Cv S T x S.length=S++x::T:=by unfold Cv;rw[aIx,aKF];rfl
 have e2:Cv S T x p=ins S x++T:=by unfold Cv;rw[h4,aHN];rfl
 rw[e1,e2]at h;exact h
theorem xw{np:Nat}{P:Program}{c:Code}:o7 np P c (λ _ _=>none):=⟨λ s k r h=>(by cases h),λ s E e C=>(by have:=C (λ _ _=>some ⟨.normal,s,.any⟩);cases this)⟩
theorem aqL:∀(S:List bg) (x:bg),(ins S x).length=S.length+1:=λ S x=>by obtain⟨p,C,_,_,h⟩:=MQ S x;rw[h,aiR,aBz,aFk,List.length_drop];omega
theorem aqM{S:List bg}{x y:bg}(h:y∈ins S x):y=x\/y∈S:=by
 obtain⟨p,E,_,_,C⟩:=MQ S x;rw[C]at h;rcases aIm.1 h with h |h
 .exact Gc (List.mem_of_mem_take h)
 .rcases aHJ.1 h with h |h
  .exact wV h
  .exact Gc (List.mem_of_mem_drop h)
def mH(L:List bg):List bg:=L.foldl ins []
theorem Jf{L:List bg}{k:Nat}(h:k<L.length):mH (L.take (k+1))=ins (mH (L.take k)) (fu L k):=by unfold mH;rw[AP h,aMR];rfl
theorem UY(L:List bg):∀k,k<=L.length->(mH (L.take k)).length=k
 | 0,_=>rfl
 |k+1,hk=>by rw[Jf (by omega),aqL,UY L k (by omega)]
theorem ae0{L:List bg}{y:bg}:∀k,k<=L.length->y∈mH (L.take k)->y∈L
 | 0,_,h=>by cases h
 |k+1,hk,h=>by
  rw[Jf (by omega)]at h;rcases aqM h with h |h
  .rw[h];unfold fu;rw[Gd,Ga (by omega)];exact aJk _
  .exact ae0 k (by omega) h
theorem ae1{L:List bg}{k:Nat}(h:k<L.length):L.drop k=fu L k::L.drop (k+1):=by rw[aJl h];unfold fu;rw[Gd,Ga h];rfl
theorem ak2{L:List bg}(K:0<L.length)(N:L.length<=1000)(J:∀s,s∈L->aF s.i.t=false):fM 1 bO (.loop (av aH5 0)) (qD L.length 0 L.length 1 (fu L)) (.exit 0) (qD L.length 0 L.length L.length (fu (mH L))):=by
 have h:fM 1 bO (.loop (av aH5 0)) (qD L.length 0 L.length ((0+1:Nat):Int) (fu (mH (L.take (0+1))++L.drop (0+1)))) (.exit 0) (qD L.length 0 L.length (L.length:Nat) (fu (mH L))):=by
  refine aP (λ k=>qD L.length 0 L.length ((k+1:Nat):Int) (fu (mH (L.take (k+1))++L.drop (k+1)))) (L.length - 1) (.exit 0) _ (by simp) (λ k O=>?_) ?_
  .have C:k+1<L.length:=by omega
   have E:=UY L (k+1) (by omega)
   obtain⟨M,I⟩:=ak1 (S:=mH (L.take (k+1))) (T:=L.drop (k+1+1)) (x:=fu L (k+1)) (n:=L.length) (b:=L.length) (i:=((k+1:Nat):Int)) (by omega) N (λ s hs=>J s (ae0 _ (by omega) hs)) (J _ (by unfold fu;rw[Gd,Ga C];exact aJk _))
   rw[E,<-ae1 C,<-Jf C]at I;refine fT (fA vW (τ:=[some 0]) (by rfl)) GL ay aV (iW (c:=av aH5 0) (i:=4) 1 (by kernel_rfl) λ j F _=>?_) ((abB (λ x y=>mR x.i.t y.i.t) L.length 0 L.length ((k+1:Nat):Int) (fu (mH (L.take (k+1))++L.drop (k+1))) (fu (mH (L.take (k+1+1))++L.drop (k+1+1))) M).trans ?_)
   .have:j=0:=by omega
    subst this;exact fq (by rfl) I
   .rw[bI C,ak (fQ.refl _),aQ (by omega)];rfl
  .have e1:L.length - 1+1=L.length:=by omega
   have e2:mH (L.take (L.length - 1+1))++L.drop (L.length - 1+1)=mH L:=by rw[e1,aIx,aKF,aJS]
   show fM 1 bO _ (qD L.length 0 L.length ((L.length - 1+1:Nat):Int) (fu (mH (L.take (L.length - 1+1))++L.drop (L.length - 1+1)))) _ _;rw[e2,e1];refine fT (fC vW (τ:=[some 0]) (by rfl)) GL ay aV (iW (c:=av aH5 0) (i:=4) 1 (by kernel_rfl) λ j F _=>?_) ((RU (λ x y=>mR x.i.t y.i.t) L.length 0 L.length (L.length:Nat) (fu (mH L))).trans ?_)
   .exact xw
   .rw[bJ,eU]
 have e0:mH (L.take (0+1))++L.drop (0+1)=L:=by rw[Jf K];show ins [] (fu L 0)++L.drop (0+1)=L;show fu L 0::L.drop (0+1)=L;rw[<-ae1 K];rfl
 rw[e0]at h;exact h
theorem aqN{L:List bg}(F:0<L.length)(C:L.length<=1000)(E:∀s,s∈L->aF s.i.t=false):dJ bO 201 [.bQ 0 6 0 L.length,iA 0,iA L.length,jE] [BU L] (.bK []) [.a 155 6 L.length (mF (mH L))]:=by
 refine rZ (mem:=[BU L]) GL ay aV aN0 (iW (c:=dH aH5) (i:=1) 2 (by kernel_rfl) λ j I h=>?_) (by kernel_rfl) ((Yi (λ x y=>mR x.i.t y.i.t) L.length 0 L.length L.length (fu L) (fu (mH L))).trans ?_)
 .have:j=0\/j=1:=by omega
  rcases this with rfl |rfl
  .exact fq (by rfl) (ak2 F C E)
  .exact absurd h (by decide)
 .rw[ak (fQ.refl _)];rfl
theorem ak3{L:List bg}(a b:Int)(h:¬aH (a+1)<b):dJ bO 201 [.bQ 0 6 0 L.length,iA a,iA b,jE] [BU L] (.bK []) [BU L]:=by
 refine rZ (mem:=[BU L]) GL ay aV aN0 (iW (c:=dH aH5) (i:=1) 2 (by kernel_rfl) λ j E C=>?_) (by kernel_rfl) ((Yi (λ x y=>mR x.i.t y.i.t) L.length a b (aH (a+1)) (fu L) (fu L)).trans ?_)
 .have:j=0\/j=1:=by omega
  rcases this with rfl |rfl
  .refine fq (by rfl) (aP (λ _=>qD L.length a b (aH (a+1)) (fu L)) 0 (.exit 0) _ (by simp) (λ j E=>absurd E (avm j)) ?_);refine fT (fC vW (τ:=[some 0]) (by rfl)) GL ay aV (iW (c:=av aH5 0) (i:=4) 1 (by kernel_rfl) λ j F _=>?_) ((RU (λ x y=>mR x.i.t y.i.t) L.length a b (aH (a+1)) (fu L)).trans ?_)
   .exact xw
   .rw[iH h,eU]
  .exact absurd C (by decide)
 .rw[ak (fQ.refl _)];rfl
abbrev SG:Type:=Nat->(Nat->List AV)->Int->Int->Nat->bg
def aCZ(f:Nat)(G:SG):List AV->List Row->Option (Bool × AV × List Row)
 | [.bQ 0 6 0 m,.x (.int .i64 a),.x (.int .i64 b),g],[.a e sz n el]=>some (jv (dJ bO f [.bQ 0 6 0 m,iA a,iA b,g] [.a e sz n el] (.bK []) [.a 155 6 n (yj (G n el a b))]),.bK [],[.a 155 6 n (yj (G n el a b))])
 |_,_=>none
def mSr(f:Nat)(G:SG):dZ:=⟨f,liftM (some 0) (aCZ f G),none⟩
theorem OZ{f:Nat}{G:SG}:oN bO (mSr f G):=by
 refine⟨Jp λ F M v E C=>?_,λ _ h=>by cases h⟩;unfold aCZ at C;split at C
 .simp only[gU,Ew]at C;obtain⟨K,rfl,rfl⟩:=C;refine⟨qU K,λ i J I=>?_⟩;have:i=0:=by simpa using J
  subst this;exact absurd rfl I
 .cases C
def mqB(f:Nat)(G:SG)(n:Nat)(X:Nat->bg)(a b:Int):Bool:=(jv (dJ bO f [.bQ 0 6 0 n,iA a,iA b,jE] [.a 155 6 n (yj X)] (.bK []) [.a 155 6 n (yj (G n (yj X) a b))])&&(Tv 0 (0+n)&&true))||false
def jG(n:Nat)(a b:Int)(X:Nat->bg):St:=mkS 63 [(0,.bQ 0 6 0 n),(1,iA n),(2,jE),(6,iA 20),(7,iA a),(8,iA b)] [.a 155 6 n (yj X)]
def Bz:List Nat:=[0,1,2,6,7,8]
section
variable(G:SG)(n:Nat)(a b:Int)(X:Nat->bg)
theorem arz:qO bO [] [] [mSr 201 G] bC (av aIQ 0) (jG n a b X) (gu Bz [some 0])=cond (decide (b<=n)) (cond (mqB 201 G n X a b) (some ⟨.normal,jG n b (aH (b+20)) (G n (yj X) a b),.any⟩) none) none:=by kernel_rfl
theorem al8:qO bO [] [] [mSr 201 G] bC (av aIQ 0) (jG n a b X) (iG Bz [some 0])=cond (decide (b<=n)) (cond (mqB 201 G n X a b) none none) (some ⟨.exit 0,jG n a b X,.any⟩):=by kernel_rfl
def s2L(h C:Int)(X':Nat->bg):Nat->Option dY:=aly 2 (jS 1 Bz [some 0] (jG n 0 20 X) (.exit 0) (jG n h C X')) 7 (jS 1 Bz [some 0] (jG n h C (G n (yj X') h n)) (.exit 2) (jG n h C (G n (yj X') h n)))
theorem al9(h C:Int)(X':Nat->bg):evG bO [] [] [mSr 201 G] (s2L G n X h C X') aIQ [.bQ 0 6 0 n,iA n,jE] [.a 155 6 n (yj X)] [some 0] =
  gate (fQ 1 (jG n 0 20 X) (jG n 0 20 X)) (cond (mqB 201 G n X' h n) (gate (fQ 1 (jG n h C (G n (yj X') h n)) (jG n h C (G n (yj X') h n))) (nU (.bK []) [.a 155 6 n (yj (G n (yj X') h n))])) none):=by kernel_rfl
theorem ayn:qO bO [] [] [mSr 201 G] (eZ 9 λ _ _=>none) (av aIQ 1) (jG n a b X) (iG Bz [some 0])=cond (decide ((20:Int)<n)) none (some ⟨.exit 2,jG n a b X,.any⟩):=by kernel_rfl
end
theorem ama{np:Nat}{P:Program}{c:Code}{L:Nat->Option dY}(m:Nat)(C:(bL c).length=m)(h:∀j,j<m->∀i g,jI ((bL c).getD j .skip)=some i->L i=some g->o7 np P ((bL c).getD j .skip) g):nT np P L c:=by
 intro J I i g F hg;obtain⟨j,E,rfl⟩:=aKh.1 I;have e2:(bL c).getD j .skip=(bL c)[j]:=by rw[Gd,Ga E];rfl
 have:=h j (by omega) i g (by rw[e2];exact F) hg;rw[e2]at this;exact this
def srG(n:Nat)(el:Nat->List AV)(a _b:Int):Nat->bg:=cond (a==0) (fu (mH (pG n el))) (fu (pG n el))
theorem amb(L:List bg)(b:Int):srG L.length (yj (fu L)) 0 b=fu (mH L):=by show fu (mH (pG L.length (mF L)))=_;rw[vH]
theorem YQ(L:List bg):(mH L).length=L.length:=by have:=UY L L.length (ND _);rw[aIx]at this;exact this
theorem amc{L:List bg}(h:L.length=20)(b:Int):srG 20 (yj (fu L)) 20 b=fu L:=by show fu (pG 20 (mF L))=_;rw[<-h,vH]
theorem aC0{L:List bg}(E:0<L.length)(h:L.length<=1000)(C:∀s,s∈L->aF s.i.t=false):mqB 201 srG L.length (fu L) 0 L.length=true:=by unfold mqB;rw[amb,jl (show dJ bO _ [.bQ 0 6 0 L.length,iA 0,iA L.length,jE] [.a 155 6 L.length (yj (fu L))] (.bK []) [.a 155 6 L.length (yj (fu (mH L)))] from aqN E h C),iU (by omega)];rfl
theorem amd{n:Nat}(C:n<=20)(a b:Int)(X:Nat->bg):fM 1 bO (.loop (av aIQ 1)) (jG n a b X) (.exit 2) (jG n a b X):=by refine aP (λ _=>jG n a b X) 0 (.exit 2) _ (by simp) (λ j h=>absurd h (avm j)) ?_;refine fT (fC Bz (τ:=[some 0]) (by rfl)) aB ay (gK OZ aV) (iW (c:=av aIQ 1) (i:=9) 1 (by kernel_rfl) λ _ _ _=>xw) ((ayn srG n a b X).trans ?_);rw[iH (by omega),eU]
theorem auN{n:Nat}(F:n<=20){X X':Nat->bg}{h C:Int}(J:fM 1 bO (.loop (av aIQ 0)) (jG n 0 20 X) (.exit 0) (jG n h C X'))(I:mqB 201 srG n X' h n=true) :
  dJ bO 187 [.bQ 0 6 0 n,iA n,jE] [.a 155 6 n (yj X)] (.bK []) [.a 155 6 n (yj (srG n (yj X') h n))]:=by
 refine rZ (mem:=[.a 155 6 n (yj X)]) aB ay (gK OZ aV) Tryz.func187 (ama (c:=dH aIQ) (L:=s2L srG n X h C X') 3 (by kernel_rfl) λ j K i g E hg=>?_) (by kernel_rfl) ((al9 srG n X h C X').trans ?_)
 .have:j=0\/j=1\/j=2:=by omega
  rcases this with rfl |rfl |rfl
  .have e:i=2:=aKf (E.symm.trans (by decide));subst e;cases hg;exact fq (by rfl) J
  .have e:i=7:=aKf (E.symm.trans (by decide));subst e;cases hg;exact fq (by rfl) (amd F h C _)
  .have e:i=9:=aKf (E.symm.trans (by decide));subst e;cases hg
 .rw[ak (fQ.refl _),I,aY,ak (fQ.refl _)]
theorem acu{L:List bg}(M:0<L.length)(I:L.length<=20)(K:∀s,s∈L->aF s.i.t=false):dJ bO 187 [.bQ 0 6 0 L.length,iA L.length,jE] [BU L] (.bK []) [.a 155 6 L.length (mF (mH L))]:=by
 by_cases h:L.length<20
 .have F:fM 1 bO (.loop (av aIQ 0)) (jG L.length 0 20 (fu L)) (.exit 0) (jG L.length 0 20 (fu L)):=by refine aP (λ _=>jG L.length 0 20 (fu L)) 0 (.exit 0) _ (by simp) (λ j J=>absurd J (avm j)) ?_;refine fT (fC Bz (τ:=[some 0]) (by rfl)) aB ay (gK OZ aV) bN ((al8 srG L.length 0 20 (fu L)).trans ?_);rw[iH (show ¬(20:Int)<=L.length by omega),eU]
  have:=auN I F (aC0 M (by omega) K);rw[amb]at this;exact this
 .have e:L.length=20:=by omega
  have C:(mH L).length=20:=by rw[YQ,e]
  have F:fM 1 bO (.loop (av aIQ 0)) (jG L.length 0 20 (fu L)) (.exit 0) (jG L.length 20 40 (fu (mH L))):=by
   refine aP (λ k=>cond (k==0) (jG L.length 0 20 (fu L)) (jG L.length 20 40 (fu (mH L)))) 1 (.exit 0) _ (by simp) (λ j J=>?_) ?_
   .have:j=0:=by omega
    subst this;refine fT (fA Bz (τ:=[some 0]) (by rfl)) aB ay (gK OZ aV) bN ((arz srG L.length 0 20 (fu L)).trans ?_);have hq:=aC0 M (by omega) K;rw[show((L.length:Nat):Int)=20 by omega]at hq;rw[gG (show(20:Int)<=L.length by omega),aY,hq,aY,amb];rfl
   .refine fT (fC Bz (τ:=[some 0]) (by rfl)) aB ay (gK OZ aV) bN ((al8 srG L.length 20 40 (fu (mH L))).trans ?_);rw[iH (show ¬(40:Int)<=L.length by omega),eU]
  have hq:mqB 201 srG L.length (fu (mH L)) 20 L.length=true:=by
   unfold mqB;have E:=ak3 (L:=mH L) 20 20 (by decide);rw[e,amc C];rw[C]at E
   have N:dJ bO 201 [.bQ 0 6 0 20,iA 20,iA ((20:Nat):Int),jE] [.a 155 6 20 (yj (fu (mH L)))] (.bK []) [.a 155 6 20 (yj (fu (mH L)))]:=by unfold BU at E;rw[C]at E;exact E
   rw[jl N];rfl
  have:=auN I F hq;rw[e]at this ⊢;rw[amc C]at this;unfold BU;rw[e];exact this
abbrev SH2:Type:=Nat->(Nat->List AV)->Nat->bg
def stC(f:Nat)(G:SH2):List AV->List Row->Option (Bool × AV × List Row)
 |.bQ 0 6 0 m::rest,[.a e sz n el]=>some (jv (dJ bO f (.bQ 0 6 0 m::rest) [.a e sz n el] (.bK []) [.a 155 6 n (yj (G n el))]),.bK [],[.a 155 6 n (yj (G n el))])
 |_,_=>none
def mSt(f:Nat)(G:SH2):dZ:=⟨f,liftM (some 0) (stC f G),none⟩
theorem al4{f:Nat}{G:SH2}:oN bO (mSt f G):=by
 refine⟨Jp λ F M v E C=>?_,λ _ h=>by cases h⟩;unfold stC at C;split at C
 .simp only[gU,Ew]at C;obtain⟨K,rfl,rfl⟩:=C;refine⟨qU K,λ i J I=>?_⟩;have:i=0:=by simpa using J
  subst this;exact absurd rfl I
 .cases C
def mtB(f:Nat)(G:SH2)(n:Nat)(X:Nat->bg)(h:List AV):Bool:=(jv (dJ bO f (.bQ 0 6 0 n::h) [.a 155 6 n (yj X)] (.bK []) [.a 155 6 n (yj (G n (yj X)))])&&(Tv 0 (0+n)&&true))||false
theorem aC1(G:SH2)(n:Nat)(X:Nat->bg):evG bO [] [] [mSt 187 G] bC Tryz.f164 [.bQ 0 6 0 n,jE] [.a 155 6 n (yj X)] [some 0]=cond (mtB 187 G n X [iA n,jE]) (nU (.bK []) [.a 155 6 n (yj (G n (yj X)))]) none:=by kernel_rfl
def srD:SH2:=λ n el=>fu (mH (pG n el))
theorem acs(L:List bg):srD L.length (yj (fu L))=fu (mH L):=by show fu (mH (pG L.length (mF L)))=_;rw[vH]
theorem aCW{f:Nat}{L:List bg}{C:List AV}(E:0<L.length)(h:dJ bO f (.bQ 0 6 0 L.length::C) [BU L] (.bK []) [.a 155 6 L.length (mF (mH L))]):mtB f srD L.length (fu L) C=true:=by unfold mtB;rw[acs,jl (show dJ bO f (.bQ 0 6 0 L.length::C) [.a 155 6 L.length (yj (fu L))] (.bK []) [.a 155 6 L.length (yj (fu (mH L)))] from h),iU (by omega)];rfl
theorem arv{L:List bg}(C:0<L.length)(E:L.length<=20)(F:∀s,s∈L->aF s.i.t=false):dJ bO 164 [.bQ 0 6 0 L.length,jE] [BU L] (.bK []) [.a 155 6 L.length (mF (mH L))]:=by refine rZ (mem:=[BU L]) aB ay (gK al4 aV) Tryz.func164 (λ _ _ _ _ _ h=>by cases h) (by kernel_rfl) ((aC1 srD L.length (fu L)).trans ?_);rw[aCW C (acu C E F),aY,acs];rfl
end Go.Proofs.YtdlhemnconimnaaGreat.Hs.So
end
