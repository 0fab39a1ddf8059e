/- Texts, one behind the other. -/
import Derived.Test.YtdlhemnconimnaaGreatC4
import Derived.WalkKit
import Derived.Test.YtdlhemnconimnaaGreatC5
import Derived.Laws.Externs
open BEq renaming rfl->aHX
open BitVec renaming ofInt->aIz,toNat_ofInt->aMc
open Bool renaming and_eq_true->CX,false_eq_true->aFs
open Go.Code renaming wp_mono->aza
open Go.Extern.MathBitsCarry renaming m64->aJI,pair->aMu,three->aMt
open Go.Extern.MathFloor renaming toIntegral->aG9
open Go.FloatKind renaming f64->aHQ
open Go.IntKind renaming i64->aHy,u64->aBh
open Go.Proofs.Tryz renaming f134->aIg,f163->aLK,f186->aOD,f311->aKU,f312->aKV,f314->aKo,f324->aKT,f325->aKn,f326->aIs,f327->aKR,f329->aKS,f330->aKQ,f86->aHZ,f92->aNL,func132->aN1,func134->aLL,func163->aKB,func186->aKA,func315->aLN,func316->aN4,func317->aJf,func325->aN3,func326->aLM,func85->aMs,ntmps186->aNK,prog->bO,t155->aNm
open Int renaming add_zero->aHV,le_refl->af2,mul_le_mul_of_nonneg_right->aI0,natAbs_mul->aHq,natAbs_natCast->aHz,natAbs_neg->aJD,natCast_add->aJX,natCast_mul->aI6,natCast_nonneg->avq,sign_eq_zero_iff_zero->aHS,toNat_natCast->pF,toNat_of_nonneg->aH2,zero_add->aOj
open List renaming all_eq_true->ab3,getD_eq_getElem?_getD->Gd,getElem?_map->aG1,length_append->aiR,length_eq_zero_iff->aH8,length_set->aNn,mem_append_left->aH6,mem_append_right->aHt,mem_cons->aHJ,mem_cons_self->aD0,mem_flatMap->aIa,mem_of_getElem?->ajw
open Nat renaming add_assoc->aIW,add_comm->aI1,add_le_add_right->aMr,add_mod->aMI,add_mul->auK,add_mul_div_left->aHG,add_sub_cancel->aIj,add_zero->aIA,beq->amH,beq_refl->aIC,ble->apB,ble_eq_true_of_le->agl,blt->Tv,div_add_mod->aEO,div_div_eq_div_mul->aBu,div_eq_of_lt->aHw,div_le_div_right->aJd,div_lt_iff_lt_mul->aHr,div_one->aJe,dvd_trans->aN2,eq_of_beq_eq_true->aiL,eq_zero_or_pos->aMS,le_antisymm->aNz,le_div_iff_mul_le->axF,le_log2->aJq,le_of_ble_eq_true->Ou,le_of_lt->aHR,le_refl->ND,le_trans->aa2,log2_lt->aNJ,log2_self_le->aHK,lt_log2_self->aId,lt_of_lt_of_le->anS,lt_or_ge->aH9,lt_trichotomy->aJQ,min_eq_left->aJH,min_le_left->aK4,min_le_right->aI8,mod_eq_of_lt->aG8,mod_lt->aHY,mod_one->aJC,mul_add->aHx,mul_assoc->arA,mul_comm->aEw,mul_div_cancel->aJm,mul_le_mul->aHI,mul_le_mul_left->apL,mul_le_mul_right->ahL,mul_lt_mul_right->aMp,mul_one->aHo,mul_pos->aLG,mul_right_comm->aMT,mul_zero->aMb,not_lt_zero->avm,one_mul->aHp,pow_add->ahO,pow_dvd_pow->aNA,pow_le_pow_right->agX,pow_succ->aBg,pow_zero->axO,shiftLeft_eq->aG6,shiftRight_eq_div_pow->aLc,sub_zero->aKm,two_pow_pos->aaZ,xor_mod_two_pow->aMH,zero_add->ZO,zero_div->aK9,zero_le->alz,zero_mul->aH1
open Option renaming getD_none->aFz,getD_some->apP,map_some->aaF
open Option.some renaming injEq->gU
open Or renaming inl->wV,inr->Gc
open Prod.mk renaming injEq->Ew
namespace Go.Proofs.YtdlhemnconimnaaGreat.Hs.So
open Go.RowKit Go.Gv
theorem ay9:(bO.info? 155).map (λ i=>(i.zero,i.size,i.bytes))=some (some (.agg #[.float .f64 0,.int .i64 0,.bool false,.float .f64 0,.int .i64 0,.bool false]),6,48):=by kernel_rfl
theorem aDK:aNm.bytes=48:=by kernel_rfl
def gwC(n c:Nat):Array Value:=Builtin.zeroCells #[.float .f64 0,.int .i64 0,.bool false,.float .f64 0,.int .i64 0,.bool false] n++Builtin.zeroCells #[.float .f64 0,.int .i64 0,.bool false,.float .f64 0,.int .i64 0,.bool false] (c - n)
set_option maxHeartbeats 1600000 in
set_option maxRecDepth 1000000 in
theorem ahU(n:Nat)(w:World)(E:0<n)(z:n<=1000) :
  Calls bO 186 #[.slice none 0 0,.int .i64 n] w λ e w'=>e=.returned (.slice (some ⟨w.heap.size,0,none⟩) 0 (grownCap w n 0 155))/\w'=(w.alloc (.cells (gwC n (grownCap w n 0 155)) 155)).drew:=by
 obtain⟨H,I,t,o,d⟩:=info_parts ay9;have e1:(0:Int)<=↑n:=by omega
 have e2:¬n=0:=by omega
 have e3:¬ 281474976710656<Builtin.nextslicecap n 0*aNm.bytes:=by rw[nextslicecap_zero E,aDK];omega
 have e4:¬n*6=0:=by omega
 have e5:(n:Int)*(aNm.bytes:Int)<=281474976710656:=by rw[aDK];omega
 have e6:(n:Int)<=9223372036854775807:=by omega
 have K:¬(n:Int)<0:=by omega
 have J:(0:Int)<n:=by omega
 clear z
 go_enter aKA,aNK
 go_wp2
 go_ret
 exact⟨rfl,rfl⟩
theorem amP(n c:Nat)(h:n<=c):(gwC n c).size=c*6:=by unfold gwC;rw[Array.size_append,size_zeroCells,size_zeroCells];show n*6+(c - n)*6=c*6;omega
theorem Ua(n:Nat)(h1:0<n)(h2:n<=1000)(el:Nat->List AV):dJ bO 186 [.x (.slice none 0 0),iA n] [] (.bQ 0 6 0 0) [.a 155 6 0 el]:=by
 refine⟨⟨aOD,aKA,by kernel_rfl,by kernel_rfl⟩,λ R E bG hp U hg o=>?_⟩
 have hc:bG=#[.slice none 0 0,.int .i64 n]:=by obtain⟨u,us,e0,Q,o⟩:=aD.1 o;obtain⟨u',K,e1,M,o⟩:=aD.1 o;have e2:=bR.1 o;subst e2 e1;rw[cB.1 Q,cB.1 M]at e0;apply Array.ext';rw[e0]
 subst hc;refine(ahU n E.w h1 h2).mono ?_;rintro e w' ⟨rfl,rfl⟩;have H:=grownCap_ge E.w n 0 155;have t:=grownCap_le_maxLen E.w n 0 155 (by simp only[maxLen];omega);generalize grownCap E.w n 0 155=c at *;have z:E.w.grownBy (E.w.alloc (.cells (gwC n c) 155)).drew (some E.w.heap.size):=⟨rfl,rfl,rfl,by simp,λ k I _=>heap_alloc_old E.w _ I⟩;have d:(E.w.alloc (.cells (gwC n c) 155)).drew.heap[E.w.heap.size]?=some (.cells (gwC n c) 155 (0,0)):=heap_alloc_new E.w _;have Z:E.O 0=none:=hp.1 0 (ND _);refine⟨_,E.row _ 0 E.w.heap.size (c,0),rfl,rfl,U.row z (Array.getElem?_eq_some_iff.1 d).1 (Gc (ND _)) (Gc (ND _)) (wV Z) rfl (λ k I b cc J=>?_) ⟨gwC n c,d,amP n c H,rfl,alz _,t,λ i S=>absurd S (avm i)⟩,dV.2 (Gc ⟨E.w.heap.size,c,0,by simp[Env.row],ND _,alz _,by simp⟩)⟩;rw[hp.1 k (alz _)]at J;cases J
open Go.Ev (cn aM aU aX fdiv bD dG dR dN iB bW iL fabs aF key bS cZ dU)
noncomputable def gwE:dZ:=mN bO 186 (λ _=>.bQ 0 6 0 0) (λ _=>[.a 155 6 0 (yj λ _=>dS)])
noncomputable def gwB(n:Int):Bool:=(jv (dJ bO 186 [.x (.slice none 0 0),iA n] [] (.bQ 0 6 0 0) [.a 155 6 0 (yj λ _=>dS)])&&true)||false
def acB(n m:Nat):Bool:=((n==n)&&(Tv 0 m&&(TL m (λ _=>true)&&apB ((n+m)*48) 140737488355328)))||false
def xE(p:Option Addr)(c:Nat):AV:=.x (.slice p 0 c)
section
variable(A B:List bg)(p p':Option Addr)(c c':Nat)
noncomputable def ccZ(a b:Int)(o:Option Out):Option Out:=cond (decide (aH (0+a)<0)) none (cond (decide (aH (aH (0+a)+b)<0)) none (cond (gwB (aH (aH (0+a)+b))) o none))
theorem avy:evG bO [] [] [gwE] bC aLK [.sl 1 2 (chunk [jX A,jX B] 1)] [] [some 2]=ccZ A.length B.length (cond (acB 0 A.length) (cond (acB (0+A.length) B.length) (nU (.bQ 0 6 0 (0+A.length+B.length)) [.a 155 6 (0+A.length+B.length) λ q=>bM (Tv q (0+A.length)) (bM (Tv q 0) dS.c (mF A (q - 0))) (mF B (q - (0+A.length)))]) none) none):=by kernel_rfl
theorem avz:evG bO [] [] [gwE] bC aLK [.sl 1 2 (chunk [xE p c,jX B] 1)] [] [some 1]=ccZ ((0:Nat):Int) B.length (cond (acB 0 B.length) (nU (.bQ 0 6 0 (0+B.length)) [.a 155 6 (0+B.length) λ q=>bM (Tv q 0) dS.c (mF B (q - 0))]) none):=by kernel_rfl
theorem avA:evG bO [] [] [gwE] bC aLK [.sl 1 2 (chunk [jX A,xE p c] 1)] [] [some 1]=ccZ A.length ((0:Nat):Int) (cond (acB 0 A.length) (nU (.bQ 0 6 0 (0+A.length)) [.a 155 6 (0+A.length) λ q=>bM (Tv q 0) dS.c (mF A (q - 0))]) none):=by kernel_rfl
end
def exR(n:Nat)(X:Nat->bg)(i:Int)(m:Nat)(el:Nat->List AV):St:=mkS 57 [(6,.bQ 1 6 0 m),(16,.bQ 0 6 0 n),(17,iA n),(18,iA i)] [.a 155 6 n (yj X),.a 155 6 m el]
def exS(n:Nat)(X:Nat->bg)(i:Int)(R:List bg):St:=exR n X i R.length (mF R)
def CS:List Nat:=[6,16,17,18]
def uU(m:Nat):Int:=aH ((m:Int) - 1)
def gF(b:Bool):Bool:=!(decide (b=false)&&true)
section
variable(lf:jH->jH->jH)(n:Nat)(X:Nat->bg)(i:Int)(R:List bg)
def exG:Bool:=(iP (uU R.length) R.length||gF (decide (uU R.length<0)))&&((Tv (0+(uU R.length).toNat) R.length||gF (decide (uU R.length<0)))&&true)
def exT(s:bg):Bool:=cond (decide (uU R.length<0)) true (bW s.i.t (fu R (0+(uU R.length).toNat)).o.t)
def exW:Bool:=(iP (uU R.length) R.length||false)&&((lN (uU R.length) R.length)&&((iP (uU R.length) R.length||false)&&((lN (uU R.length) R.length)&&true)))
def exC(o t d:Option Out):Option Out:=cond (decide (i<n)) (cond (iP i n||false) (cond (lN i n) (cond (exG R) (cond (exT R (X (0+i.toNat))) (cond (Qz R.length 48||false) o none) (cond (exW R) t none)) none) none) none) d
theorem avJ:qO bO [⟨161,eCC λ a b=>(lf a b).v⟩] [] [] bC (av aIg 0) (exS n X i R) (QF 5 CS [some 0,some 4])=exC n X i R (some ⟨.normal,exR n X (aH (i+1)) (R.length+1) λ q=>bM (Tv q R.length) (mF R q) (X (0+i.toNat)).c,.any⟩) none none:=by kernel_rfl
theorem avK:qO bO [⟨161,eCC λ a b=>(lf a b).v⟩] [] [] bC (av aIg 0) (exS n X i R) (QF 3 CS [some 0,some 1])=exC n X i R none (some ⟨.normal,exR n X (aH (i+1)) R.length λ q=>bM (q==0+(uU R.length).toNat) (⟨(fu R (0+(uU R.length).toNat)).i,lf (fu R (0+(uU R.length).toNat)).o (X (0+i.toNat)).o⟩:bg).c (mF R q),.any⟩) none:=by kernel_rfl
theorem avL:qO bO [⟨161,eCC λ a b=>(lf a b).v⟩] [] [] bC (av aIg 0) (exS n X i R) (iG CS [some 0,some 1])=exC n X i R none none (some ⟨.exit 0,exS n X i R,.any⟩):=by kernel_rfl
end
def Ra:dZ:=⟨aeb 207,λ _ _ _=>none,none⟩
theorem WZ:oN bO Ra:=⟨⟨λ _ _ _ _ h=>(by cases h),λ _ _ _ _ _ _ h=>(by cases h)⟩,λ _ h=>(by cases h)⟩
section
variable(lf:jH->jH->jH)(G:SH2)(x y:AV)(A B C R:List bg)
noncomputable def ccE(C:List bg):dZ:=mN bO 163 (λ _=>.bQ 0 6 0 C.length) (λ _=>[BU C])
noncomputable def ccB(x y:AV)(C:List bg):Bool:=(jv (dJ bO 163 [.sl 1 2 (chunk [x,y] 1)] [] (.bQ 0 6 0 C.length) [BU C])&&true)||false
noncomputable def eiL(n:Nat)(X:Nat->bg)(R:List bg):Nat->Option dY:=eZ 5 (wG CS [(6,1,6)] (BU []) [some 0,none] (exS n X 0 []) (.exit 0) (exS n X n R))
noncomputable def eiZ(o:Option Out):Option Out:=cond (ccB x y C) (cond (mtB 164 G C.length (fu C) [jE]) (gate (Sub (exS C.length (G C.length (mF C)) 0 []) (exS C.length (G C.length (mF C)) 0 [])) o) none) none
theorem avM:evM bO [⟨161,eCC λ a b=>(lf a b).v⟩] [] [Ra,ccE C,mSt 164 G] (eiL C.length (G C.length (mF C)) R) aIg [jX A,jX B] ret=eiZ G (jX A) (jX B) C (some (Out.of (.sl 6 R.length λ q=>mF R (0+q)))):=by kernel_rfl
theorem avN(p:Option Addr)(c:Nat):evM bO [⟨161,eCC λ a b=>(lf a b).v⟩] [] [Ra,ccE C,mSt 164 G] (eiL C.length (G C.length (mF C)) R) aIg [xE p c,jX B] ret=eiZ G (xE p c) (jX B) C (some (Out.of (.sl 6 R.length λ q=>mF R (0+q)))):=by kernel_rfl
theorem avO(p:Option Addr)(c:Nat):evM bO [⟨161,eCC λ a b=>(lf a b).v⟩] [] [Ra,ccE C,mSt 164 G] (eiL C.length (G C.length (mF C)) R) aIg [jX A,xE p c] ret=eiZ G (jX A) (xE p c) C (some (Out.of (.sl 6 R.length λ q=>mF R (0+q)))):=by kernel_rfl
theorem avP(p p':Option Addr)(c c':Nat):evM bO [] [kS bO 163 λ _=>.x (.slice none 0 0),kS bO 164 λ _=>.bK []] [Ra] bC aIg [xE p c,xE p' c'] ret=gate (aj bO 163 [.sl 1 2 (chunk [xE p c,xE p' c'] 1)] (.x (.slice none 0 0))) (gate (aj bO 164 [.x (.slice none 0 0),jE] (.bK [])) (some (Out.of (.x (.slice none 0 0))))):=by kernel_rfl
end
theorem T9(L:List bg)(q d:Nat):bM (Tv q 0) dS.c (mF L d)=mF L d:=by unfold mF;rw[Ll];rfl
theorem aFm{n:Int}{m:Nat}(e:n=(m:Nat))(h0:0<m)(h:m<=1000):gwB n=true:=by subst e;unfold gwB;rw[jl (Ua m h0 h _)];rfl
theorem apE{n m:Nat}(h0:0<m)(h:n+m<=1000):acB n m=true:=by unfold acB;rw[aHX,iU h0,El λ _ _=>rfl,aBF (by omega)];rfl
theorem ajn{a b:Nat}(h0:0<a+b)(h:a+b<=1000)(o:Option Out):ccZ (a:Nat) (b:Nat) o=o:=by
 unfold ccZ;have e1:aH (0+(a:Int))=(a:Nat):=by rw[aOj,aO]
 have e2:aH ((a:Int)+(b:Int))=((a+b:Nat):Int):=by rw[aO];omega
 rw[e1,e2,iH (show ¬((a:Nat):Int)<0 by omega),iH (show ¬((a+b:Nat):Int)<0 by omega),aFm rfl h0 h];rfl
theorem apF{A B:List bg}{q:Nat}(h:q<A.length):fu (A++B) q=fu A q:=by unfold fu;rw[Gd,Gd,List.getElem?_append_left h]
theorem ajo{A B:List bg}{q:Nat}(h:A.length<=q):fu (A++B) q=fu B (q - A.length):=by unfold fu;rw[Gd,Gd,List.getElem?_append_right h]
theorem aaL:oN bO gwE:=auj
theorem ajp{A B:List bg}(hA:0<A.length)(t:0<B.length)(h:A.length+B.length<=1000):dJ bO 163 [.sl 1 2 (chunk [jX A,jX B] 1)] [] (.bQ 0 6 0 (A++B).length) [BU (A++B)]:=by
 have o:dJ bO 163 [.sl 1 2 (chunk [jX A,jX B] 1)] [] (.bQ 0 6 0 (0+A.length+B.length)) [.a 155 6 (0+A.length+B.length) λ q=>bM (Tv q (0+A.length)) (bM (Tv q 0) dS.c (mF A (q - 0))) (mF B (q - (0+A.length)))]:=by refine rZ (mem:=[]) aB ay (gK aaL aV) aKB aC (by kernel_rfl) ((avy A B).trans ?_);rw[ajn (by omega) h,apE hA (by omega),apE t (by omega)];rfl
 have e:0+A.length+B.length=(A++B).length:=by rw[aiR];omega
 rw[e]at o;refine o.AA ⟨Gc ⟨155,6,(A++B).length,_,_,rfl,rfl,λ q hq=>?_⟩,trivial⟩;show mF (A++B) q=_;rw[T9,ZO,aKm];show(fu (A++B) q).c=bM (Tv q A.length) (fu A q).c (fu B (q - A.length)).c;rw[Ll];cases d:Tv q A.length
 .rw[ajo (jM d)];rfl
 .rw[apF (Ou d)];rfl
theorem ajq{B:List bg}(o:0<B.length)(h:B.length<=1000)(p:Option Addr)(c:Nat):dJ bO 163 [.sl 1 2 (chunk [xE p c,jX B] 1)] [] (.bQ 0 6 0 B.length) [BU B]:=by
 have d:dJ bO 163 [.sl 1 2 (chunk [xE p c,jX B] 1)] [] (.bQ 0 6 0 (0+B.length)) [.a 155 6 (0+B.length) λ q=>bM (Tv q 0) dS.c (mF B (q - 0))]:=by refine rZ (mem:=[]) aB ay (gK aaL aV) aKB aC (by kernel_rfl) ((avz B p c).trans ?_);rw[ajn (by omega) (by omega),apE o (by omega)];rfl
 rw[ZO]at d;refine d.AA ⟨Gc ⟨155,6,B.length,_,_,rfl,rfl,λ q hq=>?_⟩,trivial⟩;show mF B q=_;rw[T9,aKm]
theorem ajr{A:List bg}(hA:0<A.length)(h:A.length<=1000)(p:Option Addr)(c:Nat):dJ bO 163 [.sl 1 2 (chunk [jX A,xE p c] 1)] [] (.bQ 0 6 0 A.length) [BU A]:=by
 have d:dJ bO 163 [.sl 1 2 (chunk [jX A,xE p c] 1)] [] (.bQ 0 6 0 (0+A.length)) [.a 155 6 (0+A.length) λ q=>bM (Tv q 0) dS.c (mF A (q - 0))]:=by refine rZ (mem:=[]) aB ay (gK aaL aV) aKB aC (by kernel_rfl) ((avA A p c).trans ?_);rw[ajn (by omega) (by omega),apE hA (by omega)];rfl
 rw[ZO]at d;refine d.AA ⟨Gc ⟨155,6,A.length,_,_,rfl,rfl,λ q hq=>?_⟩,trivial⟩;show mF A q=_;rw[T9,aKm]
set_option maxHeartbeats 1600000 in
set_option maxRecDepth 1000000 in
theorem aaM(w:World):Calls bO 186 #[.slice none 0 0,.int .i64 0] w λ e w'=>e=.returned (.slice none 0 0)/\w'=w:=by
 go_enter aKA,aNK
 go_wp2
 go_ret
 exact⟨rfl,rfl⟩
theorem aaN:aj bO 186 [.x (.slice none 0 0),iA 0] (.x (.slice none 0 0)):=by
 refine⟨⟨aOD,aKA,by kernel_rfl,by kernel_rfl⟩,λ A w E K d hg=>?_⟩
 have hc:E=#[.slice none 0 0,.int .i64 0]:=by obtain⟨u,I,e0,z,d⟩:=aD.1 d;obtain⟨J,o,e1,t,d⟩:=aD.1 d;have e2:=bR.1 d;subst e2 e1;rw[cB.1 z,cB.1 t]at e0;apply Array.ext';rw[e0]
 subst hc;refine(aaM w).mono ?_;rintro e H ⟨rfl,rfl⟩;exact⟨_,rfl,cB.2 rfl,rfl,rfl,rfl,ND _,λ _ _=>rfl⟩
theorem apH(p p':Option Addr)(c c':Nat):ev bO [] [kS bO 186 λ _=>.x (.slice none 0 0)] bC aLK [.sl 1 2 (chunk [xE p c,xE p' c'] 1)] ret=gate (aj bO 186 [.x (.slice none 0 0),iA 0] (.x (.slice none 0 0))) (some (Out.of (.x (.slice none 0 0)))):=by kernel_rfl
theorem ajs(p p':Option Addr)(c c':Nat):aj bO 163 [.sl 1 2 (chunk [xE p c,xE p' c'] 1)] (.x (.slice none 0 0)) :=aR aB (au aG ay) aKB aC ((apH p p' c c').trans (ak aaN))
theorem av2:ev bO [] [] bC Tryz.f201 [.x (.slice none 0 0),iA 0,iA ((0:Nat):Int),jE] ret=some (Out.of (.bK [])):=by kernel_rfl
theorem av3:ev bO [] [kS bO 201 λ _=>.bK []] bC Tryz.f187 [.x (.slice none 0 0),iA ((0:Nat):Int),jE] ret=gate (aj bO 201 [.x (.slice none 0 0),iA 0,iA ((0:Nat):Int),jE] (.bK [])) (some (Out.of (.bK []))):=by kernel_rfl
theorem av4:ev bO [] [kS bO 187 λ _=>.bK []] bC Tryz.f164 [.x (.slice none 0 0),jE] ret=gate (aj bO 187 [.x (.slice none 0 0),iA ((0:Nat):Int),jE] (.bK [])) (some (Out.of (.bK []))):=by kernel_rfl
theorem ajt:aj bO 164 [.x (.slice none 0 0),jE] (.bK []):=by have o:aj bO 201 [.x (.slice none 0 0),iA 0,iA ((0:Nat):Int),jE] (.bK []):=aR aB ay Tryz.func201 aC av2;have d:aj bO 187 [.x (.slice none 0 0),iA ((0:Nat):Int),jE] (.bK []):=aR aB (au aG ay) Tryz.func187 aC (av3.trans (ak o));exact aR aB (au aG ay) Tryz.func164 aC (av4.trans (ak d))
theorem En{m:Nat}(h0:0<m)(h:m<=1000):uU m=((m - 1:Nat):Int):=by unfold uU;rw[aO];omega
theorem NI:uU 0=-1:=by decide
theorem auk{R:List bg}(h:R.length<=1000):exG R=true:=by
 unfold exG gF;by_cases h0:R.length=0
 .rw[h0,NI];rfl
 .rw[En (by omega) h,bZ (by omega),pF,ZO,iU (by omega)];rfl
theorem aju{R:List bg}(h:R.length<=1000)(s:bg):exT R s=((R.length==0)||bW s.i.t (BZ R).o.t):=by
 unfold exT;by_cases h0:R.length=0
 .rw[h0,NI];rfl
 .rw[En (by omega) h,iH (by omega),eU,mI h0,Bool.false_or,pF,ZO];rfl
theorem aBG{R:List bg}(h0:0<R.length)(h:R.length<=1000):exW R=true:=by unfold exW lN;rw[En h0 h,bZ (by omega),pF,ZO,iU (by omega)];rfl
theorem apJ(R:List bg)(s:bg):(nY R s).length<=R.length+1:=by
 unfold nY;cases(R.length==0)||bW s.i.t (BZ R).o.t
 .rw[eU,aNn];omega
 .rw[aY,aiR];exact ND _
def swF(M:List bg)(k:Nat):List bg:=(M.take k).foldl nY []
theorem Xm{M:List bg}{k:Nat}(d:k<M.length):swF M (k+1)=nY (swF M k) (fu M k):=by unfold swF;rw[AP d,List.foldl_append];rfl
theorem aep(M:List bg):∀k,k<=M.length->(swF M k).length<=k
 | 0,_=>ND _
 |k+1,hk=>by rw[Xm (by omega)];have:=apJ (swF M k) (fu M k);have:=aep M k (by omega);omega
theorem aer:∀e,e∈[(⟨161,eCC λ a b=>(jq a b).v⟩:Entry)]->jr bO e:=aL (aaO aul) aB
theorem Xn(n:Nat)(keep:List Nat)(τ:List (Option Nat)):Ma (QF n keep τ):=λ e s r h=>by
 unfold QF at h;cases d:amH s.mem.length n
 .rw[d]at h;cases h
 .rw[d]at h;exact bB keep τ e s r h
theorem ajv{M:List bg}(I:M.length<=900):bH bO (.loop (av aIg 0)) (exS M.length (fu M) 0 []) (.exit 0) (exS M.length (fu M) M.length (M.foldl nY [])):=by
 have h:bH bO (.loop (av aIg 0)) (exS M.length (fu M) (0:Nat) (swF M 0)) (.exit 0) (exS M.length (fu M) (M.length:Nat) (swF M M.length)):=by
  refine aP (λ k=>exS M.length (fu M) (k:Nat) (swF M k)) M.length (.exit 0) _ (by simp) (λ k d=>?_) ?_
  .have hl:=aep M k (by omega);show bH bO _ (exS M.length (fu M) (k:Nat) (swF M k)) .normal (exS M.length (fu M) ((k+1:Nat):Int) (swF M (k+1)));rw[Xm d];generalize swF M k=R at hl;cases z:(R.length==0)||bW (fu M k).i.t (BZ R).o.t
   .have h0:0<R.length:=by
     have:=(Bool.or_eq_false_iff.1 z).1;have:R.length≠0:=λ e=>by rw[e]at this;cases this
     omega
    have H:nY R (fu M k)=R.set (R.length - 1) ⟨(BZ R).i,jq (BZ R).o (fu M k).o⟩:=by unfold nY;rw[z];rfl
    have st:=avK jq M.length (fu M) (k:Nat) R;unfold exC at st;unfold lN at st;rw[bI d,bZ d,pF,ZO,iU d,auk (by omega),aju (by omega),z,aBG h0 (by omega),aQ (by omega),En h0 (by omega),pF,ZO]at st;refine(oO (Xn 3 CS [some 0,some 1]) aer ay aV aC st).sub (Sub.refl _) ?_;rw[H];unfold exS;rw[aNn];refine ig ⟨wV rfl,Gc ⟨155,6,R.length,_,_,rfl,rfl,λ q hq=>?_⟩,trivial⟩;show(fu (R.set (R.length - 1) _) q).c=bM (q==R.length - 1) _ (fu R q).c;rw[Ll];refine congrArg bg.c ?_;show(R.set (R.length - 1) _).getD q dS=cond (q==R.length - 1) ⟨(BZ R).i,jq (BZ R).o (fu M k).o⟩ (R.getD q dS);rw[Gd,Gd,List.getElem?_set];by_cases e:q=R.length - 1
    .subst e;rw[aHX,gH rfl,gH (by omega)];rfl
    .rw[mI e,fP (λ h=>e h.symm)];rfl
   .have H:nY R (fu M k)=R++[fu M k]:=by unfold nY;rw[z];rfl
    have st:=avJ jq M.length (fu M) (k:Nat) R;unfold exC at st;unfold lN at st;rw[bI d,bZ d,pF,ZO,iU d,auk (by omega),aju (by omega),z,yB (by omega),aQ (by omega)]at st;refine(oO (Xn 5 CS [some 0,some 4]) aer ay aV aC st).sub (Sub.refl _) ?_;rw[H];unfold exS;have E:(R++[fu M k]).length=R.length+1:=by rw[aiR];rfl
    rw[E];refine ig ⟨wV rfl,Gc ⟨155,6,R.length+1,_,_,rfl,rfl,λ q hq=>?_⟩,trivial⟩;exact(aes R _ hq).symm
  .refine oO (dB CS [some 0,some 1]) aer ay aV aC ((avL jq M.length (fu M) (M.length:Nat) (swF M M.length)).trans ?_);unfold exC;rw[bJ,eU]
 have e1:swF M M.length=M.foldl nY []:=by unfold swF;rw[List.take_length]
 rw[e1]at h;exact h
structure Pl where
 op:Nat->Int
 l:Nat->Nat
 r:Nat->Nat
 lf:Nat->List bg
def N9(o:Int)(L A B:List bg):List bg:=cond (o==0) L (cond (o==1) (mJ A B) (cond (o==2) (kD A B) (oq A B)))
def Cr(p:Pl):Nat->Nat->List bg
 | 0=>λ _=>[]
 |k+1=>λ q=>if q=k then N9 (p.op k) (p.lf k) (Cr p k (p.l k)) (Cr p k (p.r k))else Cr p k q
structure aa3(p:Pl)(n:Nat):Prop where
 kids:∀j,j<n->p.op j=0\/(p.op j≠0/\p.l j<j/\p.r j<j)
 leaf:∀j,j<n->p.op j=0->p.lf j=[]\/∃s,p.lf j=[s]/\wT s
def leD(p:Pl)(j:Nat):List Nat:=cond (p.op j==0) (LY (p.lf j)) []
def DE(p:Pl):Nat->List Nat
 | 0=>[]
 |k+1=>leD p k++DE p k
def DN(p:Pl):Nat->List Nat
 | 0=>[]
 |k+1=>cond (p.op k==0) (DN p k) (leD p (p.l k)++(leD p (p.r k)++DN p k))
theorem adL{p:Pl}{n j:Nat}(h:aa3 p n)(d:j<n)(h0:p.op j=0):yh (p.lf j)/\(p.lf j).length<=1:=by
 rcases h.leaf j d h0 with e | ⟨s,e,g⟩<;>rw[e]
 .exact⟨MV,alz _⟩
 .exact⟨M4 g,ND _⟩
theorem Wx{p:Pl}{n j:Nat}(h:aa3 p n)(d:j<n):(leD p j).length<=2:=by
 unfold leD;cases e:p.op j==0
 .exact alz _
 .rw[aY,P6];have:=(adL h d (by simpa using e)).2;omega
theorem aou{p:Pl}{n:Nat}(h:aa3 p n):∀k,k<=n->∃c,c<=k/\(DE p k).length<=2*c/\(DN p k).length<=4*(k - c)
 | 0,_=>⟨0,ND _,ND _,ND _⟩
 |k+1,hk=>by
  obtain⟨c,z,d,t⟩:=aou h k (by omega);rcases h.kids k (by omega)with e | ⟨e,hl,o⟩
  .refine⟨c+1,by omega,?_,?_⟩
   .show(leD p k++DE p k).length<=_;have:=Wx h (j:=k) (by omega);rw[aiR];omega
   .show(cond (p.op k==0) (DN p k) _).length<=_;rw[show(p.op k==0)=true by rw[e];rfl,aY];omega
  .refine⟨c,by omega,?_,?_⟩
   .show(leD p k++DE p k).length<=_;unfold leD;rw[mI e,eU,List.nil_append];exact d
   .show(cond (p.op k==0) (DN p k) _).length<=_;have:=Wx h (j:=p.l k) (by omega);have:=Wx h (j:=p.r k) (by omega);rw[mI e,eU,aiR,aiR];omega
theorem Wy(L:List bg):Fr (·∈LY L) L:=λ s hs=>⟨aIa.2 ⟨s,hs,aD0⟩,aIa.2 ⟨s,hs,List.mem_cons_of_mem _ aD0⟩⟩
theorem Fr.mono{D E:Nat->Prop}{L:List bg}(h:Fr D L)(g:∀x,D x->E x):Fr E L:=λ s hs=>⟨g _ (h s hs).1,g _ (h s hs).2⟩
theorem aov{D:Nat->Prop}{o:Int}{L A B:List bg}(h0:o≠0)(hA:Fr D A)(d:Fr D B):Fr D (N9 o L A B):=by
 unfold N9;rw[mI h0,eU];cases o==1
 .cases o==2
  .exact att hA d
  .exact aiq hA d
 .exact atr hA d
theorem atL{o:Int}{L A B:List bg}(h0:o≠0)(hA:yh A)(d:yh B):yh (N9 o L A B):=by
 unfold N9;rw[mI h0,eU];cases o==1
 .cases o==2
  .exact an8 hA d
  .exact adE hA d
 .exact an7 hA d
structure aG0(p:Pl)(k q:Nat):Prop where
 ris:yh (Cr p k q)
 de:Fr (·∈DE p k) (Cr p k q)
 lf:p.op q=0->Cr p k q=p.lf q
 dn:p.op q≠0->Fr (·∈DN p k) (Cr p k q)
theorem Wz{p:Pl}{k x:Nat}(h:x∈DN p k):x∈DN p (k+1):=by
 show x∈cond (p.op k==0) (DN p k) (leD p (p.l k)++(leD p (p.r k)++DN p k));cases p.op k==0
 .exact aHt _ (aHt _ h)
 .exact h
theorem XD{p:Pl}{n:Nat}(h:aa3 p n):∀k,k<=n->∀q,q<k->aG0 p k q
 | 0,_,q,hq=>absurd hq (avm q)
 |k+1,hk,q,hq=>by
  have H:=XD h k (by omega);have em:∀x,x∈DE p k->x∈DE p (k+1):=λ x d=>aHt _ d;by_cases e:q=k
  .subst e;have o:Cr p (q+1) q=N9 (p.op q) (p.lf q) (Cr p q (p.l q)) (Cr p q (p.r q)):=gH rfl;rcases h.kids q (by omega)with h0 | ⟨h0,hl,K⟩
   .have o:Cr p (q+1) q=p.lf q:=by rw[o];unfold N9;rw[h0];rfl
    refine⟨by rw[o];exact(adL h (by omega) h0).1,?_,λ _=>o,λ I=>absurd h0 I⟩;rw[o];refine(Wy _).mono λ x d=>aH6 _ ?_;unfold leD;rw[h0];exact d
   .have E:=H (p.l q) hl;have z:=H (p.r q) K;refine⟨by rw[o];exact atL h0 E.ris z.ris,by rw[o];exact(aov h0 E.de z.de).mono em,λ t=>absurd t h0,λ _=>?_⟩;rw[o]
    have J:DN p (q+1)=leD p (p.l q)++(leD p (p.r q)++DN p q):=by show cond (p.op q==0) (DN p q) _=_;rw[mI h0];rfl
    refine aov h0 ?_ ?_
    .by_cases t:p.op (p.l q)=0
     .rw[E.lf t,J];refine(Wy _).mono λ x d=>aH6 _ ?_;unfold leD;rw[t];exact d
     .exact(E.dn t).mono λ x d=>Wz d
    .by_cases t:p.op (p.r q)=0
     .rw[z.lf t,J];refine(Wy _).mono λ x d=>aHt _ (aH6 _ ?_);unfold leD;rw[t];exact d
     .exact(z.dn t).mono λ x d=>Wz d
  .have o:Cr p (k+1) q=Cr p k q:=fP e;have i:=H q (by omega);exact⟨by rw[o];exact i.ris,by rw[o];exact i.de.mono em,λ t=>by rw[o];exact i.lf t,λ I=>by rw[o];exact(i.dn I).mono λ x d=>Wz d⟩
theorem ajW{p:Pl}{n k q:Nat}(h:aa3 p n)(d:k<=n)(hq:q<k)(o:k<=15):(Cr p k q).length<=10:=by
 have i:=XD h k d q hq;by_cases h0:p.op q=0
 .rw[i.lf h0];have:=(adL h (by omega) h0).2;omega
 .obtain⟨c,E,z,t⟩:=aou h k d;have:=Wq i.ris i.de;have:=Wq i.ris (i.dn h0);omega
theorem asH{p:Pl}{n k q:Nat}(h:aa3 p n)(d:k<=n)(hq:q<k):(Cr p k q).length<=k:=by have i:=XD h k d q hq;obtain⟨c,z,t,o⟩:=aou h k d;have:=Wq i.ris i.de;omega
theorem aj.Uf{f:Nat}{args args':List AV}{r:AV}(h:∀E:Env,∀us:List Value,dW E args us->∃d,dW E d us/\aj bO f d r)(t:vJ bO f)(_:args'=args):aj bO f args r :=
 ⟨t,λ A w J z o hg=>by obtain⟨d,I,H⟩:=h _ _ o;exact H.2 A w J z I hg⟩
theorem zM{E:Env}{sz:Nat}{el:Nat->List AV}{u:Value}(h:rel E (.sl sz 0 el) u):∃p c,rel E (xE p c) u:=by obtain⟨a,c,e,_⟩:=iZ.1 h;exact⟨a,c,cB.2 e⟩
theorem aj.Dx{f:Nat}{args:List AV}{r d:AV}(h:aj bO f args r)(o:∀(E:Env) (v:Value),rel E r v->rel E d v):aj bO f args d :=⟨h.1,λ A w K z t hg=>(h.2 A w K z t hg).mono λ _ _ ⟨v,J,I,H⟩=>⟨v,J,o _ _ I,H⟩⟩
theorem GA{E:Env}{sz:Nat}{el:Nat->List AV}{v:Value}(h:rel E (.x (.slice none 0 0)) v):rel E (.sl sz 0 el) v:=iZ.2 ⟨none,0,cB.1 h,ND _,wV rfl⟩
theorem al1{E:Env}{sz n:Nat}{el t:Nat->List AV}{v:Value}(he:∀q,q<n->el q=t q)(h:rel E (.sl sz n el) v):rel E (.sl sz n t) v:=by
 obtain⟨a,c,e,hc,d⟩:=iZ.1 h;refine iZ.2 ⟨a,c,e,hc,?_⟩;rcases d with d | ⟨b,o,O,M,fz,K,J,I,H⟩
 .exact wV d
 .exact Gc ⟨b,o,O,M,fz,K,J,I,λ i z=>by rw[<-he i z];exact H i z⟩
theorem al2{A B C:List bg}{x y:AV}(H:C=A++B)(hA:yh A)(I:yh B)(h0:0<C.length)(E:C.length<=20)(z:dJ bO 163 [.sl 1 2 (chunk [x,y] 1)] [] (.bQ 0 6 0 C.length) [BU C])
  (o:evM bO [⟨161,eCC λ a b=>(jq a b).v⟩] [] [Ra,ccE C,mSt 164 srD] (eiL C.length (srD C.length (mF C)) (kD A B)) aIg [x,y] ret=eiZ srD x y C (some (Out.of (.sl 6 (kD A B).length λ q=>mF (kD A B) (0+q))))):aj bO 134 [x,y] (jX (kD A B)):=by
 have hm:mH C=YP A B:=by rw[H];exact al3 hA I
 have J:∀s,s∈C->aF s.i.t=false:=λ s hs=>by
  rw[H]at hs;rcases List.mem_append.1 hs with h |h
  .exact(hA.2 s h).ni
  .exact(I.2 s h).ni
 have O:srD C.length (mF C)=fu (YP A B):=by rw[<-hm];exact acs C
 have hl:C.length=(YP A B).length:=by rw[<-hm,YQ]
 have d:=ajv (M:=YP A B) (by omega);rw[<-hl]at d;have Q:=Gz (c:=dH aIg) (i:=5) 0 (oo (keep:=CS) (jO:=[(6,1,6)]) (nr:=BU []) (τ:=[some 0,none]) d);rw[O]at o;refine uh aer ay (gK WZ (gK auj (gK al4 aV))) (by kernel_rfl) aLL (by kernel_rfl) (by kernel_rfl) Q rfl (o.trans ?_);unfold eiZ;have K:ccB x y C=true:=by unfold ccB;rw[jl z];rfl
 rw[K,aY,aCW h0 (arv h0 E J),aY,ak (Sub.refl _),aa0]
theorem XE{A B:List bg}(hA:yh A)(S:yh B)(M:A.length+B.length<=20):aj bO 134 [jX A,jX B] (jX (kD A B)):=by
 have K:vJ bO 134:=⟨aIg,aLL,by kernel_rfl,by kernel_rfl⟩;by_cases Z:A.length=0
 .have e1:=aH8.1 Z;by_cases O:B.length=0
  .have e2:=aH8.1 O;subst e1 e2;refine aj.Uf (args':=[jX [],jX []]) (λ E Q d=>?_) K rfl;obtain⟨u,o,e0,z,d⟩:=aD.1 d;obtain⟨I,t,e1,J,d⟩:=aD.1 d;obtain⟨p,c,H⟩:=zM z;obtain⟨p',c',U⟩:=zM J;refine⟨[xE p c,xE p' c'],aD.2 ⟨u,o,e0,H,aD.2 ⟨I,t,e1,U,d⟩⟩,?_⟩;have h:aj bO 134 [xE p c,xE p' c'] (.x (.slice none 0 0)):=uh aB (au aG (au aG ay)) (gK WZ aV) (by kernel_rfl) aLL (by kernel_rfl) (c:=dH aIg) (by kernel_rfl) aC rfl ((avP p p' c c').trans (by rw[ak (ajs p p' c c'),ak ajt]));have en:kD [] []=[]:=by unfold kD;rw[YP];rfl
   rw[en];exact aj.Dx h λ _ _=>GA
  .subst e1;refine aj.Uf (args':=[jX [],jX B]) (λ E Q d=>?_) K rfl;obtain⟨u,o,e0,z,d⟩:=aD.1 d;obtain⟨p,c,H⟩:=zM z;refine⟨[xE p c,jX B],aD.2 ⟨u,o,e0,H,d⟩,?_⟩;exact al2 (A:=[]) (B:=B) (C:=B) rfl MV S (by omega) (by omega) (ajq (by omega) (by omega) p c) (avN jq srD B B (kD [] B) p c)
 .by_cases O:B.length=0
  .have e2:=aH8.1 O;subst e2;refine aj.Uf (args':=[jX A,jX []]) (λ E Q d=>?_) K rfl;obtain⟨u,o,e0,z,d⟩:=aD.1 d;obtain⟨I,t,e1,J,d⟩:=aD.1 d;obtain⟨p,c,H⟩:=zM J;refine⟨[jX A,xE p c],aD.2 ⟨u,o,e0,z,aD.2 ⟨I,t,e1,H,d⟩⟩,?_⟩;exact al2 (A:=A) (B:=[]) (C:=A) (List.append_nil A).symm hA MV (by omega) (by simpa using M) (ajr (by omega) (by omega) p c) (avO jq srD A A (kD A []) p c)
  .exact al2 (A:=A) (B:=B) (C:=A++B) rfl hA S (by rw[aiR];omega) (by rw[aiR];omega) (ajp (by omega) (by omega) (by omega)) (avM jq srD A B (A++B) (kD A B))
noncomputable def lfL(d:Int)(c:List AV)(r:Nat->Nat):List bg:=cond (Kr c r).ok [⟨⟨(Kr c r).i,d,false⟩,⟨(Kr c r).o,d,false⟩⟩] []
theorem Vn(d k:Int)(a:Nat->Nat)(sk:Int)(r:Nat->Nat):aj bO 132 [iA d,SH k a sk,RY r] (jX (lfL d (Cy k a sk) (l7 r))):=by
 have h:=al5 Kr d k a sk r;have o:∀e,e∈[(⟨159,arw λ c r=>(Kr c r).v⟩:Entry)]->jr bO e:=aL (arx λ k a sk r=>(Rp k a sk r).1) aB;unfold lfL;cases hw:(Kr (Cy k a sk) (l7 r)).ok
 .rw[hw]at h;exact aj.Dx (sp o aN1 h) λ _ _=>GA
 .rw[hw]at h;refine aj.Dx (sp o aN1 h) λ _ _=>al1 λ q hq=>?_;have:q=0:=by omega
  subst this;rfl
def aCX(r:Nat->Nat):List AV:=[.f (r 0),.f (r 1),.f (r 2),.f (r 3),.f (r 4),.f (r 5),.f (r 6)]
def spR(n:Nat)(P:Nat->kC)(r:Nat->Nat)(i:Int)(el:Nat->List AV):St:=mkS 85 [(0,pI n P),(3,.own 0 0),(5,.bQ 1 1 0 n),(11,pI n P),(12,iA n),(13,iA i)] [.c (aCX r),.a 150 1 n el]
def wU(n:Nat)(P:Nat->kC)(r:Nat->Nat)(i:Int)(W:Nat->List bg):St:=spR n P r i λ q=>[jX (W q)]
def Eu:List Nat:=[0,3,5,11,12,13]
def eLf(g:Int->List AV->(Nat->Nat)->List bg):List AV->Option AV
 | [.x (.int .i64 n),.agg [.x (.int .i64 k),.f a0,.f a1,.f a2,.f a3,.f a4,.f a5,.f a6,.f a7,.f a8,.f a9,.f ME,.x (.int .i64 sk)],.agg [.f a,.f b,.f c,.f d,.f e,.f f,.f x]]=>some (jX (g n [.x (.int .i64 k),.f a0,.f a1,.f a2,.f a3,.f a4,.f a5,.f a6,.f a7,.f a8,.f a9,.f ME,.x (.int .i64 sk)] (ls [a,b,c,d,e,f,x])))
 |_=>none
theorem awx:jr bO ⟨132,eLf lfL⟩:=λ o r d=>by
 simp only[eLf]at d;split at d
 .cases d;exact wV (Vn _ _ (ls [_,_,_,_,_,_,_,_,_,_,_]) _ (ls [_,_,_,_,_,_,_]))
 .cases d
section
variable(lf:Int->List AV->(Nat->Nat)->List bg)(b1 b2 b3:List AV->List bg)(n:Nat)(P:Nat->kC)(r:Nat->Nat)(i:Int)(W:Nat->List bg)
noncomputable def spK:List bf:=[kS bO 133 λ v=>jX (b1 v),kS bO 134 λ v=>jX (b2 v),kS bO 135 λ v=>jX (b3 v)]
def spA(p:kC):List AV:=[jX (W (0+p.l.toNat)),jX (W (0+p.r.toNat))]
noncomputable def spG(f:Nat)(b:List AV->List bg)(p:kC)(o:List bg->Option Out):Option Out:=gate (aj bO f (spA W p) (jX (b (spA W p)))) (cond (jnB p.l p.r i n) (o (b (spA W p))) none)
noncomputable def spC(f:List bg->Option Out)(o d:Option Out):Option Out:=cond (decide (i<n)) (cond (iP i n||false) (cond ((P i.toNat).op==0) (ow' i n (f (lf i (P i.toNat).s (l7 r)))) (cond ((P i.toNat).op==1) (spG n i W 133 b1 (P i.toNat) f) (cond ((P i.toNat).op==2) (spG n i W 134 b2 (P i.toNat) f) (cond ((P i.toNat).op==3) (spG n i W 135 b3 (P i.toNat) f) o)))) none) d
theorem aa6:jR bO [⟨132,eLf lf⟩] (spK b1 b2 b3) bC (av aNL 0) (wU n P r i W) (gu Eu [some 0,some 1])=spC lf b1 b2 b3 n P r i W (λ X=>some ⟨.normal,spR n P r (aH (i+1)) λ q=>bM (q==0+i.toNat) [jX X] [jX (W q)],.any⟩) (some ⟨.normal,wU n P r (aH (i+1)) W,.any⟩) none:=by kernel_rfl
theorem agO:jR bO [⟨132,eLf lf⟩] (spK b1 b2 b3) bC (av aNL 0) (wU n P r i W) (iG Eu [some 0,some 1])=spC lf b1 b2 b3 n P r i W (λ _=>none) none (some ⟨.exit 0,wU n P r i W,.any⟩):=by kernel_rfl
theorem ajX(d:Nat->List bg):ev bO [⟨132,eLf lf⟩] (spK b1 b2 b3) (eZ 3 (fF Eu [some 0,some 1] (wU n P r 0 W) (.exit 0) (wU n P r n d))) aNL [pI n P,RY r] ret=cond ((decide (0<=(n:Int))&&(decide ((n:Int)<=n)&&decide (((24:Nat):Int)*n<=281474976710656)))||false) (gate (Sub (spR n P r 0 λ _=>[.x (.slice none 0 0)]) (wU n P r 0 W)) (ow' (aH ((n:Int) - 1)) n (some (Out.of (jX (d (0+(aH ((n:Int) - 1)).toNat))))))) none:=by kernel_rfl
end
section
variable(n:Nat)(hs:Nat->Int)(pf:Int->Int->Int)(tf:Int->Nat)(rf:Int->Int)(vf:Int->Int->Nat->Nat)(x y w:Nat)(fr:Int)
def tY:Int:=aH (1+pf (rf fr) 6)
def zy:Nat:=tf (aH (1+pf (rf (aH (fr+8))) 2500))
def ael(B C:Nat->Nat)(R Q:Nat):List AV:=[iA (tY pf rf fr),.f (vf (aH (fr+1)) 4000 0),.f (vf (aH (fr+1)) 4000 1),.f (vf (aH (fr+1)) 4000 2),.f (B 0),.f (B 1),.f (B 2),.f (C 0),.f (C 1),.f (C 2),.f R,.f Q,iA (pf (rf (aH (fr+7))) 1)]
def FD(B C:Nat->Nat)(R Q:Nat):Option Out:=some (Out.of (.agg (ael pf rf vf fr B C R Q)))
def NA:Nat->Nat:=ls [aM (vf (aH (fr+1)) 4000 0) (zy pf tf rf fr),aM (vf (aH (fr+1)) 4000 1) (tf (pf (rf (aH (fr+5))) 2000)),aM (vf (aH (fr+1)) 4000 2) (tf (pf (rf (aH (fr+6))) 2000))]
def avT:Nat->Nat:=ls [aM (vf (aH (fr+1)) 4000 0) (vf (aH (fr+4)) 3000 0),aM (vf (aH (fr+1)) 4000 1) (vf (aH (fr+4)) 3000 1),aM (vf (aH (fr+1)) 4000 2) (vf (aH (fr+4)) 3000 2)]
def aug:Int:=aH (1+pf (rf (aH (fr+4))) 3)
def aBA:Nat:=tf (aH (1+aH ((pf (rf (aH (fr+8))) 2500).tdiv (aug pf rf fr))))
noncomputable def ajd(o:Option Out):Option Out:=gate (aj bO 109 [V 0 0 0,iA (pf (rf (aH (fr+6))) 3),.f (tf (aH (1+pf (rf (aH (fr+5))) 3000)))] (V x y w)) o
noncomputable def aaE:Option Out:=gR n hs rf (aH (fr+6)) (gR n hs rf (aH (fr+5)) (ajd pf tf rf x y w fr (cond (tY pf rf fr==6) (gR n hs rf (aH (fr+8)) (gR n hs rf (aH (fr+4)) (cond ((!(aug pf rf fr==0))&&true) (FD pf rf vf fr (ls [x,y,w]) z3 (zy pf tf rf fr) (aBA pf tf rf fr)) none))) (FD pf rf vf fr (ls [x,y,w]) z3 (zy pf tf rf fr) 0))))
def auh:Option Out:=cond (lH (vf (aH (fr+4)) 3000 0) (vf (aH (fr+4)) 3000 1) (vf (aH (fr+4)) 3000 2)) (FD pf rf vf fr (ls [0,one,0]) z3 (zy pf tf rf fr) 0) (FD pf rf vf fr (vf (aH (fr+4)) 3000) z3 (zy pf tf rf fr) 0)
noncomputable def aem:Option Out:=gR n hs rf fr (gV n hs vf (aH (fr+1)) 4000 (gR n hs rf (aH (fr+7)) (gV n hs vf (aH (fr+4)) 3000 (gR n hs rf (aH (fr+8))
 (cond (tY pf rf fr==1) (FD pf rf vf fr z3 z3 (zy pf tf rf fr) 0) (cond (tY pf rf fr==2) (gR n hs rf (aH (fr+5)) (gR n hs rf (aH (fr+6)) (FD pf rf vf fr (NA pf tf rf vf fr) z3 0 0))) (cond (tY pf rf fr==3) (gV n hs vf (aH (fr+9)) 4000 (FD pf rf vf fr (avT vf fr) (ls [vf (aH (fr+9)) 4000 0,vf (aH (fr+9)) 4000 1,vf (aH (fr+9)) 4000 2]) 0 0))
  (cond (tY pf rf fr==5) (cond (tY pf rf fr==5) (aaE n hs pf tf rf vf x y w fr) (auh pf tf rf vf fr)) (cond (tY pf rf fr==6) (aaE n hs pf tf rf vf x y w fr) (auh pf tf rf vf fr))))))))))
theorem NC:ev bO (M1 pf tf) [Kg rf,vcK vf,kS bO 109 λ _=>V x y w] bC Tryz.f85 [sI n hs,iA fr,iA 1] ret=aem n hs pf tf rf vf x y w fr:=by kernel_rfl
end
def yU(x:Nat):Nat:=aM (aX x zJ) 4602678819172646912
def rdB(x:Nat):Bool:=Fb .i64 (yU (cond (dN x 0) (dG x) x))
def Xi(x:Nat):Int:=cond (dN x 0) (aH (0 - FE .i64 (yU (dG x)))) (FE .i64 (yU x))
theorem aBB(tf:Int->Nat)(x:Nat):ev bO [⟨40,eI λ n=>.f (tf n)⟩] [] bC Tryz.f129 [.f x] ret=cond (dN x 0) (cond (Fb .i64 (yU (dG x))||false) (some (Out.of (.f (tf (aH (0 - FE .i64 (yU (dG x)))))))) none) (cond (Fb .i64 (yU x)||false) (some (Out.of (.f (tf (FE .i64 (yU x)))))) none):=by kernel_rfl
theorem aen{x:Nat}(h:rdB x=true):aj bO 129 [.f x] (.f (bU (Xi x))):=by
 refine sp (aL (aje ajf) aB) Tryz.func129 ((aBB bU x).trans ?_);unfold rdB at h;unfold Xi;cases hf:dN x 0<;>rw[hf]at h
 .rw[show Fb .i64 (yU x)=true from h];rfl
 .rw[show Fb .i64 (yU (dG x))=true from h];rfl
end Go.Proofs.YtdlhemnconimnaaGreat.Hs.So
namespace Go.Ev
open Ieee
def LC(n:Nat):Nat:=(n - 51)*4503599627370496
theorem akc{n:Nat}(h:52<=n):rv 52 (LC n)=2 ^ n:=by
 obtain⟨k,rfl⟩:∃k,n=52+k:=⟨n - 52,by omega⟩;have e:LC (52+k)=(k+1)*4503599627370496:=by unfold LC;congr 1;omega
 rw[e,Uj (by omega),Nat.mul_mod_left,aJm _ (by decide),aIA,aIj,ahO]
def Bd(n x:Nat):Prop:=rung x<=LC n
theorem Bd.fin{n x:Nat}(h:Bd n x)(d:n<=2097):isFin x=true:=by unfold Bd LC at h;unfold isFin;exact agl (by show rung x+1<=_;omega)
theorem Bd.val{n x:Nat}(h:Bd n x)(d:52<=n):(val x).natAbs<=2 ^ n:=by
 rw[qw,<-akc d];rcases aH9 (rung x) (LC n)with e |e
 .exact aHR (Ox 52 e)
 .rw[show rung x=LC n from aNz h e];exact ND _
theorem MC(x:Nat):(key x).natAbs=rung x:=by unfold key;cases dP x<;>simp only[aY,eU]<;>omega
theorem axL(v:Int)(g:Nat):(KR v g).natAbs<=rq 52 v.natAbs g:=by
 unfold KR;cases decide (v<0)
 .rw[eU,aHz];exact aK4 _ _
 .rw[aY,aJD,aHz];exact aK4 _ _
theorem Bd.mono{n m x:Nat}(h:Bd n x)(hm:n<=m):Bd m x :=aa2 h (ahL _ (Nat.sub_le_sub_right hm _))
theorem aCE{r q:Nat}(h:r<=q):rv 52 r<=rv 52 q:=by
 rcases aH9 r q with e |e
 .exact aHR (Ox 52 e)
 .rw[aNz h e];exact ND _
theorem val_zero{x:Nat}:val x=0↔rung x=0:=by
 constructor
 .intro h;have d:=qw x;rw[h,Int.natAbs_zero]at d;rcases aMS (rung x)with e |e
  .exact e
  .have:=Ox 52 e;rw[EH]at this;omega
 .intro h;have d:=qw x;rw[h,EH]at d;omega
theorem Di{x:Nat}(h:aF x=false):key (dG x)=- key x/\aF (dG x)=false:=by
 have z:∀s r,r<=9218868437227405312->key (dG (double.word s r))=- key (double.word s r)/\aF (dG (double.word s r))=false:=λ s r d=>by rw[aho s d,Oy _ d,Oy _ d,xD _ d];cases s<;>simp
 have e:dG x=x ^^^ 9223372036854775808:=by unfold dG;rw[h];rfl
 have d:rung x<=9218868437227405312:=by
  rcases wH h with h |h
  .have:=wX h;omega
  .omega
 have o:(x ^^^ 9223372036854775808) % 9223372036854775808=x % 9223372036854775808:=by rw[show(9223372036854775808:Nat)=2 ^ 63 from by decide];rw[aMH,Nat.mod_self];simp
 have hs:dP (x ^^^ 9223372036854775808)=!dP x:=by
  unfold dP
  have:(x ^^^ 9223372036854775808) / 9223372036854775808=x / 9223372036854775808 ^^^ 1:=by rw[show(9223372036854775808:Nat)=2 ^ 63 from by decide,<-aLc,<-aLc,Nat.shiftRight_xor_distrib];rfl
  rw[this]
  have t:(x / 9223372036854775808 ^^^ 1) % 2=(x / 9223372036854775808 % 2) ^^^ 1:=by rw[show(2:Nat)=2 ^ 1 from rfl,aMH]
  rw[t];have:x / 9223372036854775808 % 2=0\/x / 9223372036854775808 % 2=1:=by omega
  rcases this with e |e<;>rw[e]<;>rfl
 rw[e];constructor
 .unfold key;rw[hs];have:rung (x ^^^ 9223372036854775808)=rung x:=o;rw[this];cases dP x<;>simp
 .unfold aF at *;rw[ow]at *;rw[o];exact h
theorem Zi{x k:Nat}(t:2 ^ k<=x)(o:x<2 ^ (k+1)):x.log2=k:=by
 have d:x≠0:=by have:=aaZ k;omega
 have a:=(aJq d).2 t;have b:=(aNJ d).2 o;omega
theorem ac3{a g:Nat}(j:Nat)(hg:0<g)(h:1<=a / g):(a*2 ^ j / g).log2=(a / g).log2+j:=by
 have h0:a / g≠0:=by omega
 have l1:=aHK h0;have l2:=aId (n:=a / g);generalize(a / g).log2=k at l1 l2;refine Zi ?_ ?_
 .rw[axF hg,ahO];rw[axF hg]at l1;have:=ahL (2 ^ j) l1;rw[aMT]at this;exact this
 .rw[aHr hg,show k+j+1=(k+1)+j by omega,ahO];rw[aHr hg]at l2;have:=(aMp (aaZ j)).2 l2;rw[aMT]at this;exact this
theorem akq{a g:Nat}(j:Nat)(hg:0<g)(h:2 ^ 52<=a / g):rq 52 (a*2 ^ j) g=rq 52 a g+j*2 ^ 52:=by
 have o:1<=a / g:=aa2 (aaZ 52) h;have h0:a / g≠0:=by omega
 have d:52<=(a / g).log2:=(aJq h0).2 h;unfold rq;rw[ac3 j hg o];generalize(a / g).log2=k at d;rw[show k+j - 52=(k - 52)+j by omega,ahO,<-arA g,Bt _ _ (aaZ j),auK];omega
theorem akl{a g:Nat}(h:2 ^ 52<=a / g):2 ^ 52<=rq 52 a g:=by
 have h0:a / g≠0:=by have:=aaZ 52;omega
 have l1:=aHK h0;unfold rq;have d:52<=(a / g).log2:=(aJq h0).2 h
 have:2 ^ 52<=Hy a (g*2 ^ ((a / g).log2 - 52)):=by refine aa2 ?_ (Ui _ _);rw[<-aBu,axF (aaZ _),<-ahO,show 52+((a / g).log2 - 52)=(a / g).log2 by omega];exact l1
 omega
structure Sc(j x y:Nat):Prop where
 s:dP x=dP y
 fx:isFin x=true
 fy:isFin y=true
 r:(rung x=0/\rung y=0)\/(2 ^ 52<=rung x/\rung y=rung x+j*2 ^ 52)
theorem am4{r:Nat}(j:Nat)(h:2 ^ 52<=r):rv 52 (r+j*2 ^ 52)=rv 52 r*2 ^ j:=by have p:0<2 ^ 52:=aaZ 52;unfold rv;generalize 2 ^ 52=b at *;rw[fP (by have:r<=r+j*b:=Nat.le_add_right _ _;omega),fP (by omega),Nat.add_mul_mod_self_right,Nat.add_mul_div_right _ _ p];have:1<=r / b:=(axF p).2 (by omega);rw[show r / b+j - 1=(r / b - 1)+j by omega,ahO,arA]
theorem Sc.val{j x y:Nat}(h:Sc j x y):val y=val x*((2 ^ j:Nat):Int):=by
 unfold Go.Ev.val;rw[<-h.s]
 have e:rv 52 (rung y)=rv 52 (rung x)*2 ^ j:=by
  rcases h.r with⟨a,b⟩ | ⟨a,b⟩
  .rw[a,b,EH,aH1]
  .rw[b];exact am4 j a
 rw[e];cases dP x
 .simp only[eU];push_cast;rfl
 .simp only[aY];push_cast;rw[Int.neg_mul]
theorem aiQ(s:Bool){r:Nat}(h:r<=9218868437227405312):dP (double.word s r)=s:=by
 unfold dP Format.word;rw[CO];cases s
 .have d:r / 9223372036854775808=0:=aHw (by omega);simp[d]
 .have d:(9223372036854775808+r) / 9223372036854775808=1:=by omega
  simp[d]
theorem Lg(s:Bool)(m:Nat)(p:Int):dP (double.nearest s m p)=s:=by obtain⟨r,d,hw⟩:=TH s m p;rw[hw,aiQ _ d]
theorem zP(s:Bool){r:Nat}(h:r<=9218868437227405312):rung (double.word s r)=r:=by
 unfold rung Format.word;rw[CO];cases s
 .simp only[aFs,if_false];exact aG8 (by omega)
 .simp only[if_true];omega
theorem abg{s:Bool}{m j u w:Nat}{p:Int}(hp:p+1074=u - w)(d:2 ^ 52<=m*2 ^ u / 2 ^ w)(hf:isFin (double.nearest s m (p+j))=true):Sc j (double.nearest s m p) (double.nearest s m (p+j)):=by
 have e1:=wW s m u w p hp;have e2:=wW s m (u+j) w (p+j) (by omega);rw[Kv]at e1 e2;have hs:=akq (a:=m*2 ^ u) j (aaZ w) d;rw[arA,<-ahO]at hs;have z:=akl d;rw[hs]at e2;clear hs d;generalize rq 52 (m*2 ^ u) (2 ^ w)=R at e1 e2 z;have H:=wX hf;rw[e2,zP s (aI8 _ _)]at H;have o:(2:Nat) ^ 52=4503599627370496:=by decide
 rw[o]at e2 z H;have J:R+j*4503599627370496<9218868437227405312:=by omega
 have E:R<9218868437227405312:=by omega
 have t:rung (double.nearest s m p)=R:=by rw[e1,zP s (aI8 _ _),aJH (aHR E)]
 have I:rung (double.nearest s m (p+j))=R+j*4503599627370496:=by rw[e2,zP s (aI8 _ _),aJH (aHR J)]
 refine⟨by rw[Lg,Lg],?_,hf,Gc ⟨by rw[t,o];exact z,by rw[t,I,o]⟩⟩;unfold isFin;rw[t];exact agl (show R+1<=9218868437227405312 from E)
theorem agY{x:Nat}(h:isFin x=true)(d:2 ^ 52<=rung x):double.read x=.number (dP x) (4503599627370496+rung x % 4503599627370496) (-1074+((rung x / 4503599627370496 - 1:Nat):Int)):=by have hl:=wX h;unfold rung at hl d ⊢;unfold Format.read dP;simp only[CO,Kv,EA,y9];have o:¬x % 9223372036854775808<4503599627370496:=Nat.not_lt.2 d;rw[fP o,gH hl]
def FM(m:Nat)(i:Int):Nat :=(m <<< (108 - m.log2+((i - ((108 - m.log2:Nat):Int)) % 2).toNat))
def aeJ(m:Nat)(i:Int):Nat:=2*Datum.rootFrom (FM m i) ((FM m i).log2 / 2+1) 0+(Datum.rootFrom (FM m i) ((FM m i).log2 / 2+1) 0*Datum.rootFrom (FM m i) ((FM m i).log2 / 2+1) 0 !=FM m i).toNat
def aeK(m:Nat)(i:Int):Int:=(i - ((108 - m.log2+((i - ((108 - m.log2:Nat):Int)) % 2).toNat:Nat):Int)) / 2 - 1
theorem abf{x m:Nat}{i:Int}(h:double.read x=.number false m i)(hm:m≠0):bD x=double.nearest false (aeJ m i) (aeK m i):=by unfold bD Format.sqrt;rw[h];simp only[Datum.root,fP hm,aFs,if_false,aaF,apP];rfl
theorem ag0{m:Nat}(hm:m≠0)(i:Int):1<=aeJ m i:=by
 have h:FM m i≠0:=by unfold FM;rw[aG6];exact Nat.mul_ne_zero hm (Nat.ne_of_gt (aaZ _))
 unfold aeJ;generalize FM m i=n at *;cases hw:Datum.rootFrom n (n.log2 / 2+1) 0 with
 |zero =>
  have:(0*0 !=n)=true:=by
   rw[aH1];cases n with
   |zero=>exact absurd rfl h
   |succ k=>rfl
  rw[this];decide
 |succ k=>omega
theorem Lu{a b:Nat}(h:a<=b):2 ^ a<=2 ^ b:=agX (by decide) h
theorem agZ(m:Nat){i:Int}(hi:-1074<=i):-600<=aeK m i:=by
 unfold aeK;have o:((i - ((108 - m.log2:Nat):Int)) % 2).toNat<=1:=by omega
 have d:108 - m.log2<=108:=Nat.sub_le _ _;generalize((i - ((108 - m.log2:Nat):Int)) % 2).toNat=q at *;generalize 108 - m.log2=t at *;omega
theorem agA{a g:Nat}(hg:0<g)(h:g∣a):Hy a g=a / g:=by
 obtain⟨t,rfl⟩:=h;unfold Hy;rw[Nat.mul_mod_right,aMb];have z:decide (g<0)=false:=iH (avm _)
 have o:(g==0)=false:=by
  cases d:g==0
  .rfl
  .have:=Aw d;omega
 rw[z,o];rfl
theorem awl{a:Nat}(h:2 ^ 52<=a):2 ^ 52<=Hy a (2 ^ (a.log2 - 52))/\Hy a (2 ^ (a.log2 - 52))<=2 ^ 53:=by
 have h0:a≠0:=by have:=aaZ 52;omega
 have d:52<=a.log2:=(aJq h0).2 h;have l1:=aHK h0;have l2:=aId (n:=a);constructor
 .refine aa2 ?_ (Ui _ _);rw[axF (aaZ _),<-ahO,show 52+(a.log2 - 52)=a.log2 by omega];exact l1
 .refine aa2 (aaV _ _) ?_
  have:a / 2 ^ (a.log2 - 52)<2 ^ 53:=by rw[aHr (aaZ _),<-ahO,show 53+(a.log2 - 52)=a.log2+1 by omega];exact l2
  exact this
theorem aBV{a:Nat}(h:2 ^ 52<=a):rv 52 (rq 52 a 1)=Hy a (2 ^ (a.log2 - 52))*2 ^ (a.log2 - 52):=by
 obtain⟨H,E⟩:=awl h;unfold rq;rw[aJe,aHp];generalize Hy a (2 ^ (a.log2 - 52))=R at *;generalize a.log2 - 52=k;have d:(2:Nat) ^ 52=4503599627370496:=by decide
 have o:(2:Nat) ^ 53=9007199254740992:=by decide
 rw[d]at H;rw[o]at E;rw[d,Uj (by omega)];rcases aH9 R 9007199254740992 with e |e
 .have z:(k*4503599627370496+R) % 4503599627370496=R - 4503599627370496:=by omega
  have t:(k*4503599627370496+R) / 4503599627370496=k+1:=by omega
  rw[z,t,aIj,show 4503599627370496+(R - 4503599627370496)=R by omega]
 .have h0:R=9007199254740992:=by omega
  subst h0;have z:(k*4503599627370496+9007199254740992) % 4503599627370496=0:=by omega
  have t:(k*4503599627370496+9007199254740992) / 4503599627370496=k+2:=by omega
  rw[z,t,aIA,show k+2 - 1=k+1 by omega,aBg,show(9007199254740992:Nat)=4503599627370496*2 by decide,arA,aEw (2 ^ k) 2]
def Gr(k x:Nat):Prop:=2 ^ k∣(val x).natAbs
theorem Gr.mono{k l x:Nat}(h:Gr k x)(hl:l<=k):Gr l x:=aN2 (aNA 2 hl) h
theorem Oc{s:Bool}{m n u:Nat}{p:Int}(hp:p+1074=(u:Int))(h:m*2 ^ u<=2 ^ n)(d:52<=n):Bd n (double.nearest s m p):=by have e:=wW s m u 0 p (by omega);unfold Bd;rw[e,Kv,zP s (aI8 _ _),axO];refine aa2 (aK4 _ _) (aa2 (Dc 52 h) ?_);rw[<-akc d,akd];exact ND _
theorem aCi{c n:Nat}(hc:52<=c)(h0:n≠0)(h:n<2 ^ 53):rv 52 (rq 52 (n*2 ^ c) 1)=n*2 ^ c:=by
 have d:2 ^ 52<=n*2 ^ c:=aa2 (agX (by decide) hc) (Nat.le_mul_of_pos_left _ (by omega));have hl:n.log2<53:=(aNJ h0).2 h
 have o:2 ^ ((n*2 ^ c).log2 - 52)∣n*2 ^ c:=by rw[IQ c h0];exact aN2 (aNA 2 (by omega)) (Nat.dvd_mul_left _ _)
 rw[aBV d,agA (aaZ _) o,Nat.div_mul_cancel o]
section
variable{c x y:Nat}{a b:Int}(hc:c=1074)
include hc
omit hc
end
def flr(a:Nat):Nat:=cond (aF a) Ct (double.write ((double.read a).integral .down))
theorem aiv(t:Nat):double.quiet t % 4503599627370496≠0:=λ h=>by
 have d:(double.quiet t % 2 ^ 52).testBit 51=true:=by rw[Nat.testBit_mod_two_pow];show(decide (51<52)&&(t ||| 2 ^ 51).testBit 51)=true;rw[Nat.testBit_or,Nat.testBit_two_pow_self];simp
 have o:double.quiet t % 2 ^ 52=0:=h;rw[o]at d;simp at d
theorem L6(s:Bool)(t:Nat):aF (double.write (.nan s (double.quiet t)))=true:=by
 have h:=aiv t;have hl:double.quiet t % 4503599627370496<4503599627370496:=aHY _ (by decide);unfold aF;rw[ow];show decide (9218868437227405312<double.word s (double.infRung+double.quiet t % double.binade) % 9223372036854775808)=true;rw[Kv,EA];generalize double.quiet t % 4503599627370496=r at h hl;unfold Format.word;rw[CO];cases s
 .simp only[aFs,if_false,UM];omega
 .simp only[if_true,UM];omega
theorem aiw(P:Program)(w:World)(z:String)(b:Nat):∃r w',(aG9 z .down #[.float .f64 b]).run P w=.ok (.float .f64 r) w'/\(w'=w\/w'=w.drew)/\cn r=flr (cn b):=by
 have e:aG9 z .down #[.float .f64 b]=(match double.read b with
  |.nan s t=>if double.quiet t=t then(pure (.float .f64 b):Sem Value)else do
   let E <- choose (.extern "math.Floor,Ceil,Trunc,RoundToEven.signallingNaN kept" 2)
   pure (.float .f64 (if E==1 then b else double.write (.nan s (double.quiet t))))
  |d=>pure (.float .f64 (double.write (d.integral .down)))):=rfl
 rw[e];cases H:double.read b with
 |nan s t =>
  have o:aF b=true:=by unfold aF;rw[H];rfl
  have hf:flr (cn b)=Ct:=by unfold flr;rw[xq,o];rfl
  rw[hf];by_cases hq:double.quiet t=t
  .refine⟨b,w,?_,wV rfl,kR o⟩;simp only[hq,if_true];rfl
  .simp only[hq,if_false]
   have key:∀c:Nat,cn (if c==1 then b else double.write (.nan s (double.quiet t)))=Ct:=λ c=>by
    cases c==1
    .exact kR (L6 s t)
    .exact kR o
   refine ⟨_, w.drew, ?_, Gc rfl, key (Question.cut (.extern "math.Floor,Ceil,Trunc,RoundToEven.signallingNaN kept" 2) (w.tape w.drawn (.extern "math.Floor,Ceil,Trunc,RoundToEven.signallingNaN kept" 2)))⟩
   simp[Question.forced]
 |number s m p =>
  have o:aF b=false:=by unfold aF;rw[H];rfl
  have I:aF (double.write ((Datum.number s m p).integral .down))=false:=uJ rfl;refine⟨_,w,rfl,wV rfl,?_⟩;unfold flr;rw[gB I,gB o,o,H];rfl
 |infinity s =>
  have o:aF b=false:=by unfold aF;rw[H];rfl
  have I:aF (double.write ((Datum.infinity s).integral .down))=false:=uJ rfl;refine⟨_,w,rfl,wV rfl,?_⟩;unfold flr;rw[gB I,gB o,o,H];rfl
end Go.Ev
namespace Go.Proofs.YtdlhemnconimnaaGreat
open Go.Gv
open Go.Ev (flr)
theorem aAF {f : Nat} {fn : Func} {nm : String} (hf : bO.funcs[f]? = some fn) (hname : (fn.name == "runtime.NumGoroutine") = false) (z : fn.body.isNone = true) (o : Extern.findNext fn = none)
  (he:Extern.find fn=some (aG9 nm .down)) (a:Nat):Cg bO f [.f a] (.f (flr a)):=λ E K hv=>by
 obtain⟨l⟩:=K;obtain⟨v,t,e1,I,H⟩:=aD.1 hv;have e2:=bR.1 H;obtain⟨b,rfl,rfl⟩:=kU.1 I;have e3:l=[.float .f64 b]:=by rw[e2]at e1;exact e1
 subst e3;obtain⟨r,d,J,g2,g3⟩:=Go.Ev.aiw bO E.w nm b;refine⟨.float .f64 r,d,?_,g2,kU.2 ⟨r,rfl,g3⟩⟩;rw[run_callFunc_extern hf hname z o he,J];rfl
def gFl(h:Nat->Nat):List AV->Option AV
 | [.f a]=>some (.f (h a))
 |_=>none
theorem atK:jr bO ⟨190,gFl flr⟩:=λ o r d=>by
 simp only[gFl]at d;split at d
 .cases d; exact Gc (aAF (nm := "math.archFloor") Tryz.func190 (by kernel_rfl) rfl (by kernel_rfl) (by kernel_rfl) _)
 .cases d
theorem aE2(h:Nat->Nat)(a:Nat):ev bO [⟨190,gFl h⟩] [] bC Tryz.f169 [.f a] ret=some (Out.of (.f (h a))):=by kernel_rfl
theorem aAt:jr bO ⟨169,gFl flr⟩:=λ o r d=>by
 simp only[gFl]at d;split at d
 .cases d;exact wV (aR (aL atK aB) ay Tryz.func169 aC (aE2 flr _))
 .cases d
end Go.Proofs.YtdlhemnconimnaaGreat
namespace Go.Ev
open Ieee
def VB(a j x:Nat):Prop:=isFin x=true/\(val x).natAbs<=a*2 ^ j
theorem VB.up{a j k x:Nat}(h:VB a j x)(d:a<=2 ^ k):VB 1 (j+k) x:=⟨h.1,aa2 h.2 (by rw[aHp,ahO,aEw];exact apL _ d)⟩
theorem RA{z g a j:Nat}{v:Int}(E:key z=KR v g)(hg:0<g)(hv:v.natAbs<=a*2 ^ j*g)(ha:a≠0)(d:a<2 ^ 53)(I:52<=j)(H:j<=2000):VB a j z:=by
 have t:rung z<=rq 52 (a*2 ^ j) 1:=by rw[<-MC,E];exact aa2 (axL v g) (aq4 52 hg (by decide) (by rw[aHo];exact hv))
 constructor
 .have K:rq 52 (a*2 ^ j) 1<=LC (53+j):=by refine aa2 (Dc 52 (ahL _ (aHR d))) ?_;rw[<-ahO,<-akc (by omega),akd];exact ND _
  have J:Bd (53+j) z:=aa2 t K;exact J.fin (by omega)
 .rw[qw];have o:=aCE t;rw[aCi I ha d]at o;exact o
theorem Ee(a j:Nat):VB a j 0:=⟨by decide +kernel,by have:val 0=0:=val_zero.2 (by decide);rw[this];exact alz _⟩
section
variable{c x y a b i j:Nat}(hc:c=1074)
theorem Uz(o:VB a j x)(hy:VB b j y)(h0:a+b≠0)(h:a+b<2 ^ 53)(t:52<=j)(d:j<=2000):VB (a+b) j (aM x y):=by refine RA (Eh o.1 hy.1).1 (by decide) ?_ h0 h t d;have E:=o.2;have z:=hy.2;rw[aHo,auK];generalize a*2 ^ j=A at *;generalize b*2 ^ j=B at *;omega
theorem ajA(o:VB a j x)(hy:VB b j y)(h0:a+b≠0)(h:a+b<2 ^ 53)(t:52<=j)(d:j<=2000):VB (a+b) j (aU x y):=by refine RA (H8 o.1 hy.1).1 (by decide) ?_ h0 h t d;have E:=o.2;have z:=hy.2;rw[aHo,auK];generalize a*2 ^ j=A at *;generalize b*2 ^ j=B at *;omega
include hc
theorem Dh{k:Nat}(o:VB a i x)(hy:VB 1 j y)(t:k+c=i+j)(h0:a≠0)(h:a<2 ^ 53)(z:52<=k)(d:k<=2000):VB a k (aX x y):=by refine RA (yD hc o.1 hy.1).1 (aaZ _) ?_ h0 h z d;rw[aHq,arA,<-ahO,t,ahO,<-arA];have:=hy.2;rw[aHp]at this;exact aHI o.2 this
end
theorem axN(o:Toward)(s:Bool)(n d:Nat):o.cut s n d<=n+1:=by unfold Toward.cut;exact Nat.add_le_add (Nat.div_le_self n _) (Bo _)
theorem OB{c j x:Nat}(d:Toward)(hc:c=1074)(o:VB 1 (c+j) x)(t:53<=j):∃s M,(double.read x).integral d=.number s M 0/\M<=2 ^ j+1:=by
 obtain⟨m,i,E,J,I,z⟩:=j5 o.1;have hv:=o.2;rw[qw,z,aHp]at hv;rw[E];refine⟨_,_,rfl,aa2 (axN _ _ _ _) (aMr ?_ 1)⟩;rw[aG6];by_cases H:0<=i
 .obtain⟨u,rfl⟩:∃u:Nat,i=u:=⟨i.toNat,by omega⟩;rw[show((u:Int)+1074).toNat=u+c by omega,ahO,<-arA,aI1 c j,ahO]at hv;have:=Nat.le_of_mul_le_mul_right hv (aaZ c);rw[pF];exact this
 .rw[show i.toNat=0 by omega,axO,aHo];have:2 ^ 53<=2 ^ j:=agX (by decide) t;have e:2 ^ 53=9007199254740992:=by decide
  omega
theorem axP{c j x:Nat}(hc:c=1074)(d:VB 1 (c+j) x)(z:53<=j)(t:j<=60):VB 1 (c+(j+1)) (flr x):=by
 obtain⟨s,M,E,H⟩:=OB .down hc d z;unfold flr;rw[dX d.1,eU,E];show VB 1 (c+(j+1)) (double.nearest s M 0)
 have o:Bd (c+(j+1)) (double.nearest s M 0):=by refine Oc (u:=c) (by omega) ?_ (by omega);rw[aI1 c,ahO];refine ahL _ ?_;rw[aBg];have:=aaZ j;omega
 refine⟨o.fin (by omega),?_⟩;rw[aHp];exact o.val (by omega)
theorem abT{c j x:Nat}(hc:c=1074)(o:VB 1 (c+j) x)(z:53<=j)(d:j<=60):Go.Gv.Fb .i64 x=true:=by
 obtain⟨s,M,I,H⟩:=OB .zero hc o z;have K:M<=2 ^ 60+1:=aa2 H (aMr (agX (by decide) d) 1);have J:2 ^ 60=1152921504606846976:=by decide
 unfold Go.Gv.Fb floatToIntVal
 have t:(aHQ.decode x).toInt .zero=some (signed s M 0):=by show(double.read x).toInt .zero=_;unfold Datum.toInt;rw[I]
 rw[t]
 have hs:signed s M 0=cond s (-(M:Int)) (M:Int):=by rw[xG,axO,aHo]
 have E:aHy.min<=signed s M 0/\signed s M 0<=aHy.max:=by
  rw[hs,show aHy.min=-9223372036854775808 by decide,show aHy.max=9223372036854775807 by decide];cases s
  .rw[eU];omega
  .rw[aY];omega
 simp only[E,and_self,if_true];rfl
def cel(a:Nat):Nat:=cond (aF a) Ct (double.write ((double.read a).integral .up))
theorem aol(P:Program)(w:World)(z:String)(b:Nat):∃r w',(aG9 z .up #[.float .f64 b]).run P w=.ok (.float .f64 r) w'/\(w'=w\/w'=w.drew)/\cn r=cel (cn b):=by
 have e:aG9 z .up #[.float .f64 b]=(match double.read b with
  |.nan s t=>if double.quiet t=t then(pure (.float .f64 b):Sem Value)else do
   let E <- choose (.extern "math.Floor,Ceil,Trunc,RoundToEven.signallingNaN kept" 2)
   pure (.float .f64 (if E==1 then b else double.write (.nan s (double.quiet t))))
  |d=>pure (.float .f64 (double.write (d.integral .up)))):=rfl
 rw[e];cases H:double.read b with
 |nan s t =>
  have o:aF b=true:=by unfold aF;rw[H];rfl
  have hf:cel (cn b)=Ct:=by unfold cel;rw[xq,o];rfl
  rw[hf];by_cases hq:double.quiet t=t
  .refine⟨b,w,?_,wV rfl,kR o⟩;simp only[hq,if_true];rfl
  .simp only[hq,if_false]
   have key:∀c:Nat,cn (if c==1 then b else double.write (.nan s (double.quiet t)))=Ct:=λ c=>by
    cases c==1
    .exact kR (L6 s t)
    .exact kR o
   refine ⟨_, w.drew, ?_, Gc rfl, key (Question.cut (.extern "math.Floor,Ceil,Trunc,RoundToEven.signallingNaN kept" 2) (w.tape w.drawn (.extern "math.Floor,Ceil,Trunc,RoundToEven.signallingNaN kept" 2)))⟩
   simp[Question.forced]
 |number s m p =>
  have o:aF b=false:=by unfold aF;rw[H];rfl
  have I:aF (double.write ((Datum.number s m p).integral .up))=false:=uJ rfl;refine⟨_,w,rfl,wV rfl,?_⟩;unfold cel;rw[gB I,gB o,o,H];rfl
 |infinity s =>
  have o:aF b=false:=by unfold aF;rw[H];rfl
  have I:aF (double.write ((Datum.infinity s).integral .up))=false:=uJ rfl;refine⟨_,w,rfl,wV rfl,?_⟩;unfold cel;rw[gB I,gB o,o,H];rfl
theorem aAq{c j x:Nat}(hc:c=1074)(d:VB 1 (c+j) x)(z:53<=j)(t:j<=60):VB 1 (c+(j+1)) (cel x):=by
 obtain⟨s,M,E,H⟩:=OB .up hc d z;unfold cel;rw[dX d.1,eU,E];show VB 1 (c+(j+1)) (double.nearest s M 0)
 have o:Bd (c+(j+1)) (double.nearest s M 0):=by refine Oc (u:=c) (by omega) ?_ (by omega);rw[aI1 c,ahO];refine ahL _ ?_;rw[aBg];have:=aaZ j;omega
 refine⟨o.fin (by omega),?_⟩;rw[aHp];exact o.val (by omega)
theorem lg{j k x:Nat}(h:VB 1 j x)(d:j<=k):VB 1 k x:=⟨h.1,aa2 h.2 (apL _ (agX (by decide) d))⟩
theorem M6{c x:Nat}(hc:c=1074)(o:iL x 13920209183539462144=true)(d:iB x 4696837146684686336=true):VB 1 (c+20) x:=by
 obtain⟨f,H,E⟩:=Xb o d;refine⟨f,?_⟩;have e1:key 13920209183539462144=-4696837146684686336:=by decide +kernel
 have e2:key 4696837146684686336=4696837146684686336:=by decide +kernel
 have a1:=jZ.2 (show key 13920209183539462144<=key x by omega);have I:=jZ.2 (show key x<=key 4696837146684686336 by omega);have z:(val 4696837146684686336).natAbs<=1*2 ^ (c+20):=by subst hc;decide +kernel
 have t:(val 13920209183539462144).natAbs<=1*2 ^ (c+20):=by subst hc;decide +kernel
 generalize 1*2 ^ (c+20)=B at *;omega
theorem ou{c j x:Nat}(hc:c=1074)(h:(isFin x&&apB (val x).natAbs (1*2 ^ (1074+j)))=true):VB 1 (c+j) x:=by subst hc;simp only[CX]at h;exact⟨h.1,Ou h.2⟩
end Go.Ev
namespace Go.Proofs.YtdlhemnconimnaaGreat
open Go.Gv
open Go.Ev (cel)
theorem aER {f : Nat} {fn : Func} {nm : String} (hf : bO.funcs[f]? = some fn) (hname : (fn.name == "runtime.NumGoroutine") = false) (z : fn.body.isNone = true) (o : Extern.findNext fn = none)
  (he:Extern.find fn=some (aG9 nm .up)) (a:Nat):Cg bO f [.f a] (.f (cel a)):=λ E K hv=>by
 obtain⟨l⟩:=K;obtain⟨v,t,e1,I,H⟩:=aD.1 hv;have e2:=bR.1 H;obtain⟨b,rfl,rfl⟩:=kU.1 I;have e3:l=[.float .f64 b]:=by rw[e2]at e1;exact e1
 subst e3;obtain⟨r,d,J,g2,g3⟩:=Go.Ev.aol bO E.w nm b;refine⟨.float .f64 r,d,?_,g2,kU.2 ⟨r,rfl,g3⟩⟩;rw[run_callFunc_extern hf hname z o he,J];rfl
theorem atC:jr bO ⟨170,gFl cel⟩:=λ o r d=>by
 simp only[gFl]at d;split at d
 .cases d; exact Gc (aER (nm := "math.archCeil") Tryz.func170 (by kernel_rfl) rfl (by kernel_rfl) (by kernel_rfl) _)
 .cases d
theorem aES(h:Nat->Nat)(a:Nat):ev bO [⟨170,gFl h⟩] [] bC Tryz.f148 [.f a] ret=some (Out.of (.f (h a))):=by kernel_rfl
theorem aAr:jr bO ⟨148,gFl cel⟩:=λ o r d=>by
 simp only[gFl]at d;split at d
 .cases d;exact wV (aR (aL atC aB) ay Tryz.func148 aC (aES cel _))
 .cases d
end Go.Proofs.YtdlhemnconimnaaGreat
namespace Go.Proofs.YtdlhemnconimnaaGreat.Hs
open Go.Gv
open Go.Ev (cn aM aU aX fdiv bD dG dR dN iB bW iL fabs aF flr cel VB)
abbrev w3(a b c:Int):AV:=.agg [iA a,iA b,iA c]
def aom:Nat:=4652218415073722368
def half:Nat:=4602678819172646912
def Vr:Nat:=4679240012837945344
def whF(x:Nat):Nat:=flr (aM (aX x aom) half)
def FZ(x:Nat):Int:=FE .i64 (whF x)
def whO(x:Nat):Bool:=Fb .i64 (whF x)
def leF(x:Nat):Nat:=cel (aX x Vr)
theorem aon{c x:Nat}(hc:c=1074)(h:VB 1 (c+21) x):whO x=true:=by have H:=Go.Ev.Dh hc h (Go.Ev.ou (j:=10) (x:=aom) hc (by decide +kernel)) (k:=c+31) (by omega) (by decide) (by decide) (by omega) (by omega);have E:=Go.Ev.lg H (show c+31<=c+53 by omega);have z:=Go.Ev.Uz E (Go.Ev.ou (j:=53) (x:=half) hc (by decide +kernel)) (by decide) (by decide) (by omega) (by omega);have t:VB 1 (c+54) (aM (aX x aom) half):=Go.Ev.VB.up (k:=1) z (by decide);have o:=Go.Ev.axP (j:=54) hc t (by omega) (by omega);have d:=Go.Ev.abT (j:=55) hc o (by omega) (by omega);unfold whO whF;exact d
theorem aAs{c x:Nat}(hc:c=1074)(h:VB 1 (c+20) x):Fb .i64 (leF x)=true:=by have z:=Go.Ev.Dh hc h (Go.Ev.ou (j:=16) (x:=Vr) hc (by decide +kernel)) (k:=c+36) (by omega) (by decide) (by decide) (by omega) (by omega);have t:=Go.Ev.lg z (show c+36<=c+53 by omega);have o:=Go.Ev.aAq (j:=53) hc t (by omega) (by omega);have d:=Go.Ev.abT (j:=54) hc o (by omega) (by omega);unfold leF;exact d
theorem oH{x:Nat}(h:iF x=true):iL x 13920209183539462144=true/\iB x 4696837146684686336=true:=by
 unfold iF at h;cases d:iL x 13920209183539462144
 .rw[d]at h;cases h
 .rw[d]at h;exact⟨rfl,h⟩
theorem Jq{x:Nat}(h:iF x=true):whO x=true:=by obtain⟨c,hc⟩:∃c,c=1074:=⟨_,rfl⟩;exact aon hc (Go.Ev.lg (Go.Ev.M6 hc (oH h).1 (oH h).2) (by omega))
theorem acF{x y:Nat}(h:iF x=true)(g:iF y=true):whO (aU x y)=true:=by obtain⟨c,hc⟩:∃c,c=1074:=⟨_,rfl⟩;have a:=Go.Ev.M6 hc (oH h).1 (oH h).2;have b:=Go.Ev.M6 hc (oH g).1 (oH g).2;have d:=Go.Ev.ajA a b (by decide) (by decide) (by omega) (by omega);have o:VB 1 (c+21) (aU x y):=Go.Ev.VB.up (k:=1) d (by decide);exact aon hc o
theorem arI{x:Nat}(h:iF x=true):Fb .i64 (leF x)=true:=by obtain⟨c,hc⟩:∃c,c=1074:=⟨_,rfl⟩;exact aAs hc (Go.Ev.M6 hc (oH h).1 (oH h).2)
def Y0:List Entry:=⟨169,gFl flr⟩::⟨148,gFl cel⟩::X2
theorem Y6:∀e,e∈Y0->jr bO e:=aL aAt <|aL aAr rO
theorem aoo(x:Nat):ev bO Y0 [] bC Tryz.f300 [.f x] ret=cond (whO x||false) (some (Out.of (iA (FZ x)))) none:=by kernel_rfl
theorem O4{x:Nat}(h:whO x=true):aj bO 300 [.f x] (iA (FZ x)):=by refine sp Y6 Tryz.func300 ((aoo x).trans ?_);rw[h];rfl
def whG:List AV->AV
 | [.f x]=>iA (FZ x)
 |_=>.any
noncomputable def whK:bf:=kS bO 300 whG
noncomputable def gWh(x:Nat)(o:Option Out):Option Out:=gate (aj bO 300 [.f x] (iA (FZ x))) o
theorem ait(a b c:Nat):ev bO Y0 [whK] bC Tryz.f298 [V a b c] ret=gWh a (gWh b (gWh c (some (Out.of (w3 (FZ a) (FZ b) (FZ c)))))):=by kernel_rfl
theorem afm{a b c:Nat}(ha:whO a=true)(d:whO b=true)(hc:whO c=true):aj bO 298 [V a b c] (w3 (FZ a) (FZ b) (FZ c)):=by refine aR Y6 (au aG ay) Tryz.func298 aC ((ait a b c).trans ?_);unfold gWh;rw[ak (O4 ha),ak (O4 d),ak (O4 hc)]
end Go.Proofs.YtdlhemnconimnaaGreat.Hs
namespace Go.Ev
open Ieee
theorem KQ{c:Nat}(hc:c=1074)(n:Int):key (cn (aHQ.nearest n))=KR (n*((2 ^ c:Nat):Int)) 1/\aF (cn (aHQ.nearest n))=false:=by
 have o:aHQ.nearest n=Ieee.double.nearest (decide (n<0)) n.natAbs 0:=rfl;have d:aF (aHQ.nearest n)=false:=by rw[o];exact Gb _ _ _
 rw[gB d];refine⟨?_,d⟩;rw[o];refine yM (u:=c) (w:=0) (by decide) (by omega) ?_ ?_
 .rw[aHq,aHz,axO]
 .intro h;have hp:(0:Int)<((2 ^ c:Nat):Int):=by have:=aaZ c;omega
  by_cases h0:n<0
  .rw[gG h0,gG (Int.mul_neg_of_neg_of_pos h0 hp)]
  .rw[iH h0,iH (Int.not_lt.2 (Int.mul_nonneg (by omega) (by omega)))]
theorem MW{c j:Nat}(hc:c=1074)(d:j<=70){n:Int}(h:n.natAbs<=2 ^ j):VB 1 (c+j) (cn (aHQ.nearest n)):=by refine RA (KQ hc n).1 (by decide) ?_ (by decide) (by decide) (by omega) (by omega);rw[aHq,aHz,aHo,aHp,ahO,aEw];exact apL _ h
theorem IL{j x:Nat}(h:VB 1 j x):VB 1 j (dG x):=by
 obtain⟨e1,e2⟩:=Di (dX h.1);have d:rung (dG x)=rung x:=by rw[<-MC,<-MC,e1,aJD]
 refine⟨?_,?_⟩
 .have:=h.1;unfold isFin at this ⊢;rw[d];exact this
 .have:=h.2;rw[qw]at this ⊢;rw[d];exact this
end Go.Ev
namespace Go.Proofs.YtdlhemnconimnaaGreat.Hs.So
open Go.Gv
open Go.Ev (cn aM aU aX fdiv bD dG dR dN iB bW iL fabs VB key aF isFin val)
theorem rD{c j:Nat}(hc:c=1074)(z:j<=60){n:Int}(h:n.natAbs<=2 ^ (j+9)):VB 1 (c+j) (bU n):=by
 have d:=Go.Ev.MW hc (j:=j+9) (by omega) h;have ev:val zJ=((1000*2 ^ c:Nat):Int):=by subst hc;decide +kernel
 have hp:=aaZ c;have o:=(Go.Ev.Ei hc d.1 (show isFin zJ=true by decide +kernel) (by rw[ev];omega)).1;unfold bU;refine Go.Ev.RA o ?_ ?_ (by decide) (by decide) (by omega) (by omega)
 .rw[ev,aHz];omega
 .rw[ev,aHq,aHq,aHz,aHz]
  have t:(Go.Ev.CV ((1000*2 ^ c:Nat):Int)).natAbs=1:=by unfold Go.Ev.CV;rw[iH (by omega)];rfl
  rw[t,aHo,aHp,<-arA];refine ahL _ (aa2 d.2 ?_);rw[aHp,<-aIW,ahO _ _ 9];exact apL _ (by decide)
theorem yZ{c j x:Nat}(hc:c=1074)(z:j<=46)(h:VB 1 (c+j) x):VB 1 (c+(j+11)) (yU x):=by have t:=Go.Ev.Dh hc h (Go.Ev.ou (j:=10) (x:=zJ) hc (by decide +kernel)) (k:=c+(j+10)) (by omega) (by decide) (by decide) (by omega) (by omega);have o:=Go.Ev.lg (Go.Ev.ou (j:=0) (x:=4602678819172646912) hc (by decide +kernel)) (show c+0<=c+(j+10) by omega);have d:=Go.Ev.Uz t o (by decide) (by decide) (by omega) (by omega);exact Go.Ev.VB.up (k:=1) d (by decide)
theorem ajK{c j x:Nat}(hc:c=1074)(o:j<=46)(h:VB 1 (c+j) x):rdB x=true:=by
 have d:∀{x},VB 1 (c+j) x->Fb .i64 (yU x)=true:=fun{x} h=>Go.Ev.abT (j:=57) hc (Go.Ev.lg (yZ hc o h) (by omega)) (by omega) (by omega);unfold rdB;cases dN x 0
 .exact d h
 .exact d (Go.Ev.IL h)
theorem lU{c j x y:Nat}(hc:c=1074)(o:j<=60)(h:VB 1 (c+j) x)(g:VB 1 (c+j) y):VB 1 (c+(j+1)) (aM x y):=by have d:=Go.Ev.Uz h g (by decide) (by decide) (by omega) (by omega);exact Go.Ev.VB.up (k:=1) d (by decide)
end Go.Proofs.YtdlhemnconimnaaGreat.Hs.So
namespace Go.Ev
open Ieee
theorem ayH(s:Bool)(n d:Nat):Toward.zero.cut s n d=n / 2 ^ d:=by
 unfold Toward.cut;show n / (1 <<< min d (n.log2+2))+0=n / 2 ^ d;rw[aIA,Nat.one_shiftLeft];by_cases h:d<=n.log2+2
 .rw[aJH h]
 .rw[Nat.min_eq_right (by omega)];have z:n<2 ^ (n.log2+1):=aId;have t:2 ^ (n.log2+1)<=2 ^ (n.log2+2):=agX (by decide) (by omega);have o:2 ^ (n.log2+1)<=2 ^ d:=agX (by decide) (by omega);rw[aHw (by omega),aHw (by omega)]
theorem acH{c x:Nat}(hc:c=1074)(o:isFin x=true):(double.read x).integral .zero=.number (dP x) ((val x).natAbs / 2 ^ c) 0:=by
 obtain⟨m,i,E,J,I,z⟩:=j5 o;rw[E,qw,z];show Datum.number (dP x) (Toward.zero.cut (dP x) (m <<< i.toNat) (-i).toNat) 0=_;congr 1;rw[ayH,aG6];by_cases H:0<=i
 .obtain⟨u,rfl⟩:∃u:Nat,i=u:=⟨i.toNat,by omega⟩;rw[show(-(u:Int)).toNat=0 by omega,axO,aJe,pF,show((u:Int)+1074).toNat=u+c by omega,ahO,<-arA,aJm _ (aaZ c)]
 .obtain⟨d,t⟩:∃d:Nat,i=-(d:Int)/\d<=c:=⟨(-i).toNat,by omega,by omega⟩;rw[t.1,show(-(d:Int)).toNat=0 by omega,axO,aHo,show(- -(d:Int)).toNat=d by omega,show(-(d:Int)+1074).toNat=c - d by omega];have e:2 ^ c=2 ^ d*2 ^ (c - d):=by rw[<-ahO];congr 1;omega
  rw[e,Nat.mul_div_mul_right _ _ (aaZ _)]
theorem ahP{c x:Nat}(hc:c=1074)(o:isFin x=true)(z:(val x).natAbs / 2 ^ c<=4611686018427387904):Go.Gv.FE .i64 x=cond (dP x) (-(((val x).natAbs / 2 ^ c:Nat):Int)) (((val x).natAbs / 2 ^ c:Nat):Int):=by
 have d:=acH hc o;generalize(val x).natAbs / 2 ^ c=M at d z ⊢;unfold Go.Gv.FE floatToIntVal
 have t:(aHQ.decode x).toInt .zero=some (signed (dP x) M 0):=by show(double.read x).toInt .zero=_;unfold Datum.toInt;rw[d]
 rw[t]
 have hs:signed (dP x) M 0=cond (dP x) (-(M:Int)) (M:Int):=by rw[xG,axO,aHo]
 have E:aHy.min<=signed (dP x) M 0/\signed (dP x) M 0<=aHy.max:=by
  rw[hs,show aHy.min=-9223372036854775808 by decide,show aHy.max=9223372036854775807 by decide];cases dP x
  .rw[eU];omega
  .rw[aY];omega
 simp only[E,and_self,if_true,apP];exact hs
theorem Ez{c x:Nat}(hc:c=1074)(d:isFin x=true)(h0:0<=val x)(o:(val x).natAbs / 2 ^ c<=4611686018427387904):Go.Gv.FE .i64 x=(((val x).natAbs / 2 ^ c:Nat):Int):=by
 rw[ahP hc d o];cases hs:dP x
 .rfl
 .have e:val x=-(rv 52 (rung x):Int):=by unfold val;rw[hs];rfl
  have z:(val x).natAbs=0:=by omega
  rw[z,aK9];rfl
theorem akp{c x y:Nat}(hc:c=1074)(d:isFin x=true)(hy:isFin y=true)(h0:0<=val x)(h:key x<=key y)(o:(val y).natAbs / 2 ^ c<=4611686018427387904):Go.Gv.FE .i64 x<=Go.Gv.FE .i64 y:=by have hv:=jZ.2 h;have t:(val x).natAbs / 2 ^ c<=(val y).natAbs / 2 ^ c:=aJd (by omega);rw[Ez hc d h0 (by omega),Ez hc hy (by omega) o];omega
theorem VB.cut{c a j x:Nat}(h:VB a j x):(val x).natAbs / 2 ^ c<=a*2 ^ j / 2 ^ c:=aJd h.2
theorem acI{c x:Nat}(hc:c=1074)(h:VB 1 (c+19) x):aF x=false/\-4696837146684686336<=key x/\key x<=4696837146684686336:=by
 have e1:key 13920209183539462144=-4696837146684686336:=by decide +kernel
 have e2:key 4696837146684686336=4696837146684686336:=by decide +kernel
 have o:((1*2 ^ (c+19):Nat):Int)<=val 4696837146684686336:=by subst hc;decide +kernel
 have d:val 13920209183539462144<=-((1*2 ^ (c+19):Nat):Int):=by subst hc;decide +kernel
 have t:=h.2;generalize 1*2 ^ (c+19)=B at *;have a1:=jZ.1 (show val 13920209183539462144<=val x by omega);have z:=jZ.1 (show val x<=val 4696837146684686336 by omega);exact⟨dX h.1,by omega,by omega⟩
end Go.Ev
namespace Go.Proofs.YtdlhemnconimnaaGreat.Hs.So
open Go.Gv
open Go.Ev (cn aM aU aX fdiv bD dG dR dN iB bW iL fabs VB key aF isFin val)
theorem ru{c x:Nat}(hc:c=1074)(h:VB 1 (c+19) x):iF x=true:=by
 obtain⟨d,t,o⟩:=Go.Ev.acI hc h;have c1:key 13920209183539462144=-4696837146684686336:=by decide +kernel
 have z:key 4696837146684686336=4696837146684686336:=by decide +kernel
 unfold iF;rw[Go.Ev.qm d (by decide +kernel),gG (by omega),aY,Go.Ev.iX d (by decide +kernel),gG (by omega)]
theorem nC{c:Nat}(hc:c=1074){m n:Int}(h:m<=n)(o:m.natAbs<=2 ^ 60)(d:n.natAbs<=2 ^ 60):key (bU m)<=key (bU n):=by have z:=(Go.Ev.MW hc (j:=60) (by decide) o).1;have t:=(Go.Ev.MW hc (j:=60) (by decide) d).1;unfold bU;refine Go.Ev.J9 z t (by decide +kernel) (by decide +kernel) ?_;rw[(Go.Ev.KQ hc m).1,(Go.Ev.KQ hc n).1];exact Go.Ev.nQ 1 (aI0 h (avq _))
open Go.Ev (bS)
theorem Rx{c:Nat}(hc:c=1074):val zJ=((1000*2 ^ c:Nat):Int):=by subst hc;decide +kernel
theorem Kw:isFin zJ=true:=by decide +kernel
theorem XW{x y:Nat}(d:isFin x=true)(hy:isFin y=true)(h:key x<=key y):key (aX x zJ)<=key (aX y zJ):=by obtain⟨c,hc⟩:∃c,c=1074:=⟨_,rfl⟩;rw[(Go.Ev.yD hc d Kw).1,(Go.Ev.yD hc hy Kw).1];have hv:=Go.Ev.jZ.2 h;refine Go.Ev.nQ _ (aI0 hv ?_);rw[Rx hc];exact avq _
theorem XY{c j x y:Nat}(hc:c=1074)(t:j<=46)(d:VB 1 (c+j) x)(hy:VB 1 (c+j) y)(h:key x<=key y):key (yU x)<=key (yU y):=by have o:=Go.Ev.Dh hc d (Go.Ev.ou (j:=10) (x:=zJ) hc (by decide +kernel)) (k:=c+(j+10)) (by omega) (by decide) (by decide) (by omega) (by omega);have m2:=Go.Ev.Dh hc hy (Go.Ev.ou (j:=10) (x:=zJ) hc (by decide +kernel)) (k:=c+(j+10)) (by omega) (by decide) (by decide) (by omega) (by omega);exact Go.Ev.Rf o.1 m2.1 (by decide +kernel) (XW d.1 hy.1 h)
theorem II{c j x:Nat}(hc:c=1074)(o:j<=46)(d:VB 1 (c+j) x)(h:0<=key x):0<=val (yU x):=by
 have z:VB 1 (c+j) 0:=Go.Ev.Ee 1 (c+j);have k0:key 0=0:=by decide +kernel
 have I:=XY hc o z d (by omega);have H:0<=key (yU 0):=by decide +kernel
 have E:=Go.Ev.jZ.2 (show key 0<=key (yU x) by omega);have t:val 0=0:=by decide +kernel
 omega
theorem IJ{c j x:Nat}(d:j<=60)(h:VB 1 (c+j) x):(val x).natAbs / 2 ^ c<=4611686018427387904:=by refine aa2 (Go.Ev.VB.cut h) ?_;rw[aHp,ahO,aEw,aJm _ (aaZ c)];exact aa2 (agX (by decide) d) (by decide)
theorem Rz{c j x y:Nat}(hc:c=1074)(d:j<=46)(o:VB 1 (c+j) x)(hy:VB 1 (c+j) y)(h0:0<=key x)(h:key x<=key y):FE .i64 (yU x)<=FE .i64 (yU y) :=Go.Ev.akp hc (yZ hc d o).1 (yZ hc d hy).1 (II hc d o h0) (XY hc d o hy h) (IJ (by omega) (yZ hc d hy))
theorem IK{x:Nat}(d:isFin x=true)(h:0<=key x):dN x 0=false:=by
 have k0:key 0=0:=by decide +kernel
 rw[bS (Go.Ev.dX d) (by decide +kernel),iH (by omega)]
theorem awS{x:Nat}(d:isFin x=true)(h:key x<0):dN x 0=true:=by
 have k0:key 0=0:=by decide +kernel
 rw[bS (Go.Ev.dX d) (by decide +kernel),gG (by omega)]
theorem oM{c:Nat}(hc:c=1074){p:Int}(h:p.natAbs<=1024):VB 1 (c+1) (bU p):=rD hc (by decide) (by show _<=1024;exact h)
section
variable{e:Nat}(he:∀c,c=1074->VB 1 (c+1) e){p0 p1 p:Int}(h0:p0.natAbs<=1024)(hp:p.natAbs<=1024)(a:p0<=p)(b:p<=p1)
include he h0 hp a b
omit b in
theorem abh{c:Nat}(hc:c=1074):VB 1 (c+(1+1)) (aM (bU p0) e)/\VB 1 (c+(1+1)) (aM (bU p) e)/\key (aM (bU p0) e)<=key (aM (bU p) e):=by have v0:=oM hc h0;have v1:=oM hc hp;have d:VB 1 (c+1) e:=he c hc;exact⟨lU hc (by decide) v0 d,lU hc (by decide) v1 d,Go.Ev.Rf v0.1 v1.1 d.1 (nC hc a (by omega) (by omega))⟩
theorem uo(d:0<=key (aM (bU p0) e))(hq:p1<=FE .i64 (yU (aM (bU p0) e))):p<=Xi (aM (bU p) e):=by obtain⟨c,hc⟩:∃c,c=1074:=⟨_,rfl⟩;obtain⟨v0,v1,hm⟩:=abh he h0 hp a hc;have:=Rz hc (by decide) v0 v1 d hm;unfold Xi;rw[IK v1.1 (by omega),eU];omega
theorem ag1(hq:FE .i64 (yU (dG (aM (bU p0) e)))<=-p1):p<=Xi (aM (bU p) e)\/0<=key (aM (bU p) e):=by
 obtain⟨c,hc⟩:∃c,c=1074:=⟨_,rfl⟩;obtain⟨v0,v1,hm⟩:=abh he h0 hp a hc;by_cases t:0<=key (aM (bU p) e)
 .exact Gc t
 left;have n0:=Go.Ev.IL v0;have d:=Go.Ev.IL v1;have k0:=(Go.Ev.Di (Go.Ev.dX v0.1)).1;have z:=(Go.Ev.Di (Go.Ev.dX v1.1)).1;have:=Rz hc (by decide) d n0 (by omega) (by omega);have w:=Go.Ev.Ez hc (yZ hc (by decide) d).1 (II hc (by decide) d (by omega)) (IJ (by decide) (yZ hc (by decide) d));have o:=IJ (by decide) (yZ hc (by decide) d);generalize(val (yU (dG (aM (bU p) e)))).natAbs / 2 ^ c=M at w o;unfold Xi;rw[awS v1.1 (by omega),aY,aO];omega
end
theorem WV:∀c,c=1074->VB 1 (c+1) one:=λ c hc=>Go.Ev.ou (j:=1) hc (by decide +kernel)
theorem TD:∀c,c=1074->VB 1 (c+1) (aM 0 one):=λ c hc=>Go.Ev.ou (j:=1) hc (by decide +kernel)
theorem CK:∀c,c=1074->VB 1 (c+1) 4602678819172646912:=λ c hc=>Go.Ev.ou (j:=1) hc (by decide +kernel)
theorem avt{p:Int}(hp:p.natAbs<=1000):p<=Xi (aM (bU p) (aM 0 one)):=by
 have a1:0<=key (aM (bU (-1000)) (aM 0 one)):=by decide +kernel
 have o:0<=FE .i64 (yU (aM (bU (-1000)) (aM 0 one))):=by decide +kernel
 have b1:0<=key (aM (bU 0) (aM 0 one)):=by decide +kernel
 have b2:1000<=FE .i64 (yU (aM (bU 0) (aM 0 one))):=by decide +kernel
 by_cases d:p<=0
 .exact uo TD (by omega) (by omega) (show -1000<=p by omega) d a1 o
 .exact uo TD (by omega) (by omega) (show 0<=p by omega) (show p<=1000 by omega) b1 b2
theorem aph{p:Int}(hp:p.natAbs<=1000):p<=Xi (aM (bU p) one):=by
 have a1:0<=key (aM (bU (-1000)) one):=by decide +kernel
 have o:0<=FE .i64 (yU (aM (bU (-1000)) one)):=by decide +kernel
 have b1:0<=key (aM (bU 0) one):=by decide +kernel
 have b2:1000<=FE .i64 (yU (aM (bU 0) one)):=by decide +kernel
 by_cases d:p<=0
 .exact uo WV (by omega) (by omega) (show -1000<=p by omega) d a1 o
 .exact uo WV (by omega) (by omega) (show 0<=p by omega) (show p<=1000 by omega) b1 b2
theorem avu{p:Int}(hp:p.natAbs<=1000):p<=Xi (aM (bU p) 4602678819172646912):=by
 have d:FE .i64 (yU (dG (aM (bU (-1000)) 4602678819172646912)))<=-(-500):=by decide +kernel
 have a1:0<=key (aM (bU (-500)) 4602678819172646912):=by decide +kernel
 have I:0<=FE .i64 (yU (aM (bU (-500)) 4602678819172646912)):=by decide +kernel
 have b1:0<=key (aM (bU 0) 4602678819172646912):=by decide +kernel
 have b2:500<=FE .i64 (yU (aM (bU 0) 4602678819172646912)):=by decide +kernel
 have H:0<=key (aM (bU 500) 4602678819172646912):=by decide +kernel
 have E:1000<=FE .i64 (yU (aM (bU 500) 4602678819172646912)):=by decide +kernel
 by_cases z:p<=-500
 .rcases ag1 CK (p1:=-500) (p:=p) (by omega) (by omega) (show -1000<=p by omega) z d with h |h
  .exact h
  .obtain⟨c,hc⟩:∃c,c=1074:=⟨_,rfl⟩;obtain⟨v0,v1,hm⟩:=abh CK (p0:=p) (p:=p) (by omega) (by omega) (af2 _) hc;refine uo CK (by omega) (by omega) (af2 p) (af2 p) h ?_;rw[Go.Ev.Ez hc (yZ hc (by decide) v0).1 (II hc (by decide) v0 h) (IJ (by decide) (yZ hc (by decide) v0))];have:(0:Int)<=(((val (yU (aM (bU p) 4602678819172646912))).natAbs / 2 ^ c:Nat):Int):=avq _;generalize(((val (yU (aM (bU p) 4602678819172646912))).natAbs / 2 ^ c:Nat):Int)=M at this ⊢;omega
 by_cases t:p<=0
 .exact uo CK (by omega) (by omega) (show -500<=p by omega) t a1 I
 by_cases o:p<=500
 .exact uo CK (by omega) (by omega) (show 0<=p by omega) o b1 b2
 .exact uo CK (by omega) (by omega) (show 500<=p by omega) (show p<=1000 by omega) H E
theorem ajJ{c x:Nat}(hc:c=1074)(h:VB 1 c x):(Xi x).natAbs<=1000:=by
 obtain⟨d,t⟩:∃d,c=d+1:=⟨c - 1,by omega⟩
 have z:∀{x},VB 1 c x->0<=key x->0<=FE .i64 (yU x)/\FE .i64 (yU x)<=1000:=fun{x} h h0=>by
  have o:VB 1000 c (aX x zJ):=by refine Go.Ev.RA (Go.Ev.yD hc h.1 Kw).1 (aaZ _) ?_ (by decide) (by decide) (by omega) (by omega);rw[aHq,Rx hc,aHz,aEw];have:=h.2;rw[aHp]at this;exact apL _ this
  have m2:VB 2000 d (aX x zJ):=⟨o.1,aa2 o.2 (by rw[t,aBg];omega)⟩
  have E:VB 1 d 4602678819172646912:=by
   have e:(val 4602678819172646912).natAbs=2 ^ 1073:=by decide +kernel
   refine⟨by decide +kernel,?_⟩;rw[e,aHp,show d=1073 by omega];exact ND _
  have m3:VB 2001 d (yU x):=Go.Ev.Uz m2 E (by decide) (by decide) (by omega) (by omega);have hp:=II hc (j:=0) (by decide) h h0
  have hq:(val (yU x)).natAbs / 2 ^ c<=1000:=by
   have I:=m3.2;rw[t,aBg];have:=aaZ d;have:(val (yU x)).natAbs<1001*(2 ^ d*2):=by omega
   have:=Nat.div_lt_of_lt_mul (show(val (yU x)).natAbs<2 ^ d*2*1001 by omega);omega
  rw[Go.Ev.Ez hc m3.1 hp (by omega)];generalize(val (yU x)).natAbs / 2 ^ c=M at hq ⊢;omega
 unfold Xi;by_cases h0:0<=key x
 .have:=z h h0;rw[IK h.1 h0,eU];omega
 .have H:=(Go.Ev.Di (Go.Ev.dX h.1)).1;have:=z (Go.Ev.IL h) (by omega);rw[awS h.1 (by omega),aY,aO];omega
open Go.Ev (cZ dU)
section
variable{c:Nat}(hc:c=1074)
include hc
theorem vC{x y z:Nat}(h0:VB 1 (c+19) x)(o:VB 1 (c+19) y)(d:VB 1 (c+19) z):fE x y z=true:=by unfold fE;rw[ru hc h0,ru hc o,ru hc d];rfl
omit hc in
theorem Ep{j x y:Nat}(d:VB 1 j x)(hy:VB 1 j y)(h:key x<=key y):bW x y=false:=by rw[cZ (Go.Ev.dX d.1) (Go.Ev.dX hy.1),iH (by omega)]
theorem Mt{b:Nat->Nat}(hv:∀i,i<6->VB 1 (c+19) (b i))(h0:key (b 0)<=key (b 3))(z:key (b 1)<=key (b 4))(t:key (b 2)<=key (b 5)):lG b=0:=by have v0:=hv 0 (by decide);have v1:=hv 1 (by decide);have v2:=hv 2 (by decide);have v3:=hv 3 (by decide);have o:=hv 4 (by decide);have d:=hv 5 (by decide);unfold lG Uc aaP;rw[vC hc v0 v1 v2,vC hc v3 o d,Ep v0 v3 h0,Ep v1 o z,Ep v2 d t];rfl
theorem aBM{a:Nat->Nat}(hv:∀i,i<11->VB 1 (c+19) (a i)):Kk a=false:=by unfold Kk;rw[vC hc (hv 0 (by decide)) (hv 1 (by decide)) (hv 2 (by decide)),vC hc (hv 3 (by decide)) (hv 4 (by decide)) (hv 5 (by decide)),vC hc (hv 6 (by decide)) (hv 7 (by decide)) (hv 8 (by decide)),ru hc (hv 9 (by decide)),ru hc (hv 10 (by decide))];rfl
omit hc in
theorem ajz{sk:Int}(h:0<=sk/\sk<16):jN sk=false:=by unfold jN;rw[iH (show ¬sk<0 by omega),eU,iH (show ¬sk≥16 by omega)]
theorem Ke{a b:Nat->Nat}{sk m:Int}(hs:0<=sk/\sk<16)(hv:∀i,i<11->VB 1 (c+19) (a i))(hm:m=0)(d:lG b=0):NR a sk m b=0:=by unfold NR;rw[ajz hs,aBM hc hv,hm,d];rfl
omit hc in
theorem aFp{x:Nat}(h:0<=key x):0<=val x:=by
 have k0:key 0=0:=by decide +kernel
 have v0:val 0=0:=by decide +kernel
 have:=Go.Ev.jZ.2 (show key 0<=key x by omega);omega
omit hc in
theorem TT{j l h r:Nat}(hl:VB 1 j l)(t:VB 1 j h)(d:VB 1 j r)(h0:0<=key r)(o:key l<=key h):key (aU l r)<=key (aM h r):=by rw[(Go.Ev.H8 hl.1 d.1).1,(Go.Ev.Eh t.1 d.1).1];have:=aFp h0;have:=Go.Ev.jZ.2 o;exact Go.Ev.nQ 1 (by omega)
theorem aaD{j x y:Nat}(o:j<=60)(h:VB 1 (c+j) x)(g:VB 1 (c+j) y):VB 1 (c+(j+1)) (aU x y):=by have d:=Go.Ev.ajA h g (by decide) (by decide) (by omega) (by omega);exact Go.Ev.VB.up (k:=1) d (by decide)
omit hc in
theorem ai9{x:Nat}(d:isFin x=true)(h:0<key x):bW x 0=true:=by
 have k0:key 0=0:=by decide +kernel
 rw[cZ (Go.Ev.dX d) (by decide +kernel),gG (by omega)]
omit hc in
theorem zH{j x:Nat}(h:VB 1 (c+j) x)(d:j<=19):VB 1 (c+19) x:=Go.Ev.lg h (by omega)
theorem aiP{a:Nat->Nat}{sk:Int}(hs:0<=sk/\sk<16)(hv:∀i,i<11->VB 1 (c+17) (a i))(z:0<key (a 9)):e1 a sk=0:=by
 unfold e1;refine Ke hc hs (λ i o=>zH (hv i o) (by decide)) ?_ ?_
 .unfold Il;rw[ai9 (hv 9 (by decide)).1 z];rfl
 .have t:=hv 9 (by decide)
  have s:∀i,i<3->VB 1 (c+19) (aU (a i) (a 9))/\VB 1 (c+19) (aM (a i) (a 9))/\key (aU (a i) (a 9))<=key (aM (a i) (a 9)):=λ i o=>by have d:=hv i (by omega);exact⟨zH (j:=17+1) (aaD hc (by decide) d t) (by decide),zH (j:=17+1) (lU hc (by decide) d t) (by decide),TT d d t (by omega) (af2 _)⟩
  refine Mt hc (λ i o=>?_) (s 0 (by decide)).2.2 (s 1 (by decide)).2.2 (s 2 (by decide)).2.2
  match i,o with
  | 0,_=>exact(s 0 (by decide)).1
  | 1,_=>exact(s 1 (by decide)).1
  | 2,_=>exact(s 2 (by decide)).1
  | 3,_=>exact(s 0 (by decide)).2.1
  | 4,_=>exact(s 1 (by decide)).2.1
  | 5,_=>exact(s 2 (by decide)).2.1
theorem at7{a:Nat->Nat}{sk:Int}(hs:0<=sk/\sk<16)(hv:∀i,i<11->VB 1 (c+17) (a i))(h0:key (a 0)<=key (a 3))(t:key (a 1)<=key (a 4))(o:key (a 2)<=key (a 5)):e2 a sk=0:=by
 unfold e2;refine Ke hc hs (λ i d=>zH (hv i d) (by decide)) ?_ ?_
 .unfold AU Gu;rw[Ep (hv 0 (by decide)) (hv 3 (by decide)) h0,Ep (hv 1 (by decide)) (hv 4 (by decide)) t,Ep (hv 2 (by decide)) (hv 5 (by decide)) o];rfl
 .refine Mt hc (λ i d=>?_) h0 t o
  match i,d with
  | 0,_=>exact zH (hv 0 (by decide)) (by decide)
  | 1,_=>exact zH (hv 1 (by decide)) (by decide)
  | 2,_=>exact zH (hv 2 (by decide)) (by decide)
  | 3,_=>exact zH (hv 3 (by decide)) (by decide)
  | 4,_=>exact zH (hv 4 (by decide)) (by decide)
  | 5,_=>exact zH (hv 5 (by decide)) (by decide)
end
end Go.Proofs.YtdlhemnconimnaaGreat.Hs.So
namespace Go.Gv
open Go.RowKit
theorem Zn{P:Program}{f:FuncId}{args:Array Value}{w:World}{R R':Value->World->Prop}
  (h:Calls P f args w λ e w'=>∃v,e=.returned v/\R v w') (z:Calls P f args w λ e w'=>∃v,e=.returned v/\R' v w') (hi:P.inits.idxOf? f=none):∃v w',R v w'/\R' v w':=by
 have g:Calls P f args w λ |.returned v,w'=>R v w' |_,_=>False:=h.mono λ e w' ⟨v,he,q⟩=>by subst he;exact q
 have E:Calls P f args w λ |.returned v,w'=>R' v w' |_,_=>False:=z.mono λ e w' ⟨v,he,q⟩=>by subst he;exact q
 obtain⟨n,v,I,e1,o⟩:=g.done hi;obtain⟨m,J,H,e2,d⟩:=E.done hi;have a:=runN_ended e1 m;have b:=runN_ended e2 n;rw[aI1,a]at b;injection b with t hw
 injection t with hv
 subst hv hw;exact⟨_,_,o,d⟩
def There(args:List AV):Prop:=∃(w:World) (d:Array Value),dW ⟨w,λ _=>False,λ _=>none⟩ args d.toList
theorem aj.one{P:Program}{f:Nat}{args:List AV}{m o:Int}(h:aj P f args (.x (.int .i64 m)))(J:aj P f args (.x (.int .i64 o)))(hi:P.inits.idxOf? f=none)(I:There args):m=o:=by obtain⟨w,z,t⟩:=I;obtain⟨v,d,⟨H,_⟩,⟨E,_⟩⟩:=Zn (R:=λ v d=>rel ⟨d,λ _=>False,λ _=>none⟩ (.x (.int .i64 m)) v/\Below w.heap.size w d) (R':=λ v d=>rel ⟨d,λ _=>False,λ _=>none⟩ (.x (.int .i64 o)) v/\Below w.heap.size w d) (h.2 (λ _=>False) w z (λ _ h=>h.elim) t (KC λ _=>rfl)) (J.2 (λ _=>False) w z (λ _ h=>h.elim) t (KC λ _=>rfl)) hi;have e1:=cB.1 H;have e2:=cB.1 E;rw[e1]at e2;injection e2
end Go.Gv
namespace Go.Proofs.YtdlhemnconimnaaGreat.Hs.So
open Go.Gv
open Go.Ev (cn aM aU aX fdiv bD dG dR dN iB bW iL fabs VB key aF isFin val bS cZ dU)
theorem agq{j x y:Nat}(d:VB 1 j x)(hy:VB 1 j y):VB 1 j (jy x y)/\VB 1 j (jA x y)/\key (jy x y)<=key (jA x y):=by
 unfold jy jA;rw[bS (Go.Ev.dX hy.1) (Go.Ev.dX d.1),cZ (Go.Ev.dX hy.1) (Go.Ev.dX d.1)];by_cases h:key y<key x
 .rw[gG h,iH (show ¬key x<key y by omega)];exact⟨hy,d,by rw[aY,eU];omega⟩
 .rw[iH h];by_cases o:key x<key y
  .rw[gG o];exact⟨d,hy,by rw[aY,eU];omega⟩
  .rw[iH o];exact⟨d,d,af2 _⟩
theorem aub{c:Nat}(hc:c=1074){a:Nat->Nat}{sk:Int}(hs:0<=sk/\sk<16)(hv:∀i,i<11->VB 1 (c+17) (a i))(U:0<key (a 9))(Q:Ef (a 3) (a 4) (a 5)=true):e5 a sk=0:=by
 unfold e5;refine Ke hc hs (λ i d=>zH (hv i d) (by decide)) ?_ ?_
 .unfold FC;rw[ai9 (hv 9 (by decide)).1 U,Q];rfl
 .generalize zB a=z;have K:=hv 9 (by decide);have k0:key 0=0:=by decide +kernel
  have S:∀i,VB 1 (c+18) (Ri z i (a 9))/\0<=key (Ri z i (a 9)):=λ i=>by
   unfold Ri;cases amH i z
   .exact⟨Go.Ev.lg K (by omega),by rw[eU];omega⟩
   .exact⟨Go.Ev.Ee 1 _,by rw[aY];omega⟩
  have s:∀i,i<3->VB 1 (c+19) (aU (jy (a i) (aM (a i) (a (3+i)))) (Ri z i (a 9)))/\VB 1 (c+19) (aM (jA (a i) (aM (a i) (a (3+i)))) (Ri z i (a 9)))/\key (aU (jy (a i) (aM (a i) (a (3+i)))) (Ri z i (a 9)))<=key (aM (jA (a i) (aM (a i) (a (3+i)))) (Ri z i (a 9))):=λ i d=>by have I:=hv i (by omega);have J:VB 1 (c+(17+1)) (aM (a i) (a (3+i))):=lU hc (by decide) I (hv (3+i) (by omega));have o:VB 1 (c+18) (a i):=Go.Ev.lg I (by omega);obtain⟨l1,l2,O⟩:=agq o J;obtain⟨H,M⟩:=S i;exact⟨aaD (j:=18) hc (by decide) l1 H,lU (j:=18) hc (by decide) l2 H,TT l1 l2 H M O⟩
  have E:=s 0 (by decide);have t:=s 1 (by decide);have s2:=s 2 (by decide);refine Mt hc (λ i d=>?_) E.2.2 t.2.2 s2.2.2
  match i,d with
  | 0,_=>exact E.1
  | 1,_=>exact t.1
  | 2,_=>exact s2.1
  | 3,_=>exact E.2.1
  | 4,_=>exact t.2.1
  | 5,_=>exact s2.2.1
theorem Np(k:Int){a:Nat->Nat}(sk:Int)(d:∀i,i<11->aF (a i)=false):There [SH k a sk]:=by have f:∀{E:Env} i,i<11->rel E (.f (a i)) (.float .f64 (a i)):=λ i o=>kU.2 ⟨a i,rfl,Go.Ev.gB (d i o)⟩;refine⟨default,#[.agg #[.int .i64 k,.float .f64 (a 0),.float .f64 (a 1),.float .f64 (a 2),.float .f64 (a 3),.float .f64 (a 4),.float .f64 (a 5),.float .f64 (a 6),.float .f64 (a 7),.float .f64 (a 8),.float .f64 (a 9),.float .f64 (a 10),.int .i64 sk]],aD.2 ⟨_,[],rfl,ku.2 ⟨_,rfl,?_⟩,bR.2 rfl⟩⟩;exact aD.2 ⟨_,_,rfl,cB.2 rfl,aD.2 ⟨_,_,rfl,f 0 (by decide),aD.2 ⟨_,_,rfl,f 1 (by decide),aD.2 ⟨_,_,rfl,f 2 (by decide),aD.2 ⟨_,_,rfl,f 3 (by decide),aD.2 ⟨_,_,rfl,f 4 (by decide),aD.2 ⟨_,_,rfl,f 5 (by decide),aD.2 ⟨_,_,rfl,f 6 (by decide),aD.2 ⟨_,_,rfl,f 7 (by decide),aD.2 ⟨_,_,rfl,f 8 (by decide),aD.2 ⟨_,_,rfl,f 9 (by decide),aD.2 ⟨_,_,rfl,f 10 (by decide),aD.2 ⟨_,_,rfl,cB.2 rfl,bR.2 rfl⟩⟩⟩⟩⟩⟩⟩⟩⟩⟩⟩⟩⟩
def LE(k:Int)(a:Nat->Nat)(sk:Int):Prop:=(k=1/\e1 a sk=0)\/(k=2/\e2 a sk=0)\/(k=5/\e5 a sk=0)
theorem aja{k:Int}{a:Nat->Nat}{sk:Int}(h:LE k a sk)(d:∀i,i<11->aF (a i)=false):CW (Cy k a sk)=0:=by
 have m:=(Rj k a sk).2;rcases h with⟨rfl,h⟩ | ⟨rfl,h⟩ | ⟨rfl,h⟩
 .exact(m.one (sm1 a sk) (by kernel_rfl) (Np 1 sk d)).trans h
 .exact(m.one (sm2 a sk) (by kernel_rfl) (Np 2 sk d)).trans h
 .exact(m.one (sm5 a sk) (by kernel_rfl) (Np 5 sk d)).trans h
theorem apw{k:Int}{a:Nat->Nat}{sk:Int}(h:LE k a sk)(d:∀i,i<11->aF (a i)=false)(i:Int):Hw ⟨0,0,0,k,a,sk⟩ i=0:=by have m:=aja h d;unfold Hw;show mlE (CW (Cy k a sk)) k=0;rw[m];rcases h with⟨rfl,h⟩ | ⟨rfl,h⟩ | ⟨rfl,h⟩<;>rfl
end Go.Proofs.YtdlhemnconimnaaGreat.Hs.So
namespace Go.Gv
open Go.RowKit Go.Ev
noncomputable section
structure iM where
 f:Nat
 g:agV
structure jK where
 f:Nat
 g:abd
def aeH:List iM->Nat->Option agV
 | [],_=>none
 |e::l,f=>cond (amH e.f f) (some e.g) (aeH l f)
def aeI:List jK->Nat->Option abd
 | [],_=>none
 |e::l,f=>cond (amH e.f f) (some e.g) (aeI l f)
def yR(l:List Entry)(ks:List bf)(ms:List dZ)(ws:List iM)(rs:List jK):Tab:=⟨Ls l,Oe ks,XP ms,XQ ms,aeH ws,aeI rs,λ _=>none⟩
def H6(P:Program)(e:iM):Prop:=WOk P e.f e.g
def E9(P:Program)(e:jK):Prop:=ROk P e.f e.g
theorem XR{P:Program}{f:Nat}{g:agV}:∀(ws:List iM),(∀e,e∈ws->H6 P e)->aeH ws f=some g->WOk P f g
 | [],_,h=>by cases h
 |e::l,hw,h=>by
  simp only[aeH]at h;cases o:amH e.f f
  .rw[o]at h;exact XR l (λ t d=>hw t (by simp[d])) h
  .rw[o]at h;simp only[aY,gU]at h;have e1:=aiL o;rw[<-h,<-e1];exact hw e (by simp)
theorem XT{P:Program}{f:Nat}{g:abd}:∀(ws:List jK),(∀e,e∈ws->E9 P e)->aeI ws f=some g->ROk P f g
 | [],_,h=>by cases h
 |e::l,hw,h=>by
  simp only[aeI]at h;cases o:amH e.f f
  .rw[o]at h;exact XT l (λ t d=>hw t (by simp[d])) h
  .rw[o]at h;simp only[aY,gU]at h;have e1:=aiL o;rw[<-h,<-e1];exact hw e (by simp)
theorem jV{P:Program}{l:List Entry}{ks:List bf}{ms:List dZ}{ws:List iM}{rs:List jK}(hl:∀e,e∈l->jr P e)(d:∀e,e∈ks->sZ P e)(hm:∀e,e∈ms->oN P e)(hw:∀e,e∈ws->H6 P e)(o:∀e,e∈rs->E9 P e):BR P (yR l ks ms ws rs):=by obtain⟨_,z,t,_⟩:=kV (P:=P) (l:=l) (ks:=ks) (ms:=ms) hl d hm;exact⟨Uw hl d,z,t,λ _ _ h=>XR ws hw h,λ _ _ h=>XT rs o h⟩
def qN(P:Program)(l:List Entry)(ks:List bf)(ms:List dZ)(ws:List iM)(rs:List jK)(L:Nat->Option dY)(c:Code)(s:St)(k:jL):Option Out:=jw P (yR l ks ms ws rs) (lq P (yR l ks ms ws rs)) L 40 c s k
def Gj(P:Program)(l:List Entry)(ks:List bf)(ms:List dZ)(ws:List iM)(rs:List jK)(L:Nat->Option dY)(fn:Func)(args:List AV)(mem:List Row)(τ:List (Option Nat)):Option Out:=Uk P (yR l ks ms ws rs) (lq P (yR l ks ms ws rs)) L 40 fn args mem τ
theorem lV{P:Program}{f:Nat}{args:List AV}{mem mem1:List Row}{v:AV}(h:dJ P f args mem v mem1):rW P f args mem v mem1:=by
 refine⟨h.1,λ A0 R w0 E bG o hg U=>?_⟩;let K:Nat->Prop:=λ b=>∃k c,E.O k=some (b,c)/\aN mem k=true;have I:Wd E.A K E E mem:=⟨o.rows,o.small,λ _ h=>h,λ k b c t hl=>⟨(o.own k b c t hl).1,wV ⟨k,c,t,hl⟩⟩,o.one,qz.refl _ _,Env.le.refl _⟩
 have hp:Ib mem.length E.A K E:=by
  refine⟨λ k hk=>?_,λ b ⟨k,c,t,_⟩=>⟨k,c,o.dom k b c t,t⟩,o.small⟩;cases Z:E.O k with
  |none=>rfl
  |some p=>have:=o.dom k p.1 p.2 Z;omega
 refine(h.2 K E bG hp I hg U).mono ?_;rintro e w' ⟨u,E',rfl,rfl,d,S⟩;refine⟨u,E',rfl,rfl,d.zA,⟨d.rows,d.small,λ b t=>d.old b (o.old b t),λ k b c t hl=>?_,d.one,?_,o.zA.trans d.zA⟩,S⟩
 .obtain⟨h1,J⟩:=d.own k b c t hl;refine⟨h1,?_⟩;rcases J with⟨Q,c',z,H⟩ |J
  .exact(o.own Q b c' z H).2
  .exact Gc (aa2 o.below.size J)
 .refine⟨d.below.os.trans o.below.os,d.below.tape.trans o.below.tape,d.below.output.trans o.below.output,aa2 o.below.size d.below.size,λ b t M=>(d.below.block b (anS t o.below.size) ?_).trans (o.below.block b t M)⟩;rintro⟨k,c,z,hl⟩;rcases(o.own k b c z hl).2 with h |h
  .exact M h
  .omega
def wS(P:Program)(f:Nat)(g:List AV->List Row->AV)(m:List AV->List Row->List Row):iM:=⟨f,λ d mem=>some (jv (dJ P f d mem (g d mem) (m d mem)),g d mem,m d mem)⟩
theorem aus{P:Program}{f:Nat}{g:List AV->List Row->AV}{m:List AV->List Row->List Row}:H6 P (wS P f g m):=λ d mem v o h=>by have h:some (jv (dJ P f d mem (g d mem) (m d mem)),g d mem,m d mem)=some (true,v,o):=h;simp only[gU,Ew]at h;obtain⟨t,rfl,rfl⟩:=h;exact lV (qU t)
def Rw(d:Nat->Option Row):AV->Option (Bool × AV × List Nat)
 |.bQ j sz 0 n=>match d j with
  |some (.a _ sz' n' el)=>some (amH sz sz'&&apB n n',.sl sz n el,[j])
  |_=>none
 |.x v=>some (true,.x v,[])
 |_=>none
theorem abe{E:Env}{mem:List Row}{d:Nat->Option Row}{x y:AV}{rd:List Nat}{u:Value}(hm:uN E mem)(h:Rw d x=some (true,y,rd))(hl:∀k,k∈rd->mem[k]?=d k)(I:rel E x u):rel E.shut y u:=by
 unfold Rw at h;split at h
 .rename_i j H n;split at h
  .rename_i e Q S el hj;simp only[gU,Ew,CX]at h;obtain⟨⟨z,K⟩,rfl,rfl⟩:=h;have z:=aiL z;subst z;have K:=Ou K;have t:mem[j]?=some (.a e H S el):=(hl j (by simp)).trans hj;rcases dV.1 I with⟨_,o,rfl⟩ | ⟨b,c,m,o,h4,h5,rfl⟩
   .exact iZ.2 ⟨none,0,by rw[o],by omega,wV o⟩
   .obtain⟨row,M,g2⟩:=hm j b (c,m) o;rw[t]at M;cases M;obtain⟨cs,k1,_,_,_,_,k6⟩:=g2;refine iZ.2 ⟨_,_,rfl,by omega,Gc ⟨b,0*H,cs,e,(0,0),rfl,λ h=>h,k1,λ i hi=>?_⟩⟩;obtain⟨Z,U⟩:=k6 i (by omega);refine⟨Z,?_⟩;rw[aH1,ZO];exact lT (E:=E.fz) (E':=E.shut.fz) ⟨λ b' J ob O=>⟨λ h=>h,O⟩,λ _ _ J=>by cases J⟩ U
  .cases h
 .rename_i v;simp only[gU,Ew,true_and]at h;obtain⟨rfl,rfl⟩:=h;rw[cB.1 I];exact cB.2 rfl
 .cases h
theorem agW{d o:Nat->Option Row}{x y:AV}{b:Bool}{rd:List Nat}(h:Rw d x=some (b,y,rd))(hl:∀k,k∈rd->d k=o k):Rw o x=some (b,y,rd):=by
 have h0:=h;unfold Rw at h ⊢;split at h
 .rename_i j E n;split at h
  .rename_i e t H el z;simp only[gU,Ew]at h;rw[<-hl j (by rw[<-h.2.2];simp),z];simp only[gU,Ew];exact h
  .cases h
 .exact h
 .cases h
def wE(σ:Nat->Option Nat):Row->Row
 |.c l=>.c (jo σ l)
 |.t e l=>.t e (jo σ l)
 |r=>r
theorem XH(σ:Nat->Option Nat)(r:Row):(wE σ r).live=r.live:=by cases r<;>rfl
theorem Ux:∀(xs:List AV) {σ:Nat->Option Nat} {E:Env} {o:Nat->Option (Nat × Nat × Nat)} (_:∀k t p,σ k=some t->E.O k=some p->o t=some p) (us:List Value),pre E xs us->pre { E with O:=o } (jo σ xs) us
 | [],_,_,_,_,_,_=>by rw[jo];exact pre_nil
 |x::xs,σ,E,o,h,us,hp=>by obtain⟨u,d,rfl,H,z⟩:=bF.1 hp;rw[jo];exact bF.2 ⟨u,d,rfl,rF x h u H,Ux xs h d z⟩
theorem Ob{σ:Nat->Option Nat}{E:Env}{K:Nat->Option (Nat × Nat × Nat)}(h:∀k J p,σ k=some J->E.O k=some p->K J=some p){b:Nat}{c:Nat × Nat}{row:Row}(d:lQ E b c row):lQ { E with O:=K } b c (wE σ row):=by
 cases row with
 |c l =>
  obtain⟨I,e,H,o⟩:=d;exact⟨I,e,H,Ux l h _ o⟩
 |a e sz n el=>exact d
 |dead=>trivial
 |z x e sz n el=>exact d
 |i s p e=>exact d
 |t e l =>
  obtain⟨I,H,o,M⟩:=d;exact⟨I,H,Ux l h _ o,by rw[um];exact M⟩
end
noncomputable section
abbrev kH:=St->SK->Option Out
def gD(np:Nat)(h:kH):Prop:=∀s k r,h s k=some r->∃d,k d=some r/\fQ np s d
def Nq(P:Program)(T:Tab)(Z:Nat->Option kH)(id:Nat)(ops:List Oper):Nat->List Oper->St->SK->Option Out
 |_,[],s,k=>k s
 |i,o::rest,s,k=>Xf P T ops s o λ s'=>match Z (id+1000*(i+1))with
  |some h=>h s' λ s2=>Nq P T Z id ops (i+1) rest s2 k
  |none=>Nq P T Z id ops (i+1) rest s' k
def j4(P:Program)(T:Tab)(D:List Oper->St->SK->Option Out)(L:Nat->Option dY)(Z:Nat->Option kH)(N:Nat):Code->St->jL->Option Out
 |.skip,s,k=>k .normal s
 |.region id ops draw,s,k=>match Z id with
  |some h=>h s λ s1=>cond draw (D ops.toList s1 λ s'=>k .normal (WL s')) (Nq P T Z id ops.toList 0 ops.toList s1 λ s'=>k .normal (WL s'))
  |none=>cond draw (D ops.toList s λ s'=>k .normal (WL s')) (Nq P T Z id ops.toList 0 ops.toList s λ s'=>k .normal (WL s'))
 |.seq x y,s,k=>j4 P T D L Z N x s λ e s'=>match e with
  |.normal=>j4 P T D L Z N y s' k
  |e=>k e s'
 |.cond c x y,s,k=>cond (jB s.slots [] c) (match aI s c with
  |.x (.bool b)=>cond b (j4 P T D L Z N x s k) (j4 P T D L Z N y s k)
  |_=>none) none
 |.block id c,s,k=>j4 P T D L Z N c s λ e s'=>match e with
  |.exit id'=>cond (id'==id) (k .normal s') (k (.exit id') s')
  |e=>k e s'
 |.loop c,s,k=>match jI c with
  |some i=>match L i with
   |some g=>g s k
   |none=>rounds (λ s k=>j4 P T D L Z N c s k) k N s
  |none=>none
 |.exit id,s,k=>k (.exit id) s
 |.scope c,s,k=>j4 P T D L Z N c s λ e s'=>match e with
  |.goto _=>none
  |e=>k e s'
 |.label _,s,k=>k .normal s
 |.ret,s,k=>k .ret s
 |.goto l,s,k=>k (.goto l) s
 |_,_,_=>none
section
variable{P:Program}{T:Tab}{D:List Oper->St->SK->Option Out}{L:Nat->Option dY}{A0 R:Nat->Prop}{w0:Env}
theorem Ns{np:Nat}{Z:Nat->Option kH}(M:∀i h,Z i=some h->gD np h)(J:Ib np A0 R w0)(I:BR P T){ops:Array Oper}{Q:Exit->Act->World->Prop}{id:Nat}{k:SK}{r:Out}:∀(l:List Oper) (i:Nat) {E:Env} {s:St} {a:Act},Inv A0 R w0 E s a->Nq P T Z id ops.toList i l s k=some r->(∀E' t s',Inv A0 R w0 E' s' t->k s'=some r->Q .normal t E'.w)->wpList P ops Q l a E.w
 | [],_,E,s,a,hI,h,hQ=>hQ E a s hI h
 |o::rest,i,E,s,a,hI,h,hQ=>by
  simp only[Nq]at h;obtain⟨s1,hs,O,_⟩:=Rk I.par h
  have on:∀E' t,Inv A0 R w0 E' s1 t->wpList P ops Q rest t E'.w:=λ E' t d=>by
   split at O
   .rename_i z S;obtain⟨s2,U,g2⟩:=M _ z S _ _ _ O;obtain⟨E1,e1,g3⟩:=g2 A0 R w0 E' t J d;rw[<-e1];exact Ns M J I rest (i+1) g3 U hQ
   .exact Ns M J I rest (i+1) d O hQ
  rcases hs with(⟨v,mem1,h1,h2,rfl⟩ | ⟨v,rows,h1,h2,rfl⟩ | ⟨g,c,v,h1,h2,h3,h5,rfl⟩ | ⟨b,c,bT,h1,h2,h3,rfl⟩) | ⟨b,c,bT,h1,h2,h3⟩
  .exact wpList_step λ K H=>Nt I hI h1 h2 K λ E' t d=>H _ _ (on E' t d)
  .exact wpList_step λ K H=>Nu I hI h1 h2 K λ E' t d=>H _ _ (on E' t d)
  .exact wpList_step λ K H=>Nv I hI h1 h2 h3 h5 K λ E' t d=>H _ _ (on E' t d)
  .exact wpList_step λ K H=>Nw I.flat hI h1 h2 h3 K λ E' t d=>H _ _ (on E' t d)
  .exact wpList_step λ K H=>Ny I hI h1 h2 h3 K λ E' t d=>H _ _ (on E' t d)
theorem Ej{np:Nat}{Z:Nat->Option kH}(hZ:∀i h,Z i=some h->gD np h)(O:Ib np A0 R w0)(hT:BR P T)(hD:DOk P D)(N:Nat)(c:Code):nT np P L c->∀{E:Env} {s:St} {k:jL} {r:Out} {a:Act},Inv A0 R w0 E s a->j4 P T D L Z N c s k=some r->c.wp P (Post A0 R w0 k r) a E.w:=by
 induction c with
 |skip=>intro _ E s k r a o h;exact wp_skip ⟨E,s,rfl,o,h⟩
 |label l=>intro _ E s k r a o h;exact wp_label ⟨E,s,rfl,o,h⟩
 |ret=>intro _ E s k r a o h;exact wp_ret ⟨E,s,rfl,o,h⟩
 |exit id=>intro _ E s k r a o h;exact wp_exit ⟨E,s,rfl,o,h⟩
 |goto l=>intro _ E s k r a o h;exact wp_goto ⟨E,s,rfl,o,h⟩
 |refuse y=>intro _ E s k r a o h;simp[j4]at h
 |rangeFunc f ps x y ihx ihy=>intro _ E s k r a o h;simp[j4]at h
 |region id ops draw =>
  intro _ E s k r a o h;simp only[j4]at h
  have go:∀{E:Env} {s:St},Inv A0 R w0 E s a->cond draw (D ops.toList s λ I=>k .normal (WL I)) (Nq P T Z id ops.toList 0 ops.toList s λ I=>k .normal (WL I))=some r->(Code.region id ops draw).wp P (Post A0 R w0 k r) a E.w:=by
   intro E s o h;cases draw with
   |true =>
    simp only[aY]at h;obtain⟨s1,h1,U⟩:=hD.1 _ _ _ _ h;exact hD.2 A0 R w0 E s s1 a id ops _ o U λ J a' d=>⟨J,_,rfl,d,h1⟩
   |false =>
    simp only[eU]at h;exact wp_region_list (Ns hZ O hT ops.toList 0 o h λ J a' I d U=>⟨J,_,rfl,d.clear,U⟩)
  split at h
  .rename_i z hz;obtain⟨s1,h1,U⟩:=hZ id z hz _ _ _ h;obtain⟨E1,e1,h3⟩:=U A0 R w0 E a O o;rw[<-e1];exact go h3 h1
  .exact go o h
 |seq x y ihx ihy =>
  intro K E s k r a o h;simp only[j4]at h;have S:nT np P L x:=λ c' H=>K c' (by simp[bL,H]);have Q:nT np P L y:=λ c' H=>K c' (by simp[bL,H]);refine wp_seq (aza ?_ (ihx S o h));rintro e a' w' ⟨J,I,rfl,d,he⟩;cases e<;>simp only[Exit.then]at he ⊢
  case normal=>exact ihy Q d he
  all_goals exact⟨J,I,rfl,d,he⟩
 |cond c x y ihx ihy =>
  intro K E s k r a o h;simp only[j4]at h;have S:nT np P L x:=λ c' H=>K c' (by simp[bL,H]);have Q:nT np P L y:=λ c' H=>K c' (by simp[bL,H]);cases ho:jB s.slots [] c
  .rw[ho]at h;cases h
  .rw[ho]at h;simp only[aY]at h;split at h
   .rename_i b hb;have hv:=jF o.frame (c:=[]) rfl c ho;rw[hb]at hv;refine wp_cond (t:=b) (Ic hv) ?_;cases b
    .exact ihy Q o h
    .exact ihx S o h
   .cases h
 |block id c ih =>
  intro K E s k r a o h;simp only[j4]at h;refine wp_block (aza ?_ (ih (λ c' H=>K c' (by simpa[bL]using H)) o h));rintro e a' w' ⟨J,I,rfl,d,he⟩;cases e<;>simp only[Exit.inBlock]at he ⊢
  case exit id' =>
   by_cases M:id'=id
   .rw[gH M];have:(id'==id)=true:=by simpa using M
    rw[this]at he;exact⟨J,I,rfl,d,he⟩
   .rw[fP M];have:(id'==id)=false:=by simpa using M
    rw[this]at he;exact⟨J,I,rfl,d,he⟩
  all_goals exact⟨J,I,rfl,d,he⟩
 |loop c ih =>
  intro K E s k r a o h;simp only[j4]at h;split at h
  .rename_i i hi;split at h
   .rename_i g hg;obtain⟨hp,hs⟩:=K c (by simp[bL]) i g hi hg;obtain⟨e,I,h1,U⟩:=hp s k r h;refine aza ?_ (hs s I e U A0 R w0 E a O o);rintro e' a' w' ⟨rfl,J,hw,d⟩;exact⟨J,I,hw,d,h1⟩
   .refine wp_loop_rounds N ?_;have hLc:nT np P L c:=λ c' H=>K c' (by simp[bL,H])
    have key:∀(n:Nat) {E:Env} {s:St} {a:Act},Inv A0 R w0 E s a->rounds (λ s k=>j4 P T D L Z N c s k) k n s=some r->Code.rounds P c (Post A0 R w0 k r) n a E.w:=by
     intro n
     induction n with
     |zero=>intro E s a o h;simp[rounds]at h
     |succ n ihn =>
      intro E s a o h;simp only[rounds]at h;rw[rounds_succ];refine aza ?_ (ih hLc o h);rintro e a' w' ⟨J,I,rfl,d,he⟩;cases e<;>simp only[Exit.then]at he ⊢
      case normal=>exact ihn d he
      all_goals exact⟨J,I,rfl,d,he⟩
    exact key N o h
  .cases h
 |scope c ih =>
  intro K E s k r a o h;simp only[j4]at h;refine wp_scope_straight (aza ?_ (ih (λ c' H=>K c' (by simpa[bL]using H)) o h));rintro e a' w' ⟨J,I,rfl,d,he⟩;cases e<;>simp only[Exit.noGoto]at he ⊢
  case goto l=>cases he
  all_goals exact⟨J,I,rfl,d,he⟩
end
def TS(P:Program)(T:Tab)(D:List Oper->St->SK->Option Out)(L:Nat->Option dY)(Z:Nat->Option kH)(N:Nat)(fn:Func)(args:List AV)(k:AV->Option Out):Option Out :=
 match fn.body with
 |some c=>j4 P T D L Z N c (start fn [] args) (agr P fn k)
 |none=>none
def Ms(P:Program)(T:Tab)(D:List Oper->St->SK->Option Out)(L:Nat->Option dY)(Z:Nat->Option kH)(N:Nat)(fn:Func)(args:List AV)(mem:List Row)(τ:List (Option Nat)):Option Out :=
 match fn.body with
 |some c=>j4 P T D L Z N c (start fn mem args) (apx P fn τ)
 |none=>none
theorem yT {P : Program} {T : Tab} {D : List Oper -> St -> SK -> Option Out} {L : Nat -> Option dY} {Z : Nat -> Option kH} (M : ∀ i h, Z i = some h -> gD 0 h) (O : BR P T) (U : DOk P D) (N : Nat) {f : Nat} {fn : Func} (hf : P.funcs[f]? = some fn) (E : (fn.name == "runtime.NumGoroutine") = false) {c : Code} (o : fn.body = some c) (Q : yx P L c)
  {args:List AV} (z:apB args.length fn.ntmps=true) {r:AV} (h:TS P T D L Z N fn args (λ v=>some (Out.of v))=some (Out.of r)):aj P f args r:=by
 unfold TS at h;rw[o]at h;simp only at h;refine⟨⟨fn,hf,E,by rw[o];rfl⟩,λ A w I H hv hg=>?_⟩;have t:args.length<=fn.ntmps:=Ou z;refine calls_of_wp hf o ?_
 have S:Inv A (λ _=>False) ⟨w,A,λ _=>none⟩ ⟨w,A,λ _=>none⟩ (start fn [] args) { tmps:=I++Array.replicate (fn.ntmps - I.size) undef,defers:=[] } :=⟨rfl,AJ hg hv t,⟨λ _ _ _ o=>(by cases o),H,λ _ o=>o,λ _ _ _ o=>(by cases o),λ _ _ _ _ _ o=>(by cases o),qz.refl _ _,Env.le.refl _⟩⟩
 refine aza ?_ (Ej (np:=0) M ⟨λ _ _=>rfl,λ _ h=>h.elim,H⟩ O U N c Q S h);rintro e a' w' ⟨E',s',rfl,d,he⟩;cases e<;>simp only[agr]at he<;>first | (cases he;done) |skip
 all_goals
  split at he
  .rename_i x J;simp only[Out.of,gU,Out.mk.injEq,true_and]at he;subst he;obtain⟨v,h1,h2⟩:=Ie d H J;exact⟨d.defers,v,h1,v,rfl,h2,d.wd.below.os,d.wd.below.tape,d.wd.below.output,d.wd.below.size,λ k K=>d.wd.below.block k K (λ e=>e)⟩
  .cases he
theorem CQ {P : Program} {T : Tab} {D : List Oper -> St -> SK -> Option Out} {L : Nat -> Option dY} {Z : Nat -> Option kH} (M : BR P T) (S : DOk P D) (N : Nat) {f : Nat} {fn : Func} (hf : P.funcs[f]? = some fn) (z : (fn.name == "runtime.NumGoroutine") = false) {c : Code} (H : fn.body = some c)
  {args:List AV} {mem:List Row} (J:∀i h,Z i=some h->gD mem.length h) (O:nT mem.length P L c) (o:apB args.length fn.ntmps=true) {τ:List (Option Nat)} (CP:Fa mem.length τ=true) {v:AV} {mem1:List Row} (h:Ms P T D L Z N fn args mem τ=some ⟨.normal,⟨[],mem1⟩,v⟩):dJ P f args mem v mem1:=by
 unfold Ms at h;rw[H]at h;simp only at h;refine⟨⟨fn,hf,z,by rw[H];rfl⟩,λ R E I hp K hg hv=>?_⟩;have d:args.length<=fn.ntmps:=Ou o;refine calls_of_wp hf H ?_;have Q:Inv E.A R E E (start fn mem args) { tmps:=I++Array.replicate (fn.ntmps - I.size) undef,defers:=[] }:=⟨rfl,AJ hg hv d,K⟩;refine aza ?_ (Ej J hp M S N c O Q h);rintro e a' w' ⟨E',s',rfl,t,he⟩;cases e<;>simp only[apx]at he<;>first | (cases he;done) |skip
 all_goals
  obtain⟨u,E2,h1,h2,h3,U⟩:=Xg CP hp t he;exact⟨t.defers,u,h1,u,E2,rfl,h2,h3,U⟩
theorem ags{P:Program}{T:Tab}{D:List Oper->St->SK->Option Out}{L:Nat->Option dY}{Z:Nat->Option kH}{N:Nat}{c:Code}{s s':St}{e:Exit}{k:jL}(t:Ma k)(z:∀i h,Z i=some h->gD 0 h)(H:BR P T)(K:DOk P D)(I:yx P L c)(h:j4 P T D L Z N c s k=some ⟨e,s',.any⟩):bH P c s e s':=λ A0 R w0 E a hp J=>by refine aza ?_ (Ej z hp H K N c I J h);rintro S U w' ⟨E',o,rfl,d,he⟩;obtain⟨Q,O⟩:=t S o _ he;obtain⟨E2,e2,M⟩:=O A0 R w0 E' U hp d;exact⟨Q.symm,E2,e2,M⟩
def TU(k sz n:Nat)(el:Nat->List AV):AV->AV
 |.bQ k' sz' st len=>cond (amH k' k) (.sl sz n el) (.bQ k' sz' st len)
 |x=>x
def agt(k sz n:Nat):AV->Bool
 |.bQ k' sz' st len=>cond (amH k' k) (amH sz' sz&&(amH st 0&&amH len n)) true
 |_=>true
def ajb(k sz n:Nat)(el:Nat->List AV):Row->Row
 |.c l=>.c (l.map (TU k sz n el))
 |r=>r
def aue(k sz n:Nat):Row->Bool
 |.c l=>l.all (agt k sz n)
 |_=>true
def yQ(k:Nat):kH:=λ s d=>match s.mem[k]? with
 |some (.a _ sz n el)=>cond (s.slots.all (λ q=>q.2.isEmpty&&agt k sz n q.1)&&s.mem.all (aue k sz n)) (d ⟨s.slots.map λ q=>(TU k sz n el q.1,q.2),(s.mem.map (ajb k sz n el)).set k .dead⟩) none
 |_=>none
theorem aei{k sz n:Nat}{el:Nat->List AV}{x:AV}(h:agt k sz n x=true):TU k sz n el x=x\/(x=.bQ k sz 0 n/\TU k sz n el x=.sl sz n el):=by
 cases x<;>try exact wV rfl
 rename_i t o st len;cases d:amH t k
 .left;simp only[TU,d,eU]
 .right;simp only[agt,d,aY,CX]at h;have e0:=aiL d;have e1:=aiL h.1;have e2:=aiL h.2.1;have e3:=aiL h.2.2;subst e0 e1 e2 e3;exact⟨rfl,by simp only[TU,d,aY]⟩
theorem aej{k sz n:Nat}{el:Nat->List AV}:∀{l:List AV},l.all (agt k sz n)=true->ajc k sz n el l (l.map (TU k sz n el))
 | [],_=>trivial
 |x::xs,h=>by simp only[List.all_cons,CX]at h;exact⟨aei h.1,aej h.2⟩
theorem jm(k:Nat):gD 0 (yQ k):=λ s Q r h=>by
 unfold yQ at h;split at h
 .rename_i e d n el K;cases o:(s.slots.all (λ q=>q.2.isEmpty&&agt k d n q.1)&&s.mem.all (aue k d n))
  .rw[o]at h;cases h
  .rw[o]at h;simp only[aY]at h;simp only[CX]at o;refine⟨_,h,?_⟩;have I:k<s.mem.length:=(List.getElem?_eq_some_iff.1 K).1
   have E:∀t,(s.slots.getD t dflt).2=[]/\((s.slots.map λ q=>(TU k d n el q.1,q.2)).getD t dflt=s.slots.getD t dflt\/((s.slots.getD t dflt).1=.bQ k d 0 n/\(s.slots.map λ q=>(TU k d n el q.1,q.2)).getD t dflt=(.sl d n el,[]))):=λ t=>by
    simp only[Gd,aG1];cases hq:s.slots[t]? with
    |none=>exact⟨rfl,wV rfl⟩
    |some q =>
     have:=(ab3.1 o.1) q (ajw hq);simp only[CX]at this;have hc:q.2=[]:=by simpa using this.1
     refine⟨hc,?_⟩;simp only[aaF,apP];rcases aei (el:=el) this.2 with J | ⟨J,O⟩
     .left;rw[J]
     .right;exact⟨J,by rw[O,hc]⟩
   refine Xh (slots:=s.slots) (mem:=s.mem) K (λ j row M=>?_) (by simp) (λ t=>(E t).1) λ t=>(E t).2;by_cases e1:j=k
   .subst e1;exact⟨.dead,by rw[List.getElem?_set_self (by simpa using I)],wV ⟨rfl,rfl⟩⟩
   .refine⟨ajb k d n el row,by rw[List.getElem?_set_ne (by omega),aG1,M];rfl,Gc ⟨e1,?_⟩⟩;have H:=(ab3.1 o.2) row (ajw M);cases row with
    |c l=>exact Gc ⟨l,_,rfl,rfl,aej H⟩
    |a _ _ _ _=>exact wV rfl
    |dead=>exact wV rfl
    |z _ _ _ _=>exact wV rfl
    |t _ _=>exact wV rfl
    |i _ _ _=>exact wV rfl
 .cases h
def Ay(i:Nat)(h:kH):Nat->Option kH:=λ j=>cond (amH j i) (some h) none
def apy(i:Nat)(h:kH)(d:Nat)(o:kH):Nat->Option kH:=λ j=>cond (amH j i) (some h) (cond (amH j d) (some o) none)
theorem aek{np i t:Nat}{h E:kH}(H:gD np h)(o:gD np E):∀j g,apy i h t E j=some g->gD np g:=λ j g hg=>by
 unfold apy at hg;cases z:amH j i
 .rw[z,eU]at hg;cases d:amH j t
  .rw[d]at hg;cases hg
  .rw[d]at hg;cases hg;exact o
 .rw[z]at hg;cases hg;exact H
theorem jJ{np i:Nat}{h:kH}(o:gD np h):∀j g,Ay i h j=some g->gD np g:=λ j g hg=>by
 unfold Ay at hg;cases d:amH j i
 .rw[d]at hg;cases hg
 .rw[d]at hg;cases hg;exact o
def Q6(P:Program)(l:List Entry)(ks:List bf)(ms:List dZ)(L:Nat->Option dY)(Z:Nat->Option kH)(fn:Func)(args:List AV)(k:AV->Option Out):Option Out:=TS P (Nz l ks ms) (lq P (Nz l ks ms)) L Z 40 fn args k
def avS(P:Program)(l:List Entry)(ks:List bf)(ms:List dZ)(L:Nat->Option dY)(Z:Nat->Option kH)(c:Code)(s:St)(k:jL):Option Out:=j4 P (Nz l ks ms) (lq P (Nz l ks ms)) L Z 40 c s k
end
end Go.Gv
namespace Go.Proofs.YtdlhemnconimnaaGreat.Hs.So
open Go.Gv
open Go.Ev (cn aM aU aX fdiv bD dG dR dN iB bW iL fabs)
def WS:Nat:=4598175219545276416
def Le:Nat:=4602678819172646912
def z13:List AV:=[iA 0,.f 0,.f 0,.f 0,.f 0,.f 0,.f 0,.f 0,.f 0,.f 0,.f 0,.f 0,iA 0]
def llR(raw:AV)(fr:Int)(m:Nat)(el:Nat->List AV):St:=mkS 80 [(0,raw),(1,iA fr),(4,.own 0 0),(5,.bQ 1 1 0 m)] [.c z13,.a 3 1 m el]
def zo(raw:AV)(fr:Int)(m:Nat)(X:Nat->Int):St:=llR raw fr m λ q=>[iA (X q)]
def nW:List Nat:=[0,1,4,5]
def aqB(n m:Nat):Bool:=(apB m n&&apB ((m+1)*8) 140737488355328)||false
section
variable(raw:AV)(n:Nat)(hs:Nat->Int)(p:Option Addr)(c:Nat)(rf:Int->Int)(fr:Int)(m:Nat)(X:Nat->Int)
noncomputable def llC(raw:AV)(f:(Nat->List AV)->Option Out)(d:Option Out):Option Out:=cond (decide ((m:Int)<aH (fr+9))) (gate (aj bO 20 [raw,iA m] (iA (rf m))) (cond (aqB m m) (f λ q=>bM (Tv q m) [iA (X q)] [iA (rf m)]) none)) d
theorem apz:jR bO [] [Kg rf] bC (av aHZ 0) (zo (sI n hs) fr m X) (gu nW [some 0,some 3])=llC rf fr m X (sI n hs) (λ el=>some ⟨.normal,llR (sI n hs) fr (m+1) el,.any⟩) none:=by kernel_rfl
theorem avU:jR bO [] [Kg rf] bC (av aHZ 0) (zo (sI n hs) fr m X) (iG nW [some 0,some 1])=llC rf fr m X (sI n hs) (λ _=>none) (some ⟨.exit 0,zo (sI n hs) fr m X,.any⟩):=by kernel_rfl
theorem ajg:jR bO [] [Kg rf] bC (av aHZ 0) (zo (xE p c) fr m X) (gu nW [some 0,some 3])=llC rf fr m X (xE p c) (λ el=>some ⟨.normal,llR (xE p c) fr (m+1) el,.any⟩) none:=by kernel_rfl
theorem apA:jR bO [] [Kg rf] bC (av aHZ 0) (zo (xE p c) fr m X) (iG nW [some 0,some 1])=llC rf fr m X (xE p c) (λ _=>none) (some ⟨.exit 0,zo (xE p c) fr m X,.any⟩):=by kernel_rfl
end
section
variable(raw:AV)(n:Nat)(hs:Nat->Int)(p:Option Addr)(c:Nat)(fr:Int)(m:Nat)(X:Nat->Int)(k:Int)(a:Nat->Nat)(sk:Int)(rd:Nat->Nat)
def rdG(rd:Nat->Nat):List AV->AV
 | [.f x]=>.f (rd x)
 |_=>.any
noncomputable def HY(x:Nat)(o:Option Out):Option Out:=gate (aj bO 129 [.f x] (.f (rd x))) o
def lX(v:Int):Nat->Int:=λ q=>cond (q==0+fr.toNat) v (X q)
def lA(i:Nat):Nat:=rd (aX (a i) WS)
def lO(B:Nat->Nat):Option Out:=some (Out.of (.agg [iA k,.f (lA a rd 0),.f (lA a rd 1),.f (lA a rd 2),.f (B 0),.f (B 1),.f (B 2),.f (a 6),.f (a 7),.f (a 8),.f (a 9),.f (a 10),iA sk]))
def lB:Nat->Nat:=ls [aM (lA a rd 0) (aM (a 9) one),aM (lA a rd 1) one,aM (lA a rd 2) Le]
noncomputable def agu(e:Int):List bf:=[kS bO 17 λ _=>iA e,kS bO 85 λ _=>SH k a sk,kS bO 129 (rdG rd)]
def fz3(m:Nat):Bool:=((amH m m)&&((amH m m)&&((amH m m)&&true)))||false
noncomputable def lfX(e v:Int):Option Out:=ow' fr m (gate (aj bO 17 [iA (X (0+fr.toNat)),iA 3] (iA e)) (ow' fr m (cond (fz3 m) (gate (aj bO 85 [sI m (lX fr X v),iA fr,iA 1] (SH k a sk)) (HY rd (aX (a 0) WS) (HY rd (aX (a 1) WS) (HY rd (aX (a 2) WS)
 (cond (k==2) (HY rd (lB a rd 0) (HY rd (lB a rd 1) (HY rd (lB a rd 2) (lO k a sk rd (ls [rd (lB a rd 0),rd (lB a rd 1),rd (lB a rd 2)]))))) (lO k a sk rd (ls [a 3,a 4,a 5]))))))) none)))
def lfG(n:Nat):Bool:=((apB 0 0)&&(Tv 0 n&&(TL n (λ _=>true)&&apB ((0+n)*8) 140737488355328)))||false
theorem avV:Q6 bO R4 (agu k a sk rd 0) [] (eZ 2 (fF nW [some 0,some 2] (zo (sI n hs) fr n X) (.exit 0) (zo (sI n hs) fr m X))) (Ay 5 (yQ 1)) aHZ [sI n hs,iA fr] ret=cond (lfG n) (gate (Sub (llR (sI n hs) fr (0+n) λ q=>bM (Tv q 0) [] [iA (hs (q - 0))]) (zo (sI n hs) fr n X)) (lfX fr m X k a sk rd 0 0)) none:=by kernel_rfl
theorem avW:Q6 bO R4 (agu k a sk rd 1) [] (eZ 2 (fF nW [some 0,some 2] (zo (sI n hs) fr n X) (.exit 0) (zo (sI n hs) fr m X))) (Ay 5 (yQ 1)) aHZ [sI n hs,iA fr] ret=cond (lfG n) (gate (Sub (llR (sI n hs) fr (0+n) λ q=>bM (Tv q 0) [] [iA (hs (q - 0))]) (zo (sI n hs) fr n X)) (lfX fr m X k a sk rd 1 1)) none:=by kernel_rfl
theorem avX:Q6 bO R4 (agu k a sk rd 2) [] (eZ 2 (fF nW [some 0,some 2] (zo (sI n hs) fr n X) (.exit 0) (zo (sI n hs) fr m X))) (Ay 5 (yQ 1)) aHZ [sI n hs,iA fr] ret=cond (lfG n) (gate (Sub (llR (sI n hs) fr (0+n) λ q=>bM (Tv q 0) [] [iA (hs (q - 0))]) (zo (sI n hs) fr n X)) (lfX fr m X k a sk rd 2 4)) none:=by kernel_rfl
theorem avY:Q6 bO R4 (agu k a sk rd 0) [] (eZ 2 (fF nW [some 0,some 1] (zo (xE p c) fr 0 X) (.exit 0) (zo (xE p c) fr m X))) (Ay 5 (yQ 1)) aHZ [xE p c,iA fr] ret=gate (Sub (llR (xE p c) fr 0 λ _=>[]) (zo (xE p c) fr 0 X)) (lfX fr m X k a sk rd 0 0):=by kernel_rfl
theorem avZ:Q6 bO R4 (agu k a sk rd 1) [] (eZ 2 (fF nW [some 0,some 1] (zo (xE p c) fr 0 X) (.exit 0) (zo (xE p c) fr m X))) (Ay 5 (yQ 1)) aHZ [xE p c,iA fr] ret=gate (Sub (llR (xE p c) fr 0 λ _=>[]) (zo (xE p c) fr 0 X)) (lfX fr m X k a sk rd 1 1):=by kernel_rfl
theorem av0:Q6 bO R4 (agu k a sk rd 2) [] (eZ 2 (fF nW [some 0,some 1] (zo (xE p c) fr 0 X) (.exit 0) (zo (xE p c) fr m X))) (Ay 5 (yQ 1)) aHZ [xE p c,iA fr] ret=gate (Sub (llR (xE p c) fr 0 λ _=>[]) (zo (xE p c) fr 0 X)) (lfX fr m X k a sk rd 2 4):=by kernel_rfl
end
end Go.Proofs.YtdlhemnconimnaaGreat.Hs.So
namespace Go.Proofs.YtdlhemnconimnaaGreat
open Go.Gv
theorem fH{P:Program}:∀e,e∈([]:List iM)->H6 P e:=λ _ h=>by cases h
theorem gQ{P:Program}:∀e,e∈([]:List jK)->E9 P e:=λ _ h=>by cases h
theorem jU{P:Program}{e:iM}{l:List iM}(h:H6 P e)(hl:∀e,e∈l->H6 P e):∀d,d∈e::l->H6 P d:=λ d he=>by
 rcases aHJ.1 he with rfl |he
 .exact h
 .exact hl d he
theorem J3{P:Program}{e:jK}{l:List jK}(h:E9 P e)(hl:∀e,e∈l->E9 P e):∀d,d∈e::l->E9 P d:=λ d he=>by
 rcases aHJ.1 he with rfl |he
 .exact h
 .exact hl d he
section
variable{l:List Entry}{ks:List bf}{ms:List dZ}{ws:List iM}{rs:List jK}{L:Nat->Option dY}(hl:∀e,e∈l->jr bO e)(hks:∀e,e∈ks->sZ bO e)(hms:∀e,e∈ms->oN bO e)(hws:∀e,e∈ws->H6 bO e)(hrs:∀e,e∈rs->E9 bO e)
include hl hks hms hws hrs
theorem nM{f:Nat}{fn:Func}(hf:bO.funcs[f]?=some fn)
  {args : List AV} {mem : List Row} (z : nT mem.length bO L (dH fn)) {τ : List (Option Nat)} (E : Fa mem.length τ = true) {v : AV} {mem1 : List Row} (h : Gj bO l ks ms ws rs L fn args mem τ = nU v mem1) (o : (fn.name == "runtime.NumGoroutine") = false := by kernel_rfl) (t : fn.body = some (dH fn) := by kernel_rfl) (d : apB args.length fn.ntmps = true := by rfl) : dJ bO f args mem v mem1 :=
 Fz (jV hl hks hms hws hrs) (gJ (jV hl hks hms hws hrs) (by kernel_rfl)) 40 hf o t z d E h
theorem Q9{c:Code}{s s':St}{e:Exit}{k:jL}(d:Ma k)(o:yx bO L c)(h:qN bO l ks ms ws rs L c s k=some ⟨e,s',.any⟩):bH bO c s e s' :=J4 d (jV hl hks hms hws hrs) (gJ (jV hl hks hms hws hrs) (by kernel_rfl)) o h
end
end Go.Proofs.YtdlhemnconimnaaGreat
namespace Go.Gv
open Go.RowKit Go.Ev
def H7(row d:Row):Prop:=d=row\/(∃e z n el t,row=.a e z n el/\d=.a e z n t/\∀i,i<n->(t i).length=(el i).length/\∀(E:Env) (o:List Value),pre E (el i) o->pre E (t i) o)\/∃l H,row=.c l/\d=.c H/\∀(E:Env) (o:List Value),pre E l o->pre E H o
def C9:List Row->List Row->Prop
 | [],[]=>True
 |r::rs,r'::rs'=>H7 r r'/\C9 rs rs'
 |_,_=>False
theorem C9.get:∀{rs d:List Row},C9 rs d->∀k:Nat,(rs[k]?=none/\d[k]?=none)\/∃r o,rs[k]?=some r/\d[k]?=some o/\H7 r o
 | [],[],_,k=>wV ⟨by simp,by simp⟩
 |r::rs,o::d,h,k=>by
  cases k with
  |zero=>exact Gc ⟨r,o,rfl,rfl,h.1⟩
  |succ k=>simpa using C9.get h.2 k
 | [],_::_,h,_=>h.elim
 |_::_,[],h,_=>h.elim
theorem gZ{np:Nat}{sl:List (AV × Chain)}{mem mem':List Row}(h:C9 mem mem'):fQ np ⟨sl,mem⟩ ⟨sl,mem'⟩:=by
 intro A0 R w0 E a hp0 d
 have lives:∀k,aN mem' k=aN mem k:=λ k=>by
  unfold aN;rcases h.get k with⟨t,o⟩ | ⟨r,U,t,o,h3⟩
  .rw[t,o]
  .rw[t,o];rcases h3 with rfl | ⟨e,sz,n,el,uL,rfl,rfl,_⟩ | ⟨l,l',rfl,rfl,_⟩<;>rfl
 refine⟨E,rfl,d.defers,d.frame,⟨λ k b c z=>?_,d.wd.small,d.wd.old,λ k b c z hl=>d.wd.own k b c z (by rw[<-lives];exact hl),λ k k' b c c' z O hl M=>d.wd.one k k' b c c' z O (by rw[<-lives];exact hl) (by rw[<-lives];exact M),d.wd.below,d.wd.zA⟩⟩;obtain⟨row,t,o⟩:=d.wd.rows k b c z;rcases h.get k with⟨Q,_⟩ | ⟨r,U,Q,g2,g3⟩
 .have:mem[k]?=some row:=t;rw[Q]at this;cases this
 .have:mem[k]?=some row:=t;rw[Q]at this;cases this;refine⟨U,g2,?_⟩;rcases g3 with rfl | ⟨e,sz,n,el,uL,rfl,rfl,I⟩ | ⟨l,l',rfl,rfl,I⟩
  .exact o
  .obtain⟨S,K,J,k3,k4,k5,Z⟩:=o;exact⟨S,K,J,k3,k4,k5,λ i H=>⟨(I i H).1.trans (Z i H).1,(I i H).2 _ _ (Z i H).2⟩⟩
  .obtain⟨S,e,K,J⟩:=o;exact⟨S,e,K,I _ _ J⟩
end Go.Gv
namespace Go.Proofs.YtdlhemnconimnaaGreat.Hs.So
open Go.Gv
open Go.Ev (cn aM aU aX fdiv bD dG dR dN iB bW iL fabs VB)
theorem oP{l:List Entry}{ks:List bf}{ms:List dZ}{L:Nat->Option dY}{Z:Nat->Option kH}(z:∀i h,Z i=some h->gD 0 h)(hl:∀e,e∈l->jr bO e)(hks:∀e,e∈ks->sZ bO e)(hms:∀e,e∈ms->oN bO e){f:Nat}{fn:Func}(hf:bO.funcs[f]?=some fn)(E:yx bO L (dH fn))
  {args : List AV} {r : AV} (h : Q6 bO l ks ms L Z fn args ret = some (Out.of r)) (o : (fn.name == "runtime.NumGoroutine") = false := by kernel_rfl) (t : fn.body = some (dH fn) := by kernel_rfl) (d : apB args.length fn.ntmps = true := by rfl) : aj bO f args r := yT z (kV hl hks hms) (gJ (kV hl hks hms) (by kernel_rfl)) 40 hf o t E d h
theorem mY{l d:List AV}(h:l=d):d.length=l.length/\∀(E:Env) (cs:List Value),pre E l cs->pre E d cs:=by subst h;exact⟨rfl,λ _ _ h=>h⟩
def Nf(n:Nat)(hs:Nat->Int):Prop:=∀i,i<n->-9223372036854775808<=hs i/\hs i<=9223372036854775807
def jT(x:Nat):Nat:=bU (Xi x)
def QH(n:Nat)(hs:Nat->Int)(q:Nat):Int:=cond (Tv q n) (hs q) (dL n hs (q:Nat))
theorem AR{n:Nat}{hs:Nat->Int}(h:Nf n hs)(m:Nat):Nf m (QH n hs):=λ i _=>by
 unfold QH;cases d:Tv i n
 .exact fU h (avq i)
 .exact h i (Ou d)
theorem asl{raw:AV}{fr:Int}{m:Nat}{X:Nat->Int}{v:Int}(h:X m=v):Sub (llR raw fr (m+1) λ q=>bM (Tv q m) [iA (X q)] [iA v]) (zo raw fr (m+1) X):=by
 refine gZ ⟨wV rfl,Gc (wV ⟨3,1,m+1,_,_,rfl,rfl,λ q hq=>mY ?_⟩),trivial⟩;cases d:Tv q m
 .have:=jM d;have o:q=m:=by omega
  subst o;subst h;rfl
 .rfl
theorem aDL{m:Nat}(h:m<=1000):aqB m m=true:=by unfold aqB;rw[agl (ND m),agl (show(m+1)*8<=140737488355328 by omega)];rfl
theorem Zf{raw:AV}{n:Nat}{hs:Nat->Int}{f m:Nat}{X:Nat->Int}(o:aj bO 20 [raw,iA (m:Nat)] (iA (dL n hs (m:Nat))))(d:X m=dL n hs (m:Nat))(hm:m<f+9)(hf:f<=100)
  (ev:jR bO [] [Kg (dL n hs)] bC (av aHZ 0) (zo raw (f:Nat) m X) (gu nW [some 0,some 3])=llC (dL n hs) (f:Nat) m X raw (λ el=>some ⟨.normal,llR raw (f:Nat) (m+1) el,.any⟩) none):bH bO (av aHZ 0) (zo raw (f:Nat) m X) .normal (zo raw (f:Nat) (m+1) X):=by
 refine(aK (bB nW [some 0,some 3]) aB (au aG ay) aC (ev.trans ?_)).sub (Sub.refl _) (asl d);unfold llC;rw[gG (show((m:Nat):Int)<aH (((f:Nat):Int)+9) by rw[aO];omega),ak o,aDL (by omega)];rfl
theorem afw{raw:AV}{n:Nat}{hs:Nat->Int}{f m:Nat}{X:Nat->Int}(hm:f+9<=m)(hf:f<=100)
  (ev:jR bO [] [Kg (dL n hs)] bC (av aHZ 0) (zo raw (f:Nat) m X) (iG nW [some 0,some 1])=llC (dL n hs) (f:Nat) m X raw (λ _=>none) (some ⟨.exit 0,zo raw (f:Nat) m X,.any⟩)):bH bO (av aHZ 0) (zo raw (f:Nat) m X) (.exit 0) (zo raw (f:Nat) m X):=by
 refine aK (dB nW [some 0,some 1]) aB (au aG ay) aC (ev.trans ?_);unfold llC;rw[iH (show ¬((m:Nat):Int)<aH (((f:Nat):Int)+9) by rw[aO];omega)];rfl
theorem amT{n:Nat}{hs:Nat->Int}{q:Nat}(h:n<=q):QH n hs q=dL n hs (q:Nat):=by
 unfold QH;cases d:Tv q n
 .rfl
 .have:q<n:=Ou d;omega
theorem ajx(n:Nat)(hs:Nat->Int){f:Nat}(hf:f<=100):bH bO (.loop (av aHZ 0)) (zo (sI n hs) (f:Nat) n (QH n hs)) (.exit 0) (zo (sI n hs) (f:Nat) (n+(f+9 - n)) (QH n hs)):=by
 refine aP (λ k=>zo (sI n hs) (f:Nat) (n+k) (QH n hs)) (f+9 - n) (.exit 0) _ (by simp) (λ k d=>?_) ?_
 .exact Zf (aDI (avq _)) (amT (by omega)) (by omega) hf (apz n hs (dL n hs) (f:Nat) (n+k) (QH n hs))
 .exact afw (by omega) hf (avU n hs (dL n hs) (f:Nat) (n+(f+9 - n)) (QH n hs))
theorem ahV(p:Option Addr)(c:Nat)(hs:Nat->Int)(k:Nat):aj bO 20 [xE p c,iA (k:Nat)] (iA (dL 0 hs (k:Nat))) :=sp aB Tryz.func20 (by kernel_rfl)
theorem ajy(p:Option Addr)(c:Nat)(hs:Nat->Int){f:Nat}(hf:f<=100):bH bO (.loop (av aHZ 0)) (zo (xE p c) (f:Nat) 0 (QH 0 hs)) (.exit 0) (zo (xE p c) (f:Nat) (f+9) (QH 0 hs)):=by
 refine aP (λ k=>zo (xE p c) (f:Nat) k (QH 0 hs)) (f+9) (.exit 0) _ (by simp) (λ k d=>?_) ?_
 .exact Zf (ahV p c hs k) (amT (alz _)) d hf (ajg p c (dL 0 hs) (f:Nat) k (QH 0 hs))
 .exact afw (ND _) hf (apA p c (dL 0 hs) (f:Nat) (f+9) (QH 0 hs))
theorem NP{n:Nat}{hs:Nat->Int}{fr:Int}:Sub (llR (sI n hs) fr (0+n) λ q=>bM (Tv q 0) [] [iA (hs (q - 0))]) (zo (sI n hs) fr n (QH n hs)):=by rw[ZO];refine gZ ⟨wV rfl,Gc (wV ⟨3,1,n,_,_,rfl,rfl,λ q hq=>mY ?_⟩),trivial⟩;unfold QH;rw[iU hq];rfl
theorem NQ{raw:AV}{fr:Int}{X:Nat->Int}:Sub (llR raw fr 0 λ _=>[]) (zo raw fr 0 X):=gZ ⟨wV rfl,Gc (wV ⟨3,1,0,_,_,rfl,rfl,λ q hq=>absurd hq (avm q)⟩),trivial⟩
open Go.Ev (key aF isFin val bS cZ dU)
section
variable{n:Nat}{hs:Nat->Int}(h:Nf n hs){f:Nat}(hf:f<=200)
def Q7(n:Nat)(hs:Nat->Int)(f i:Nat):Nat:=pQ n hs (aH ((f:Nat)+1)) 4000 i
include h hf
omit h in
theorem tX{j:Int}(o:0<=j)(d:j<=20):0<=aH ((f:Int)+j)/\aH ((f:Int)+j)<=1000:=by rw[aO];omega
omit h in
theorem aBp(t:tY dD (dL n hs) (f:Nat)=1):aj bO 85 [sI n hs,iA (f:Nat),iA 1] (SH 1 (ls [Q7 n hs f 0,Q7 n hs f 1,Q7 n hs f 2,0,0,0,0,0,0,zy dD bU (dL n hs) (f:Nat),0]) (dD (dL n hs (aH ((f:Nat)+7))) 1)):=by have p0:(0:Int)<=(f:Nat):=avq f;have p1:=tX hf (j:=1) (by decide) (by decide);have p4:=tX hf (j:=4) (by decide) (by decide);have o:=tX hf (j:=7) (by decide) (by decide);have d:=tX hf (j:=8) (by decide) (by decide);refine aR ae5 (au aG (au aG (au aG ay))) aMs aC ((NC n hs dD bU (dL n hs) (pQ n hs) 0 0 0 (f:Nat)).trans ?_);unfold aem;rw[dO p0,sD p1.1 p1.2 (wV rfl),dO o.1,sD p4.1 p4.2 (Gc (wV rfl)),dO d.1];unfold FD ael;rw[t];rfl
omit h in
theorem aBr(z:tY dD (dL n hs) (f:Nat)=2):∃E b1 b2,aj bO 85 [sI n hs,iA (f:Nat),iA 1] (SH 2 (ls [Q7 n hs f 0,Q7 n hs f 1,Q7 n hs f 2,E,b1,b2,0,0,0,0,0]) (dD (dL n hs (aH ((f:Nat)+7))) 1)):=by have p0:(0:Int)<=(f:Nat):=avq f;have p1:=tX hf (j:=1) (by decide) (by decide);have p4:=tX hf (j:=4) (by decide) (by decide);have p5:=tX hf (j:=5) (by decide) (by decide);have t:=tX hf (j:=6) (by decide) (by decide);have o:=tX hf (j:=7) (by decide) (by decide);have d:=tX hf (j:=8) (by decide) (by decide);refine⟨NA dD bU (dL n hs) (pQ n hs) (f:Nat) 0,NA dD bU (dL n hs) (pQ n hs) (f:Nat) 1,NA dD bU (dL n hs) (pQ n hs) (f:Nat) 2,aR ae5 (au aG (au aG (au aG ay))) aMs aC ((NC n hs dD bU (dL n hs) (pQ n hs) 0 0 0 (f:Nat)).trans ?_)⟩;unfold aem;rw[dO p0,sD p1.1 p1.2 (wV rfl),dO o.1,sD p4.1 p4.2 (Gc (wV rfl)),dO d.1,dO p5.1,dO t.1];unfold FD ael;rw[z];generalize NA dD bU (dL n hs) (pQ n hs) (f:Nat)=B;rfl
theorem aBs(E:tY dD (dL n hs) (f:Nat)=5):∃x y w,aj bO 85 [sI n hs,iA (f:Nat),iA 1] (SH 5 (ls [Q7 n hs f 0,Q7 n hs f 1,Q7 n hs f 2,x,y,w,0,0,0,zy dD bU (dL n hs) (f:Nat),0]) (dD (dL n hs (aH ((f:Nat)+7))) 1))/\((x=bU (aH (1+dD (dL n hs (aH ((f:Nat)+5))) 3000))/\y=0/\w=0)\/(x=0/\y=bU (aH (1+dD (dL n hs (aH ((f:Nat)+5))) 3000))/\w=0)\/(x=0/\y=0/\w=bU (aH (1+dD (dL n hs (aH ((f:Nat)+5))) 3000)))):=by
 have p0:(0:Int)<=(f:Nat):=avq f;have p1:=tX hf (j:=1) (by decide) (by decide);have p4:=tX hf (j:=4) (by decide) (by decide);have p5:=tX hf (j:=5) (by decide) (by decide);have d:=tX hf (j:=6) (by decide) (by decide);have z:=tX hf (j:=7) (by decide) (by decide);have o:=tX hf (j:=8) (by decide) (by decide);have I:=jc (m:=3) (fU h d.1).1 (fU h d.1).2 (by decide)
 obtain⟨x,y,w,hp,H⟩:∃x y w,aj bO 109 [V 0 0 0,iA (dD (dL n hs (aH ((f:Nat)+6))) 3),.f (bU (aH (1+dD (dL n hs (aH ((f:Nat)+5))) 3000)))] (V x y w)/\((x=bU (aH (1+dD (dL n hs (aH ((f:Nat)+5))) 3000))/\y=0/\w=0)\/(x=0/\y=bU (aH (1+dD (dL n hs (aH ((f:Nat)+5))) 3000))/\w=0)\/(x=0/\y=0/\w=bU (aH (1+dD (dL n hs (aH ((f:Nat)+5))) 3000)))):=by
  generalize bU (aH (1+dD (dL n hs (aH ((f:Nat)+5))) 3000))=t;have:dD (dL n hs (aH ((f:Nat)+6))) 3=0\/dD (dL n hs (aH ((f:Nat)+6))) 3=1\/dD (dL n hs (aH ((f:Nat)+6))) 3=2:=by omega
  rcases this with e |e |e<;>rw[e]
  .exact⟨_,_,_,aky 0 0 0 t,wV ⟨rfl,rfl,rfl⟩⟩
  .exact⟨_,_,_,akz 0 0 0 t,Gc (wV ⟨rfl,rfl,rfl⟩)⟩
  .exact⟨_,_,_,akA 0 0 0 t,Gc (Gc ⟨rfl,rfl,rfl⟩)⟩
 refine⟨x,y,w,aR ae5 (au aG (au aG (au aG ay))) aMs aC ((NC n hs dD bU (dL n hs) (pQ n hs) x y w (f:Nat)).trans ?_),H⟩;unfold aem aaE ajd;rw[dO p0,sD p1.1 p1.2 (wV rfl),dO z.1,sD p4.1 p4.2 (Gc (wV rfl)),dO o.1];unfold FD ael;rw[E];show gR n hs (dL n hs) (aH ((f:Nat)+6)) (gR n hs (dL n hs) (aH ((f:Nat)+5)) _)=_;rw[dO d.1,dO p5.1,ak hp];rfl
end
theorem aFr{c:Nat}(hc:c=1074){z:Int}(h:z.natAbs<=4000):VB 1 (c+2) (bU z):=by
 have a:=nC hc (m:=-4000) (n:=z) (by omega) (by decide) (by omega);have b:=nC hc (m:=z) (n:=4000) (by omega) (by omega) (by decide);have o:val (bU 4000)=((1*2 ^ (c+2):Nat):Int):=by subst hc;decide +kernel
 have d:val (bU (-4000))=-((1*2 ^ (c+2):Nat):Int):=by subst hc;decide +kernel
 refine⟨(rD hc (j:=3) (by decide) (by show _<=4096;omega)).1,?_⟩;have a:=Go.Ev.jZ.2 a;have b:=Go.Ev.jZ.2 b;generalize 1*2 ^ (c+2)=B at *;omega
theorem wO{c x:Nat}(hc:c=1074)(h:VB 1 (c+2) x):VB 1 c (aX x WS):=by
 obtain⟨d,t⟩:∃d,c=d+2:=⟨c - 2,by omega⟩
 have o:VB 1 d WS:=by
  have e:(val WS).natAbs=2 ^ 1072:=by decide +kernel
  refine⟨by decide +kernel,?_⟩;rw[e,aHp,show d=1072 by omega];exact ND _
 exact Go.Ev.Dh hc h o (k:=c) (by omega) (by decide) (by decide) (by omega) (by omega)
theorem awk{c j x:Nat}(hc:c=1074)(d:j<=46)(h:VB 1 (c+j) x):(Xi x).natAbs<=2 ^ (j+11):=by
 have t:2 ^ (j+11)<=2 ^ 57:=agX (by decide) (by omega);have e:2 ^ 57=144115188075855872:=by decide
 have o:∀{x},VB 1 (c+j) x->0<=key x->0<=FE .i64 (yU x)/\(FE .i64 (yU x)).natAbs<=2 ^ (j+11):=fun{x} h h0=>by
  have v:=yZ hc d h
  have hq:(val (yU x)).natAbs / 2 ^ c<=2 ^ (j+11):=by refine aa2 (Go.Ev.VB.cut v) ?_;rw[aHp,ahO,aEw,aJm _ (aaZ c)];exact ND _
  rw[Go.Ev.Ez hc v.1 (II hc d h h0) (by omega)];generalize(val (yU x)).natAbs / 2 ^ c=M at hq ⊢;omega
 unfold Xi;by_cases h0:0<=key x
 .have:=o h h0;rw[IK h.1 h0,eU];exact this.2
 .have z:=(Go.Ev.Di (Go.Ev.dX h.1)).1;have:=o (Go.Ev.IL h) (by omega);generalize FE .i64 (yU (dG x))=q at this;rw[awS h.1 (by omega),aY];generalize 2 ^ (j+11)=B at *;rw[aO];omega
theorem Er{z:Int}(h:1<=z)(d:z<=100000):0<key (bU z):=by
 have a:=nC (c:=1074) rfl (m:=1) (n:=z) h (by decide) (by omega);have b:0<key (bU 1):=by decide +kernel
 omega
def Mk(k:Int)(a:Nat->Nat)(sk:Int):Prop:=LE k a sk/\∀i,i<11->aF (a i)=false
theorem aay{c:Nat}(hc:c=1074){n:Nat}{hs:Nat->Int}(h:Nf n hs){f:Nat}(hf:f<=200)(i:Nat)(hi:i<=10):VB 1 (c+2) (Q7 n hs f i):=by
 have p1:=tX hf (j:=1) (by decide) (by decide);have h:∀i,i<n->-9223372036854775808<=hs i/\hs i<=9223372036854775807:=h;have p:0<=aH (aH ((f:Nat)+1)+(i:Nat)):=by rw[aO];omega
 unfold Q7 pQ WM;rw[show aH (aH (2*4000)+1)=8001 by decide];have z:=jc (m:=8001) (fU h p).1 (fU h p).2 (by decide);generalize dD (dL n hs (aH (aH ((f:Nat)+1)+(i:Nat)))) 8001=q at z ⊢;rw[aO];exact aFr hc (by omega)
theorem aBn{c:Nat}(hc:c=1074){n:Nat}{hs:Nat->Int}(h:Nf n hs){f:Nat}(hf:f<=200):VB 1 (c+3) (zy dD bU (dL n hs) (f:Nat))/\0<key (zy dD bU (dL n hs) (f:Nat)):=by have p:=tX hf (j:=8) (by decide) (by decide);have z:=jc (m:=2500) (fU (n:=n) (hs:=hs) h p.1).1 (fU (n:=n) (hs:=hs) h p.1).2 (by decide);unfold zy;generalize dD (dL n hs (aH ((f:Nat)+8))) 2500=q at z ⊢;rw[aO];exact⟨rD hc (by decide) (by show _<=4096;omega),Er (by omega) (by omega)⟩
theorem aBo{c:Nat}(hc:c=1074){n:Nat}{hs:Nat->Int}(h:Nf n hs){f:Nat}(hf:f<=200):VB 1 (c+3) (bU (aH (1+dD (dL n hs (aH ((f:Nat)+5))) 3000)))/\0<key (bU (aH (1+dD (dL n hs (aH ((f:Nat)+5))) 3000))):=by have p:=tX hf (j:=5) (by decide) (by decide);have z:=jc (m:=3000) (fU (n:=n) (hs:=hs) h p.1).1 (fU (n:=n) (hs:=hs) h p.1).2 (by decide);generalize dD (dL n hs (aH ((f:Nat)+5))) 3000=q at z ⊢;rw[aO];exact⟨rD hc (by decide) (by show _<=4096;omega),Er (by omega) (by omega)⟩
theorem aua{x:Nat}(d:isFin x=true)(h:0<key x):yg x=true:=by
 have k0:key 0=0:=by decide +kernel
 unfold yg;rw[dU (Go.Ev.dX d) (by decide +kernel),iH (by omega)];rfl
theorem Q8:yg 0=false:=by decide +kernel
theorem Fy{c:Nat}(hc:c=1074){a:Nat->Nat}{i:Nat}(h:VB 1 (c+2) (a i)):∃p:Int,lA a jT i=bU p/\p.natAbs<=1000:=⟨Xi (aX (a i) WS),rfl,ajJ hc (wO hc h)⟩
section
variable{c:Nat}(hc:c=1074){k:Int}{a:Nat->Nat}{sk:Int}(v0:VB 1 (c+2) (a 0))(v1:VB 1 (c+2) (a 1))(v2:VB 1 (c+2) (a 2))
include hc v0 v1 v2
theorem aBq(t:k≠2):(HY jT (aX (a 0) WS) (HY jT (aX (a 1) WS) (HY jT (aX (a 2) WS)
 (cond (k==2) (HY jT (lB a jT 0) (HY jT (lB a jT 1) (HY jT (lB a jT 2) (lO k a sk jT (ls [jT (lB a jT 0),jT (lB a jT 1),jT (lB a jT 2)]))))) (lO k a sk jT (ls [a 3,a 4,a 5]))))))=some (Out.of (SH k (ls [lA a jT 0,lA a jT 1,lA a jT 2,a 3,a 4,a 5,a 6,a 7,a 8,a 9,a 10]) sk)):=by
 have d:∀{j x:Nat} {o:Option Out},j<=46->VB 1 (c+j) x->HY jT x o=o:=λ z h=>ak (aen (ajK hc z h));rw[d (j:=0) (by decide) (wO hc v0),d (j:=0) (by decide) (wO hc v1),d (j:=0) (by decide) (wO hc v2),mI t];rfl
theorem aFl(E:k=2)(I:a 9=0):(HY jT (aX (a 0) WS) (HY jT (aX (a 1) WS) (HY jT (aX (a 2) WS)
 (cond (k==2) (HY jT (lB a jT 0) (HY jT (lB a jT 1) (HY jT (lB a jT 2) (lO k a sk jT (ls [jT (lB a jT 0),jT (lB a jT 1),jT (lB a jT 2)]))))) (lO k a sk jT (ls [a 3,a 4,a 5]))))))=some (Out.of (SH k (ls [lA a jT 0,lA a jT 1,lA a jT 2,jT (aM (lA a jT 0) (aM 0 one)),jT (aM (lA a jT 1) one),jT (aM (lA a jT 2) Le),a 6,a 7,a 8,a 9,a 10]) sk)):=by
 have d:∀{j x:Nat} {o:Option Out},j<=46->VB 1 (c+j) x->HY jT x o=o:=λ H h=>ak (aen (ajK hc H h))
 have w:∀{i e:Nat},VB 1 (c+2) (a i)->VB 1 (c+1) e->VB 1 (c+(1+1)) (aM (lA a jT i) e):=fun{i e} hi he=>by obtain⟨p,e1,e2⟩:=Fy hc hi;rw[e1];exact lU hc (by decide) (oM hc (by omega)) he
 have t:lB a jT 0=aM (lA a jT 0) (aM (a 9) one):=by unfold lB;rfl
 have z:lB a jT 0=aM (lA a jT 0) (aM 0 one):=t.trans (by rw[I]);have l1:lB a jT 1=aM (lA a jT 1) one:=by unfold lB;rfl
 have l2:lB a jT 2=aM (lA a jT 2) Le:=by unfold lB;rfl
 rw[d (j:=0) (by decide) (wO hc v0),d (j:=0) (by decide) (wO hc v1),d (j:=0) (by decide) (wO hc v2),E,z,l1,l2];show HY jT _ (HY jT _ (HY jT _ _))=_;rw[d (j:=1+1) (by decide) (w v0 (TD c hc)),d (j:=1+1) (by decide) (w v1 (WV c hc)),d (j:=1+1) (by decide) (w (e:=Le) v2 (CK c hc))];generalize jT (aM (lA a jT 0) (aM 0 one))=y0;generalize jT (aM (lA a jT 1) one)=y1;generalize jT (aM (lA a jT 2) Le)=y2;rfl
end
theorem aaz{c:Nat}(hc:c=1074){p:Int}{e:Nat}(hp:p.natAbs<=1000)(he:∀c,c=1074->VB 1 (c+1) e)(d:p<=Xi (aM (bU p) e)):VB 1 (c+4) (jT (aM (bU p) e))/\key (bU p)<=key (jT (aM (bU p) e)):=by have v:VB 1 (c+(1+1)) (aM (bU p) e):=lU hc (by decide) (oM hc (by omega)) (he c hc);have b:=awk hc (by decide) v;have b:(Xi (aM (bU p) e)).natAbs<=8192:=b;exact⟨rD hc (by decide) (by show _<=8192;exact b),nC hc d (by omega) (by omega)⟩
section
variable(n:Nat)(hs:Nat->Int)(pf:Int->Int->Int)(tf:Int->Nat)(rf:Int->Int)(vf:Int->Int->Nat->Nat)(fr:Int)
def rxO(x y z:Nat):Option Out:=some (Out.of (.agg [.f (vf fr 6000 0),.f (vf fr 6000 1),.f (vf fr 6000 2),.f x,.f y,.f z,.f (tf (pf (rf (aH (fr+6))) 3))]))
def rxN(x y z:Nat):Option Out:=cond (lH x y z) (rxO pf tf rf vf fr x y one) (rxO pf tf rf vf fr x y z)
def rxY(x:Nat):Option Out:=cond (pf (rf (aH (fr+8))) 4==0) (rxN pf tf rf vf fr x 0 (vf (aH (fr+3)) 1500 2)) (rxN pf tf rf vf fr x (vf (aH (fr+3)) 1500 1) (vf (aH (fr+3)) 1500 2))
noncomputable def rxX:Option Out:=gV n hs vf fr 6000 (gV n hs vf (aH (fr+3)) 1500 (gR n hs rf (aH (fr+6)) (gR n hs rf (aH (fr+7)) (cond (pf (rf (aH (fr+7))) 3==0) (gR n hs rf (aH (fr+8)) (rxY pf tf rf vf fr 0)) (gR n hs rf (aH (fr+8)) (rxY pf tf rf vf fr (vf (aH (fr+3)) 1500 0)))))))
theorem aBW:ev bO (M0 pf tf) [Kg rf,vcK vf] bC Tryz.f18 [sI n hs,iA fr] ret=rxX n hs pf tf rf vf fr:=by kernel_rfl
end
theorem rG{n:Nat}{hs:Nat->Int}(h:Nf n hs){fr:Int}(h0:0<=fr)(o:fr<=1000){mo:Int}(hm:0<=mo)(d:mo<=6000)(i:Nat)(hi:i<=10):∃z:Int,pQ n hs fr mo i=bU z/\z.natAbs<=mo:=by
 have h:∀i,i<n->-9223372036854775808<=hs i/\hs i<=9223372036854775807:=h;have p:0<=aH (fr+(i:Nat)):=by rw[aO];omega
 unfold pQ WM;have e:aH (aH (2*mo)+1)=2*mo+1:=by rw[aO (n:=2*mo),aO]
 rw[e];have z:=jc (m:=2*mo+1) (fU h p).1 (fU h p).2 (by omega);generalize dD (dL n hs (aH (fr+(i:Nat)))) (2*mo+1)=q at z ⊢;rw[aO];exact⟨q - mo,rfl,by omega⟩
theorem aFt{n:Nat}{hs:Nat->Int}{f:Nat}(hf:f<=100):∃x y z,aj bO 18 [sI n hs,iA (f:Nat)] (RY (ls [pQ n hs (f:Nat) 6000 0,pQ n hs (f:Nat) 6000 1,pQ n hs (f:Nat) 6000 2,x,y,z,bU (dD (dL n hs (aH ((f:Nat)+6))) 3)]))/\(x=0\/x=pQ n hs (aH ((f:Nat)+3)) 1500 0)/\(y=0\/y=pQ n hs (aH ((f:Nat)+3)) 1500 1)/\((z=pQ n hs (aH ((f:Nat)+3)) 1500 2/\lH x y z=false)\/z=one):=by
 have o:f<=200:=by omega
 have p0:(0:Int)<=(f:Nat):=avq f;have p3:=tX o (j:=3) (by decide) (by decide);have I:=tX o (j:=6) (by decide) (by decide);have H:=tX o (j:=7) (by decide) (by decide);have E:=tX o (j:=8) (by decide) (by decide)
 have O:∃x y z,rxX n hs dD bU (dL n hs) (pQ n hs) (f:Nat)=rxO dD bU (dL n hs) (pQ n hs) (f:Nat) x y z/\(x=0\/x=pQ n hs (aH ((f:Nat)+3)) 1500 0)/\(y=0\/y=pQ n hs (aH ((f:Nat)+3)) 1500 1)/\((z=pQ n hs (aH ((f:Nat)+3)) 1500 2/\lH x y z=false)\/z=one):=by
  unfold rxX;rw[sD p0 (by omega) (Gc (Gc (wV rfl))),sD p3.1 p3.2 (Gc (Gc (Gc (wV rfl)))),dO I.1,dO H.1,dO E.1,dO E.1]
  have t:∀x y,∃d,rxN dD bU (dL n hs) (pQ n hs) (f:Nat) x y (pQ n hs (aH ((f:Nat)+3)) 1500 2)=rxO dD bU (dL n hs) (pQ n hs) (f:Nat) x y d/\((d=pQ n hs (aH ((f:Nat)+3)) 1500 2/\lH x y d=false)\/d=one):=λ x y=>by
   unfold rxN;cases h:lH x y (pQ n hs (aH ((f:Nat)+3)) 1500 2)
   .exact⟨_,rfl,wV ⟨rfl,h⟩⟩
   .exact⟨_,rfl,Gc rfl⟩
  unfold rxY;cases dD (dL n hs (aH ((f:Nat)+7))) 3==0<;>cases dD (dL n hs (aH ((f:Nat)+8))) 4==0<;>simp only[aY,eU]
  .obtain⟨d,e,h⟩:=t (pQ n hs (aH ((f:Nat)+3)) 1500 0) (pQ n hs (aH ((f:Nat)+3)) 1500 1);exact⟨_,_,d,e,Gc rfl,Gc rfl,h⟩
  .obtain⟨d,e,h⟩:=t (pQ n hs (aH ((f:Nat)+3)) 1500 0) 0;exact⟨_,_,d,e,Gc rfl,wV rfl,h⟩
  .obtain⟨d,e,h⟩:=t 0 (pQ n hs (aH ((f:Nat)+3)) 1500 1);exact⟨_,_,d,e,wV rfl,Gc rfl,h⟩
  .obtain⟨d,e,h⟩:=t 0 0;exact⟨_,_,d,e,wV rfl,wV rfl,h⟩
 obtain⟨x,y,z,e,M,K,J⟩:=O;exact⟨x,y,z,aR wP (au aG (au aG ay)) Tryz.func18 aC ((aBW n hs dD bU (dL n hs) (pQ n hs) (f:Nat)).trans e),M,K,J⟩
theorem DK{x:Nat}(h:aF x=false):dR x x=true:=by rw[dU h h,gG rfl]
theorem an4{z:Int}(h:z.natAbs<=100000):dR (bU z) (jk (bU z))=true:=by
 have t:key 4517329193108106637<=key (bU 1):=by decide +kernel
 have o:key (bU (-1))<=key 13740701229962882445:=by decide +kernel
 have d:aF (bU z)=false:=Go.Ev.dX (rD (c:=1074) rfl (j:=10) (by decide) (by show _<=524288;omega)).1;by_cases h0:z=0
 .subst h0;decide +kernel
 by_cases hp:0<z
 .have m:=nC (c:=1074) rfl (m:=1) (n:=z) (by omega) (by decide) (by omega);have f:dN (bU z) 4517329193108106637=false:=by rw[bS d (by decide +kernel),iH (by omega)]
  unfold jk;rw[f];cases bW (bU z) 13740701229962882445<;>exact DK d
 .have m:=nC (c:=1074) rfl (m:=z) (n:=-1) (by omega) (by omega) (by decide);have f:bW (bU z) 13740701229962882445=false:=by rw[cZ d (by decide +kernel),iH (by omega)]
  unfold jk;rw[f];exact DK d
theorem atm:dR 0 (jk 0)=true:=by decide +kernel
theorem atn:dR one (jk one)=true:=by decide +kernel
theorem adD{c:Nat}(hc:c=1074){x:Nat}(h:x=0\/x=one\/∃z:Int,x=bU z/\z.natAbs<=1500):VB 1 (c+19) x/\dR x (jk x)=true:=by
 rcases h with rfl |rfl | ⟨z,rfl,d⟩
 .exact⟨Go.Ev.Ee 1 _,atm⟩
 .exact⟨Go.Ev.lg (Go.Ev.ou (j:=0) hc (by decide +kernel)) (by omega),atn⟩
 .exact⟨Go.Ev.lg (rD hc (j:=2) (by decide) (by show _<=2048;omega)) (by omega),an4 (by omega)⟩
theorem am2{n:Nat}{hs:Nat->Int}(h:Nf n hs){f:Nat}(hf:f<=100):∃r,aj bO 18 [sI n hs,iA (f:Nat)] (RY r)/\gP r=0:=by
 obtain⟨c,hc⟩:∃c,c=1074:=⟨_,rfl⟩;obtain⟨x,y,z,hS,hx,hy,d⟩:=aFt (n:=n) (hs:=hs) hf;refine⟨_,hS,?_⟩;have o:f<=200:=by omega
 have p0:(0:Int)<=(f:Nat):=avq f;have p3:=tX o (j:=3) (by decide) (by decide);have I:=tX o (j:=6) (by decide) (by decide);have l:=jc (m:=3) (fU (n:=n) (hs:=hs) h I.1).1 (fU (n:=n) (hs:=hs) h I.1).2 (by decide)
 have fr:∀i,i<=10->VB 1 (c+19) (pQ n hs (f:Nat) 6000 i):=λ i E=>by obtain⟨q,e,hq⟩:=rG h p0 (by omega) (mo:=6000) (by decide) (by decide) i E;rw[e];exact Go.Ev.lg (rD hc (j:=4) (by decide) (by show _<=8192;omega)) (by omega)
 have H:∀i,i<=10->∃q:Int,pQ n hs (aH ((f:Nat)+3)) 1500 i=bU q/\q.natAbs<=1500:=λ i E=>by obtain⟨q,e,hq⟩:=rG h p3.1 p3.2 (mo:=1500) (by decide) (by decide) i E;exact⟨q,e,by omega⟩
 have dx:x=0\/x=one\/∃q:Int,x=bU q/\q.natAbs<=1500:=hx.elim wV λ e=>Gc (Gc (by rw[e];exact H 0 (by decide)));have dy:y=0\/y=one\/∃q:Int,y=bU q/\q.natAbs<=1500:=hy.elim wV λ e=>Gc (Gc (by rw[e];exact H 1 (by decide)));have dz:z=0\/z=one\/∃q:Int,z=bU q/\q.natAbs<=1500:=d.elim (λ e=>Gc (Gc (by rw[e.1];exact H 2 (by decide)))) λ e=>Gc (wV e);obtain⟨Q,cx⟩:=adD hc dx;obtain⟨O,cy⟩:=adD hc dy;obtain⟨M,cz⟩:=adD hc dz;have t:VB 1 (c+19) (bU (dD (dL n hs (aH ((f:Nat)+6))) 3)):=Go.Ev.lg (rD hc (j:=1) (by decide) (by show _<=1024;omega)) (by omega)
 have le:dN (bU (dD (dL n hs (aH ((f:Nat)+6))) 3)) 0=false:=by
  refine IK t.1 ?_;have m:=nC hc (m:=0) (n:=dD (dL n hs (aH ((f:Nat)+6))) 3) l.1 (by decide) (by omega);have k:0<=key (bU 0):=by decide +kernel
  omega
 have f0:=fr 0 (by decide);have K:=fr 1 (by decide);have J:=fr 2 (by decide)
 have Z:(dR x 0&&(dR y 0&&(dR z 0&&true)))=false:=by
  rcases d with⟨_,d⟩ |rfl
  .unfold lH at d;revert d;cases dR x 0<;>cases dR y 0<;>cases dR z 0<;>simp
  .have:dR one 0=false:=by decide +kernel
   rw[this];cases dR x 0<;>cases dR y 0<;>rfl
 generalize pQ n hs (f:Nat) 6000 0=a0 at f0 ⊢;generalize pQ n hs (f:Nat) 6000 1=a1 at K ⊢;generalize pQ n hs (f:Nat) 6000 2=a2 at J ⊢;generalize bU (dD (dL n hs (aH ((f:Nat)+6))) 3)=s at t le ⊢
 have rf:QG (ls [a0,a1,a2,x,y,z,s])=false:=by show cond (cond (!fE a0 a1 a2) true (!fE x y z)) true (!iF s)=false;rw[vC hc f0 K J,vC hc Q O M,ru hc t];rfl
 have S:aml (ls [a0,a1,a2,x,y,z,s])=false:=Z
 have U:amm (ls [a0,a1,a2,x,y,z,s])=true:=by show(dR x (jk x)&&(dR y (jk y)&&(dR z (jk z)&&true)))=true;rw[cx,cy,cz];rfl
 unfold gP;rw[rf,S,U];show cond (dN s 0) 6 0=(0:Int);rw[le];rfl
end Go.Proofs.YtdlhemnconimnaaGreat.Hs.So
namespace Go.Proofs.YtdlhemnconimnaaGreat
open Go.Gv
def apI(c sz:Nat):Bool:=apB c c&&apB ((c+1)*sz) 140737488355328
theorem aiX{c sz:Nat}(h:(c+1)*sz<=140737488355328):apI c sz=true:=by unfold apI;rw[agl (ND c),agl h];rfl
end Go.Proofs.YtdlhemnconimnaaGreat
namespace Go.Em
def qG:Nat:=1000000
def Ld(a i:Nat):Nat:=a / qG ^ i % qG
def kJ(a:Nat):Nat:=if _h:a=0 then 0 else kJ (a / 1000000)+1
 termination_by a
 decreasing_by omega
end Go.Em
namespace Go.Ev
def aJ:Nat:=18446744073709551616
theorem jf:0<aJ:=by decide
theorem nN:aJ=18446744073709551616:=rfl
def aW(a i:Nat):Nat:=a / aJ ^ i % aJ
theorem tZ(a i:Nat):aW a i<aJ:=aHY _ jf
theorem iJ(i:Nat):0<aJ ^ i:=Nat.pow_pos jf
theorem lW(a i:Nat):a % aJ ^ (i+1)=a % aJ ^ i+aJ ^ i*aW a i:=by unfold aW;rw[Nat.mod_pow_succ]
theorem lJ{a i:Nat}(h:a<aJ ^ i):aW a i=0:=by unfold aW;rw[aHw h];rfl
def vl(f:Nat->Nat):Nat->Nat
 | 0=>0
 |n+1=>vl f n+aJ ^ n*f n
theorem IB(a:Nat):∀n,vl (aW a) n=a % aJ ^ n
 | 0=>by rw[axO,aJC];rfl
 |n+1=>by show vl (aW a) n+aJ ^ n*aW a n=_;rw[IB a n,lW]
def aA(a:Nat):Nat:=if a=0 then 0 else a.log2 / 64+1
theorem anN(k:Nat):aJ ^ k=2 ^ (64*k):=by rw[Nat.pow_mul];rfl
theorem kL(a:Nat):a<aJ ^ aA a:=by
 unfold aA;by_cases h:a=0
 .rw[gH h,h,axO];exact Nat.zero_lt_one
 .rw[fP h,anN];have d:a<2 ^ (a.log2+1):=aId;exact anS d (agX (by decide) (by omega))
theorem I6{a:Nat}(h:a≠0):0<aA a/\aJ ^ (aA a - 1)<=a:=by unfold aA;rw[fP h,anN];refine⟨by omega,?_⟩;have d:2 ^ a.log2<=a:=aHK h;exact aa2 (agX (by decide) (by omega)) d
theorem XL{a k:Nat}(E:a<aJ ^ k)(d:k=0\/aJ ^ (k - 1)<=a):aA a=k:=by
 by_cases h:a=0
 .subst h;unfold aA;rw[gH rfl];rcases d with d |d
  .exact d.symm
  .have:=iJ (k - 1);omega
 .obtain⟨H,g2⟩:=I6 h;have g3:=kL a;have t:k≠0:=λ e=>by subst e;rw[axO]at E;omega
  have d:=d.resolve_left t;rcases aJQ (aA a) k with o |e |z
  .have:aJ ^ aA a<=aJ ^ (k - 1):=agX jf (by omega);omega
  .exact e
  .have:aJ ^ k<=aJ ^ (aA a - 1):=agX jf (by omega);omega
theorem I8:aA 0=0:=rfl
theorem I7{a k:Nat}(h:a<aJ ^ k):aA a<=k:=by
 by_cases h0:a=0
 .subst h0;exact alz _
 .obtain⟨t,g2⟩:=I6 h0;rcases aH9 k (aA a)with o |d
  .have:aJ ^ k<=aJ ^ (aA a - 1):=agX jf (by omega);omega
  .exact d
theorem UD{a:Nat}(h:a≠0):aW a (aA a - 1)≠0:=by
 obtain⟨t,g2⟩:=I6 h;have g3:=kL a;unfold aW;have o:0<a / aJ ^ (aA a - 1):=Nat.div_pos g2 (iJ _)
 have d:a / aJ ^ (aA a - 1)<aJ:=by
  rw[aHr (iJ _),aEw,<-aBg];have e:(aA a - 1).succ=aA a:=by omega
  rw[e];exact g3
 rw[aG8 d];omega
def cy(a b i:Nat):Nat:=(a % aJ ^ i+b % aJ ^ i) / aJ ^ i
theorem MG(a b:Nat):cy a b 0=0:=by unfold cy;rw[axO,aJC,aJC]
theorem X4(a b i:Nat):cy a b i<=1:=by
 unfold cy;have o:=aHY a (iJ i);have d:=aHY b (iJ i);have:(a % aJ ^ i+b % aJ ^ i) / aJ ^ i<2:=by rw[aHr (iJ i)];omega
 omega
theorem MH(a b i:Nat):cy a b (i+1)=(aW a i+aW b i+cy a b i) / aJ:=by unfold cy;rw[lW,lW,aBg,<-aBu];congr 1;rw[show a % aJ ^ i+aJ ^ i*aW a i+(b % aJ ^ i+aJ ^ i*aW b i)=a % aJ ^ i+b % aJ ^ i+aJ ^ i*(aW a i+aW b i) by rw[aHx];omega,aHG _ _ (iJ i)];omega
theorem Oh(a b i:Nat):aW (a+b) i=(aW a i+aW b i+cy a b i) % aJ:=by
 have h:(a+b) / aJ ^ i=a / aJ ^ i+b / aJ ^ i+cy a b i:=by
  have e1:=aEO a (aJ ^ i);have e2:=aEO b (aJ ^ i);have:a+b=a % aJ ^ i+b % aJ ^ i+aJ ^ i*(a / aJ ^ i+b / aJ ^ i):=by rw[aHx];omega
  rw[this,aHG _ _ (iJ i)];unfold cy;omega
 unfold aW;rw[h];rw[aMI (a / aJ ^ i+b / aJ ^ i) (cy a b i) aJ,aMI (a / aJ ^ i) (b / aJ ^ i) aJ,aMI (a / aJ ^ i % aJ+b / aJ ^ i % aJ) (cy a b i) aJ]
def bw(a b i:Nat):Nat:=if a % aJ ^ i<b % aJ ^ i then 1 else 0
theorem MI(a b:Nat):bw a b 0=0:=by unfold bw;rw[axO,aJC,aJC];rfl
theorem X5(a b i:Nat):bw a b i<=1:=by unfold bw;split<;>omega
theorem atd{Q ra rb d o:Nat}(z:ra<Q)(t:rb<Q):(if ra+Q*d<rb+Q*o then 1 else 0)=(if d<o+(if ra<rb then 1 else 0)then 1 else 0:Nat):=by
 rcases aJQ d o with h |h |h
 .have:Q*(d+1)<=Q*o:=apL _ h;rw[aHx,aHo]at this;rw[gH (show ra+Q*d<rb+Q*o by omega),gH (by omega)]
 .subst h;by_cases hc:ra<rb
  .rw[gH (show ra+Q*d<rb+Q*d by omega),gH hc,gH (by omega)]
  .rw[fP (show ¬ra+Q*d<rb+Q*d by omega),fP hc,fP (by omega)]
 .have:Q*(o+1)<=Q*d:=apL _ h;rw[aHx,aHo]at this;rw[fP (show ¬ra+Q*d<rb+Q*o by omega),fP (by split<;>omega)]
theorem MJ(a b i:Nat):bw a b (i+1)=if aW a i<aW b i+bw a b i then 1 else 0:=by unfold bw;rw[lW,lW];exact atd (aHY a (iJ i)) (aHY b (iJ i))
theorem ate{Q qa ra qb rb:Nat}(o:0<Q)(ha:ra<Q)(E:rb<Q)(h:Q*qb+rb<=Q*qa+ra):(Q*qa+ra - (Q*qb+rb)) / Q=qa - qb - (if ra<rb then 1 else 0)/\qb+(if ra<rb then 1 else 0)<=qa:=by
 by_cases hc:ra<rb
 .rw[gH hc]
  have t:qb<qa:=by
   rcases aH9 qb qa with d |d
   .exact d
   .have:Q*qa<=Q*qb:=apL _ d;omega
  obtain⟨k,rfl⟩:∃k,qa=qb+1+k:=⟨qa - qb - 1,by omega⟩;have e:Q*(qb+1+k)=Q*qb+Q+Q*k:=by rw[aHx,aHx,aHo]
  have e2:Q*(qb+1+k)+ra - (Q*qb+rb)=(Q+ra - rb)+Q*k:=by rw[e];omega
  refine⟨?_,by omega⟩;rw[e2,aHG _ _ o,aHw (by omega)];omega
 .rw[fP hc]
  have z:qb<=qa:=by
   rcases aH9 qa qb with d |d
   .have:Q*(qa+1)<=Q*qb:=apL _ d;rw[aHx,aHo]at this;omega
   .exact d
  obtain⟨k,rfl⟩:∃k,qa=qb+k:=⟨qa - qb,by omega⟩;have e:Q*(qb+k)=Q*qb+Q*k:=aHx _ _ _;have e2:Q*(qb+k)+ra - (Q*qb+rb)=(ra - rb)+Q*k:=by rw[e];omega
  refine⟨?_,by omega⟩;rw[e2,aHG _ _ o,aHw (by omega)];omega
theorem UE{a b:Nat}(d:b<=a)(i:Nat):aW (a - b) i=(aW a i+aJ - aW b i - bw a b i) % aJ:=by have E:=aHY a (iJ i);have t:=aHY b (iJ i);have H:=X5 a b i;have hs:=ate (qa:=a / aJ ^ i) (ra:=a % aJ ^ i) (qb:=b / aJ ^ i) (rb:=b % aJ ^ i) (iJ i) E t (by rw[aEO,aEO];exact d);rw[aEO,aEO]at hs;have hq:(a - b) / aJ ^ i=a / aJ ^ i - b / aJ ^ i - bw a b i:=hs.1;have o:b / aJ ^ i+bw a b i<=a / aJ ^ i:=hs.2;unfold aW;rw[hq];generalize a / aJ ^ i=x at *;generalize b / aJ ^ i=y at *;generalize bw a b i=z at *;rw[nN];omega
end Go.Ev
namespace Go.Proofs.YtdlhemnconimnaaGreat
open Go.Gv
open Go.Ev (aJ jf nN aW tZ vl aA cy bw)
def uw(x:Nat):AV:=.x (.int .u64 (x:Int))
def sW(n:Nat)(f:Nat->Nat):AV:=.sl 1 n λ i=>[uw (f i)]
def A8(a:Nat):AV:=sW (aA a) (aW a)
def sub64Entry:Array Value->Sem Value:=λ d=>do
 let (x, y, b) <- aMt "Sub64" d
 pure (aMu ((x+aJI - y - b) % aJI) (if x<y+b then 1 else 0))
theorem run_sub64{P:Program}(x y:Nat)(k:Nat)(d:k<=1)(w:World):(sub64Entry #[.int .u64 (x:Int),.int .u64 (y:Int),.int .u64 (k:Int)]).run P w=.ok (.tuple #[.int .u64 (((x+aJ - y - k) % aJ:Nat):Int),.int .u64 ((if x<y+k then 1 else 0:Nat):Int)]) w:=by
 have:k=0\/k=1:=by omega
 rcases this with rfl |rfl<;>rfl
theorem adM{P:Program}(x y:Nat)(k:Nat)(d:k<=1)(w:World):(add64Entry #[.int .u64 (x:Int),.int .u64 (y:Int),.int .u64 (k:Int)]).run P w=.ok (.tuple #[.int .u64 (((x+y+k) % aJ:Nat):Int),.int .u64 (((x+y+k) / aJ:Nat):Int)]) w:=by
 have:k=0\/k=1:=by omega
 rcases this with rfl |rfl<;>rfl
theorem Te{E:Env}{x y k:Nat}{l:List Value}(h:dW E [uw x,uw y,uw k] l):l=[.int .u64 (x:Int),.int .u64 (y:Int),.int .u64 (k:Int)]:=by obtain⟨v0,H,e0,r0,h⟩:=aD.1 h;obtain⟨v1,z,e1,o,h⟩:=aD.1 h;obtain⟨v2,t,e2,d,h⟩:=aD.1 h;have e3:=bR.1 h;rw[e0,e1,e2,e3,cB.1 r0,cB.1 o,cB.1 d]
theorem asJ{x y k:Nat}(d:k<=1):Cg bO 331 [uw x,uw y,uw k] (.bK [uw ((x+y+k) % aJ),uw ((x+y+k) / aJ)]):=λ E o hv=>by
 obtain⟨l⟩:=o;have e:=Te hv;simp only at e;subst e;refine⟨_,E.w,?_,?_,rE.2 ⟨_,rfl,aD.2 ⟨_,_,rfl,cB.2 rfl,aD.2 ⟨_,_,rfl,cB.2 rfl,bR.2 rfl⟩⟩⟩⟩
 .rw[run_callFunc_extern (e:=add64Entry) Tryz.func331 (by kernel_rfl) (by kernel_rfl) (by kernel_rfl) (by kernel_rfl),adM x y k d];rfl
 .exact wV rfl
theorem asK{x y k:Nat}(d:k<=1):Cg bO 332 [uw x,uw y,uw k] (.bK [uw ((x+aJ - y - k) % aJ),uw (if x<y+k then 1 else 0)]):=λ E o hv=>by
 obtain⟨l⟩:=o;have e:=Te hv;simp only at e;subst e;refine⟨_,E.w,?_,?_,rE.2 ⟨_,rfl,aD.2 ⟨_,_,rfl,cB.2 rfl,aD.2 ⟨_,_,rfl,cB.2 rfl,bR.2 rfl⟩⟩⟩⟩
 .rw[run_callFunc_extern (e:=sub64Entry) Tryz.func332 (by kernel_rfl) (by kernel_rfl) (by kernel_rfl) (by kernel_rfl),run_sub64 x y k d];rfl
 .exact wV rfl
def vA(z:Int):AV:=.x (.int .u64 z)
def Md(f:Nat)(c:List AV->Bool)(g:List AV->AV):bf:=⟨f,λ d k=>cond (c d) (k (g d)) none⟩
theorem afG{P:Program}{f:Nat}{c:List AV->Bool}{g:List AV->AV}(h:∀args,c args=true->Cg P f args (g args)):sZ P (Md f c g):=by
 constructor
 .intro args k o d;simp only[Md]at d ⊢;cases hc:c args
  .rw[hc]at d;cases d
  .rw[hc]at d;exact⟨g args,d,λ t=>rfl⟩
 .intro args v hv;simp only[Md]at hv;cases hc:c args
  .rw[hc]at hv;have:=hv λ x=>some (Out.of x);cases this
  .rw[hc]at hv;have:=hv λ x=>some (Out.of x);simp only[aY,gU,Out.of,Out.mk.injEq,true_and]at this;subst this;exact Gc (h args hc)
def Dl:List AV->Bool
 | [.x (.int .u64 x),.x (.int .u64 y),.x (.int .u64 k)]=>decide (0<=x)&&(decide (0<=y)&&(decide (0<=k)&&decide (k<=1)))
 |_=>false
abbrev I3:Type:=Int->Int->Int->Int
def g3(af ag:I3):List AV->AV
 | [.x (.int .u64 x),.x (.int .u64 y),.x (.int .u64 k)]=>.bK [vA (af x y k),vA (ag x y k)]
 |_=>.any
def c3B(x y k:Int):Bool:=decide (0<=x)&&(decide (0<=y)&&(decide (0<=k)&&decide (k<=1)))
def adS:I3:=λ x y k=>(((x.toNat+y.toNat+k.toNat) % aJ:Nat):Int)
def adC:I3:=λ x y k=>(((x.toNat+y.toNat+k.toNat) / aJ:Nat):Int)
def sbS:I3:=λ x y k=>(((x.toNat+aJ - y.toNat - k.toNat) % aJ:Nat):Int)
def sbC:I3:=λ x y k=>((if x.toNat<y.toNat+k.toNat then 1 else 0:Nat):Int)
theorem Ji:sZ bO (Md 331 Dl (g3 adS adC)):=afG λ d h=>by
 unfold Dl at h;split at h
 .rename_i x y k;simp only[CX,UM]at h;obtain⟨z,t,o,E⟩:=h;have:=asJ (x:=x.toNat) (y:=y.toNat) (k:=k.toNat) (by omega);unfold uw at this;rw[aH2 z,aH2 t,aH2 o]at this;exact this
 .cases h
theorem aeV:sZ bO (Md 332 Dl (g3 sbS sbC)):=afG λ d h=>by
 unfold Dl at h;split at h
 .rename_i x y k;simp only[CX,UM]at h;obtain⟨z,t,o,E⟩:=h;have:=asK (x:=x.toNat) (y:=y.toNat) (k:=k.toNat) (by omega);unfold uw at this;rw[aH2 z,aH2 t,aH2 o]at this;exact this
 .cases h
def fI(n:Nat)(f:Nat->Int):AV:=.sl 1 n λ i=>[vA (f i)]
def trS(n:Nat)(f:Nat->Int):St:=mkS 21 [(0,fI n f)] []
section
variable(n:Nat)(f:Nat->Int)
def gTr(b:Bool)(i:Int)(n:Nat):Bool:=iP i n||!(decide (b=true)&&true)
def trB:Bool:=cond (decide ((n:Int)>0)) (f (aH ((n:Int) - 1)).toNat==0) false
theorem asL:jR bO [] [] bC (av aKQ 0) (trS n f) (gu [0] []) =
  cond (gTr (decide ((n:Int)>0)) (aH ((n:Int) - 1)) n) (cond (trB n f) (cond (AY none (some (aH ((n:Int) - 1))) none n||false) (some ⟨.normal,mkS 21 [(0,.sl 1 (uV none (some (aH ((n:Int) - 1))) n) λ i=>[vA (f (CF none+i))])] [],.any⟩) none) none) none:=by kernel_rfl
theorem azn:jR bO [] [] bC (av aKQ 0) (trS n f) (iG [0] []) =
  cond (gTr (decide ((n:Int)>0)) (aH ((n:Int) - 1)) n) (cond (trB n f) (cond (AY none (some (aH ((n:Int) - 1))) none n||false) none none) (some ⟨.exit 0,trS n f,.any⟩)) none:=by kernel_rfl
theorem aDW(m:Nat):ev bO [] [] (eZ 1 (fF [0] [] (trS n f) (.exit 0) (trS m f))) aKQ [fI n f] ret=gate (Sub (trS n f) (trS n f)) (some (Out.of (fI m f))):=by kernel_rfl
end
def xK(n:Nat)(f:Nat->Int)(m:Nat)(g:Nat->Int)(N:Nat)(c i:Int)(Y:Nat->Int):St:=mkS 54 [(0,fI n f),(1,fI m g),(5,.bQ 0 1 0 N),(6,vA c),(21,fI n f),(22,iA (n:Nat)),(23,iA i)] [.a 234 1 N λ q=>[vA (Y q)]]
def GX:List Nat:=[0,1,5,6,21,22,23]
def mkU(n:Int):Bool:=decide (0<=n)&&(decide (n<=n)&&decide (((8:Nat):Int)*n<=281474976710656))
def stU(i n:Nat):Bool:=Tv (0+i) n||false
section
variable(af ag:I3)(n:Nat)(f:Nat->Int)(m:Nat)(g:Nat->Int)(N:Nat)(c i:Int)(Y:Nat->Int)
def smR(o:Int)(d:Int->Option Out):Option Out:=cond (c3B (f i.toNat) o c) (cond (iP i N||false) (cond (stU i.toNat N) (d o) none) none) none
def smT(d:Int->Option Out):Option Out:=cond (iP i n||false) (cond (decide (i<(m:Int))) (cond (iP i m||false) (smR f N c i (g i.toNat) d) none) (smR f N c i 0 d)) none
def smN(o:Int):St:=mkS 54 [(0,fI n f),(1,fI m g),(5,.bQ 0 1 0 N),(6,vA (ag (f i.toNat) o c)),(21,fI n f),(22,iA (n:Nat)),(23,iA (aH (i+1)))] [.a 234 1 N λ q=>bM (q==0+i.toNat) [vA (af (f i.toNat) o c)] [vA (Y q)]]
theorem ac5:jR bO [] [Md 331 Dl (g3 af ag)] bC (av aKn 0) (xK n f m g N c i Y) (gu GX [some 0])=cond (decide (i<(n:Int))) (smT n f m g N c i λ o=>some ⟨.normal,smN af ag n f m g N c i Y o,.any⟩) none:=by kernel_rfl
theorem ahX:jR bO [] [Md 331 Dl (g3 af ag)] bC (av aKn 0) (xK n f m g N c i Y) (iG GX [some 0])=cond (decide (i<(n:Int))) (smT n f m g N c i λ _=>none) (some ⟨.exit 0,xK n f m g N c i Y,.any⟩):=by kernel_rfl
end
def fz2(N:Nat):Bool:=(amH N N&&(amH N N&&true))&&true
section
variable(n:Nat)(f:Nat->Int)(m:Nat)(g:Nat->Int)(n0:Nat)(f0:Nat->Int)(m0:Nat)(g0:Nat->Int)(N0:Nat)(c1:Int)(Y:Nat->Int)(k:Nat)(F:Nat->Int)
def smE:Nat->List AV:=λ q=>bM (q==0+n0) [vA c1] [vA (Y q)]
noncomputable def VA:Option Out:=cond (iP (n0:Nat) N0||false) (cond (stU n0 N0) (cond (fz2 N0) (gate (aj bO 330 [.sl 1 N0 (smE n0 c1 Y)] (fI k F)) (some (Out.of (fI k F)))) none) none) none
def s0T:St:=xK n0 f0 m0 g0 N0 0 0 λ _=>0
theorem auX:Q6 bO [] [kS bO 330 (λ _=>fI k F)] [] (eZ 6 (fF GX [some 0] (s0T n0 f0 m0 g0 N0) (.exit 0) (xK n0 f0 m0 g0 N0 c1 (n0:Nat) Y))) (Ay 14 (yQ 0)) aKn [fI n f,fI m g] ret =
  cond (decide ((n:Int)<(m:Int))) (cond (mkU (aH ((m:Int)+1))||false) (gate (Sub (xK m g n f (aH ((m:Int)+1)).toNat 0 0 λ _=>0) (s0T n0 f0 m0 g0 N0)) (VA n0 N0 c1 Y k F)) none)
   (cond (mkU (aH ((n:Int)+1))||false) (gate (Sub (xK n f m g (aH ((n:Int)+1)).toNat 0 0 λ _=>0) (s0T n0 f0 m0 g0 N0)) (VA n0 N0 c1 Y k F)) none):=by kernel_rfl
end
open Go.Ev (kL I6 I7 I8 UD lJ Oh UE MG X4 MH MI X5 MJ iJ)
def dI(a:Nat)(i:Nat):Int:=((aW a i:Nat):Int)
theorem Vy(a:Nat):A8 a=fI (aA a) (dI a):=rfl
theorem aCr{f n:Nat}{el o:Nat->List AV}{r:AV}(h:aj bO f [.sl 1 n el] r)(he:∀i,i<n->el i=o i):aj bO f [.sl 1 n o] r:=aj.vD h λ E H d=>by obtain⟨t,z,e0,r0,d⟩:=aD.1 d;exact aD.2 ⟨t,z,e0,ql r0 he,d⟩
theorem aqv(b:Bool)(a c:Int):bM b [vA a] [vA c]=[vA (cond b a c)]:=by unfold vA;simp only[bM,kZ,decide_true,aY]
theorem Fx{i n:Nat}(h:i<n):stU i n=true:=by unfold stU;rw[ZO,iU h];rfl
theorem aeD{n:Nat}(h:n<=35184372088832):mkU (n:Nat)=true:=by unfold mkU;rw[gG (show(0:Int)<=(n:Int) by omega),gG (af2 _),gG (show((8:Nat):Int)*(n:Int)<=281474976710656 by omega)];rfl
theorem adW(a:Nat){n:Nat}(J:n<=35184372088832)(ha:a<aJ ^ n):bH bO (.loop (av aKQ 0)) (trS n (dI a)) (.exit 0) (trS (aA a) (dI a)):=by
 have d:=I7 ha
 have t:∀m,m<=n->gTr (decide ((m:Int)>0)) (aH ((m:Int) - 1)) m=true:=λ m hm=>by
  unfold gTr;by_cases h:m=0
  .subst h;rfl
  .obtain⟨j,rfl⟩:∃j,m=j+1:=⟨m - 1,by omega⟩;rw[show aH (((j+1:Nat):Int) - 1)=((j:Nat):Int) by rw[aO];omega,bZ (by omega)];rfl
 have key:bH bO (.loop (av aKQ 0)) (trS (n - 0) (dI a)) (.exit 0) (trS (aA a) (dI a)):=by
  refine aP (λ j=>trS (n - j) (dI a)) (n - aA a) (.exit 0) _ (by simp) (λ j K=>?_) ?_
  .obtain⟨m,hm⟩:∃m,n - j=m+1:=⟨n - j - 1,by omega⟩;have e1:n - (j+1)=m:=by omega
   rw[hm,e1];have z:aH (((m+1:Nat):Int) - 1)=((m:Nat):Int):=by rw[aO];omega
   have I:aW a m=0:=lJ (anS (kL a) (agX jf (by omega)));have st:=asL (m+1) (dI a)
   have o:trB (m+1) (dI a)=true:=by unfold trB;rw[gG (show((m+1:Nat):Int)>0 by omega),z,pF];unfold dI;rw[I];rfl
   have H:AY none (some ((m:Nat):Int)) none (m+1)=true:=by unfold AY;simp only[apP,aFz];rw[gG (af2 _),gG (show(0:Int)<=((m:Nat):Int) by omega),gG (show((m:Nat):Int)<=((m+1:Nat):Int) by omega),gG (af2 _)];rfl
   have s2:uV none (some ((m:Nat):Int)) (m+1)=m:=by unfold uV;simp only[apP,aFz];omega
   have E:(λ i=>[vA (dI a (CF none+i))])=λ i=>[vA (dI a i)]:=funext λ i=>by show [vA (dI a (0+i))]=_;rw[ZO]
   rw[t (m+1) (by omega),o,z,H,s2,E]at st;exact aK (bB [0] []) aB ay aC st
  .rw[show n - (n - aA a)=aA a by omega];refine aK (dB [0] []) aB ay aC ((azn (aA a) (dI a)).trans ?_)
   have o:trB (aA a) (dI a)=false:=by
    unfold trB;by_cases h:a=0
    .subst h;rfl
    .obtain⟨M,_⟩:=I6 h;rw[gG (show((aA a:Nat):Int)>0 by omega),show aH ((aA a:Int) - 1)=((aA a - 1:Nat):Int) by rw[aO];omega,pF,aY];have:=UD h;refine mI ?_;unfold dI;omega
   rw[t (aA a) d,o];rfl
 exact key
theorem Ku(a:Nat){n:Nat}(d:n<=35184372088832)(ha:a<aJ ^ n):aj bO 330 [fI n (dI a)] (A8 a):=by refine aR aB ay Tryz.func330 (gq 0 1 (aS (adW a d ha))) ((aDW n (dI a) (aA a)).trans ?_);rw[ak (Sub.refl _)];rfl
def smY(a b i q:Nat):Int:=cond (Tv q i) (dI (a+b) q) 0
theorem aqw{a b:Nat}(h:¬a<b):Tv a b=false:=by
 cases e:Tv a b with
 |false=>rfl
 |true=>exact absurd (Ou e) h
theorem RD{x y k:Nat}(d:k<=1):c3B (x:Nat) (y:Nat) (k:Nat)=true:=by unfold c3B;rw[gG (show(0:Int)<=(x:Int) by omega),gG (show(0:Int)<=(y:Int) by omega),gG (show(0:Int)<=(k:Int) by omega),gG (show(k:Int)<=1 by omega)];rfl
theorem Oi{Y:Nat->Int}{i q:Nat}{x:Int}{Z:Nat->Int}(t:∀q,q<i->Y q=Z q)(o:x=Z i)(d:∀q,i<q->Y q=0):cond (q==0+i) x (Y q)=cond (Tv q (i+1)) (Z q) 0:=by
 rw[ZO];by_cases e:q=i
 .subst e;rw[aHX,iU (show q<q+1 by omega)];exact o
 .rw[mI e,eU];by_cases hl:q<i
  .rw[iU (show q<i+1 by omega)];exact t q hl
  .rw[aqw (show ¬q<i+1 by omega)];exact d q (by omega)
theorem Ti{a b:Nat}(E:aA a<35184372088832):bH bO (.loop (av aKn 0)) (s0T (aA a) (dI a) (aA b) (dI b) (aA a+1)) (.exit 0) (xK (aA a) (dI a) (aA b) (dI b) (aA a+1) ((cy a b (aA a):Nat):Int) (aA a:Nat) (smY a b (aA a))):=by
 have h0:s0T (aA a) (dI a) (aA b) (dI b) (aA a+1)=xK (aA a) (dI a) (aA b) (dI b) (aA a+1) ((cy a b 0:Nat):Int) ((0:Nat):Int) (smY a b 0):=by unfold s0T;rw[MG];rfl
 rw[h0];refine aP (λ i=>xK (aA a) (dI a) (aA b) (dI b) (aA a+1) ((cy a b i:Nat):Int) (i:Nat) (smY a b i)) (aA a) (.exit 0) _ (by simp) (λ i d=>?_) ?_
 .have st:=ac5 adS adC (aA a) (dI a) (aA b) (dI b) (aA a+1) ((cy a b i:Nat):Int) (i:Nat) (smY a b i);have hc:=X4 a b i
  have z:smT (aA a) (dI a) (aA b) (dI b) (aA a+1) ((cy a b i:Nat):Int) (i:Nat) (λ o=>some ⟨.normal,smN adS adC (aA a) (dI a) (aA b) (dI b) (aA a+1) ((cy a b i:Nat):Int) (i:Nat) (smY a b i) o,.any⟩)=some ⟨.normal,smN adS adC (aA a) (dI a) (aA b) (dI b) (aA a+1) ((cy a b i:Nat):Int) (i:Nat) (smY a b i) (dI b i),.any⟩:=by
   unfold smT smR;rw[bZ d,bZ (show i<aA a+1 by omega),pF,Fx (show i<aA a+1 by omega)];by_cases hm:i<aA b
   .rw[bI hm,bZ hm,show c3B (dI a i) (dI b i) ((cy a b i:Nat):Int)=true from RD hc];rfl
   .have t:dI b i=0:=by unfold dI;rw[lJ (anS (kL b) (agX jf (by omega)))];rfl
    rw[iH (show ¬((i:Nat):Int)<((aA b:Nat):Int) by omega),t,show c3B (dI a i) 0 ((cy a b i:Nat):Int)=true from RD (y:=0) hc];rfl
  rw[bI d,z,aY]at st;unfold smN at st;have e1:adC (dI a ((i:Nat):Int).toNat) (dI b i) ((cy a b i:Nat):Int)=((cy a b (i+1):Nat):Int):=by rw[MH];rfl
  have e2:adS (dI a ((i:Nat):Int).toNat) (dI b i) ((cy a b i:Nat):Int)=dI (a+b) i:=by unfold dI;rw[Oh];rfl
  rw[e1,e2,aQ (by omega)]at st;refine(aK (bB GX [some 0]) aB (au Ji ay) aC st).sub (Sub.refl _) ?_;refine ig ⟨Gc ⟨234,1,aA a+1,_,_,rfl,rfl,λ q hq=>?_⟩,trivial⟩;rw[aqv,pF];show [vA (cond (Tv q (i+1)) (dI (a+b) q) 0)]=_;rw[<-Oi (Y:=smY a b i) (i:=i) (q:=q) (x:=dI (a+b) i) (λ q hq=>by unfold smY;rw[iU hq];rfl) rfl λ q hq=>by unfold smY;rw[aqw (by omega)];rfl]
 .refine aK (dB GX [some 0]) aB (au Ji ay) aC ((ahX adS adC (aA a) (dI a) (aA b) (dI b) (aA a+1) ((cy a b (aA a):Nat):Int) (aA a:Nat) (smY a b (aA a))).trans ?_);rw[bJ,eU]
theorem sum_lt{a b:Nat}(d:aA b<=aA a):a+b<aJ ^ (aA a+1):=by have z:=kL a;have t:b<aJ ^ aA a:=anS (kL b) (agX jf d);have o:aJ ^ aA a*2<=aJ ^ aA a*aJ:=apL _ (by decide);rw[aBg];omega
theorem aFe(N:Nat):fz2 N=true:=by unfold fz2;rw[aIC];rfl
theorem aam{a b:Nat}(d:aA b<=aA a)(t:aA a<35184372088832):VA (aA a) (aA a+1) ((cy a b (aA a):Nat):Int) (smY a b (aA a)) (aA (a+b)) (dI (a+b))=some (Out.of (A8 (a+b))):=by
 have o:aj bO 330 [.sl 1 (aA a+1) (smE (aA a) ((cy a b (aA a):Nat):Int) (smY a b (aA a)))] (fI (aA (a+b)) (dI (a+b))):=by
  refine aCr (Ku (a+b) (n:=aA a+1) (by omega) (sum_lt d)) λ q hq=>?_;unfold smE;rw[aqv,Oi (Y:=smY a b (aA a)) (i:=aA a) (Z:=dI (a+b)) (λ q hq=>by unfold smY;rw[iU hq];rfl) ?_ λ q hq=>by unfold smY;rw[aqw (by omega)];rfl]
  .rw[iU hq];rfl
  .unfold dI;rw[Oh,lJ (kL a),lJ (anS (kL b) (agX jf d)),ZO,aG8];have:=X4 a b (aA a);rw[nN];omega
 unfold VA;rw[bZ (show aA a<aA a+1 by omega),Fx (show aA a<aA a+1 by omega),aFe,ak o];rfl
theorem agb(n:Nat)(u:Nat->Int)(m:Nat)(v:Nat->Int)(N:Nat):Sub (xK n u m v N 0 0 λ _=>0) (s0T n u m v N):=by unfold s0T;exact Sub.refl _
theorem lY{l:List Entry}{ks:List bf}{ms:List dZ}{L:Nat->Option dY}{Z:Nat->Option kH}(z:∀i h,Z i=some h->gD 0 h)(hl:∀e,e∈l->jr bO e)(hks:∀e,e∈ks->sZ bO e)(hms:∀e,e∈ms->oN bO e){f:Nat}{fn:Func}(hf:bO.funcs[f]?=some fn)(E:yx bO L (dH fn))
  {args : List AV} {r : AV} (h : Q6 bO l ks ms L Z fn args ret = some (Out.of r)) (o : (fn.name == "runtime.NumGoroutine") = false := by kernel_rfl) (t : fn.body = some (dH fn) := by kernel_rfl) (d : apB args.length fn.ntmps = true := by rfl) : aj bO f args r := yT z (kV hl hks hms) (gJ (kV hl hks hms) (by kernel_rfl)) 40 hf o t E d h
theorem aj8{a b:Nat}(ha:aA a<35184372088832)(z:aA b<35184372088832):aj bO 325 [A8 a,A8 b] (A8 (a+b)):=by
 by_cases d:aA a<aA b
 .have o:=gq (c:=dH aKn) (i:=6) 0 1 (aS (keep:=GX) (τ:=[some 0]) (Ti (a:=b) (b:=a) z));refine lY (jJ (jm 0)) aB (au aG ay) aV aN3 o ((auX (aA a) (dI a) (aA b) (dI b) (aA b) (dI b) (aA a) (dI a) (aA b+1) ((cy b a (aA b):Nat):Int) (smY b a (aA b)) (aA (b+a)) (dI (b+a))).trans ?_);have t:aH (((aA b:Nat):Int)+1)=((aA b+1:Nat):Int):=aQ (by omega);rw[bI d,t,aeD (by omega),pF,ak (agb (aA b) (dI b) (aA a) (dI a) (aA b+1)),aam (a:=b) (b:=a) (by omega) z,aI1 a b];rfl
 .have o:=gq (c:=dH aKn) (i:=6) 0 1 (aS (keep:=GX) (τ:=[some 0]) (Ti (a:=a) (b:=b) ha));refine lY (jJ (jm 0)) aB (au aG ay) aV aN3 o ((auX (aA a) (dI a) (aA b) (dI b) (aA a) (dI a) (aA b) (dI b) (aA a+1) ((cy a b (aA a):Nat):Int) (smY a b (aA a)) (aA (a+b)) (dI (a+b))).trans ?_);have t:aH (((aA a:Nat):Int)+1)=((aA a+1:Nat):Int):=aQ (by omega);rw[iH (show ¬((aA a:Nat):Int)<((aA b:Nat):Int) by omega),t,aeD (by omega),pF,ak (agb (aA a) (dI a) (aA b) (dI b) (aA a+1)),aam (a:=a) (b:=b) (by omega) ha];rfl
open Go.Ev (XL lW)
def fz1(N:Nat):Bool:=(amH N N&&true)&&true
theorem XK(N:Nat):fz1 N=true:=by unfold fz1;rw[aIC];rfl
def dfS(n:Nat)(f:Nat->Int)(m:Nat)(g:Nat->Int)(N:Nat)(c i:Int)(Y:Nat->Int):St:=mkS 41 [(0,fI n f),(1,fI m g),(5,.bQ 0 1 0 N),(6,vA c),(13,fI n f),(14,iA (n:Nat)),(15,iA i)] [.a 234 1 N λ q=>[vA (Y q)]]
def Kz:List Nat:=[0,1,5,6,13,14,15]
section
variable(af ag:I3)(n:Nat)(f:Nat->Int)(m:Nat)(g:Nat->Int)(N:Nat)(c i:Int)(Y:Nat->Int)
def dfN(o:Int):St:=mkS 41 [(0,fI n f),(1,fI m g),(5,.bQ 0 1 0 N),(6,vA (ag (f i.toNat) o c)),(13,fI n f),(14,iA (n:Nat)),(15,iA (aH (i+1)))] [.a 234 1 N λ q=>bM (q==0+i.toNat) [vA (af (f i.toNat) o c)] [vA (Y q)]]
theorem aqu:jR bO [] [Md 332 Dl (g3 af ag)] bC (av aKR 0) (dfS n f m g N c i Y) (gu Kz [some 0])=cond (decide (i<(n:Int))) (smT n f m g N c i λ o=>some ⟨.normal,dfN af ag n f m g N c i Y o,.any⟩) none:=by kernel_rfl
theorem aw5:jR bO [] [Md 332 Dl (g3 af ag)] bC (av aKR 0) (dfS n f m g N c i Y) (iG Kz [some 0])=cond (decide (i<(n:Int))) (smT n f m g N c i λ _=>none) (some ⟨.exit 0,dfS n f m g N c i Y,.any⟩):=by kernel_rfl
end
section
variable(n:Nat)(f:Nat->Int)(m:Nat)(g:Nat->Int)(c1:Int)(Y:Nat->Int)(k:Nat)(F:Nat->Int)
noncomputable def akG:Option Out:=cond (fz1 n) (gate (aj bO 330 [.sl 1 n λ q=>[vA (Y q)]] (fI k F)) (some (Out.of (fI k F)))) none
def d0T:St:=dfS n f m g n 0 0 λ _=>0
theorem aCq:Q6 bO [] [kS bO 330 (λ _=>fI k F)] [] (eZ 4 (fF Kz [some 0] (d0T n f m g) (.exit 0) (dfS n f m g n c1 (n:Nat) Y))) (Ay 11 (yQ 0)) aKR [fI n f,fI m g] ret =
  cond (mkU (n:Nat)||false) (gate (Sub (dfS n f m g n 0 0 λ _=>0) (d0T n f m g)) (akG n Y k F)) none:=by kernel_rfl
end
def dfY(a b i q:Nat):Int:=cond (Tv q i) (dI (a - b) q) 0
theorem akH{a b:Nat}(t:b<=a)(H:aA a<35184372088832):bH bO (.loop (av aKR 0)) (d0T (aA a) (dI a) (aA b) (dI b)) (.exit 0) (dfS (aA a) (dI a) (aA b) (dI b) (aA a) ((bw a b (aA a):Nat):Int) (aA a:Nat) (dfY a b (aA a))):=by
 have h0:d0T (aA a) (dI a) (aA b) (dI b)=dfS (aA a) (dI a) (aA b) (dI b) (aA a) ((bw a b 0:Nat):Int) ((0:Nat):Int) (dfY a b 0):=by unfold d0T;rw[MI];rfl
 rw[h0];refine aP (λ i=>dfS (aA a) (dI a) (aA b) (dI b) (aA a) ((bw a b i:Nat):Int) (i:Nat) (dfY a b i)) (aA a) (.exit 0) _ (by simp) (λ i d=>?_) ?_
 .have st:=aqu sbS sbC (aA a) (dI a) (aA b) (dI b) (aA a) ((bw a b i:Nat):Int) (i:Nat) (dfY a b i);have hc:=X5 a b i
  have E:smT (aA a) (dI a) (aA b) (dI b) (aA a) ((bw a b i:Nat):Int) (i:Nat) (λ o=>some ⟨.normal,dfN sbS sbC (aA a) (dI a) (aA b) (dI b) (aA a) ((bw a b i:Nat):Int) (i:Nat) (dfY a b i) o,.any⟩)=some ⟨.normal,dfN sbS sbC (aA a) (dI a) (aA b) (dI b) (aA a) ((bw a b i:Nat):Int) (i:Nat) (dfY a b i) (dI b i),.any⟩:=by
   unfold smT smR;rw[bZ d,pF,Fx d];by_cases hm:i<aA b
   .rw[bI hm,bZ hm,show c3B (dI a i) (dI b i) ((bw a b i:Nat):Int)=true from RD hc];rfl
   .have z:dI b i=0:=by unfold dI;rw[lJ (anS (kL b) (agX jf (by omega)))];rfl
    rw[iH (show ¬((i:Nat):Int)<((aA b:Nat):Int) by omega),z,show c3B (dI a i) 0 ((bw a b i:Nat):Int)=true from RD (y:=0) hc];rfl
  rw[bI d,E,aY]at st;unfold dfN at st;have e1:sbC (dI a ((i:Nat):Int).toNat) (dI b i) ((bw a b i:Nat):Int)=((bw a b (i+1):Nat):Int):=by rw[MJ];rfl
  have e2:sbS (dI a ((i:Nat):Int).toNat) (dI b i) ((bw a b i:Nat):Int)=dI (a - b) i:=by unfold dI;rw[UE t];rfl
  rw[e1,e2,aQ (by omega)]at st;refine(aK (bB Kz [some 0]) aB (au aeV ay) aC st).sub (Sub.refl _) ?_;refine ig ⟨Gc ⟨234,1,aA a,_,_,rfl,rfl,λ q hq=>?_⟩,trivial⟩;rw[aqv,pF];show [vA (cond (Tv q (i+1)) (dI (a - b) q) 0)]=_;rw[<-Oi (Y:=dfY a b i) (i:=i) (q:=q) (x:=dI (a - b) i) (λ q hq=>by unfold dfY;rw[iU hq];rfl) rfl λ q hq=>by unfold dfY;rw[aqw (by omega)];rfl]
 .refine aK (dB Kz [some 0]) aB (au aeV ay) aC ((aw5 sbS sbC (aA a) (dI a) (aA b) (dI b) (aA a) ((bw a b (aA a):Nat):Int) (aA a:Nat) (dfY a b (aA a))).trans ?_);rw[bJ,eU]
theorem aqx(n:Nat)(u:Nat->Int)(m:Nat)(v:Nat->Int):Sub (dfS n u m v n 0 0 λ _=>0) (d0T n u m v):=by unfold d0T;exact Sub.refl _
theorem aeE{a b:Nat}(d:b<=a)(ha:aA a<35184372088832):aj bO 327 [A8 a,A8 b] (A8 (a - b)):=by
 have z:=gq (c:=dH aKR) (i:=4) 0 1 (aS (keep:=Kz) (τ:=[some 0]) (akH d ha));refine lY (jJ (jm 0)) aB (au aG ay) aV Tryz.func327 z ((aCq (aA a) (dI a) (aA b) (dI b) ((bw a b (aA a):Nat):Int) (dfY a b (aA a)) (aA (a - b)) (dI (a - b))).trans ?_)
 have o:aj bO 330 [.sl 1 (aA a) λ q=>[vA (dfY a b (aA a) q)]] (fI (aA (a - b)) (dI (a - b))):=by have t:=kL a;refine aCr (Ku (a - b) (n:=aA a) (by omega) (by omega)) λ q hq=>?_;unfold dfY;rw[iU hq];rfl
 unfold akG;rw[aeD (by omega),ak (aqx (aA a) (dI a) (aA b) (dI b)),XK,ak o];rfl
def UF(n:Nat)(f:Nat->Int)(m:Nat)(g:Nat->Int)(i:Int):St:=mkS 41 [(0,fI n f),(1,fI m g),(5,iA i)] []
def cpR(n:Nat)(f:Nat->Int)(m:Nat)(g:Nat->Int)(r i:Int):St:=mkS 41 [(0,fI n f),(1,fI m g),(4,iA r),(5,iA i)] []
section
variable(n:Nat)(f:Nat->Int)(m:Nat)(g:Nat->Int)(i:Int)
def ag4(x:Option Out):Option Out:=cond ((iP i n||false)&&((iP i m||false)&&true)) x none
theorem aqy:jR bO [] [] bC (av aIs 0) (UF n f m g i) (gu [0,1,5] []) =
  cond (decide (i≥0)) (ag4 n m i (cond (decide (f i.toNat>g i.toNat)) none (ag4 n m i (cond (decide (f i.toNat<g i.toNat)) none (some ⟨.normal,UF n f m g (aH (i - 1)),.any⟩))))) none:=by kernel_rfl
theorem akI:jR bO [] [] bC (av aIs 0) (UF n f m g i) (QK [0,1,4,5] []) =
  cond (decide (i≥0)) (ag4 n m i (cond (decide (f i.toNat>g i.toNat)) (some ⟨.ret,cpR n f m g 1 i,.any⟩) (ag4 n m i (cond (decide (f i.toNat<g i.toNat)) (some ⟨.ret,cpR n f m g (-1) i,.any⟩) none)))) (some ⟨.exit 0,UF n f m g i,.any⟩):=by kernel_rfl
end
theorem Ju(a k:Nat):a / aJ ^ k=aJ*(a / aJ ^ (k+1))+aW a k:=by unfold aW;rw[aBg,<-aBu,aEO]
theorem Vx{a b n:Nat}(ha:a<aJ ^ n)(o:b<aJ ^ n):∀d k,k+d=n->(∀j,k<=j->j<n->aW a j=aW b j)->a / aJ ^ k=b / aJ ^ k
 | 0,k,hk,_=>by
  have:k=n:=by omega
  subst this;rw[aHw ha,aHw o]
 |d+1,k,hk,h=>by rw[Ju a,Ju b,Vx ha o d (k+1) (by omega) λ j z t=>h j (by omega) t,h k (ND _) (by omega)]
theorem auV{a b k:Nat}(h:a / aJ ^ (k+1)=b / aJ ^ (k+1))(o:aW b k<aW a k):b<a:=by
 have d:=Ju a k;have t:=Ju b k;rw[h]at d;rcases aH9 b a with hl |hg
 .exact hl
 .have:=aJd (c:=aJ ^ k) hg;omega
def yt(a b:Nat):Int:=if b<a then 1 else if a<b then -1 else 0
theorem afx{a b:Nat}(h:aA a<aA b):a<b:=by
 have t:=kL a;have d:b≠0:=λ e=>by subst e;rw[I8]at h;omega
 obtain⟨_,o⟩:=I6 d;have:aJ ^ aA a<=aJ ^ (aA b - 1):=agX jf (by omega);omega
theorem Zg{a b n t:Nat}(z:n<=35184372088832)(o:t<n)(h:aW a (n - 1 - t)=aW b (n - 1 - t)):bH bO (av aIs 0) (UF n (dI a) n (dI b) ((n:Int) - 1 - (t:Nat))) .normal (UF n (dI a) n (dI b) ((n:Int) - 1 - ((t+1:Nat):Int))):=by
 refine aK (bB [0,1,5] []) aB ay aC ((aqy n (dI a) n (dI b) _).trans ?_);have e:(n:Int) - 1 - (t:Nat)=((n - 1 - t:Nat):Int):=by omega
 rw[show aH ((n:Int) - 1 - (t:Nat) - 1)=(n:Int) - 1 - ((t+1:Nat):Int) by rw[aO];omega,e];unfold ag4;have d:n - 1 - t<n:=by omega
 rw[bZ d,pF,gG (show((n - 1 - t:Nat):Int)≥0 by omega)];unfold dI;rw[h,iH (Int.lt_irrefl _)];rfl
theorem asn{a b n:Nat}(o:n<=35184372088832)(h:∀t,t<n->aW a (n - 1 - t)=aW b (n - 1 - t)):bH bO (.loop (av aIs 0)) (UF n (dI a) n (dI b) ((n:Int) - 1)) (.exit 0) (UF n (dI a) n (dI b) (-1)):=by
 have key:bH bO (.loop (av aIs 0)) (UF n (dI a) n (dI b) ((n:Int) - 1 - ((0:Nat):Int))) (.exit 0) (UF n (dI a) n (dI b) (-1)):=by refine aP (λ t=>UF n (dI a) n (dI b) ((n:Int) - 1 - (t:Nat))) n (.exit 0) _ (by simp) (λ t d=>Zg o d (h t d)) ?_;refine aK (pV [0,1,4,5] []) aB ay aC ((akI n (dI a) n (dI b) _).trans ?_);rw[show(n:Int) - 1 - (n:Nat)=-1 by omega];rfl
 rw[show(n:Int) - 1 - ((0:Nat):Int)=(n:Int) - 1 by omega]at key;exact key
theorem amU{a b n K:Nat}(z:n<=35184372088832)(E:K<n)(hp:aW a (n - 1 - K)≠aW b (n - 1 - K))(h:∀t,t<K->aW a (n - 1 - t)=aW b (n - 1 - t)):bH bO (.loop (av aIs 0)) (UF n (dI a) n (dI b) ((n:Int) - 1)) .ret (cpR n (dI a) n (dI b) (if aW b (n - 1 - K)<aW a (n - 1 - K)then 1 else -1) ((n:Int) - 1 - (K:Nat))):=by
 have key:bH bO (.loop (av aIs 0)) (UF n (dI a) n (dI b) ((n:Int) - 1 - ((0:Nat):Int))) .ret (cpR n (dI a) n (dI b) (if aW b (n - 1 - K)<aW a (n - 1 - K)then 1 else -1) ((n:Int) - 1 - (K:Nat))):=by
  refine aP (λ t=>UF n (dI a) n (dI b) ((n:Int) - 1 - (t:Nat))) K .ret _ (by simp) (λ t o=>Zg z (by omega) (h t o)) ?_;refine aK (pV [0,1,4,5] []) aB ay aC ((akI n (dI a) n (dI b) _).trans ?_);have e:(n:Int) - 1 - (K:Nat)=((n - 1 - K:Nat):Int):=by omega
  rw[e];unfold ag4;have d:n - 1 - K<n:=by omega
  rw[bZ d,pF,gG (show((n - 1 - K:Nat):Int)≥0 by omega)];unfold dI;by_cases hc:aW b (n - 1 - K)<aW a (n - 1 - K)
  .rw[gG (show((aW a (n - 1 - K):Nat):Int)>((aW b (n - 1 - K):Nat):Int) by omega),gH hc];rfl
  .rw[iH (show ¬((aW a (n - 1 - K):Nat):Int)>((aW b (n - 1 - K):Nat):Int) by omega),gG (show((aW a (n - 1 - K):Nat):Int)<((aW b (n - 1 - K):Nat):Int) by omega),fP hc];rfl
 rw[show(n:Int) - 1 - ((0:Nat):Int)=(n:Int) - 1 by omega]at key;exact key
section
variable(n:Nat)(f:Nat->Int)(m:Nat)(g:Nat->Int)(i j r:Int)
noncomputable def aso(x:Option Out):Option Out:=cond (!((n:Int)==(m:Int))) (cond (decide ((n:Int)>(m:Int))) (some (Out.of (iA 1))) (some (Out.of (iA (-1))))) (gate (Sub (UF n f m g (aH ((n:Int) - 1))) (UF n f m g i)) x)
theorem azc:ev bO [] [] (eZ 6 λ _ _=>none) aIs [fI n f,fI m g] ret=cond (!((n:Int)==(m:Int))) (cond (decide ((n:Int)>(m:Int))) (some (Out.of (iA 1))) (some (Out.of (iA (-1))))) none:=by kernel_rfl
theorem azd:ev bO [] [] (eZ 6 (fF [0,1,5] [] (UF n f m g i) (.exit 0) (UF n f m g j))) aIs [fI n f,fI m g] ret=aso n f m g i (some (Out.of (iA 0))):=by kernel_rfl
theorem aze:ev bO [] [] (eZ 6 (fF [0,1,5] [] (UF n f m g i) .ret (cpR n f m g r j))) aIs [fI n f,fI m g] ret=aso n f m g i (some (Out.of (iA r))):=by kernel_rfl
end
theorem aj9{a b:Nat}(ha:aA a<35184372088832):aj bO 326 [A8 a,A8 b] (iA (yt a b)):=by
 by_cases I:aA a=aA b
 .have J:=kL b;rw[<-I]at J;have z:=kL a;have hw:aH ((aA a:Int) - 1)=(aA a:Int) - 1:=aO;rcases o9 (λ t=>aW a (aA a - 1 - t)==aW b (aA a - 1 - t)) (aA a)with hl | ⟨K,O,hp,hq⟩
  .have o:∀t,t<aA a->aW a (aA a - 1 - t)=aW b (aA a - 1 - t):=λ t E=>by simpa using hl t E
   have e:=Vx z J (aA a) 0 (by omega) λ j _ Q=>by have:=o (aA a - 1 - j) (by omega);rw[show aA a - 1 - (aA a - 1 - j)=j by omega]at this;exact this
   rw[axO,aJe,aJe]at e;have M:=gq (c:=dH aIs) (i:=6) 0 1 (aS (keep:=[0,1,5]) (τ:=[]) (asn (by omega) o))
   have:=aR aB ay aLM M (r:=iA 0) (args:=[fI (aA a) (dI a),fI (aA a) (dI b)]) ((azd (aA a) (dI a) (aA a) (dI b) ((aA a:Int) - 1) (-1)).trans (by unfold aso;rw[aHX,hw,ak (Sub.refl _)];rfl))
   rw[Vy,Vy,<-I];unfold yt;rw[fP (by omega),fP (by omega)];exact this
  .have H:aW a (aA a - 1 - K)≠aW b (aA a - 1 - K):=by simpa using hp
   have d:∀t,t<K->aW a (aA a - 1 - t)=aW b (aA a - 1 - t):=λ t E=>by simpa using hq t E
   have e:=Vx z J K (aA a - 1 - K+1) (by omega) λ j U Q=>by have:=d (aA a - 1 - j) (by omega);rw[show aA a - 1 - (aA a - 1 - j)=j by omega]at this;exact this
   have M:=gq (c:=dH aIs) (i:=6) 0 1 (aS (keep:=[0,1,5]) (τ:=[]) (amU (by omega) O H d))
   have:=aR aB ay aLM M (r:=iA (if aW b (aA a - 1 - K)<aW a (aA a - 1 - K)then 1 else -1)) (args:=[fI (aA a) (dI a),fI (aA a) (dI b)]) ((aze (aA a) (dI a) (aA a) (dI b) ((aA a:Int) - 1) _ _).trans (by unfold aso;rw[aHX,hw,ak (Sub.refl _)];rfl))
   rw[Vy,Vy,<-I]
   have S:yt a b=if aW b (aA a - 1 - K)<aW a (aA a - 1 - K)then 1 else -1:=by
    unfold yt;by_cases hc:aW b (aA a - 1 - K)<aW a (aA a - 1 - K)
    .rw[gH hc,gH (auV e hc)]
    .have:=auV e.symm (show aW a (aA a - 1 - K)<aW b (aA a - 1 - K) by omega);rw[fP hc,fP (by omega),gH this]
   rw[S];exact this
 .refine aR aB ay aLM (uj 6) ((azc (aA a) (dI a) (aA b) (dI b)).trans ?_);rw[mI (show((aA a:Nat):Int)≠((aA b:Nat):Int) by omega)];unfold yt;by_cases hc:aA b<aA a
  .have:=afx hc;rw[gG (show((aA a:Nat):Int)>((aA b:Nat):Int) by omega),gH this];rfl
  .have:=afx (show aA a<aA b by omega);rw[iH (show ¬((aA a:Nat):Int)>((aA b:Nat):Int) by omega),fP (by omega),gH this];rfl
def w32(x:Int):Int:=x.fdiv 4294967296
def m32(x:Int):Int:=aBh.wrap ((aIz 64 x &&& aIz 64 4294967295).toNat:Nat)
def muT(x y:Int):Int:=aBh.wrap (aBh.wrap (w32 x*m32 y)+w32 (aBh.wrap (m32 x*m32 y)))
def muH(x y:Int):Int:=aBh.wrap (aBh.wrap (aBh.wrap (w32 x*w32 y)+w32 (muT x y))+w32 (aBh.wrap (m32 (muT x y)+aBh.wrap (m32 x*w32 y))))
theorem avQ(x y:Int):ev bO [] [] bC Tryz.f333 [vA x,vA y] ret=some (Out.of (.bK [vA (muH x y),vA (aBh.wrap (x*y))])):=by kernel_rfl
theorem aaC(x:Nat):m32 (x:Nat)=((x % 4294967296:Nat):Int):=by
 unfold m32
 have e:(aIz 64 ((x:Nat):Int) &&& aIz 64 4294967295).toNat=x % 4294967296:=by
  rw[BitVec.toNat_and,aMc,aMc];have o:(((x:Nat):Int) % ((2 ^ 64:Nat):Int)).toNat=x % 2 ^ 64:=by omega
  have d:((4294967295:Int) % ((2 ^ 64:Nat):Int)).toNat=2 ^ 32 - 1:=by decide
  rw[o,d,Nat.and_two_pow_sub_one_eq_mod];omega
 rw[e];show(((x % 4294967296:Nat):Int)) % 18446744073709551616=_;omega
theorem Nj(x:Nat):w32 (x:Nat)=((x / 4294967296:Nat):Int):=by unfold w32;rw[Int.fdiv_eq_ediv_of_nonneg _ (by decide)];rfl
theorem aec(x:Nat):aBh.wrap (x:Nat)=((x % aJ:Nat):Int):=rfl
theorem apt(u v:Nat)(h:v<4294967296):(u*4294967296+v) / 4294967296=u/\(u*4294967296+v) % 4294967296=v:=by omega
theorem aed{X Y:Nat}(t:X<aJ)(hy:Y<aJ):muH (X:Nat) (Y:Nat)=((X*Y / aJ:Nat):Int)/\aBh.wrap ((X:Int)*(Y:Int))=((X*Y % aJ:Nat):Int):=by
 refine⟨?_,by rw[<-aI6,aec]⟩;unfold muH muT;obtain⟨a,b,O,H,rfl⟩:∃a b,a<4294967296/\b<4294967296/\X=a*4294967296+b:=⟨X / 4294967296,X % 4294967296,by rw[nN]at t;omega,by omega,by omega⟩;obtain⟨c,d,hc,E,rfl⟩:∃c d,c<4294967296/\d<4294967296/\Y=c*4294967296+d:=⟨Y / 4294967296,Y % 4294967296,by rw[nN]at hy;omega,by omega,by omega⟩;clear t hy;have K:=(apt a b H).1;have J:=(apt a b H).2;have ec:=(apt c d E).1;have I:=(apt c d E).2;rw[aaC,aaC,Nj,Nj,K,J,ec,I];clear K J ec I;have p1:a*c<=4294967295*4294967295:=aHI (by omega) (by omega);have p2:a*d<=4294967295*4294967295:=aHI (by omega) (by omega);have p3:b*c<=4294967295*4294967295:=aHI (by omega) (by omega);have p4:b*d<=4294967295*4294967295:=aHI (by omega) (by omega)
 have e:(a*4294967296+b)*(c*4294967296+d)=a*c*18446744073709551616+(a*d+b*c)*4294967296+b*d:=by
  grind
 rw[e];rw[<-aI6,<-aI6,<-aI6,<-aI6];generalize a*c=P at *;generalize a*d=Q at *;generalize b*c=R at *;generalize b*d=S at *;have o:∀z:Nat,z<18446744073709551616->aBh.wrap (z:Nat)=(z:Int):=λ z M=>by rw[aec,nN,aG8 M]
 rw[o P (by omega),o Q (by omega),o R (by omega),o S (by omega),Nj,<-aJX,o (Q+S / 4294967296) (by omega),Nj,aaC,<-aJX,<-aJX,o (P+_) (by omega),o (_+R) (by omega),Nj,<-aJX,o _ (by omega),nN];omega
theorem ai1{X Y:Nat}(d:X<aJ)(hy:Y<aJ):aj bO 333 [vA (X:Nat),vA (Y:Nat)] (.bK [vA ((X*Y / aJ:Nat):Int),vA ((X*Y % aJ:Nat):Int)]):=by have:=aR aB ay Tryz.func333 aC (avQ (X:Nat) (Y:Nat));rw[(aed d hy).1,(aed d hy).2]at this;exact this
theorem pU{np:Nat}{l:List Entry}{ks:List bf}{ms:List dZ}{L:Nat->Option dY}{c:Code}{s s':St}{e:Exit}{k:jL}(d:FB np k)(hl:∀e,e∈l->jr bO e)(hks:∀e,e∈ks->sZ bO e)(hms:∀e,e∈ms->oN bO e)(o:nT np bO L c)(h:qO bO l ks ms L c s k=some ⟨e,s',.any⟩):fM np bO c s e s' :=Az d (kV hl hks hms) (gJ (kV hl hks hms) (by kernel_rfl)) o h
abbrev I2:Type:=Int->Int->Int
def g2(mh ml:I2):List AV->AV
 | [.x (.int .u64 x),.x (.int .u64 y)]=>.bK [vA (mh x y),vA (ml x y)]
 |_=>.any
def atS(N m st:Nat)(g:Nat->Int)(w c i:Int)(Y:Nat->Int):St:=mkS 54 [(0,.view 0 1 st 0 m),(1,fI m g),(2,vA w),(7,vA c),(13,fI m g),(14,iA (m:Nat)),(15,iA i)] [.a 234 1 N λ q=>[vA (Y q)]]
def Vd:List Nat:=[0,1,2,7,13,14,15]
section
variable(af ag:I3)(mh ml:I2)(N m st:Nat)(g:Nat->Int)(w c i:Int)(Y:Nat->Int)
def uwr(x:Int):Int:=aBh.wrap x
def ard:Int:=ml (g i.toNat) w
def alC:Int:=af (ard ml g w i) (Y (st+i.toNat)) 0
def axZ:Int:=uwr (mh (g i.toNat) w+ag (ard ml g w i) (Y (st+i.toNat)) 0)
def axY:Int:=af (alC af ml st g w i Y) c 0
def ax0:Int:=uwr (axZ ag mh ml st g w i Y+ag (alC af ml st g w i Y) c 0)
def atB:Bool:=Tv (st+i.toNat) N||false
noncomputable def atT(x y:Option Out):Option Out:=cond (decide (i<(m:Int))) (cond (iP i m||false) (gate (aj bO 333 [vA (g i.toNat),vA w] (.bK [vA (mh (g i.toNat) w),vA (ml (g i.toNat) w)])) (cond (iP i m||false) (cond (atB N st i) (cond (c3B (ard ml g w i) (Y (st+i.toNat)) 0) (cond (c3B (alC af ml st g w i Y) c 0) (cond (iP i m||false) (cond (atB N st i) x none) none) none) none) none) none)) none) y
def atN:St:=mkS 54 [(0,.view 0 1 st 0 m),(1,fI m g),(2,vA w),(7,vA (ax0 af ag mh ml st g w c i Y)),(13,fI m g),(14,iA (m:Nat)),(15,iA (aH (i+1)))] [.a 234 1 N λ q=>bM (q==st+i.toNat) [vA (axY af ml st g w c i Y)] [vA (Y q)]]
theorem arb:qO bO [] [kS bO 333 (g2 mh ml),Md 331 Dl (g3 af ag)] [] bC (av aKS 0) (atS N m st g w c i Y) (gu Vd [some 0])=atT af mh ml N m st g w c i Y (some ⟨.normal,atN af ag mh ml N m st g w c i Y,.any⟩) none:=by kernel_rfl
theorem at_end:qO bO [] [kS bO 333 (g2 mh ml),Md 331 Dl (g3 af ag)] [] bC (av aKS 0) (atS N m st g w c i Y) (iG Vd [some 0])=atT af mh ml N m st g w c i Y none (some ⟨.exit 0,atS N m st g w c i Y,.any⟩):=by kernel_rfl
theorem aCJ(c1:Int)(Y1:Nat->Int):Gj bO [] [kS bO 333 (g2 mh ml),Md 331 Dl (g3 af ag)] [] [] [] (eZ 3 (jS 1 Vd [some 0] (atS N m st g w 0 0 Y) (.exit 0) (atS N m st g w c1 (m:Nat) Y1))) aKS [.view 0 1 st 0 m,fI m g,vA w] [.a 234 1 N λ q=>[vA (Y q)]] [some 0] =
  gate (fQ 1 (atS N m st g w 0 0 Y) (atS N m st g w 0 0 Y)) (nU (vA c1) [.a 234 1 N λ q=>[vA (Y1 q)]]):=by kernel_rfl
end
theorem ae7{a b:Nat}(ha:a<aJ)(d:b<aJ):a*b<=340282366920938463426481119284349108225:=by rw[nN]at ha d;exact aa2 (aHI (show a<=18446744073709551615 by omega) (show b<=18446744073709551615 by omega)) (by decide)
theorem alA{p y c:Nat}(hp:p<=340282366920938463426481119284349108225)(hy:y<aJ)(hc:c<aJ):((p % aJ+y) % aJ+c) % aJ=(p+y+c) % aJ/\((p / aJ+(p % aJ+y) / aJ) % aJ+((p % aJ+y) % aJ+c) / aJ) % aJ=(p+y+c) / aJ/\(p+y+c) / aJ<aJ:=by rw[nN]at *;omega
def pJ(y g:Nat->Nat)(w st i:Nat):Nat:=vl (λ j=>y (st+j)) i+w*vl g i
theorem Ru(y g:Nat->Nat)(w st i:Nat):pJ y g w st (i+1)=pJ y g w st i+aJ ^ i*(g i*w+y (st+i)):=by
 show vl (λ j=>y (st+j)) i+aJ ^ i*y (st+i)+w*(vl g i+aJ ^ i*g i)=vl (λ j=>y (st+j)) i+w*vl g i+aJ ^ i*(g i*w+y (st+i));generalize aJ ^ i=Q
 grind
theorem YA(y g:Nat->Nat)(w st i:Nat):pJ y g w st (i+1) / aJ ^ i=g i*w+y (st+i)+pJ y g w st i / aJ ^ i:=by rw[Ru,aHG _ _ (iJ i)];omega
theorem ahp(y g:Nat->Nat)(w st i:Nat):pJ y g w st (i+1) / aJ ^ (i+1)=(g i*w+y (st+i)+pJ y g w st i / aJ ^ i) / aJ:=by rw[aBg,<-aBu,YA]
section
variable{y g:Nat->Nat}{w st:Nat}(hy:∀q,y q<aJ)(hg:∀q,g q<aJ)(hw:w<aJ)
include hy hg hw
theorem ae8:∀i,pJ y g w st i / aJ ^ i<aJ
 | 0=>by
  have:pJ y g w st 0=0:=by unfold pJ vl;omega
  rw[this,aK9];exact jf
 |i+1=>by rw[ahp];exact(alA (ae7 (hg i) hw) (hy _) (ae8 i)).2.2
end
def uM(y g:Nat->Nat)(w st i q:Nat):Nat:=if st<=q/\q<st+i then aW (pJ y g w st (q - st+1)) (q - st)else y q
theorem ahq(y g:Nat->Nat)(w st i q:Nat):(if q=st+i then aW (pJ y g w st (i+1)) i else uM y g w st i q)=uM y g w st (i+1) q:=by
 unfold uM;by_cases h:q=st+i
 .subst h;rw[gH rfl,gH (by omega),show st+i - st=i by omega]
 .rw[fP h];by_cases d:st<=q/\q<st+i
  .rw[gH d,gH (by omega)]
  .rw[fP d,fP (by omega)]
def nI(f:Nat->Nat)(q:Nat):Int:=((f q:Nat):Int)
def ahr:I2:=λ x y=>((x.toNat*y.toNat / aJ:Nat):Int)
def Vb:I2:=λ x y=>((x.toNat*y.toNat % aJ:Nat):Int)
theorem aut(q a:Nat)(x z:Nat):bM (q==a) [vA (x:Nat)] [vA (z:Nat)]=[vA ((if q=a then x else z:Nat):Int)]:=by
 rw[aqv];by_cases h:q=a
 .subst h;rw[aHX,gH rfl];rfl
 .rw[mI h,fP h];rfl
section
variable{N m:Nat}{y g:Nat->Nat}{w st:Nat}(hm:m<4611686018427387904)(hst:st+m<=N)(hy:∀q,y q<aJ)(hg:∀q,g q<aJ)(hw:w<aJ)
include hm hst hy hg hw
theorem alB:fM 1 bO (.loop (av aKS 0)) (atS N m st (nI g) (w:Nat) 0 0 (nI y)) (.exit 0) (atS N m st (nI g) (w:Nat) ((pJ y g w st m / aJ ^ m:Nat):Int) (m:Nat) (nI (uM y g w st m))):=by
 have h0:atS N m st (nI g) (w:Nat) 0 0 (nI y)=atS N m st (nI g) (w:Nat) ((pJ y g w st 0 / aJ ^ 0:Nat):Int) ((0:Nat):Int) (nI (uM y g w st 0)):=by
  have e1:pJ y g w st 0=0:=by unfold pJ vl;omega
  have e2:uM y g w st 0=y:=funext λ q=>by unfold uM;rw[fP (by omega)]
  rw[e1,e2,aK9];rfl
 rw[h0];refine aP (λ i=>atS N m st (nI g) (w:Nat) ((pJ y g w st i / aJ ^ i:Nat):Int) (i:Nat) (nI (uM y g w st i))) m (.exit 0) _ (by simp) (λ i H=>?_) ?_
 .have d:=arb adS adC ahr Vb N m st (nI g) (w:Nat) ((pJ y g w st i / aJ ^ i:Nat):Int) (i:Nat) (nI (uM y g w st i));have I:uM y g w st i (st+i)=y (st+i):=by unfold uM;rw[fP (by omega)]
  have hc:=ae8 (st:=st) hy hg hw i;obtain⟨E,z,_⟩:=alA (ae7 (hg i) hw) (hy (st+i)) hc;rw[<-YA]at E z;have e0:ard Vb (nI g) (w:Nat) (i:Nat)=((g i*w % aJ:Nat):Int):=rfl;have t:nI (uM y g w st i) (st+((i:Nat):Int).toNat)=((y (st+i):Nat):Int):=by unfold nI;rw[pF,I]
  have e1:alC adS Vb st (nI g) (w:Nat) (i:Nat) (nI (uM y g w st i))=(((g i*w % aJ+y (st+i)) % aJ:Nat):Int):=by unfold alC;rw[e0,t];rfl
  have e2:axY adS Vb st (nI g) (w:Nat) ((pJ y g w st i / aJ ^ i:Nat):Int) (i:Nat) (nI (uM y g w st i))=((aW (pJ y g w st (i+1)) i:Nat):Int):=by unfold axY aW;rw[e1,<-E];rfl
  have e3:axZ adC ahr Vb st (nI g) (w:Nat) (i:Nat) (nI (uM y g w st i))=(((g i*w / aJ+(g i*w % aJ+y (st+i)) / aJ) % aJ:Nat):Int):=by unfold axZ;rw[e0,t];rfl
  have e4:ax0 adS adC ahr Vb st (nI g) (w:Nat) ((pJ y g w st i / aJ ^ i:Nat):Int) (i:Nat) (nI (uM y g w st i))=((pJ y g w st (i+1) / aJ ^ (i+1):Nat):Int):=by unfold ax0;rw[e1,e3,aBg,<-aBu,<-z];rfl
  have o:aj bO 333 [vA (nI g ((i:Nat):Int).toNat),vA (w:Nat)] (.bK [vA (ahr (nI g ((i:Nat):Int).toNat) (w:Nat)),vA (Vb (nI g ((i:Nat):Int).toNat) (w:Nat))]):=ai1 (hg i) hw;have J:atB N st (i:Nat)=true:=by unfold atB;rw[pF,iU (by omega)];rfl
  unfold atT at d;rw[bI H,bZ H,ak o,J,e0,t,e1,show c3B ((g i*w % aJ:Nat):Int) ((y (st+i):Nat):Int) 0=true from RD (k:=0) (by omega),show c3B (((g i*w % aJ+y (st+i)) % aJ:Nat):Int) ((pJ y g w st i / aJ ^ i:Nat):Int) 0=true from RD (k:=0) (by omega)]at d;unfold atN at d;rw[e2,e4,aQ (by omega)]at d;refine(pU (fA _ (by rfl)) aB (au aG (au Ji ay)) aV bN d).sub (fQ.refl _) ?_;refine ig ⟨Gc ⟨234,1,N,_,_,rfl,rfl,λ q hq=>?_⟩,trivial⟩;refine Eq.symm ?_;show bM (q==st+i) [vA ((aW (pJ y g w st (i+1)) i:Nat):Int)] [vA ((uM y g w st i q:Nat):Int)]=[vA ((uM y g w st (i+1) q:Nat):Int)];rw[aut,ahq]
 .refine pU (fC _ (by rfl)) aB (au aG (au Ji ay)) aV bN ((at_end adS adC ahr Vb N m st (nI g) (w:Nat) _ (m:Nat) _).trans ?_);unfold atT;rw[bJ,eU]
theorem ap8:dJ bO 329 [.view 0 1 st 0 m,fI m (nI g),vA (w:Nat)] [.a 234 1 N λ q=>[vA (nI y q)]] (vA ((pJ y g w st m / aJ ^ m:Nat):Int)) [.a 234 1 N λ q=>[vA (nI (uM y g w st m) q)]]:=by
 have d:nT 1 bO (eZ 3 (jS 1 Vd [some 0] (atS N m st (nI g) (w:Nat) 0 0 (nI y)) (.exit 0) (atS N m st (nI g) (w:Nat) ((pJ y g w st m / aJ ^ m:Nat):Int) (m:Nat) (nI (uM y g w st m))))) (dH aKS):=iW 1 (by kernel_rfl) λ j o _=>by
  have:j=0:=by omega
  subst this;exact fq (by rfl) (alB hm hst hy hg hw)
 refine nM aB (au aG (au Ji ay)) aV fH gQ Tryz.func329 (mem:=[.a 234 1 N λ q=>[vA (nI y q)]]) d (τ:=[some 0]) (by rfl) ((aCJ adS adC ahr Vb N m st (nI g) (w:Nat) (nI y) _ _).trans ?_);rw[ak (fQ.refl _)]
end
open Go.Ev (IB)
def yY(n:Nat)(f:Nat->Int)(m:Nat)(g:Nat->Int)(N:Nat)(i:Int)(Y:Nat->Int):St:=mkS 40 [(0,fI n f),(1,fI m g),(5,.bQ 0 1 0 N),(14,fI n f),(15,iA (n:Nat)),(16,iA i)] [.a 234 1 N λ q=>[vA (Y q)]]
def Uq:List Nat:=[0,1,5,14,15,16]
section
variable(n:Nat)(f:Nat->Int)(m:Nat)(g:Nat->Int)(N:Nat)(i:Int)(Y Y1:Nat->Int)(c:Int)
def prM:List Row:=[.a 234 1 N λ q=>[vA (Y q)]]
def prV:AV:=.view 0 1 (0+CF (some i)) 0 (uV (some i) (some (aH (i+(m:Int)))) N)
abbrev awE:Prop:=dJ bO 329 [prV m N i,fI m g,vA (f i.toNat)] (prM N Y) (vA c) (prM N Y1)
noncomputable def prT(x y:Option Out):Option Out:=cond (decide (i<(n:Int))) (cond (iP i n||false) (cond (AY (some i) (some (aH (i+(m:Int)))) none N||false) (cond (jv (awE f m g N i Y Y1 c)) (cond (iP (aH (i+(m:Int))) N||false) (cond (stU (aH (i+(m:Int))).toNat N) x none) none) none) none) none) y
def prN:St:=mkS 40 [(0,fI n f),(1,fI m g),(5,.bQ 0 1 0 N),(14,fI n f),(15,iA (n:Nat)),(16,iA (aH (i+1)))] [.a 234 1 N λ q=>bM (q==0+(aH (i+(m:Int))).toNat) [vA c] [vA (Y1 q)]]
theorem ap7:qN bO [] [] [] [wS bO 329 (λ _ _=>vA c) (λ _ _=>prM N Y1)] [] bC (av aKT 0) (yY n f m g N i Y) (gu Uq [some 0])=prT n f m g N i Y Y1 c (some ⟨.normal,prN n f m g N i Y1 c,.any⟩) none:=by kernel_rfl
theorem awF:qN bO [] [] [] [wS bO 329 (λ _ _=>vA c) (λ _ _=>prM N Y1)] [] bC (av aKT 0) (yY n f m g N i Y) (iG Uq [some 0])=prT n f m g N i Y Y1 c none (some ⟨.exit 0,yY n f m g N i Y,.any⟩):=by kernel_rfl
end
section
variable(n:Nat)(f:Nat->Int)(m:Nat)(g:Nat->Int)(N:Nat)(Y:Nat->Int)(k:Nat)(F:Nat->Int)
def p0T:St:=yY n f m g N 0 λ _=>0
noncomputable def aj7:Option Out:=cond (fz1 N) (gate (aj bO 330 [.sl 1 N λ q=>[vA (Y q)]] (fI k F)) (some (Out.of (fI k F)))) none
theorem aB8:Q6 bO [] [kS bO 330 (λ _=>fI k F)] [] (eZ 3 (fF Uq [some 0] (p0T n f m g N) (.exit 0) (yY n f m g N (n:Nat) Y))) (Ay 7 (yQ 0)) aKT [fI n f,fI m g] ret =
  cond (mkU (aH ((n:Int)+(m:Int)))||false) (gate (Sub (yY n f m g (aH ((n:Int)+(m:Int))).toNat 0 λ _=>0) (p0T n f m g N)) (aj7 N Y k F)) none:=by kernel_rfl
end
theorem aj4{i q:Nat}(h:q<i)(x k:Nat):aW (x+aJ ^ i*k) q=aW x q:=by
 obtain⟨r,rfl⟩:∃r,i=q+1+r:=⟨i - q - 1,by omega⟩;unfold aW
 have e:aJ ^ (q+1+r)*k=aJ ^ q*(aJ*(aJ ^ r*k)):=by rw[ahO,aBg];simp only[arA]
 rw[e,aHG _ _ (iJ q),Nat.add_mul_mod_self_left]
theorem aj5(x i j:Nat):aW x (i+j)=aW (x / aJ ^ i) j:=by unfold aW;rw[aBu,<-ahO]
theorem XI(y g:Nat->Nat)(w st j:Nat):∀k,∃z,pJ y g w st (j+k)=pJ y g w st j+aJ ^ j*z
 | 0=>⟨0,by rw[aMb];rfl⟩
 |k+1=>by obtain⟨z,d⟩:=XI y g w st j k;refine⟨z+aJ ^ k*(g (j+k)*w+y (st+(j+k))),?_⟩;rw[<-aIW,Ru,d,ahO];generalize g (j+k)*w+y (st+(j+k))=u;rw[aHx,arA,aIW]
theorem ap6(y g:Nat->Nat)(w st:Nat){j m:Nat}(h:j<m):aW (pJ y g w st (j+1)) j=aW (pJ y g w st m) j:=by obtain⟨k,rfl⟩:∃k,m=j+1+k:=⟨m - (j+1),by omega⟩;obtain⟨z,d⟩:=XI y g w st (j+1) k;rw[d,aj4 (by omega)]
def pX(a b i:Nat):Nat:=a % aJ ^ i*b
theorem aeC(a b i:Nat):pX a b (i+1)=pX a b i+aJ ^ i*(aW a i*b):=by unfold pX;rw[lW,auK,arA]
theorem XJ(a b i:Nat):pX a b i<aJ ^ (i+aA b):=by
 unfold pX;have d:=aHY a (iJ i);have o:=kL b;rw[ahO];rcases aMS b with h |h
 .subst h;rw[aMb];exact aLG (iJ _) (iJ _)
 .exact anS ((aMp h).2 d) (apL _ (by omega))
theorem p_T(a b i:Nat):pJ (aW (pX a b i)) (aW b) (aW a i) i (aA b)=pX a b (i+1) / aJ ^ i:=by
 have o:vl (λ j=>aW (pX a b i) (i+j)) (aA b)=pX a b i / aJ ^ i:=by rw[show(λ j=>aW (pX a b i) (i+j))=aW (pX a b i / aJ ^ i) from funext λ j=>aj5 _ _ _,IB,aG8];rw[aHr (iJ i),<-ahO,aI1];exact XJ a b i
 have d:vl (aW b) (aA b)=b:=by rw[IB,aG8 (kL b)]
 unfold pJ;rw[o,d,aeC,aHG _ _ (iJ i)]
theorem aB7(a b i q:Nat):(if q=i+aA b then pX a b (i+1) / aJ ^ i / aJ ^ aA b else uM (aW (pX a b i)) (aW b) (aW a i) i (aA b) q)=aW (pX a b (i+1)) q:=by
 by_cases h:q=i+aA b
 .subst h;rw[gH rfl,aj5];show _=pX a b (i+1) / aJ ^ i / aJ ^ aA b % aJ;rw[aG8];rw[aBu,aHr (aLG (iJ _) (iJ _)),<-ahO,aEw,<-aBg];have:=XJ a b (i+1);rw[show i+1+aA b=(i+aA b).succ by omega]at this;exact this
 .rw[fP h];unfold uM;by_cases d:i<=q/\q<i+aA b
  .rw[gH d,ap6 (m:=aA b) _ _ _ _ (by omega),p_T,<-aj5,show i+(q - i)=q by omega]
  .rw[fP d];by_cases o:q<i
   .rw[aeC,aj4 o]
   .rw[lJ (anS (XJ a b i) (agX jf (by omega))),lJ (anS (XJ a b (i+1)) (agX jf (by omega)))]
theorem aj6{a b:Nat}(H:aA a+aA b<=35184372088832):bH bO (.loop (av aKT 0)) (p0T (aA a) (dI a) (aA b) (dI b) (aA a+aA b)) (.exit 0) (yY (aA a) (dI a) (aA b) (dI b) (aA a+aA b) (aA a:Nat) (dI (pX a b (aA a)))):=by
 have h0:p0T (aA a) (dI a) (aA b) (dI b) (aA a+aA b)=yY (aA a) (dI a) (aA b) (dI b) (aA a+aA b) ((0:Nat):Int) (dI (pX a b 0)):=by
  have e:pX a b 0=0:=by unfold pX;rw[axO,aJC,aH1]
  have e2:dI 0=λ _=>0:=funext λ q=>by unfold dI;rw[lJ (iJ q)];rfl
  rw[e,e2];rfl
 rw[h0];refine aP (λ i=>yY (aA a) (dI a) (aA b) (dI b) (aA a+aA b) (i:Nat) (dI (pX a b i))) (aA a) (.exit 0) _ (by simp) (λ i t=>?_) ?_
 .have d:=ap7 (aA a) (dI a) (aA b) (dI b) (aA a+aA b) (i:Nat) (dI (pX a b i)) (nI (uM (aW (pX a b i)) (aW b) (aW a i) i (aA b))) ((pJ (aW (pX a b i)) (aW b) (aW a i) i (aA b) / aJ ^ aA b:Nat):Int);have o:aH (((i:Nat):Int)+((aA b:Nat):Int))=((i+aA b:Nat):Int):=by rw[aO];omega
  have ev:prV (aA b) (aA a+aA b) (i:Nat)=.view 0 1 i 0 (aA b):=by unfold prV;rw[o];unfold CF uV;simp only[apP,pF];rw[ZO,show(((i+aA b:Nat):Int) - ((i:Nat):Int)).toNat=aA b by omega]
  have E:awE (dI a) (aA b) (dI b) (aA a+aA b) (i:Nat) (dI (pX a b i)) (nI (uM (aW (pX a b i)) (aW b) (aW a i) i (aA b))) ((pJ (aW (pX a b i)) (aW b) (aW a i) i (aA b) / aJ ^ aA b:Nat):Int):=by unfold awE;rw[ev];exact ap8 (by omega) (by omega) (λ q=>tZ _ _) (λ q=>tZ _ _) (tZ _ _)
  have z:AY (some ((i:Nat):Int)) (some ((i+aA b:Nat):Int)) none (aA a+aA b)=true:=by unfold AY;simp only[apP,aFz];rw[gG (show(0:Int)<=((i:Nat):Int) by omega),gG (show((i:Nat):Int)<=((i+aA b:Nat):Int) by omega),gG (show((i+aA b:Nat):Int)<=((aA a+aA b:Nat):Int) by omega),gG (af2 _)];rfl
  unfold prT at d;rw[bI t,bZ t,jl E,o,z,bZ (show i+aA b<aA a+aA b by omega),pF,Fx (show i+aA b<aA a+aA b by omega)]at d;unfold prN at d;rw[o,aQ (by omega)]at d;refine(Q9 aB ay aV (jU aus fH) gQ (bB _ _) aC d).sub (Sub.refl _) ?_;refine ig ⟨Gc ⟨234,1,aA a+aA b,_,_,rfl,rfl,λ q hq=>?_⟩,trivial⟩;refine Eq.symm ?_;rw[pF,ZO,p_T];show bM (q==i+aA b) [vA ((pX a b (i+1) / aJ ^ i / aJ ^ aA b:Nat):Int)] [vA ((uM (aW (pX a b i)) (aW b) (aW a i) i (aA b) q:Nat):Int)]=[vA ((aW (pX a b (i+1)) q:Nat):Int)];rw[aut,aB7]
 .refine Q9 aB ay aV (jU aus fH) gQ (dB _ _) aC ((awF (aA a) (dI a) (aA b) (dI b) (aA a+aA b) (aA a:Nat) (dI (pX a b (aA a))) (λ _=>0) 0).trans ?_);unfold prT;rw[bJ,eU]
theorem ap9(n:Nat)(u:Nat->Int)(m:Nat)(v:Nat->Int)(N:Nat):Sub (yY n u m v N 0 λ _=>0) (p0T n u m v N):=by unfold p0T;exact Sub.refl _
theorem aqa{a b:Nat}(o:aA a+aA b<=35184372088832):aj bO 324 [A8 a,A8 b] (A8 (a*b)):=by
 have z:=gq (c:=dH aKT) (i:=3) 0 1 (aS (keep:=Uq) (τ:=[some 0]) (aj6 o));refine lY (jJ (jm 0)) aB (au aG ay) aV Tryz.func324 z ((aB8 (aA a) (dI a) (aA b) (dI b) (aA a+aA b) (dI (pX a b (aA a))) (aA (a*b)) (dI (a*b))).trans ?_);have e:pX a b (aA a)=a*b:=by unfold pX;rw[aG8 (kL a)]
 have d:=XJ a b (aA a);rw[e]at d;have t:aj bO 330 [.sl 1 (aA a+aA b) λ q=>[vA (dI (a*b) q)]] (fI (aA (a*b)) (dI (a*b))):=Ku (a*b) o d;have E:aH (((aA a:Nat):Int)+((aA b:Nat):Int))=((aA a+aA b:Nat):Int):=by rw[aO];omega
 unfold aj7;rw[E,aeD o,pF,ak (ap9 (aA a) (dI a) (aA b) (dI b) (aA a+aA b)),XK,e,ak t];rfl
def wA(x:Int):AV:=.agg [iA x.sign,A8 x.natAbs]
def aGy:List AV->Nat
 | [.x (.int _ z)]=>z.toNat
 |_=>0
def iO:AV->Nat
 |.sl _ n el=>vl (λ i=>aGy (el i)) n
 |_=>0
theorem IC(a:Nat):iO (A8 a)=a:=by show vl (λ i=>(((aW a i:Nat):Int)).toNat) (aA a)=a;simp only[pF];exact(IB a (aA a)).trans (aG8 (kL a))
def kF:AV->Int
 |.agg [.x (.int _ s),a]=>s*(iO a:Nat)
 |_=>0
theorem iC(x:Int):kF (wA x)=x:=by show x.sign*((iO (A8 x.natAbs):Nat):Int)=x;rw[IC,Int.sign_mul_natAbs]
def a0(l:List AV):AV:=l.getD 0 .any
def a1(l:List AV):AV:=l.getD 1 .any
def smG(l:List AV):AV:=A8 (iO (a0 l)+iO (a1 l))
def dfG(l:List AV):AV:=A8 (iO (a0 l) - iO (a1 l))
def prG(l:List AV):AV:=A8 (iO (a0 l)*iO (a1 l))
def cpG(cf:Nat->Nat->Int)(l:List AV):AV:=iA (cf (iO (a0 l)) (iO (a1 l)))
def w0:AV:=.agg [iA 0,.x (.slice none 0 0)]
section
variable(x y:Int)
def nX:AV:=A8 x.natAbs
theorem aB9:ev bO [] [] bC Tryz.f318 [wA x] ret=some (Out.of (.agg [iA (aH (0 - x.sign)),nX x])):=by kernel_rfl
theorem auu:ev bO [] [kS bO 324 prG] bC Tryz.f316 [wA x,wA y] ret =
  cond (cond (x.sign==0) true (y.sign==0)) (some (Out.of w0)) (gate (aj bO 324 [nX x,nX y] (prG [nX x,nX y])) (some (Out.of (.agg [iA (aH (x.sign*y.sign)),prG [nX x,nX y]])))):=by kernel_rfl
noncomputable def Us(cf:Nat->Nat->Int):Option Out:=gate (aj bO 326 [nX x,nX y] (cpG cf [nX x,nX y])) (cond (cf (iO (nX x)) (iO (nX y))==1) (gate (aj bO 327 [nX x,nX y] (dfG [nX x,nX y])) (some (Out.of (.agg [iA x.sign,dfG [nX x,nX y]]))))
  (cond (cf (iO (nX x)) (iO (nX y))==-1) (gate (aj bO 327 [nX y,nX x] (dfG [nX y,nX x])) (some (Out.of (.agg [iA y.sign,dfG [nX y,nX x]])))) (some (Out.of w0))))
theorem Rv(cf:Nat->Nat->Int):ev bO [] [kS bO 325 smG,kS bO 326 (cpG cf),kS bO 327 dfG] bC Tryz.f317 [wA x,wA y] ret =
  cond (x.sign==0) (some (Out.of (wA y))) (cond (y.sign==0) (some (Out.of (wA x))) (cond (x.sign==y.sign) (gate (aj bO 325 [nX x,nX y] (smG [nX x,nX y])) (some (Out.of (.agg [iA x.sign,smG [nX x,nX y]])))) (Us x y cf))):=by kernel_rfl
end
def Sm(x:Int):Prop:=aA x.natAbs<17592186044416
theorem Ur{E:Env}{v:Value}(h:rel E w0 v):rel E (wA 0) v:=by obtain⟨o,K,d⟩:=ku.1 h;refine ku.2 ⟨o,K,?_⟩;obtain⟨z,I,e0,r0,d⟩:=aD.1 d;obtain⟨t,H,e1,J,d⟩:=aD.1 d;exact aD.2 ⟨z,I,e0,r0,aD.2 ⟨t,H,e1,wB J,d⟩⟩
theorem gy(x:Int):(x<0/\x.sign=-1)\/(x=0/\x.sign=0)\/(0<x/\x.sign=1):=by
 rcases Int.lt_trichotomy x 0 with h |h |h
 .exact wV ⟨h,Int.sign_eq_neg_one_of_neg h⟩
 .exact Gc (wV ⟨h,by rw[h];rfl⟩)
 .exact Gc (Gc ⟨h,Int.sign_eq_one_of_pos h⟩)
theorem MB(x:Int):aj bO 318 [wA x] (wA (-x)):=by
 refine aR aB ay Tryz.func318 aC ((aB9 x).trans ?_);have e:aH (0 - x.sign)=(-x).sign:=by rcases gy x with⟨_,h⟩ | ⟨_,h⟩ | ⟨_,h⟩<;>rw[Int.sign_neg,h]<;>rfl
 unfold wA nX;rw[e,aJD]
theorem qY{x y:Int}(H:Sm x)(hy:Sm y):aj bO 316 [wA x,wA y] (wA (x*y)):=by
 unfold Sm at H hy;by_cases d:x=0\/y=0
 .have e:x*y=0:=by rcases d with h |h<;>subst h<;>simp
  rw[e];refine aj.wD (aR aB (au aG ay) aN4 aC ((auu x y).trans ?_)) λ _ _=>Ur
  have:cond (x.sign==0) true (y.sign==0)=true:=by
   rcases d with h |h<;>subst h
   .rfl
   .cases x.sign==0<;>rfl
  rw[this];rfl
 .have t:x≠0:=λ h=>d (wV h);have o:y≠0:=λ h=>d (Gc h);refine aR aB (au aG ay) aN4 aC ((auu x y).trans ?_);have E:(x.sign==0)=false:=mI λ h=>t (aHS.1 h);have s2:(y.sign==0)=false:=mI λ h=>o (aHS.1 h)
  have e:prG [nX x,nX y]=A8 (x*y).natAbs:=by show A8 (iO (A8 x.natAbs)*iO (A8 y.natAbs))=_;rw[IC,IC,aHq]
  have hp:aj bO 324 [nX x,nX y] (A8 (x*y).natAbs):=by rw[aHq];exact aqa (by omega)
  have I:aH (x.sign*y.sign)=(x*y).sign:=by rw[Int.sign_mul];rcases gy x with⟨_,h⟩ | ⟨_,h⟩ | ⟨_,h⟩<;>rcases gy y with⟨_,z⟩ | ⟨_,z⟩ | ⟨_,z⟩<;>rw[h,z]<;>rfl
  rw[E,s2,e,ak hp,I];rfl
theorem Ig{x y:Int}(hx:Sm x)(hy:Sm y):aj bO 317 [wA x,wA y] (wA (x+y)):=by
 unfold Sm at hx hy;have ks:∀e,e∈[kS bO 325 smG,kS bO 326 (cpG yt),kS bO 327 dfG]->sZ bO e:=au aG (au aG (au aG ay));have I:iO (nX x)=x.natAbs:=IC _;have H:iO (nX y)=y.natAbs:=IC _
 have eS:smG [nX x,nX y]=A8 (x.natAbs+y.natAbs):=by show A8 (iO (nX x)+iO (nX y))=_;rw[I,H]
 have eD:dfG [nX x,nX y]=A8 (x.natAbs - y.natAbs):=by show A8 (iO (nX x) - iO (nX y))=_;rw[I,H]
 have U:dfG [nX y,nX x]=A8 (y.natAbs - x.natAbs):=by show A8 (iO (nX y) - iO (nX x))=_;rw[I,H]
 have Z:cpG yt [nX x,nX y]=iA (yt x.natAbs y.natAbs):=by show iA (yt (iO (nX x)) (iO (nX y)))=_;rw[I,H]
 have hS:aj bO 325 [nX x,nX y] (A8 (x.natAbs+y.natAbs)):=aj8 (by omega) (by omega);have S:aj bO 326 [nX x,nX y] (iA (yt x.natAbs y.natAbs)):=aj9 (by omega);by_cases M:x=0
 .subst M;refine aR aB ks aJf aC ((Rv 0 y yt).trans ?_);rw[aOj];rfl
 have J:(x.sign==0)=false:=mI λ h=>M (aHS.1 h);by_cases K:y=0
 .subst K;refine aR aB ks aJf aC ((Rv x 0 yt).trans ?_);rw[aHV,J];rfl
 have s2:(y.sign==0)=false:=mI λ h=>K (aHS.1 h);by_cases hs:x.sign=y.sign
 .refine aR aB ks aJf aC ((Rv x y yt).trans ?_)
  have e1:(x+y).sign=x.sign/\(x+y).natAbs=x.natAbs+y.natAbs:=by rcases gy x with⟨z,h⟩ | ⟨z,h⟩ | ⟨z,h⟩<;>rcases gy y with⟨d,t⟩ | ⟨d,t⟩ | ⟨d,t⟩<;>rcases gy (x+y)with⟨E,o⟩ | ⟨E,o⟩ | ⟨E,o⟩<;>rw[h,t]at hs<;>omega
  rw[J,s2,hs,aHX,eS,ak hS];unfold wA;rw[e1.1,e1.2,hs];rfl
 .have O:(x.sign==y.sign)=false:=mI hs;rcases aJQ x.natAbs y.natAbs with hl |he |hg
  .refine aR aB ks aJf aC ((Rv x y yt).trans ?_);have Q:aj bO 327 [nX y,nX x] (A8 (y.natAbs - x.natAbs)):=aeE (by omega) (by omega);have hc:yt x.natAbs y.natAbs=-1:=by unfold yt;rw[fP (by omega),gH hl]
   have e1:(x+y).sign=y.sign/\(x+y).natAbs=y.natAbs - x.natAbs:=by rcases gy x with⟨z,h⟩ | ⟨z,h⟩ | ⟨z,h⟩<;>rcases gy y with⟨d,t⟩ | ⟨d,t⟩ | ⟨d,t⟩<;>rcases gy (x+y)with⟨E,o⟩ | ⟨E,o⟩ | ⟨E,o⟩<;>rw[h,t]at hs<;>omega
   unfold Us;rw[J,s2,O,Z,ak S,I,H,hc,U,ak Q];unfold wA;rw[e1.1,e1.2];rfl
  .have e0:x+y=0:=by rcases gy x with⟨z,h⟩ | ⟨z,h⟩ | ⟨z,h⟩<;>rcases gy y with⟨d,t⟩ | ⟨d,t⟩ | ⟨d,t⟩<;>rw[h,t]at hs<;>omega
   rw[e0];refine aj.wD (aR aB ks aJf aC ((Rv x y yt).trans ?_)) λ _ _=>Ur;have hc:yt x.natAbs y.natAbs=0:=by unfold yt;rw[fP (by omega),fP (by omega)]
   unfold Us;rw[J,s2,O,Z,ak S,I,H,hc];rfl
  .refine aR aB ks aJf aC ((Rv x y yt).trans ?_);have Q:aj bO 327 [nX x,nX y] (A8 (x.natAbs - y.natAbs)):=aeE (by omega) (by omega);have hc:yt x.natAbs y.natAbs=1:=by unfold yt;rw[gH hg]
   have e1:(x+y).sign=x.sign/\(x+y).natAbs=x.natAbs - y.natAbs:=by rcases gy x with⟨z,h⟩ | ⟨z,h⟩ | ⟨z,h⟩<;>rcases gy y with⟨d,t⟩ | ⟨d,t⟩ | ⟨d,t⟩<;>rcases gy (x+y)with⟨E,o⟩ | ⟨E,o⟩ | ⟨E,o⟩<;>rw[h,t]at hs<;>omega
   unfold Us;rw[J,s2,O,Z,ak S,I,H,hc,eD,ak Q];unfold wA;rw[e1.1,e1.2];rfl
def woC(z:Int)(i:Nat):List AV:=chunk [vA z] 1 (0+i)
theorem akb(x:Int):ev bO [] [] bC Tryz.f315 [iA x] ret =
  cond (decide (x<0)) (some (Out.of (.agg [iA (-1),.sl 1 1 (woC (aBh.wrap (0 - aBh.wrap x)))]))) (cond (decide (x>0)) (some (Out.of (.agg [iA 1,.sl 1 1 (woC (aBh.wrap x))]))) (some (Out.of w0))):=by kernel_rfl
theorem XO{E:Env}{v:Value}{s:Int}{z:Nat}(h0:z≠0)(o:z<aJ)(h:rel E (.agg [iA s,.sl 1 1 (woC (z:Nat))]) v):rel E (.agg [iA s,A8 z]) v:=by
 have O:aA z=1:=XL (by rw[Nat.pow_one];exact o) (Gc (by rw[Nat.sub_self,axO];omega));obtain⟨t,Q,d⟩:=ku.1 h;refine ku.2 ⟨t,Q,?_⟩;obtain⟨I,K,e0,r0,d⟩:=aD.1 d;obtain⟨H,J,e1,M,d⟩:=aD.1 d;refine aD.2 ⟨I,K,e0,r0,aD.2 ⟨H,J,e1,?_,d⟩⟩;unfold A8;rw[O];refine ql M λ i S=>?_;have:i=0:=by omega
 subst this;show [vA ((aW z 0:Nat):Int)]=[vA ((z:Nat):Int)];have:aW z 0=z:=by unfold aW;rw[axO,aJe,aG8 o]
 rw[this]
theorem qQ{x:Int}(h0:-9223372036854775808<=x)(o:x<=9223372036854775807):aj bO 315 [iA x] (wA x):=by
 have d:∀z:Int,aBh.wrap z=z % 18446744073709551616:=λ _=>rfl;rcases gy x with⟨h,hs⟩ | ⟨h,hs⟩ | ⟨h,hs⟩
 .have e:aBh.wrap (0 - aBh.wrap x)=((x.natAbs:Nat):Int):=by rw[d,d];omega
  unfold wA;rw[hs];refine aj.wD (aR aB ay aLN aC ((akb x).trans ?_)) λ _ _=>XO (z:=x.natAbs) (by omega) (by rw[nN];omega);rw[gG h,e];rfl
 .subst h;exact aj.wD (aR aB ay aLN aC (akb 0)) λ _ _=>Ur
 .have e:aBh.wrap x=((x.natAbs:Nat):Int):=by rw[d];omega
  unfold wA;rw[hs];refine aj.wD (aR aB ay aLN aC ((akb x).trans ?_)) λ _ _=>XO (z:=x.natAbs) (by omega) (by rw[nN];omega);rw[iH (show ¬x<0 by omega),gG h,e];rfl
def wC(x:Int):List AV:=[iA x.sign,A8 x.natAbs]
def pA(n:Nat)(f:Nat->Int):AV:=.sl 2 n λ i=>wC (f i)
theorem Nc(b:Bool)(x y:Int):bM b (wC x) (wC y)=wC (cond b x y):=by unfold wC iA A8 sW uw;cases b<;>simp only[bM,kZ,decide_true,aY,eU,aIC]
def tl(f:Nat->Int):Nat->Nat
 | 0=>0
 |n+1=>if f n=0 then tl f n else n+1
theorem Lj(f:Nat->Int):∀n,tl f n<=n
 | 0=>ND _
 |n+1=>by
  unfold tl;split
  .exact aa2 (Lj f n) (by omega)
  .exact ND _
theorem U5(f:Nat->Int):∀n i,tl f n<=i->i<n->f i=0
 | 0,i,_,h=>by omega
 |n+1,i,h1,h2=>by
  unfold tl at h1;by_cases h:f n=0
  .rw[gH h]at h1;by_cases e:i=n
   .rw[e];exact h
   .exact U5 f n i h1 (by omega)
  .rw[fP h]at h1;omega
theorem U6(f:Nat->Int):∀n,tl f n≠0->f (tl f n - 1)≠0
 | 0,h=>absurd rfl h
 |n+1,h=>by
  unfold tl at h ⊢;by_cases h0:f n=0
  .rw[gH h0]at h ⊢;exact U6 f n h
  .rw[fP h0];exact h0
def poS(n:Nat)(f:Nat->Int):St:=mkS 22 [(0,pA n f)] []
section
variable(n:Nat)(f:Nat->Int)
def poB:Bool:=cond (decide ((n:Int)>0)) ((f (aH ((n:Int) - 1)).toNat).sign==0) false
theorem aq2:jR bO [] [] bC (av aKU 0) (poS n f) (gu [0] []) =
  cond (gTr (decide ((n:Int)>0)) (aH ((n:Int) - 1)) n) (cond (poB n f) (cond (AY none (some (aH ((n:Int) - 1))) none n||false) (some ⟨.normal,mkS 22 [(0,.sl 2 (uV none (some (aH ((n:Int) - 1))) n) λ i=>wC (f (CF none+i)))] [],.any⟩) none) none) none:=by kernel_rfl
theorem axM:jR bO [] [] bC (av aKU 0) (poS n f) (iG [0] []) =
  cond (gTr (decide ((n:Int)>0)) (aH ((n:Int) - 1)) n) (cond (poB n f) (cond (AY none (some (aH ((n:Int) - 1))) none n||false) none none) (some ⟨.exit 0,poS n f,.any⟩)) none:=by kernel_rfl
theorem aCF(m:Nat):ev bO [] [] (eZ 1 (fF [0] [] (poS n f) (.exit 0) (poS m f))) aKU [pA n f] ret=gate (Sub (poS n f) (poS n f)) (some (Out.of (pA m f))):=by kernel_rfl
end
theorem auE{m n:Nat}(d:n<=35184372088832)(hm:m<=n):gTr (decide ((m:Int)>0)) (aH ((m:Int) - 1)) m=true:=by
 unfold gTr;by_cases h:m=0
 .subst h;rfl
 .obtain⟨j,rfl⟩:∃j,m=j+1:=⟨m - 1,by omega⟩;rw[show aH (((j+1:Nat):Int) - 1)=((j:Nat):Int) by rw[aO];omega,bZ (by omega)];rfl
theorem ali(f:Nat->Int){N:Nat}(o:N<=35184372088832):∀n,n<=N->bH bO (.loop (av aKU 0)) (poS n f) (.exit 0) (poS (tl f n) f):=λ n K=>by
 have I:=Lj f n
 have key:bH bO (.loop (av aKU 0)) (poS (n - 0) f) (.exit 0) (poS (tl f n) f):=by
  refine aP (λ j=>poS (n - j) f) (n - tl f n) (.exit 0) _ (by simp) (λ j J=>?_) ?_
  .obtain⟨m,hm⟩:∃m,n - j=m+1:=⟨n - j - 1,by omega⟩;have e1:n - (j+1)=m:=by omega
   rw[hm,e1];have t:aH (((m+1:Nat):Int) - 1)=((m:Nat):Int):=by rw[aO];omega
   have H:f m=0:=U5 f n m (by omega) (by omega);have st:=aq2 (m+1) f
   have d:poB (m+1) f=true:=by unfold poB;rw[gG (show((m+1:Nat):Int)>0 by omega),t,pF,H];rfl
   have E:AY none (some ((m:Nat):Int)) none (m+1)=true:=by unfold AY;simp only[apP,aFz];rw[gG (af2 _),gG (show(0:Int)<=((m:Nat):Int) by omega),gG (show((m:Nat):Int)<=((m+1:Nat):Int) by omega),gG (af2 _)];rfl
   have s2:uV none (some ((m:Nat):Int)) (m+1)=m:=by unfold uV;simp only[apP,aFz];omega
   have z:(λ i=>wC (f (CF none+i)))=λ i=>wC (f i):=funext λ i=>by show wC (f (0+i))=_;rw[ZO]
   rw[auE o (by omega),d,t,E,s2,z]at st;exact aK (bB [0] []) aB ay aC st
  .rw[show n - (n - tl f n)=tl f n by omega];refine aK (dB [0] []) aB ay aC ((axM (tl f n) f).trans ?_)
   have d:poB (tl f n) f=false:=by
    unfold poB;by_cases h:tl f n=0
    .rw[h];rfl
    .have:=U6 f n h;rw[gG (show((tl f n:Nat):Int)>0 by omega),show aH ((tl f n:Int) - 1)=((tl f n - 1:Nat):Int) by rw[aO];omega,pF,aY];exact mI λ h=>this (aHS.1 h)
   rw[auE o (show tl f n<=N by omega),d];rfl
 exact key
theorem Im(f:Nat->Int){n:Nat}(d:n<=35184372088832):aj bO 311 [pA n f] (pA (tl f n) f):=by refine aR aB ay Tryz.func311 (gq 0 1 (aS (ali f d n (ND _)))) ((aCF n f (tl f n)).trans ?_);rw[ak (Sub.refl _)]
def sJ(n:Nat)(u:Nat->Int):AV:=.sl 1 n λ i=>[iA (u i)]
def wz:List AV:=[iA 0,.x (.slice none 0 0)]
def whS(n:Nat)(u:Nat->Int)(i:Int)(Y:Nat->List AV):St:=mkS 23 [(0,sJ n u),(3,.bQ 0 2 0 n),(9,sJ n u),(10,iA (n:Nat)),(11,iA i)] [.a 342 2 n Y]
def Tz:List Nat:=[0,3,9,10,11]
def QD(n:Int):Bool:=decide (0<=n)&&(decide (n<=n)&&decide (((32:Nat):Int)*n<=281474976710656))
def av9:AV->Int
 |.x (.int _ z)=>z
 |_=>0
def Yt(l:List AV):AV:=wA (av9 (a0 l))
section
variable(n:Nat)(u:Nat->Int)(i:Int)(y:Nat->Int)
noncomputable def whT(x z:Option Out):Option Out:=cond (decide (i<(n:Int))) (cond (iP i n||false) (gate (aj bO 315 [iA (u i.toNat)] (wA (u i.toNat))) (cond (iP i n||false) (cond (stU i.toNat n) x none) none)) none) z
theorem ape:jR bO [] [kS bO 315 Yt] bC (av aKV 0) (whS n u i λ q=>wC (y q)) (gu Tz [some 0])=whT n u i (some ⟨.normal,whS n u (aH (i+1)) λ q=>bM (q==0+i.toNat) (wC (u i.toNat)) (wC (y q)),.any⟩) none:=by kernel_rfl
theorem avr:jR bO [] [kS bO 315 Yt] bC (av aKV 0) (whS n u i λ q=>wC (y q)) (iG Tz [some 0])=whT n u i none (some ⟨.exit 0,whS n u i λ q=>wC (y q),.any⟩):=by kernel_rfl
theorem aBl:ev bO [] [⟨315,λ _ _=>none⟩] (eZ 3 (fF Tz [some 0] (whS n u 0 λ _=>wC 0) (.exit 0) (whS n u (n:Nat) λ q=>wC (y q)))) aKV [sJ n u] ret =
  cond (QD (n:Nat)||false) (gate (Sub (whS n u 0 λ _=>wz) (whS n u 0 λ _=>wC 0)) (some (Out.of (.sl 2 n λ j=>wC (y (0+j)))))) none:=by kernel_rfl
end
theorem Mj:(wC 0).length=wz.length/\∀(E:Env) (cs:List Value),pre E wz cs->pre E (wC 0) cs:=⟨rfl,λ E cs h=>by obtain⟨o,z,e0,r0,h⟩:=bF.1 h;obtain⟨d,t,e1,H,h⟩:=bF.1 h;exact bF.2 ⟨o,z,e0,r0,bF.2 ⟨d,t,e1,wB H,h⟩⟩⟩
theorem Tx{sl:List (AV × Chain)}{e:TypeId}{n:Nat}:Sub ⟨sl,[.a e 2 n λ _=>wz]⟩ ⟨sl,[.a e 2 n λ _=>wC 0]⟩ :=gZ ⟨Gc (wV ⟨e,2,n,_,_,rfl,rfl,λ _ _=>Mj⟩),trivial⟩
theorem Gh{n:Nat}(h:n<=8796093022208):QD (n:Nat)=true:=by unfold QD;rw[gG (show(0:Int)<=(n:Int) by omega),gG (af2 _),gG (show((32:Nat):Int)*(n:Int)<=281474976710656 by omega)];rfl
def upTo(z:Nat->Int)(i q:Nat):Int:=if q<i then z q else 0
theorem zx(z:Nat->Int)(i q:Nat):(cond (q==0+i) (z i) (upTo z i q))=upTo z (i+1) q:=by
 unfold upTo;rw[ZO];by_cases h:q=i
 .subst h;rw[aHX,aY,gH (Nat.lt_succ_self q)]
 .rw[mI h];by_cases d:q<i
  .rw[gH d,gH (by omega)];rfl
  .rw[fP d,fP (by omega)];rfl
theorem Ec(z:Nat->Int):(λ q=>wC (upTo z 0 q))=λ _=>wC 0:=funext λ q=>by unfold upTo;rw[fP (by omega)]
theorem aiO{n:Nat}{u:Nat->Int}(t:n<=8796093022208)(o:∀i,i<n->-9223372036854775808<=u i/\u i<=9223372036854775807):bH bO (.loop (av aKV 0)) (whS n u 0 λ _=>wC 0) (.exit 0) (whS n u (n:Nat) λ q=>wC (upTo u n q)):=by
 have key:bH bO (.loop (av aKV 0)) (whS n u ((0:Nat):Int) λ q=>wC (upTo u 0 q)) (.exit 0) (whS n u (n:Nat) λ q=>wC (upTo u n q)):=by
  refine aP (λ i=>whS n u (i:Nat) λ q=>wC (upTo u i q)) n (.exit 0) _ (by simp) (λ i d=>?_) ?_
  .have st:=ape n u (i:Nat) (upTo u i);unfold whT at st;rw[bI d,bZ d,pF,ak (qQ (o i d).1 (o i d).2),Fx d,aQ (by omega)]at st;refine(aK (bB _ _) aB (au aG ay) aC st).sub (Sub.refl _) ?_;refine ig ⟨Gc ⟨342,2,n,_,_,rfl,rfl,λ q hq=>?_⟩,trivial⟩;rw[Nc,zx]
  .refine aK (dB _ _) aB (au aG ay) aC ((avr n u (n:Nat) (upTo u n)).trans ?_);unfold whT;rw[bJ,eU]
 rw[Ec]at key;exact key
theorem apf{n:Nat}{u:Nat->Int}(d:n<=8796093022208)(o:∀i,i<n->-9223372036854775808<=u i/\u i<=9223372036854775807):aj bO 312 [sJ n u] (pA n u):=by
 refine aj.wD (r:=.sl 2 n λ j=>wC (upTo u n (0+j))) (aR aB (au (CJ _) ay) Tryz.func312 (gq (i:=3) 0 1 (aS (keep:=Tz) (τ:=[some 0]) (aiO d o))) ((aBl n u (upTo u n)).trans ?_)) λ E v h=>ql h λ i t=>?_
 .rw[Gh d,ak (show Sub (whS n u 0 λ _=>wz) (whS n u 0 λ _=>wC 0) from Tx)];rfl
 .show wC (u i)=wC (upTo u n (0+i));unfold upTo;rw[ZO,gH t]
def ppS(n:Nat)(f:Nat->Int)(m:Nat)(g:Nat->Int)(N:Nat)(i:Int)(Y:Nat->List AV):St:=mkS 42 [(0,pA n f),(1,pA m g),(5,.bQ 0 2 0 N),(18,pA n f),(19,iA (n:Nat)),(20,iA i)] [.a 342 2 N Y]
def TA:List Nat:=[0,1,5,18,19,20]
def plG(l:List AV):AV:=wA (kF (a0 l)+kF (a1 l))
def tiG(l:List AV):AV:=wA (kF (a0 l)*kF (a1 l))
section
variable(n:Nat)(f:Nat->Int)(m:Nat)(g:Nat->Int)(N:Nat)(i:Int)(y:Nat->Int)
def ppV:Int:=kF (wA (f i.toNat))+kF (wA (g i.toNat))
noncomputable def ppT(o d z:Option Out):Option Out:=cond (decide (i<(n:Int))) (cond (iP i n||false) (cond (decide (i<(m:Int))) (gate (aj bO 317 [wA (f i.toNat),wA (g i.toNat)] (wA (ppV f g i))) (cond ((iP i m||false)&&true) (cond (iP i N||false) (cond (stU i.toNat N) o none) none) none)) (cond (iP i N||false) (cond (stU i.toNat N) d none) none)) none) z
def ppN(v:Int):Option Out:=some ⟨.normal,ppS n f m g N (aH (i+1)) λ q=>bM (q==0+i.toNat) (wC v) (wC (y q)),.any⟩
theorem apg:jR bO [] [kS bO 317 plG] bC (av aKo 0) (ppS n f m g N i λ q=>wC (y q)) (gu TA [some 0])=ppT n f m g N i (ppN n f m g N i y (ppV f g i)) (ppN n f m g N i y (f i.toNat)) none:=by kernel_rfl
theorem avs:jR bO [] [kS bO 317 plG] bC (av aKo 0) (ppS n f m g N i λ q=>wC (y q)) (iG TA [some 0])=ppT n f m g N i none none (some ⟨.exit 0,ppS n f m g N i λ q=>wC (y q),.any⟩):=by kernel_rfl
variable(k:Nat)
noncomputable def TB:Option Out:=cond (fz1 n) (gate (aj bO 311 [.sl 2 n λ q=>wC (y q)] (pA k y)) (some (Out.of (pA k y)))) none
noncomputable def ppH(n0:Nat)(f0:Nat->Int)(m0:Nat)(g0:Nat->Int)(x:Option Out):Option Out:=cond (QD (n:Nat)||false) (gate (Sub (ppS n f m g n 0 λ _=>wz) (ppS n0 f0 m0 g0 n0 0 λ _=>wC 0)) x) none
theorem aBm(n0:Nat)(f0:Nat->Int)(m0:Nat)(g0:Nat->Int):Q6 bO [] [kS bO 311 (λ _=>pA k y),⟨317,λ _ _=>none⟩] [] (eZ 5 (fF TA [some 0] (ppS n0 f0 m0 g0 n0 0 λ _=>wC 0) (.exit 0) (ppS n0 f0 m0 g0 n0 (n0:Nat) λ q=>wC (y q)))) (Ay 11 (yQ 0)) aKo [pA n f,pA m g] ret =
  cond (decide ((n:Int)<(m:Int))) (ppH m g n f n0 f0 m0 g0 (TB n0 y k)) (ppH n f m g n0 f0 m0 g0 (TB n0 y k)):=by kernel_rfl
end
def Cn(n:Nat)(f:Nat->Int):Prop:=∀i,n<=i->f i=0
theorem Cn.upTo{n:Nat}{f:Nat->Int}(h:Cn n f):upTo f n=f:=funext λ q=>by
 unfold Proofs.YtdlhemnconimnaaGreat.upTo;by_cases hq:q<n
 .rw[gH hq]
 .rw[fP hq,h q (by omega)]
theorem Xj{n:Nat}{f:Nat->Int}(h:Cn n f):Cn (tl f n) f:=λ i o=>by
 by_cases d:i<n
 .exact U5 f n i o d
 .exact h i (by omega)
def fV(f g:Nat->Int)(q:Nat):Int:=f q+g q
theorem aic(f g:Nat->Int):fV f g=fV g f:=funext λ _=>Int.add_comm _ _
theorem anF{n m:Nat}{f g:Nat->Int}(z:m<=n)(H:n<=8796093022208)(hf:Cn n f)(hg:Cn m g)(t:∀i,Sm (f i))(o:∀i,Sm (g i)):bH bO (.loop (av aKo 0)) (ppS n f m g n 0 λ _=>wC 0) (.exit 0) (ppS n f m g n (n:Nat) λ q=>wC (fV f g q)):=by
 have hc:Cn n (fV f g):=λ i d=>by unfold fV;rw[hf i d,hg i (by omega)];rfl
 have key:bH bO (.loop (av aKo 0)) (ppS n f m g n ((0:Nat):Int) λ q=>wC (upTo (fV f g) 0 q)) (.exit 0) (ppS n f m g n (n:Nat) λ q=>wC (upTo (fV f g) n q)):=by
  refine aP (λ i=>ppS n f m g n (i:Nat) λ q=>wC (upTo (fV f g) i q)) n (.exit 0) _ (by simp) (λ i d=>?_) ?_
  .have st:=apg n f m g n (i:Nat) (upTo (fV f g) i);have ev:ppV f g (i:Nat)=fV f g i:=by unfold ppV fV;rw[iC,iC];rfl
   have E:ppT n f m g n (i:Nat) (ppN n f m g n (i:Nat) (upTo (fV f g) i) (ppV f g (i:Nat))) (ppN n f m g n (i:Nat) (upTo (fV f g) i) (f ((i:Nat):Int).toNat)) none=ppN n f m g n (i:Nat) (upTo (fV f g) i) (fV f g i):=by
    unfold ppT;rw[bI d,bZ d,pF,Fx d,ev];by_cases hm:i<m
    .rw[bI hm,bZ hm,ak (show aj bO 317 [wA (f i),wA (g i)] (wA (fV f g i)) from Ig (t i) (o i))];rfl
    .rw[iH (show ¬((i:Nat):Int)<((m:Nat):Int) by omega),show f i=fV f g i by unfold fV;rw[hg i (by omega),aHV]];rfl
   rw[E]at st;unfold ppN at st;rw[pF,aQ (by omega)]at st;refine(aK (bB _ _) aB (au aG ay) aC st).sub (Sub.refl _) ?_;refine ig ⟨Gc ⟨342,2,n,_,_,rfl,rfl,λ q hq=>?_⟩,trivial⟩;rw[Nc,zx]
  .refine aK (dB _ _) aB (au aG ay) aC ((avs n f m g n (n:Nat) (upTo (fV f g) n)).trans ?_);unfold ppT;rw[bJ,eU]
 rw[Ec,hc.upTo]at key;exact key
theorem au3{n m n0 m0:Nat}{f g f0 g0:Nat->Int}(d:m0<=n0)(o:n0<=8796093022208)(hf:Cn n0 f0)(hg:Cn m0 g0)(E:∀i,Sm (f0 i))(z:∀i,Sm (g0 i))
  (h:(n<m/\n0=m/\f0=g/\m0=n/\g0=f)\/(¬n<m/\n0=n/\f0=f/\m0=m/\g0=g)):aj bO 314 [pA n f,pA m g] (pA (tl (fV f0 g0) n0) (fV f0 g0)):=by
 have H:=gq (c:=dH aKo) (i:=5) 0 1 (aS (keep:=TA) (τ:=[some 0]) (anF d o hf hg E z));refine lY (jJ (jm 0)) aB (au aG (au (CJ _) ay)) aV Tryz.func314 H ((aBm n f m g (fV f0 g0) (tl (fV f0 g0) n0) n0 f0 m0 g0).trans ?_)
 have t:TB n0 (fV f0 g0) (tl (fV f0 g0) n0)=some (Out.of (pA (tl (fV f0 g0) n0) (fV f0 g0))):=by unfold TB;rw[XK,ak (show aj bO 311 [.sl 2 n0 λ q=>wC (fV f0 g0 q)] _ from Im (fV f0 g0) (by omega))];rfl
 have hs:∀(a:Nat) (u:Nat->Int) (b:Nat) (v:Nat->Int),Sub (ppS a u b v a 0 λ _=>wz) (ppS a u b v a 0 λ _=>wC 0):=λ a u b v=>Tx;rcases h with⟨h,rfl,rfl,rfl,rfl⟩ | ⟨h,rfl,rfl,rfl,rfl⟩
 .rw[bI h,t];unfold ppH;rw[Gh o,ak (hs _ _ _ _)];rfl
 .rw[iH (show ¬((n0:Nat):Int)<((m0:Nat):Int) by omega),t];unfold ppH;rw[Gh o,ak (hs _ _ _ _)];rfl
theorem aey{n m:Nat}{f g:Nat->Int}(t:n<=8796093022208)(hm:m<=8796093022208)(hf:Cn n f)(hg:Cn m g)(o:∀i,Sm (f i))(d:∀i,Sm (g i)):aj bO 314 [pA n f,pA m g] (pA (tl (fV f g) (max n m)) (fV f g)):=by
 by_cases h:n<m
 .have:=au3 (n:=n) (m:=m) (f:=f) (g:=g) (aHR h) hm hg hf d o (wV ⟨h,rfl,rfl,rfl,rfl⟩);rw[Nat.max_eq_right (aHR h),aic f g];exact this
 .have:=au3 (n:=n) (m:=m) (f:=f) (g:=g) (by omega) t hf hg o d (Gc ⟨h,rfl,rfl,rfl,rfl⟩);rw[Nat.max_eq_left (by omega)];exact this
end Go.Proofs.YtdlhemnconimnaaGreat
