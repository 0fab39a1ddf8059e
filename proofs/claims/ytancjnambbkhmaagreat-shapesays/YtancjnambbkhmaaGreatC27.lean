/-
  Rc3 Rc4 Rc5 Rc6 Rc7 Rc8 Rc9 Rd1a Rd2a Rd3a Sm7 Rd4a Rd5a Rd6a Rd7a Rd8a Rd9a Pk0 Tc3 Tc5 Tc4 Tq1 Tq2 Tq3 Tq4 Tc6 Rdaa Re1 Re2 Re3 Re5 Re6 Re7 Re8 Re9 Re4 Rea, one behind the other.
-/
import Derived.Test.YtancjnambbkhmaaGreatC26
import Derived.Test.YtancjnambbkhmaaGreatC17
namespace Go.Proofs.YtancjnambbkhmaaGreat
open Go.Gv
open Go.Em (wB wB_pos wB_eq nw nw_lt nw_le nw_zero)

def pmI (n:Nat) (f:Nat→Bg) (m:Nat) (g:Nat→Bg) (N:Nat) (i j:Int) (Y:Nat→List AV):St:=mkS 51 [(0,bpA n f),(1,bpA m g),(5,.osl 0 2 0 N),(6,iA i),(7,iA j)] [.a 174 2 N Y]
def keepPMI:List Nat:=[0,1,5,6,7]
def pmO (n:Nat) (f:Nat→Bg) (m:Nat) (g:Nat→Bg) (N:Nat) (i:Int) (Y:Nat→List AV):St:=mkS 51 [(0,bpA n f),(1,bpA m g),(5,.osl 0 2 0 N),(6,iA i)] [.a 174 2 N Y]
def keepPMO:List Nat:=[0,1,5,6]
section
variable (n:Nat) (f:Nat→Bg) (m:Nat) (g:Nat→Bg) (N:Nat) (i j:Int) (y:Nat→Bg)
def pmK:Nat:=(w64 (i+j)).toNat
def pmV:Bg:=a6a (y (0+pmK i j)) (a6m (f i.toNat) (g j.toNat))
noncomputable def pmT (x z:Option Out):Option Out:=cond (decide (j < (m:Int))) (gMul (f i.toNat) (g j.toNat) (cond ((ixB i n||false)&&((ixB j m||false)&&true)) (gAdd (y (0+pmK i j)) (a6m (f i.toNat) (g j.toNat)) (cond ((ixB (w64 (i+j)) N||false)&&(stU (pmK i j) N&&stB (w64 (i+j)) N)) x none)) none)) z
theorem pmI_step:evC Tryz.prog [] (bigK Tryz.prog) noL (loopAt Tryz.f143 1) (pmI n f m g N i j fun q=>bgc (y q)) (finN keepPMI [some 0])=pmT n f m g N i j y (some ⟨.normal,pmI n f m g N i (w64 (j+1)) fun q=>mixL (q==0+pmK i j) (bgc (pmV f g i j y)) (bgc (y q)),.any⟩) none:=by kernel_rfl
theorem pmI_end:evC Tryz.prog [] (bigK Tryz.prog) noL (loopAt Tryz.f143 1) (pmI n f m g N i j fun q=>bgc (y q)) (finE keepPMI [some 0])=pmT n f m g N i j y none (some ⟨.exit 2,pmI n f m g N i j fun q=>bgc (y q),.any⟩):=by kernel_rfl
noncomputable def pmL (y1:Nat→Bg):Nat→Option LFun:=oneL 6 (toldF keepPMI [some 0] (pmI n f m g N i 0 fun q=>bgc (y q)) (.exit 2) (pmI n f m g N i (m:Nat) fun q=>bgc (y1 q)))
theorem pmO_step (y1:Nat→Bg):evC Tryz.prog [] [] (pmL n f m g N i y y1) (loopAt Tryz.f143 0) (pmO n f m g N i fun q=>bgc (y q)) (finN keepPMO [some 0])=cond (decide (i < (n:Int))) (gate (Sub (pmI n f m g N i 0 fun q=>bgc (y q)) (pmI n f m g N i 0 fun q=>bgc (y q))) (some ⟨.normal,pmO n f m g N (w64 (i+1)) fun q=>bgc (y1 q),.any⟩)) none:=by kernel_rfl
theorem pmO_end:evC Tryz.prog [] [] (oneL 6 fun _ _=>none) (loopAt Tryz.f143 0) (pmO n f m g N i fun q=>bgc (y q)) (finE keepPMO [some 0])=cond (decide (i < (n:Int))) none (some ⟨.exit 0,pmO n f m g N i fun q=>bgc (y q),.any⟩):=by kernel_rfl
theorem pm_ev (k:Nat) (z:Nat→Bg):evZ Tryz.prog [] [kS Tryz.prog 144 (fun _=>bpA k z)] [] (oneL 3 (toldF keepPMO [some 0] (pmO n f m g N 0 fun _=>bgc (false,0)) (.exit 0) (pmO n f m g N (n:Nat) fun q=>bgc (y q)))) (oneZ 10 (frzK 0)) Tryz.f143 [bpA n f,bpA m g] ret =
    cond (mk32 (w64 ((n:Int)+(m:Int)))||false) (gate (Sub (pmO n f m g (w64 ((n:Int)+(m:Int))).toNat 0 fun _=>bgZ) (pmO n f m g N 0 fun _=>bgc (false,0))) (cond (fz1 N) (gate (FSpec Tryz.prog 144 [bpA N y] (bpA k z)) (some (Out.of (bpA k z)))) none)) none:=by kernel_rfl
end
def pvS (n:Nat) (f:Nat→Bg) (x i:Int) (u:List AV) (v:Bg):St:=mkS 33 [(0,bpA n f),(1,iA x),(5,.own 0 0),(6,.own 1 0),(7,iA i)] [.c u,.c (bgc v)]
section
variable (n:Nat) (f:Nat→Bg) (x i:Int) (u v:Bg)
noncomputable def pvT (y z:Option Out):Option Out:=cond (decide (i ≥ 0)) (gOf x (gMul u (bOf x) (gMul (f i.toNat) v (gAdd (a6m u (bOf x)) (a6m (f i.toNat) v) (cond ((ixB i n||false)&&true) (gOf 65536 (gMul v (bOf 65536) y)) none))))) z
theorem pv_step:evC Tryz.prog [] (bigK Tryz.prog) noL (loopAt Tryz.f164 0) (pvS n f x i (bgc u) v) (finN keepA6 [some 0,some 1])=pvT n f x i u v (some ⟨.normal,pvS n f x (w64 (i - 1)) (bgc (a6a (a6m u (bOf x)) (a6m (f i.toNat) v))) (a6v v),.any⟩) none:=by kernel_rfl
theorem pv_end:evC Tryz.prog [] (bigK Tryz.prog) noL (loopAt Tryz.f164 0) (pvS n f x i (bgc u) v) (finE keepA6 [some 0,some 1])=pvT n f x i u v none (some ⟨.exit 0,pvS n f x i (bgc u) v,.any⟩):=by kernel_rfl
theorem pv_ev (i':Int) (w r:Bg) (e:Int):ev Tryz.prog [] (kS Tryz.prog 172 (fun _=>iA e)::bigK Tryz.prog) (oneL 4 (toldF keepA6 [some 0,some 1] (pvS n f x i (bgc (false,0)) (bOf 1)) (.exit 0) (pvS n f x i' (bgc w) r))) Tryz.f164 [bpA n f,iA x] ret =
    gOf 1 (gate (Sub (pvS n f x (w64 ((n:Int) - 1)) bgZ (bOf 1)) (pvS n f x i (bgc (false,0)) (bOf 1))) (gate (FSpec Tryz.prog 172 [bgA w] (iA e)) (some (Out.of (iA e))))):=by kernel_rfl
end
end Go.Proofs.YtancjnambbkhmaaGreat

namespace Go.Proofs.YtancjnambbkhmaaGreat
open Go.Gv
open Go.Em (wB wB_pos wB_eq nw nw_lt nw_le nw_zero nw_mul_le nw_add_le)

/-- The numbers themselves. -/
def bval (n:Nat) (f:Nat→Bg) (i:Nat):Int:=if i < n then bv (f i) else 0
theorem bval_Cn (n:Nat) (f:Nat→Bg):Cn n (bval n f):=fun i hi=>by unfold bval; rw [if_neg (by omega)]
theorem bval_lt {n:Nat} {f:Nat→Bg} {i:Nat} (h:i < n):bval n f i=bv (f i):=by unfold bval; rw [if_pos h]
theorem bval_cut (N:Nat) (h:Nat→Bg):bval (btl h N) h=bval N h:=funext fun i=>by
  have hle:btl h N≤N:=tl_le _ N
  unfold bval
  by_cases g:i < btl h N
  · rw [if_pos g,if_pos (by omega)]
  · rw [if_neg g]
    by_cases g2:i < N
    · rw [if_pos g2]
      exact (tl_zero (fun i=>bv (h i)) N i (show tl _ N≤i by unfold btl at g; omega) g2).symm
    · rw [if_neg g2]
theorem btl_tl (N:Nat) (h:Nat→Bg):btl h N=tl (bval N h) N:=tl_congr fun _ hi=>(bval_lt hi).symm
theorem bval_add (n:Nat) (f:Nat→Bg) (m:Nat) (g:Nat→Bg):bval (max n m) (padB n f m g)=fun i=>bval n f i+bval m g i:=funext fun i=>by
  unfold bval padB
  by_cases h1:i < n
  · rw [if_pos (show i < max n m by omega),if_pos h1,if_pos h1]
    by_cases h2:i < m
    · rw [if_pos h2,if_pos h2,bv_add]
    · rw [if_neg h2,if_neg h2,Int.add_zero]
  · rw [if_neg h1,if_neg h1]
    by_cases h2:i < m
    · rw [if_pos (show i < max n m by omega),if_pos h2,bv_add]; rfl
    · rw [if_neg (show ¬ i < max n m by omega),if_neg h2]; rfl
theorem bval_by (n:Nat) (f:Nat→Bg) (k:Bg):bval n (pbyB f k)=fun i=>bval n f i*bv k:=funext fun i=>by
  unfold bval pbyB
  by_cases h:i < n
  · rw [if_pos h,if_pos h,bv_mul]
  · rw [if_neg h,if_neg h,Int.zero_mul]
theorem bval_slope (n:Nat) (f:Nat→Bg):bval (n - 1) (pslB f)=dsl (bval n f):=funext fun i=>by
  show _=bval n f (i+1)*((i+1:Nat):Int)
  by_cases h:i < n - 1
  · rw [bval_lt h,bval_lt (show i+1 < n by omega)]
    unfold pslB
    rw [bv_mul,bv_of]
  · rw [bval_Cn (n - 1) _ i (by omega),bval_Cn n _ (i+1) (by omega),Int.zero_mul]
def yI (f g:Nat→Bg) (i j:Nat) (y:Nat→Bg) (q:Nat):Bg:=if i≤q∧q < i+j then badd (y q) (bmul (f i) (g (q - i))) else y q
def yO (f g:Nat→Bg) (m:Nat):Nat→Nat→Bg
  | 0=>fun _=>(false,0)
  | i+1=>yI f g i m (yO f g m i)
theorem yO_val {n:Nat} (f:Nat→Bg) (m:Nat) (g:Nat→Bg):∀ i,i≤n→∀ q,bv (yO f g m i q)=psm (bval n f) (bval m g) i q
  | 0,_,q=>rfl
  | i + 1,hi,q=>by
    have ih:=yO_val (n:=n) f m g i (by omega) q
    show bv (yI f g i m (yO f g m i) q)=psm (bval n f) (bval m g) i q+if i≤q then bval n f i*bval m g (q - i) else 0
    unfold yI
    rw [bval_lt (show i < n by omega)]
    by_cases h:i≤q∧q < i+m
    · rw [if_pos h,if_pos h.1,bv_add,bv_mul,ih,bval_lt (show q - i < m by omega)]
    · rw [if_neg h,ih]
      by_cases h2:i≤q
      · rw [if_pos h2,bval_Cn m g (q - i) (by omega),Int.mul_zero,Int.add_zero]
      · rw [if_neg h2,Int.add_zero]
theorem nw_yO {n:Nat} {f:Nat→Bg} {m:Nat} {g:Nat→Bg} {A B:Nat} (hf:PB n f A) (hg:PB m g B):∀ i,i≤n→∀ q,nw (yO f g m i q).2≤A+B+i
  | 0,_,q=>by show nw 0≤_; rw [nw_zero]; omega
  | i + 1,hi,q=>by
    have ih:=nw_yO hf hg i (by omega) q
    show nw (yI f g i m (yO f g m i) q).2≤_
    unfold yI
    by_cases h:i≤q∧q < i+m
    · rw [if_pos h]
      have h1:=nw_bmul (f i) (g (q - i))
      have h2:=hf i (by omega)
      have h3:=hg (q - i) (by omega)
      exact nw_badd (n:=A+B+i) (by omega) (by omega)
    · rw [if_neg h]; omega
theorem gAdd_pos {a b:Bg} {o:Option Out} (ha:nw a.2≤1000000000000) (hb:nw b.2≤1000000000000):gAdd a b o=o:=by unfold gAdd; rw [a6a_eq]; exact gate_pos (ba_specN ha hb)
theorem bgZ_cells:(bgc (false,0)).length=bgZ.length∧∀ (E:Env) (cs:List Value),pre E bgZ cs→pre E (bgc (false,0)) cs:=⟨rfl,fun E cs h=>by
  obtain ⟨u0,t0,e0,r0,h⟩:=pre_cons.1 h
  obtain ⟨u1,t1,e1,r1,h⟩:=pre_cons.1 h
  refine pre_cons.2 ⟨u0,t0,e0,r0,pre_cons.2 ⟨u1,t1,e1,?_,h⟩⟩
  show rel E (sJ (nw 0) (mI 0)) u1
  rw [nw_zero]
  exact nil_like r1⟩
theorem bgZ_row {e:TypeId} {N:Nat} {sl:List (AV × Chain)}:Sub ⟨sl,[.a e 2 N fun _=>bgZ]⟩ ⟨sl,[.a e 2 N fun _=>bgc (false,0)]⟩ :=
  sub_like ⟨Or.inr (Or.inl ⟨e,2,N,_,_,rfl,rfl,fun _ _=>bgZ_cells⟩),trivial⟩
section
variable {n:Nat} {f:Nat→Bg} {m:Nat} {g:Nat→Bg} {B:Nat} (hn:n≤1000) (hm:m≤1000) (hB:B≤100000000000) (hf:PB n f B) (hg:PB m g B)
include hn hm hB hf hg
theorem pmI_leads {i:Nat} (hi:i < n):Leads Tryz.prog (.loop (loopAt Tryz.f143 1)) (pmI n f m g (n+m) (i:Nat) 0 fun q=>bgc (yO f g m i q)) (.exit 2) (pmI n f m g (n+m) (i:Nat) (m:Nat) fun q=>bgc (yO f g m (i+1) q)):=by
  have e0:yI f g i 0 (yO f g m i)=yO f g m i:=funext fun q=>by unfold yI; rw [if_neg (by omega)]
  have key:Leads Tryz.prog (.loop (loopAt Tryz.f143 1)) (pmI n f m g (n+m) (i:Nat) ((0:Nat):Int) fun q=>bgc (yI f g i 0 (yO f g m i) q)) (.exit 2) (pmI n f m g (n+m) (i:Nat) (m:Nat) fun q=>bgc (yI f g i m (yO f g m i) q)):=by
    refine loop_rule (fun j=>pmI n f m g (n+m) (i:Nat) (j:Nat) fun q=>bgc (yI f g i j (yO f g m i) q)) m (.exit 2) _ (by simp) (fun j hj=>?_) ?_
    · have st:=pmI_step n f m g (n+m) (i:Nat) (j:Nat) (yI f g i j (yO f g m i))
      have ew:w64 (((i:Nat):Int)+((j:Nat):Int))=((i+j:Nat):Int):=by rw [w64_id (by omega) (by omega)]; omega
      have eK:pmK (i:Nat) (j:Nat)=i+j:=by unfold pmK; rw [ew,Int.toNat_natCast]
      have b1:=hf i hi
      have b2:=hg j hj
      have b3:=nw_yO hf hg i (by omega) (i+j)
      have b4:=nw_bmul (f i) (g j)
      have ey:yI f g i j (yO f g m i) (0+(i+j))=yO f g m i (i+j):=by unfold yI; rw [if_neg (by omega),Nat.zero_add]
      unfold pmT pmV at st
      rw [eK,ew,Int.toNat_natCast,Int.toNat_natCast,ey,dec_lt hj,gMul_pos (by omega) (by omega),ixB_t hi,ixB_t hj,a6m_eq,gAdd_pos (by omega) (by omega),ixB_t (show i+j < n+m by omega),stU_t (show i+j < n+m by omega),stB_t (show i+j < n+m by omega),w64_next (by omega),a6a_eq] at st
      refine (leads_ev (finN_sub _ _) e_nil bigK_ok noL_ok st).sub (Sub.refl _) ?_
      refine sub_same ⟨Or.inr ⟨174,2,n+m,_,_,rfl,rfl,fun q hq=>?_⟩,trivial⟩
      rw [mixBg,Nat.zero_add]
      refine congrArg bgc ?_
      unfold yI
      by_cases h:q=i+j
      · subst h
        rw [show (i+j==i+j)=true from BEq.rfl,if_pos (by omega),show i+j - i=j by omega]
        rfl
      · rw [beq_false_of_ne h,cond_false]
        by_cases h2:i≤q∧q < i+j
        · rw [if_pos h2,if_pos (by omega)]
        · rw [if_neg h2,if_neg (by omega)]
    · refine leads_ev (finE_sub _ _) e_nil bigK_ok noL_ok ((pmI_end n f m g (n+m) (i:Nat) (m:Nat) (yI f g i m (yO f g m i))).trans ?_)
      unfold pmT
      rw [dec_self,cond_false]
  rw [e0] at key
  exact key
theorem pmO_leads:Leads Tryz.prog (.loop (loopAt Tryz.f143 0)) (pmO n f m g (n+m) 0 fun _=>bgc (false,0)) (.exit 0) (pmO n f m g (n+m) (n:Nat) fun q=>bgc (yO f g m n q)):=by
  refine loop_rule (fun i=>pmO n f m g (n+m) (i:Nat) fun q=>bgc (yO f g m i q)) n (.exit 0) _ (by simp) (fun i hi=>?_) ?_
  · have hL:LOk Tryz.prog (pmL n f m g (n+m) (i:Nat) (yO f g m i) (yO f g m (i+1))) (loopAt Tryz.f143 0):=lok_at (i:=6) 0 1 (by kernel_rfl) (by kernel_rfl) (toldF_sound (pmI_leads hn hm hB hf hg hi))
    have st:=pmO_step n f m g (n+m) (i:Nat) (yO f g m i) (yO f g m (i+1))
    rw [dec_lt hi,gate_pos (Sub.refl _),w64_next (by omega)] at st
    exact leads_ev (finN_sub _ _) e_nil k_nil hL st
  · refine leads_ev (finE_sub _ _) e_nil k_nil (lok_none 6) ((pmO_end n f m g (n+m) (n:Nat) (yO f g m n)).trans ?_)
    rw [dec_self,cond_false]
theorem pm_spec:FSpec Tryz.prog 143 [bpA n f,bpA m g] (bpA (btl (yO f g m n) (n+m)) (yO f g m n)):=by
  have hL:=lok_at (c:=bodyOf Tryz.f143) (i:=3) 0 2 (by kernel_rfl) (by kernel_rfl) (toldF_sound (keep:=keepPMO) (τ:=[some 0]) (pmO_leads hn hm hB hf hg))
  refine gspecZ (oneZ_ok (frzK_ok 0)) e_nil (k_cons kS_ok k_nil) m_nil Tryz.func143 (by kernel_rfl) (by kernel_rfl) hL rfl ((pm_ev n f m g (n+m) (yO f g m n) (btl (yO f g m n) (n+m)) (yO f g m n)).trans ?_)
  have ew:w64 (((n:Nat):Int)+((m:Nat):Int))=((n+m:Nat):Int):=by rw [w64_id (by omega) (by omega)]; omega
  rw [ew,mk32_t (by omega),Int.toNat_natCast,gate_pos (show Sub (pmO n f m g (n+m) 0 fun _=>bgZ) (pmO n f m g (n+m) 0 fun _=>bgc (false,0)) from bgZ_row),fz1_t,gate_pos (pc_spec (yO f g m n) (by omega))]
  rfl
end
def pvU (n:Nat) (f:Nat→Bg) (x:Int):Nat→Bg
  | 0=>(false,0)
  | k+1=>badd (bmul (pvU n f x k) (bOf x)) (bmul (f (n - 1 - k)) (a6V k))
theorem bv_pvU (n:Nat) (f:Nat→Bg) (x:Int):∀ k,k≤n→bv (pvU n f x k)=hor (pfin (bval n f) n) x (n - k) k
  | 0,_=>by show (0:Int)=_; simp only [hor]
  | k+1,hk=>by
    show bv (badd (bmul (pvU n f x k) (bOf x)) (bmul (f (n - 1 - k)) (a6V k)))=_
    rw [bv_add,bv_mul,bv_mul,bv_pvU n f x k (by omega),bv_of,bv_V]
    simp only [hor]
    rw [show n - (k+1)+1=n - k by omega]
    congr 1
    unfold pfin
    rw [show n - (k+1)=n - 1 - k by omega,show n - 1 - (n - 1 - k)=k by omega,bval_lt (by omega)]
theorem nw_pvU {n:Nat} {f:Nat→Bg} {x:Int} {B:Nat} (hf:PB n f B) (hx:I64 x):∀ k,k≤n→nw (pvU n f x k).2≤B+9*k+9
  | 0,_=>by show nw 0≤_; rw [nw_zero]; omega
  | k+1,hk=>by
    have h1:=nw_bmul (pvU n f x k) (bOf x)
    have h2:=nw_pvU hf hx k (by omega)
    have h3:=nw_of hx
    have h4:=nw_bmul (f (n - 1 - k)) (a6V k)
    have h5:=hf (n - 1 - k) (by omega)
    have h6:=nw_V k
    have:=nw_badd (n:=B+9*k+13) (a:=bmul (pvU n f x k) (bOf x)) (b:=bmul (f (n - 1 - k)) (a6V k)) (by omega) (by omega)
    show nw (badd (bmul (pvU n f x k) (bOf x)) (bmul (f (n - 1 - k)) (a6V k))).2≤_
    omega
theorem pv_spec {n:Nat} {f:Nat→Bg} {x:Int} {B:Nat} (hn:n≤1000) (hB:B≤100000000000) (hf:PB n f B) (hx:I64 x):FSpec Tryz.prog 164 [bpA n f,iA x] (iA (hor (pfin (bval n f) n) x 0 n).sign):=by
  have i65:I64 65536:=⟨by decide,by decide⟩
  have lead:Leads Tryz.prog (.loop (loopAt Tryz.f164 0)) (pvS n f x ((n:Int) - 1 - ((0:Nat):Int)) (bgc (pvU n f x 0)) (a6V 0)) (.exit 0) (pvS n f x ((n:Int) - 1 - (n:Nat)) (bgc (pvU n f x n)) (a6V n)):=by
    refine loop_rule (fun k=>pvS n f x ((n:Int) - 1 - (k:Nat)) (bgc (pvU n f x k)) (a6V k)) n (.exit 0) _ (by simp) (fun k hk=>?_) ?_
    · have st:=pv_step n f x ((n:Int) - 1 - (k:Nat)) (pvU n f x k) (a6V k)
      have e1:(n:Int) - 1 - (k:Nat)=((n - 1 - k:Nat):Int):=by omega
      have e2:w64 (((n - 1 - k:Nat):Int) - 1)=(n:Int) - 1 - ((k+1:Nat):Int):=by rw [w64_id (by omega) (by omega)]; omega
      have n1:=nw_pvU hf hx k (by omega)
      have n2:=nw_V k
      have n3:=nw_of hx
      have n4:=hf (n - 1 - k) (by omega)
      have n5:=nw_of i65
      have n6:=nw_bmul (pvU n f x k) (bOf x)
      have n7:=nw_bmul (f (n - 1 - k)) (a6V k)
      unfold pvT a6v at st
      rw [e1,Int.toNat_natCast,decide_eq_true (show ((n - 1 - k:Nat):Int) ≥ 0 by omega),gOf_pos hx,gMul_pos (by omega) (by omega),gMul_pos (by omega) (by omega),a6m_eq,a6m_eq,gAdd_pos (by omega) (by omega),ixB_t (by omega),gOf_pos i65,gMul_pos (by omega) (by omega),e2,a6a_eq,a6m_eq] at st
      rw [e1]
      exact leads_ev (finN_sub _ _) e_nil bigK_ok noL_ok st
    · refine leads_ev (finE_sub _ _) e_nil bigK_ok noL_ok ((pv_end n f x ((n:Int) - 1 - (n:Nat)) (pvU n f x n) (a6V n)).trans ?_)
      unfold pvT
      rw [decide_eq_false (by omega),cond_false]
  have hL:=lok_at (c:=bodyOf Tryz.f164) (i:=4) 0 1 (by kernel_rfl) (by kernel_rfl) (toldF_sound (keep:=keepA6) (τ:=[some 0,some 1]) lead)
  refine gspec e_nil (k_cons kS_ok bigK_ok) Tryz.func164 (by kernel_rfl) (by kernel_rfl) hL rfl ((pv_ev n f x ((n:Int) - 1 - ((0:Nat):Int)) _ (pvU n f x n) (a6V n) (hor (pfin (bval n f) n) x 0 n).sign).trans ?_)
  have hb:=bs_spec (pvU n f x n)
  rw [bv_pvU n f x n (Nat.le_refl _),Nat.sub_self] at hb
  have hs:∀ i,Sub (pvS n f x i bgZ (bOf 1)) (pvS n f x i (bgc (false,0)) (bOf 1)):=fun i=>sub_like ⟨Or.inr (Or.inr ⟨_,_,rfl,rfl,bgZ_cells.2⟩),Or.inl rfl,trivial⟩
  rw [gOf_pos ⟨by decide,by decide⟩,show w64 ((n:Int) - 1)=(n:Int) - 1 - ((0:Nat):Int) by rw [w64_id (by omega) (by omega)]; omega,gate_pos (hs _),gate_pos hb]
end Go.Proofs.YtancjnambbkhmaaGreat

namespace Go.Proofs.YtancjnambbkhmaaGreat
open Go.Gv
open Go.Em (wB wB_pos wB_eq nw nw_lt nw_le nw_zero)

theorem rowsLike_refl:∀ mem:List Row,RowsLike mem mem
  | []=>trivial
  | _::rs=>⟨Or.inl rfl,rowsLike_refl rs⟩
theorem rowsLike_set {row':Row}:∀ {mem:List Row} {k:Nat} {row:Row},mem[k]?=some row→RowLike row row'→RowsLike mem (mem.set k row')
  | [],k,row,h,_=>by simp at h
  | r::rs,0,row,h,hl=>by
    simp at h
    subst h
    exact ⟨hl,rowsLike_refl rs⟩
  | r::rs,k+1,row,h,hl=>⟨Or.inl rfl,rowsLike_set (k:=k) (by simpa using h) hl⟩
/-- New numbers, all nought: their slices are told as slices of nothing. -/
noncomputable def zlike (k:Nat):ZFun:=fun s kont=>match s.mem[k]? with
  | some (.a e sz n el)=>cond (Nat.beq sz 2) (gate (∀ i,i < n→el i=bgZ) (kont ⟨s.slots,s.mem.set k (.a e 2 n fun _=>bgc (false,0))⟩)) none
  | _=>none
theorem zlike_ok (k:Nat):ZSoundN 0 (zlike k):=fun s kont r h=>by
  unfold zlike at h
  split at h
  · rename_i e sz n el hk
    cases hb:Nat.beq sz 2
    · rw [hb] at h; cases h
    · rw [hb,cond_true] at h
      obtain rfl:=Nat.eq_of_beq_eq_true hb
      by_cases hp:∀ i,i < n→el i=bgZ
      · rw [gate_pos hp] at h
        refine ⟨_,h,?_⟩
        exact sub_like (rowsLike_set hk (Or.inr (Or.inl ⟨e,2,n,_,_,rfl,rfl,fun i hi=>by rw [hp i hi]; exact bgZ_cells⟩)))
      · unfold gate at h
        rw [if_neg hp] at h
        cases h
  · cases h
abbrev BP:Type:=Nat × (Nat→Bg)
def bpP (p:BP):AV:=bpA p.1 p.2
abbrev BF':Type:=List AV→BP
noncomputable def divK (by' ad mu:BF'):List KEntry:=[kS Tryz.prog 149 (fun l=>bpP (by' l)),kS Tryz.prog 145 (fun l=>bpP (ad l)),kS Tryz.prog 143 (fun l=>bpP (mu l)),kS Tryz.prog 142 boG,kS Tryz.prog 148 (fun l=>bgA (bneg (decB (a0 l))))]
def pdS (a b:BP) (ld:Bg) (qv:AV):St:=mkS 66 [(0,bpP a),(1,bpP b),(6,.own 0 0),(7,.own 1 0),(8,qv)] [.c (bgc ld),.c (bgc (false,ld.2))]
def keepPD:List Nat:=[0,1,6,7,8]
def fz4 (N:Nat):Bool:=(Nat.beq N N&&(Nat.beq N N&&(Nat.beq N N&&(Nat.beq N N&&true))))&&true
theorem fz4_t (N:Nat):fz4 N=true:=by unfold fz4; rw [Nat.beq_refl]; rfl
section
variable (by' ad mu:BF') (a b:BP) (ld:Bg) (q:BP)
def pdN:Int:=w64 (w64 ((a.1:Int) - (b.1:Int))+1)
def pdX:Int:=w64 (((pdN a b).toNat:Int) - 1)
def tmA (c:Bg):AV:=.sl 2 (pdN a b).toNat fun q=>mixL (q==0+(pdX a b).toNat) (bgc c) (bgc (false,0))
def pdC:Bg:=a.2 (w64 ((a.1:Int) - 1)).toNat
noncomputable def gP (f:Nat) (l:List AV) (p:BP) (o:Option Out):Option Out:=gate (FSpec Tryz.prog f l (bpP p)) o
def pdq1:BP:=by' [bpP q,bgA (false,ld.2)]
def pdq2 (c:Bg):BP:=ad [bpP (pdq1 by' ld q),tmA a b c]
def pdpt (c:Bg):BP:=mu [tmA a b c,bpP b]
def pda1:BP:=by' [bpP a,bgA (false,ld.2)]
def pda2 (c:Bg):BP:=by' [bpP (pdpt mu a b c),bgA (bOf (-1))]
def pda3 (c:Bg):BP:=ad [bpP (pda1 by' a ld),bpP (pda2 by' mu a b c)]
noncomputable def pdB (c:Bg) (y:Option Out):Option Out:=cond (mk32 (pdN a b)||false) (gate (∀ i,i < (pdN a b).toNat→(fun _:Nat=>bgZ) i=bgZ) (cond (ixB (pdX a b) (pdN a b).toNat||false) (cond (stU (pdX a b).toNat (pdN a b).toNat) (cond (fz4 (pdN a b).toNat)
  (gP 149 [bpP q,bgA (false,ld.2)] (pdq1 by' ld q) (gP 145 [bpP (pdq1 by' ld q),tmA a b c] (pdq2 by' ad a b ld q c) (gP 143 [tmA a b c,bpP b] (pdpt mu a b c) (gP 149 [bpP a,bgA (false,ld.2)] (pda1 by' a ld) (gOf (-1) (gP 149 [bpP (pdpt mu a b c),bgA (bOf (-1))] (pda2 by' mu a b c) (gP 145 [bpP (pda1 by' a ld),bpP (pda2 by' mu a b c)] (pda3 by' ad mu a b ld c) y))))))) none) none) none)) none
noncomputable def pdT (y:Bg→Option Out) (z:Option Out):Option Out:=cond (decide ((a.1:Int) ≥ (b.1:Int))) (cond (ixB (w64 ((a.1:Int) - 1)) a.1||false) (cond ld.1 (gate (FSpec Tryz.prog 148 [bgA (pdC a)] (bgA (bneg (decB (bgA (pdC a)))))) (pdB by' ad mu a b ld q (bneg (decB (bgA (pdC a)))) (y (bneg (decB (bgA (pdC a))))))) (pdB by' ad mu a b ld q (pdC a) (y (pdC a)))) none) z
theorem pd_step:evCZ Tryz.prog [] (divK by' ad mu) [] noL (twoZ 9 (zlike 3) 10 (frzK 3)) (loopAt Tryz.f171 0) (pdS a b ld (bpP q)) (finN keepPD [some 0,some 1]) =
    pdT by' ad mu a b ld q (fun c=>some ⟨.normal,pdS (pda3 by' ad mu a b ld c) b ld (bpP (pdq2 by' ad a b ld q c)),.any⟩) none:=by kernel_rfl
theorem pd_end:evCZ Tryz.prog [] (divK by' ad mu) [] noL (twoZ 9 (zlike 3) 10 (frzK 3)) (loopAt Tryz.f171 0) (pdS a b ld (bpP q)) (finE keepPD [some 0,some 1]) =
    pdT by' ad mu a b ld q (fun _=>none) (some ⟨.exit 0,pdS a b ld (bpP q),.any⟩):=by kernel_rfl
theorem pd_ev (a' q' q0:BP):ev Tryz.prog [] [] (oneL 4 (toldF keepPD [some 0,some 1] (pdS a b ld (bpP q0)) (.exit 0) (pdS a' b ld (bpP q')))) Tryz.f171 [bpP a,bpP b] ret =
    cond (ixB (w64 ((b.1:Int) - 1)) b.1||false) (gate (Sub (pdS a b (b.2 (w64 ((b.1:Int) - 1)).toNat) nilA) (pdS a b ld (bpP q0))) (some (Out.of (.tup [bpP q',bpP a'])))) none:=by kernel_rfl
end
end Go.Proofs.YtancjnambbkhmaaGreat

namespace Go.Proofs.YtancjnambbkhmaaGreat
open Go.Gv
open Go.Sturm (Pol hq xp sh)
open Go.Em (wB wB_pos wB_eq nw nw_lt nw_le nw_zero)

def bBy (p:BP) (k:Bg):BP:=(btl (pbyB p.2 k) p.1,pbyB p.2 k)
def bAdd (p q:BP):BP:=(btl (padB p.1 p.2 q.1 q.2) (max p.1 q.1),padB p.1 p.2 q.1 q.2)
def bMul (p q:BP):BP:=(btl (yO p.2 q.2 q.1 p.1) (p.1+q.1),yO p.2 q.2 q.1 p.1)
def bSl (p:BP):BP:=(btl (pslB p.2) (p.1 - 1),pslB p.2)
/-- The numbers of a polynomial. -/
def bV (p:BP):Nat→Int:=bval p.1 p.2
def bPly (p:BP):Ply:=(p.1,bV p)
theorem bV_Cn (p:BP):Cn p.1 (bV p):=bval_Cn p.1 p.2
theorem bV_by (p:BP) (k:Bg):bV (bBy p k)=fun i=>bV p i*bv k:=(bval_cut p.1 _).trans (bval_by p.1 p.2 k)
theorem bV_add (p q:BP):bV (bAdd p q)=fun i=>bV p i+bV q i:=(bval_cut _ _).trans (bval_add p.1 p.2 q.1 q.2)
theorem bV_sl (p:BP):bV (bSl p)=dsl (bV p):=(bval_cut _ _).trans (bval_slope p.1 p.2)
theorem yO_beyond (f g:Nat→Bg) (m:Nat):∀ i q,i+m≤q→yO f g m i q=(false,0)
  | 0,_,_=>rfl
  | i+1,q,h=>by
    show yI f g i m (yO f g m i) q=_
    unfold yI
    rw [if_neg (by omega)]
    exact yO_beyond f g m i q (by omega)
theorem bV_mul (p q:BP):bV (bMul p q)=psm (bV p) (bV q) p.1:=(bval_cut _ _).trans (funext fun i=>by
  have h:=yO_val (n:=p.1) p.2 q.1 q.2 p.1 (Nat.le_refl _) i
  unfold bval
  by_cases g:i < p.1+q.1
  · rw [if_pos g]; exact h
  · rw [if_neg g,← show bv (yO p.2 q.2 q.1 p.1 i)=psm (bV p) (bV q) p.1 i from h,yO_beyond p.2 q.2 q.1 p.1 i (by omega)]
    rfl)
theorem hq_snoc (f:Nat→Int) (x:Rat):∀ d i,hq f x i (d+1)=hq f x i d+xp x d*(f (i+d):Rat)
  | 0,i=>by
    show 0*x+(f i:Rat)=0+1*(f (i+0):Rat)
    rw [Nat.add_zero]
    grind
  | d+1,i=>by
    show hq f x (i+1) (d+1)*x+(f i:Rat)=(hq f x (i+1) d*x+(f i:Rat))+xp x d*x*(f (i+(d+1)):Rat)
    rw [hq_snoc f x d (i+1),show i+1+d=i+(d+1) by omega]
    grind
theorem hq_psm {f g:Nat→Int} {m:Nat} (hg:Cn m g) (x:Rat):∀ n,hq (psm f g n) x 0 (n+m)=hq f x 0 n*hq g x 0 m
  | 0=>by
    have e:psm f g 0=fun _=>0:=funext fun q=>rfl
    rw [e,Go.Sturm.hq_len (n:=0) (m:=0+m) (fun _ _=>rfl) (by omega)]
    show (0:Rat)=0*_
    grind
  | n + 1 => by
    have ih:=hq_psm (f:=f) hg x n
    have e:psm f g (n+1)=fun q=>psm f g n q+sh n g q*f n:=funext fun q=>by
      show psm f g n q+(if n≤q then f n*g (q - n) else 0)=_
      unfold sh
      by_cases h:n≤q
      · rw [if_pos h,if_pos h,Int.mul_comm (f n)]
      · rw [if_neg h,if_neg h,Int.zero_mul]
    have hz:∀ j,n+m≤j→psm f g n j=0:=fun j hj=>by
      have:∀ k,k≤n→psm f g k j=0:=fun k=>by
        induction k with
        | zero=>intro _; rfl
        | succ k ihk =>
          intro hk
          show psm f g k j+(if k≤j then f k*g (j - k) else 0)=0
          rw [ihk (by omega),if_pos (by omega),hg (j - k) (by omega),Int.mul_zero]
          rfl
      exact this n (Nat.le_refl _)
    rw [e,Go.Sturm.hq_add (psm f g n) (fun q=>sh n g q*f n),Go.Sturm.hq_smul,Go.Sturm.hq_len hz (show n+m≤n+1+m by omega),ih]
    have e2:hq (sh n g) x 0 (n+1+m)=xp x n*hq g x 0 m:=by
      rw [show n+1+m=n+(1+m) by omega,Go.Sturm.hq_shift,Go.Sturm.hq_len (fun j hj=>hg j hj) (show m≤1+m by omega)]
    rw [e2,hq_snoc f x n 0,Nat.zero_add]
    grind
theorem fn_len {n m:Nat} {f:Nat→Int} (hc:Cn n f) (h:n≤m) (x:Rat):fnP (m,f) x=fnP (n,f) x:=Go.Sturm.hq_len (fun j hj=>hc j hj) h
theorem fn_by (p:BP) (k:Bg) (x:Rat):fnP (bPly (bBy p k)) x=(bv k:Rat)*fnP (bPly p) x:=by
  have hle:btl (pbyB p.2 k) p.1≤p.1:=tl_le _ p.1
  refine (fn_len (bV_Cn (bBy p k)) (show (bBy p k).1≤p.1 from hle) x).symm.trans ?_
  show hq (bV (bBy p k)) x 0 p.1=_*hq (bV p) x 0 p.1
  rw [bV_by,Go.Sturm.hq_smul]
  grind
theorem fn_add (p q:BP) (x:Rat):fnP (bPly (bAdd p q)) x=fnP (bPly p) x+fnP (bPly q) x:=by
  have hle:(bAdd p q).1≤max p.1 q.1:=tl_le _ (max p.1 q.1)
  refine (fn_len (bV_Cn (bAdd p q)) hle x).symm.trans ?_
  show hq (bV (bAdd p q)) x 0 (max p.1 q.1)=_
  rw [bV_add,Go.Sturm.hq_add (bV p) (bV q)]
  have h1:hq (bV p) x 0 (max p.1 q.1)=fnP (bPly p) x:=fn_len (bV_Cn p) (Nat.le_max_left _ _) x
  have h2:hq (bV q) x 0 (max p.1 q.1)=fnP (bPly q) x:=fn_len (bV_Cn q) (Nat.le_max_right _ _) x
  rw [h1,h2]
theorem fn_mul (p q:BP) (x:Rat):fnP (bPly (bMul p q)) x=fnP (bPly p) x*fnP (bPly q) x:=by
  have hle:(bMul p q).1≤p.1+q.1:=tl_le _ (p.1+q.1)
  refine (fn_len (bV_Cn (bMul p q)) hle x).symm.trans ?_
  show hq (bV (bMul p q)) x 0 (p.1+q.1)=_
  rw [bV_mul]
  exact hq_psm (bV_Cn q) x p.1
theorem fn_sl (p:BP):fnP (bPly (bSl p))=Go.Sturm.D (fnP (bPly p)):=by
  rw [fnP_D]
  refine funext fun x=>?_
  have hle:(bSl p).1≤p.1 - 1:=tl_le _ (p.1 - 1)
  refine (fn_len (bV_Cn (bSl p)) hle x).symm.trans ?_
  show hq (bV (bSl p)) x 0 (p.1 - 1)=hq (dsl (bV p)) x 0 (p.1 - 1)
  rw [bV_sl]
/-- Its last number is not nought. -/
def BT (p:BP):Prop:=p.1=0∨bv (p.2 (p.1 - 1))≠0
theorem btl_top (f:Nat→Bg) (n:Nat):BT (btl f n,f):=by
  by_cases h:btl f n=0
  · exact Or.inl h
  · exact Or.inr (tl_top (fun i=>bv (f i)) n h)
theorem BT.tp {p:BP} (h:BT p):Tp (bPly p):=by
  rcases h with h | h
  · exact Or.inl h
  · by_cases h0:p.1=0
    · exact Or.inl h0
    · right
      show bval p.1 p.2 (p.1 - 1)≠0
      rw [bval_lt (by omega)]
      exact h
def tmP (L:Nat) (c:Bg):BP:=(L,fun q=>cond (q==L - 1) c (false,0))
theorem tm_mul {L:Nat} (hL:0 < L) (c:Bg) (b:BP):bV (bMul (tmP L c) b)=fun q=>sh (L - 1) (bV b) q*bv c:=by
  rw [bV_mul]
  refine funext fun q=>?_
  have key:∀ k,psm (bV (tmP L c)) (bV b) k q=if L≤k then sh (L - 1) (bV b) q*bv c else 0:=fun k=>by
    induction k with
    | zero=>rw [if_neg (by omega)]; rfl
    | succ k ih =>
      show psm (bV (tmP L c)) (bV b) k q+(if k≤q then bV (tmP L c) k*bV b (q - k) else 0)=_
      have z:∀ (p:Prop) [Decidable p],(if p then (0:Int) else 0)=0:=fun p _=>by split<;>rfl
      rw [ih]
      by_cases h1:k+1 < L
      · have hz:bV (tmP L c) k=0:=by
          show bval L (fun q=>cond (q==L - 1) c (false,0)) k=0
          rw [bval_lt (by omega),beq_false_of_ne (show k≠L - 1 by omega)]
          rfl
        rw [hz,Int.zero_mul,z,Int.add_zero,if_neg (show ¬ L≤k by omega),if_neg (show ¬ L≤k+1 by omega)]
      · by_cases h2:L≤k
        · rw [bV_Cn (tmP L c) k h2,Int.zero_mul,z,Int.add_zero,if_pos h2,if_pos (show L≤k+1 by omega)]
        · obtain rfl:k=L - 1:=by omega
          have hc:bV (tmP L c) (L - 1)=bv c:=by
            show bval L (fun q=>cond (q==L - 1) c (false,0)) (L - 1)=_
            rw [bval_lt (by omega),show (L - 1==L - 1)=true from BEq.rfl]
            rfl
          rw [hc,if_neg h2,if_pos (show L≤L - 1+1 by omega),Int.zero_add]
          unfold sh
          by_cases h3:L - 1≤q
          · rw [if_pos h3,if_pos h3,Int.mul_comm]
          · rw [if_neg h3,if_neg h3,Int.zero_mul]
  rw [key]
  exact if_pos (Nat.le_refl L)
end Go.Proofs.YtancjnambbkhmaaGreat

namespace Go.Proofs.YtancjnambbkhmaaGreat
open Go.Gv
open Go.Sturm (Pol hq xp sh)
open Go.Em (wB wB_pos wB_eq nw nw_lt nw_le nw_zero)

def PBP (p:BP) (B:Nat):Prop:=PB p.1 p.2 B
theorem PBP.le {p:BP} {A B:Nat} (h:PBP p A) (hAB:A≤B):PBP p B:=fun i hi=>Nat.le_trans (h i hi) hAB
theorem len_by (p:BP) (k:Bg):(bBy p k).1≤p.1:=tl_le _ p.1
theorem len_add (p q:BP):(bAdd p q).1≤max p.1 q.1:=tl_le _ _
theorem len_mul (p q:BP):(bMul p q).1≤p.1+q.1:=tl_le _ _
theorem len_sl (p:BP):(bSl p).1≤p.1 - 1:=tl_le _ _
theorem pb_by {p:BP} {k:Bg} {A B:Nat} (h:PBP p A) (hk:nw k.2≤B):PBP (bBy p k) (A+B):=fun i hi=>by
  have h1:=len_by p k
  have h2:=h i (by omega)
  exact Nat.le_trans (nw_bmul (p.2 i) k) (by omega)
theorem pb_add {p q:BP} {B:Nat} (h:PBP p B) (g:PBP q B):PBP (bAdd p q) (B+1):=fun i hi=>by
  have h1:=len_add p q
  show nw (padB p.1 p.2 q.1 q.2 i).2≤B+1
  unfold padB
  by_cases g1:i < p.1
  · rw [if_pos g1]
    by_cases g2:i < q.1
    · rw [if_pos g2]; exact nw_badd (h i g1) (g i g2)
    · rw [if_neg g2]; have:=h i g1; omega
  · rw [if_neg g1]
    exact nw_badd (by show nw 0≤B; rw [nw_zero]; omega) (g i (by omega))
theorem pb_mul {p q:BP} {A B:Nat} (h:PBP p A) (g:PBP q B):PBP (bMul p q) (A+B+p.1):=fun i _=>nw_yO h g p.1 (Nat.le_refl _) i
theorem pb_sl {p:BP} {B:Nat} (hn:p.1≤1000) (h:PBP p B):PBP (bSl p) (B+4):=fun i hi=>by
  have h1:=len_sl p
  have h2:=h (i+1) (by omega)
  have h3:=nw_of (x:=((i+1:Nat):Int)) ⟨by omega,by omega⟩
  exact Nat.le_trans (nw_bmul (p.2 (i+1)) (bOf ((i+1:Nat):Int))) (by omega)
theorem pb_tm {L:Nat} {c:Bg} {B:Nat} (h:nw c.2≤B):PBP (tmP L c) B:=fun i _=>by
  show nw (cond (i==L - 1) c (false,0)).2≤B
  cases i==L - 1
  · show nw 0≤B; rw [nw_zero]; omega
  · exact h
def dC (a:BP) (ld:Bg):Bg:=if ld.1 then bneg (a.2 (a.1 - 1)) else a.2 (a.1 - 1)
def dTm (a b:BP) (ld:Bg):BP:=tmP (a.1 - b.1+1) (dC a ld)
def dA (a b:BP) (ld:Bg):BP:=bAdd (bBy a (false,ld.2)) (bBy (bMul (dTm a b ld) b) (bOf (-1)))
def dQ (a b:BP) (ld:Bg) (q:BP):BP:=bAdd (bBy q (false,ld.2)) (dTm a b ld)
def dst (b:BP) (ld:Bg) (s:BP × BP):BP × BP:=(dA s.1 b ld,dQ s.1 b ld s.2)
def dits (b:BP) (ld:Bg) (s:BP × BP):Nat→BP × BP
  | 0=>s
  | k+1=>dst b ld (dits b ld s k)
theorem bv_dC (a b:BP):bv (b.2 (b.1 - 1))*bv (dC a (b.2 (b.1 - 1)))=bv (a.2 (a.1 - 1))*((b.2 (b.1 - 1)).2:Int):=by
  unfold dC
  generalize a.2 (a.1 - 1)=t
  obtain ⟨s,d⟩:=b.2 (b.1 - 1)
  cases s
  · show (d:Int)*bv t=bv t*(d:Int)
    exact Int.mul_comm _ _
  · show -(d:Int)*bv (bneg t)=bv t*(d:Int)
    rw [bv_neg,Int.neg_mul_neg,Int.mul_comm]
section
variable {a b:BP} (hb:1≤b.1) (hab:b.1≤a.1)
include hb hab
omit hb hab in
theorem dA_val (i:Nat):bV (dA a b (b.2 (b.1 - 1))) i=bV a i*((b.2 (b.1 - 1)).2:Int) - sh (a.1 - b.1) (bV b) i*bv (dC a (b.2 (b.1 - 1))):=by
  show bV (bAdd _ _) i=_
  rw [bV_add,bV_by,bV_by]
  unfold dTm
  rw [tm_mul (by omega)]
  show bV a i*((b.2 (b.1 - 1)).2:Int)+sh (a.1 - b.1+1 - 1) (bV b) i*bv (dC a (b.2 (b.1 - 1)))*bv (bOf (-1))=_
  rw [bv_of,Nat.add_sub_cancel]
  omega
theorem dA_len:(dA a b (b.2 (b.1 - 1))).1+1≤a.1:=by
  have hz:∀ i,a.1 - 1≤i→bV (dA a b (b.2 (b.1 - 1))) i=0:=fun i hi=>by
    rw [dA_val]
    unfold sh
    rw [if_pos (by omega)]
    by_cases h:i=a.1 - 1
    · subst h
      rw [show a.1 - 1 - (a.1 - b.1)=b.1 - 1 by omega,show bV a (a.1 - 1)=bv (a.2 (a.1 - 1)) from bval_lt (by omega),show bV b (b.1 - 1)=bv (b.2 (b.1 - 1)) from bval_lt (by omega),bv_dC a b,Int.sub_self]
    · rw [bV_Cn a i (by omega),bV_Cn b (i - (a.1 - b.1)) (by omega),Int.zero_mul,Int.zero_mul]
      rfl
  refine Nat.le_of_not_lt fun hlt=>?_
  have ht:BT (dA a b (b.2 (b.1 - 1))):=btl_top _ _
  rcases ht with h | h
  · omega
  · have:=hz ((dA a b (b.2 (b.1 - 1))).1 - 1) (by omega)
    rw [show bV (dA a b (b.2 (b.1 - 1))) ((dA a b (b.2 (b.1 - 1))).1 - 1)=bv ((dA a b (b.2 (b.1 - 1))).2 ((dA a b (b.2 (b.1 - 1))).1 - 1)) from bval_lt (by omega)] at this
    exact h this
omit hb hab in
theorem dA_fn (ld:Bg) (x:Rat):fnP (bPly (dA a b ld)) x=((ld.2:Int):Rat)*fnP (bPly a) x - fnP (bPly (dTm a b ld)) x*fnP (bPly b) x:=by
  show fnP (bPly (bAdd _ _)) x=_
  rw [fn_add,fn_by,fn_by,fn_mul,bv_of]
  have e:((-1:Int):Rat)=-1:=rfl
  rw [e]
  show ((ld.2:Int):Rat)*_+_=_
  grind
omit hb hab in
theorem dQ_fn (ld:Bg) (q:BP) (x:Rat):fnP (bPly (dQ a b ld q)) x=((ld.2:Int):Rat)*fnP (bPly q) x+fnP (bPly (dTm a b ld)) x:=by
  show fnP (bPly (bAdd _ _)) x=_
  rw [fn_add,fn_by]
  rfl
end
/-- How often. -/
def dcn (b:BP) (ld:Bg):Nat→BP × BP→Nat
  | 0,_=>0
  | k+1,s=>if b.1≤s.1.1 then dcn b ld k (dst b ld s)+1 else 0
theorem dits_succ (b:BP) (ld:Bg):∀ k s,dits b ld (dst b ld s) k=dits b ld s (k+1)
  | 0,_=>rfl
  | k+1,s=>by show dst b ld (dits b ld (dst b ld s) k)=dst b ld (dits b ld s (k+1)); rw [dits_succ b ld k s]
theorem dcn_ok {b:BP} (hb:1≤b.1):∀ (k:Nat) (s:BP × BP),s.1.1≤k→(∀ j,j < dcn b (b.2 (b.1 - 1)) k s→b.1≤(dits b (b.2 (b.1 - 1)) s j).1.1)∧(dits b (b.2 (b.1 - 1)) s (dcn b (b.2 (b.1 - 1)) k s)).1.1 < b.1
  | 0,s,h=>⟨fun j hj=>by have:j < 0:=hj; omega,by show s.1.1 < b.1; omega⟩
  | k + 1,s,h=>by
    unfold dcn
    by_cases hs:b.1≤s.1.1
    · rw [if_pos hs]
      have hl:=dA_len (a:=s.1) hb hs
      obtain ⟨h1,h2⟩:=dcn_ok hb k (dst b (b.2 (b.1 - 1)) s) (by show (dA s.1 b (b.2 (b.1 - 1))).1≤k; omega)
      refine ⟨fun j hj=>?_,?_⟩
      · cases j with
        | zero=>exact hs
        | succ j=>rw [← dits_succ]; exact h1 j (by omega)
      · rw [← dits_succ]; exact h2
    · rw [if_neg hs]
      exact ⟨fun j hj=>by omega,by show s.1.1 < b.1; omega⟩
def q0:BP:=(0,fun _=>(false,0))
def dvN (a b:BP):Nat:=dcn b (b.2 (b.1 - 1)) a.1 (a,q0)
/-- What is left, and what comes out. -/
def dvP (a b:BP):BP × BP:=dits b (b.2 (b.1 - 1)) (a,q0) (dvN a b)
section
variable {a b:BP} {M:Nat} (hb:1≤b.1) (ha5:a.1≤5) (hb5:b.1≤5) (hM:M≤1000000000) (pa:PBP a M) (pb:PBP b M)
include hb ha5 hb5 hM pa pb
theorem dv_inv:∀ k,k≤dvN a b→(dits b (b.2 (b.1 - 1)) (a,q0) k).1.1+k≤a.1∧(dits b (b.2 (b.1 - 1)) (a,q0) k).2.1≤5∧PBP (dits b (b.2 (b.1 - 1)) (a,q0) k).1 (M+k*(M+10))∧PBP (dits b (b.2 (b.1 - 1)) (a,q0) k).2 (M+k*(M+10))
  | 0,_=>⟨by show a.1+0≤a.1; omega,by show 0≤5; omega,pa.le (by omega),fun i hi=>by have:i < 0:=hi; omega⟩
  | k + 1,hk=>by
    obtain ⟨h1,h2,h3,h4⟩:=dv_inv k (by omega)
    have hge:=(dcn_ok hb a.1 (a,q0) (Nat.le_refl _)).1 k (show k < dvN a b by omega)
    have hld:nw (b.2 (b.1 - 1)).2≤M:=pb (b.1 - 1) (by omega)
    generalize hs:dits b (b.2 (b.1 - 1)) (a,q0) k=s at *
    have hl:=dA_len (a:=s.1) hb hge
    have hc:nw (dC s.1 (b.2 (b.1 - 1))).2≤M+k*(M+10):=by
      have:=h3 (s.1.1 - 1) (by omega)
      unfold dC
      split
      · exact this
      · exact this
    have hs1:dits b (b.2 (b.1 - 1)) (a,q0) (k+1)=dst b (b.2 (b.1 - 1)) s:=by show dst _ _ (dits b (b.2 (b.1 - 1)) (a,q0) k)=_; rw [hs]
    have em:(k+1)*(M+10)=k*(M+10)+(M+10):=Nat.succ_mul k (M+10)
    rw [hs1,em]
    have t1:PBP (dTm s.1 b (b.2 (b.1 - 1))) (M+k*(M+10)):=pb_tm hc
    have lt1:(dTm s.1 b (b.2 (b.1 - 1))).1≤5:=by show s.1.1 - b.1+1≤5; omega
    generalize k*(M+10)=K at *
    refine ⟨by show (dA s.1 b (b.2 (b.1 - 1))).1+(k+1)≤a.1; omega,?_,?_,?_⟩
    · have g1:=len_add (bBy s.2 (false,(b.2 (b.1 - 1)).2)) (dTm s.1 b (b.2 (b.1 - 1)))
      have g2:=len_by s.2 (false,(b.2 (b.1 - 1)).2)
      show (bAdd (bBy s.2 (false,(b.2 (b.1 - 1)).2)) (dTm s.1 b (b.2 (b.1 - 1)))).1≤5
      omega
    · have g1:=pb_by (k:=(false,(b.2 (b.1 - 1)).2)) h3 hld
      have g2:=pb_mul t1 pb
      have g3:=pb_by (k:=bOf (-1)) g2 (nw_of (x:=-1) ⟨by decide,by decide⟩)
      exact (pb_add (g1.le (show _≤M+K+M+9 by omega)) (g3.le (by omega))).le (by omega)
    · have g1:=pb_by (k:=(false,(b.2 (b.1 - 1)).2)) h4 hld
      exact (pb_add (g1.le (show _≤M+K+M by omega)) (t1.le (by omega))).le (by omega)
theorem dvN_le:dvN a b≤5:=by
  have:=(dv_inv hb ha5 hb5 hM pa pb (dvN a b) (Nat.le_refl _)).1
  omega
theorem dv_bound:(dvP a b).1.1 < b.1∧(dvP a b).2.1≤5∧PBP (dvP a b).1 (6*M+50)∧PBP (dvP a b).2 (6*M+50):=by
  obtain ⟨h1,h2,h3,h4⟩:=dv_inv hb ha5 hb5 hM pa pb (dvN a b) (Nat.le_refl _)
  have hn:=dvN_le hb ha5 hb5 hM pa pb
  have hm:dvN a b*(M+10)≤5*(M+10):=Nat.mul_le_mul_right _ hn
  exact ⟨(dcn_ok hb a.1 (a,q0) (Nat.le_refl _)).2,h2,h3.le (by omega),h4.le (by omega)⟩
end
theorem dv_BT {a b:BP} (ha:BT a):BT (dvP a b).1:=by
  unfold dvP
  generalize dvN a b=k
  cases k with
  | zero=>exact ha
  | succ k=>exact btl_top _ _
theorem dv_fn {a b:BP} (hb:1≤b.1) (hbt:BT b):∃ c:Rat,0 < c∧∀ x,c*fnP (bPly a) x=fnP (bPly (dvP a b).2) x*fnP (bPly b) x+fnP (bPly (dvP a b).1) x:=by
  unfold dvP
  have hld:(0:Rat) < (((b.2 (b.1 - 1)).2:Int):Rat):=by
    have h:=hbt.resolve_left (by omega)
    have:(b.2 (b.1 - 1)).2≠0:=fun e=>h (bv_zero.2 e)
    exact Rat.intCast_lt_intCast.2 (show (0:Int) < ((b.2 (b.1 - 1)).2:Int) by omega)
  generalize dvN a b=k
  induction k with
  | zero =>
    refine ⟨1,by decide,fun x=>?_⟩
    show 1*fnP (bPly a) x=fnP (bPly q0) x*_+fnP (bPly a) x
    have e:fnP (bPly q0) x=0:=rfl
    rw [e]
    grind
  | succ k ih =>
    obtain ⟨c,hc,ih⟩:=ih
    refine ⟨(((b.2 (b.1 - 1)).2:Int):Rat)*c,Rat.mul_pos hld hc,fun x=>?_⟩
    show _=fnP (bPly (dQ _ b _ _)) x*_+fnP (bPly (dA _ b _)) x
    rw [dQ_fn,dA_fn,Rat.mul_assoc,ih x]
    grind
end Go.Proofs.YtancjnambbkhmaaGreat

namespace Go.Proofs.YtancjnambbkhmaaGreat
open Go.Gv
open Go.Em (wB wB_pos wB_eq nw nw_lt nw_le nw_zero)

def decP:AV→BP
  | .sl _ n el=>(n,fun i=>decC (el i))
  | _=>(0,fun _=>(false,0))
theorem decP_bp (p:BP):decP (bpP p)=p:=by
  show (p.1,fun i=>decC (bgc (p.2 i)))=p
  rw [show (fun i=>decC (bgc (p.2 i)))=p.2 from funext fun i=>decB_b (p.2 i)]
def byF:BF':=fun l=>bBy (decP (a0 l)) (decB (a1 l))
def adF:BF':=fun l=>bAdd (decP (a0 l)) (decP (a1 l))
def muF:BF':=fun l=>bMul (decP (a0 l)) (decP (a1 l))
theorem byF_eq (p:BP) (k:Bg):byF [bpP p,bgA k]=bBy p k:=by show bBy (decP (bpP p)) (decB (bgA k))=_; rw [decP_bp,decB_b]
theorem adF_eq (p q:BP):adF [bpP p,bpP q]=bAdd p q:=by show bAdd (decP (bpP p)) (decP (bpP q))=_; rw [decP_bp,decP_bp]
theorem muF_eq (p q:BP):muF [bpP p,bpP q]=bMul p q:=by show bMul (decP (bpP p)) (decP (bpP q))=_; rw [decP_bp,decP_bp]
theorem byS {p:BP} {k:Bg} {B:Nat} (hn:p.1≤1000) (hB:B≤100000000000) (h:PBP p B) (hk:nw k.2≤B):FSpec Tryz.prog 149 [bpP p,bgA k] (bpP (bBy p k)):=pb_spec hn hB h hk
theorem adS' {p q:BP} {B:Nat} (hn:p.1≤1000) (hm:q.1≤1000) (hB:B≤100000000000) (h:PBP p B) (g:PBP q B):FSpec Tryz.prog 145 [bpP p,bpP q] (bpP (bAdd p q)):=pa_spec hn hm hB h g
theorem muS {p q:BP} {B:Nat} (hn:p.1≤1000) (hm:q.1≤1000) (hB:B≤100000000000) (h:PBP p B) (g:PBP q B):FSpec Tryz.prog 143 [bpP p,bpP q] (bpP (bMul p q)):=pm_spec hn hm hB h g
theorem slS' {p:BP} {B:Nat} (hn:p.1≤1000) (hB:B≤100000000000) (h:PBP p B):FSpec Tryz.prog 170 [bpP p] (bpP (bSl p)):=ps_spec hn hB h
section
variable {a b:BP} {M:Nat} (hb:1≤b.1) (ha5:a.1≤5) (hb5:b.1≤5) (hM:M≤1000000000) (pa:PBP a M) (pb:PBP b M)
include hb ha5 hb5 hM pa pb
theorem dv_leads:Leads Tryz.prog (.loop (loopAt Tryz.f171 0)) (pdS a b (b.2 (b.1 - 1)) (bpP q0)) (.exit 0) (pdS (dvP a b).1 b (b.2 (b.1 - 1)) (bpP (dvP a b).2)):=by
  have hZ:∀ j g,twoZ 9 (zlike 3) 10 (frzK 3) j=some g→ZSoundN 0 g:=twoZ_ok (zlike_ok 3) (frzK_ok 3)
  have ks:∀ e,e ∈ divK byF adF muF→KOk Tryz.prog e:=k_cons kS_ok (k_cons kS_ok (k_cons kS_ok (k_cons kS_ok (k_cons kS_ok k_nil))))
  have hld:nw (b.2 (b.1 - 1)).2≤M:=pb (b.1 - 1) (by omega)
  have i1:I64 (-1):=⟨by decide,by decide⟩
  have n1:=nw_of i1
  refine loop_rule (fun k=>pdS (dits b (b.2 (b.1 - 1)) (a,q0) k).1 b (b.2 (b.1 - 1)) (bpP (dits b (b.2 (b.1 - 1)) (a,q0) k).2)) (dvN a b) (.exit 0) _ (by simp) (fun k hk=>?_) ?_
  · obtain ⟨h1,h2,h3,h4⟩:=dv_inv hb ha5 hb5 hM pa pb k (by omega)
    have hge:=(dcn_ok hb a.1 (a,q0) (Nat.le_refl _)).1 k hk
    have hn5:=dvN_le hb ha5 hb5 hM pa pb
    have hK:k*(M+10)≤5*(M+10):=Nat.mul_le_mul_right _ (by omega)
    show Leads _ _ _ _ (pdS (dst b (b.2 (b.1 - 1)) (dits b (b.2 (b.1 - 1)) (a,q0) k)).1 b (b.2 (b.1 - 1)) (bpP (dst b (b.2 (b.1 - 1)) (dits b (b.2 (b.1 - 1)) (a,q0) k)).2))
    generalize hs:dits b (b.2 (b.1 - 1)) (a,q0) k=s at *
    generalize k*(M+10)=K at *
    have hc:nw (dC s.1 (b.2 (b.1 - 1))).2≤M+K:=by
      have:=h3 (s.1.1 - 1) (by omega)
      unfold dC
      split
      · exact this
      · exact this
    have eN:pdN s.1 b=((s.1.1 - b.1+1:Nat):Int):=by
      unfold pdN
      rw [w64_id (n:=(s.1.1:Int) - (b.1:Int)) (by omega) (by omega),w64_id (by omega) (by omega)]
      omega
    have eX:pdX s.1 b=((s.1.1 - b.1:Nat):Int):=by
      unfold pdX
      rw [eN,Int.toNat_natCast,w64_id (by omega) (by omega)]
      omega
    have eC:pdC s.1=s.1.2 (s.1.1 - 1):=by
      unfold pdC
      rw [show w64 ((s.1.1:Int) - 1)=((s.1.1 - 1:Nat):Int) by rw [w64_id (by omega) (by omega)]; omega,Int.toNat_natCast]
    have eT:∀ c,tmA s.1 b c=bpP (tmP (s.1.1 - b.1+1) c):=fun c=>by
      unfold tmA
      rw [eN,eX,Int.toNat_natCast,Int.toNat_natCast]
      show AV.sl 2 _ _=AV.sl 2 _ _
      congr 1
      refine funext fun q=>?_
      rw [mixBg,Nat.zero_add]
      show bgc _=bgc (cond (q==s.1.1 - b.1+1 - 1) c (false,0))
      rw [Nat.add_sub_cancel]
    have body:∀ (c:Bg) (y:Option Out),c=dC s.1 (b.2 (b.1 - 1))→pdB byF adF muF s.1 b (b.2 (b.1 - 1)) s.2 c y=y:=fun c y hcc=>by
      subst hcc
      have t1:PBP (dTm s.1 b (b.2 (b.1 - 1))) (M+K):=pb_tm hc
      have lt1:(dTm s.1 b (b.2 (b.1 - 1))).1≤5:=by show s.1.1 - b.1+1≤5; omega
      have l1:=len_by s.2 (false,(b.2 (b.1 - 1)).2)
      have l2:=len_by s.1 (false,(b.2 (b.1 - 1)).2)
      have l3:=len_mul (dTm s.1 b (b.2 (b.1 - 1))) b
      have l4:=len_by (bMul (dTm s.1 b (b.2 (b.1 - 1))) b) (bOf (-1))
      have g1:=pb_by (k:=(false,(b.2 (b.1 - 1)).2)) h3 hld
      have g2:=pb_mul t1 pb
      have g3:=pb_by (k:=bOf (-1)) g2 n1
      have g4:=pb_by (k:=(false,(b.2 (b.1 - 1)).2)) h4 hld
      have s1:=byS (p:=s.2) (k:=(false,(b.2 (b.1 - 1)).2)) (B:=10000000000) (by omega) (by omega) (h4.le (by omega)) (by show nw (b.2 (b.1 - 1)).2≤_; omega)
      have s2:=adS' (p:=bBy s.2 (false,(b.2 (b.1 - 1)).2)) (q:=dTm s.1 b (b.2 (b.1 - 1))) (B:=10000000000) (by omega) (by omega) (by omega) (g4.le (by omega)) (t1.le (by omega))
      have s3:=muS (p:=dTm s.1 b (b.2 (b.1 - 1))) (q:=b) (B:=10000000000) (by omega) (by omega) (by omega) (t1.le (by omega)) (pb.le (by omega))
      have s4:=byS (p:=s.1) (k:=(false,(b.2 (b.1 - 1)).2)) (B:=10000000000) (by omega) (by omega) (h3.le (by omega)) (by show nw (b.2 (b.1 - 1)).2≤_; omega)
      have s5:=byS (p:=bMul (dTm s.1 b (b.2 (b.1 - 1))) b) (k:=bOf (-1)) (B:=10000000000) (by omega) (by omega) (g2.le (by omega)) (by omega)
      have s6:=adS' (p:=bBy s.1 (false,(b.2 (b.1 - 1)).2)) (q:=bBy (bMul (dTm s.1 b (b.2 (b.1 - 1))) b) (bOf (-1))) (B:=10000000000) (by omega) (by omega) (by omega) (g1.le (by omega)) (g3.le (by omega))
      have eTm:tmA s.1 b (dC s.1 (b.2 (b.1 - 1)))=bpP (dTm s.1 b (b.2 (b.1 - 1))):=eT _
      unfold pdB pda3 pda2 pda1 pdpt pdq2 pdq1 gP
      rw [eTm,byF_eq,adF_eq,muF_eq,byF_eq,byF_eq,adF_eq,eN,eX,Int.toNat_natCast,Int.toNat_natCast,mk32_t (by omega),gate_pos (fun _ _=>rfl),ixB_t (by omega),stU_t (by omega),fz4_t,gate_pos s1,gate_pos s2,gate_pos s3,gate_pos s4,gOf_pos i1,gate_pos s5,gate_pos s6]
      rfl
    have eA:∀ c,c=dC s.1 (b.2 (b.1 - 1))→pda3 byF adF muF s.1 b (b.2 (b.1 - 1)) c=dA s.1 b (b.2 (b.1 - 1))∧pdq2 byF adF s.1 b (b.2 (b.1 - 1)) s.2 c=dQ s.1 b (b.2 (b.1 - 1)) s.2:=fun c hcc=>by
      subst hcc
      have eTm:tmA s.1 b (dC s.1 (b.2 (b.1 - 1)))=bpP (dTm s.1 b (b.2 (b.1 - 1))):=eT _
      unfold pda3 pda2 pda1 pdpt pdq2 pdq1
      rw [eTm,byF_eq,muF_eq,byF_eq,adF_eq,byF_eq,adF_eq]
      exact ⟨rfl,rfl⟩
    have st:=pd_step byF adF muF s.1 b (b.2 (b.1 - 1)) s.2
    refine leads_evZ hZ e_nil ks m_nil (finN_sub keepPD [some 0,some 1]) noL_ok (st.trans ?_)
    unfold pdT
    rw [decide_eq_true (show (s.1.1:Int) ≥ (b.1:Int) by omega),show w64 ((s.1.1:Int) - 1)=((s.1.1 - 1:Nat):Int) by rw [w64_id (by omega) (by omega)]; omega,ixB_t (show s.1.1 - 1 < s.1.1 by omega),decB_b,eC]
    cases hneg:(b.2 (b.1 - 1)).1
    · have ec:s.1.2 (s.1.1 - 1)=dC s.1 (b.2 (b.1 - 1)):=by unfold dC; rw [hneg]; rfl
      rw [body _ _ ec]
      dsimp only
      rw [(eA _ ec).1,(eA _ ec).2]
      rfl
    · have ec:bneg (s.1.2 (s.1.1 - 1))=dC s.1 (b.2 (b.1 - 1)):=by unfold dC; rw [hneg]; rfl
      rw [body _ _ ec]
      dsimp only
      rw [(eA _ ec).1,(eA _ ec).2,gate_pos (bn_spec _)]
      rfl
  · have h2:=(dcn_ok hb a.1 (a,q0) (Nat.le_refl _)).2
    refine leads_evZ hZ e_nil ks m_nil (finE_sub keepPD [some 0,some 1]) noL_ok ((pd_end byF adF muF _ b (b.2 (b.1 - 1)) _).trans ?_)
    unfold pdT
    rw [decide_eq_false (show ¬ (((dits b (b.2 (b.1 - 1)) (a,q0) (dvN a b)).1.1:Int) ≥ (b.1:Int)) by unfold dvN; omega),cond_false]
    rfl
theorem dv_spec:FSpec Tryz.prog 171 [bpP a,bpP b] (.tup [bpP (dvP a b).2,bpP (dvP a b).1]):=by
  have hL:=lok_at (c:=bodyOf Tryz.f171) (i:=4) 0 1 (by kernel_rfl) (by kernel_rfl) (toldF_sound (keep:=keepPD) (τ:=[some 0,some 1]) (dv_leads hb ha5 hb5 hM pa pb))
  refine gspec e_nil k_nil Tryz.func171 (by kernel_rfl) (by kernel_rfl) hL rfl ((pd_ev a b (b.2 (b.1 - 1)) (dvP a b).1 (dvP a b).2 q0).trans ?_)
  have hs:Sub (pdS a b (b.2 (b.1 - 1)) nilA) (pdS a b (b.2 (b.1 - 1)) (bpP q0)):=by
    exact sub_mk1 (l:=[(0,bpP a),(1,bpP b),(6,.own 0 0),(7,.own 1 0)]) fun E v h=>nil_like h
  rw [show w64 ((b.1:Int) - 1)=((b.1 - 1:Nat):Int) by rw [w64_id (by omega) (by omega)]; omega,ixB_t (show b.1 - 1 < b.1 by omega),Int.toNat_natCast,gate_pos hs]
  rfl
end
end Go.Proofs.YtancjnambbkhmaaGreat

namespace Go.Proofs.YtancjnambbkhmaaGreat
open Go.Gv

abbrev DF:Type:=List AV→BP × BP
def dvA (s:BP × BP):AV:=.tup [bpP s.2,bpP s.1]
noncomputable def gD (a b:BP) (s:BP × BP) (o:Option Out):Option Out:=gate (FSpec Tryz.prog 171 [bpP a,bpP b] (dvA s)) o
def onS (p a b:BP):St:=mkS 34 [(0,bpP p),(3,bpP a),(4,bpP b)] []
def keepOn:List Nat:=[0,3,4]
section
variable (df:DF) (p a b:BP)
noncomputable def onK:List KEntry:=[kS Tryz.prog 171 (fun l=>dvA (df l))]
theorem on_step:evC Tryz.prog [] (onK df) noL (loopAt Tryz.f161 0) (onS p a b) (finN keepOn [])=cond (decide ((b.1:Int) > 0)) (gD a b (df [bpP a,bpP b]) (some ⟨.normal,onS p b (df [bpP a,bpP b]).1,.any⟩)) none:=by kernel_rfl
theorem on_end:evC Tryz.prog [] (onK df) noL (loopAt Tryz.f161 0) (onS p a b) (finE keepOn [])=cond (decide ((b.1:Int) > 0)) (gD a b (df [bpP a,bpP b]) none) (some ⟨.exit 0,onS p a b,.any⟩):=by kernel_rfl
theorem on_ev (s b':BP):ev Tryz.prog [] (kS Tryz.prog 170 (fun _=>bpP s)::onK df) (oneL 3 (toldF keepOn [] (onS p p s) (.exit 0) (onS p a b'))) Tryz.f161 [bpP p] ret =
    gP 170 [bpP p] s (gate (Sub (onS p p s) (onS p p s)) (cond (decide ((a.1:Int) < 2)) (some (Out.of (bpP p))) (gD p a (df [bpP p,bpP a]) (some (Out.of (bpP (df [bpP p,bpP a]).2)))))):=by kernel_rfl
end
def bcA (c:Nat) (C:Nat→BP):AV:=.sl 1 c fun i=>[bpP (C i)]
def stS (c:Nat) (Y:Nat→List AV):St:=mkS 46 [(3,.osl 0 1 0 c)] [.a 172 1 c Y]
def stR (c:Nat) (C:Nat→BP):St:=mkS 46 [(2,.osl 0 1 0 c)] [.a 172 1 c fun i=>[bpP (C i)]]
section
variable (df:DF) (by':BF') (c:Nat) (C:Nat→BP)
def st1:Nat:=(w64 ((c:Int) - 1)).toNat
def st2:Nat:=(w64 ((c:Int) - 2)).toNat
def stA:BP:=C (0+st2 c)
def stB':BP:=C (0+st1 c)
noncomputable def stuK:List KEntry:=[kS Tryz.prog 171 (fun l=>dvA (df l)),kS Tryz.prog 149 (fun l=>bpP (by' l)),kS Tryz.prog 142 boG]
def stV:BP:=(df [bpP (stA c C),bpP (stB' c C)]).1
def stN:BP:=by' [bpP (stV df c C),bgA (bOf (-1))]
noncomputable def stT (r y z:Option Out):Option Out:=cond (ixB (w64 ((c:Int) - 1)) c||false) (cond (stU (st1 c) c) (cond (decide (((stB' c C).1:Int) > 1)) (gD (stA c C) (stB' c C) (df [bpP (stA c C),bpP (stB' c C)]) (cond ((ixB (w64 ((c:Int) - 2)) c||false)&&(stU (st2 c) c&&((ixB (w64 ((c:Int) - 1)) c||false)&&(stU (st1 c) c&&true)))) (cond (((stV df c C).1:Int)==0) r (gOf (-1) (gP 149 [bpP (stV df c C),bgA (bOf (-1))] (stN df by' c C) (cond (apB c 24||false) y none)))) none)) z) none) none
theorem st_step:evC Tryz.prog [] (stuK df by') noL (loopAt Tryz.f162 0) (stS c fun i=>[bpP (C i)]) (finN [3] [some 2])=stT df by' c C none (some ⟨.normal,stS (c+1) (fun q=>mixL (Nat.blt q c) [bpP (C q)] [bpP (stN df by' c C)]),.any⟩) none:=by kernel_rfl
theorem st_ret:evC Tryz.prog [] (stuK df by') noL (loopAt Tryz.f162 0) (stS c fun i=>[bpP (C i)]) (finR [2] [some 0])=stT df by' c C (some ⟨.ret,stR c C,.any⟩) none none:=by kernel_rfl
theorem st_end:evC Tryz.prog [] (stuK df by') noL (loopAt Tryz.f162 0) (stS c fun i=>[bpP (C i)]) (finE [3] [some 0])=stT df by' c C none none (some ⟨.exit 0,stS c fun i=>[bpP (C i)],.any⟩):=by kernel_rfl
variable (p s:BP)
theorem st_evE:ev Tryz.prog [] [kS Tryz.prog 170 (fun _=>bpP s)] (oneL 2 (toldF [3] [some 0] (stS 2 fun i=>[bpP (C i)]) (.exit 0) (stS c fun i=>[bpP (C i)]))) Tryz.f162 [bpP p] ret =
    gP 170 [bpP p] s (gate (Sub (stS 2 (chunk [bpP p,bpP s] 1)) (stS 2 fun i=>[bpP (C i)])) (some (Out.of (.sl 1 c fun i=>[bpP (C (0+i))])))):=by kernel_rfl
theorem st_evR:ev Tryz.prog [] [kS Tryz.prog 170 (fun _=>bpP s)] (oneL 2 (toldF [3] [some 0] (stS 2 fun i=>[bpP (C i)]) .ret (stR c C))) Tryz.f162 [bpP p] ret =
    gP 170 [bpP p] s (gate (Sub (stS 2 (chunk [bpP p,bpP s] 1)) (stS 2 fun i=>[bpP (C i)])) (some (Out.of (.sl 1 c fun i=>[bpP (C (0+i))])))):=by kernel_rfl
end
def tnS' (c:Nat) (C:Nat→BP) (x n l i:Int):St:=mkS 34 [(0,bcA c C),(1,iA x),(5,iA n),(6,iA l),(7,iA i)] []
def keepTn':List Nat:=[0,1,5,6,7]
section
variable (af:List AV→Int) (c:Nat) (C:Nat→BP) (x n l i:Int)
def tnV':Int:=af [bpP (C i.toNat),iA x]
noncomputable def tnT' (y:Int→Int→Option Out) (z:Option Out):Option Out:=cond (decide (i < (c:Int))) (cond (ixB i c||false) (gate (FSpec Tryz.prog 164 [bpP (C i.toNat),iA x] (iA (tnV' af C x i))) (cond (!(tnV' af C x i==0)) (cond (cond (!(l==0)) (!(tnV' af C x i==l)) false) (y (w64 (n+1)) (tnV' af C x i)) (y n (tnV' af C x i))) (y n l))) none) z
theorem tn'_step:evC Tryz.prog [] [kS Tryz.prog 164 (fun l=>iA (af l))] noL (loopAt Tryz.f163 0) (tnS' c C x n l i) (finN keepTn' [])=tnT' af c C x n l i (fun n' l'=>some ⟨.normal,tnS' c C x n' l' (w64 (i+1)),.any⟩) none:=by kernel_rfl
theorem tn'_end:evC Tryz.prog [] [kS Tryz.prog 164 (fun l=>iA (af l))] noL (loopAt Tryz.f163 0) (tnS' c C x n l i) (finE keepTn' [])=tnT' af c C x n l i (fun _ _=>none) (some ⟨.exit 0,tnS' c C x n l i,.any⟩):=by kernel_rfl
theorem tn'_ev (l' i':Int):ev Tryz.prog [] [] (oneL 4 (toldF keepTn' [] (tnS' c C x 0 0 0) (.exit 0) (tnS' c C x n l' i'))) Tryz.f163 [bcA c C,iA x] ret=gate (Sub (tnS' c C x 0 0 0) (tnS' c C x 0 0 0)) (some (Out.of (iA n))):=by kernel_rfl
end
end Go.Proofs.YtancjnambbkhmaaGreat

namespace Go.Proofs.YtancjnambbkhmaaGreat
open Go.Gv

/-- Where no new row was made. -/
noncomputable def finS (n:Nat) (keep:List Nat) (τ:List (Option Nat)):Kont:=fun e s=>cond (Nat.beq s.mem.length n) (finN keep τ e s) none
theorem finS_sub (n:Nat) (keep:List Nat) (τ:List (Option Nat)):KSub (finS n keep τ):=fun e s r h=>by
  unfold finS at h
  cases hb:Nat.beq s.mem.length n
  · rw [hb] at h; cases h
  · rw [hb] at h; exact finN_sub keep τ e s r h
def qpI (p:BP) (lo hi:Int) (c:Nat) (C:Nat→BP) (bg al:Int) (m:Nat) (Y:Nat→List AV) (i a b:Int):St:=mkS 90 [(0,bpP p),(1,iA lo),(2,iA hi),(7,bcA c C),(8,iA bg),(9,iA al),(10,.osl 0 1 0 m),(11,iA i),(12,iA a),(13,iA b)] [.a 3 1 m Y]
def keepQI:List Nat:=[0,1,2,7,8,9,10,11,12,13]
def qpO (p:BP) (lo hi:Int) (c:Nat) (C:Nat→BP) (bg al:Int) (m:Nat) (Y:Nat→List AV) (i:Int):St:=mkS 90 [(0,bpP p),(1,iA lo),(2,iA hi),(7,bcA c C),(8,iA bg),(9,iA al),(10,.osl 0 1 0 m),(11,iA i)] [.a 3 1 m Y]
def keepQO:List Nat:=[0,1,2,7,8,9,10,11]
section
variable (tf:List AV→Int) (af:List AV→Int) (p:BP) (lo hi:Int) (c:Nat) (C:Nat→BP) (bg al:Int) (m:Nat) (Y:Nat→List AV) (i a b:Int)
def qpM:Int:=w64 (a+w64 ((w64 (b - a)).tdiv 2))
noncomputable def gTn (x:Int) (o:Option Out):Option Out:=gate (FSpec Tryz.prog 163 [bcA c C,iA x] (iA (tf [bcA c C,iA x]))) o
noncomputable def qiT (y1 y2 z:Option Out):Option Out:=cond (decide (w64 (b - a) > 1)) (gTn tf c C (qpM a b) (cond (decide (w64 (bg - tf [bcA c C,iA (qpM a b)]) ≥ i)) y1 y2)) z
theorem qi_step:evC Tryz.prog [] [kS Tryz.prog 163 (fun l=>iA (tf l))] noL (loopAt Tryz.f150 1) (qpI p lo hi c C bg al m Y i a b) (finN keepQI [some 0])=qiT tf c C bg i a b (some ⟨.normal,qpI p lo hi c C bg al m Y i a (qpM a b),.any⟩) (some ⟨.normal,qpI p lo hi c C bg al m Y i (qpM a b) b,.any⟩) none:=by kernel_rfl
theorem qi_end:evC Tryz.prog [] [kS Tryz.prog 163 (fun l=>iA (tf l))] noL (loopAt Tryz.f150 1) (qpI p lo hi c C bg al m Y i a b) (finE keepQI [some 0])=qiT tf c C bg i a b none none (some ⟨.exit 2,qpI p lo hi c C bg al m Y i a b,.any⟩):=by kernel_rfl
noncomputable def qoL (a' b':Int):Nat→Option LFun:=oneL 14 (toldF keepQI [some 0] (qpI p lo hi c C bg al m Y i (w64 (lo - 1)) hi) (.exit 2) (qpI p lo hi c C bg al m Y i a' b'))
noncomputable def qoK:List KEntry:=[kS Tryz.prog 163 (fun l=>iA (tf l)),kS Tryz.prog 164 (fun l=>iA (af l))]
def qoB (b':Int):Bool:=cond (af [bpP p,iA b']==0) (w64 (bg - tf [bcA c C,iA b'])==i) false
noncomputable def qoT (b':Int) (y:Int→Option Out) (z:Option Out):Option Out:=cond (decide (i≤al)) (gate (Sub (qpI p lo hi c C bg al m Y i (w64 (lo - 1)) hi) (qpI p lo hi c C bg al m Y i (w64 (lo - 1)) hi)) (gate (FSpec Tryz.prog 164 [bpP p,iA b'] (iA (af [bpP p,iA b']))) (gTn tf c C b' (cond (qoB tf af p c C bg i b') (y b') (y (w64 (b' - 1))))))) z
noncomputable def qoA (at':Int) (y n:Option Out):Option Out:=cond (decide (at' ≥ lo)) (cond (apB m 8||false) y none) n
theorem qo_stepA (a' b':Int):evC Tryz.prog [] (qoK tf af) (qoL p lo hi c C bg al m Y i a' b') (loopAt Tryz.f150 0) (qpO p lo hi c C bg al m Y i) (finN keepQO [some 2])=qoT tf af p lo hi c C bg al m Y i b' (fun at'=>qoA lo m at' (some ⟨.normal,qpO p lo hi c C bg al (m+1) (fun q=>mixL (Nat.blt q m) (Y q) [iA at']) (w64 (i+1)),.any⟩) none) none:=by kernel_rfl
theorem qo_stepS (a' b':Int):evC Tryz.prog [] (qoK tf af) (qoL p lo hi c C bg al m Y i a' b') (loopAt Tryz.f150 0) (qpO p lo hi c C bg al m Y i) (finS 1 keepQO [some 0])=qoT tf af p lo hi c C bg al m Y i b' (fun at'=>qoA lo m at' none (some ⟨.normal,qpO p lo hi c C bg al m Y (w64 (i+1)),.any⟩)) none:=by kernel_rfl
theorem qo_end:evC Tryz.prog [] (qoK tf af) (oneL 14 fun _ _=>none) (loopAt Tryz.f150 0) (qpO p lo hi c C bg al m Y i) (finE keepQO [some 0])=cond (decide (i≤al)) none (some ⟨.exit 0,qpO p lo hi c C bg al m Y i,.any⟩):=by kernel_rfl
end
section
variable (tf:List AV→Int) (p0 p1 p:BP) (lo hi:Int) (c:Nat) (C:Nat→BP) (m:Nat) (h:Nat→Int) (i':Int)
noncomputable def qpK:List KEntry:=[kS Tryz.prog 144 (fun _=>bpP p1),kS Tryz.prog 161 (fun _=>bpP p),kS Tryz.prog 162 (fun _=>bcA c C),kS Tryz.prog 163 (fun l=>iA (tf l))]
def qpG:Int:=tf [bcA c C,iA (w64 (lo - 1))]
def qpL:Int:=w64 (qpG tf lo c C - tf [bcA c C,iA hi])
noncomputable def qpH (x:Option Out):Option Out:=gP 144 [bpP p0] p1 (cond (cond (decide ((p1.1:Int) < 2)) true (decide (lo > hi))) (some (Out.of nilA)) (gP 161 [bpP p1] p (gate (FSpec Tryz.prog 162 [bpP p] (bcA c C)) (gTn tf c C (w64 (lo - 1)) (gTn tf c C hi x)))))
theorem qp_ev:ev Tryz.prog [] (qpK tf p1 p c C) (oneL 10 (toldN keepQO [(10,0,1)] (.a 3 1 0 fun q=>[iA (h q)]) [none] (qpO p lo hi c C (qpG tf lo c C) (qpL tf lo hi c C) 0 (fun q=>[iA (h q)]) 1) (.exit 0) (qpO p lo hi c C (qpG tf lo c C) (qpL tf lo hi c C) m (fun q=>[iA (h q)]) i'))) Tryz.f150 [bpP p0,iA lo,iA hi] ret =
    qpH tf p0 p1 p lo hi c C (gate (Sub (qpO p lo hi c C (qpG tf lo c C) (qpL tf lo hi c C) 0 (fun q=>[iA (h q)]) 1) (qpO p lo hi c C (qpG tf lo c C) (qpL tf lo hi c C) 0 (fun q=>[iA (h q)]) 1)) (some (Out.of (.sl 1 m fun j=>[iA (h (0+j))])))):=by kernel_rfl
theorem qp_ev0:ev Tryz.prog [] [kS Tryz.prog 144 (fun _=>bpP p1),⟨161,fun _ _=>none⟩] (oneL 10 fun _ _=>none) Tryz.f150 [bpP p0,iA lo,iA hi] ret =
    gP 144 [bpP p0] p1 (cond (cond (decide ((p1.1:Int) < 2)) true (decide (lo > hi))) (some (Out.of nilA)) none):=by kernel_rfl
end
end Go.Proofs.YtancjnambbkhmaaGreat

namespace Go.Proofs.YtancjnambbkhmaaGreat
open Go.Gv
open Go.Sturm (Pol Chain0 Chain Dk)
open Go.Em (nw)

/-- Rests of rests. -/
def em (p:BP):Nat→BP × BP
  | 0=>(p,bSl p)
  | k+1=>((em p k).2,(dvP (em p k).1 (em p k).2).1)
def ec (p:BP) (k:Nat):BP:=(em p k).1
theorem ec_two (p:BP) (k:Nat):ec p (k+2)=(dvP (ec p k) (ec p (k+1))).1:=rfl
def oBd (B k:Nat):Nat:=6 ^ k*(B+100) - 10
theorem oBd_succ (B k:Nat):6*oBd B k+50=oBd B (k+1):=by
  unfold oBd
  rw [Nat.pow_succ]
  have:1≤6 ^ k:=Nat.pow_pos (by decide)
  have h2:100≤6 ^ k*(B+100):=Nat.le_trans (by omega) (Nat.mul_le_mul this (Nat.le_refl (B+100)))
  rw [Nat.mul_comm (6 ^ k) 6,Nat.mul_assoc]
  omega
theorem oBd_le {B k:Nat} (hB:B≤10000) (hk:k≤5):oBd B k≤80000000:=by
  unfold oBd
  have h1:6 ^ k≤6 ^ 5:=Nat.pow_le_pow_right (by decide) hk
  have h2:6 ^ k*(B+100)≤6 ^ 5*10100:=Nat.mul_le_mul h1 (by omega)
  have e:(6:Nat) ^ 5*10100=78537600:=by decide
  omega
theorem oBd_mono (B k:Nat):oBd B k≤oBd B (k+1):=by have:=oBd_succ B k; omega
section
variable {p:BP} {B:Nat} (h5:p.1≤5) (hB:B≤10000) (hp:PBP p B) (ht:BT p)
include h5 hB hp ht
/-- Sizes and lengths of the chain, as long as it goes on. -/
theorem ec_ok:∀ k,(∀ j,j < k→0 < (ec p (j+1)).1)→k≤5→(ec p k).1≤5∧(ec p (k+1)).1+(k+1)≤5∧PBP (ec p k) (oBd B k)∧PBP (ec p (k+1)) (oBd B (k+1))∧BT (ec p k)∧BT (ec p (k+1))∨(ec p (k+1)).1=0∧(ec p k).1≤5∧PBP (ec p k) (oBd B k)∧BT (ec p k)
  | 0,_,_=>by
    have l:=len_sl p
    have g:=pb_sl (p:=p) (by omega) hp
    have b0:B≤oBd B 0:=by unfold oBd; omega
    have b1:B+4≤oBd B 1:=by unfold oBd; omega
    by_cases h0:p.1=0
    · exact Or.inr ⟨by show (bSl p).1=0; omega,h5,hp.le b0,ht⟩
    · exact Or.inl ⟨h5,by show (bSl p).1+1≤5; omega,hp.le b0,g.le b1,ht,btl_top _ _⟩
  | k + 1,hk,hk5=>by
    have hpos:=hk k (by omega)
    rcases ec_ok k (fun j hj=>hk j (by omega)) (by omega) with ⟨l1,l2,b1,b2,t1,t2⟩ | ⟨h,_⟩
    · have hM:oBd B (k+1)≤1000000000:=by have:=oBd_le (k:=k+1) hB hk5; omega
      obtain ⟨d1,_,d3,_⟩:=dv_bound (a:=ec p k) (b:=ec p (k+1)) (M:=oBd B (k+1)) hpos l1 (by omega) hM (b1.le (oBd_mono B k)) b2
      refine Or.inl ⟨by omega,by rw [ec_two]; omega,b2,?_,t2,dv_BT t1⟩
      rw [ec_two,← oBd_succ]
      exact d3
    · omega
/-- The chain ends. -/
theorem ec_end:∃ K,K≤4∧(∀ j,j < K→0 < (ec p (j+1)).1)∧(ec p (K+1)).1=0:=by
  rcases all_or_first (fun j=>decide (0 < (ec p (j+1)).1)) 5 with hl | ⟨K,hK,hz,hq⟩
  · exfalso
    have hl':∀ j,j < 5→0 < (ec p (j+1)).1:=fun j hj=>by simpa using hl j hj
    rcases ec_ok h5 hB hp ht 4 (fun j hj=>hl' j (by omega)) (by omega) with ⟨_,l2,_⟩ | ⟨h,_⟩
    · have:=hl' 4 (by omega); omega
    · have:=hl' 4 (by omega); omega
  · exact ⟨K,by omega,fun j hj=>(by simpa using hq j hj),(by have h:¬ 0 < (ec p (K+1)).1:=of_decide_eq_false hz; omega)⟩
theorem ec_all {K:Nat} (hK:K≤4) (hpos:∀ j,j < K→0 < (ec p (j+1)).1) (k:Nat) (hk:k≤K):(ec p k).1≤5∧PBP (ec p k) (oBd B k)∧BT (ec p k):=by
  rcases ec_ok h5 hB hp ht k (fun j hj=>hpos j (by omega)) (by omega) with ⟨l1,_,b1,_,t1,_⟩ | ⟨_,l1,b1,t1⟩
  · exact ⟨l1,b1,t1⟩
  · exact ⟨l1,b1,t1⟩
end
def dvF:DF:=fun l=>dvP (decP (a0 l)) (decP (a1 l))
theorem dvF_eq (a b:BP):dvF [bpP a,bpP b]=dvP a b:=by show dvP (decP (bpP a)) (decP (bpP b))=_; rw [decP_bp,decP_bp]
theorem gD_pos {a b:BP} {M:Nat} {o:Option Out} (hb:1≤b.1) (ha5:a.1≤5) (hb5:b.1≤5) (hM:M≤1000000000) (pa:PBP a M) (pb:PBP b M):gD a b (dvF [bpP a,bpP b]) o=o:=by
  unfold gD
  rw [dvF_eq]
  exact gate_pos (dv_spec hb ha5 hb5 hM pa pb)
/-- What once gives, where the chain ends at K. -/
def onP (p:BP) (K:Nat):BP:=if (ec p K).1 < 2 then p else (dvP p (ec p K)).2
theorem on_spec {p:BP} {B K:Nat} (h5:p.1≤5) (h1:1≤p.1) (hB:B≤10000) (hp:PBP p B) (ht:BT p) (hK:K≤4) (hpos:∀ j,j < K→0 < (ec p (j+1)).1) (hend:(ec p (K+1)).1=0):FSpec Tryz.prog 161 [bpP p] (bpP (onP p K)):=by
  have ks:∀ e,e ∈ onK dvF→KOk Tryz.prog e:=k_cons kS_ok k_nil
  have all:=fun k hk=>ec_all h5 hB hp ht hK hpos k hk
  have lead:Leads Tryz.prog (.loop (loopAt Tryz.f161 0)) (onS p (ec p 0) (ec p (0+1))) (.exit 0) (onS p (ec p K) (ec p (K+1))):=by
    refine loop_rule (fun k=>onS p (ec p k) (ec p (k+1))) K (.exit 0) _ (by simp) (fun k hk=>?_) ?_
    · have st:=on_step dvF p (ec p k) (ec p (k+1))
      obtain ⟨l1,b1,_⟩:=all k (by omega)
      obtain ⟨l2,b2,_⟩:=all (k+1) (by omega)
      have hb:=oBd_le (k:=k+1) hB (by omega)
      rw [decide_eq_true (show ((ec p (k+1)).1:Int) > 0 by have:=hpos k hk; omega),gD_pos (M:=oBd B (k+1)) (hpos k hk) l1 l2 (by omega) (b1.le (oBd_mono B k)) b2,dvF_eq] at st
      exact leads_ev (finN_sub _ _) e_nil ks noL_ok st
    · refine leads_ev (finE_sub _ _) e_nil ks noL_ok ((on_end dvF p (ec p K) (ec p (K+1))).trans ?_)
      rw [hend]
      rfl
  have hL:=lok_at (c:=bodyOf Tryz.f161) (i:=3) 0 1 (by kernel_rfl) (by kernel_rfl) (toldF_sound (keep:=keepOn) (τ:=[]) lead)
  refine gspec e_nil (k_cons kS_ok ks) Tryz.func161 (by kernel_rfl) (by kernel_rfl) hL rfl ((on_ev dvF p (ec p K) (bSl p) (ec p (K+1))).trans ?_)
  obtain ⟨l1,b1,_⟩:=all K (Nat.le_refl _)
  unfold gP
  rw [gate_pos (slS' (by omega) (by omega) hp),gate_pos (Sub.refl _)]
  unfold onP
  by_cases h2:(ec p K).1 < 2
  · rw [decide_eq_true (show ((ec p K).1:Int) < 2 by omega),if_pos h2]
    rfl
  · have hb:=oBd_le (k:=K) hB (by omega)
    have b0:B≤oBd B K:=by
      unfold oBd
      have:1≤6 ^ K:=Nat.pow_pos (by decide)
      have:=Nat.mul_le_mul this (Nat.le_refl (B+100))
      omega
    rw [decide_eq_false (show ¬ ((ec p K).1:Int) < 2 by omega),if_neg h2,gD_pos (M:=oBd B K) (by omega) h5 l1 (by omega) (hp.le b0) b1,dvF_eq]
    rfl
/-- The chain, as functions. -/
theorem ec_chain {p:BP} {B K:Nat} (h2:2≤p.1) (h5:p.1≤5) (hB:B≤10000) (hp:PBP p B) (ht:BT p) (hK:K≤4) (hpos:∀ j,j < K→0 < (ec p (j+1)).1) (hend:(ec p (K+1)).1=0):Chain0 (fun i=>fnP (bPly (ec p i))) K:=by
  have all:=fun k hk=>ec_all h5 hB hp ht hK hpos k hk
  have hlen1:(ec p 1).1=p.1 - 1:=by
    have e:=btl_tl (p.1 - 1) (pslB p.2)
    show btl (pslB p.2) (p.1 - 1)=p.1 - 1
    have hle:btl (pslB p.2) (p.1 - 1)≤p.1 - 1:=tl_le _ _
    refine Nat.le_antisymm hle (Nat.le_of_not_lt fun hlt=>?_)
    have hz:=tl_zero (fun i=>bv (pslB p.2 i)) (p.1 - 1) (p.1 - 2) (show tl _ _≤p.1 - 2 by unfold btl at hlt; omega) (by omega)
    have hz:bv (pslB p.2 (p.1 - 2))=0:=hz
    unfold pslB at hz
    rw [bv_mul,bv_of,show p.1 - 2+1=p.1 - 1 by omega] at hz
    exact (Int.mul_ne_zero (ht.resolve_left (by omega)) (by omega)) hz
  have hK1:1≤K:=Nat.pos_of_ne_zero fun e=>by rw [e] at hend; rw [hlen1] at hend; omega
  have hp0:∀ k,k≤K→0 < (ec p k).1:=fun k hk=>by
    cases k with
    | zero=>show 0 < p.1; omega
    | succ k=>exact hpos k (by omega)
  have step:∀ i,i+1≤K→∃ c:Rat,0 < c∧∀ x,c*fnP (bPly (ec p i)) x=fnP (bPly (dvP (ec p i) (ec p (i+1))).2) x*fnP (bPly (ec p (i+1))) x+fnP (bPly (ec p (i+2))) x:=fun i hi=>dv_fn (hp0 (i+1) hi) (all (i+1) hi).2.2
  refine ⟨fun i _=>fnP_pol _,fun i hi=>fnP_nz (hp0 i hi) (all i hi).2.2.tp,hK1,⟨1,by decide,fun x=>?_⟩,fun i hi=>?_,?_⟩
  · show fnP (bPly (bSl p)) x=1*Go.Sturm.D (fnP (bPly p)) x
    rw [fn_sl]
    grind
  · obtain ⟨c,hc,e⟩:=step i (by omega)
    exact ⟨c,-1,_,hc,by decide,fnP_pol (bPly (dvP (ec p i) (ec p (i+1))).2),fun x=>by rw [e x]; grind⟩
  · obtain ⟨c,hc,e⟩:=step (K - 1) (by omega)
    refine ⟨c,_,hc,fnP_pol (bPly (dvP (ec p (K - 1)) (ec p (K - 1+1))).2),fun x=>?_⟩
    have h:=e x
    rw [show K - 1+2=K+1 by omega] at h
    have z:fnP (bPly (ec p (K+1))) x=0:=by
      show Go.Sturm.hq _ x 0 (ec p (K+1)).1=0
      rw [hend]
      rfl
    rw [z] at h
    rw [h,show K - 1+1=K by omega]
    grind
end Go.Proofs.YtancjnambbkhmaaGreat

namespace Go.Proofs.YtancjnambbkhmaaGreat
open Go.Gv
open Go.Sturm (Pol Chain0 Chain Dk)
open Go.Em (nw)

def sm (p:BP):Nat→BP × BP
  | 0=>(p,bSl p)
  | k+1=>((sm p k).2,bBy (dvP (sm p k).1 (sm p k).2).1 (bOf (-1)))
def sc (p:BP) (k:Nat):BP:=(sm p k).1
theorem sc_two (p:BP) (k:Nat):sc p (k+2)=bBy (dvP (sc p k) (sc p (k+1))).1 (bOf (-1)):=rfl
def sBd (B k:Nat):Nat:=6 ^ k*(B+100) - 15
theorem sBd_succ (B k:Nat):6*sBd B k+54≤sBd B (k+1):=by
  unfold sBd
  rw [Nat.pow_succ]
  have:1≤6 ^ k:=Nat.pow_pos (by decide)
  have h2:100≤6 ^ k*(B+100):=Nat.le_trans (by omega) (Nat.mul_le_mul this (Nat.le_refl (B+100)))
  rw [Nat.mul_comm (6 ^ k) 6,Nat.mul_assoc]
  omega
theorem sBd_mono (B k:Nat):sBd B k≤sBd B (k+1):=by have:=sBd_succ B k; omega
theorem sBd_le {B k:Nat} (hB:B≤700000) (hk:k≤4):sBd B k≤1000000000:=by
  unfold sBd
  have h1:6 ^ k≤6 ^ 4:=Nat.pow_le_pow_right (by decide) hk
  have h2:6 ^ k*(B+100)≤6 ^ 4*700100:=Nat.mul_le_mul h1 (by omega)
  have e:(6:Nat) ^ 4*700100=907329600:=by decide
  omega
theorem by_zero {p:BP} (ht:BT p):(bBy p (bOf (-1))).1=p.1:=by
  have hle:=len_by p (bOf (-1))
  refine Nat.le_antisymm hle (Nat.le_of_not_lt fun hlt=>?_)
  have hz:bv (pbyB p.2 (bOf (-1)) (p.1 - 1))=0:=tl_zero (fun i=>bv (pbyB p.2 (bOf (-1)) i)) p.1 (p.1 - 1) (show tl _ _≤p.1 - 1 by show btl (pbyB p.2 (bOf (-1))) p.1≤p.1 - 1; have:btl (pbyB p.2 (bOf (-1))) p.1 < p.1:=hlt; omega) (by omega)
  unfold pbyB at hz
  rw [bv_mul,bv_of] at hz
  exact (ht.resolve_left (by omega)) (by omega)
section
variable {p:BP} {B:Nat} (h2:2≤p.1) (h5:p.1≤5) (hB:B≤700000) (hp:PBP p B) (ht:BT p)
include h2 h5 hB hp ht
omit hB hp in
theorem sc_len1:(sc p 1).1=p.1 - 1:=by
  show btl (pslB p.2) (p.1 - 1)=p.1 - 1
  have hle:btl (pslB p.2) (p.1 - 1)≤p.1 - 1:=tl_le _ _
  refine Nat.le_antisymm hle (Nat.le_of_not_lt fun hlt=>?_)
  have hz:bv (pslB p.2 (p.1 - 2))=0:=tl_zero (fun i=>bv (pslB p.2 i)) (p.1 - 1) (p.1 - 2) (show tl _ _≤p.1 - 2 by unfold btl at hlt; omega) (by omega)
  unfold pslB at hz
  rw [bv_mul,bv_of,show p.1 - 2+1=p.1 - 1 by omega] at hz
  exact (Int.mul_ne_zero (ht.resolve_left (by omega)) (by omega)) hz
/-- As long as the chain goes on. -/
theorem sc_ok:∀ k,(∀ j,j≤k→0 < (sc p (j+1)).1)→k≤3→(sc p k).1≤5∧(sc p (k+1)).1+(k+1)≤5∧PBP (sc p k) (sBd B k)∧PBP (sc p (k+1)) (sBd B (k+1))∧BT (sc p k)∧BT (sc p (k+1))
  | 0,_,_=>by
    have l:=len_sl p
    have g:=pb_sl (p:=p) (by omega) hp
    have b0:B≤sBd B 0:=by unfold sBd; omega
    have b1:B+4≤sBd B 1:=by unfold sBd; omega
    exact ⟨h5,by show (bSl p).1+1≤5; omega,hp.le b0,g.le b1,ht,btl_top _ _⟩
  | k+1,hk,hk3=>by
    obtain ⟨l1,l2,b1,b2,t1,t2⟩:=sc_ok k (fun j hj=>hk j (by omega)) (by omega)
    have hpos:=hk k (by omega)
    have hM:=sBd_le (k:=k+1) hB (by omega)
    obtain ⟨d1,_,d3,_⟩:=dv_bound (a:=sc p k) (b:=sc p (k+1)) (M:=sBd B (k+1)) hpos l1 (by omega) hM (b1.le (sBd_mono B k)) b2
    have l3:=len_by (dvP (sc p k) (sc p (k+1))).1 (bOf (-1))
    refine ⟨by omega,by rw [sc_two]; omega,b2,?_,t2,btl_top _ _⟩
    rw [sc_two]
    exact (pb_by (k:=bOf (-1)) d3 (nw_of (x:=-1) ⟨by decide,by decide⟩)).le (by have:=sBd_succ B (k+1); omega)
/-- Where the chain ends: r is its last. -/
theorem sc_end:∃ r,1≤r∧r≤4∧(∀ j,j < r→0 < (sc p (j+1)).1)∧(∀ j,1≤j→j < r→1 < (sc p j).1∧(dvP (sc p (j - 1)) (sc p j)).1.1≠0)∧((sc p r).1≤1∨(dvP (sc p (r - 1)) (sc p r)).1.1=0):=by
  have hl1:=sc_len1 h2 h5 ht
  rcases all_or_first (fun j=>decide (1 < (sc p (j+1)).1∧(dvP (sc p j) (sc p (j+1))).1.1≠0)) 4 with hl | ⟨K,hK,hz,hq⟩
  · exfalso
    have hl':∀ j,j < 4→1 < (sc p (j+1)).1∧(dvP (sc p j) (sc p (j+1))).1.1≠0:=fun j hj=>of_decide_eq_true (hl j hj)
    have:=(sc_ok h2 h5 hB hp ht 3 (fun j hj=>by have:=(hl' j (by omega)).1; omega) (by omega)).2.1
    have:=(hl' 3 (by omega)).1
    omega
  · have hq':∀ j,j < K→1 < (sc p (j+1)).1∧(dvP (sc p j) (sc p (j+1))).1.1≠0:=fun j hj=>of_decide_eq_true (hq j hj)
    have hpos:∀ j,j < K+1→0 < (sc p (j+1)).1:=fun j hj=>by
      by_cases e:j < K
      · have:=(hq' j e).1; omega
      · obtain rfl:j=K:=by omega
        cases j with
        | zero=>rw [hl1]; omega
        | succ j =>
          have hne:=(hq' j (by omega)).2
          have hok:=sc_ok h2 h5 hB hp ht j (fun i hi=>by have:=(hq' i (by omega)).1; omega) (by omega)
          rw [sc_two,by_zero (dv_BT hok.2.2.2.2.1)]
          omega
    refine ⟨K+1,by omega,by omega,hpos,fun j h1 hj=>?_,?_⟩
    · obtain ⟨i,rfl⟩:∃ i,j=i+1:=⟨j - 1,by omega⟩
      exact hq' i (by omega)
    · have hz':=of_decide_eq_false hz
      rw [Nat.add_sub_cancel]
      by_cases e:1 < (sc p (K+1)).1
      · exact Or.inr (Decidable.byContradiction fun h=>hz' ⟨e,h⟩)
      · exact Or.inl (by omega)
end
theorem app_p {C:Nat→BP} {c q:Nat} {v:BP} (hq:q < c+1) (hv:C c=v):mixL (Nat.blt q c) [bpP (C q)] [bpP v]=[bpP (C q)]:=by
  have key:∀ (b:Bool) (x y:BP),(b=false→x=y)→mixL b [bpP x] [bpP y]=[bpP x]:=fun b x y h=>by
    cases b with
    | true =>
      unfold bpP bpA
      have e:(fun i=>mixL true (bgc (x.2 i)) (bgc (y.2 i)))=fun i=>bgc (x.2 i):=funext fun i=>mixBg true _ _
      simp only [mixL,mixA,cond_true,Nat.beq_refl,e]
    | false =>
      rw [h rfl]
      unfold bpP bpA
      have e:(fun i=>mixL false (bgc (y.2 i)) (bgc (y.2 i)))=fun i=>bgc (y.2 i):=funext fun i=>mixBg false _ _
      simp only [mixL,mixA,cond_false,cond_true,Nat.beq_refl,e]
  refine key _ _ _ fun h=>?_
  have:=not_blt h
  obtain rfl:q=c:=by omega
  exact hv
theorem su'_spec {p:BP} {B r:Nat} (h2:2≤p.1) (h5:p.1≤5) (hB:B≤700000) (hp:PBP p B) (ht:BT p) (hr1:1≤r) (hr4:r≤4) (hpos:∀ j,j < r→0 < (sc p (j+1)).1) (hgo:∀ j,1≤j→j < r→1 < (sc p j).1∧(dvP (sc p (j - 1)) (sc p j)).1.1≠0) (hend:(sc p r).1≤1∨(dvP (sc p (r - 1)) (sc p r)).1.1=0):FSpec Tryz.prog 162 [bpP p] (bcA (r+1) (sc p)):=by
  have ks:∀ e,e ∈ stuK dvF byF→KOk Tryz.prog e:=k_cons kS_ok (k_cons kS_ok (k_cons kS_ok k_nil))
  have ok:∀ j,1≤j→j≤r→(sc p (j - 1)).1≤5∧(sc p j).1+j≤5∧PBP (sc p (j - 1)) (sBd B (j - 1))∧PBP (sc p j) (sBd B j)∧BT (sc p (j - 1))∧BT (sc p j):=fun j h1 hj=>by
    have:=sc_ok h2 h5 hB hp ht (j - 1) (fun i hi=>hpos i (by omega)) (by omega)
    rwa [show j - 1+1=j by omega] at this
  have e1:∀ j,1≤j→j≤r→st1 (j+1)=j∧st2 (j+1)=j - 1∧w64 (((j+1:Nat):Int) - 1)=((j:Nat):Int)∧w64 (((j+1:Nat):Int) - 2)=((j - 1:Nat):Int):=fun j h1 hj=>by
    have a1:w64 (((j+1:Nat):Int) - 1)=((j:Nat):Int):=by rw [w64_id (by omega) (by omega)]; omega
    have a2:w64 (((j+1:Nat):Int) - 2)=((j - 1:Nat):Int):=by rw [w64_id (by omega) (by omega)]; omega
    refine ⟨?_,?_,a1,a2⟩
    · unfold st1; rw [a1,Int.toNat_natCast]
    · unfold st2; rw [a2,Int.toNat_natCast]
  have div:∀ j (o:Option Out),1≤j→j≤r→gD (stA (j+1) (sc p)) (stB' (j+1) (sc p)) (dvF [bpP (stA (j+1) (sc p)),bpP (stB' (j+1) (sc p))]) o=o∧stV dvF (j+1) (sc p)=(dvP (sc p (j - 1)) (sc p j)).1:=fun j o h1 hj=>by
    obtain ⟨l1,l2,b1,b2,_,_⟩:=ok j h1 hj
    obtain ⟨a1,a2,_,_⟩:=e1 j h1 hj
    have eA:stA (j+1) (sc p)=sc p (j - 1):=by unfold stA; rw [a2,Nat.zero_add]
    have eB:stB' (j+1) (sc p)=sc p j:=by unfold stB'; rw [a1,Nat.zero_add]
    have hps:1≤(sc p j).1:=by have:=hpos (j - 1) (by omega); rwa [show j - 1+1=j by omega] at this
    have bm:=sBd_mono B (j - 1)
    rw [show j - 1+1=j by omega] at bm
    unfold stV
    rw [eA,eB,dvF_eq]
    refine ⟨?_,rfl⟩
    have:=gD_pos (o:=o) (M:=sBd B j) hps l1 (by omega) (sBd_le hB (by omega)) (b1.le bm) b2
    rwa [dvF_eq] at this
  have step:∀ j,1≤j→j < r→Leads Tryz.prog (loopAt Tryz.f162 0) (stS (j+1) fun i=>[bpP (sc p i)]) .normal (stS (j+1+1) fun i=>[bpP (sc p i)]):=fun j h1 hj=>by
    obtain ⟨a1,a2,a3,a4⟩:=e1 j h1 (by omega)
    obtain ⟨g1,g2⟩:=hgo j h1 hj
    have st:=st_step dvF byF (j+1) (sc p)
    have hV:=(div j none h1 (by omega)).2
    obtain ⟨l1,l2,b1,b2,t1,t2⟩:=ok j h1 (by omega)
    have hb3:=dv_bound (a:=sc p (j - 1)) (b:=sc p j) (M:=sBd B j) (by omega) l1 (by omega) (sBd_le hB (by omega)) (b1.le (by have:=sBd_mono B (j - 1); rwa [show j - 1+1=j by omega] at this)) b2
    have hN:stN dvF byF (j+1) (sc p)=sc p (j+1):=by
      unfold stN
      rw [hV,byF_eq]
      obtain ⟨i,rfl⟩:∃ i,j=i+1:=⟨j - 1,by omega⟩
      rfl
    have hby:FSpec Tryz.prog 149 [bpP (dvP (sc p (j - 1)) (sc p j)).1,bgA (bOf (-1))] (bpP (sc p (j+1))):=by
      have:=byS (p:=(dvP (sc p (j - 1)) (sc p j)).1) (k:=bOf (-1)) (B:=6*sBd B j+50) (by omega) (by have:=sBd_le (k:=j) hB (by omega); omega) hb3.2.2.1 (by have:=nw_of (x:=-1) ⟨by decide,by decide⟩; omega)
      obtain ⟨i,rfl⟩:∃ i,j=i+1:=⟨j - 1,by omega⟩
      exact this
    have eB:stB' (j+1) (sc p)=sc p j:=by unfold stB'; rw [a1,Nat.zero_add]
    unfold stT gP at st
    rw [(div j _ h1 (by omega)).1,hN,hV,a1,a2,a3,a4,ixB_t (show j < j+1 by omega),stU_t (show j < j+1 by omega),eB,decide_eq_true (show ((sc p j).1:Int) > 1 by omega),ixB_t (show j - 1 < j+1 by omega),stU_t (show j - 1 < j+1 by omega),beq_false_of_ne (show (((dvP (sc p (j - 1)) (sc p j)).1.1:Nat):Int)≠0 by omega),gOf_pos ⟨by decide,by decide⟩,gate_pos hby,apB_t (by omega)] at st
    refine (leads_ev (finN_sub _ _) e_nil ks noL_ok st).sub (Sub.refl _) ?_
    exact sub_same ⟨Or.inr ⟨172,1,j+1+1,_,_,rfl,rfl,fun q hq=>(app_p hq rfl).symm ▸ rfl⟩,trivial⟩
  have hs:Sub (stS 2 (chunk [bpP p,bpP (bSl p)] 1)) (stS 2 fun i=>[bpP (sc p i)]):=sub_same ⟨Or.inr ⟨172,1,2,_,_,rfl,rfl,fun q hq=>by
    match q,hq with
    | 0,_=>rfl
    | 1,_=>rfl⟩,trivial⟩
  have hsl:=slS' (p:=p) (B:=B) (by omega) (by omega) hp
  have eF:(fun i=>[bpP (sc p (0+i))])=fun i=>[bpP (sc p i)]:=funext fun i=>by rw [Nat.zero_add]
  obtain ⟨a1,a2,a3,a4⟩:=e1 r hr1 (Nat.le_refl _)
  have eB:stB' (r+1) (sc p)=sc p r:=by unfold stB'; rw [a1,Nat.zero_add]
  by_cases hE:(sc p r).1≤1
  · have lead:Leads Tryz.prog (.loop (loopAt Tryz.f162 0)) (stS (1+1+0) fun i=>[bpP (sc p i)]) (.exit 0) (stS (1+1+(r - 1)) fun i=>[bpP (sc p i)]):=by
      refine loop_rule (fun k=>stS (1+1+k) fun i=>[bpP (sc p i)]) (r - 1) (.exit 0) _ (by simp) (fun k hk=>?_) ?_
      · have:=step (k+1) (by omega) (by omega)
        rwa [show k+1+1=1+1+k by omega,show 1+1+k+1=1+1+(k+1) by omega] at this
      · rw [show 1+1+(r - 1)=r+1 by omega]
        refine leads_ev (finE_sub _ _) e_nil ks noL_ok ((st_end dvF byF (r+1) (sc p)).trans ?_)
        unfold stT
        rw [a1,a3,ixB_t (show r < r+1 by omega),stU_t (show r < r+1 by omega),eB,decide_eq_false (show ¬ ((sc p r).1:Int) > 1 by omega)]
        rfl
    rw [show 1+1+(r - 1)=r+1 by omega] at lead
    have hL:=lok_at (c:=bodyOf Tryz.f162) (i:=2) 0 1 (by kernel_rfl) (by kernel_rfl) (toldF_sound (keep:=[3]) (τ:=[some 0]) lead)
    refine gspec e_nil (k_cons kS_ok k_nil) Tryz.func162 (by kernel_rfl) (by kernel_rfl) hL rfl ((st_evE (r+1) (sc p) p (bSl p)).trans ?_)
    unfold gP
    rw [gate_pos hsl,gate_pos hs,eF]
    rfl
  · have hR:=hend.resolve_left hE
    have lead:Leads Tryz.prog (.loop (loopAt Tryz.f162 0)) (stS (1+1+0) fun i=>[bpP (sc p i)]) .ret (stR (r+1) (sc p)):=by
      refine loop_rule (fun k=>stS (1+1+k) fun i=>[bpP (sc p i)]) (r - 1) .ret _ (by simp) (fun k hk=>?_) ?_
      · have:=step (k+1) (by omega) (by omega)
        rwa [show k+1+1=1+1+k by omega,show 1+1+k+1=1+1+(k+1) by omega] at this
      · rw [show 1+1+(r - 1)=r+1 by omega]
        refine leads_ev (finR_sub _ _) e_nil ks noL_ok ((st_ret dvF byF (r+1) (sc p)).trans ?_)
        have hV:=(div r none hr1 (Nat.le_refl _)).2
        unfold stT
        rw [(div r _ hr1 (Nat.le_refl _)).1,hV,a1,a2,a3,a4,ixB_t (show r < r+1 by omega),stU_t (show r < r+1 by omega),eB,decide_eq_true (show ((sc p r).1:Int) > 1 by omega),ixB_t (show r - 1 < r+1 by omega),stU_t (show r - 1 < r+1 by omega),hR]
        rfl
    have hL:=lok_at (c:=bodyOf Tryz.f162) (i:=2) 0 1 (by kernel_rfl) (by kernel_rfl) (toldF_sound (keep:=[3]) (τ:=[some 0]) lead)
    refine gspec e_nil (k_cons kS_ok k_nil) Tryz.func162 (by kernel_rfl) (by kernel_rfl) hL rfl ((st_evR (r+1) (sc p) p (bSl p)).trans ?_)
    unfold gP
    rw [gate_pos hsl,gate_pos hs,eF]
    rfl
end Go.Proofs.YtancjnambbkhmaaGreat

namespace Go.Sturm

def tcn (z:Nat→Int):Nat→Int × Int
  | 0=>(0,0)
  | i+1=>if z i≠0 then (if (tcn z i).2≠0∧z i≠(tcn z i).2 then (tcn z i).1+1 else (tcn z i).1,z i) else tcn z i
section
variable {p:Nat→Fn} {r:Nat} {N:Nest}
theorem Chain.opp (C:Chain p r) {m:Nat→Nat} {s:Nat→Int} (h:∀ i,i≤r→N.Loc (p i) (m i) (s i)) (i:Nat) (hi:i+2≤r) (hm:m r < m (i+1)):m i=m r∧m (i+2)=m r∧s (i+2)=-s i:=by
  obtain ⟨a1,a2,a3,a4⟩:=C.toChain0.orders h
  have g1:m i=m r:=(a2 i (by omega)).resolve_right (by omega)
  have g2:m (i+2)=m r:=(a2 (i+1) (by omega)).resolve_left (by omega)
  refine ⟨g1,g2,?_⟩
  obtain ⟨a,b,Q,ha,hb,hQ,e⟩:=C.sgn i hi
  have pi:=C.pol i (by omega)
  have pj:=C.pol (i+1) (by omega)
  have pk:=C.pol (i+2) hi
  have hz:N.Zr (Dk (m r) (fun x=>Q x*p (i+1) x)):=Nest.Om.mul_r hQ pj ((h (i+1) (by omega)).ge pj (show m r+1≤m (i+1) by omega)) (m r) (by omega)
  rw [show (fun x=>Q x*p (i+1) x)=fun x=>a*p i x+b*p (i+2) x from funext fun x=>(e x).symm,Dk_add (pi.smul a) (pk.smul b),Dk_smul a pi,Dk_smul b pk] at hz
  have l1:=h i (by omega)
  have l2:=h (i+2) hi
  rw [g1] at l1
  rw [g2] at l2
  rcases l1 with ⟨e1,o1⟩ | ⟨e1,o1⟩<;>rcases l2 with ⟨e2,o2⟩ | ⟨e2,o2⟩
  · exact absurd ((o1.2.smul ha).add (o2.2.smul hb)) hz.not_Ps
  · rw [e1,e2]
  · rw [e1,e2]; decide
  · have q1:=o1.2
    have q2:=o2.2
    rw [Dk_neg pi] at q1
    rw [Dk_neg pk] at q2
    have:=(q1.smul ha).add (q2.smul hb)
    rw [show (fun x=>a*-Dk (m r) (p i) x+b*-Dk (m r) (p (i+2)) x)=fun x=>-(a*Dk (m r) (p i) x+b*Dk (m r) (p (i+2)) x) from funext fun x=>by grind] at this
    exact absurd this hz.neg.not_Ps
theorem Chain.turns (C:Chain p r) {x:Rat} (hx:∀ n,N.In n x) {m:Nat→Nat} {s:Nat→Int} (h:∀ i,i≤r→N.Loc (p i) (m i) (s i)) (hr:m r=0):(tcn (fun i=>sg (p i x)) (r+1)).1=cB p r x:=by
  obtain ⟨a1,a2,a3,a4⟩:=C.toChain0.orders h
  have one:∀ i,i≤r→s i=1∨s i=-1:=fun i hi=>(h i hi).one
  have hB:cB p r x=cnt s 0 r:=cnt_congr fun i _ hi=>(Nest.loc_on (C.pol i (by omega)) (h i (by omega)) hx).2.2
  have z0:∀ i,i≤r→m i=0→sg (p i x)=s i:=fun i hi hm=>by
    obtain ⟨hF,_,hb⟩:=Nest.loc_on (C.pol i hi) (h i hi) hx
    rw [hm] at hF
    rw [SB_of hF] at hb
    exact hb
  have z1:∀ i,i≤r→m i≠0→sg (p i x)=0:=fun i hi hm=>by
    obtain ⟨hF,_,_⟩:=Nest.loc_on (C.pol i hi) (h i hi) hx
    have:p i x=0:=hF.1 0 (by omega)
    rw [this]
    exact sg_zero
  have nz:∀ i,i≤r→s i≠0:=fun i hi=>by rcases one i hi with e | e<;>rw [e]<;>decide
  have csn:∀ d,cnt s 0 (d+1)=cnt s 0 d+ind (s d) (s (d+1)):=fun d=>by have:=cnt_snoc s d 0; rwa [Nat.zero_add] at this
  have key:∀ n j,j≤n→j≤r→m j=0→tcn (fun i=>sg (p i x)) (j+1)=(cnt s 0 j,s j):=by
    intro n
    induction n with
    | zero =>
      intro j hj hjr hm
      obtain rfl:j=0:=by omega
      show (if sg (p 0 x)≠0 then (if (0:Int)≠0∧sg (p 0 x)≠0 then (0:Int)+1 else 0,sg (p 0 x)) else (0,0))=(0,s 0)
      rw [z0 0 hjr hm,if_pos (nz 0 hjr),if_neg (fun h=>h.1 rfl)]
    | succ n ih =>
      intro j hj hjr hm
      cases j with
      | zero=>exact ih 0 (by omega) hjr hm
      | succ j =>
        have st:∀ t:Int × Int,tcn (fun i=>sg (p i x)) (j+1)=t→tcn (fun i=>sg (p i x)) (j+1+1)=(if t.2≠0∧s (j+1)≠t.2 then t.1+1 else t.1,s (j+1)):=fun t ht=>by
          have e0:sg (p (j+1) x)=s (j+1):=z0 (j+1) hjr hm
          show (if sg (p (j+1) x)≠0 then (if (tcn (fun i=>sg (p i x)) (j+1)).2≠0∧sg (p (j+1) x)≠(tcn (fun i=>sg (p i x)) (j+1)).2 then (tcn (fun i=>sg (p i x)) (j+1)).1+1 else (tcn (fun i=>sg (p i x)) (j+1)).1,sg (p (j+1) x)) else tcn (fun i=>sg (p i x)) (j+1))=_
          rw [ht,e0,if_pos (nz _ hjr)]
        by_cases hmj:m j=0
        · rw [st _ (ih j (by omega) (by omega) hmj),csn]
          refine Prod.ext ?_ rfl
          show (if s j≠0∧s (j+1)≠s j then cnt s 0 j+1 else cnt s 0 j)=cnt s 0 j+ind (s j) (s (j+1))
          unfold ind
          rcases one j (by omega) with e1 | e1<;>rcases one (j+1) hjr with e2 | e2<;>rw [e1,e2]<;>simp
        · cases j with
          | zero =>
            obtain ⟨_,_,b3⟩:=a3 (by omega)
            have t0:tcn (fun i=>sg (p i x)) (0+1)=(0,0):=by
              show (if sg (p 0 x)≠0 then _ else (0,0))=_
              rw [z1 0 (by omega) hmj,if_neg (fun h=>h rfl)]
            rw [st _ t0,csn]
            refine Prod.ext ?_ rfl
            show (if (0:Int)≠0∧s (0+1)≠0 then (0:Int)+1 else 0)=0+ind (s 0) (s (0+1))
            rw [if_neg (fun h=>h.1 rfl)]
            unfold ind
            have b3':s (0+1)=s 0:=b3
            rw [b3',if_neg]
            · rfl
            · rcases one 0 (by omega) with e | e<;>rw [e]<;>decide
          | succ i =>
            obtain ⟨g1,g2,g3⟩:=C.opp h i (by omega) (by omega)
            have t1:tcn (fun i=>sg (p i x)) (i+1+1)=(cnt s 0 i,s i):=by
              show (if sg (p (i+1) x)≠0 then _ else tcn (fun i=>sg (p i x)) (i+1))=_
              rw [z1 (i+1) (by omega) hmj,if_neg (fun h=>h rfl)]
              exact ih i (by omega) (by omega) (by omega)
            rw [st _ t1,csn,csn]
            refine Prod.ext ?_ rfl
            show (if s i≠0∧s (i+1+1)≠s i then cnt s 0 i+1 else cnt s 0 i)=cnt s 0 i+ind (s i) (s (i+1))+ind (s (i+1)) (s (i+1+1))
            have i1:=ind_two (c:=s (i+1+1)) (one i (by omega)) (one (i+1) (by omega)) g3
            rw [if_pos ⟨nz i (by omega),by rw [show s (i+1+1)=-s i from g3]; rcases one i (by omega) with e | e<;>rw [e]<;>decide⟩]
            omega
  rw [key r r (Nat.le_refl _) (Nat.le_refl _) hr,hB]
end
theorem two_chains {p p':Nat→Fn} {r r':Nat} (C:Chain p r) (C':Chain p' r') (h:∀ N:Nest,N.Zr (p 0) ↔ N.Zr (p' 0)) {a b:Rat} (hab:a≤b):cB p r a - cB p' r' a=cB p r b - cB p' r' b:=by
  by_cases hne:a=b
  · rw [hne]
  refine Decidable.byContradiction fun hn=>?_
  obtain ⟨N,hB,_⟩:=bisect (Bad:=fun u v=>cB p r u - cB p' r' u≠cB p r v - cB p' r' v) (show a < b by grind) hn fun u v _ _ _ h=>by
    by_cases h1:cB p r u - cB p' r' u=cB p r ((u+v) / 2) - cB p' r' ((u+v) / 2)
    · exact Or.inr (by rw [← h1]; exact h)
    · exact Or.inl h1
  obtain ⟨L,R,k,hk,hLR⟩:=C.near N
  obtain ⟨L',R',k',hk',hLR'⟩:=C'.near N
  have hd:L - L'=R - R':=by
    have:=h N
    rcases hLR with ⟨e,z⟩ | ⟨e,z⟩<;>rcases hLR' with ⟨e',z'⟩ | ⟨e',z'⟩
    · omega
    · exact absurd (this.2 z') z
    · exact absurd (this.1 z) z'
    · omega
  have val:∀ x,N.In (max k k') x→cB p r x - cB p' r' x=R - R':=fun x hx=>by
    have i1:=hx.mono N (Nat.le_max_left k k')
    have i2:=hx.mono N (Nat.le_max_right k k')
    rcases N.three x with hl | hr | ho
    · rw [(hk.lf x i1 hl).2,(hk'.lf x i2 hl).2]; exact hd
    · rw [(hk.rt x i1 hr).2,(hk'.rt x i2 hr).2]
    · rw [(hk.on x ho).2,(hk'.on x ho).2]
  exact hB (max k k') (by rw [val _ (N.in_u (Nat.le_refl _)),val _ (N.in_v (Nat.le_refl _))])
theorem once_zr {p:Nat→Fn} {r:Nat} (C:Chain0 p r) {q:Fn} (hq:Pol q) {c:Rat} (hcz:c≠0) (e:∀ x,c*p 0 x=q x*p r x) (N:Nest):(N.Zr (p 0) ↔ N.Zr q)∧¬ N.Om q 2:=by
  have hex:∀ i,∃ t:Nat × Int,i≤r→N.Loc (p i) t.1 t.2:=fun i=>by
    by_cases hi:i≤r
    · obtain ⟨m,s,h⟩:=Nest.has_loc (N:=N) (C.pol i hi) (C.nz i hi)
      exact ⟨(m,s),fun _=>h⟩
    · exact ⟨(0,0),fun h=>absurd h hi⟩
  obtain ⟨t,ht⟩:=Classical.axiomOfChoice hex
  have hl:∀ i,i≤r→N.Loc (p i) (t i).1 (t i).2:=fun i hi=>ht i hi
  obtain ⟨a1,a2,a3,a4⟩:=C.orders hl
  have p0:=C.pol 0 (Nat.zero_le _)
  have pr:=C.pol r (Nat.le_refl _)
  have l0:=hl 0 (Nat.zero_le _)
  have lr:=hl r (Nat.le_refl _)
  have ef:(fun x=>q x*p r x)=fun x=>c*p 0 x:=funext fun x=>(e x).symm
  have back:∀ {n},N.Om (fun x=>q x*p r x) n→N.Om (p 0) n:=fun h=>by rw [ef] at h; exact Nest.om_of_smul hcz p0 h
  refine ⟨⟨fun hz=>?_,fun hz=>?_⟩,fun h2=>?_⟩
  · have hm:0 < (t 0).1:=(Nest.zr_iff p0 l0).1 hz
    obtain ⟨b1,_,_⟩:=a3 hm
    have o:=lr.om pr
    have hlead:=Nest.lead0 hq pr o
    have hz1:N.Zr (Dk (t r).1 (fun x=>q x*p r x)):=by
      rw [ef,Dk_smul c p0]
      exact (l0.om p0 (t r).1 (by omega)).smul c
    have hz2:N.Zr (fun x=>q x*Dk (t r).1 (p r) x):=by
      have:=hz1.add hlead.neg
      rwa [show (fun x=>Dk (t r).1 (fun x=>q x*p r x) x+-(Dk (t r).1 (fun x=>q x*p r x) x - q x*Dk (t r).1 (p r) x))=fun x=>q x*Dk (t r).1 (p r) x from funext fun x=>by grind] at this
    rcases Nest.zr_mul hq (pr.Dk _) hz2 with g | g
    · exact g
    · exfalso
      rcases lr with ⟨_,o2⟩ | ⟨_,o2⟩
      · exact g.not_Ps o2.2
      · have:=o2.2
        rw [Dk_neg pr] at this
        exact g.neg.not_Ps this
  · have:=back (n:=1) (Nest.Om.mul hq pr (m:=1) fun j hj=>by rw [show j=0 by omega]; exact hz)
    exact this 0 (by omega)
  · have h3:=back (Nest.Om.mul2 (s:=2+(t r).1) rfl hq pr h2 (lr.om pr))
    have h4:=l0.lt p0 h3
    by_cases hm:0 < (t 0).1
    · have:=(a3 hm).1; omega
    · omega
theorem Pol.comp (k:Rat) {f:Fn} (h:Pol f):Pol (fun x=>f (k*x)):=by
  refine h.ind (P:=fun f=>Pol (fun x=>f (k*x))) Pol.zero fun a f _ ih=>?_
  have:=(ih.smul k).cons a
  rwa [show (fun x=>a+x*(k*f (k*x)))=fun x=>a+k*x*f (k*x) from funext fun x=>by grind] at this
theorem D_comp (k:Rat) {f:Fn} (h:Pol f):D (fun x=>f (k*x))=fun x=>k*D f (k*x):=by
  refine h.ind (P:=fun f=>D (fun x=>f (k*x))=fun x=>k*D f (k*x)) ?_ fun a f hf ih=>?_
  · show D (fun _=>0)=_
    rw [D_const]
    exact funext fun x=>by grind
  · rw [show (fun x=>a+k*x*f (k*x))=fun x=>a+x*(k*f (k*x)) from funext fun x=>by grind,D_cons a ((hf.comp k).smul k),D_smul k (hf.comp k),ih,D_cons a hf]
    exact funext fun x=>by grind
def fine (k:Rat) (l:Nat→Rat) (p:Nat→Fn) (i:Nat):Fn:=fun x=>l i*p i (k*x)
section
variable {k:Rat} {l:Nat→Rat} {p:Nat→Fn} {r:Nat} (hk:0 < k) (hl:∀ i,0 < l i)
include hk hl
theorem fine_nz {i:Nat} (h:p i≠fun _=>0):fine k l p i≠fun _=>0:=fun e=>h (funext fun x=>by
  obtain ⟨t,_,et⟩:=inv_pos hk
  have:=congrFun e (t*x)
  unfold fine at this
  rw [show k*(t*x)=k*t*x by grind,et,show (1:Rat)*x=x by grind] at this
  rcases Rat.mul_eq_zero.1 this with g | g
  · have:=hl i; grind
  · exact g)
omit hk in
theorem fine_rel {i j m:Nat} {a b:Rat} {Q:Fn} (ha:0 < a) (hQ:Pol Q) (e:∀ x,a*p i x+b*p j x=Q x*p m x):∃ (a' b':Rat) (Q':Fn),0 < a'∧(0 < b→0 < b')∧(b≠0→b'≠0)∧Pol Q'∧∀ x,a'*fine k l p i x+b'*fine k l p j x=Q' x*fine k l p m x:=by
  obtain ⟨u,hu,eu⟩:=inv_pos (hl i)
  obtain ⟨v,hv,ev⟩:=inv_pos (hl j)
  obtain ⟨w,hw,ew⟩:=inv_pos (hl m)
  refine ⟨a*u,b*v,fun x=>w*Q (k*x),Rat.mul_pos ha hu,fun h=>Rat.mul_pos h hv,fun h g=>(Rat.mul_eq_zero.1 g).elim h (fun g=>by grind),(hQ.comp k).smul w,fun x=>?_⟩
  unfold fine
  have e1:a*u*(l i*p i (k*x))=a*(l i*u)*p i (k*x):=by grind
  have e2:b*v*(l j*p j (k*x))=b*(l j*v)*p j (k*x):=by grind
  have e3:w*Q (k*x)*(l m*p m (k*x))=(l m*w)*(Q (k*x)*p m (k*x)):=by grind
  rw [e1,e2,e3,eu,ev,ew,← e (k*x)]
  grind
theorem Chain0.fine (C:Chain0 p r):Chain0 (fine k l p) r:=by
  refine ⟨fun i hi=>((C.pol i hi).comp k).smul _,fun i hi=>fine_nz hk hl (C.nz i hi),C.one,?_,fun i hi=>?_,?_⟩
  · obtain ⟨c,hc,e⟩:=C.slope
    obtain ⟨u,hu,eu⟩:=inv_pos (Rat.mul_pos (hl 0) hk)
    refine ⟨l 1*c*u,Rat.mul_pos (Rat.mul_pos (hl 1) hc) hu,fun x=>?_⟩
    have hp0:=C.pol 0 (Nat.zero_le _)
    show l 1*p 1 (k*x)=l 1*c*u*D (fun x=>l 0*p 0 (k*x)) x
    rw [D_smul (l 0) (hp0.comp k),D_comp k hp0,e (k*x)]
    have:l 1*c*u*(l 0*(k*D (p 0) (k*x)))=l 1*c*(l 0*k*u)*D (p 0) (k*x):=by grind
    rw [this,eu]
    grind
  · obtain ⟨a,b,Q,ha,hb,hQ,e⟩:=C.step i hi
    obtain ⟨a',b',Q',h1,_,h3,h4,h5⟩:=fine_rel (k:=k) hl ha hQ e
    exact ⟨a',b',Q',h1,h3 hb,h4,h5⟩
  · obtain ⟨a,Q,ha,hQ,e⟩:=C.last
    obtain ⟨a',b',Q',h1,_,_,h4,h5⟩:=fine_rel (k:=k) (l:=l) (p:=p) (i:=r - 1) (m:=r) (b:=0) (j:=r) hl ha hQ (fun x=>by rw [← e x]; grind)
    refine ⟨a',fun x=>Q' x - b',h1,h4.sub (Pol.const b'),fun x=>?_⟩
    have:=h5 x
    grind
theorem Chain.fine (C:Chain p r):Chain (fine k l p) r:=⟨C.toChain0.fine hk hl,fun i hi=>by
  obtain ⟨a,b,Q,ha,hb,hQ,e⟩:=C.sgn i hi
  obtain ⟨a',b',Q',h1,h2,_,h4,h5⟩:=fine_rel (k:=k) hl ha hQ e
  exact ⟨a',b',Q',h1,h2 hb,h4,h5⟩⟩
end
theorem deg_mul:∀ (n:Nat) {a b:Nat} {f g:Fn},a+b=n→Pol f→Pol g→Dk (a+1) f=(fun _=>0)→Dk (b+1) g=(fun _=>0)→∃ c:Rat,0 < c∧∀ x,Dk n (fun x=>f x*g x) x=c*(Dk a f x*Dk b g x)
  | 0,a,b,f,g,e,hf,hg,h1,h2=>by
    obtain ⟨rfl,rfl⟩:a=0∧b=0:=by omega
    exact ⟨1,by decide,fun x=>by show f x*g x=1*(f x*g x); grind⟩
  | n + 1,a,b,f,g,e,hf,hg,h1,h2=>by
    have hD:Dk (n+1) (fun x=>f x*g x)=fun x=>Dk n (fun x=>D f x*g x) x+Dk n (fun x=>f x*D g x) x:=by
      show Dk n (D fun x=>f x*g x)=_
      rw [D_mul hf hg,Dk_add (hf.D.mul hg) (hf.mul hg.D)]
    have A:∃ c:Rat,0≤c∧(1≤a→0 < c)∧∀ x,Dk n (fun x=>D f x*g x) x=c*(Dk a f x*Dk b g x):=by
      cases a with
      | zero =>
        have:D f=fun _=>0:=h1
        refine ⟨0,by grind,fun h=>by omega,fun x=>?_⟩
        rw [this,show (fun x=>0*g x)=fun _=>0 from funext fun x=>by grind,Dk_zero]
        grind
      | succ a =>
        obtain ⟨c,hc,h⟩:=deg_mul n (a:=a) (b:=b) (by omega) hf.D hg h1 h2
        exact ⟨c,by grind,fun _=>hc,h⟩
    have B:∃ c:Rat,0≤c∧(1≤b→0 < c)∧∀ x,Dk n (fun x=>f x*D g x) x=c*(Dk a f x*Dk b g x):=by
      cases b with
      | zero =>
        have:D g=fun _=>0:=h2
        refine ⟨0,by grind,fun h=>by omega,fun x=>?_⟩
        rw [this,show (fun x=>f x*0)=fun _=>0 from funext fun x=>by grind,Dk_zero]
        grind
      | succ b =>
        obtain ⟨c,hc,h⟩:=deg_mul n (a:=a) (b:=b) (by omega) hf hg.D h1 h2
        exact ⟨c,by grind,fun _=>hc,h⟩
    obtain ⟨c1,n1,p1,e1⟩:=A
    obtain ⟨c2,n2,p2,e2⟩:=B
    refine ⟨c1+c2,?_,fun x=>?_⟩
    · rcases (show 1≤a∨1≤b by omega) with g | g
      · have:=p1 g; grind
      · have:=p2 g; grind
    · rw [hD]
      show Dk n (fun x=>D f x*g x) x+Dk n (fun x=>f x*D g x) x=_
      rw [e1 x,e2 x]
      grind
/-- A polynomial has a degree. -/
theorem has_deg {f:Fn} (hf:Pol f) (h0:f≠fun _=>0):∃ d,Dk (d+1) f=(fun _=>0)∧∀ x,Dk d f x≠0:=by
  obtain ⟨k,hk⟩:=pol_ends hf
  have key:∀ k,∀ f:Fn,Pol f→f≠(fun _=>0)→Dk k f=(fun _=>0)→∃ d,Dk (d+1) f=(fun _=>0)∧∀ x,Dk d f x≠0:=by
    intro k
    induction k with
    | zero=>intro f _ h0 hk; exact absurd hk h0
    | succ k ih =>
      intro f hf h0 hk
      by_cases hD:D f=fun _=>0
      · refine ⟨0,hD,fun x hx=>h0 (funext fun y=>?_)⟩
        have hx:f x=0:=hx
        rw [const_of hf hD y x,hx]
      · obtain ⟨d,h1,h2⟩:=ih (D f) hf.D hD hk
        exact ⟨d+1,h1,h2⟩
  exact key k f hf h0 hk
end Go.Sturm

namespace Go.Proofs.YtancjnambbkhmaaGreat
open Go.Gv
open Go.Sturm (Pol Chain0 Chain Dk Nest hq fine)
open Go.Em (nw)

theorem oBd_up (B:Nat) {j k:Nat} (h:j≤k):oBd B j≤oBd B k:=by
  induction h with
  | refl=>exact Nat.le_refl _
  | step _ ih=>exact Nat.le_trans ih (oBd_mono B _)
theorem neg1:((-1:Int):Rat)=-1:=rfl
theorem fn_one {p:BP} (h:p.1=1):∃ k:Rat,∀ x,fnP (bPly p) x=k:=⟨((bV p 0:Int):Rat),fun x=>by
  show hq (bV p) x 0 p.1=_
  rw [h]
  show 0*x+_=_
  grind⟩
theorem dv_BT2 (a b:BP):BT (dvP a b).2:=by
  unfold dvP
  generalize dvN a b=k
  cases k with
  | zero=>exact Or.inl rfl
  | succ k=>exact btl_top _ _
theorem fn_zero {p:BP} (h:p.1=0) (x:Rat):fnP (bPly p) x=0:=by
  show hq (bV p) x 0 p.1=0
  rw [h]
  rfl
/-- The chain of sturm. -/
theorem sc_chain {p:BP} {B r:Nat} (h2:2≤p.1) (h5:p.1≤5) (hB:B≤700000) (hp:PBP p B) (ht:BT p) (hr1:1≤r) (hr4:r≤4) (hpos:∀ j,j < r→0 < (sc p (j+1)).1) (hend:(sc p r).1≤1∨(dvP (sc p (r - 1)) (sc p r)).1.1=0):Chain (fun i=>fnP (bPly (sc p i))) r:=by
  have ok:∀ j,j≤r→BT (sc p j)∧0 < (sc p j).1:=fun j hj=>by
    cases j with
    | zero=>exact ⟨ht,by show 0 < p.1; omega⟩
    | succ j=>exact ⟨(sc_ok h2 h5 hB hp ht j (fun i hi=>hpos i (by omega)) (by omega)).2.2.2.2.2,hpos j (by omega)⟩
  have step:∀ i,i+1≤r→∃ c:Rat,0 < c∧∀ x,c*fnP (bPly (sc p i)) x=fnP (bPly (dvP (sc p i) (sc p (i+1))).2) x*fnP (bPly (sc p (i+1))) x+fnP (bPly (dvP (sc p i) (sc p (i+1))).1) x:=fun i hi=>dv_fn (ok (i+1) hi).2 (ok (i+1) hi).1
  have st:∀ i,i+2≤r→∃ (a b:Rat) (Q:Go.Sturm.Fn),0 < a∧0 < b∧Pol Q∧∀ x,a*fnP (bPly (sc p i)) x+b*fnP (bPly (sc p (i+2))) x=Q x*fnP (bPly (sc p (i+1))) x:=fun i hi=>by
    obtain ⟨c,hc,e⟩:=step i (by omega)
    refine ⟨c,1,_,hc,by decide,fnP_pol (bPly (dvP (sc p i) (sc p (i+1))).2),fun x=>?_⟩
    rw [sc_two,fn_by,bv_of,neg1,e x]
    grind
  refine ⟨⟨fun i _=>fnP_pol _,fun i hi=>fnP_nz (ok i hi).2 (ok i hi).1.tp,hr1,⟨1,by decide,fun x=>?_⟩,fun i hi=>?_,?_⟩,st⟩
  · show fnP (bPly (bSl p)) x=1*Go.Sturm.D (fnP (bPly p)) x
    rw [fn_sl]
    grind
  · obtain ⟨a,b,Q,h1,h3,h4,h5⟩:=st i hi
    exact ⟨a,b,Q,h1,by grind,h4,h5⟩
  · by_cases hE:(sc p r).1≤1
    · obtain ⟨k,hk⟩:=fn_one (p:=sc p r) (by have:=(ok r (Nat.le_refl _)).2; omega)
      have hk0:k≠0:=fun e=>fnP_nz (ok r (Nat.le_refl _)).2 (ok r (Nat.le_refl _)).1.tp (funext fun x=>by rw [hk x,e])
      refine ⟨1,fun x=>k⁻¹*fnP (bPly (sc p (r - 1))) x,by decide,(fnP_pol _).smul _,fun x=>?_⟩
      show 1*fnP (bPly (sc p (r - 1))) x=k⁻¹*fnP (bPly (sc p (r - 1))) x*fnP (bPly (sc p r)) x
      rw [hk x]
      have:k⁻¹*fnP (bPly (sc p (r - 1))) x*k=k*k⁻¹*fnP (bPly (sc p (r - 1))) x:=by grind
      rw [this,Rat.mul_inv_cancel k hk0]
    · obtain ⟨c,hc,e⟩:=step (r - 1) (by omega)
      refine ⟨c,_,hc,fnP_pol (bPly (dvP (sc p (r - 1)) (sc p (r - 1+1))).2),fun x=>?_⟩
      have h:=e x
      rw [show r - 1+1=r by omega] at h ⊢
      rw [fn_zero (hend.resolve_left hE)] at h
      rw [h]
      grind
theorem dk_len {P:Ply} {j:Nat} (h:P.1≤j):Dk j (fnP P)=fun _=>0:=by
  rw [fnP_Dk,show P.1 - j=0 by omega]
  rfl
theorem dk_top {P:Ply} (hp:0 < P.1) (ht:Tp P) (x:Rat):Dk (P.1 - 1) (fnP P) x≠0:=by
  rw [fnP_Dk,show P.1 - (P.1 - 1)=1 by omega]
  obtain ⟨c,h1,h2⟩:=dit_at P.2 (P.1 - 1) 0
  show 0*x+((dit P.2 (P.1 - 1) 0:Int):Rat)≠0
  rw [h2,Nat.zero_add]
  have:((P.2 (P.1 - 1)*c:Int):Rat)≠0:=cast_ne (Int.mul_ne_zero (ht.resolve_left (by omega)) (by omega))
  grind
section
variable {p:BP} {B K:Nat} (h2:2≤p.1) (h5:p.1≤5) (hB:B≤10000) (hp:PBP p B) (ht:BT p) (hK:K≤4) (hpos:∀ j,j < K→0 < (ec p (j+1)).1) (hend:(ec p (K+1)).1=0)
include h2 h5 hB hp ht hK hpos hend
/-- The last one divides all. -/
theorem ec_div:∃ (c:Rat) (Q:Go.Sturm.Fn),0 < c∧Pol Q∧∀ x,c*fnP (bPly p) x=Q x*fnP (bPly (ec p K)) x:=by
  have C:=ec_chain h2 h5 hB hp ht hK hpos hend
  have key:∀ d,d≤K→(∃ (c:Rat) (Q:Go.Sturm.Fn),0 < c∧Pol Q∧∀ x,c*fnP (bPly (ec p (K - d))) x=Q x*fnP (bPly (ec p K)) x)∧(0 < d→∃ (c:Rat) (Q:Go.Sturm.Fn),0 < c∧Pol Q∧∀ x,c*fnP (bPly (ec p (K - d+1))) x=Q x*fnP (bPly (ec p K)) x):=by
    intro d
    induction d with
    | zero=>intro _; exact ⟨⟨1,fun _=>1,by decide,Pol.const 1,fun x=>rfl⟩,fun h=>by omega⟩
    | succ d ih =>
      intro hd
      obtain ⟨g1,g2⟩:=ih (by omega)
      have e1:K - (d+1)+1=K - d:=by omega
      rw [e1]
      refine ⟨?_,fun _=>g1⟩
      obtain ⟨c1,Q1,hc1,hQ1,f1⟩:=g1
      by_cases h0:d=0
      · subst h0
        obtain ⟨a,Q,ha,hQ,e⟩:=C.last
        exact ⟨a,Q,ha,hQ,e⟩
      · obtain ⟨c2,Q2,hc2,hQ2,f2⟩:=g2 (by omega)
        obtain ⟨a,b,Q,ha,hb,hQ,e⟩:=C.step (K - (d+1)) (by omega)
        refine ⟨a*c1*c2,fun x=>c2*(Q x*Q1 x)+-b*c1*Q2 x,Rat.mul_pos (Rat.mul_pos ha hc1) hc2,((hQ.mul hQ1).smul c2).add (hQ2.smul _),fun x=>?_⟩
        have h1:=e x
        rw [show K - (d+1)+2=K - d+1 by omega,show K - (d+1)+1=K - d by omega] at h1
        have h3:=f1 x
        have h4:=f2 x
        generalize fnP (bPly (ec p (K - (d+1)))) x=y0 at *
        generalize fnP (bPly (ec p (K - d+1))) x=y2 at *
        generalize fnP (bPly (ec p (K - d))) x=y1 at *
        generalize fnP (bPly (ec p K)) x=z at *
        have:a*c1*c2*y0=c1*c2*(a*y0):=by grind
        rw [this,show a*y0=Q x*y1 - b*y2 by grind]
        have:c1*c2*(Q x*y1 - b*y2)=c2*Q x*(c1*y1) - b*c1*(c2*y2):=by grind
        rw [this,h3,h4]
        grind
  have:=(key K (Nat.le_refl _)).1
  rwa [Nat.sub_self] at this
theorem on_div:∃ c:Rat,c≠0∧∀ x,c*fnP (bPly p) x=fnP (bPly (onP p K)) x*fnP (bPly (ec p K)) x:=by
  have C:=ec_chain h2 h5 hB hp ht hK hpos hend
  obtain ⟨l1,b1,t1⟩:=ec_all h5 hB hp ht hK hpos K (Nat.le_refl _)
  have hK1:=C.one
  have hp1:0 < (ec p K).1:=by have:=hpos (K - 1) (by omega); rwa [show K - 1+1=K by omega] at this
  unfold onP
  by_cases hs:(ec p K).1 < 2
  · rw [if_pos hs]
    obtain ⟨k,hk⟩:=fn_one (p:=ec p K) (by omega)
    refine ⟨k,fun e=>fnP_nz hp1 t1.tp (funext fun x=>by rw [hk x,e]),fun x=>?_⟩
    rw [hk x]
    grind
  · rw [if_neg hs]
    obtain ⟨c,hc,e⟩:=dv_fn (a:=p) (b:=ec p K) hp1 t1
    refine ⟨c,by grind,fun x=>?_⟩
    rw [e x]
    -- what is left is nought
    have hlen:(dvP p (ec p K)).1.1 < (ec p K).1:=(dcn_ok hp1 p.1 (p,q0) (Nat.le_refl _)).2
    obtain ⟨c2,Q,hc2,hQ,e2⟩:=ec_div h2 h5 hB hp ht hK hpos hend
    obtain ⟨u,hu,eu⟩:=Go.Sturm.inv_pos hc2
    have hS:∀ x,fnP (bPly (dvP p (ec p K)).1) x=(c*u*Q x - fnP (bPly (dvP p (ec p K)).2) x)*fnP (bPly (ec p K)) x:=fun x=>by
      have g1:=e x
      have g2:=e2 x
      have:c*u*Q x*fnP (bPly (ec p K)) x=c*u*(c2*fnP (bPly p) x):=by rw [g2]; grind
      have g3:c*u*(c2*fnP (bPly p) x)=c*(c2*u)*fnP (bPly p) x:=by grind
      rw [eu] at g3
      grind
    have hPS:Pol (fun x=>c*u*Q x - fnP (bPly (dvP p (ec p K)).2) x):=(hQ.smul (c*u)).sub (fnP_pol _)
    have hS0:(fun x=>c*u*Q x - fnP (bPly (dvP p (ec p K)).2) x)=fun _=>0:=by
      refine Classical.byContradiction fun hne=>?_
      obtain ⟨d,hd1,hd2⟩:=Go.Sturm.has_deg hPS hne
      obtain ⟨c3,hc3,e3⟩:=Go.Sturm.deg_mul (d+((ec p K).1 - 1)) rfl hPS (fnP_pol (bPly (ec p K))) hd1 (dk_len (P:=bPly (ec p K)) (show (ec p K).1≤(ec p K).1 - 1+1 by omega))
      have z:=e3 0
      rw [show (fun x=>(c*u*Q x - fnP (bPly (dvP p (ec p K)).2) x)*fnP (bPly (ec p K)) x)=fnP (bPly (dvP p (ec p K)).1) from funext fun x=>(hS x).symm,dk_len (P:=bPly (dvP p (ec p K)).1) (show (dvP p (ec p K)).1.1≤d+((ec p K).1 - 1) by omega)] at z
      have n1:=hd2 0
      have n2:=dk_top (P:=bPly (ec p K)) hp1 t1.tp 0
      have z':c3*(Dk d (fun x=>c*u*Q x - fnP (bPly (dvP p (ec p K)).2) x) 0*Dk ((ec p K).1 - 1) (fnP (bPly (ec p K))) 0)=0:=z.symm
      rcases Rat.mul_eq_zero.1 z' with g | g
      · grind
      · rcases Rat.mul_eq_zero.1 g with g | g
        · exact n1 g
        · exact n2 g
    rw [hS x,show c*u*Q x - fnP (bPly (dvP p (ec p K)).2) x=0 from congrFun hS0 x]
    grind
theorem on_len:2≤(onP p K).1∧(onP p K).1≤5∧BT (onP p K)∧PBP (onP p K) (oBd B 4):=by
  have C:=ec_chain h2 h5 hB hp ht hK hpos hend
  obtain ⟨l1,b1,t1⟩:=ec_all h5 hB hp ht hK hpos K (Nat.le_refl _)
  have hK1:=C.one
  have hp1:0 < (ec p K).1:=by have:=hpos (K - 1) (by omega); rwa [show K - 1+1=K by omega] at this
  have hKl:(ec p K).1+K≤5∧(ec p K).1≤p.1 - 1:=by
    have hmono:∀ j,j < K→(ec p (j+1)).1≤p.1 - 1:=fun j hj=>by
      induction j with
      | zero=>exact len_sl p
      | succ j ih =>
        have h1:=ih (by omega)
        have h3:(dvP (ec p j) (ec p (j+1))).1.1 < (ec p (j+1)).1:=(dcn_ok (hpos j (by omega)) (ec p j).1 (ec p j,q0) (Nat.le_refl _)).2
        rw [ec_two]
        omega
    refine ⟨?_,?_⟩
    · rcases ec_ok h5 hB hp ht (K - 1) (fun j hj=>hpos j (by omega)) (by omega) with ⟨_,l2,_⟩ | ⟨h,_⟩
      · rwa [show K - 1+1=K by omega] at l2
      · rw [show K - 1+1=K by omega] at h; omega
    · have:=hmono (K - 1) (by omega); rwa [show K - 1+1=K by omega] at this
  have hge:2≤(onP p K).1:=by
    refine Nat.le_of_not_lt fun hlt=>?_
    obtain ⟨c,hc,e⟩:=on_div h2 h5 hB hp ht hK hpos hend
    have hk:∃ k:Rat,∀ x,fnP (bPly (onP p K)) x=k:=by
      rcases (show (onP p K).1=0∨(onP p K).1=1 by omega) with h | h
      · exact ⟨0,fun x=>fn_zero h x⟩
      · exact fn_one h
    obtain ⟨k,hk⟩:=hk
    have ef:(fun x=>c*fnP (bPly p) x)=fun x=>k*fnP (bPly (ec p K)) x:=funext fun x=>by rw [e x,hk x]
    have n1:=dk_top (P:=bPly p) (by show 0 < p.1; omega) ht.tp 0
    have d1:=Go.Sturm.Dk_smul c (fnP_pol (bPly p)) (p.1 - 1)
    have d2:=Go.Sturm.Dk_smul k (fnP_pol (bPly (ec p K))) (p.1 - 1)
    rw [ef,d2,dk_len (P:=bPly (ec p K)) hKl.2] at d1
    have:=congrFun d1 0
    have this:k*0=c*Dk (p.1 - 1) (fnP (bPly p)) 0:=this
    rcases Rat.mul_eq_zero.1 (show c*Dk (p.1 - 1) (fnP (bPly p)) 0=0 by grind) with g | g
    · exact hc g
    · exact n1 g
  refine ⟨hge,?_⟩
  have hb4:=oBd_le (k:=4) hB (by omega)
  have mono:∀ k,k≤4→oBd B k≤oBd B 4:=fun k hk=>oBd_up B hk
  have b0:B≤oBd B 0:=by unfold oBd; omega
  unfold onP
  by_cases hs:(ec p K).1 < 2
  · rw [if_pos hs]
    exact ⟨h5,ht,hp.le (Nat.le_trans b0 (mono 0 (by omega)))⟩
  · rw [if_neg hs]
    have hK3:K≤3:=by omega
    have bK:oBd B K≤oBd B 3:=oBd_up B hK3
    have b03:oBd B 0≤oBd B 3:=oBd_up B (by omega)
    obtain ⟨_,d2,_,d4⟩:=dv_bound (a:=p) (b:=ec p K) (M:=oBd B 3) hp1 h5 l1 (by have:=mono 3 (by omega); omega) (hp.le (by omega)) (b1.le bK)
    refine ⟨d2,dv_BT2 _ _,?_⟩
    rw [← oBd_succ]
    exact d4
end
end Go.Proofs.YtancjnambbkhmaaGreat

namespace Go.Proofs.YtancjnambbkhmaaGreat
open Go.Gv
open Go.Sturm (Pol Chain0 Chain Dk Nest hq fine tcn cB)
open Go.Em (nw)

/-- The sign of a polynomial at a place. -/
def bS (p:BP) (x:Int):Int:=(hor (finP (bPly p)).2 x 0 (finP (bPly p)).1).sign
def atF (l:List AV):Int:=bS (decP (a0 l)) (decI (a1 l))
theorem atF_eq (p:BP) (x:Int):atF [bpP p,iA x]=bS p x:=by show bS (decP (bpP p)) x=_; rw [decP_bp]
theorem at_ok {p:BP} {x:Int} {B:Nat} (hn:p.1≤1000) (hB:B≤100000000000) (hf:PBP p B) (hx:I64 x):FSpec Tryz.prog 164 [bpP p,iA x] (iA (bS p x)):=pv_spec hn hB hf hx
theorem tcn_le (z:Nat→Int):∀ i:Nat,0≤(tcn z i).1∧(tcn z i).1≤i
  | 0=>⟨Int.le_refl _,Int.le_refl _⟩
  | i + 1=>by
    obtain ⟨h1,h2⟩:=tcn_le z i
    unfold tcn
    split
    · dsimp only
      split<;>omega
    · omega
def tnN (C:Nat→BP) (c:Nat) (x:Int):Int:=(tcn (fun i=>bS (C i) x) c).1
theorem tn_spec {c:Nat} {C:Nat→BP} {x:Int} {B:Nat} (hc:c≤1000) (hB:B≤100000000000) (hC:∀ i,i < c→(C i).1≤1000∧PBP (C i) B) (hx:I64 x):FSpec Tryz.prog 163 [bcA c C,iA x] (iA (tnN C c x)):=by
  have ks:∀ e,e ∈ [kS Tryz.prog 164 (fun l=>iA (atF l))]→KOk Tryz.prog e:=k_cons kS_ok k_nil
  have lead : Leads Tryz.prog (.loop (loopAt Tryz.f163 0)) (tnS' c C x (tcn (fun i=>bS (C i) x) 0).1 (tcn (fun i=>bS (C i) x) 0).2 ((0:Nat):Int)) (.exit 0) (tnS' c C x (tcn (fun i=>bS (C i) x) c).1 (tcn (fun i=>bS (C i) x) c).2 (c:Nat)):=by
    refine loop_rule (fun i=>tnS' c C x (tcn (fun i=>bS (C i) x) i).1 (tcn (fun i=>bS (C i) x) i).2 (i:Nat)) c (.exit 0) _ (by simp) (fun i hi=>?_) ?_
    · have st:=tn'_step atF c C x (tcn (fun i=>bS (C i) x) i).1 (tcn (fun i=>bS (C i) x) i).2 (i:Nat)
      obtain ⟨l1,l2⟩:=tcn_le (fun i=>bS (C i) x) i
      have eV:tnV' atF C x (i:Nat)=bS (C i) x:=by unfold tnV'; rw [Int.toNat_natCast,atF_eq]
      refine leads_ev (finN_sub _ _) e_nil ks noL_ok (st.trans ?_)
      unfold tnT'
      rw [eV,Int.toNat_natCast,dec_lt hi,ixB_t hi,gate_pos (at_ok (hC i hi).1 hB (hC i hi).2 hx),w64_next (by omega)]
      have e1:tcn (fun i=>bS (C i) x) (i+1)=if bS (C i) x≠0 then (if (tcn (fun i=>bS (C i) x) i).2≠0∧bS (C i) x≠(tcn (fun i=>bS (C i) x) i).2 then (tcn (fun i=>bS (C i) x) i).1+1 else (tcn (fun i=>bS (C i) x) i).1,bS (C i) x) else tcn (fun i=>bS (C i) x) i:=rfl
      rw [e1]
      generalize tcn (fun i=>bS (C i) x) i=t at *
      generalize bS (C i) x=s at *
      rw [show w64 (t.1+1)=t.1+1 from w64_id (by omega) (by omega)]
      by_cases h0:s=0
      · subst h0
        rw [if_neg (fun h=>h rfl)]
        rfl
      · rw [if_pos h0,beq_false_of_ne h0]
        by_cases h1:t.2=0
        · rw [if_neg (fun h=>h.1 h1),h1]
          rfl
        · rw [beq_false_of_ne h1]
          by_cases h2:s=t.2
          · rw [if_neg (fun h=>h.2 h2),← h2,BEq.rfl]
            rfl
          · rw [if_pos ⟨h1,h2⟩,beq_false_of_ne h2]
            rfl
    · refine leads_ev (finE_sub _ _) e_nil ks noL_ok ((tn'_end atF c C x _ _ (c:Nat)).trans ?_)
      unfold tnT'
      rw [dec_self,cond_false]
  have hL:=lok_at (c:=bodyOf Tryz.f163) (i:=4) 0 1 (by kernel_rfl) (by kernel_rfl) (toldF_sound (keep:=keepTn') (τ:=[]) lead)
  refine gspec e_nil k_nil Tryz.func163 (by kernel_rfl) (by kernel_rfl) hL rfl ((tn'_ev c C x (tcn (fun i=>bS (C i) x) c).1 (tcn (fun i=>bS (C i) x) c).2 (c:Nat)).trans ?_)
  rw [gate_pos (Sub.refl _)]
  rfl
def kap:Rat:=(65536:Rat)⁻¹
theorem kap_eq:(65536:Rat)*kap=1:=Rat.mul_inv_cancel 65536 (by decide)
theorem kap_pos:0 < kap:=by have:=kap_eq; grind
def lam (n:Nat):Rat:=((65536 ^ (n - 1):Int):Rat)
theorem lam_pos (n:Nat):0 < lam n:=Rat.intCast_lt_intCast.2 (Int.pow_pos (by decide))
theorem hq_fin (f:Nat→Int) (n:Nat) (x:Rat):∀ d i,i+d≤n→hq (pfin f n) x i d=((65536 ^ (n - 1 - i):Int):Rat)*hq f (kap*x) i d
  | 0,i,_=>by show (0:Rat)=_*0; grind
  | d + 1,i,h=>by
    show hq (pfin f n) x (i+1) d*x+((f i*65536 ^ (n - 1 - i):Int):Rat)=_*(hq f (kap*x) (i+1) d*(kap*x)+(f i:Rat))
    rw [hq_fin f n x d (i+1) (by omega),Rat.intCast_mul]
    cases d with
    | zero =>
      show _*0*x+_=_*(0*(kap*x)+_)
      grind
    | succ d =>
      rw [show n - 1 - i=n - 1 - (i+1)+1 by omega,Int.pow_succ,Rat.intCast_mul]
      generalize hq f (kap*x) (i+1) (d+1)=H
      generalize ((65536 ^ (n - 1 - (i+1)):Int):Rat)=w
      have e:((65536:Int):Rat)=65536:=rfl
      rw [e]
      have:w*65536*(H*(kap*x)+(f i:Rat))=w*H*(65536*kap)*x+w*65536*(f i:Rat):=by grind
      rw [this,kap_eq]
      grind
theorem fin_fn (P:Ply):fnP (finP P)=fun x=>lam P.1*fnP P (kap*x):=funext fun x=>by
  show hq (pfin P.2 P.1) x 0 P.1=_
  rw [hq_fin P.2 P.1 x P.1 0 (by omega),Nat.sub_zero]
  rfl
theorem bS_sg (p:BP) (x:Int):bS p x=Go.Sturm.sg (fnP (finP (bPly p)) (x:Rat)):=by
  have e:fnP (finP (bPly p)) (x:Rat)=((hor (finP (bPly p)).2 x 0 (finP (bPly p)).1:Int):Rat):=hq_hor _ _ _ _
  rw [e,sg_cast]
  rfl
section
variable {p:BP} {B K r:Nat} (h2:2≤p.1) (h5:p.1≤5) (hB:B≤400) (hp:PBP p B) (ht:BT p) (hK:K≤4) (hpos:∀ j,j < K→0 < (ec p (j+1)).1) (hend:(ec p (K+1)).1=0)
  (hr1:1≤r) (hr4:r≤4) (hsp:∀ j,j < r→0 < (sc (onP p K) (j+1)).1) (hse:(sc (onP p K) r).1≤1∨(dvP (sc (onP p K) (r - 1)) (sc (onP p K) r)).1.1=0)
include h2 h5 hB hp ht hK hpos hend
theorem on_zr (N:Nest):(N.Zr (fnP (finP (bPly p))) ↔ N.Zr (fnP (finP (bPly (onP p K)))))∧¬ N.Om (fnP (finP (bPly (onP p K)))) 2:=by
  have C:=(ec_chain h2 h5 (show B≤10000 by omega) hp ht hK hpos hend).fine (k:=kap) (l:=fun i=>lam (ec p i).1) kap_pos (fun i=>lam_pos _)
  obtain ⟨c,hc,e⟩:=on_div h2 h5 (show B≤10000 by omega) hp ht hK hpos hend
  obtain ⟨u,hu,eu⟩:=Go.Sturm.inv_pos (lam_pos p.1)
  have key:=Go.Sturm.once_zr C (q:=fnP (finP (bPly (onP p K)))) (fnP_pol _) (c:=lam (onP p K).1*lam (ec p K).1*u*c) (fun h=>by
    have h1:=Rat.mul_pos (Rat.mul_pos (lam_pos (onP p K).1) (lam_pos (ec p K).1)) hu
    rcases Rat.mul_eq_zero.1 h with g | g
    · grind
    · exact hc g) (fun x=>by
    show lam (onP p K).1*lam (ec p K).1*u*c*(lam p.1*fnP (bPly p) (kap*x))=fnP (finP (bPly (onP p K))) x*(lam (ec p K).1*fnP (bPly (ec p K)) (kap*x))
    rw [fin_fn]
    show _=lam (onP p K).1*fnP (bPly (onP p K)) (kap*x)*_
    have e1:=e (kap*x)
    have:lam (onP p K).1*lam (ec p K).1*u*c*(lam p.1*fnP (bPly p) (kap*x))=lam (onP p K).1*lam (ec p K).1*(lam p.1*u)*(c*fnP (bPly p) (kap*x)):=by grind
    rw [this,eu,e1]
    grind) N
  have e0:fine kap (fun i=>lam (ec p i).1) (fun i=>fnP (bPly (ec p i))) 0=fnP (finP (bPly p)):=(fin_fn (bPly p)).symm
  rw [e0] at key
  exact key
include hr1 hr4 hsp hse
theorem st_chain:Chain (fun i=>fnP (finP (bPly (sc (onP p K) i)))) r:=by
  obtain ⟨g1,g2,g3,g4⟩:=on_len h2 h5 (show B≤10000 by omega) hp ht hK hpos hend
  have hb:oBd B 4≤700000:=by
    unfold oBd
    have e:(6:Nat) ^ 4=1296:=by decide
    rw [e]
    omega
  have C:=(sc_chain g1 g2 hb g4 g3 hr1 hr4 hsp hse).fine (k:=kap) (l:=fun i=>lam (sc (onP p K) i).1) kap_pos (fun i=>lam_pos _)
  rwa [show fine kap (fun i=>lam (sc (onP p K) i).1) (fun i=>fnP (bPly (sc (onP p K) i)))=fun i=>fnP (finP (bPly (sc (onP p K) i))) from funext fun i=>(fin_fn (bPly (sc (onP p K) i))).symm] at C
theorem tnN_cB (x:Int):tnN (sc (onP p K)) (r+1) x=cB (fun i=>fnP (finP (bPly (sc (onP p K) i)))) r (x:Rat):=by
  have C:=st_chain h2 h5 hB hp ht hK hpos hend hr1 hr4 hsp hse
  obtain ⟨N,hN⟩:=Go.Sturm.nest_at (x:Rat)
  have hex:∀ i,∃ t:Nat × Int,i≤r→N.Loc (fnP (finP (bPly (sc (onP p K) i)))) t.1 t.2:=fun i=>by
    by_cases hi:i≤r
    · obtain ⟨m,s,h⟩:=Nest.has_loc (N:=N) (C.pol i hi) (C.nz i hi)
      exact ⟨(m,s),fun _=>h⟩
    · exact ⟨(0,0),fun h=>absurd h hi⟩
  obtain ⟨t,ht'⟩:=Classical.axiomOfChoice hex
  have hl:∀ i,i≤r→N.Loc (fnP (finP (bPly (sc (onP p K) i)))) (t i).1 (t i).2:=fun i hi=>ht' i hi
  obtain ⟨a1,a2,a3,a4⟩:=C.toChain0.orders (m:=fun i=>(t i).1) (s:=fun i=>(t i).2) hl
  have hno:=(on_zr h2 h5 hB hp ht hK hpos hend N).2
  have hm0:(t 0).1≤1:=Nat.le_of_not_lt fun hlt=>hno (((hl 0 (Nat.zero_le _)).om (C.pol 0 (Nat.zero_le _))).le (by omega))
  have hmr:(t r).1=0:=by
    by_cases h:(t 0).1=0
    · exact a4 h
    · have:=(a3 (by omega)).1; omega
  have key:=C.turns hN (m:=fun i=>(t i).1) (s:=fun i=>(t i).2) hl hmr
  rw [← key]
  unfold tnN
  congr 2
  exact funext fun i=>bS_sg _ _
/-- The answer's count and the code's differ by the same number everywhere. -/
theorem counts {a b:Int} (hab:a≤b):rtC (finP (bPly p)) a - tnN (sc (onP p K)) (r+1) a=rtC (finP (bPly p)) b - tnN (sc (onP p K)) (r+1) b:=by
  have hF2:2≤(finP (bPly p)).1:=h2
  have hFt:=fin_Tp ht.tp
  have C1:=cq_chain hF2 (fin_Cn (bV_Cn p)) hFt
  have C2:=st_chain h2 h5 hB hp ht hK hpos hend hr1 hr4 hsp hse
  rw [tnN_cB h2 h5 hB hp ht hK hpos hend hr1 hr4 hsp hse,tnN_cB h2 h5 hB hp ht hK hpos hend hr1 hr4 hsp hse,rtC_eq hF2 hFt,rtC_eq hF2 hFt]
  exact Go.Sturm.two_chains C1 C2 (fun N=>(on_zr h2 h5 hB hp ht hK hpos hend N).1) (Rat.intCast_le_intCast.2 hab)
omit hr1 hr4 hsp hse in
theorem bS_zero (x:Int):bS (onP p K) x=0 ↔ hor (finP (bPly p)).2 x 0 (finP (bPly p)).1=0:=by
  obtain ⟨N,hN⟩:=Go.Sturm.nest_at (x:Rat)
  have h:=(on_zr h2 h5 hB hp ht hK hpos hend N).1
  rw [Go.Sturm.zr_on (fnP_pol _) hN,Go.Sturm.zr_on (fnP_pol _) hN] at h
  have e1:fnP (finP (bPly p)) (x:Rat)=((hor (finP (bPly p)).2 x 0 (finP (bPly p)).1:Int):Rat):=hq_hor _ _ _ _
  have e2:fnP (finP (bPly (onP p K))) (x:Rat)=((hor (finP (bPly (onP p K))).2 x 0 (finP (bPly (onP p K))).1:Int):Rat):=hq_hor _ _ _ _
  have c0:∀ n:Int,((n:Int):Rat)=0 ↔ n=0:=fun n=>⟨fun h=>Decidable.byContradiction fun g=>cast_ne g h,fun h=>by rw [h]; rfl⟩
  rw [e1,e2,c0,c0] at h
  unfold bS
  rw [Int.sign_eq_zero_iff_zero]
  exact h.symm
end
end Go.Proofs.YtancjnambbkhmaaGreat

namespace Go.Proofs.YtancjnambbkhmaaGreat
open Go.Gv
open Go.Em (nw)

section
variable (T:Int→Int) (z:Int→Bool) (lo hi:Int)
/-- The i-th root is at or ahead of x. -/
def gS (i x:Int):Int:=if T (lo - 1) - T x ≥ i then 1 else 0
def gR (i:Int):Int × Int:=sgi (gS T lo i) 0 (sgn (gS T lo i) 0 (hi - (lo - 1)).toNat (lo - 1,hi)) (lo - 1,hi)
def gAt (i:Int):Int:=cond (cond (z (gR T lo hi i).2) (T (lo - 1) - T (gR T lo hi i).2==i) false) (gR T lo hi i).2 ((gR T lo hi i).2 - 1)
def lst:Nat→List Int
  | 0=>[]
  | k+1=>lst k ++ if gAt T z lo hi ((k+1:Nat):Int) ≥ lo then [gAt T z lo hi ((k+1:Nat):Int)] else []
end
theorem lst_pre (T:Int→Int) (z:Int→Bool) (lo hi:Int) (k:Nat):∀ d,∃ R,lst T z lo hi (k+d)=lst T z lo hi k ++ R
  | 0=>⟨[],(List.append_nil _).symm⟩
  | d+1=>by
    obtain ⟨R,h⟩:=lst_pre T z lo hi k d
    refine ⟨R ++ (if gAt T z lo hi ((k+d+1:Nat):Int) ≥ lo then [gAt T z lo hi ((k+d+1:Nat):Int)] else []),?_⟩
    show lst T z lo hi (k+d) ++ (if gAt T z lo hi ((k+d+1:Nat):Int) ≥ lo then [gAt T z lo hi ((k+d+1:Nat):Int)] else [])=_
    rw [h,List.append_assoc]
theorem lst_len (T:Int→Int) (z:Int→Bool) (lo hi:Int):∀ k,(lst T z lo hi k).length≤k
  | 0=>Nat.le_refl _
  | k+1=>by
    have:=lst_len T z lo hi k
    show (lst T z lo hi k ++ _).length≤k+1
    rw [List.length_append]
    split
    · show _+1≤_; omega
    · show _+0≤_; omega
theorem gR_ok {T:Int→Int} {lo hi i:Int} (hlh:lo≤hi) (h1:1≤i) (h2:i≤T (lo - 1) - T hi):lo≤(gR T lo hi i).2∧(gR T lo hi i).2≤hi∧(gR T lo hi i).1=(gR T lo hi i).2 - 1∧T (lo - 1) - T ((gR T lo hi i).2 - 1) < i∧i≤T (lo - 1) - T (gR T lo hi i).2:=by
  obtain ⟨_,g2,g3⟩:=sgn_ok (gS T lo i) 0 (hi - (lo - 1)).toNat (lo - 1,hi) (by show lo - 1 < hi; omega) (Nat.le_refl _)
  obtain ⟨k1,k2,k3⟩:=g3 _ (Nat.le_refl _)
  have s1:gS T lo i (lo - 1)=0:=by unfold gS; rw [if_neg (by omega)]
  have s2:gS T lo i hi≠0:=by unfold gS; rw [if_pos h2]; decide
  obtain ⟨q1,q2⟩:=sgi_sg (S:=gS T lo i) (s:=0) (sgn (gS T lo i) 0 (hi - (lo - 1)).toNat (lo - 1,hi)) (lo - 1,hi) s1 s2
  have e:gR T lo hi i=sgi (gS T lo i) 0 (sgn (gS T lo i) 0 (hi - (lo - 1)).toNat (lo - 1,hi)) (lo - 1,hi):=rfl
  rw [← e] at g2 k1 k2 k3 q1 q2
  replace k1:lo - 1≤(gR T lo hi i).1:=k1
  replace k2:(gR T lo hi i).2≤hi:=k2
  have e1:(gR T lo hi i).1=(gR T lo hi i).2 - 1:=by omega
  refine ⟨by omega,k2,e1,?_,?_⟩
  · rw [← e1]
    unfold gS at q1
    by_cases h:T (lo - 1) - T (gR T lo hi i).1 ≥ i
    · rw [if_pos h] at q1; cases q1
    · omega
  · unfold gS at q2
    by_cases h:T (lo - 1) - T (gR T lo hi i).2 ≥ i
    · exact h
    · rw [if_neg h] at q2; exact absurd rfl q2
theorem qpM_eq {a b:Int} (h:a < b) (h1:-2000000000000000≤a) (h2:b≤2000000000000000):qpM a b=mdI a b:=by
  unfold qpM mdI
  rw [w64_id (n:=b - a) (by omega) (by omega),show (b - a).tdiv 2=(b - a) / 2 from Int.tdiv_eq_ediv_of_nonneg (by omega),w64_id (n:=(b - a) / 2) (by omega) (by omega),w64_id (by omega) (by omega)]
section
variable {q:BP} {lo hi:Int} {c:Nat} {C:Nat→BP} {T:Int→Int} (hlh:lo≤hi) (hlo:-1125899906842624≤lo) (hhi:hi≤1125899906842624)
  (hT:∀ x,lo - 1≤x→x≤hi→FSpec Tryz.prog 163 [bcA c C,iA x] (iA (T x))) (hTb:∀ x,0≤T x∧T x≤1000)
def decT (l:List AV):Int:=decI (a1 l)
/-- Turns, as a function of what is handed to it. -/
def tfT (T:Int→Int) (l:List AV):Int:=T (decT l)
theorem tfT_eq (c:Nat) (C:Nat→BP) (T:Int→Int) (x:Int):tfT T [bcA c C,iA x]=T x:=rfl
include hlh hlo hhi hT hTb
omit hlh hlo hhi hTb in
theorem gTn_pos {x:Int} {o:Option Out} (h1:lo - 1≤x) (h2:x≤hi):gTn (tfT T) c C x o=o:=gate_pos (hT x h1 h2)
theorem qi_leads {al:Int} {m:Nat} {Y:Nat→List AV} {i:Int}:Leads Tryz.prog (.loop (loopAt Tryz.f150 1)) (qpI q lo hi c C (T (lo - 1)) al m Y i (lo - 1) hi) (.exit 2) (qpI q lo hi c C (T (lo - 1)) al m Y i (gR T lo hi i).1 (gR T lo hi i).2):=by
  have ks:∀ e,e ∈ [kS Tryz.prog 163 (fun l=>iA (tfT T l))]→KOk Tryz.prog e:=k_cons kS_ok k_nil
  obtain ⟨g1,g2,g3⟩:=sgn_ok (gS T lo i) 0 (hi - (lo - 1)).toNat (lo - 1,hi) (by show lo - 1 < hi; omega) (Nat.le_refl _)
  refine loop_rule (fun j=>qpI q lo hi c C (T (lo - 1)) al m Y i (sgi (gS T lo i) 0 j (lo - 1,hi)).1 (sgi (gS T lo i) 0 j (lo - 1,hi)).2) (sgn (gS T lo i) 0 (hi - (lo - 1)).toNat (lo - 1,hi)) (.exit 2) _ (by simp) (fun j hj=>?_) ?_
  · obtain ⟨k1,k2,k3⟩:=g3 j (by omega)
    have k4:=g1 j hj
    replace k1:lo - 1≤(sgi (gS T lo i) 0 j (lo - 1,hi)).1:=k1
    replace k2:(sgi (gS T lo i) 0 j (lo - 1,hi)).2≤hi:=k2
    rw [sgi_succ]
    generalize sgi (gS T lo i) 0 j (lo - 1,hi)=s at *
    have hm:s.1 < mdI s.1 s.2∧mdI s.1 s.2 < s.2:=by unfold mdI; omega
    have st:=qi_step (tfT T) q lo hi c C (T (lo - 1)) al m Y i s.1 s.2
    refine leads_ev (finN_sub _ _) e_nil ks noL_ok (st.trans ?_)
    have t1:=hTb (lo - 1)
    have t2:=hTb (mdI s.1 s.2)
    unfold qiT
    rw [qpM_eq (by omega) (by omega) (by omega),tfT_eq,w64_id (n:=s.2 - s.1) (by omega) (by omega),decide_eq_true k4,gTn_pos hT (by omega) (by omega),w64_id (n:=T (lo - 1) - T (mdI s.1 s.2)) (by omega) (by omega)]
    unfold sgs gS
    by_cases h:T (lo - 1) - T (mdI s.1 s.2) ≥ i
    · rw [decide_eq_true h,if_pos h,if_neg (by decide)]
      rfl
    · rw [decide_eq_false h,if_neg h,if_pos rfl]
      rfl
  · obtain ⟨k1,k2,k3⟩:=g3 _ (Nat.le_refl _)
    replace k1:lo - 1≤(sgi (gS T lo i) 0 (sgn (gS T lo i) 0 (hi - (lo - 1)).toNat (lo - 1,hi)) (lo - 1,hi)).1:=k1
    replace k2:(sgi (gS T lo i) 0 (sgn (gS T lo i) 0 (hi - (lo - 1)).toNat (lo - 1,hi)) (lo - 1,hi)).2≤hi:=k2
    refine leads_ev (finE_sub _ _) e_nil ks noL_ok ((qi_end (tfT T) q lo hi c C (T (lo - 1)) al m Y i _ _).trans ?_)
    unfold qiT
    rw [w64_id (by omega) (by omega),decide_eq_false g2,cond_false]
    rfl
variable {z:Int→Bool} (hz:∀ x,lo - 1≤x→x≤hi→FSpec Tryz.prog 164 [bpP q,iA x] (iA (bS q x))) (hzb:∀ x,z x=(bS q x==0))
include hz hzb
theorem qo_leads {n:Nat} (hn:(n:Int)=T (lo - 1) - T hi):Leads Tryz.prog (.loop (loopAt Tryz.f150 0)) (qpO q lo hi c C (T (lo - 1)) (T (lo - 1) - T hi) 0 (fun k=>[iA ((lst T z lo hi n).getD k 0)]) 1) (.exit 0) (qpO q lo hi c C (T (lo - 1)) (T (lo - 1) - T hi) (lst T z lo hi n).length (fun k=>[iA ((lst T z lo hi n).getD k 0)]) ((n+1:Nat):Int)):=by
  have ks:∀ e,e ∈ qoK (tfT T) atF→KOk Tryz.prog e:=k_cons kS_ok (k_cons kS_ok k_nil)
  have tb1:=hTb (lo - 1)
  have tb2:=hTb hi
  have key:Leads Tryz.prog (.loop (loopAt Tryz.f150 0)) (qpO q lo hi c C (T (lo - 1)) (T (lo - 1) - T hi) (lst T z lo hi 0).length (fun k=>[iA ((lst T z lo hi n).getD k 0)]) ((0+1:Nat):Int)) (.exit 0) (qpO q lo hi c C (T (lo - 1)) (T (lo - 1) - T hi) (lst T z lo hi n).length (fun k=>[iA ((lst T z lo hi n).getD k 0)]) ((n+1:Nat):Int)):=by
    refine loop_rule (fun k=>qpO q lo hi c C (T (lo - 1)) (T (lo - 1) - T hi) (lst T z lo hi k).length (fun j=>[iA ((lst T z lo hi n).getD j 0)]) ((k+1:Nat):Int)) n (.exit 0) _ (by simp) (fun k hk=>?_) ?_
    · have hi1:(1:Int)≤((k+1:Nat):Int):=by omega
      have hi2:((k+1:Nat):Int)≤T (lo - 1) - T hi:=by omega
      obtain ⟨r1,r2,r3,r4,r5⟩:=gR_ok hlh hi1 hi2
      have hlen:=lst_len T z lo hi k
      have inner:=qi_leads (q:=q) (c:=c) (C:=C) (al:=T (lo - 1) - T hi) (m:=(lst T z lo hi k).length) (Y:=fun j=>[iA ((lst T z lo hi n).getD j 0)]) (i:=((k+1:Nat):Int)) hlh hlo hhi hT hTb
      have el:w64 (lo - 1)=lo - 1:=w64_id (by omega) (by omega)
      have hL:LOk Tryz.prog (qoL q lo hi c C (T (lo - 1)) (T (lo - 1) - T hi) (lst T z lo hi k).length (fun j=>[iA ((lst T z lo hi n).getD j 0)]) ((k+1:Nat):Int) (gR T lo hi ((k+1:Nat):Int)).1 (gR T lo hi ((k+1:Nat):Int)).2) (loopAt Tryz.f150 0):=by
        unfold qoL
        rw [el]
        exact lok_at (i:=14) 0 1 (by kernel_rfl) (by kernel_rfl) (toldF_sound inner)
      have t3:=hTb (gR T lo hi ((k+1:Nat):Int)).2
      have hB:qoB (tfT T) atF q c C (T (lo - 1)) ((k+1:Nat):Int) (gR T lo hi ((k+1:Nat):Int)).2=cond (z (gR T lo hi ((k+1:Nat):Int)).2) (T (lo - 1) - T (gR T lo hi ((k+1:Nat):Int)).2==((k+1:Nat):Int)) false:=by
        unfold qoB
        rw [atF_eq,tfT_eq,hzb,w64_id (n:=T (lo - 1) - _) (by omega) (by omega)]
      have head:∀ (y:Int→Option Out),qoT (tfT T) atF q lo hi c C (T (lo - 1)) (T (lo - 1) - T hi) (lst T z lo hi k).length (fun j=>[iA ((lst T z lo hi n).getD j 0)]) ((k+1:Nat):Int) (gR T lo hi ((k+1:Nat):Int)).2 y none=y (gAt T z lo hi ((k+1:Nat):Int)):=fun y=>by
        unfold qoT
        rw [decide_eq_true hi2,gate_pos (Sub.refl _),atF_eq,gate_pos (hz _ (by omega) r2),gTn_pos hT (by omega) r2,hB,w64_id (n:=(gR T lo hi ((k+1:Nat):Int)).2 - 1) (by omega) (by omega)]
        unfold gAt
        cases cond (z (gR T lo hi ((k+1:Nat):Int)).2) (T (lo - 1) - T (gR T lo hi ((k+1:Nat):Int)).2==((k+1:Nat):Int)) false<;>rfl
      by_cases ha:gAt T z lo hi ((k+1:Nat):Int) ≥ lo
      · have st:=qo_stepA (tfT T) atF q lo hi c C (T (lo - 1)) (T (lo - 1) - T hi) (lst T z lo hi k).length (fun j=>[iA ((lst T z lo hi n).getD j 0)]) ((k+1:Nat):Int) (gR T lo hi ((k+1:Nat):Int)).1 (gR T lo hi ((k+1:Nat):Int)).2
        rw [head] at st
        unfold qoA at st
        rw [decide_eq_true ha,apB_t (by omega),w64_next (by omega)] at st
        have e1:lst T z lo hi (k+1)=lst T z lo hi k ++ [gAt T z lo hi ((k+1:Nat):Int)]:=by
          show lst T z lo hi k ++ (if _ then _ else _)=_
          rw [if_pos ha]
        have e2:(lst T z lo hi (k+1)).length=(lst T z lo hi k).length+1:=by rw [e1,List.length_append]; rfl
        rw [e2]
        refine (leads_ev (finN_sub _ _) e_nil ks hL st).sub (Sub.refl _) ?_
        obtain ⟨R,hR⟩:=lst_pre T z lo hi (k+1) (n - (k+1))
        rw [show k+1+(n - (k+1))=n by omega,e1] at hR
        have hget:(lst T z lo hi n).getD (lst T z lo hi k).length 0=gAt T z lo hi ((k+1:Nat):Int):=by
          rw [hR,List.append_assoc,List.getD_eq_getElem?_getD,List.getElem?_append_right (Nat.le_refl _),Nat.sub_self]
          rfl
        exact sub_same ⟨Or.inr ⟨3,1,(lst T z lo hi k).length+1,_,_,rfl,rfl,fun j hj=>(app_i' (g:=fun j=>(lst T z lo hi n).getD j 0) hj hget).symm ▸ rfl⟩,trivial⟩
      · have st:=qo_stepS (tfT T) atF q lo hi c C (T (lo - 1)) (T (lo - 1) - T hi) (lst T z lo hi k).length (fun j=>[iA ((lst T z lo hi n).getD j 0)]) ((k+1:Nat):Int) (gR T lo hi ((k+1:Nat):Int)).1 (gR T lo hi ((k+1:Nat):Int)).2
        rw [head] at st
        unfold qoA at st
        rw [decide_eq_false ha,w64_next (by omega)] at st
        have e1:lst T z lo hi (k+1)=lst T z lo hi k:=by
          show lst T z lo hi k ++ (if _ then _ else _)=_
          rw [if_neg ha,List.append_nil]
        rw [e1]
        exact leads_ev (finS_sub _ _ _) e_nil ks hL st
    · refine leads_ev (finE_sub _ _) e_nil ks (lok_none 14) ((qo_end (tfT T) atF q lo hi c C (T (lo - 1)) (T (lo - 1) - T hi) _ _ ((n+1:Nat):Int)).trans ?_)
      rw [decide_eq_false (show ¬ ((n+1:Nat):Int)≤T (lo - 1) - T hi by omega),cond_false]
  exact key
end
end Go.Proofs.YtancjnambbkhmaaGreat

namespace Go.Proofs.YtancjnambbkhmaaGreat
open Go.Gv
open Go.Em (nw)

def zI (b:Bool):Int:=cond b 1 0
section
variable (T:Int→Int) (z:Int→Bool) (lo:Int)
/-- The places, going up. -/
def Xl:Nat→List Int
  | 0=>[]
  | d+1=>Xl d ++ ((if 1≤d then List.replicate (T (lo+(d:Nat) - 1) - T (lo+(d:Nat)) - zI (z (lo+(d:Nat)))).toNat (lo+(d:Nat) - 1) else []) ++ cond (z (lo+(d:Nat))) [lo+((d:Nat):Int)] [])
end
section
variable {T:Int→Int} {z:Int→Bool} {lo hi:Int} (hlh:lo≤hi) (mono:∀ x y,lo - 1≤x→x≤y→y≤hi→T y≤T x) (hz:∀ x,lo≤x→x≤hi→z x=true→T x+1≤T (x - 1))
include hlh mono hz
theorem lst_X : ∀ d:Nat,lo - 1+(d:Nat)≤hi→lst T z lo hi (T (lo - 1) - T (lo - 1+(d:Nat))).toNat=Xl T z lo d
  | 0,_=>by rw [show lo - 1+((0:Nat):Int)=lo - 1 by omega,Int.sub_self]; rfl
  | d + 1, hd => by
    have ih:=lst_X d (by omega)
    generalize hb:lo+((d:Nat):Int)=b
    have eb1:lo - 1+((d:Nat):Int)=b - 1:=by omega
    have eb2:lo - 1+((d+1:Nat):Int)=b:=by omega
    rw [eb1] at ih
    rw [eb2]
    have m1:=mono (lo - 1) (b - 1) (by omega) (by omega) (by omega)
    have m2:=mono (b - 1) b (by omega) (by omega) (by omega)
    have m3:=mono b hi (by omega) (by omega) (by omega)
    have uniq:∀ i:Int,T (lo - 1) - T (b - 1) < i→i≤T (lo - 1) - T b→(gR T lo hi i).2=b:=fun i h1 h2=>by
      obtain ⟨r1,r2,r3,r4,r5⟩:=gR_ok (T:=T) (i:=i) hlh (by omega) (by omega)
      rcases Int.lt_trichotomy (gR T lo hi i).2 b with h | h | h
      · have:=mono (gR T lo hi i).2 (b - 1) (by omega) (by omega) (by omega); omega
      · exact h
      · have:=mono b ((gR T lo hi i).2 - 1) (by omega) (by omega) (by omega); omega
    obtain ⟨c,hc⟩:∃ c:Nat,T (lo - 1) - T (b - 1)=(c:Int):=⟨(T (lo - 1) - T (b - 1)).toNat,by omega⟩
    obtain ⟨e,he⟩:∃ e:Nat,T (b - 1) - T b=(e:Int):=⟨(T (b - 1) - T b).toNat,by omega⟩
    have hce:(T (lo - 1) - T b).toNat=c+e:=by omega
    rw [hc,Int.toNat_natCast] at ih
    rw [hce]
    have part : ∀ j, j ≤ e → (j < e ∨ z b=false)→lst T z lo hi (c+j)=Xl T z lo d ++ (if 1≤d then List.replicate j (b - 1) else []):=fun j=>by
      induction j with
      | zero =>
        intro _ _
        rw [Nat.add_zero,ih]
        split
        · exact (List.append_nil _).symm
        · exact (List.append_nil _).symm
      | succ j ihj =>
        intro hj hor
        have hp := ihj (by omega) (by rcases hor with h | h; · exact Or.inl (by omega)
                                      · exact Or.inr h)
        have hg:gAt T z lo hi ((c+j+1:Nat):Int)=b - 1:=by
          have hu:=uniq ((c+j+1:Nat):Int) (by omega) (by omega)
          unfold gAt
          rw [hu]
          have:cond (z b) (T (lo - 1) - T b==((c+j+1:Nat):Int)) false=false:=by
            rcases hor with h | h
            · rw [beq_false_of_ne (show T (lo - 1) - T b≠((c+j+1:Nat):Int) by omega)]
              cases z b<;>rfl
            · rw [h]; rfl
          rw [this]
          rfl
        show lst T z lo hi (c+j) ++ (if gAt T z lo hi ((c+j+1:Nat):Int) ≥ lo then [gAt T z lo hi ((c+j+1:Nat):Int)] else [])=_
        rw [hp,hg,List.append_assoc]
        congr 1
        by_cases h1:1≤d
        · rw [if_pos h1,if_pos h1,if_pos (by omega),List.replicate_succ']
        · rw [if_neg h1,if_neg h1,if_neg (by omega)]
          rfl
    show _=Xl T z lo d ++ ((if 1≤d then List.replicate (T (lo+((d:Nat):Int) - 1) - T (lo+((d:Nat):Int)) - zI (z (lo+((d:Nat):Int)))).toNat (lo+((d:Nat):Int) - 1) else []) ++ cond (z (lo+((d:Nat):Int))) [lo+((d:Nat):Int)] [])
    rw [hb,he]
    cases hzb:z b with
    | false =>
      rw [part e (Nat.le_refl _) (Or.inr hzb)]
      show _=_ ++ (_ ++ [])
      rw [List.append_nil,show ((e:Int) - zI false).toNat=e by show ((e:Int) - 0).toNat=e; omega]
    | true =>
      have h1:=hz b (by omega) (by omega) hzb
      obtain ⟨e',rfl⟩:∃ e',e=e'+1:=⟨e - 1,by omega⟩
      have hp:=part e' (by omega) (Or.inl (by omega))
      have hu:=uniq ((c+e'+1:Nat):Int) (by omega) (by omega)
      have hg:gAt T z lo hi ((c+e'+1:Nat):Int)=b:=by
        unfold gAt
        rw [hu,hzb,show (T (lo - 1) - T b==((c+e'+1:Nat):Int))=true from by rw [beq_iff_eq]; omega]
        rfl
      show lst T z lo hi (c+e') ++ (if gAt T z lo hi ((c+e'+1:Nat):Int) ≥ lo then [gAt T z lo hi ((c+e'+1:Nat):Int)] else [])=_
      rw [hp,hg,if_pos (show b ≥ lo by omega),List.append_assoc]
      show _=Xl T z lo d ++ ((if 1≤d then List.replicate (((e'+1:Nat):Int) - 1).toNat (b - 1) else []) ++ [b])
      rw [show (((e'+1:Nat):Int) - 1).toNat=e' by omega]
variable {N:Int→Int} {k:Int} (hN:∀ x,lo≤x→x≤hi→N x=T x+k+zI (z x))
include hN
omit hlh in
theorem X_can:∀ d:Nat,lo+(d:Nat)≤hi→Xl T z lo (d+1)=can N lo d ++ cond (z (lo+(d:Nat))) [lo+((d:Nat):Int)] []
  | 0,_=>by
    show [] ++ ((if 1≤0 then _ else []) ++ _)=[] ++ _
    rw [if_neg (by decide)]
    rfl
  | d + 1,hd=>by
    have ih:=X_can d (by omega)
    show Xl T z lo (d+1) ++ ((if 1≤d+1 then List.replicate (T (lo+((d+1:Nat):Int) - 1) - T (lo+((d+1:Nat):Int)) - zI (z (lo+((d+1:Nat):Int)))).toNat (lo+((d+1:Nat):Int) - 1) else []) ++ cond (z (lo+((d+1:Nat):Int))) [lo+((d+1:Nat):Int)] [])=_
    rw [if_pos (by omega),ih,can_app N d lo 1]
    have e1:lo+((d+1:Nat):Int) - 1=lo+(d:Nat):=by omega
    have e2:lo+(d:Nat)+1=lo+((d+1:Nat):Int):=by omega
    rw [e1]
    have n1:=hN (lo+(d:Nat)) (by omega) (by omega)
    have n2:=hN (lo+((d+1:Nat):Int)) (by omega) (by omega)
    have m:=mono (lo+(d:Nat)) (lo+((d+1:Nat):Int)) (by omega) (by omega) hd
    have hc1:can N (lo+(d:Nat)) 1=cond (z (lo+(d:Nat))) [lo+((d:Nat):Int)] [] ++ List.replicate (T (lo+((d:Nat):Int)) - T (lo+((d+1:Nat):Int)) - zI (z (lo+((d+1:Nat):Int)))).toNat (lo+((d:Nat):Int)):=by
      show List.replicate (N (lo+(d:Nat)) - N (lo+(d:Nat)+1)).toNat (lo+(d:Nat)) ++ []=_
      have h3:z (lo+((d+1:Nat):Int))=true→T (lo+((d+1:Nat):Int))+1≤T (lo+(d:Nat)):=fun h=>by have:=hz _ (by omega) hd h; rwa [e1] at this
      rw [List.append_nil,e2,n1,n2]
      cases h1:z (lo+(d:Nat))<;>cases h2:z (lo+((d+1:Nat):Int))
      · show List.replicate (T (lo+((d:Nat):Int))+k+0 - (T (lo+((d+1:Nat):Int))+k+0)).toNat _=[] ++ List.replicate (T (lo+((d:Nat):Int)) - T (lo+((d+1:Nat):Int)) - 0).toNat _
        rw [List.nil_append]
        congr 1
        omega
      · show List.replicate (T (lo+((d:Nat):Int))+k+0 - (T (lo+((d+1:Nat):Int))+k+1)).toNat _=[] ++ List.replicate (T (lo+((d:Nat):Int)) - T (lo+((d+1:Nat):Int)) - 1).toNat _
        rw [List.nil_append]
        congr 1
        omega
      · show List.replicate (T (lo+((d:Nat):Int))+k+1 - (T (lo+((d+1:Nat):Int))+k+0)).toNat _=[lo+((d:Nat):Int)] ++ List.replicate (T (lo+((d:Nat):Int)) - T (lo+((d+1:Nat):Int)) - 0).toNat _
        rw [show (T (lo+((d:Nat):Int))+k+1 - (T (lo+((d+1:Nat):Int))+k+0)).toNat=(T (lo+((d:Nat):Int)) - T (lo+((d+1:Nat):Int)) - 0).toNat+1 by omega]
        rfl
      · have:=h3 h2
        show List.replicate (T (lo+((d:Nat):Int))+k+1 - (T (lo+((d+1:Nat):Int))+k+1)).toNat _=[lo+((d:Nat):Int)] ++ List.replicate (T (lo+((d:Nat):Int)) - T (lo+((d+1:Nat):Int)) - 1).toNat _
        rw [show (T (lo+((d:Nat):Int))+k+1 - (T (lo+((d+1:Nat):Int))+k+1)).toNat=(T (lo+((d:Nat):Int)) - T (lo+((d+1:Nat):Int)) - 1).toNat+1 by omega]
        rfl
    rw [hc1,List.append_assoc,List.append_assoc,List.append_assoc]
theorem lst_can:lst T z lo hi (T (lo - 1) - T hi).toNat=can N lo (hi - lo).toNat ++ cond (z hi) [hi] []:=by
  have h1:=lst_X hlh mono hz ((hi - lo).toNat+1) (by omega)
  have h2:=X_can mono hz hN (hi - lo).toNat (by omega)
  rw [show lo - 1+(((hi - lo).toNat+1:Nat):Int)=hi by omega] at h1
  rw [show lo+((hi - lo).toNat:Int)=hi by omega] at h2
  rw [h1,h2]
end
theorem pl'_spec {p0:BP} {B:Nat} {lo hi:Int} (h5:p0.1≤5) (hB:B≤400) (hp:PBP p0 B) (hlo:-1125899906842624≤lo) (hhi:hi≤1125899906842624):FSpec Tryz.prog 150 [bpP p0,iA lo,iA hi] (lsJ (cond (plB (btl p0.2 p0.1) lo hi) [] (plcP (btl p0.2 p0.1,bval p0.1 p0.2) lo hi))):=by
  have hcut:FSpec Tryz.prog 144 [bpP p0] (bpP (btl p0.2 p0.1,p0.2)):=pc_spec p0.2 (by omega)
  have hle:btl p0.2 p0.1≤p0.1:=tl_le _ _
  have ebad:∀ h:plB (btl p0.2 p0.1) lo hi=true,cond (decide (((btl p0.2 p0.1:Nat):Int) < 2)) true (decide (lo > hi))=true:=fun h=>h
  cases hb:plB (btl p0.2 p0.1) lo hi with
  | true =>
    refine FSpec.of_res (r:=nilA) (gspec e_nil (k_cons kS_ok (k_cons (kno_ok _) k_nil)) Tryz.func150 (by kernel_rfl) (by kernel_rfl) (lok_none 10) rfl ((qp_ev0 p0 (btl p0.2 p0.1,p0.2) lo hi).trans ?_)) fun _ _=>nil_like
    unfold gP
    rw [gate_pos hcut,show cond (decide ((((btl p0.2 p0.1,p0.2):BP).1:Int) < 2)) true (decide (lo > hi))=true from hb]
    rfl
  | false =>
    have hb':cond (decide (((btl p0.2 p0.1:Nat):Int) < 2)) true (decide (lo > hi))=false:=hb
    have g:2≤btl p0.2 p0.1∧lo≤hi:=by
      by_cases g:((btl p0.2 p0.1:Nat):Int) < 2
      · rw [decide_eq_true g] at hb'; cases hb'
      · rw [decide_eq_false g,cond_false] at hb'
        have:=of_decide_eq_false hb'
        omega
    generalize hpe:((btl p0.2 p0.1,p0.2):BP)=p at *
    have h2:2≤p.1:=by rw [← hpe]; exact g.1
    have hp5:p.1≤5:=by rw [← hpe]; show btl p0.2 p0.1≤5; omega
    have hpb:PBP p B:=by rw [← hpe]; exact fun i hi=>hp i (by have:i < btl p0.2 p0.1:=hi; omega)
    have ht:BT p:=by rw [← hpe]; exact btl_top _ _
    have hPly:((btl p0.2 p0.1,bval p0.1 p0.2):Ply)=bPly p:=by
      rw [← hpe]
      show _=(btl p0.2 p0.1,bval (btl p0.2 p0.1) p0.2)
      rw [bval_cut]
    have hb10:B≤10000:=by omega
    obtain ⟨K,hK,hpos,hend⟩:=ec_end hp5 hb10 hpb ht
    obtain ⟨q1,q2,q3,q4⟩:=on_len h2 hp5 hb10 hpb ht hK hpos hend
    have hbq:oBd B 4≤700000:=by
      unfold oBd
      have e:(6:Nat) ^ 4=1296:=by decide
      rw [e]
      omega
    obtain ⟨r,hr1,hr4,hsp,hgo,hse⟩:=sc_end q1 q2 hbq q4 q3
    have hCb:∀ i,i < r+1→(sc (onP p K) i).1≤1000∧PBP (sc (onP p K) i) 1000000000:=fun i hi=>by
      cases i with
      | zero=>exact ⟨by show (onP p K).1≤1000; omega,q4.le (by omega)⟩
      | succ i =>
        obtain ⟨_,l2,_,b2,_⟩:=sc_ok q1 q2 hbq q4 q3 i (fun j hj=>hsp j (by omega)) (by omega)
        exact ⟨by omega,b2.le (sBd_le hbq (by omega))⟩
    have hT:∀ x,lo - 1≤x→x≤hi→FSpec Tryz.prog 163 [bcA (r+1) (sc (onP p K)),iA x] (iA (tnN (sc (onP p K)) (r+1) x)):=fun x h1 h3=>tn_spec (by omega) (by omega) hCb ⟨by omega,by omega⟩
    have hTb:∀ x,0≤tnN (sc (onP p K)) (r+1) x∧tnN (sc (onP p K)) (r+1) x≤1000:=fun x=>by
      have:=tcn_le (fun i=>bS (sc (onP p K) i) x) (r+1)
      unfold tnN
      omega
    have cts:=fun {a b:Int} (hab:a≤b)=>counts h2 hp5 hB hpb ht hK hpos hend hr1 hr4 hsp hse hab
    have hF2:2≤(finP (bPly p)).1:=h2
    have hFc:Cn (finP (bPly p)).1 (finP (bPly p)).2:=fin_Cn (bV_Cn p)
    have hFt:=fin_Tp ht.tp
    have hz0:=bS_zero h2 hp5 hB hpb ht hK hpos hend
    have hab:=fun x=>rt_ab hF2 hFc hFt x
    have hzI:∀ x,(if hor (finP (bPly p)).2 x 0 (finP (bPly p)).1=0 then (1:Int) else 0)=zI (bS (onP p K) x==0):=fun x=>by
      by_cases h:hor (finP (bPly p)).2 x 0 (finP (bPly p)).1=0
      · rw [if_pos h,(hz0 x).2 h]; rfl
      · rw [if_neg h,beq_false_of_ne (fun e=>h ((hz0 x).1 e))]; rfl
    have mono:∀ x y,lo - 1≤x→x≤y→y≤hi→tnN (sc (onP p K)) (r+1) y≤tnN (sc (onP p K)) (r+1) x:=fun x y _ hxy _=>by
      have c1:=cts hxy
      by_cases e:x=y
      · rw [e]; omega
      · have d:=rt_down hF2 hFc hFt (show x < y by omega)
        have a:=hab y
        rw [hzI y] at a
        have:0≤zI (bS (onP p K) y==0):=by cases (bS (onP p K) y==0)<;>decide
        omega
    have hzz:∀ x,lo≤x→x≤hi→(bS (onP p K) x==0)=true→tnN (sc (onP p K)) (r+1) x+1≤tnN (sc (onP p K)) (r+1) (x - 1):=fun x _ _ h=>by
      have c1:=cts (show x - 1≤x by omega)
      have d:=rt_down hF2 hFc hFt (show x - 1 < x by omega)
      have a:=hab x
      rw [hzI x,h] at a
      have:zI true=1:=rfl
      omega
    have hNN:∀ x,lo≤x→x≤hi→rtN (finP (bPly p)) x=tnN (sc (onP p K)) (r+1) x+(rtC (finP (bPly p)) lo - tnN (sc (onP p K)) (r+1) lo)+zI (bS (onP p K) x==0):=fun x h1 _=>by
      have c1:=cts h1
      have a:=hab x
      rw [hzI x] at a
      omega
    have hlist:=lst_can (z:=fun x=>bS (onP p K) x==0) g.2 mono hzz hNN
    have hcode:=plcP_can (p:=bPly p) h2 (bV_Cn p) ht.tp g.2
    have hlast:(if rtN (finP (bPly p)) hi > rtC (finP (bPly p)) hi then [hi] else [])=cond (bS (onP p K) hi==0) [hi] []:=by
      have a:=hab hi
      rw [hzI hi] at a
      cases hh:(bS (onP p K) hi==0)<;>rw [hh] at a
      · rw [if_neg (by have:zI false=0:=rfl; omega)]; rfl
      · rw [if_pos (by have:zI true=1:=rfl; omega)]; rfl
    rw [hlast,← hlist] at hcode
    have tb1:=hTb (lo - 1)
    have tb2:=hTb hi
    have hn:(((tnN (sc (onP p K)) (r+1) (lo - 1) - tnN (sc (onP p K)) (r+1) hi).toNat:Nat):Int)=tnN (sc (onP p K)) (r+1) (lo - 1) - tnN (sc (onP p K)) (r+1) hi:=by
      have:=mono (lo - 1) hi (by omega) (by omega) (Int.le_refl _)
      omega
    have el:w64 (lo - 1)=lo - 1:=w64_id (by omega) (by omega)
    have lead:=qo_leads (q:=onP p K) (c:=r+1) (C:=sc (onP p K)) (T:=tnN (sc (onP p K)) (r+1)) (z:=fun x=>bS (onP p K) x==0) g.2 hlo hhi hT hTb (fun x h1 h3=>at_ok (B:=oBd B 4) (by omega) (by omega) q4 ⟨by omega,by omega⟩) (fun _=>rfl) hn
    rw [cond_false,hPly,hcode]
    generalize (tnN (sc (onP p K)) (r+1) (lo - 1) - tnN (sc (onP p K)) (r+1) hi).toNat=n at *
    generalize lst (tnN (sc (onP p K)) (r+1)) (fun x=>bS (onP p K) x==0) lo hi n=L at *
    have eG:qpG (tfT (tnN (sc (onP p K)) (r+1))) lo (r+1) (sc (onP p K))=tnN (sc (onP p K)) (r+1) (lo - 1):=by unfold qpG; rw [el,tfT_eq]
    have eL:qpL (tfT (tnN (sc (onP p K)) (r+1))) lo hi (r+1) (sc (onP p K))=tnN (sc (onP p K)) (r+1) (lo - 1) - tnN (sc (onP p K)) (r+1) hi:=by unfold qpL; rw [eG,tfT_eq,w64_id (by omega) (by omega)]
    have hL:LOk Tryz.prog (oneL 10 (toldN keepQO [(10,0,1)] (.a 3 1 0 fun q=>[iA (L.getD q 0)]) [none] (qpO (onP p K) lo hi (r+1) (sc (onP p K)) (qpG (tfT (tnN (sc (onP p K)) (r+1))) lo (r+1) (sc (onP p K))) (qpL (tfT (tnN (sc (onP p K)) (r+1))) lo hi (r+1) (sc (onP p K))) 0 (fun q=>[iA (L.getD q 0)]) 1) (.exit 0) (qpO (onP p K) lo hi (r+1) (sc (onP p K)) (qpG (tfT (tnN (sc (onP p K)) (r+1))) lo (r+1) (sc (onP p K))) (qpL (tfT (tnN (sc (onP p K)) (r+1))) lo hi (r+1) (sc (onP p K))) L.length (fun q=>[iA (L.getD q 0)]) ((n+1:Nat):Int)))) (bodyOf Tryz.f150):=by
      rw [eG,eL]
      exact lok_at (i:=10) 0 2 (by kernel_rfl) (by kernel_rfl) (toldN_sound lead)
    refine gspec e_nil (k_cons kS_ok (k_cons kS_ok (k_cons kS_ok (k_cons kS_ok k_nil)))) Tryz.func150 (by kernel_rfl) (by kernel_rfl) hL rfl ((qp_ev (tfT (tnN (sc (onP p K)) (r+1))) p0 p (onP p K) lo hi (r+1) (sc (onP p K)) L.length (fun q=>L.getD q 0) ((n+1:Nat):Int)).trans ?_)
    unfold qpH gP
    have hb2:cond (decide ((p.1:Int) < 2)) true (decide (lo > hi))=false:=by
      rw [decide_eq_false (by omega),decide_eq_false (by omega)]
      rfl
    rw [gate_pos hcut,hb2,cond_false,gate_pos (on_spec hp5 (by omega) hb10 hpb ht hK hpos hend),gate_pos (su'_spec q1 q2 hbq q4 q3 hr1 hr4 hsp hgo hse),el,gTn_pos hT (by omega) (by omega),gTn_pos hT (by omega) (Int.le_refl _),gate_pos (Sub.refl _)]
    have eF:(fun j=>[iA (L.getD (0+j) 0)])=fun j=>[iA (L.getD j 0)]:=funext fun j=>by rw [Nat.zero_add]
    rw [eF]
    rfl
end Go.Proofs.YtancjnambbkhmaaGreat

namespace Go.Proofs.YtancjnambbkhmaaGreat
open Go.Gv

def gWd (wf:Int→Bool):List AV→Option AV
  | [.x (.int .i64 n)]=>some (bA (wf n))
  | _=>none
def gFr (ff:Int→Int→Bool):List AV→Option AV
  | [.x (.int .i64 a),.x (.int .i64 b)]=>some (bA (ff a b))
  | _=>none
theorem gWd_ok {f:Nat} {wf:Int→Bool} (h:∀ n,FSpec Tryz.prog f [iA n] (bA (wf n))):EOk Tryz.prog ⟨f,gWd wf⟩:=fun args r hr=>by
  simp only [gWd] at hr
  split at hr
  · cases hr; exact Or.inl (h _)
  · cases hr
theorem gFr_ok {f:Nat} {ff:Int→Int→Bool} (h:∀ a b,FSpec Tryz.prog f [iA a,iA b] (bA (ff a b))):EOk Tryz.prog ⟨f,gFr ff⟩:=fun args r hr=>by
  simp only [gFr] at hr
  split at hr
  · cases hr; exact Or.inl (h _ _)
  · cases hr
def wdB (n:Int):Bool:=cond (decide (n < -2147483648)) true (decide (n > 2147483648))
def frB (a b:Int):Bool:=cond (decide (a < -1125899906842624)) true (decide (b > 1125899906842624))
theorem wd_spec (n:Int):FSpec Tryz.prog 140 [iA n] (bA (wdB n)):=gspec e_nil k_nil Tryz.func140 (by kernel_rfl) (by kernel_rfl) noL_ok rfl (by kernel_rfl)
theorem fr_spec (a b:Int):FSpec Tryz.prog 141 [iA a,iA b] (bA (frB a b)):=gspec e_nil k_nil Tryz.func141 (by kernel_rfl) (by kernel_rfl) noL_ok rfl (by kernel_rfl)
section
variable (wf:Int→Bool) (n:Nat) (f:Nat→Int) (lo hi i:Int) (m:Nat) (Y:Nat→List AV)
variable (ff:Int→Int→Bool) (h:Nat→Bg) (L:List Int)
def rBad (e:Int):Option Out:=some (Out.of (.tup [nilA,iA e]))
end
section
variable (n:Nat) (f:Nat→Int) (m:Nat) (g:Nat→Int) (i:Int)
end
end Go.Proofs.YtancjnambbkhmaaGreat

namespace Go.Proofs.YtancjnambbkhmaaGreat
open Go.Gv

theorem fr_ms (a b:Int):frB a b=!msI a b:=by
  unfold frB msI
  by_cases g1:a < -1125899906842624
  · rw [decide_eq_true g1,decide_eq_false (show ¬ a ≥ -1125899906842624 by omega)]; rfl
  · rw [decide_eq_false g1,decide_eq_true (show a ≥ -1125899906842624 by omega),cond_false,cond_true]
    by_cases g2:b > 1125899906842624
    · rw [decide_eq_true g2,decide_eq_false (show ¬ b≤1125899906842624 by omega)]; rfl
    · rw [decide_eq_false g2,decide_eq_true (show b≤1125899906842624 by omega)]; rfl
end Go.Proofs.YtancjnambbkhmaaGreat

namespace Go.Proofs.YtancjnambbkhmaaGreat
open Go.Gv

end Go.Proofs.YtancjnambbkhmaaGreat

namespace Go.Proofs.YtancjnambbkhmaaGreat
open Go.Gv

def tcA (n:Nat) (p:Nat→Int) (lo sp at' i:Int) (m:Nat) (Y:Nat→List AV):St:=mkS 181 [(0,sJ n p),(1,iA lo),(2,iA sp),(3,iA at'),(11,.osl 0 1 0 m),(12,iA i)] [.a 3 1 m Y]
def keepTA:List Nat:=[0,1,2,3,11,12]
def tcB (n:Nat) (q:Nat→Int) (lo sp at':Int) (m:Nat) (A:Nat→Int) (i:Int):St:=mkS 181 [(1,iA lo),(2,iA sp),(3,iA at'),(11,sJ n q),(13,sJ m A),(15,iA i)] []
def keepTB:List Nat:=[1,2,3,11,13,15]
section
variable (n:Nat) (p q:Nat→Int) (lo sp at' i:Int) (m:Nat) (A:Nat→Int) (Y:Nat→List AV) (pf:Int→Int→Int)
variable (x s t:Int) (z:Bool)
end
end Go.Proofs.YtancjnambbkhmaaGreat

namespace Go.Proofs.YtancjnambbkhmaaGreat
open Go.Gv

section
variable (n:Nat) (q:Nat→Int) (lo sp at':Int) (m:Nat) (A:Nat→Int) (i:Int)
end
abbrev RF:Type:=Nat→(Nat→Int)→Int→Int→List Int × Int
abbrev TF:Type:=Nat→(Nat→Int)→Int→Int
section
variable (rf:RF) (tf:TF) (pf:Int→Int→Int) (n:Nat) (p:Nat→Int) (lo sp at':Int) (Q:Nat→Int)
def tcLo:Int:=w64 (pf lo 4000 - 2000)
def tcSp:Int:=w64 (1+pf sp 3000)
def tcHi:Int:=w64 (tcLo pf lo+tcSp pf sp)
def tO2:List Int × Int:=rf n Q (tcLo pf lo) (tcHi pf lo sp)
def tcA2 (k:Nat):Int:=(tO2 rf pf n lo sp Q).1.getD k 0
def tcM2:Nat:=(tO2 rf pf n lo sp Q).1.length
variable (i' j':Int)
noncomputable def l1:LFun:=toldN keepTA [(11,0,1)] (.a 3 1 0 fun k=>[iA (Q k)]) [none] (tcA n p lo sp at' 0 0 fun k=>[iA (Q k)]) (.exit 0) (tcA n p lo sp at' (n:Nat) n fun k=>[iA (Q k)])
noncomputable def l2:LFun:=toldF keepTB [] (tcB n Q (tcLo pf lo) (tcSp pf sp) at' (tcM2 rf pf n lo sp Q) (tcA2 rf pf n lo sp Q) 0) (.exit 2) (tcB n Q (tcLo pf lo) (tcSp pf sp) at' (tcM2 rf pf n lo sp Q) (tcA2 rf pf n lo sp Q) i')
variable (z:Bool)
end
end Go.Proofs.YtancjnambbkhmaaGreat

namespace Go.Proofs.YtancjnambbkhmaaGreat
open Go.Gv
open Go.Sturm (hq)

/-- What the law asks of the places. -/
structure CertOk (L:List Int) (lo hi:Int):Prop where
  rng:∀ y,y ∈ L→lo≤y∧y≤hi
  srt:L.Pairwise (·≤·)
theorem CertOk.at {L:List Int} {lo hi:Int} (h:CertOk L lo hi) {i:Nat} (hi':i < L.length):lo≤L.getD i 0∧L.getD i 0≤hi:=by
  rw [List.getD_eq_getElem?_getD,List.getElem?_eq_getElem hi']
  exact h.rng _ (List.getElem_mem hi')
section
variable {p:Ply} (h2:2≤p.1) (hc:Cn p.1 p.2) (ht:Tp p) {lo hi:Int} (hlh:lo≤hi)
include h2 hc ht hlh
end
end Go.Proofs.YtancjnambbkhmaaGreat

namespace Go.Proofs.YtancjnambbkhmaaGreat
open Go.Gv

section
end
section
end
end Go.Proofs.YtancjnambbkhmaaGreat

namespace Go.Proofs.YtancjnambbkhmaaGreat
open Go.Gv

section
end
end Go.Proofs.YtancjnambbkhmaaGreat

namespace Go.Proofs.YtancjnambbkhmaaGreat
open Go.Gv
open Go.Sturm (Nest Pol hq cA cB)

section
variable {c:Int} {w:Nat→Int} {n:Nat} (hc:c≠0) (hn:1≤n)
include hc
include hn
end
/-- The whole numbers among them, each 65536 times. -/
def el (z:Int→Bool):Int→Nat→List Int
  | _,0=>[]
  | a,d+1=>cond (z a) [65536*a] [] ++ el z (a+1) d
end Go.Proofs.YtancjnambbkhmaaGreat

namespace Go.Proofs.YtancjnambbkhmaaGreat
open Go.Gv

section
end
section
end
end Go.Proofs.YtancjnambbkhmaaGreat

namespace Go.Proofs.YtancjnambbkhmaaGreat
open Go.Gv

section
end
end Go.Proofs.YtancjnambbkhmaaGreat

namespace Go.Proofs.YtancjnambbkhmaaGreat
open Go.Gv

section
end
end Go.Proofs.YtancjnambbkhmaaGreat

namespace Go.Proofs.YtancjnambbkhmaaGreat
open Go.Gv

/-- Built slices of this type are told as frozen. -/
def born (t:Nat):MEntry:=⟨bornK t,fun _ _ _=>none,none⟩
theorem born_ok {P:Program} (t:Nat):MEOk P (born t):=⟨⟨fun _ _ _ _ h=>(by cases h),fun _ _ _ _ _ _ h=>(by cases h)⟩,fun _ h=>(by cases h)⟩
def noZ:Nat→Option ZFun:=fun _=>none
theorem noZ_ok:∀ i h,noZ i=some h→ZSoundN 0 h:=fun _ _ h=>by cases h
def v3 (a b c:Int):AV:=.agg [iA a,iA b,iA c]
def p2A (o d:Int):AV:=.sl 1 2 (chunk [iA o,iA d] 1)
def p1A (x:Int):AV:=.sl 2 1 (chunk (wC x) 2)
noncomputable def gY (f:Nat) (l:List AV) (p:Ply) (o:Option Out):Option Out:=gate (FSpec Tryz.prog f l (PlyA p)) o
noncomputable def gW (f:Nat) (l:List AV) (x:Int) (o:Option Out):Option Out:=gate (FSpec Tryz.prog f l (wA x)) o
section
variable (wh po tm pp:List AV→Ply) (tw pw mi:List AV→Int)
noncomputable def rgK:List KEntry:=[kS Tryz.prog 255 (fun l=>PlyA (wh l)),kS Tryz.prog 254 (fun l=>PlyA (po l)),kS Tryz.prog 256 (fun l=>PlyA (tm l)),kS Tryz.prog 257 (fun l=>PlyA (pp l)),kS Tryz.prog 258 woG,kS Tryz.prog 259 (fun l=>wA (tw l)),kS Tryz.prog 260 (fun l=>wA (pw l)),kS Tryz.prog 261 (fun l=>wA (mi l))]
def rgC (o d:Int):Ply:=po [PlyA (wh [p2A o d])]
def rgS (o d:Int):Ply:=tm [PlyA (rgC wh po o d),PlyA (rgC wh po o d)]
noncomputable def rgI (o d:Int) (x:Option Out):Option Out:=gY 255 [p2A o d] (wh [p2A o d]) (gY 254 [PlyA (wh [p2A o d])] (rgC wh po o d) (gY 256 [PlyA (rgC wh po o d),PlyA (rgC wh po o d)] (rgS wh po tm o d) x))
def rW2 (w:Int):Int:=tw [wA w,wA w]
def rM2 (t:Int):Int:=mi [wA (rW2 tw t)]
def rD2 (w t:Int):Int:=pw [wA (rW2 tw w),wA (rM2 tw mi t)]
def rDp (w t:Int):Ply:=po [p1A (rD2 tw pw mi w t)]
def rIn (a:Ply) (w t:Int):Ply:=pp [PlyA a,PlyA (rDp po tw pw mi w t)]
def rF2 (w:Int):Int:=tw [wA (rW2 tw w),wA (-4)]
def rFp (w:Int):Ply:=po [p1A (rF2 tw w)]
def rOu (b:Ply) (w:Int):Ply:=tm [PlyA b,PlyA (rFp po tw w)]
def rSq (a:Ply) (w t:Int):Ply:=tm [PlyA (rIn po pp tw pw mi a w t),PlyA (rIn po pp tw pw mi a w t)]
def rRe (a b:Ply) (w t:Int):Ply:=pp [PlyA (rSq po tm pp tw pw mi a w t),PlyA (rOu po tm tw b w)]
noncomputable def rgZ (a b:Ply) (w t:Int):Option Out :=
  gW 258 [iA w] w (gW 258 [iA t] t
  (gW 259 [wA w,wA w] (rW2 tw w) (gW 259 [wA t,wA t] (rW2 tw t) (gW 261 [wA (rW2 tw t)] (rM2 tw mi t) (gW 260 [wA (rW2 tw w),wA (rM2 tw mi t)] (rD2 tw pw mi w t)
  (gY 254 [p1A (rD2 tw pw mi w t)] (rDp po tw pw mi w t) (gY 257 [PlyA a,PlyA (rDp po tw pw mi w t)] (rIn po pp tw pw mi a w t)
  (gW 259 [wA w,wA w] (rW2 tw w) (gW 258 [iA (-4)] (-4) (gW 259 [wA (rW2 tw w),wA (-4)] (rF2 tw w) (gY 254 [p1A (rF2 tw w)] (rFp po tw w) (gY 256 [PlyA b,PlyA (rFp po tw w)] (rOu po tm tw b w)
  (gY 256 [PlyA (rIn po pp tw pw mi a w t),PlyA (rIn po pp tw pw mi a w t)] (rSq po tm pp tw pw mi a w t) (gY 257 [PlyA (rSq po tm pp tw pw mi a w t),PlyA (rOu po tm tw b w)] (rRe po tm pp tw pw mi a b w t) (some (Out.of (PlyA (rRe po tm pp tw pw mi a b w t))))))))))))))))))
def pl0 (s:Ply):Ply:=pp [nilA,PlyA s]
def pl1 (a s:Ply):Ply:=pp [PlyA a,PlyA s]
noncomputable def gp0 (s:Ply) (x:Option Out):Option Out:=gY 257 [nilA,PlyA s] (pl0 pp s) x
noncomputable def gp1 (a s:Ply) (x:Option Out):Option Out:=gY 257 [PlyA a,PlyA s] (pl1 pp a s) x
variable (o0 o1 o2 d0 d1 d2 w t:Int)
def rA2:Ply:=pl1 pp (pl0 pp (rgS wh po tm o0 d0)) (rgS wh po tm o1 d1)
def rA3:Ply:=pl1 pp (rA2 wh po tm pp o0 o1 d0 d1) (rgS wh po tm o2 d2)
theorem rg_ev0:evZ Tryz.prog [] (rgK wh po tm pp tw pw mi) [born 45,born 237] noL noZ Tryz.f247 [v3 o0 o1 o2,v3 d0 d1 d2,iA 0,iA w,iA t] ret =
    rgI wh po tm o0 d0 (gp0 pp (rgS wh po tm o0 d0) (rgI wh po tm o1 d1 (gp1 pp (pl0 pp (rgS wh po tm o0 d0)) (rgS wh po tm o1 d1) (gp0 pp (rgS wh po tm o1 d1)
    (rgI wh po tm o2 d2 (gp1 pp (rA2 wh po tm pp o0 o1 d0 d1) (rgS wh po tm o2 d2) (gp1 pp (pl0 pp (rgS wh po tm o1 d1)) (rgS wh po tm o2 d2)
    (rgZ po tm pp tw pw mi (rA3 wh po tm pp o0 o1 o2 d0 d1 d2) (pl1 pp (pl0 pp (rgS wh po tm o1 d1)) (rgS wh po tm o2 d2)) w t)))))))):=by kernel_rfl
theorem rg_ev1:evZ Tryz.prog [] (rgK wh po tm pp tw pw mi) [born 45,born 237] noL noZ Tryz.f247 [v3 o0 o1 o2,v3 d0 d1 d2,iA 1,iA w,iA t] ret =
    rgI wh po tm o0 d0 (gp0 pp (rgS wh po tm o0 d0) (gp0 pp (rgS wh po tm o0 d0) (rgI wh po tm o1 d1 (gp1 pp (pl0 pp (rgS wh po tm o0 d0)) (rgS wh po tm o1 d1)
    (rgI wh po tm o2 d2 (gp1 pp (rA2 wh po tm pp o0 o1 d0 d1) (rgS wh po tm o2 d2) (gp1 pp (pl0 pp (rgS wh po tm o0 d0)) (rgS wh po tm o2 d2)
    (rgZ po tm pp tw pw mi (rA3 wh po tm pp o0 o1 o2 d0 d1 d2) (pl1 pp (pl0 pp (rgS wh po tm o0 d0)) (rgS wh po tm o2 d2)) w t)))))))):=by kernel_rfl
theorem rg_ev2:evZ Tryz.prog [] (rgK wh po tm pp tw pw mi) [born 45,born 237] noL noZ Tryz.f247 [v3 o0 o1 o2,v3 d0 d1 d2,iA 2,iA w,iA t] ret =
    rgI wh po tm o0 d0 (gp0 pp (rgS wh po tm o0 d0) (gp0 pp (rgS wh po tm o0 d0) (rgI wh po tm o1 d1 (gp1 pp (pl0 pp (rgS wh po tm o0 d0)) (rgS wh po tm o1 d1) (gp1 pp (pl0 pp (rgS wh po tm o0 d0)) (rgS wh po tm o1 d1)
    (rgI wh po tm o2 d2 (gp1 pp (rA2 wh po tm pp o0 o1 d0 d1) (rgS wh po tm o2 d2)
    (rgZ po tm pp tw pw mi (rA3 wh po tm pp o0 o1 o2 d0 d1 d2) (pl1 pp (pl0 pp (rgS wh po tm o0 d0)) (rgS wh po tm o1 d1)) w t)))))))):=by kernel_rfl
end
end Go.Proofs.YtancjnambbkhmaaGreat

namespace Go.Proofs.YtancjnambbkhmaaGreat
open Go.Gv

def decY:AV→Ply
  | .sl _ n el=>(n,fun i=>decW (.agg (el i)))
  | _=>(0,fun _=>0)
theorem decY_p (p:Ply):decY (PlyA p)=p:=by
  obtain ⟨n,f⟩:=p
  show ((n,fun i=>decW (wA (f i))):Ply)=(n,f)
  simp only [decW_w]
def decJ:AV→Ply
  | .sl _ n el=>(n,fun i=>decI ((el i).getD 0 .any))
  | _=>(0,fun _=>0)
def cf (o d:Int):Nat→Int
  | 0=>o
  | 1=>d
  | _=>0
def c0 (x:Int):Nat→Int
  | 0=>x
  | _=>0
theorem cf_Cn (o d:Int):Cn 2 (cf o d):=fun i hi=>by
  match i,hi with
  | i+2,_=>rfl
theorem c0_Cn (x:Int):Cn 1 (c0 x):=fun i hi=>by
  match i,hi with
  | i+1,_=>rfl
theorem decJ_p (o d:Int):decJ (p2A o d)=(2,cf o d):=by
  show ((2,fun i=>decI ((chunk [iA o,iA d] 1 i).getD 0 .any)):Ply)=(2,cf o d)
  congr 1
  funext i
  match i with
  | 0=>rfl
  | 1=>rfl
  | i+2 =>
    unfold chunk
    rw [List.drop_eq_nil_of_le (by simp)]
    rfl
theorem decY_1 (x:Int):decY (p1A x)=(1,c0 x):=by
  show ((1,fun i=>decW (.agg (chunk (wC x) 2 i))):Ply)=(1,c0 x)
  congr 1
  funext i
  match i with
  | 0=>exact decW_w x
  | i+1 =>
    unfold chunk
    rw [List.drop_eq_nil_of_le (by simp only [wC,List.length_cons,List.length_nil]; omega)]
    rfl
noncomputable def poY (p:Ply):Ply:=(tl p.2 p.1,p.2)
noncomputable def tmY (p q:Ply):Ply:=(tl (psm p.2 q.2 p.1) (p.1+q.1 - 1),psm p.2 q.2 p.1)
noncomputable def ppY (p q:Ply):Ply:=(tl (padd p.2 q.2) (max p.1 q.1),padd p.2 q.2)
def whC (l:List AV):Ply:=decJ (a0 l)
noncomputable def poC (l:List AV):Ply:=poY (decY (a0 l))
noncomputable def tmC (l:List AV):Ply:=tmY (decY (a0 l)) (decY (a1 l))
noncomputable def ppC (l:List AV):Ply:=ppY (decY (a0 l)) (decY (a1 l))
def twC (l:List AV):Int:=decW (a0 l)*decW (a1 l)
def pwC (l:List AV):Int:=decW (a0 l)+decW (a1 l)
def miY (l:List AV):Int:=-decW (a0 l)
theorem poC_p (p:Ply):poC [PlyA p]=poY p:=congrArg poY (decY_p p)
theorem tmC_p (p q:Ply):tmC [PlyA p,PlyA q]=tmY p q:=by
  show tmY (decY (PlyA p)) (decY (PlyA q))=_
  rw [decY_p,decY_p]
theorem ppC_p (p q:Ply):ppC [PlyA p,PlyA q]=ppY p q:=by
  show ppY (decY (PlyA p)) (decY (PlyA q))=_
  rw [decY_p,decY_p]
def zP0:Ply:=(0,fun _=>0)
theorem ppC_0 (q:Ply):ppC [nilA,PlyA q]=ppY zP0 q:=by
  show ppY (decY nilA) (decY (PlyA q))=_
  rw [decY_p]
  rfl
theorem twC_w (x y:Int):twC [wA x,wA y]=x*y:=by
  show decW (wA x)*decW (wA y)=_
  rw [decW_w,decW_w]
theorem pwC_w (x y:Int):pwC [wA x,wA y]=x+y:=by
  show decW (wA x)+decW (wA y)=_
  rw [decW_w,decW_w]
theorem miY_w (x:Int):miY [wA x]=-x:=congrArg (fun y:Int=>-y) (decW_w x)
structure Gd (p:Ply) (k B:Nat):Prop where
  len:p.1≤k
  cn:Cn p.1 p.2
  zw:∀ i,Zw (p.2 i)≤B
theorem Gd.mono {p:Ply} {k B C:Nat} (h:Gd p k B) (hB:B≤C):Gd p k C:=⟨h.len,h.cn,fun i=>Nat.le_trans (h.zw i) hB⟩
theorem gd_0:Gd zP0 3 0:=⟨Nat.zero_le _,fun _ _=>rfl,fun _=>Nat.le_of_eq Zw_zero⟩
theorem gd_po {p:Ply} {k B:Nat} (h:Gd p k B):Gd (poY p) k B:=⟨Nat.le_trans (tl_le _ _) h.len,tl_Cn h.cn,h.zw⟩
theorem gd_pp {p q:Ply} {k B:Nat} (h:Gd p k B) (g:Gd q k B):Gd (ppY p q) k (B+1):=by
  refine ⟨Nat.le_trans (tl_le _ _) (Nat.max_le.2 ⟨h.len,g.len⟩),tl_Cn (fun i hi=>?_),fun i=>Zw_add (h.zw i) (g.zw i)⟩
  show p.2 i+q.2 i=0
  rw [h.cn i (by omega),g.cn i (by omega)]
  rfl
theorem zw_psm {f g:Nat→Int} {n A B:Nat} (hf:Cn n f) (ha:∀ i,Zw (f i)≤A) (hb:∀ i,Zw (g i)≤B) (q:Nat):∀ i,Zw (psm f g i q)≤A+B+min i n
  | 0=>by show Zw 0≤_; rw [Zw_zero]; exact Nat.zero_le _
  | i + 1 => by
    show Zw (psm f g i q+if i≤q then f i*g (q - i) else 0)≤_
    have ih:=zw_psm hf ha hb q i
    by_cases hin:i < n
    · have h2:Zw (if i≤q then f i*g (q - i) else 0)≤A+B+min i n:=by
        by_cases hq:i≤q
        · rw [if_pos hq]
          have:=Zw_mul (f i) (g (q - i))
          have:=ha i
          have:=hb (q - i)
          omega
        · rw [if_neg hq,Zw_zero]; exact Nat.zero_le _
      have:=Zw_add ih h2
      have e1:min i n=i:=Nat.min_eq_left (by omega)
      have e2:min (i+1) n=i+1:=Nat.min_eq_left (by omega)
      omega
    · have e:(if i≤q then f i*g (q - i) else 0)=0:=by
        rw [hf i (by omega),Int.zero_mul]
        by_cases hq:i≤q
        · rw [if_pos hq]
        · rw [if_neg hq]
      rw [e,Int.add_zero]
      have e1:min i n=n:=Nat.min_eq_right (by omega)
      have e2:min (i+1) n=n:=Nat.min_eq_right (by omega)
      omega
theorem zw_pin {f g:Nat→Int} {n A B:Nat} (hf:Cn n f) (ha:∀ i,Zw (f i)≤A) (hb:∀ i,Zw (g i)≤B) (i j q:Nat):Zw (pin f g i j q)≤A+B+n+1:=by
  have h1:=zw_psm hf ha hb q i
  have e:min i n≤n:=Nat.min_le_right _ _
  unfold pin
  refine Zw_add (B:=A+B+n) (by omega) ?_
  by_cases hq:i≤q∧q < i+j
  · rw [if_pos hq]
    have:=Zw_mul (f i) (g (q - i))
    have:=ha i
    have:=hb (q - i)
    omega
  · rw [if_neg hq,Zw_zero]; exact Nat.zero_le _
theorem gd_tm {p q:Ply} {k m A B:Nat} (h:Gd p k A) (g:Gd q m B):Gd (tmY p q) (k+m - 1) (A+B+k):=by
  have l1:=h.len
  have l2:=g.len
  refine ⟨Nat.le_trans (tl_le _ _) (by omega),tl_Cn (psm_Cn g.cn p.1 (Nat.le_refl _)),fun i=>?_⟩
  have:=zw_psm h.cn h.zw g.zw i p.1
  show Zw (psm p.2 q.2 p.1 i)≤_
  rw [Nat.min_self] at this
  omega
theorem wh_ok {o d:Int} (ho:I64 o) (hd:I64 d):FSpec Tryz.prog 255 [p2A o d] (PlyA (2,cf o d)):=by
  have:=wh_spec (n:=2) (u:=cf o d) (by decide) (fun i hi=>by
    match i,hi with
    | 0,_=>exact ho
    | 1,_=>exact hd)
  refine FSpec.of_args this fun E vs h=>?_
  obtain ⟨v,ws,rfl,h1,h2⟩:=rels_cons.1 h
  exact rels_cons.2 ⟨v,ws,rfl,sl_like h1 fun i hi=>(by
    match i,hi with
    | 0,_=>rfl
    | 1,_=>rfl),h2⟩
theorem po_ok {p:Ply} {k B:Nat} (h:Gd p k B) (hk:k≤1000):FSpec Tryz.prog 254 [PlyA p] (PlyA (poY p)):=po_spec p.2 (by have:=h.len; omega)
theorem po_ok1 (x:Int):FSpec Tryz.prog 254 [p1A x] (PlyA (poY (1,c0 x))):=by
  refine FSpec.of_args (po_spec (n:=1) (c0 x) (by decide)) fun E vs h=>?_
  obtain ⟨v,ws,rfl,h1,h2⟩:=rels_cons.1 h
  exact rels_cons.2 ⟨v,ws,rfl,sl_like h1 fun i hi=>(by
    match i,hi with
    | 0,_=>rfl),h2⟩
theorem pp_ok {p q:Ply} {k B:Nat} (h:Gd p k B) (g:Gd q k B) (hk:k≤1000) (hB:B≤1000):FSpec Tryz.prog 257 [PlyA p,PlyA q] (PlyA (ppY p q)):=by
  have l1:=h.len
  have l2:=g.len
  exact pp_spec (by omega) (by omega) h.cn g.cn (fun i=>Sm_of (by have:=h.zw i; omega)) (fun i=>Sm_of (by have:=g.zw i; omega))
theorem pp_ok0 {q:Ply} {k B:Nat} (g:Gd q k B) (hk:k≤1000) (hB:B≤1000):FSpec Tryz.prog 257 [nilA,PlyA q] (PlyA (ppY zP0 q)):=by
  have l2:=g.len
  have:=pp_spec (n:=0) (m:=q.1) (f:=fun _=>0) (g:=q.2) (by omega) (by omega) (fun _ _=>rfl) g.cn (fun i=>Sm_of (by rw [Zw_zero]; omega)) (fun i=>Sm_of (by have:=g.zw i; omega))
  refine FSpec.of_args this fun E vs h=>?_
  obtain ⟨v,ws,rfl,h1,h2⟩:=rels_cons.1 h
  exact rels_cons.2 ⟨v,ws,rfl,nil_like h1,h2⟩
theorem tm_ok {p q:Ply} {k m A B:Nat} (h:Gd p k A) (g:Gd q m B) (hk:k≤1000) (hm:m≤1000) (hA:A≤1000) (hB:B≤1000):FSpec Tryz.prog 256 [PlyA p,PlyA q] (PlyA (tmY p q)):=by
  have l1:=h.len
  have l2:=g.len
  exact tm_spec (by omega) (by omega) g.cn (fun i=>Sm_of (by have:=h.zw i; omega)) (fun i=>Sm_of (by have:=g.zw i; omega)) (fun i j=>Sm_of (by have:=h.zw i; have:=g.zw j; have:=Zw_mul (p.2 i) (q.2 j); omega)) (fun i j q'=>Sm_of (by have:=zw_pin h.cn h.zw g.zw i j q'; omega))
end Go.Proofs.YtancjnambbkhmaaGreat

namespace Go.Proofs.YtancjnambbkhmaaGreat
open Go.Gv

def M31 (x:Int):Prop:=-2147483648≤x∧x≤2147483648
theorem M31.i64 {x:Int} (h:M31 x):I64 x:=⟨by have:=h.1; omega,by have:=h.2; omega⟩
theorem M31.zw {x:Int} (h:M31 x):Zw x≤1:=Zw_one (by obtain ⟨h1,h2⟩:=h; omega)
theorem Gd.len' {p:Ply} {k m B:Nat} (h:Gd p k B) (hk:k≤m):Gd p m B:=⟨Nat.le_trans h.len hk,h.cn,h.zw⟩
noncomputable def cP (o d:Int):Ply:=poY (2,cf o d)
noncomputable def sP (o d:Int):Ply:=tmY (cP o d) (cP o d)
theorem gd_cf {o d:Int} (ho:M31 o) (hd:M31 d):Gd (2,cf o d) 2 1:=⟨Nat.le_refl _,cf_Cn o d,fun i=>by
  match i with
  | 0=>exact ho.zw
  | 1=>exact hd.zw
  | i+2=>exact Nat.le_trans (Nat.le_of_eq Zw_zero) (Nat.zero_le _)⟩
theorem gd_cP {o d:Int} (ho:M31 o) (hd:M31 d):Gd (cP o d) 2 1:=gd_po (gd_cf ho hd)
theorem gd_sP {o d:Int} (ho:M31 o) (hd:M31 d):Gd (sP o d) 3 4:=gd_tm (gd_cP ho hd) (gd_cP ho hd)
theorem gd_c0 {x:Int} (h:Zw x≤3):Gd (poY (1,c0 x)) 1 3:=gd_po ⟨Nat.le_refl _,c0_Cn x,fun i=>by
  match i with
  | 0=>exact h
  | i+1=>exact Nat.le_trans (Nat.le_of_eq Zw_zero) (Nat.zero_le _)⟩
theorem rgC_eq (o d:Int):rgC whC poC o d=cP o d:=by
  unfold rgC
  rw [show whC [p2A o d]=(2,cf o d) from decJ_p o d,poC_p]
  rfl
theorem rgS_eq (o d:Int):rgS whC poC tmC o d=sP o d:=by
  unfold rgS
  rw [rgC_eq,tmC_p]
  rfl
theorem rgI_pos {o d:Int} {x:Option Out} (ho:M31 o) (hd:M31 d):rgI whC poC tmC o d x=x:=by
  unfold rgI gY
  rw [rgS_eq,rgC_eq,show whC [p2A o d]=(2,cf o d) from decJ_p o d]
  rw [gate_pos (wh_ok ho.i64 hd.i64),gate_pos (show FSpec Tryz.prog 254 [PlyA (2,cf o d)] (PlyA (cP o d)) from po_ok (gd_cf ho hd) (by omega)),gate_pos (show FSpec Tryz.prog 256 [PlyA (cP o d),PlyA (cP o d)] (PlyA (sP o d)) from tm_ok (gd_cP ho hd) (gd_cP ho hd) (by omega) (by omega) (by omega) (by omega))]
noncomputable def k0 (x:Int):Ply:=poY (1,c0 x)
noncomputable def inP (a:Ply) (w t:Int):Ply:=ppY a (k0 (w*w+-(t*t)))
noncomputable def ouP (b:Ply) (w:Int):Ply:=tmY b (k0 (w*w*-4))
noncomputable def riP (a b:Ply) (w t:Int):Ply:=ppY (tmY (inP a w t) (inP a w t)) (ouP b w)
theorem gp0_pos {s:Ply} {k B:Nat} {x:Option Out} (h:Gd s k B) (hk:k≤1000) (hB:B≤1000):gp0 ppC s x=x:=by
  unfold gp0 gY pl0
  rw [ppC_0]
  exact gate_pos (pp_ok0 h hk hB)
theorem gp1_pos {a s:Ply} {k B:Nat} {x:Option Out} (g:Gd a k B) (h:Gd s k B) (hk:k≤1000) (hB:B≤1000):gp1 ppC a s x=x:=by
  unfold gp1 gY pl1
  rw [ppC_p]
  exact gate_pos (pp_ok g h hk hB)
section
variable {w t:Int} (hw:M31 w) (ht:M31 t)
include hw in
theorem zw_sq:Zw (w*w)≤2:=by have:=Zw_mul w w; have:=hw.zw; omega
include hw ht in
theorem zw_d2:Zw (w*w+-(t*t))≤3:=Zw_add (zw_sq hw) (by rw [Zw_neg]; exact zw_sq ht)
include hw in
theorem zw_f2:Zw (w*w*-4)≤3:=by
  have:=Zw_mul (w*w) (-4)
  have:=zw_sq hw
  have:Zw (-4)≤1:=Zw_one (by decide)
  omega
theorem eW2 (w:Int):rW2 twC w=w*w:=twC_w w w
theorem eM2 (t:Int):rM2 twC miY t=-(t*t):=by unfold rM2; rw [eW2,miY_w]
theorem eD2 (w t:Int):rD2 twC pwC miY w t=w*w+-(t*t):=by unfold rD2; rw [eW2,eM2,pwC_w]
theorem eF2 (w:Int):rF2 twC w=w*w*-4:=by unfold rF2; rw [eW2,twC_w]
theorem poC_1 (x:Int):poC [p1A x]=k0 x:=congrArg poY (decY_1 x)
theorem eDp (w t:Int):rDp poC twC pwC miY w t=k0 (w*w+-(t*t)):=by unfold rDp; rw [eD2,poC_1]
theorem eFp (w:Int):rFp poC twC w=k0 (w*w*-4):=by unfold rFp; rw [eF2,poC_1]
theorem eIn (a:Ply) (w t:Int):rIn poC ppC twC pwC miY a w t=inP a w t:=by unfold rIn; rw [eDp,ppC_p]; rfl
theorem eOu (b:Ply) (w:Int):rOu poC tmC twC b w=ouP b w:=by unfold rOu; rw [eFp,tmC_p]; rfl
theorem eSq (a:Ply) (w t:Int):rSq poC tmC ppC twC pwC miY a w t=tmY (inP a w t) (inP a w t):=by unfold rSq; rw [eIn,tmC_p]
theorem eRe (a b:Ply) (w t:Int):rRe poC tmC ppC twC pwC miY a b w t=riP a b w t:=by unfold rRe; rw [eSq,eOu,ppC_p]; rfl
include hw ht in
theorem gd_in {a:Ply} (h:Gd a 3 7):Gd (inP a w t) 3 8:=gd_pp h (((gd_c0 (zw_d2 hw ht)).len' (by omega)).mono (by omega))
include hw in
theorem gd_ou {b:Ply} (h:Gd b 3 6):Gd (ouP b w) 3 12:=gd_tm h (gd_c0 (zw_f2 hw))
include hw ht in
theorem gd_ri {a b:Ply} (h:Gd a 3 7) (g:Gd b 3 6):Gd (riP a b w t) 5 20:=gd_pp (gd_tm (gd_in hw ht h) (gd_in hw ht h)) (((gd_ou hw g).len' (by omega)).mono (by omega))
include hw ht in
theorem rgZ_pos {a b:Ply} (h:Gd a 3 7) (g:Gd b 3 6):rgZ poC tmC ppC twC pwC miY a b w t=some (Out.of (PlyA (riP a b w t))):=by
  unfold rgZ gY gW
  rw [eRe,eSq,eOu,eIn,eFp,eDp,eF2,eD2,eM2,eW2,eW2]
  have s1:Sm w:=Sm_of (by have:=hw.zw; omega)
  have s2:Sm t:=Sm_of (by have:=ht.zw; omega)
  have s3:Sm (w*w):=Sm_of (by have:=zw_sq hw; omega)
  have s4:Sm (-(t*t)):=Sm_of (by rw [Zw_neg]; have:=zw_sq ht; omega)
  have s5:Sm (-4):=Sm_of (by have:Zw (-4)≤1:=Zw_one (by decide); omega)
  have i1:=gd_in hw ht h
  have q1:∀ x,FSpec Tryz.prog 254 [p1A x] (PlyA (k0 x)):=po_ok1
  have q2:FSpec Tryz.prog 257 [PlyA a,PlyA (k0 (w*w+-(t*t)))] (PlyA (inP a w t)):=pp_ok h (((gd_c0 (zw_d2 hw ht)).len' (by omega)).mono (by omega)) (by omega) (by omega)
  have q3:FSpec Tryz.prog 256 [PlyA b,PlyA (k0 (w*w*-4))] (PlyA (ouP b w)):=tm_ok g (gd_c0 (zw_f2 hw)) (by omega) (by omega) (by omega) (by omega)
  have q4:FSpec Tryz.prog 257 [PlyA (tmY (inP a w t) (inP a w t)),PlyA (ouP b w)] (PlyA (riP a b w t)):=pp_ok (gd_tm i1 i1) (((gd_ou hw g).len' (by omega)).mono (by omega)) (by omega) (by omega)
  rw [gate_pos (wo_spec hw.i64.1 hw.i64.2),gate_pos (wo_spec ht.i64.1 ht.i64.2),gate_pos (ti_spec s1 s1),gate_pos (ti_spec s2 s2),gate_pos (mi_spec (t*t)),gate_pos (pl_spec s3 s4),gate_pos (q1 _),gate_pos q2]
  rw [gate_pos (ti_spec s1 s1),gate_pos (wo_spec (by decide) (by decide)),gate_pos (ti_spec s3 s5),gate_pos (q1 _),gate_pos q3,gate_pos (tm_ok i1 i1 (by omega) (by omega) (by omega) (by omega))]
  exact gate_pos q4
end
end Go.Proofs.YtancjnambbkhmaaGreat

namespace Go.Proofs.YtancjnambbkhmaaGreat
open Go.Gv

def b2A (x y:Bg):AV:=.sl 2 2 (chunk [bA x.1,msA x.2,bA y.1,msA y.2] 2)
def b1A (x:Bg):AV:=.sl 2 1 (chunk (bgc x) 2)
noncomputable def gG (f:Nat) (l:List AV) (x:Bg) (o:Option Out):Option Out:=gate (FSpec Tryz.prog f l (bgA x)) o
section
variable (wf:Int→Bool) (ff:Int→Int→Bool) (cu mu ad by':List AV→BP) (bm ba bn:List AV→Bg) (L:List Int)
noncomputable def rrK:List KEntry:=[kS Tryz.prog 144 (fun l=>bpP (cu l)),kS Tryz.prog 143 (fun l=>bpP (mu l)),kS Tryz.prog 145 (fun l=>bpP (ad l)),kS Tryz.prog 149 (fun l=>bpP (by' l)),kS Tryz.prog 142 boG,kS Tryz.prog 146 (fun l=>bgA (bm l)),kS Tryz.prog 147 (fun l=>bgA (ba l)),kS Tryz.prog 148 (fun l=>bgA (bn l)),kS Tryz.prog 150 (fun _=>lsJ L)]
def bqC (o d:Int):BP:=cu [b2A (bOf o) (bOf d)]
def bqS (o d:Int):BP:=mu [bpP (bqC cu o d),bpP (bqC cu o d)]
noncomputable def bgI (o d:Int) (x:Option Out):Option Out:=gOf o (gOf d (gP 144 [b2A (bOf o) (bOf d)] (bqC cu o d) (gP 144 [b2A (bOf o) (bOf d)] (bqC cu o d) (gP 143 [bpP (bqC cu o d),bpP (bqC cu o d)] (bqS cu mu o d) x))))
def al0 (s:BP):BP:=ad [nilA,bpP s]
def al1 (a s:BP):BP:=ad [bpP a,bpP s]
noncomputable def ga0 (s:BP) (x:Option Out):Option Out:=gP 145 [nilA,bpP s] (al0 ad s) x
noncomputable def ga1 (a s:BP) (x:Option Out):Option Out:=gP 145 [bpP a,bpP s] (al1 ad a s) x
def bW2 (w:Int):Bg:=bm [bgA (bOf w),bgA (bOf w)]
def bM2 (t:Int):Bg:=bn [bgA (bW2 bm t)]
def bD2 (w t:Int):Bg:=ba [bgA (bW2 bm w),bgA (bM2 bm bn t)]
def bIn (a:BP) (w t:Int):BP:=ad [bpP a,b1A (bD2 bm ba bn w t)]
def bSq (a:BP) (w t:Int):BP:=mu [bpP (bIn ad bm ba bn a w t),bpP (bIn ad bm ba bn a w t)]
def bF2 (w:Int):Bg:=bm [bgA (bOf (-4)),bgA (bW2 bm w)]
def bOu (b:BP) (w:Int):BP:=by' [bpP b,bgA (bF2 bm w)]
def bRe (a b:BP) (w t:Int):BP:=ad [bpP (bSq mu ad bm ba bn a w t),bpP (bOu by' bm b w)]
noncomputable def bgZZ (a b:BP) (w t lo hi:Int):Option Out :=
  gOf w (gOf w (gG 146 [bgA (bOf w),bgA (bOf w)] (bW2 bm w) (gOf t (gOf t (gG 146 [bgA (bOf t),bgA (bOf t)] (bW2 bm t)
  (gG 148 [bgA (bW2 bm t)] (bM2 bm bn t) (gG 147 [bgA (bW2 bm w),bgA (bM2 bm bn t)] (bD2 bm ba bn w t) (gP 145 [bpP a,b1A (bD2 bm ba bn w t)] (bIn ad bm ba bn a w t)
  (gP 143 [bpP (bIn ad bm ba bn a w t),bpP (bIn ad bm ba bn a w t)] (bSq mu ad bm ba bn a w t) (gOf (-4) (gG 146 [bgA (bOf (-4)),bgA (bW2 bm w)] (bF2 bm w) (gP 149 [bpP b,bgA (bF2 bm w)] (bOu by' bm b w) (gP 145 [bpP (bSq mu ad bm ba bn a w t),bpP (bOu by' bm b w)] (bRe mu ad by' bm ba bn a b w t)
  (gate (FSpec Tryz.prog 150 [bpP (bRe mu ad by' bm ba bn a b w t),iA lo,iA hi] (lsJ L)) (some (Out.of (.tup [lsJ L,iA 0])))))))))))))))))
variable (o0 o1 o2 d0 d1 d2 w t lo hi:Int)
def rrB0 (b:Bool) (o d:Int):Bool:=cond (cond b true (wf o)) true (wf d)
def rrB:Bool:=cond (rrB0 wf (rrB0 wf (rrB0 wf (cond (wf w) true (wf t)) o0 d0) o1 d1) o2 d2) true (ff lo hi)
def bA2:BP:=al1 ad (al0 ad (bqS cu mu o0 d0)) (bqS cu mu o1 d1)
def bA3:BP:=al1 ad (bA2 cu mu ad o0 o1 d0 d1) (bqS cu mu o2 d2)
theorem rq_ev0:evZ Tryz.prog [⟨140,gWd wf⟩,⟨141,gFr ff⟩] (rrK cu mu ad by' bm ba bn L) [born 172] noL noZ Tryz.f117 [v3 o0 o1 o2,v3 d0 d1 d2,iA 0,iA w,iA t,iA lo,iA hi] ret =
    cond (rrB wf ff o0 o1 o2 d0 d1 d2 w t lo hi) (rBad 1)
    (bgI cu mu o0 d0 (ga0 ad (bqS cu mu o0 d0) (bgI cu mu o1 d1 (ga1 ad (al0 ad (bqS cu mu o0 d0)) (bqS cu mu o1 d1) (ga0 ad (bqS cu mu o1 d1)
    (bgI cu mu o2 d2 (ga1 ad (bA2 cu mu ad o0 o1 d0 d1) (bqS cu mu o2 d2) (ga1 ad (al0 ad (bqS cu mu o1 d1)) (bqS cu mu o2 d2)
    (bgZZ mu ad by' bm ba bn L (bA3 cu mu ad o0 o1 o2 d0 d1 d2) (al1 ad (al0 ad (bqS cu mu o1 d1)) (bqS cu mu o2 d2)) w t lo hi))))))))):=by kernel_rfl
theorem rq_ev1:evZ Tryz.prog [⟨140,gWd wf⟩,⟨141,gFr ff⟩] (rrK cu mu ad by' bm ba bn L) [born 172] noL noZ Tryz.f117 [v3 o0 o1 o2,v3 d0 d1 d2,iA 1,iA w,iA t,iA lo,iA hi] ret =
    cond (rrB wf ff o0 o1 o2 d0 d1 d2 w t lo hi) (rBad 1)
    (bgI cu mu o0 d0 (ga0 ad (bqS cu mu o0 d0) (ga0 ad (bqS cu mu o0 d0) (bgI cu mu o1 d1 (ga1 ad (al0 ad (bqS cu mu o0 d0)) (bqS cu mu o1 d1)
    (bgI cu mu o2 d2 (ga1 ad (bA2 cu mu ad o0 o1 d0 d1) (bqS cu mu o2 d2) (ga1 ad (al0 ad (bqS cu mu o0 d0)) (bqS cu mu o2 d2)
    (bgZZ mu ad by' bm ba bn L (bA3 cu mu ad o0 o1 o2 d0 d1 d2) (al1 ad (al0 ad (bqS cu mu o0 d0)) (bqS cu mu o2 d2)) w t lo hi))))))))):=by kernel_rfl
theorem rq_ev2:evZ Tryz.prog [⟨140,gWd wf⟩,⟨141,gFr ff⟩] (rrK cu mu ad by' bm ba bn L) [born 172] noL noZ Tryz.f117 [v3 o0 o1 o2,v3 d0 d1 d2,iA 2,iA w,iA t,iA lo,iA hi] ret =
    cond (rrB wf ff o0 o1 o2 d0 d1 d2 w t lo hi) (rBad 1)
    (bgI cu mu o0 d0 (ga0 ad (bqS cu mu o0 d0) (ga0 ad (bqS cu mu o0 d0) (bgI cu mu o1 d1 (ga1 ad (al0 ad (bqS cu mu o0 d0)) (bqS cu mu o1 d1) (ga1 ad (al0 ad (bqS cu mu o0 d0)) (bqS cu mu o1 d1)
    (bgI cu mu o2 d2 (ga1 ad (bA2 cu mu ad o0 o1 d0 d1) (bqS cu mu o2 d2)
    (bgZZ mu ad by' bm ba bn L (bA3 cu mu ad o0 o1 o2 d0 d1 d2) (al1 ad (al0 ad (bqS cu mu o0 d0)) (bqS cu mu o1 d1)) w t lo hi))))))))):=by kernel_rfl
theorem rq_evX (ax:Int):ev Tryz.prog [] [] noL Tryz.f117 [v3 o0 o1 o2,v3 d0 d1 d2,iA ax,iA w,iA t,iA lo,iA hi] ret=cond (cond (decide (ax < 0)) true (decide (ax > 2))) (rBad 3) none:=by kernel_rfl
end
end Go.Proofs.YtancjnambbkhmaaGreat

namespace Go.Proofs.YtancjnambbkhmaaGreat
open Go.Gv
open Go.Em (nw nw_zero)

structure GB (p:BP) (k B:Nat):Prop where
  len:p.1≤k
  pb:PBP p B
theorem GB.mono {p:BP} {k B C:Nat} (h:GB p k B) (hB:B≤C):GB p k C:=⟨h.len,h.pb.le hB⟩
theorem GB.len' {p:BP} {k m B:Nat} (h:GB p k B) (hk:k≤m):GB p m B:=⟨Nat.le_trans h.len hk,h.pb⟩
def cfB (x y:Bg):Nat→Bg
  | 0=>x
  | 1=>y
  | _=>(false,0)
def c0B (x:Bg):Nat→Bg
  | 0=>x
  | _=>(false,0)
def zB0:BP:=(0,fun _=>(false,0))
def bCu (p:BP):BP:=(btl p.2 p.1,p.2)
theorem bV_cu (p:BP):bV (bCu p)=bV p:=bval_cut p.1 p.2
theorem decP_2 (x y:Bg):decP (b2A x y)=(2,cfB x y):=by
  show ((2,fun i=>decC (chunk [bA x.1,msA x.2,bA y.1,msA y.2] 2 i)):BP)=(2,cfB x y)
  congr 1
  funext i
  match i with
  | 0=>exact decB_b x
  | 1=>exact decB_b y
  | i+2 =>
    unfold chunk
    rw [List.drop_eq_nil_of_le (by simp only [List.length_cons,List.length_nil]; omega)]
    rfl
theorem decP_1b (x:Bg):decP (b1A x)=(1,c0B x):=by
  show ((1,fun i=>decC (chunk (bgc x) 2 i)):BP)=(1,c0B x)
  congr 1
  funext i
  match i with
  | 0=>exact decB_b x
  | i+1 =>
    unfold chunk
    rw [List.drop_eq_nil_of_le (by simp only [bgc,List.length_cons,List.length_nil]; omega)]
    rfl
def cuF (l:List AV):BP:=bCu (decP (a0 l))
def bmF (l:List AV):Bg:=bmul (decB (a0 l)) (decB (a1 l))
def baF (l:List AV):Bg:=badd (decB (a0 l)) (decB (a1 l))
def bnF (l:List AV):Bg:=bneg (decB (a0 l))
theorem bmF_eq (x y:Bg):bmF [bgA x,bgA y]=bmul x y:=by show bmul (decB (bgA x)) (decB (bgA y))=_; rw [decB_b,decB_b]
theorem baF_eq (x y:Bg):baF [bgA x,bgA y]=badd x y:=by show badd (decB (bgA x)) (decB (bgA y))=_; rw [decB_b,decB_b]
theorem bnF_eq (x:Bg):bnF [bgA x]=bneg x:=congrArg bneg (decB_b x)
theorem adF_0 (q:BP):adF [nilA,bpP q]=bAdd zB0 q:=by show bAdd (decP nilA) (decP (bpP q))=_; rw [decP_bp]; rfl
theorem adF_1 (p:BP) (x:Bg):adF [bpP p,b1A x]=bAdd p (1,c0B x):=by show bAdd (decP (bpP p)) (decP (b1A x))=_; rw [decP_bp,decP_1b]
def qC (o d:Int):BP:=bCu (2,cfB (bOf o) (bOf d))
def qS (o d:Int):BP:=bMul (qC o d) (qC o d)
theorem gb_cf {o d:Int} (ho:I64 o) (hd:I64 d):GB (2,cfB (bOf o) (bOf d)) 2 4:=⟨Nat.le_refl _,fun i hi=>by
  match i,hi with
  | 0,_=>exact nw_of ho
  | 1,_=>exact nw_of hd⟩
theorem gb_cu {p:BP} {k B:Nat} (h:GB p k B):GB (bCu p) k B:=⟨Nat.le_trans (tl_le _ _) h.len,fun i hi=>h.pb i (Nat.lt_of_lt_of_le hi (tl_le _ _))⟩
theorem gb_mul {p q:BP} {k m A B:Nat} (h:GB p k A) (g:GB q m B):GB (bMul p q) (k+m) (A+B+k):=⟨Nat.le_trans (len_mul p q) (Nat.add_le_add h.len g.len),(pb_mul h.pb g.pb).le (by have:=h.len; omega)⟩
theorem gb_add {p q:BP} {k B:Nat} (h:GB p k B) (g:GB q k B):GB (bAdd p q) k (B+1):=⟨Nat.le_trans (len_add p q) (Nat.max_le.2 ⟨h.len,g.len⟩),pb_add h.pb g.pb⟩
theorem gb_by {p:BP} {x:Bg} {k A B:Nat} (h:GB p k A) (g:nw x.2≤B):GB (bBy p x) k (A+B):=⟨Nat.le_trans (len_by p x) h.len,pb_by h.pb g⟩
theorem gb_0 (k B:Nat):GB zB0 k B:=⟨Nat.zero_le _,fun _ h=>absurd h (Nat.not_lt_zero _)⟩
theorem gb_c0 {x:Bg} {B:Nat} (h:nw x.2≤B):GB (1,c0B x) 1 B:=⟨Nat.le_refl _,fun i hi=>by
  match i,hi with
  | 0,_=>exact h⟩
theorem gb_qC {o d:Int} (ho:I64 o) (hd:I64 d):GB (qC o d) 2 4:=gb_cu (gb_cf ho hd)
theorem gb_qS {o d:Int} (ho:I64 o) (hd:I64 d):GB (qS o d) 4 10:=gb_mul (gb_qC ho hd) (gb_qC ho hd)
def conv (f g:Nat→Int) (q:Nat):Int:=psm f g (q+1) q
theorem psm_more (f g:Nat→Int) (q n:Nat):∀ j,(∀ i,n≤i→i < n+j→i≤q→f i=0)→psm f g (n+j) q=psm f g n q
  | 0,_=>rfl
  | j+1,h=>by
    show psm f g (n+j) q+(if n+j≤q then f (n+j)*g (q - (n+j)) else 0)=_
    rw [psm_more f g q n j fun i h1 h2 h3=>h i h1 (by omega) h3]
    by_cases hq:n+j≤q
    · rw [if_pos hq,h (n+j) (by omega) (by omega) hq,Int.zero_mul,Int.add_zero]
    · rw [if_neg hq,Int.add_zero]
theorem psm_conv {f:Nat→Int} {n:Nat} (h:Cn n f) (g:Nat→Int):psm f g n=conv f g:=funext fun q=>by
  have e1:=psm_more f g q n (q+1) fun i h1 _ _=>h i h1
  have e2:=psm_more f g q (q+1) n fun i h1 _ h3=>by omega
  unfold conv
  rw [← e1,← e2,Nat.add_comm]
theorem conv_c0 (f:Nat→Int) (k:Int):conv f (c0 k)=fun q=>f q*k:=funext fun q=>by
  have z:∀ i,i≤q→psm f (c0 k) i q=0:=fun i=>by
    induction i with
    | zero=>exact fun _=>rfl
    | succ i ih =>
      intro hi
      show psm f (c0 k) i q+(if i≤q then f i*c0 k (q - i) else 0)=0
      have:c0 k (q - i)=0:=c0_Cn k (q - i) (by omega)
      rw [ih (by omega),this,Int.mul_zero]
      by_cases hq:i≤q
      · rw [if_pos hq]; rfl
      · rw [if_neg hq]; rfl
  show psm f (c0 k) q q+(if q≤q then f q*c0 k (q - q) else 0)=_
  rw [z q (Nat.le_refl _),if_pos (Nat.le_refl _),Nat.sub_self,Int.zero_add]
  rfl
theorem tl_len {f:Nat→Int} {n m:Nat} (hn:Cn n f) (hm:Cn m f):tl f n=tl f m:=by
  have e1:=tl_more hn m
  have e2:=tl_more hm n
  rw [Nat.add_comm] at e2
  rw [← e1,← e2]
theorem bV_cf (o d:Int):bV (qC o d)=cf o d:=by
  unfold qC
  rw [bV_cu]
  funext i
  match i with
  | 0=>exact bv_of o
  | 1=>exact bv_of d
  | i+2=>exact bval_Cn 2 _ (i+2) (by omega)
theorem bV_c0 (x:Bg):bV (1,c0B x)=c0 (bv x):=by
  funext i
  match i with
  | 0=>rfl
  | i+1=>exact bval_Cn 1 _ (i+1) (by omega)
theorem bV_qS (o d:Int):bV (qS o d)=(sP o d).2:=by
  unfold qS
  rw [bV_mul,psm_conv (bV_Cn _),bV_cf]
  exact (psm_conv (tl_Cn (cf_Cn o d)) (cf o d)).symm
theorem bV_pp {p q:BP} {p' q':Ply} (h:bV p=p'.2) (g:bV q=q'.2):bV (bAdd p q)=(ppY p' q').2:=by
  rw [bV_add,h,g]
  rfl
theorem bV_0:bV zB0=zP0.2:=funext fun i=>bval_Cn 0 _ i (Nat.zero_le _)
def qIn (a:BP) (w t:Int):BP:=bAdd a (1,c0B (badd (bmul (bOf w) (bOf w)) (bneg (bmul (bOf t) (bOf t)))))
def qOu (b:BP) (w:Int):BP:=bBy b (bmul (bOf (-4)) (bmul (bOf w) (bOf w)))
def qRe (a b:BP) (w t:Int):BP:=bAdd (bMul (qIn a w t) (qIn a w t)) (qOu b w)
theorem bV_in {a:BP} {a':Ply} (h:bV a=a'.2) (w t:Int):bV (qIn a w t)=(inP a' w t).2:=by
  refine bV_pp h ?_
  rw [bV_c0,bv_add,bv_neg,bv_mul,bv_mul,bv_of,bv_of]
  rfl
theorem bV_re {a b:BP} {a' b':Ply} {w t:Int} (hw:M31 w) (ht:M31 t) (ha:Gd a' 3 7) (hb:Gd b' 3 6) (h:bV a=a'.2) (g:bV b=b'.2):bV (qRe a b w t)=(riP a' b' w t).2:=by
  refine bV_pp ?_ ?_
  · rw [bV_mul,psm_conv (bV_Cn _),bV_in h]
    exact (psm_conv (gd_in hw ht ha).cn _).symm
  · unfold qOu
    rw [bV_by,bv_mul,bv_mul,bv_of,bv_of,g]
    have e:(ouP b' w).2=fun q=>b'.2 q*(w*w*-4):=(psm_conv hb.cn _).trans (conv_c0 _ _)
    rw [e,show (-4:Int)*(w*w)=w*w*-4 from Int.mul_comm _ _]
theorem gb_in {a:BP} {w t:Int} (hw:I64 w) (ht:I64 t) (h:GB a 4 13):GB (qIn a w t) 4 14:=by
  refine gb_add h ?_
  refine ((gb_c0 (B:=13) ?_).len' (by omega))
  have n1:=nw_bmul (bOf w) (bOf w)
  have n2:=nw_bmul (bOf t) (bOf t)
  have n3:=nw_of hw
  have n4:=nw_of ht
  have:=nw_badd (a:=bmul (bOf w) (bOf w)) (b:=bneg (bmul (bOf t) (bOf t))) (n:=8) (by omega) (by show nw (bmul (bOf t) (bOf t)).2≤8; omega)
  omega
theorem nw_f2 {w:Int} (hw:I64 w):nw (bmul (bOf (-4)) (bmul (bOf w) (bOf w))).2≤12:=by
  have n1:=nw_bmul (bOf (-4)) (bmul (bOf w) (bOf w))
  have n2:=nw_bmul (bOf w) (bOf w)
  have n3:=nw_of hw
  have n4:nw (bOf (-4)).2≤4:=nw_of ⟨by decide,by decide⟩
  omega
theorem gb_re {a b:BP} {w t:Int} (hw:I64 w) (ht:I64 t) (h:GB a 4 13) (g:GB b 4 12):GB (qRe a b w t) 8 33:=by
  have i:=gb_in hw ht h
  exact gb_add (gb_mul i i) (((gb_by g (nw_f2 hw)).len' (by omega)).mono (by omega))
end Go.Proofs.YtancjnambbkhmaaGreat

namespace Go.Proofs.YtancjnambbkhmaaGreat
open Go.Gv
open Go.Em (nw nw_zero)

theorem rg_ks:∀ e,e ∈ rgK whC poC tmC ppC twC pwC miY→KOk Tryz.prog e:=k_cons kS_ok (k_cons kS_ok (k_cons kS_ok (k_cons kS_ok (k_cons kS_ok (k_cons kS_ok (k_cons kS_ok (k_cons kS_ok k_nil)))))))
noncomputable def f2P (o d o' d':Int):Ply:=ppY (ppY zP0 (sP o d)) (sP o' d')
noncomputable def a3P (o0 o1 o2 d0 d1 d2:Int):Ply:=ppY (f2P o0 d0 o1 d1) (sP o2 d2)
def f2B (o d o' d':Int):BP:=bAdd (bAdd zB0 (qS o d)) (qS o' d')
def a3B (o0 o1 o2 d0 d1 d2:Int):BP:=bAdd (f2B o0 d0 o1 d1) (qS o2 d2)
theorem gd_p1 {o d:Int} (h1:M31 o) (h2:M31 d):Gd (ppY zP0 (sP o d)) 3 5:=gd_pp (gd_0.mono (by omega)) (gd_sP h1 h2)
theorem gd_f2 {o d o' d':Int} (h1:M31 o) (h2:M31 d) (h3:M31 o') (h4:M31 d'):Gd (f2P o d o' d') 3 6:=gd_pp (gd_p1 h1 h2) ((gd_sP h3 h4).mono (by omega))
theorem gb_p1 {o d:Int} (h1:I64 o) (h2:I64 d):GB (bAdd zB0 (qS o d)) 4 11:=gb_add (gb_0 4 10) (gb_qS h1 h2)
theorem gb_f2 {o d o' d':Int} (h1:I64 o) (h2:I64 d) (h3:I64 o') (h4:I64 d'):GB (f2B o d o' d') 4 12:=gb_add (gb_p1 h1 h2) ((gb_qS h3 h4).mono (by omega))
theorem bV_f2 (o d o' d':Int):bV (f2B o d o' d')=(f2P o d o' d').2:=bV_pp (bV_pp bV_0 (bV_qS o d)) (bV_qS o' d')
theorem bV_a3 (o0 o1 o2 d0 d1 d2:Int):bV (a3B o0 o1 o2 d0 d1 d2)=(a3P o0 o1 o2 d0 d1 d2).2:=bV_pp (bV_f2 o0 d0 o1 d1) (bV_qS o2 d2)
structure Six (o0 o1 o2 d0 d1 d2 w t:Int):Prop where
  o0:M31 o0
  o1:M31 o1
  o2:M31 o2
  d0:M31 d0
  d1:M31 d1
  d2:M31 d2
  w:M31 w
  t:M31 t
noncomputable def flP (ax o0 o1 o2 d0 d1 d2:Int):Ply:=if ax=0 then f2P o1 d1 o2 d2 else if ax=1 then f2P o0 d0 o2 d2 else f2P o0 d0 o1 d1
section
variable {o0 o1 o2 d0 d1 d2 w t:Int} (h:Six o0 o1 o2 d0 d1 d2 w t)
include h
theorem gd_a3:Gd (a3P o0 o1 o2 d0 d1 d2) 3 7:=gd_pp (gd_f2 h.o0 h.d0 h.o1 h.d1) ((gd_sP h.o2 h.d2).mono (by omega))
theorem gb_a3:GB (a3B o0 o1 o2 d0 d1 d2) 4 13:=gb_add (gb_f2 h.o0.i64 h.d0.i64 h.o1.i64 h.d1.i64) ((gb_qS h.o2.i64 h.d2.i64).mono (by omega))
theorem rp0:FSpec Tryz.prog 247 [v3 o0 o1 o2,v3 d0 d1 d2,iA 0,iA w,iA t] (PlyA (riP (a3P o0 o1 o2 d0 d1 d2) (f2P o1 d1 o2 d2) w t)):=by
  refine gspecZ noZ_ok e_nil rg_ks (m_cons (born_ok _) (m_cons (born_ok _) m_nil)) Tryz.func247 (by kernel_rfl) (by kernel_rfl) noL_ok rfl ((rg_ev0 whC poC tmC ppC twC pwC miY o0 o1 o2 d0 d1 d2 w t).trans ?_)
  simp only [rA2,rA3,pl0,pl1,rgS_eq,ppC_0,ppC_p]
  rw [rgI_pos h.o0 h.d0,gp0_pos (gd_sP h.o0 h.d0) (by omega) (by omega),rgI_pos h.o1 h.d1,gp1_pos (gd_p1 h.o0 h.d0) ((gd_sP h.o1 h.d1).mono (by omega)) (by omega) (by omega),gp0_pos (gd_sP h.o1 h.d1) (by omega) (by omega),rgI_pos h.o2 h.d2]
  rw [gp1_pos (show Gd (ppY (ppY zP0 (sP o0 d0)) (sP o1 d1)) 3 6 from gd_f2 h.o0 h.d0 h.o1 h.d1) ((gd_sP h.o2 h.d2).mono (by omega)) (by omega) (by omega),gp1_pos (gd_p1 h.o1 h.d1) ((gd_sP h.o2 h.d2).mono (by omega)) (by omega) (by omega)]
  exact rgZ_pos h.w h.t (gd_a3 h) (gd_f2 h.o1 h.d1 h.o2 h.d2)
theorem rp1:FSpec Tryz.prog 247 [v3 o0 o1 o2,v3 d0 d1 d2,iA 1,iA w,iA t] (PlyA (riP (a3P o0 o1 o2 d0 d1 d2) (f2P o0 d0 o2 d2) w t)):=by
  refine gspecZ noZ_ok e_nil rg_ks (m_cons (born_ok _) (m_cons (born_ok _) m_nil)) Tryz.func247 (by kernel_rfl) (by kernel_rfl) noL_ok rfl ((rg_ev1 whC poC tmC ppC twC pwC miY o0 o1 o2 d0 d1 d2 w t).trans ?_)
  simp only [rA2,rA3,pl0,pl1,rgS_eq,ppC_0,ppC_p]
  rw [rgI_pos h.o0 h.d0,gp0_pos (gd_sP h.o0 h.d0) (by omega) (by omega),gp0_pos (gd_sP h.o0 h.d0) (by omega) (by omega),rgI_pos h.o1 h.d1,gp1_pos (gd_p1 h.o0 h.d0) ((gd_sP h.o1 h.d1).mono (by omega)) (by omega) (by omega),rgI_pos h.o2 h.d2]
  rw [gp1_pos (show Gd (ppY (ppY zP0 (sP o0 d0)) (sP o1 d1)) 3 6 from gd_f2 h.o0 h.d0 h.o1 h.d1) ((gd_sP h.o2 h.d2).mono (by omega)) (by omega) (by omega),gp1_pos (gd_p1 h.o0 h.d0) ((gd_sP h.o2 h.d2).mono (by omega)) (by omega) (by omega)]
  exact rgZ_pos h.w h.t (gd_a3 h) (gd_f2 h.o0 h.d0 h.o2 h.d2)
theorem rp2:FSpec Tryz.prog 247 [v3 o0 o1 o2,v3 d0 d1 d2,iA 2,iA w,iA t] (PlyA (riP (a3P o0 o1 o2 d0 d1 d2) (f2P o0 d0 o1 d1) w t)):=by
  refine gspecZ noZ_ok e_nil rg_ks (m_cons (born_ok _) (m_cons (born_ok _) m_nil)) Tryz.func247 (by kernel_rfl) (by kernel_rfl) noL_ok rfl ((rg_ev2 whC poC tmC ppC twC pwC miY o0 o1 o2 d0 d1 d2 w t).trans ?_)
  simp only [rA2,rA3,pl0,pl1,rgS_eq,ppC_0,ppC_p]
  rw [rgI_pos h.o0 h.d0,gp0_pos (gd_sP h.o0 h.d0) (by omega) (by omega),gp0_pos (gd_sP h.o0 h.d0) (by omega) (by omega),rgI_pos h.o1 h.d1,gp1_pos (gd_p1 h.o0 h.d0) ((gd_sP h.o1 h.d1).mono (by omega)) (by omega) (by omega),gp1_pos (gd_p1 h.o0 h.d0) ((gd_sP h.o1 h.d1).mono (by omega)) (by omega) (by omega),rgI_pos h.o2 h.d2]
  rw [gp1_pos (show Gd (ppY (ppY zP0 (sP o0 d0)) (sP o1 d1)) 3 6 from gd_f2 h.o0 h.d0 h.o1 h.d1) ((gd_sP h.o2 h.d2).mono (by omega)) (by omega) (by omega)]
  exact rgZ_pos h.w h.t (gd_a3 h) (gd_f2 h.o0 h.d0 h.o1 h.d1)
theorem rp_spec {ax:Int} (hx:0≤ax∧ax≤2):FSpec Tryz.prog 247 [v3 o0 o1 o2,v3 d0 d1 d2,iA ax,iA w,iA t] (PlyA (riP (a3P o0 o1 o2 d0 d1 d2) (flP ax o0 o1 o2 d0 d1 d2) w t))∧Gd (flP ax o0 o1 o2 d0 d1 d2) 3 6:=by
  have:ax=0∨ax=1∨ax=2:=by omega
  rcases this with rfl | rfl | rfl
  · exact ⟨rp0 h,gd_f2 h.o1 h.d1 h.o2 h.d2⟩
  · exact ⟨rp1 h,gd_f2 h.o0 h.d0 h.o2 h.d2⟩
  · exact ⟨rp2 h,gd_f2 h.o0 h.d0 h.o1 h.d1⟩
end
theorem bqC_eq (o d:Int):bqC cuF o d=qC o d:=congrArg bCu (decP_2 (bOf o) (bOf d))
theorem bqS_eq (o d:Int):bqS cuF muF o d=qS o d:=by unfold bqS; rw [bqC_eq,muF_eq]; rfl
theorem bgI_pos {o d:Int} {x:Option Out} (ho:I64 o) (hd:I64 d):bgI cuF muF o d x=x:=by
  unfold bgI gP
  rw [bqS_eq,bqC_eq]
  have h1:FSpec Tryz.prog 144 [b2A (bOf o) (bOf d)] (bpP (qC o d)):=by
    refine FSpec.of_args (pc_spec (n:=2) (cfB (bOf o) (bOf d)) (by decide)) fun E vs h=>?_
    obtain ⟨v,ws,rfl,h1,h2⟩:=rels_cons.1 h
    exact rels_cons.2 ⟨v,ws,rfl,sl_like h1 fun i hi=>(by
      match i,hi with
      | 0,_=>rfl
      | 1,_=>rfl),h2⟩
  have g:=gb_qC ho hd
  have l:=g.len
  rw [gOf_pos ho,gOf_pos hd,gate_pos h1,gate_pos h1]
  exact gate_pos (muS (B:=4) (by omega) (by omega) (by omega) g.pb g.pb)
theorem ga0_pos {s:BP} {k B:Nat} {x:Option Out} (h:GB s k B) (hk:k≤1000) (hB:B≤1000):ga0 adF s x=x:=by
  unfold ga0 gP al0
  rw [adF_0]
  have l:=h.len
  have h1:FSpec Tryz.prog 145 [nilA,bpP s] (bpP (bAdd zB0 s)):=by
    refine FSpec.of_args (adS' (p:=zB0) (q:=s) (B:=B) (Nat.zero_le _) (by omega) (by omega) (gb_0 0 B).pb h.pb) fun E vs h=>?_
    obtain ⟨v,ws,rfl,h1,h2⟩:=rels_cons.1 h
    exact rels_cons.2 ⟨v,ws,rfl,nil_like h1,h2⟩
  exact gate_pos h1
theorem ga1_pos {a s:BP} {k B:Nat} {x:Option Out} (g:GB a k B) (h:GB s k B) (hk:k≤1000) (hB:B≤1000):ga1 adF a s x=x:=by
  unfold ga1 gP al1
  rw [adF_eq]
  have l1:=g.len
  have l2:=h.len
  exact gate_pos (adS' (B:=B) (by omega) (by omega) (by omega) g.pb h.pb)
theorem fW2 (w:Int):bW2 bmF w=bmul (bOf w) (bOf w):=bmF_eq _ _
theorem fM2 (t:Int):bM2 bmF bnF t=bneg (bmul (bOf t) (bOf t)):=by unfold bM2; rw [fW2,bnF_eq]
theorem fD2 (w t:Int):bD2 bmF baF bnF w t=badd (bmul (bOf w) (bOf w)) (bneg (bmul (bOf t) (bOf t))):=by unfold bD2; rw [fW2,fM2,baF_eq]
theorem fIn (a:BP) (w t:Int):bIn adF bmF baF bnF a w t=qIn a w t:=by unfold bIn; rw [fD2,adF_1]; rfl
theorem fSq (a:BP) (w t:Int):bSq muF adF bmF baF bnF a w t=bMul (qIn a w t) (qIn a w t):=by unfold bSq; rw [fIn,muF_eq]
theorem fF2 (w:Int):bF2 bmF w=bmul (bOf (-4)) (bmul (bOf w) (bOf w)):=by unfold bF2; rw [fW2,bmF_eq]
theorem fOu (b:BP) (w:Int):bOu byF bmF b w=qOu b w:=by unfold bOu; rw [fF2,byF_eq]; rfl
theorem fRe (a b:BP) (w t:Int):bRe muF adF byF bmF baF bnF a b w t=qRe a b w t:=by unfold bRe; rw [fSq,fOu,adF_eq]; rfl
theorem bgZZ_pos {a b:BP} {w t lo hi:Int} {L:List Int} (hw:I64 w) (ht:I64 t) (h:GB a 4 13) (g:GB b 4 12) (hp:FSpec Tryz.prog 150 [bpP (qRe a b w t),iA lo,iA hi] (lsJ L)):bgZZ muF adF byF bmF baF bnF L a b w t lo hi=some (Out.of (.tup [lsJ L,iA 0])):=by
  unfold bgZZ gP gG
  rw [fRe,fSq,fOu,fIn,fF2,fD2,fM2,fW2,fW2]
  have n1:=nw_bmul (bOf w) (bOf w)
  have n2:=nw_bmul (bOf t) (bOf t)
  have n3:=nw_of hw
  have n4:=nw_of ht
  have n5:nw (bOf (-4)).2≤4:=nw_of ⟨by decide,by decide⟩
  have n6:=nw_f2 hw
  have i:=gb_in hw ht h
  have li:=i.len
  have lh:=h.len
  have lg:=g.len
  have m:=gb_mul i i
  have lm:=m.len
  have o:=gb_by g n6
  have lo':=o.len
  have nn:nw (bneg (bmul (bOf t) (bOf t))).2≤8:=by show nw (bmul (bOf t) (bOf t)).2≤8; omega
  have nd:=nw_badd (a:=bmul (bOf w) (bOf w)) (b:=bneg (bmul (bOf t) (bOf t))) (n:=8) (by omega) nn
  have hin:FSpec Tryz.prog 145 [bpP a,b1A (badd (bmul (bOf w) (bOf w)) (bneg (bmul (bOf t) (bOf t))))] (bpP (qIn a w t)):=by
    refine FSpec.of_args (adS' (p:=a) (q:=(1,c0B (badd (bmul (bOf w) (bOf w)) (bneg (bmul (bOf t) (bOf t)))))) (B:=13) (by omega) (show (1:Nat)≤1000 by omega) (by omega) h.pb (gb_c0 (by omega)).pb) fun E vs h=>?_
    obtain ⟨v,ws,rfl,h1,h2⟩:=rels_cons.1 h
    obtain ⟨v',ws',rfl,h3,h4⟩:=rels_cons.1 h2
    exact rels_cons.2 ⟨v,_,rfl,h1,rels_cons.2 ⟨v',ws',rfl,sl_like h3 fun i hi=>(by
      match i,hi with
      | 0,_=>rfl),h4⟩⟩
  rw [gOf_pos hw,gOf_pos hw,gate_pos (bm_specN (by omega) (by omega)),gOf_pos ht,gOf_pos ht,gate_pos (bm_specN (by omega) (by omega)),gate_pos (bn_spec _),gate_pos (ba_specN (by omega) (by omega)),gate_pos hin]
  rw [gate_pos (muS (B:=14) (by omega) (by omega) (by omega) i.pb i.pb),gOf_pos ⟨by decide,by decide⟩,gate_pos (bm_specN (by omega) (by omega)),gate_pos (show FSpec Tryz.prog 149 [bpP b,bgA (bmul (bOf (-4)) (bmul (bOf w) (bOf w)))] (bpP (qOu b w)) from byS (B:=12) (by omega) (by omega) g.pb n6)]
  have ha:FSpec Tryz.prog 145 [bpP (bMul (qIn a w t) (qIn a w t)),bpP (qOu b w)] (bpP (qRe a b w t)):=adS' (B:=32) (by omega) (Nat.le_trans o.len (by omega)) (by omega) m.pb (o.pb.le (by omega))
  rw [gate_pos ha]
  exact gate_pos hp
end Go.Proofs.YtancjnambbkhmaaGreat

namespace Go.Proofs.YtancjnambbkhmaaGreat
open Go.Gv

theorem tl_self {p:Ply} (h:Tp p):tl p.2 p.1=p.1:=by
  obtain ⟨n,f⟩:=p
  cases n with
  | zero=>rfl
  | succ n =>
    rcases h with h | h
    · cases h
    · have h':f n≠0:=h
      show (if f n=0 then tl f n else n+1)=n+1
      rw [if_neg h']
theorem pp_Tp (p q:Ply):Tp (ppY p q):=by
  by_cases g:tl (padd p.2 q.2) (max p.1 q.1)=0
  · exact Or.inl g
  · exact Or.inr (tl_top _ _ g)
noncomputable def plL (P:Ply) (lo hi:Int):List Int:=cond (plB P.1 lo hi) [] (plcP P lo hi)
theorem plC_spec {P:Ply} {lo hi:Int} (g:Gd P 5 20) (ht:Tp P) (hlo:-1125899906842624≤lo) (hhi:hi≤1125899906842624):FSpec Tryz.prog 246 [PlyA P,iA lo,iA hi] (lsJ (plL P lo hi)):=by
  unfold plL
  cases hB:plB P.1 lo hi
  · have g1:2≤P.1∧lo≤hi:=by
      unfold plB at hB
      by_cases g:((P.1:Nat):Int) < 2
      · rw [decide_eq_true g] at hB; cases hB
      · rw [decide_eq_false g,cond_false] at hB
        have:=of_decide_eq_false hB
        omega
    exact plP_spec (p:=P) (B:=20) g1.1 g.len g.cn ht (by decide) g.zw g1.2 (by omega) (by omega) fun a b _ h _=>rt_mono (P:=finP P) g1.1 (fin_Cn g.cn) (fin_Tp ht) h
  · exact pl_nil hB
section
variable {a b:BP} {a' b':Ply} {w t lo hi:Int} (hw:M31 w) (ht:M31 t) (ha:Gd a' 3 7) (hb:Gd b' 3 6) (h:bV a=a'.2) (g:bV b=b'.2) (ga:GB a 4 13) (gb:GB b 4 12) (hlo:-1125899906842624≤lo) (hhi:hi≤1125899906842624)
include hw ht ha hb h g ga gb hlo hhi
theorem plq_spec:FSpec Tryz.prog 150 [bpP (qRe a b w t),iA lo,iA hi] (lsJ (plL (riP a' b' w t) lo hi)):=by
  have hv:=bV_re hw ht ha hb h g
  have gr:=gd_ri hw ht ha hb
  have gB:=gb_re hw.i64 ht.i64 ga gb
  have hTp:Tp (riP a' b' w t):=pp_Tp _ _
  have hs:=tl_self hTp
  have hc:Cn (qRe a b w t).1 (riP a' b' w t).2:=by rw [← hv]; exact bV_Cn _
  have e1:btl (qRe a b w t).2 (qRe a b w t).1=(riP a' b' w t).1:=by
    rw [btl_tl,show bval (qRe a b w t).1 (qRe a b w t).2=(riP a' b' w t).2 from hv,tl_len hc gr.cn,hs]
  have e2:bval (qRe a b w t).1 (qRe a b w t).2=(riP a' b' w t).2:=hv
  have h5:(qRe a b w t).1≤5:=by
    have d:(qRe a b w t).1=btl (qRe a b w t).2 (max (bMul (qIn a w t) (qIn a w t)).1 (qOu b w).1):=rfl
    have v:bval (max (bMul (qIn a w t) (qIn a w t)).1 (qOu b w).1) (qRe a b w t).2=(riP a' b' w t).2:=(bval_cut _ _).symm.trans hv
    have c:=bval_Cn (max (bMul (qIn a w t) (qIn a w t)).1 (qOu b w).1) (qRe a b w t).2
    rw [v] at c
    rw [d,btl_tl,v,tl_len c gr.cn,hs]
    exact gr.len
  have:=pl'_spec (p0:=qRe a b w t) (B:=33) h5 (by decide) gB.pb hlo hhi
  rw [e1,e2] at this
  exact this
end
theorem rr_ks {L:List Int}:∀ e,e ∈ rrK cuF muF adF byF bmF baF bnF L→KOk Tryz.prog e:=k_cons kS_ok (k_cons kS_ok (k_cons kS_ok (k_cons kS_ok (k_cons kS_ok (k_cons kS_ok (k_cons kS_ok (k_cons kS_ok (k_cons kS_ok k_nil))))))))
theorem rr_ls:∀ e,e ∈ [(⟨140,gWd wdB⟩:Entry),⟨141,gFr frB⟩]→EOk Tryz.prog e:=e_cons (gWd_ok wd_spec) (e_cons (gFr_ok fr_spec) e_nil)
section
variable {o0 o1 o2 d0 d1 d2 w t lo hi:Int}
theorem rqX {ax:Int} (hx:ax < 0∨ax > 2):FSpec Tryz.prog 117 [v3 o0 o1 o2,v3 d0 d1 d2,iA ax,iA w,iA t,iA lo,iA hi] (rtA ([],3)):=by
  refine bad_like (gspec e_nil k_nil Tryz.func117 (by kernel_rfl) (by kernel_rfl) noL_ok rfl ((rq_evX o0 o1 o2 d0 d1 d2 w t lo hi ax).trans ?_))
  have:cond (decide (ax < 0)) true (decide (ax > 2))=true:=by
    by_cases g:ax < 0
    · rw [decide_eq_true g]; rfl
    · rw [decide_eq_false g,decide_eq_true (show ax > 2 by omega)]; rfl
  rw [this]
  rfl
theorem rqB {ax:Int} (hx:0≤ax∧ax≤2) (hb:rrB wdB frB o0 o1 o2 d0 d1 d2 w t lo hi=true):FSpec Tryz.prog 117 [v3 o0 o1 o2,v3 d0 d1 d2,iA ax,iA w,iA t,iA lo,iA hi] (rtA ([],1)):=by
  have:ax=0∨ax=1∨ax=2:=by omega
  rcases this with rfl | rfl | rfl
  · refine bad_like (gspecZ noZ_ok rr_ls (rr_ks (L:=[])) (m_cons (born_ok _) m_nil) Tryz.func117 (by kernel_rfl) (by kernel_rfl) noL_ok rfl ((rq_ev0 wdB frB cuF muF adF byF bmF baF bnF [] o0 o1 o2 d0 d1 d2 w t lo hi).trans ?_))
    rw [hb]; rfl
  · refine bad_like (gspecZ noZ_ok rr_ls (rr_ks (L:=[])) (m_cons (born_ok _) m_nil) Tryz.func117 (by kernel_rfl) (by kernel_rfl) noL_ok rfl ((rq_ev1 wdB frB cuF muF adF byF bmF baF bnF [] o0 o1 o2 d0 d1 d2 w t lo hi).trans ?_))
    rw [hb]; rfl
  · refine bad_like (gspecZ noZ_ok rr_ls (rr_ks (L:=[])) (m_cons (born_ok _) m_nil) Tryz.func117 (by kernel_rfl) (by kernel_rfl) noL_ok rfl ((rq_ev2 wdB frB cuF muF adF byF bmF baF bnF [] o0 o1 o2 d0 d1 d2 w t lo hi).trans ?_))
    rw [hb]; rfl
variable (h:Six o0 o1 o2 d0 d1 d2 w t) (hlo:-1125899906842624≤lo) (hhi:hi≤1125899906842624) (hb:rrB wdB frB o0 o1 o2 d0 d1 d2 w t lo hi=false)
include h hlo hhi hb
theorem rqC0:FSpec Tryz.prog 117 [v3 o0 o1 o2,v3 d0 d1 d2,iA 0,iA w,iA t,iA lo,iA hi] (rtA (plL (riP (a3P o0 o1 o2 d0 d1 d2) (f2P o1 d1 o2 d2) w t) lo hi,0)):=by
  have g3:=gb_a3 h
  have b6:GB (bAdd (bAdd zB0 (qS o0 d0)) (qS o1 d1)) 4 12:=gb_f2 h.o0.i64 h.d0.i64 h.o1.i64 h.d1.i64
  have hp:=plq_spec h.w h.t (gd_a3 h) (gd_f2 h.o1 h.d1 h.o2 h.d2) (bV_a3 o0 o1 o2 d0 d1 d2) (bV_f2 o1 d1 o2 d2) g3 (gb_f2 h.o1.i64 h.d1.i64 h.o2.i64 h.d2.i64) hlo hhi
  generalize plL (riP (a3P o0 o1 o2 d0 d1 d2) (f2P o1 d1 o2 d2) w t) lo hi=L at hp ⊢
  refine gspecZ noZ_ok rr_ls rr_ks (m_cons (born_ok _) m_nil) Tryz.func117 (by kernel_rfl) (by kernel_rfl) noL_ok rfl ((rq_ev0 wdB frB cuF muF adF byF bmF baF bnF L o0 o1 o2 d0 d1 d2 w t lo hi).trans ?_)
  rw [hb,cond_false]
  simp only [bA2,bA3,al0,al1,bqS_eq,adF_0,adF_eq]
  rw [bgI_pos h.o0.i64 h.d0.i64,ga0_pos (gb_qS h.o0.i64 h.d0.i64) (by omega) (by omega),bgI_pos h.o1.i64 h.d1.i64,ga1_pos (gb_p1 h.o0.i64 h.d0.i64) ((gb_qS h.o1.i64 h.d1.i64).mono (by omega)) (by omega) (by omega),ga0_pos (gb_qS h.o1.i64 h.d1.i64) (by omega) (by omega),bgI_pos h.o2.i64 h.d2.i64]
  rw [ga1_pos b6 ((gb_qS h.o2.i64 h.d2.i64).mono (by omega)) (by omega) (by omega),ga1_pos (gb_p1 h.o1.i64 h.d1.i64) ((gb_qS h.o2.i64 h.d2.i64).mono (by omega)) (by omega) (by omega)]
  exact bgZZ_pos h.w.i64 h.t.i64 g3 (gb_f2 h.o1.i64 h.d1.i64 h.o2.i64 h.d2.i64) hp
theorem rqC1:FSpec Tryz.prog 117 [v3 o0 o1 o2,v3 d0 d1 d2,iA 1,iA w,iA t,iA lo,iA hi] (rtA (plL (riP (a3P o0 o1 o2 d0 d1 d2) (f2P o0 d0 o2 d2) w t) lo hi,0)):=by
  have g3:=gb_a3 h
  have b6:GB (bAdd (bAdd zB0 (qS o0 d0)) (qS o1 d1)) 4 12:=gb_f2 h.o0.i64 h.d0.i64 h.o1.i64 h.d1.i64
  have hp:=plq_spec h.w h.t (gd_a3 h) (gd_f2 h.o0 h.d0 h.o2 h.d2) (bV_a3 o0 o1 o2 d0 d1 d2) (bV_f2 o0 d0 o2 d2) g3 (gb_f2 h.o0.i64 h.d0.i64 h.o2.i64 h.d2.i64) hlo hhi
  generalize plL (riP (a3P o0 o1 o2 d0 d1 d2) (f2P o0 d0 o2 d2) w t) lo hi=L at hp ⊢
  refine gspecZ noZ_ok rr_ls rr_ks (m_cons (born_ok _) m_nil) Tryz.func117 (by kernel_rfl) (by kernel_rfl) noL_ok rfl ((rq_ev1 wdB frB cuF muF adF byF bmF baF bnF L o0 o1 o2 d0 d1 d2 w t lo hi).trans ?_)
  rw [hb,cond_false]
  simp only [bA2,bA3,al0,al1,bqS_eq,adF_0,adF_eq]
  rw [bgI_pos h.o0.i64 h.d0.i64,ga0_pos (gb_qS h.o0.i64 h.d0.i64) (by omega) (by omega),ga0_pos (gb_qS h.o0.i64 h.d0.i64) (by omega) (by omega),bgI_pos h.o1.i64 h.d1.i64,ga1_pos (gb_p1 h.o0.i64 h.d0.i64) ((gb_qS h.o1.i64 h.d1.i64).mono (by omega)) (by omega) (by omega),bgI_pos h.o2.i64 h.d2.i64]
  rw [ga1_pos b6 ((gb_qS h.o2.i64 h.d2.i64).mono (by omega)) (by omega) (by omega),ga1_pos (gb_p1 h.o0.i64 h.d0.i64) ((gb_qS h.o2.i64 h.d2.i64).mono (by omega)) (by omega) (by omega)]
  exact bgZZ_pos h.w.i64 h.t.i64 g3 (gb_f2 h.o0.i64 h.d0.i64 h.o2.i64 h.d2.i64) hp
theorem rqC2:FSpec Tryz.prog 117 [v3 o0 o1 o2,v3 d0 d1 d2,iA 2,iA w,iA t,iA lo,iA hi] (rtA (plL (riP (a3P o0 o1 o2 d0 d1 d2) (f2P o0 d0 o1 d1) w t) lo hi,0)):=by
  have g3:=gb_a3 h
  have b6:GB (bAdd (bAdd zB0 (qS o0 d0)) (qS o1 d1)) 4 12:=gb_f2 h.o0.i64 h.d0.i64 h.o1.i64 h.d1.i64
  have hp:=plq_spec h.w h.t (gd_a3 h) (gd_f2 h.o0 h.d0 h.o1 h.d1) (bV_a3 o0 o1 o2 d0 d1 d2) (bV_f2 o0 d0 o1 d1) g3 (gb_f2 h.o0.i64 h.d0.i64 h.o1.i64 h.d1.i64) hlo hhi
  generalize plL (riP (a3P o0 o1 o2 d0 d1 d2) (f2P o0 d0 o1 d1) w t) lo hi=L at hp ⊢
  refine gspecZ noZ_ok rr_ls rr_ks (m_cons (born_ok _) m_nil) Tryz.func117 (by kernel_rfl) (by kernel_rfl) noL_ok rfl ((rq_ev2 wdB frB cuF muF adF byF bmF baF bnF L o0 o1 o2 d0 d1 d2 w t lo hi).trans ?_)
  rw [hb,cond_false]
  simp only [bA2,bA3,al0,al1,bqS_eq,adF_0,adF_eq]
  rw [bgI_pos h.o0.i64 h.d0.i64,ga0_pos (gb_qS h.o0.i64 h.d0.i64) (by omega) (by omega),ga0_pos (gb_qS h.o0.i64 h.d0.i64) (by omega) (by omega),bgI_pos h.o1.i64 h.d1.i64,ga1_pos (gb_p1 h.o0.i64 h.d0.i64) ((gb_qS h.o1.i64 h.d1.i64).mono (by omega)) (by omega) (by omega),ga1_pos (gb_p1 h.o0.i64 h.d0.i64) ((gb_qS h.o1.i64 h.d1.i64).mono (by omega)) (by omega) (by omega),bgI_pos h.o2.i64 h.d2.i64]
  rw [ga1_pos b6 ((gb_qS h.o2.i64 h.d2.i64).mono (by omega)) (by omega) (by omega)]
  exact bgZZ_pos h.w.i64 h.t.i64 g3 b6 hp
theorem rqC {ax:Int} (hx:0≤ax∧ax≤2):FSpec Tryz.prog 117 [v3 o0 o1 o2,v3 d0 d1 d2,iA ax,iA w,iA t,iA lo,iA hi] (rtA (plL (riP (a3P o0 o1 o2 d0 d1 d2) (flP ax o0 o1 o2 d0 d1 d2) w t) lo hi,0)):=by
  have:ax=0∨ax=1∨ax=2:=by omega
  rcases this with rfl | rfl | rfl
  · exact rqC0 h hlo hhi hb
  · exact rqC1 h hlo hhi hb
  · exact rqC2 h hlo hhi hb
end
end Go.Proofs.YtancjnambbkhmaaGreat

namespace Go.Proofs.YtancjnambbkhmaaGreat
open Go.Gv

section
variable (o0 o1 o2 d0 d1 d2 ax w t lo hi:Int) (L:List Int) (e:Int)
end
theorem wd31 (x:Int):wdB x=false ↔ M31 x:=by
  unfold wdB M31
  by_cases g1:x < -2147483648
  · rw [decide_eq_true g1,cond_true]
    exact ⟨fun h=>(by cases h),fun h=>(by omega)⟩
  · rw [decide_eq_false g1,cond_false]
    by_cases g2:x > 2147483648
    · rw [decide_eq_true g2]
      exact ⟨fun h=>(by cases h),fun h=>(by omega)⟩
    · rw [decide_eq_false g2]
      exact ⟨fun _=>(by omega),fun _=>rfl⟩
section
variable {o0 o1 o2 d0 d1 d2 w t lo hi:Int}
theorem rrB_f (h:Six o0 o1 o2 d0 d1 d2 w t) (hm:msI lo hi=true):rrB wdB frB o0 o1 o2 d0 d1 d2 w t lo hi=false:=by
  unfold rrB rrB0
  rw [(wd31 _).2 h.o0,(wd31 _).2 h.o1,(wd31 _).2 h.o2,(wd31 _).2 h.d0,(wd31 _).2 h.d1,(wd31 _).2 h.d2,(wd31 _).2 h.w,(wd31 _).2 h.t,fr_ms,hm]
  rfl
theorem rrB_t (h:¬(Six o0 o1 o2 d0 d1 d2 w t∧msI lo hi=true)):rrB wdB frB o0 o1 o2 d0 d1 d2 w t lo hi=true:=by
  cases hb:rrB wdB frB o0 o1 o2 d0 d1 d2 w t lo hi
  · refine absurd ?_ h
    unfold rrB rrB0 at hb
    rw [fr_ms] at hb
    revert hb
    have k:=fun x=>(wd31 x).1
    cases h1:wdB w<;>cases h2:wdB t<;>cases h3:wdB o0<;>cases h4:wdB d0<;>cases h5:wdB o1<;>cases h6:wdB d1<;>cases h7:wdB o2<;>cases h8:wdB d2<;>cases h9:msI lo hi<;>intro hb<;>first | (cases hb; done) | exact ⟨⟨k _ h3,k _ h5,k _ h7,k _ h4,k _ h6,k _ h8,k _ h1,k _ h2⟩,rfl⟩
  · rfl
theorem ms_lh (hm:msI lo hi=true):-1125899906842624≤lo∧hi≤1125899906842624:=by
  unfold msI at hm
  by_cases g1:lo ≥ -1125899906842624
  · rw [decide_eq_true g1,cond_true] at hm
    exact ⟨g1,of_decide_eq_true hm⟩
  · rw [decide_eq_false g1] at hm; cases hm
end
/-- What is left: the code's Ring. -/
structure RingOk:Prop where
  bad:∀ o0 o1 o2 d0 d1 d2 ax w t lo hi:Int,(ax < 0∨ax > 2)→FSpec Tryz.prog 242 [v3 o0 o1 o2,v3 d0 d1 d2,iA ax,iA w,iA t,iA lo,iA hi] (rtA ([],3))
  far:∀ o0 o1 o2 d0 d1 d2 ax w t lo hi:Int,0≤ax∧ax≤2→¬(Six o0 o1 o2 d0 d1 d2 w t∧msI lo hi=true)→FSpec Tryz.prog 242 [v3 o0 o1 o2,v3 d0 d1 d2,iA ax,iA w,iA t,iA lo,iA hi] (rtA ([],1))
  good:∀ o0 o1 o2 d0 d1 d2 ax w t lo hi:Int,0≤ax∧ax≤2→Six o0 o1 o2 d0 d1 d2 w t→msI lo hi=true→FSpec Tryz.prog 242 [v3 o0 o1 o2,v3 d0 d1 d2,iA ax,iA w,iA t,iA lo,iA hi] (rtA (plL (riP (a3P o0 o1 o2 d0 d1 d2) (flP ax o0 o1 o2 d0 d1 d2) w t) lo hi,0))
end Go.Proofs.YtancjnambbkhmaaGreat

namespace Go.Proofs.YtancjnambbkhmaaGreat
open Go.Gv

def v3S (a b c:Int):AV:=.sl 1 3 fun i=>([iA a,iA b,iA c].drop (0*1+0+i*1)).take 1
section
variable (mb:List AV→Bool) (sf:Int→Int→Bool) (rp:List AV→Ply) (L:List Int) (o0 o1 o2 d0 d1 d2 ax w t lo hi:Int)
def riB:Bool:=cond (cond (cond (!mb [v3S o0 o1 o2]) true (!mb [v3S d0 d1 d2])) true (!mb [p2A w t])) true (!sf lo hi)
noncomputable def gB (l:List AV) (b:Bool) (o:Option Out):Option Out:=gate (FSpec Tryz.prog 244 l (bA b)) o
theorem ri_ev:evZ Tryz.prog [⟨245,gMs sf⟩] [kS Tryz.prog 244 (fun l=>bA (mb l)),kS Tryz.prog 247 (fun l=>PlyA (rp l)),kS Tryz.prog 246 (fun _=>lsJ L)] [born 45] noL noZ Tryz.f242 [v3 o0 o1 o2,v3 d0 d1 d2,iA ax,iA w,iA t,iA lo,iA hi] ret =
    cond (cond (decide (ax < 0)) true (decide (ax > 2))) (rtBad 3)
      (gB [v3S o0 o1 o2] (mb [v3S o0 o1 o2]) (gB [v3S d0 d1 d2] (mb [v3S d0 d1 d2]) (gB [p2A w t] (mb [p2A w t])
        (cond (riB mb sf o0 o1 o2 d0 d1 d2 w t lo hi) (rtBad 1)
          (gY 247 [v3 o0 o1 o2,v3 d0 d1 d2,iA ax,iA w,iA t] (rp [v3 o0 o1 o2,v3 d0 d1 d2,iA ax,iA w,iA t])
            (gate (FSpec Tryz.prog 246 [PlyA (rp [v3 o0 o1 o2,v3 d0 d1 d2,iA ax,iA w,iA t]),iA lo,iA hi] (lsJ L)) (some (Out.of (.tup [lsJ L,iA 0]))))))))):=by kernel_rfl
end
end Go.Proofs.YtancjnambbkhmaaGreat

namespace Go.Proofs.YtancjnambbkhmaaGreat
open Go.Gv

noncomputable def mbR (l:List AV):Bool:=mbI (decJ (a0 l)).1 (decJ (a0 l)).2
def u3 (a b c:Int) (i:Nat):Int:=[a,b,c].getD i 0
theorem mb31 (x:Int):mbB x=false ↔ M31 x:=by
  unfold mbB M31
  by_cases g1:x < -2147483648
  · rw [decide_eq_true g1,cond_true]
    exact ⟨fun h=>(by cases h),fun h=>(by omega)⟩
  · rw [decide_eq_false g1,cond_false]
    by_cases g2:x > 2147483648
    · rw [decide_eq_true g2]
      exact ⟨fun h=>(by cases h),fun h=>(by omega)⟩
    · rw [decide_eq_false g2]
      exact ⟨fun _=>(by omega),fun _=>rfl⟩
theorem mbI_cong {n:Nat} {u v:Nat→Int} (h:∀ i,i < n→u i=v i):mbI n u=mbI n v:=by
  unfold mbI
  rcases all_or_first (fun i=>!mbB (u i)) n with hl | ⟨K,hK,hp,_⟩
  · rw [allI_t hl,allI_t fun i hi=>(by rw [← h i hi]; exact hl i hi)]
  · rw [allI_f hK hp,allI_f hK (by rw [← h K hK]; exact hp)]
theorem mb_three (a b c:Int):FSpec Tryz.prog 244 [v3S a b c] (bA (mbR [v3S a b c]))∧(mbR [v3S a b c]=true ↔ M31 a∧M31 b∧M31 c):=by
  have e:mbR [v3S a b c]=mbI 3 (u3 a b c):=mbI_cong (n:=3) fun i hi=>by
    match i,hi with
    | 0,_=>rfl
    | 1,_=>rfl
    | 2,_=>rfl
  rw [e]
  refine ⟨FSpec.of_args (mb_spec (n:=3) (u3 a b c) (by decide)) fun E vs h=>?_,?_⟩
  · obtain ⟨v,ws,rfl,h1,h2⟩:=rels_cons.1 h
    exact rels_cons.2 ⟨v,ws,rfl,sl_like h1 fun i hi=>(by
      match i,hi with
      | 0,_=>rfl
      | 1,_=>rfl
      | 2,_=>rfl),h2⟩
  · constructor
    · intro h
      have k:=fun i hi=>(mb31 _).1 (show mbB (u3 a b c i)=false by simpa using allI_all h i hi)
      exact ⟨k 0 (by omega),k 1 (by omega),k 2 (by omega)⟩
    · rintro ⟨h0,h1,h2⟩
      refine allI_t fun i hi=>?_
      match i,hi with
      | 0,_=>rw [show mbB (u3 a b c 0)=false from (mb31 _).2 h0]; rfl
      | 1,_=>rw [show mbB (u3 a b c 1)=false from (mb31 _).2 h1]; rfl
      | 2,_=>rw [show mbB (u3 a b c 2)=false from (mb31 _).2 h2]; rfl
theorem mb_two (a b:Int):FSpec Tryz.prog 244 [p2A a b] (bA (mbR [p2A a b]))∧(mbR [p2A a b]=true ↔ M31 a∧M31 b):=by
  have e:mbR [p2A a b]=mbI 2 (u3 a b 0):=mbI_cong (n:=2) fun i hi=>by
    match i,hi with
    | 0,_=>rfl
    | 1,_=>rfl
  rw [e]
  refine ⟨FSpec.of_args (mb_spec (n:=2) (u3 a b 0) (by decide)) fun E vs h=>?_,?_⟩
  · obtain ⟨v,ws,rfl,h1,h2⟩:=rels_cons.1 h
    exact rels_cons.2 ⟨v,ws,rfl,sl_like h1 fun i hi=>(by
      match i,hi with
      | 0,_=>rfl
      | 1,_=>rfl),h2⟩
  · constructor
    · intro h
      have k:=fun i hi=>(mb31 _).1 (show mbB (u3 a b 0 i)=false by simpa using allI_all h i hi)
      exact ⟨k 0 (by omega),k 1 (by omega)⟩
    · rintro ⟨h0,h1⟩
      refine allI_t fun i hi=>?_
      match i,hi with
      | 0,_=>rw [show mbB (u3 a b 0 0)=false from (mb31 _).2 h0]; rfl
      | 1,_=>rw [show mbB (u3 a b 0 1)=false from (mb31 _).2 h1]; rfl
section
variable {o0 o1 o2 d0 d1 d2 ax w t lo hi:Int}
theorem riB_eq:riB mbR msI o0 o1 o2 d0 d1 d2 w t lo hi=false ↔ Six o0 o1 o2 d0 d1 d2 w t∧msI lo hi=true:=by
  have a:=(mb_three o0 o1 o2).2
  have b:=(mb_three d0 d1 d2).2
  have c:=(mb_two w t).2
  unfold riB
  generalize mbR [v3S o0 o1 o2]=x at *
  generalize mbR [v3S d0 d1 d2]=y at *
  generalize mbR [p2A w t]=z at *
  generalize msI lo hi=u at *
  constructor
  · intro h
    cases x<;>cases y<;>cases z<;>cases u<;>first | (cases h; done) | skip
    obtain ⟨h0,h1,h2⟩:=a.1 rfl
    obtain ⟨h3,h4,h5⟩:=b.1 rfl
    obtain ⟨h6,h7⟩:=c.1 rfl
    exact ⟨⟨h0,h1,h2,h3,h4,h5,h6,h7⟩,rfl⟩
  · rintro ⟨h,rfl⟩
    rw [a.2 ⟨h.o0,h.o1,h.o2⟩,b.2 ⟨h.d0,h.d1,h.d2⟩,c.2 ⟨h.w,h.t⟩]
    rfl
theorem ri_go {rp:List AV→Ply} {L:List Int} {r:AV} (h:cond (cond (decide (ax < 0)) true (decide (ax > 2))) (rtBad 3) (cond (riB mbR msI o0 o1 o2 d0 d1 d2 w t lo hi) (rtBad 1) (gY 247 [v3 o0 o1 o2,v3 d0 d1 d2,iA ax,iA w,iA t] (rp [v3 o0 o1 o2,v3 d0 d1 d2,iA ax,iA w,iA t])
    (gate (FSpec Tryz.prog 246 [PlyA (rp [v3 o0 o1 o2,v3 d0 d1 d2,iA ax,iA w,iA t]),iA lo,iA hi] (lsJ L)) (some (Out.of (.tup [lsJ L,iA 0]))))))=some (Out.of r)):FSpec Tryz.prog 242 [v3 o0 o1 o2,v3 d0 d1 d2,iA ax,iA w,iA t,iA lo,iA hi] r:=by
  refine gspecZ noZ_ok (e_cons gMs_ok e_nil) (k_cons kS_ok (k_cons kS_ok (k_cons kS_ok k_nil))) (m_cons (born_ok _) m_nil) Tryz.func242 (by kernel_rfl) (by kernel_rfl) noL_ok rfl ((ri_ev mbR msI rp L o0 o1 o2 d0 d1 d2 ax w t lo hi).trans ?_)
  unfold gB
  rw [gate_pos (mb_three o0 o1 o2).1,gate_pos (mb_three d0 d1 d2).1,gate_pos (mb_two w t).1]
  exact h
end
theorem ax_bad {ax:Int} (h:ax < 0∨ax > 2):cond (decide (ax < 0)) true (decide (ax > 2))=true:=by
  by_cases g:ax < 0
  · rw [decide_eq_true g]; rfl
  · rw [decide_eq_false g,decide_eq_true (show ax > 2 by omega)]; rfl
theorem ax_good {ax:Int} (h:0≤ax∧ax≤2):cond (decide (ax < 0)) true (decide (ax > 2))=false:=by
  rw [decide_eq_false (show ¬ ax < 0 by omega),decide_eq_false (show ¬ ax > 2 by omega)]; rfl
theorem ringOk:RingOk where
  bad:=fun o0 o1 o2 d0 d1 d2 ax w t lo hi hx=>by
    refine bad_like (ri_go (rp:=fun _=>zP0) (L:=[]) ?_)
    rw [ax_bad hx]
    rfl
  far := fun o0 o1 o2 d0 d1 d2 ax w t lo hi hx hs=>by
    refine bad_like (ri_go (rp:=fun _=>zP0) (L:=[]) ?_)
    have hb:riB mbR msI o0 o1 o2 d0 d1 d2 w t lo hi=true:=by
      cases h:riB mbR msI o0 o1 o2 d0 d1 d2 w t lo hi
      · exact absurd (riB_eq.1 h) hs
      · rfl
    rw [ax_good hx,hb]
    rfl
  good:=fun o0 o1 o2 d0 d1 d2 ax w t lo hi hx h6 hm=>by
    obtain ⟨hlo,hhi⟩:=ms_lh hm
    obtain ⟨h1,g⟩:=rp_spec h6 hx
    have h2:=plC_spec (lo:=lo) (hi:=hi) (gd_ri h6.w h6.t (gd_a3 h6) g) (pp_Tp _ _) hlo hhi
    generalize plL (riP (a3P o0 o1 o2 d0 d1 d2) (flP ax o0 o1 o2 d0 d1 d2) w t) lo hi=L at h2 ⊢
    generalize riP (a3P o0 o1 o2 d0 d1 d2) (flP ax o0 o1 o2 d0 d1 d2) w t=Q at h1 h2
    refine ri_go (rp:=fun _=>Q) (L:=L) ?_
    unfold gY
    rw [ax_good hx,riB_eq.2 ⟨h6,hm⟩,gate_pos h1,gate_pos h2]
    rfl
end Go.Proofs.YtancjnambbkhmaaGreat
