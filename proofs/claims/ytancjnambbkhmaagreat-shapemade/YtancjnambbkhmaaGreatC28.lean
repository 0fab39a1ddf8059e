/-
  Hg2 Hm1 Hm2 Arg0, one behind the other.
-/
import Derived.Test.YtancjnambbkhmaaGreatC19
import Derived.Test.YtancjnambbkhmaaGreatC27
import Derived.Test.YtancjnambbkhmaaGreatC11
namespace Go.Proofs.YtancjnambbkhmaaGreat
open Go.Gv
/-- Of any numbers, the code's Ring and the answer's RingRoots say the same. -/
theorem ring_same (o0 o1 o2 d0 d1 d2 ax w t lo hi:Int):∃ L e,FSpec Tryz.prog 242 [v3 o0 o1 o2,v3 d0 d1 d2,iA ax,iA w,iA t,iA lo,iA hi] (rtA (L,e))∧FSpec Tryz.prog 117 [v3 o0 o1 o2,v3 d0 d1 d2,iA ax,iA w,iA t,iA lo,iA hi] (rtA (L,e)):=by
  by_cases hx:ax < 0∨ax > 2
  · exact ⟨[],3,ringOk.bad _ _ _ _ _ _ _ _ _ _ _ hx,rqX hx⟩
  · have hx':0≤ax∧ax≤2:=by omega
    by_cases hs:Six o0 o1 o2 d0 d1 d2 w t∧msI lo hi=true
    · obtain ⟨h6,hm⟩:=hs
      obtain ⟨hlo,hhi⟩:=ms_lh hm
      exact ⟨_,0,ringOk.good _ _ _ _ _ _ _ _ _ _ _ hx' h6 hm,rqC h6 hlo hhi (rrB_f h6 hm) hx'⟩
    · exact ⟨[],1,ringOk.far _ _ _ _ _ _ _ _ _ _ _ hx' hs,rqB hx' (rrB_t hs)⟩
end Go.Proofs.YtancjnambbkhmaaGreat
namespace Go.Proofs.YtancjnambbkhmaaGreat.Hs
open Go.Gv
open Go.Ev (cn fadd fsub fmul fdiv fsqrt fneg feq flt fle fgt fge fabs isNan flr cel)

def itof (n:Int):Nat:=cn (FloatKind.f64.nearest n)
section
variable (k:Int) (a:Nat→Nat) (sk:Int) (r:Nat→Nat) (n f z:Nat) (L:List Int) (e:Int)
def rgO' (i:Nat):Nat:=fsub (r i) (a i)
def ro3:AV:=w3 (whI (rgO' a r 0)) (whI (rgO' a r 1)) (whI (rgO' a r 2))
def rd3:AV:=w3 (whI (r 3)) (whI (r 4)) (whI (r 5))
def rgArgs:List AV:=[ro3 a r,rd3 r,iA (z:Nat),iA (whI (a 9)),iA (whI (a 10)),iA (f2i .i64 (leF (r 6))),iA 70368744177664]
def rdZ:Bool:=(whI (r 3)==0)&&((whI (r 4)==0)&&((whI (r 5)==0)&&true))
def rgK:Bool:=cond (rdZ r) false (!(cond (!(e==0)) true ((L.length:Int)==0)))
def rgT:Nat:=cond (rgK r L e) (fdiv (itof (L.getD 0 0)) k65536) 0
def rgE:Option Out:=cond (cond (!(e==0)) true ((L.length:Int)==0)) (s2 0 false) (cond (ixB 0 L.length||false) (s2 (fdiv (itof (L.getD 0 0)) k65536) true) none)
def wsG:List AV→AV
  | [.agg [.f x,.f y,.f w]]=>w3 (whI x) (whI y) (whI w)
  | _=>.any
noncomputable def rsX:Option Out:=gate (FSpec Tryz.prog 241 [V (rgO' a r 0) (rgO' a r 1) (rgO' a r 2)] (ro3 a r)) (gate (FSpec Tryz.prog 241 [V (r 3) (r 4) (r 5)] (rd3 r)) (cond (rdZ r) (s2 0 false) (cond (fitI .i64 (leF (r 6))||false)
  (gRi k a sk z (gWh (a 9) (gWh (a 10) (gate (FSpec Tryz.prog 242 (rgArgs a r z) (rtA (L,e))) (rgE L e))))) none)))
noncomputable def rsK:List KEntry:=[kS Tryz.prog 241 wsG,whK,riK z,kS Tryz.prog 242 fun _=>rtA (L,e)]
theorem rs_ev0:ev Tryz.prog Y0 (rsK 0 L e) noL Tryz.f240 [SH k a sk,RY r,.f n,.f f] ret=rsX k a sk r 0 L e:=by kernel_rfl
theorem rs_ev1:ev Tryz.prog Y0 (rsK 1 L e) noL Tryz.f240 [SH k a sk,RY r,.f n,.f f] ret=rsX k a sk r 1 L e:=by kernel_rfl
theorem rs_ev2:ev Tryz.prog Y0 (rsK 2 L e) noL Tryz.f240 [SH k a sk,RY r,.f n,.f f] ret=rsX k a sk r 2 L e:=by kernel_rfl
theorem rgE_eq (h:rdZ r=false):rgE L e=some (Out.of (.tup [.f (rgT r L e),bA (rgK r L e)])):=by
  unfold rgE rgT rgK s2
  rw [h]
  cases he:(e==0)
  · rfl
  · cases L with
    | nil=>rfl
    | cons x l =>
      have h1:(((x::l).length:Int)==0)=false:=beq_false_of_ne (by simp only [List.length_cons]; omega)
      have h2:ixB 0 (x::l).length=true:=ixB_t (i:=0) (by simp)
      rw [h1,h2]
      rfl
end
/-- A ring that may be and a ray that may be: all of their numbers, made whole, fit. -/
structure RFit (a r:Nat→Nat):Prop where
  o:∀ i,i < 3→whO (rgO' a r i)=true
  d:whO (r 3)=true∧whO (r 4)=true∧whO (r 5)=true
  w:whO (a 9)=true∧whO (a 10)=true
  l:fitI .i64 (leF (r 6))=true
theorem rfit {a r:Nat→Nat} (h:rcB a=false) (hr:rayS r=0):RFit a r:=by
  have ro:=ray_ok hr
  obtain ⟨a0,a1,a2⟩:=fine_near (rc_fine h).1
  obtain ⟨f0,f1,f2⟩:=fine_near ro.from'
  obtain ⟨d0,d1,d2⟩:=fine_near ro.dir
  refine ⟨fun i hi=>?_,⟨wh_near d0,wh_near d1,wh_near d2⟩,⟨wh_near (rc_near h).1,wh_near (rc_near h).2⟩,le_near ro.least⟩
  match i,hi with
  | 0,_=>exact wh_sub f0 a0
  | 1,_=>exact wh_sub f1 a1
  | 2,_=>exact wh_sub f2 a2
section
variable {k:Int} {a:Nat→Nat} {sk:Int} {r:Nat→Nat} {n f:Nat} {L:List Int} {e:Int}
theorem rsX_pos (h:RFit a r) {z:Nat} (hz:zB a=z) (hR:FSpec Tryz.prog 242 (rgArgs a r z) (rtA (L,e))):rsX k a sk r z L e=some (Out.of (.tup [.f (rgT r L e),bA (rgK r L e)])):=by
  unfold rsX
  have g1:FSpec Tryz.prog 241 [V (rgO' a r 0) (rgO' a r 1) (rgO' a r 2)] (ro3 a r):=swholes (h.o 0 (by omega)) (h.o 1 (by omega)) (h.o 2 (by omega))
  have g2:FSpec Tryz.prog 241 [V (r 3) (r 4) (r 5)] (rd3 r):=swholes h.d.1 h.d.2.1 h.d.2.2
  rw [gate_pos g1,gate_pos g2]
  cases hd:rdZ r
  · rw [cond_false,h.l,gRi_pos k a sk hz]
    unfold gWh
    rw [gate_pos (swhole h.w.1),gate_pos (swhole h.w.2),gate_pos hR]
    exact rgE_eq r L e hd
  · unfold rgT rgK s2
    rw [hd]; rfl
theorem tring (h:RFit a r) (hR:FSpec Tryz.prog 242 (rgArgs a r (zB a)) (rtA (L,e))):FSpec Tryz.prog 240 [SH k a sk,RY r,.f n,.f f] (.tup [.f (rgT r L e),bA (rgK r L e)]):=by
  rcases zB_lt a with hz | hz | hz
  · rw [hz] at hR; exact gspec Y0_ok (k_cons kS_ok (k_cons kS_ok (k_cons kS_ok (k_cons kS_ok k_nil)))) Tryz.func240 (by kernel_rfl) (by kernel_rfl) noL_ok rfl ((rs_ev0 k a sk r n f L e).trans (rsX_pos h hz hR))
  · rw [hz] at hR; exact gspec Y0_ok (k_cons kS_ok (k_cons kS_ok (k_cons kS_ok (k_cons kS_ok k_nil)))) Tryz.func240 (by kernel_rfl) (by kernel_rfl) noL_ok rfl ((rs_ev1 k a sk r n f L e).trans (rsX_pos h hz hR))
  · rw [hz] at hR; exact gspec Y0_ok (k_cons kS_ok (k_cons kS_ok (k_cons kS_ok (k_cons kS_ok k_nil)))) Tryz.func240 (by kernel_rfl) (by kernel_rfl) noL_ok rfl ((rs_ev2 k a sk r n f L e).trans (rsX_pos h hz hR))
end
section
variable (a:Nat→Nat) (sk:Int) (r:Nat→Nat) (t:Nat) (ok:Bool)
noncomputable def skG:Option Out:=cond (!meetK (ringB a (zB a)) r) (s2 0 false) (gate (FSpec Tryz.prog 240 [SH 6 a sk,RY r,.f (meetN (ringB a (zB a)) r),.f (meetF (ringB a (zB a)) r)] (.tup [.f t,bA ok])) (cond (cond (!ok) true (!fge t (r 6))) (s2 0 false) (cond (flt t (meetN (ringB a (zB a)) r)) (s2 (meetN (ringB a (zB a)) r) true) (cond (fgt t (meetF (ringB a (zB a)) r)) (s2 (meetF (ringB a (zB a)) r) true) (s2 t true)))))
theorem sk6_ev:ev Tryz.prog X3 [kS Tryz.prog 240 fun _=>.tup [.f t,bA ok]] noL Tryz.f46 [.ifc 150 (SH 6 a sk),RY r] ret=skG a sk r t ok:=by kernel_rfl
theorem sk6 {a:Nat→Nat} {sk:Int} {r:Nat→Nat} {t:Nat} {ok:Bool} (h:FSpec Tryz.prog 240 [SH 6 a sk,RY r,.f (meetN (ringB a (zB a)) r),.f (meetF (ringB a (zB a)) r)] (.tup [.f t,bA ok])) :
    FSpec Tryz.prog 46 [.ifc 150 (SH 6 a sk),RY r] (.tup [.f (htT (meetK (ringB a (zB a)) r) ok t (meetN (ringB a (zB a)) r) (meetF (ringB a (zB a)) r) (r 6)),bA (htK (meetK (ringB a (zB a)) r) ok t (r 6))]):=by
  refine gspec X3_ok (k_cons kS_ok k_nil) Tryz.func46 (by kernel_rfl) (by kernel_rfl) noL_ok rfl ((sk6_ev a sk r t ok).trans ?_)
  unfold skG
  rw [gate_pos h]
  exact htX_eq _ _ _ _ _ _
end
section
variable (k:Int) (a:Nat→Nat) (sk:Int) (r:Nat→Nat) (n f z:Nat) (L:List Int) (e:Int)
def rzB:Bool:=cond (cond (whI (r 3)==0) (whI (r 4)==0) false) (whI (r 5)==0) false
theorem rzB_eq:rzB r=rdZ r:=by
  unfold rzB rdZ
  cases (whI (r 3)==0)<;>cases (whI (r 4)==0)<;>cases (whI (r 5)==0)<;>rfl
noncomputable def gPa (x y w:Nat) (o:Option Out):Option Out:=gate (FSpec Tryz.prog 115 [V x y w] (w3 (whI x) (whI y) (whI w))) o
theorem gPa_pos {x y w:Nat} {o:Option Out} (hx:whO x=true) (hy:whO y=true) (hw:whO w=true):gPa x y w o=o:=gate_pos (rparts hx hy hw)
noncomputable def raX:Option Out:=gPa (r 3) (r 4) (r 5) (cond (rzB r) (s2 0 false) (gPa (a 9) (a 10) 0 (cond (fitI .i64 (leF (r 6))||false) (gPa (rgO' a r 0) (rgO' a r 1) (rgO' a r 2) (gAx a z (gate (FSpec Tryz.prog 117 (rgArgs a r z) (rtA (L,e))) (rgE L e)))) none)))
noncomputable def raK:List KEntry:=[kS Tryz.prog 115 wsG,axK z,kS Tryz.prog 117 fun _=>rtA (L,e)]
theorem ra_ev0:ev Tryz.prog Y1 (raK 0 L e) noL Tryz.f91 [SH k a sk,RY r] ret=raX a r 0 L e:=by kernel_rfl
theorem ra_ev1:ev Tryz.prog Y1 (raK 1 L e) noL Tryz.f91 [SH k a sk,RY r] ret=raX a r 1 L e:=by kernel_rfl
theorem ra_ev2:ev Tryz.prog Y1 (raK 2 L e) noL Tryz.f91 [SH k a sk,RY r] ret=raX a r 2 L e:=by kernel_rfl
theorem ow6_ev (t:Nat) (ok:Bool):ev Tryz.prog R6 [kS Tryz.prog 91 fun _=>.tup [.f t,bA ok]] noL Tryz.f49 [SH 6 a sk,RY r,.f n,.f f] ret=gate (FSpec Tryz.prog 91 [SH 6 a sk,RY r] (.tup [.f t,bA ok])) (s2 t ok):=by kernel_rfl
end
section
variable {k:Int} {a:Nat→Nat} {sk:Int} {r:Nat→Nat} {L:List Int} {e:Int}
theorem raX_pos (h:RFit a r) (ho:axO (a 3) (a 4) (a 5)=true) {z:Nat} (hz:zB a=z) (hR:FSpec Tryz.prog 117 (rgArgs a r z) (rtA (L,e))):raX a r z L e=some (Out.of (.tup [.f (rgT r L e),bA (rgK r L e)])):=by
  unfold raX
  rw [gPa_pos h.d.1 h.d.2.1 h.d.2.2,rzB_eq]
  cases hd:rdZ r
  · rw [cond_false,gPa_pos h.w.1 h.w.2 wh_zero,h.l,gPa_pos (h.o 0 (by omega)) (h.o 1 (by omega)) (h.o 2 (by omega)),gAx_pos a ho hz,gate_pos hR]
    exact rgE_eq r L e hd
  · unfold rgT rgK s2
    rw [hd]; rfl
theorem rring (h:RFit a r) (ho:axO (a 3) (a 4) (a 5)=true) (hR:FSpec Tryz.prog 117 (rgArgs a r (zB a)) (rtA (L,e))):FSpec Tryz.prog 91 [SH k a sk,RY r] (.tup [.f (rgT r L e),bA (rgK r L e)]):=by
  rcases zB_lt a with hz | hz | hz
  · rw [hz] at hR; exact gspec Y1_ok (k_cons kS_ok (k_cons kS_ok (k_cons kS_ok k_nil))) Tryz.func91 (by kernel_rfl) (by kernel_rfl) noL_ok rfl ((ra_ev0 k a sk r L e).trans (raX_pos h ho hz hR))
  · rw [hz] at hR; exact gspec Y1_ok (k_cons kS_ok (k_cons kS_ok (k_cons kS_ok k_nil))) Tryz.func91 (by kernel_rfl) (by kernel_rfl) noL_ok rfl ((ra_ev1 k a sk r L e).trans (raX_pos h ho hz hR))
  · rw [hz] at hR; exact gspec Y1_ok (k_cons kS_ok (k_cons kS_ok (k_cons kS_ok k_nil))) Tryz.func91 (by kernel_rfl) (by kernel_rfl) noL_ok rfl ((ra_ev2 k a sk r L e).trans (raX_pos h ho hz hR))
end
theorem agS6 (a:Nat→Nat) (sk:Int) (r:Nat→Nat) (h:e6 a sk=0):AgS 6 a sk r:=by
  have sm:=sm6 a sk
  rw [h] at sm
  have kg:=kn6_good a sk h
  have ho:=ax_of6 h
  by_cases hr:rayS r=0
  · have fit:=rfit (knE_zero h).1 hr
    obtain ⟨L,e,h1,h2⟩:=ring_same (whI (rgO' a r 0)) (whI (rgO' a r 1)) (whI (rgO' a r 2)) (whI (r 3)) (whI (r 4)) (whI (r 5)) (zB a:Nat) (whI (a 9)) (whI (a 10)) (f2i .i64 (leF (r 6))) 70368744177664
    refine agS_good r kg sm (sk6 (tring fit h1)) (ar6 a sk ho) fun _=>⟨_,_,fun _=>⟨?_,rfl,fun _=>rfl⟩⟩
    exact gspec R6_ok (k_cons kS_ok k_nil) Tryz.func49 (by kernel_rfl) (by kernel_rfl) noL_ok rfl ((ow6_ev a sk r _ _ _ _).trans (gate_pos (rring fit ho h2)))
  · exact ⟨0,false,rayS r,strike_b (kt_r kg hr) hr,rst_r sm hr⟩
/-- THE LAW ShapeSays, of all shapes, rays and points. -/
theorem shapeSays_law (k:Int) (a:Nat→Nat) (sk:Int) (r:Nat→Nat) (p q u:Nat):FSpec Tryz.prog 3 [SH k a sk,RY r,V p q u] (bA true):=shape_law (ag_all a sk r p q u k (agS6 a sk r))
end Go.Proofs.YtancjnambbkhmaaGreat.Hs

namespace Go.Proofs.YtancjnambbkhmaaGreat.Hs
open Go.Gv
open Go.Ev (cn fadd fsub fmul fdiv fsqrt fneg feq flt fle fgt fge fabs)

def mpk0 (c:Int):Int:=cond (decide (c < 0)) (w64 (0 - w64 (c+1))) c
def mpk (c n:Int):Int:=(mpk0 c).tmod n
theorem mpick_ev (c n:Int):ev Tryz.prog [] [] noL Tryz.f36 [iA c,iA n] ret=cond (decide (c < 0)) (cond ((!(n==0))&&true) (some (Out.of (iA ((w64 (0 - w64 (c+1))).tmod n)))) none) (cond ((!(n==0))&&true) (some (Out.of (iA (c.tmod n)))) none):=by kernel_rfl
theorem mpick {c n:Int} (hn:(!(n==0))=true):FSpec Tryz.prog 36 [iA c,iA n] (iA (mpk c n)):=by
  refine sp e_nil Tryz.func36 (by kernel_rfl) (by kernel_rfl) rfl ((mpick_ev c n).trans ?_)
  rw [hn]
  unfold mpk mpk0
  cases decide (c < 0)<;>rfl
def ePk (pf:Int→Int→Int):List AV→Option AV
  | [.x (.int .i64 c),.x (.int .i64 n)]=>cond (!(n==0)) (some (iA (pf c n))) none
  | _=>none
theorem ePk_ok:EOk Tryz.prog ⟨36,ePk mpk⟩:=fun args r hr=>by
  simp only [ePk] at hr
  split at hr
  · rename_i c n
    cases hn:!(n==0)
    · rw [hn] at hr; cases hr
    · rw [hn] at hr; cases hr; exact Or.inl (mpick hn)
  · cases hr
def k1000:Nat:=4652007308841189376
def mth (n:Int):Nat:=fdiv (cn (FloatKind.f64.nearest n)) k1000
theorem mthou (n:Int):FSpec Tryz.prog 64 [iA n] (.f (mth n)):=sp e_nil Tryz.func64 (by kernel_rfl) (by kernel_rfl) rfl (by kernel_rfl)
def eI (g:Int→AV):List AV→Option AV
  | [.x (.int .i64 n)]=>some (g n)
  | _=>none
theorem eI_ok {f:Nat} {g:Int→AV} (h:∀ n,FSpec Tryz.prog f [iA n] (g n)):EOk Tryz.prog ⟨f,eI g⟩:=fun args r hr=>by
  simp only [eI] at hr
  split at hr
  · cases hr; exact Or.inl (h _)
  · cases hr
def M0 (pf:Int→Int→Int) (tf:Int→Nat):List Entry:=⟨36,ePk pf⟩::⟨64,eI fun n=>.f (tf n)⟩::R4
theorem M0_ok:∀ e,e ∈ M0 mpk mth→EOk Tryz.prog e:=e_cons ePk_ok <| e_cons (eI_ok mthou) R4_ok
section
variable (n:Nat) (hs:Nat→Int) (pf:Int→Int→Int) (tf:Int→Nat) (rf:Int→Int) (k fr mo c:Int)
def mrw:Int:=cond ((n:Int)==0) 0 (hs (k.tmod (n:Int)).toNat)
theorem mraw_ev:ev Tryz.prog [] [] noL Tryz.f63 [sI n hs,iA k] ret=cond ((n:Int)==0) (some (Out.of (iA 0))) (cond ((!((n:Int)==0))&&true) (cond (ixB (k.tmod (n:Int)) n||false) (some (Out.of (iA (hs (k.tmod (n:Int)).toNat)))) none) none):=by kernel_rfl
theorem mraw {n:Nat} {hs:Nat→Int} {k:Int} (hk:0≤k):FSpec Tryz.prog 63 [sI n hs,iA k] (iA (mrw n hs k)):=by
  refine sp e_nil Tryz.func63 (by kernel_rfl) (by kernel_rfl) rfl ((mraw_ev n hs k).trans ?_)
  unfold mrw
  cases hn:((n:Int)==0)
  · have h0:(n:Int)≠0:=fun e=>by rw [e] at hn; cases hn
    have e:k.tmod (n:Int)=k % (n:Int):=Int.tmod_eq_emod_of_nonneg hk
    have a:=Int.emod_nonneg k h0
    have b:=Int.emod_lt_of_pos k (show (0:Int) < n by omega)
    have hi:ixB (k.tmod (n:Int)) n=true:=by
      unfold ixB
      rw [e,decide_eq_true a,decide_eq_true b]
      rfl
    rw [hi]; rfl
  · rfl
def mmi (pf:Int→Int→Int) (tf:Int→Nat) (c mo:Int):Nat:=tf (w64 (pf c (w64 (w64 (2*mo)+1)) - mo))
theorem mil1_ev:ev Tryz.prog (M0 pf tf) [] noL Tryz.f68 [iA c,iA 4000] ret=some (Out.of (.f (mmi pf tf c 4000))):=by kernel_rfl
theorem mil2_ev:ev Tryz.prog (M0 pf tf) [] noL Tryz.f68 [iA c,iA 3000] ret=some (Out.of (.f (mmi pf tf c 3000))):=by kernel_rfl
theorem mil3_ev:ev Tryz.prog (M0 pf tf) [] noL Tryz.f68 [iA c,iA 6000] ret=some (Out.of (.f (mmi pf tf c 6000))):=by kernel_rfl
theorem mil4_ev:ev Tryz.prog (M0 pf tf) [] noL Tryz.f68 [iA c,iA 1500] ret=some (Out.of (.f (mmi pf tf c 1500))):=by kernel_rfl
theorem mil5_ev:ev Tryz.prog (M0 pf tf) [] noL Tryz.f68 [iA c,iA 5000] ret=some (Out.of (.f (mmi pf tf c 5000))):=by kernel_rfl
end
def moOk (mo:Int):Prop:=mo=4000∨mo=3000∨mo=6000∨mo=1500∨mo=5000
theorem mmilli {mo:Int} (h:moOk mo) (c:Int):FSpec Tryz.prog 68 [iA c,iA mo] (.f (mmi mpk mth c mo)):=by
  rcases h with rfl | rfl | rfl | rfl | rfl
  · exact sp M0_ok Tryz.func68 (by kernel_rfl) (by kernel_rfl) rfl (mil1_ev mpk mth c)
  · exact sp M0_ok Tryz.func68 (by kernel_rfl) (by kernel_rfl) rfl (mil2_ev mpk mth c)
  · exact sp M0_ok Tryz.func68 (by kernel_rfl) (by kernel_rfl) rfl (mil3_ev mpk mth c)
  · exact sp M0_ok Tryz.func68 (by kernel_rfl) (by kernel_rfl) rfl (mil4_ev mpk mth c)
  · exact sp M0_ok Tryz.func68 (by kernel_rfl) (by kernel_rfl) rfl (mil5_ev mpk mth c)
section
variable (n:Nat) (hs:Nat→Int) (rf:Int→Int) (mf:Int→Int→Nat) (fr mo:Int)
def rwG (rf:Int→Int):List AV→AV
  | [_,.x (.int .i64 k)]=>iA (rf k)
  | _=>.any
def miG' (mf:Int→Int→Nat):List AV→AV
  | [.x (.int .i64 c),.x (.int .i64 mo)]=>.f (mf c mo)
  | _=>.any
noncomputable def gR (k:Int) (o:Option Out):Option Out:=gate (FSpec Tryz.prog 63 [sI n hs,iA k] (iA (rf k))) o
noncomputable def gMi (c mo:Int) (o:Option Out):Option Out:=gate (FSpec Tryz.prog 68 [iA c,iA mo] (.f (mf c mo))) o
noncomputable def rwK:KEntry:=kS Tryz.prog 63 (rwG rf)
noncomputable def veX:Option Out:=gR n hs rf fr (gMi mf (rf fr) mo (gR n hs rf (w64 (fr+1)) (gMi mf (rf (w64 (fr+1))) mo (gR n hs rf (w64 (fr+2)) (gMi mf (rf (w64 (fr+2))) mo (some (Out.of (V (mf (rf fr) mo) (mf (rf (w64 (fr+1))) mo) (mf (rf (w64 (fr+2))) mo)))))))))
theorem ve_ev:ev Tryz.prog R4 [rwK rf,kS Tryz.prog 68 (miG' mf)] noL Tryz.f23 [sI n hs,iA fr,iA mo] ret=veX n hs rf mf fr mo:=by kernel_rfl
end
def mve (n:Nat) (hs:Nat→Int) (fr mo:Int) (i:Nat):Nat:=mmi mpk mth (mrw n hs (w64 (fr+(i:Nat)))) mo
theorem gR_pos {n:Nat} {hs:Nat→Int} {k:Int} {o:Option Out} (h:0≤k):gR n hs (mrw n hs) k o=o:=gate_pos (mraw h)
theorem gMi_pos {c mo:Int} {o:Option Out} (h:moOk mo):gMi (mmi mpk mth) c mo o=o:=gate_pos (mmilli h c)
theorem mvec {n:Nat} {hs:Nat→Int} {fr mo:Int} (h0:0≤fr) (h1:fr≤1000) (hm:moOk mo):FSpec Tryz.prog 23 [sI n hs,iA fr,iA mo] (V (mve n hs fr mo 0) (mve n hs fr mo 1) (mve n hs fr mo 2)):=by
  refine gspec R4_ok (k_cons kS_ok (k_cons kS_ok k_nil)) Tryz.func23 (by kernel_rfl) (by kernel_rfl) noL_ok rfl ((ve_ev n hs (mrw n hs) (mmi mpk mth) fr mo).trans ?_)
  have e0:w64 (fr+((0:Nat):Int))=fr:=by rw [w64_id (by omega) (by omega)]; omega
  have a1:0≤w64 (fr+1):=by rw [w64_id (by omega) (by omega)]; omega
  have a2:0≤w64 (fr+2):=by rw [w64_id (by omega) (by omega)]; omega
  unfold veX mve
  rw [gR_pos h0,gMi_pos hm,gR_pos a1,gMi_pos hm,gR_pos a2,gMi_pos hm,e0]
  rfl
section
variable (n:Nat) (hs:Nat→Int) (pf:Int→Int→Int) (tf:Int→Nat) (rf:Int→Int) (vf:Int→Int→Nat→Nat)
def vcG (vf:Int→Int→Nat→Nat):List AV→AV
  | [_,.x (.int .i64 fr),.x (.int .i64 mo)]=>V (vf fr mo 0) (vf fr mo 1) (vf fr mo 2)
  | _=>.any
noncomputable def vcK:KEntry:=kS Tryz.prog 23 (vcG vf)
noncomputable def gV (fr mo:Int) (o:Option Out):Option Out:=gate (FSpec Tryz.prog 23 [sI n hs,iA fr,iA mo] (V (vf fr mo 0) (vf fr mo 1) (vf fr mo 2))) o
def ryO (x y z:Nat):Option Out:=some (Out.of (.agg [.f (vf 14 6000 0),.f (vf 14 6000 1),.f (vf 14 6000 2),.f x,.f y,.f z,.f (tf (pf (rf 20) 3))]))
def ryN (x y z:Nat):Option Out:=cond (noughtB x y z) (ryO pf tf rf vf x y one) (ryO pf tf rf vf x y z)
def ryY (x:Nat):Option Out:=cond (pf (rf 22) 4==0) (ryN pf tf rf vf x 0 (vf 17 1500 2)) (ryN pf tf rf vf x (vf 17 1500 1) (vf 17 1500 2))
noncomputable def ryX:Option Out:=gV n hs vf 14 6000 (gV n hs vf 17 1500 (gR n hs rf 20 (gR n hs rf 21 (cond (pf (rf 21) 3==0) (gR n hs rf 22 (ryY pf tf rf vf 0)) (gR n hs rf 22 (ryY pf tf rf vf (vf 17 1500 0)))))))
theorem ry_ev:ev Tryz.prog (M0 pf tf) [rwK rf,vcK vf] noL Tryz.f22 [sI n hs,iA 14] ret=ryX n hs pf tf rf vf:=by kernel_rfl
end
theorem gV_pos {n:Nat} {hs:Nat→Int} {fr mo:Int} {o:Option Out} (h0:0≤fr) (h1:fr≤1000) (hm:moOk mo):gV n hs (mve n hs) fr mo o=o:=gate_pos (mvec h0 h1 hm)
theorem mray (n:Nat) (hs:Nat→Int):∃ r,FSpec Tryz.prog 22 [sI n hs,iA 14] (RY r):=by
  have h:=ry_ev n hs mpk mth (mrw n hs) (mve n hs)
  have go:∃ x y z,ryX n hs mpk mth (mrw n hs) (mve n hs)=ryO mpk mth (mrw n hs) (mve n hs) x y z:=by
    unfold ryX
    rw [gV_pos (by decide) (by decide) (Or.inr (Or.inr (Or.inl rfl))),gV_pos (by decide) (by decide) (Or.inr (Or.inr (Or.inr (Or.inl rfl)))),gR_pos (by decide),gR_pos (by decide),gR_pos (by decide),gR_pos (by decide)]
    have ex:∀ x y z,∃ z',ryN mpk mth (mrw n hs) (mve n hs) x y z=ryO mpk mth (mrw n hs) (mve n hs) x y z':=fun x y z=>by
      unfold ryN
      cases noughtB x y z
      · exact ⟨_,rfl⟩
      · exact ⟨_,rfl⟩
    unfold ryY
    cases mpk (mrw n hs 21) 3==0<;>cases mpk (mrw n hs 22) 4==0<;>simp only [cond_true,cond_false]
    all_goals
      obtain ⟨z',e⟩:=ex _ _ _
      exact ⟨_,_,z',e⟩
  obtain ⟨x,y,z,e⟩:=go
  exact ⟨ls [mve n hs 14 6000 0,mve n hs 14 6000 1,mve n hs 14 6000 2,x,y,z,mth (mpk (mrw n hs 20) 3)],gspec M0_ok (k_cons kS_ok (k_cons kS_ok k_nil)) Tryz.func22 (by kernel_rfl) (by kernel_rfl) noL_ok rfl (h.trans e)⟩
section
variable (n:Nat) (hs:Nat→Int) (pf:Int→Int→Int) (tf:Int→Nat) (rf:Int→Int) (vf:Int→Int→Nat→Nat) (x y w:Nat)
def shK:Int:=w64 (1+pf (rf 0) 6)
def shR:Nat:=tf (w64 (1+pf (rf 8) 2500))
def shO (B C:Nat→Nat) (R Q:Nat):Option Out:=some (Out.of (.agg [iA (shK pf rf),.f (vf 1 4000 0),.f (vf 1 4000 1),.f (vf 1 4000 2),.f (B 0),.f (B 1),.f (B 2),.f (C 0),.f (C 1),.f (C 2),.f R,.f Q,iA (pf (rf 7) 3)]))
def z3:Nat→Nat:=fun _=>0
def shB2:Nat→Nat:=ls [fadd (vf 1 4000 0) (shR pf tf rf),fadd (vf 1 4000 1) (tf (pf (rf 5) 2000)),fadd (vf 1 4000 2) (tf (pf (rf 6) 2000))]
def shB3:Nat→Nat:=ls [fadd (vf 1 4000 0) (vf 4 3000 0),fadd (vf 1 4000 1) (vf 4 3000 1),fadd (vf 1 4000 2) (vf 4 3000 2)]
def shD:Int:=w64 (1+pf (rf 4) 3)
def shQ:Nat:=tf (w64 (1+w64 ((pf (rf 8) 2500).tdiv (shD pf rf))))
noncomputable def gPu (o:Option Out):Option Out:=gate (FSpec Tryz.prog 66 [V 0 0 0,iA (pf (rf 6) 3),.f (tf (w64 (1+pf (rf 5) 3000)))] (V x y w)) o
noncomputable def sh56:Option Out:=gR n hs rf 6 (gR n hs rf 5 (gPu pf tf rf x y w (cond (shK pf rf==6) (gR n hs rf 8 (gR n hs rf 4 (cond ((!(shD pf rf==0))&&true) (shO pf rf vf (ls [x,y,w]) z3 (shR pf tf rf) (shQ pf tf rf)) none))) (shO pf rf vf (ls [x,y,w]) z3 (shR pf tf rf) 0))))
def sh4:Option Out:=cond (noughtB (vf 4 3000 0) (vf 4 3000 1) (vf 4 3000 2)) (shO pf rf vf (ls [0,one,0]) z3 (shR pf tf rf) 0) (shO pf rf vf (vf 4 3000) z3 (shR pf tf rf) 0)
noncomputable def shX:Option Out:=gR n hs rf 0 (gV n hs vf 1 4000 (gR n hs rf 7 (gV n hs vf 4 3000 (gR n hs rf 8
  (cond (shK pf rf==1) (shO pf rf vf z3 z3 (shR pf tf rf) 0) (cond (shK pf rf==2) (gR n hs rf 5 (gR n hs rf 6 (shO pf rf vf (shB2 pf tf rf vf) z3 0 0))) (cond (shK pf rf==3) (gV n hs vf 9 4000 (shO pf rf vf (shB3 vf) (ls [vf 9 4000 0,vf 9 4000 1,vf 9 4000 2]) 0 0))
    (cond (shK pf rf==5) (cond (shK pf rf==5) (sh56 n hs pf tf rf vf x y w) (sh4 pf tf rf vf)) (cond (shK pf rf==6) (sh56 n hs pf tf rf vf x y w) (sh4 pf tf rf vf))))))))))
def M1 (pf:Int→Int→Int) (tf:Int→Nat):List Entry:=⟨36,ePk pf⟩::⟨64,eI fun n=>.f (tf n)⟩::⟨67,eV fun a b c=>bA (noughtB a b c)⟩::R3
theorem M1_ok:∀ e,e ∈ M1 mpk mth→EOk Tryz.prog e:=e_cons ePk_ok <| e_cons (eI_ok mthou) <| e_cons (eV_ok rnought) R3_ok
theorem sh_ev:ev Tryz.prog (M1 pf tf) [rwK rf,vcK vf,kS Tryz.prog 66 fun _=>V x y w] noL Tryz.f21 [sI n hs,iA 0,iA 3] ret=shX n hs pf tf rf vf x y w:=by kernel_rfl
end
theorem mpk_range {c m:Int} (hc:-9223372036854775808≤c) (hc':c≤9223372036854775807) (hm:0 < m):0≤mpk c m∧mpk c m < m:=by
  have h0:0≤mpk0 c:=by
    unfold mpk0
    by_cases h:c < 0
    · rw [decide_eq_true h,cond_true,w64_id (n:=c+1) (by omega) (by omega),w64_id (by omega) (by omega)]
      omega
    · rw [decide_eq_false h]; show 0≤c; omega
  unfold mpk
  rw [Int.tmod_eq_emod_of_nonneg h0]
  exact ⟨Int.emod_nonneg _ (by omega),Int.emod_lt_of_pos _ hm⟩
theorem mrw_range {n:Nat} {hs:Nat→Int} (h:∀ i,i < n→-9223372036854775808≤hs i∧hs i≤9223372036854775807) {k:Int} (hk:0≤k):-9223372036854775808≤mrw n hs k∧mrw n hs k≤9223372036854775807:=by
  unfold mrw
  cases hn:((n:Int)==0)
  · have h0:(n:Int)≠0:=fun e=>by rw [e] at hn; cases hn
    rw [cond_false,Int.tmod_eq_emod_of_nonneg hk]
    have a:=Int.emod_nonneg k h0
    have b:=Int.emod_lt_of_pos k (show (0:Int) < n by omega)
    exact h _ (by omega)
  · show -9223372036854775808≤(0:Int)∧(0:Int)≤9223372036854775807; omega
theorem mshape {n:Nat} {hs:Nat→Int} (h:∀ i,i < n→-9223372036854775808≤hs i∧hs i≤9223372036854775807):∃ k a sk,FSpec Tryz.prog 21 [sI n hs,iA 0,iA 3] (SH k a sk):=by
  have ax:=mpk_range (m:=3) (mrw_range h (k:=6) (by decide)).1 (mrw_range h (k:=6) (by decide)).2 (by decide)
  have dd:=mpk_range (m:=3) (mrw_range h (k:=4) (by decide)).1 (mrw_range h (k:=4) (by decide)).2 (by decide)
  have hD:shD mpk (mrw n hs)≠0:=by unfold shD; rw [w64_id (by omega) (by omega)]; omega
  obtain ⟨x,y,w,hp⟩:∃ x y w,FSpec Tryz.prog 66 [V 0 0 0,iA (mpk (mrw n hs 6) 3),.f (mth (w64 (1+mpk (mrw n hs 5) 3000)))] (V x y w):=by
    generalize mth (w64 (1+mpk (mrw n hs 5) 3000))=t
    have:mpk (mrw n hs 6) 3=0∨mpk (mrw n hs 6) 3=1∨mpk (mrw n hs 6) 3=2:=by omega
    rcases this with e | e | e<;>rw [e]
    · exact ⟨_,_,_,rput0 0 0 0 t⟩
    · exact ⟨_,_,_,rput1 0 0 0 t⟩
    · exact ⟨_,_,_,rput2 0 0 0 t⟩
  have go : ∃ B C R Q,shX n hs mpk mth (mrw n hs) (mve n hs) x y w=shO mpk (mrw n hs) (mve n hs) B C R Q:=by
    have g56:∃ B C R Q,sh56 n hs mpk mth (mrw n hs) (mve n hs) x y w=shO mpk (mrw n hs) (mve n hs) B C R Q:=by
      unfold sh56 gPu
      rw [gR_pos (by decide),gR_pos (by decide),gate_pos hp,gR_pos (by decide),gR_pos (by decide),beq_false_of_ne hD]
      cases shK mpk (mrw n hs)==6
      · exact ⟨_,_,_,_,rfl⟩
      · exact ⟨_,_,_,_,rfl⟩
    unfold shX
    rw [gR_pos (by decide),gV_pos (by decide) (by decide) (Or.inl rfl),gR_pos (by decide),gV_pos (by decide) (by decide) (Or.inr (Or.inl rfl)),gR_pos (by decide),gR_pos (by decide),gR_pos (by decide),gV_pos (by decide) (by decide) (Or.inl rfl)]
    cases shK mpk (mrw n hs)==1
    · cases shK mpk (mrw n hs)==2
      · cases shK mpk (mrw n hs)==3
        · cases shK mpk (mrw n hs)==5
          · cases shK mpk (mrw n hs)==6
            · show ∃ B C R Q,sh4 mpk mth (mrw n hs) (mve n hs)=_
              unfold sh4
              cases noughtB (mve n hs 4 3000 0) (mve n hs 4 3000 1) (mve n hs 4 3000 2)
              · exact ⟨_,_,_,_,rfl⟩
              · exact ⟨_,_,_,_,rfl⟩
            · exact g56
          · exact g56
        · exact ⟨_,_,_,_,rfl⟩
      · exact ⟨_,_,_,_,rfl⟩
    · exact ⟨_,_,_,_,rfl⟩
  obtain ⟨B,C,R,Q,e⟩:=go
  exact ⟨shK mpk (mrw n hs),ls [mve n hs 1 4000 0,mve n hs 1 4000 1,mve n hs 1 4000 2,B 0,B 1,B 2,C 0,C 1,C 2,R,Q],mpk (mrw n hs 7) 3,gspec M1_ok (k_cons kS_ok (k_cons kS_ok (k_cons kS_ok k_nil))) Tryz.func21 (by kernel_rfl) (by kernel_rfl) noL_ok rfl ((sh_ev n hs mpk mth (mrw n hs) (mve n hs) x y w).trans e)⟩
end Go.Proofs.YtancjnambbkhmaaGreat.Hs

namespace Go.Proofs.YtancjnambbkhmaaGreat.Hs
open Go.Gv
open Go.Ev (cn fadd fsub fmul fdiv fsqrt fneg feq flt fle fgt fge fabs)

section
variable (n:Nat) (hs:Nat→Int) (k:Int) (a:Nat→Nat) (sk:Int) (r:Nat→Nat) (p q u:Nat)
noncomputable def mdK:List KEntry:=[kS Tryz.prog 21 fun _=>SH k a sk,kS Tryz.prog 22 fun _=>RY r,kS Tryz.prog 23 fun _=>V p q u,kS Tryz.prog 3 fun _=>bA true]
noncomputable def mdX:Option Out:=cond (decide ((n:Int) > 256)) (some (Out.of (bA true))) (gate (FSpec Tryz.prog 21 [sI n hs,iA 0,iA 3] (SH k a sk)) (gate (FSpec Tryz.prog 22 [sI n hs,iA 14] (RY r)) (gate (FSpec Tryz.prog 23 [sI n hs,iA 5,iA 5000] (V p q u))
  (gate (FSpec Tryz.prog 3 [SH k a sk,RY r,V p q u] (bA true)) (gate (FSpec Tryz.prog 3 [SH k a sk,RY r,V (a 0) (a 1) (a 2)] (bA true)) (some (Out.of (bA true))))))))
theorem md_ev:ev Tryz.prog [] (mdK k a sk r p q u) noL Tryz.f4 [sI n hs] ret=mdX n hs k a sk r p q u:=by kernel_rfl
end
theorem shapeMade_law {n:Nat} {hs:Nat→Int} (h:∀ i,i < n→-9223372036854775808≤hs i∧hs i≤9223372036854775807):FSpec Tryz.prog 4 [sI n hs] (bA true):=by
  obtain ⟨k,a,sk,h1⟩:=mshape h
  obtain ⟨r,h2⟩:=mray n hs
  have h3:=mvec (n:=n) (hs:=hs) (fr:=5) (mo:=5000) (by decide) (by decide) (Or.inr (Or.inr (Or.inr (Or.inr rfl))))
  refine gspec e_nil (k_cons kS_ok (k_cons kS_ok (k_cons kS_ok (k_cons kS_ok k_nil)))) Tryz.func4 (by kernel_rfl) (by kernel_rfl) noL_ok rfl ((md_ev n hs k a sk r (mve n hs 5 5000 0) (mve n hs 5 5000 1) (mve n hs 5 5000 2)).trans ?_)
  unfold mdX
  rw [gate_pos h1,gate_pos h2,gate_pos h3,gate_pos (shapeSays_law k a sk r _ _ _),gate_pos (shapeSays_law k a sk r _ _ _)]
  cases decide ((n:Int) > 256)<;>rfl
theorem wf64 {n:Int} (h:(Lit.int .i64 n).wf=true):-9223372036854775808≤n∧n≤9223372036854775807:=by
  have h1:IntKind.i64.min≤n∧n≤IntKind.i64.max:=by simpa [Lit.wf] using h
  rw [show IntKind.i64.min=-9223372036854775808 by decide,show IntKind.i64.max=9223372036854775807 by decide] at h1
  exact h1
end Go.Proofs.YtancjnambbkhmaaGreat.Hs

namespace Go.Proofs.YtancjnambbkhmaaGreat
open Go.Gv Go.RowKit Go.ChangeShapes Go.WideShapes Go.ChangeAt

def rsl (n:Nat) (hs:Nat→Int):AV:=.sl 1 n fun i=>[iA (hs i)]
def numOf (el:Nat→List AV) (i:Nat):Int:=match el i with
  | [.x (.int .i64 h)]=>h
  | _=>0
theorem sl_same {E:Env} {sz n:Nat} {el el':Nat→List AV} {v:Value} (h:rel E (.sl sz n el) v) (he:∀ i,i < n→el' i=el i):rel E (.sl sz n el') v:=by
  have h:relA _ _ _:=h
  show relA _ _ _
  rw [relA] at h ⊢
  obtain ⟨a,c,h1,h2,h3⟩:=h
  refine ⟨a,c,h1,h2,?_⟩
  rcases h3 with h3 | ⟨b,o,cs,e,fz,h4,h5,h6,h7⟩
  · exact Or.inl h3
  · exact Or.inr ⟨b,o,cs,e,fz,h4,h5,h6,fun i hi=>by rw [he i hi]; exact h7 i hi⟩
theorem fitL_single {k:Kd} {zs:List AV} (h:fitL [k] zs):∃ a,zs=[a]∧fitA k a:=by
  match zs,h with
  | [a],h=>exact ⟨a,rfl,(fitL_cons.1 h).1⟩
  | [],h=>have:=fitL_length h; simp at this
  | _::_::_,h=>have:=fitL_length h; simp at this
/-- A row of whole numbers that came in: as many, each a number of 64 bits. -/
theorem open_raw {H:Type} {enc:TypeId × Value→H} {P:Program} {w:World} {r:Reach} {b0:Nat} {t e:TypeId} {v:Value} {d:DataW H} {p:List MemPlace} (hu:P.underlying t=some (.slice e)) (hk:kds P 2 t=some [.l 1 [.i .i64]]) (hv:Value.okWide P w r b0 t v)
    (h:DataW.Trod enc P w 0 (fun _=>true) true t v d p):∃ n hs,rel (Env.all w) (rsl n hs) v∧∀ i,i < n→(Lit.int .i64 (hs i)).wf=true:=by
  have hone:v.cells=#[v]:=by
    obtain ⟨a,len,cap,rfl⟩:=okWide_slice hu hv
    rfl
  obtain ⟨fuel,hf⟩:=h
  obtain ⟨a,h1,h2⟩:=open_arg hf hk hone
  rw [fitA] at h1
  obtain ⟨n,el,rfl,_,hel⟩:=h1
  have key:∀ i,i < n→el i=[iA (numOf el i)]∧(Lit.int .i64 (numOf el i)).wf=true:=fun i hi=>by
    obtain ⟨a,ha,hf⟩:=fitL_single (hel i hi)
    rw [fitA] at hf
    obtain ⟨m,rfl,hw⟩:=hf
    have e:numOf el i=m:=by unfold numOf; rw [ha]
    rw [e]
    exact ⟨ha,hw⟩
  exact ⟨n,numOf el,sl_same h2 fun i hi=>(key i hi).1.symm,fun i hi=>(key i hi).2⟩
end Go.Proofs.YtancjnambbkhmaaGreat
