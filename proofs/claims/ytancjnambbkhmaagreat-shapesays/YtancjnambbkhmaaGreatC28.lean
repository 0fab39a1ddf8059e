/-
  Hg2 Arg0, one behind the other.
-/
import Derived.Test.YtancjnambbkhmaaGreatC19
import Derived.Test.YtancjnambbkhmaaGreatC27
import Derived.Test.YtancjnambbkhmaaGreatC11
namespace Go.Gv
open Go.RowKit Go.ChangeShapes Go.WideShapes Go.ChangeAt
section
variable {H:Type} {enc:TypeId × Value→H} {P:Program} {w:World} {base:Nat} {spare:Nat→Bool} {held:Bool}
/-- A struct that came in. -/
theorem open_agg {n:Nat} {r:Reach} {b0:Nat} {t:TypeId} {v:Value} {d:DataW H} {p:List MemPlace} {desc:TypeDesc} {ks:List Kd} (hu:P.underlying t=some desc) (hd:isAggD desc=true) (hk:kds P n t=some ks)
    (hv:Value.okWide P w r b0 t v) (h:DataW.Trod enc P w 0 (fun _=>true) true t v d p):∃ zs,fitL ks zs∧rel (Env.all w) (.agg zs) v:=by
  have:∃ cs:Array Value,v=.agg cs:=by
    unfold Value.okWide at hv
    rw [hu] at hv
    cases desc<;>simp [isAggD] at hd<;>(obtain ⟨cs,h1,_⟩:=hv; exact ⟨cs,h1⟩)
  obtain ⟨cs,rfl⟩:=this
  obtain ⟨fuel,hf⟩:=h
  obtain ⟨zs,h1,h2⟩:=open_data n fuel hf hk
  refine ⟨zs,h1,?_⟩
  show relA _ _ _
  rw [relA]
  exact ⟨cs,rfl,h2⟩
end
end Go.Gv
namespace Go.Proofs.YtancjnambbkhmaaGreat
open Go.Gv
/-- Of any numbers, the code's Ring and the answer's RingRoots say the same. -/
theorem ring_same (o0 o1 o2 d0 d1 d2 ax w t lo hi:Int):∃ L e,FSpec Tryz.prog 242 [v3 o0 o1 o2,v3 d0 d1 d2,iA ax,iA w,iA t,iA lo,iA hi] (rtA (L,e))∧FSpec Tryz.prog 117 [v3 o0 o1 o2,v3 d0 d1 d2,iA ax,iA w,iA t,iA lo,iA hi] (rtA (L,e)):=by
  by_cases hx:ax < 0∨ax > 2
  · exact ⟨[],3,ringOk.bad _ _ _ _ _ _ _ _ _ _ _ hx,rqX hx⟩
  · have hx':0≤ax∧ax≤2:=by omega
    by_cases hs:Six o0 o1 o2 d0 d1 d2 w t∧msI lo hi=true
    · obtain ⟨h6,hm⟩:=hs
      obtain ⟨hlo,hhi⟩:=ms_lh hm
      exact ⟨_,0,ringOk.good _ _ _ _ _ _ _ _ _ _ _ hx' h6 hm,rqC h6 hlo hhi (rrB_f h6 hm) hx'⟩
    · exact ⟨[],1,ringOk.far _ _ _ _ _ _ _ _ _ _ _ hx' hs,rqB hx' (rrB_t hs)⟩
end Go.Proofs.YtancjnambbkhmaaGreat
namespace Go.Proofs.YtancjnambbkhmaaGreat.Hs
open Go.Gv
open Go.Ev (cn fadd fsub fmul fdiv fsqrt fneg feq flt fle fgt fge fabs isNan flr cel)

def itof (n:Int):Nat:=cn (FloatKind.f64.nearest n)
section
variable (k:Int) (a:Nat→Nat) (sk:Int) (r:Nat→Nat) (n f z:Nat) (L:List Int) (e:Int)
def rgO' (i:Nat):Nat:=fsub (r i) (a i)
def ro3:AV:=w3 (whI (rgO' a r 0)) (whI (rgO' a r 1)) (whI (rgO' a r 2))
def rd3:AV:=w3 (whI (r 3)) (whI (r 4)) (whI (r 5))
def rgArgs:List AV:=[ro3 a r,rd3 r,iA (z:Nat),iA (whI (a 9)),iA (whI (a 10)),iA (f2i .i64 (leF (r 6))),iA 70368744177664]
def rdZ:Bool:=(whI (r 3)==0)&&((whI (r 4)==0)&&((whI (r 5)==0)&&true))
def rgK:Bool:=cond (rdZ r) false (!(cond (!(e==0)) true ((L.length:Int)==0)))
def rgT:Nat:=cond (rgK r L e) (fdiv (itof (L.getD 0 0)) k65536) 0
def rgE:Option Out:=cond (cond (!(e==0)) true ((L.length:Int)==0)) (s2 0 false) (cond (ixB 0 L.length||false) (s2 (fdiv (itof (L.getD 0 0)) k65536) true) none)
def wsG:List AV→AV
  | [.agg [.f x,.f y,.f w]]=>w3 (whI x) (whI y) (whI w)
  | _=>.any
noncomputable def rsX:Option Out:=gate (FSpec Tryz.prog 241 [V (rgO' a r 0) (rgO' a r 1) (rgO' a r 2)] (ro3 a r)) (gate (FSpec Tryz.prog 241 [V (r 3) (r 4) (r 5)] (rd3 r)) (cond (rdZ r) (s2 0 false) (cond (fitI .i64 (leF (r 6))||false)
  (gRi k a sk z (gWh (a 9) (gWh (a 10) (gate (FSpec Tryz.prog 242 (rgArgs a r z) (rtA (L,e))) (rgE L e))))) none)))
noncomputable def rsK:List KEntry:=[kS Tryz.prog 241 wsG,whK,riK z,kS Tryz.prog 242 fun _=>rtA (L,e)]
theorem rs_ev0:ev Tryz.prog Y0 (rsK 0 L e) noL Tryz.f240 [SH k a sk,RY r,.f n,.f f] ret=rsX k a sk r 0 L e:=by kernel_rfl
theorem rs_ev1:ev Tryz.prog Y0 (rsK 1 L e) noL Tryz.f240 [SH k a sk,RY r,.f n,.f f] ret=rsX k a sk r 1 L e:=by kernel_rfl
theorem rs_ev2:ev Tryz.prog Y0 (rsK 2 L e) noL Tryz.f240 [SH k a sk,RY r,.f n,.f f] ret=rsX k a sk r 2 L e:=by kernel_rfl
theorem rgE_eq (h:rdZ r=false):rgE L e=some (Out.of (.tup [.f (rgT r L e),bA (rgK r L e)])):=by
  unfold rgE rgT rgK s2
  rw [h]
  cases he:(e==0)
  · rfl
  · cases L with
    | nil=>rfl
    | cons x l =>
      have h1:(((x::l).length:Int)==0)=false:=beq_false_of_ne (by simp only [List.length_cons]; omega)
      have h2:ixB 0 (x::l).length=true:=ixB_t (i:=0) (by simp)
      rw [h1,h2]
      rfl
end
/-- A ring that may be and a ray that may be: all of their numbers, made whole, fit. -/
structure RFit (a r:Nat→Nat):Prop where
  o:∀ i,i < 3→whO (rgO' a r i)=true
  d:whO (r 3)=true∧whO (r 4)=true∧whO (r 5)=true
  w:whO (a 9)=true∧whO (a 10)=true
  l:fitI .i64 (leF (r 6))=true
theorem rfit {a r:Nat→Nat} (h:rcB a=false) (hr:rayS r=0):RFit a r:=by
  have ro:=ray_ok hr
  obtain ⟨a0,a1,a2⟩:=fine_near (rc_fine h).1
  obtain ⟨f0,f1,f2⟩:=fine_near ro.from'
  obtain ⟨d0,d1,d2⟩:=fine_near ro.dir
  refine ⟨fun i hi=>?_,⟨wh_near d0,wh_near d1,wh_near d2⟩,⟨wh_near (rc_near h).1,wh_near (rc_near h).2⟩,le_near ro.least⟩
  match i,hi with
  | 0,_=>exact wh_sub f0 a0
  | 1,_=>exact wh_sub f1 a1
  | 2,_=>exact wh_sub f2 a2
section
variable {k:Int} {a:Nat→Nat} {sk:Int} {r:Nat→Nat} {n f:Nat} {L:List Int} {e:Int}
theorem rsX_pos (h:RFit a r) {z:Nat} (hz:zB a=z) (hR:FSpec Tryz.prog 242 (rgArgs a r z) (rtA (L,e))):rsX k a sk r z L e=some (Out.of (.tup [.f (rgT r L e),bA (rgK r L e)])):=by
  unfold rsX
  have g1:FSpec Tryz.prog 241 [V (rgO' a r 0) (rgO' a r 1) (rgO' a r 2)] (ro3 a r):=swholes (h.o 0 (by omega)) (h.o 1 (by omega)) (h.o 2 (by omega))
  have g2:FSpec Tryz.prog 241 [V (r 3) (r 4) (r 5)] (rd3 r):=swholes h.d.1 h.d.2.1 h.d.2.2
  rw [gate_pos g1,gate_pos g2]
  cases hd:rdZ r
  · rw [cond_false,h.l,gRi_pos k a sk hz]
    unfold gWh
    rw [gate_pos (swhole h.w.1),gate_pos (swhole h.w.2),gate_pos hR]
    exact rgE_eq r L e hd
  · unfold rgT rgK s2
    rw [hd]; rfl
theorem tring (h:RFit a r) (hR:FSpec Tryz.prog 242 (rgArgs a r (zB a)) (rtA (L,e))):FSpec Tryz.prog 240 [SH k a sk,RY r,.f n,.f f] (.tup [.f (rgT r L e),bA (rgK r L e)]):=by
  rcases zB_lt a with hz | hz | hz
  · rw [hz] at hR; exact gspec Y0_ok (k_cons kS_ok (k_cons kS_ok (k_cons kS_ok (k_cons kS_ok k_nil)))) Tryz.func240 (by kernel_rfl) (by kernel_rfl) noL_ok rfl ((rs_ev0 k a sk r n f L e).trans (rsX_pos h hz hR))
  · rw [hz] at hR; exact gspec Y0_ok (k_cons kS_ok (k_cons kS_ok (k_cons kS_ok (k_cons kS_ok k_nil)))) Tryz.func240 (by kernel_rfl) (by kernel_rfl) noL_ok rfl ((rs_ev1 k a sk r n f L e).trans (rsX_pos h hz hR))
  · rw [hz] at hR; exact gspec Y0_ok (k_cons kS_ok (k_cons kS_ok (k_cons kS_ok (k_cons kS_ok k_nil)))) Tryz.func240 (by kernel_rfl) (by kernel_rfl) noL_ok rfl ((rs_ev2 k a sk r n f L e).trans (rsX_pos h hz hR))
end
section
variable (a:Nat→Nat) (sk:Int) (r:Nat→Nat) (t:Nat) (ok:Bool)
noncomputable def skG:Option Out:=cond (!meetK (ringB a (zB a)) r) (s2 0 false) (gate (FSpec Tryz.prog 240 [SH 6 a sk,RY r,.f (meetN (ringB a (zB a)) r),.f (meetF (ringB a (zB a)) r)] (.tup [.f t,bA ok])) (cond (cond (!ok) true (!fge t (r 6))) (s2 0 false) (cond (flt t (meetN (ringB a (zB a)) r)) (s2 (meetN (ringB a (zB a)) r) true) (cond (fgt t (meetF (ringB a (zB a)) r)) (s2 (meetF (ringB a (zB a)) r) true) (s2 t true)))))
theorem sk6_ev:ev Tryz.prog X3 [kS Tryz.prog 240 fun _=>.tup [.f t,bA ok]] noL Tryz.f46 [.ifc 150 (SH 6 a sk),RY r] ret=skG a sk r t ok:=by kernel_rfl
theorem sk6 {a:Nat→Nat} {sk:Int} {r:Nat→Nat} {t:Nat} {ok:Bool} (h:FSpec Tryz.prog 240 [SH 6 a sk,RY r,.f (meetN (ringB a (zB a)) r),.f (meetF (ringB a (zB a)) r)] (.tup [.f t,bA ok])) :
    FSpec Tryz.prog 46 [.ifc 150 (SH 6 a sk),RY r] (.tup [.f (htT (meetK (ringB a (zB a)) r) ok t (meetN (ringB a (zB a)) r) (meetF (ringB a (zB a)) r) (r 6)),bA (htK (meetK (ringB a (zB a)) r) ok t (r 6))]):=by
  refine gspec X3_ok (k_cons kS_ok k_nil) Tryz.func46 (by kernel_rfl) (by kernel_rfl) noL_ok rfl ((sk6_ev a sk r t ok).trans ?_)
  unfold skG
  rw [gate_pos h]
  exact htX_eq _ _ _ _ _ _
end
section
variable (k:Int) (a:Nat→Nat) (sk:Int) (r:Nat→Nat) (n f z:Nat) (L:List Int) (e:Int)
def rzB:Bool:=cond (cond (whI (r 3)==0) (whI (r 4)==0) false) (whI (r 5)==0) false
theorem rzB_eq:rzB r=rdZ r:=by
  unfold rzB rdZ
  cases (whI (r 3)==0)<;>cases (whI (r 4)==0)<;>cases (whI (r 5)==0)<;>rfl
noncomputable def gPa (x y w:Nat) (o:Option Out):Option Out:=gate (FSpec Tryz.prog 115 [V x y w] (w3 (whI x) (whI y) (whI w))) o
theorem gPa_pos {x y w:Nat} {o:Option Out} (hx:whO x=true) (hy:whO y=true) (hw:whO w=true):gPa x y w o=o:=gate_pos (rparts hx hy hw)
noncomputable def raX:Option Out:=gPa (r 3) (r 4) (r 5) (cond (rzB r) (s2 0 false) (gPa (a 9) (a 10) 0 (cond (fitI .i64 (leF (r 6))||false) (gPa (rgO' a r 0) (rgO' a r 1) (rgO' a r 2) (gAx a z (gate (FSpec Tryz.prog 117 (rgArgs a r z) (rtA (L,e))) (rgE L e)))) none)))
noncomputable def raK:List KEntry:=[kS Tryz.prog 115 wsG,axK z,kS Tryz.prog 117 fun _=>rtA (L,e)]
theorem ra_ev0:ev Tryz.prog Y1 (raK 0 L e) noL Tryz.f91 [SH k a sk,RY r] ret=raX a r 0 L e:=by kernel_rfl
theorem ra_ev1:ev Tryz.prog Y1 (raK 1 L e) noL Tryz.f91 [SH k a sk,RY r] ret=raX a r 1 L e:=by kernel_rfl
theorem ra_ev2:ev Tryz.prog Y1 (raK 2 L e) noL Tryz.f91 [SH k a sk,RY r] ret=raX a r 2 L e:=by kernel_rfl
theorem ow6_ev (t:Nat) (ok:Bool):ev Tryz.prog R6 [kS Tryz.prog 91 fun _=>.tup [.f t,bA ok]] noL Tryz.f49 [SH 6 a sk,RY r,.f n,.f f] ret=gate (FSpec Tryz.prog 91 [SH 6 a sk,RY r] (.tup [.f t,bA ok])) (s2 t ok):=by kernel_rfl
end
section
variable {k:Int} {a:Nat→Nat} {sk:Int} {r:Nat→Nat} {L:List Int} {e:Int}
theorem raX_pos (h:RFit a r) (ho:axO (a 3) (a 4) (a 5)=true) {z:Nat} (hz:zB a=z) (hR:FSpec Tryz.prog 117 (rgArgs a r z) (rtA (L,e))):raX a r z L e=some (Out.of (.tup [.f (rgT r L e),bA (rgK r L e)])):=by
  unfold raX
  rw [gPa_pos h.d.1 h.d.2.1 h.d.2.2,rzB_eq]
  cases hd:rdZ r
  · rw [cond_false,gPa_pos h.w.1 h.w.2 wh_zero,h.l,gPa_pos (h.o 0 (by omega)) (h.o 1 (by omega)) (h.o 2 (by omega)),gAx_pos a ho hz,gate_pos hR]
    exact rgE_eq r L e hd
  · unfold rgT rgK s2
    rw [hd]; rfl
theorem rring (h:RFit a r) (ho:axO (a 3) (a 4) (a 5)=true) (hR:FSpec Tryz.prog 117 (rgArgs a r (zB a)) (rtA (L,e))):FSpec Tryz.prog 91 [SH k a sk,RY r] (.tup [.f (rgT r L e),bA (rgK r L e)]):=by
  rcases zB_lt a with hz | hz | hz
  · rw [hz] at hR; exact gspec Y1_ok (k_cons kS_ok (k_cons kS_ok (k_cons kS_ok k_nil))) Tryz.func91 (by kernel_rfl) (by kernel_rfl) noL_ok rfl ((ra_ev0 k a sk r L e).trans (raX_pos h ho hz hR))
  · rw [hz] at hR; exact gspec Y1_ok (k_cons kS_ok (k_cons kS_ok (k_cons kS_ok k_nil))) Tryz.func91 (by kernel_rfl) (by kernel_rfl) noL_ok rfl ((ra_ev1 k a sk r L e).trans (raX_pos h ho hz hR))
  · rw [hz] at hR; exact gspec Y1_ok (k_cons kS_ok (k_cons kS_ok (k_cons kS_ok k_nil))) Tryz.func91 (by kernel_rfl) (by kernel_rfl) noL_ok rfl ((ra_ev2 k a sk r L e).trans (raX_pos h ho hz hR))
end
theorem agS6 (a:Nat→Nat) (sk:Int) (r:Nat→Nat) (h:e6 a sk=0):AgS 6 a sk r:=by
  have sm:=sm6 a sk
  rw [h] at sm
  have kg:=kn6_good a sk h
  have ho:=ax_of6 h
  by_cases hr:rayS r=0
  · have fit:=rfit (knE_zero h).1 hr
    obtain ⟨L,e,h1,h2⟩:=ring_same (whI (rgO' a r 0)) (whI (rgO' a r 1)) (whI (rgO' a r 2)) (whI (r 3)) (whI (r 4)) (whI (r 5)) (zB a:Nat) (whI (a 9)) (whI (a 10)) (f2i .i64 (leF (r 6))) 70368744177664
    refine agS_good r kg sm (sk6 (tring fit h1)) (ar6 a sk ho) fun _=>⟨_,_,fun _=>⟨?_,rfl,fun _=>rfl⟩⟩
    exact gspec R6_ok (k_cons kS_ok k_nil) Tryz.func49 (by kernel_rfl) (by kernel_rfl) noL_ok rfl ((ow6_ev a sk r _ _ _ _).trans (gate_pos (rring fit ho h2)))
  · exact ⟨0,false,rayS r,strike_b (kt_r kg hr) hr,rst_r sm hr⟩
/-- THE LAW ShapeSays, of all shapes, rays and points. -/
theorem shapeSays_law (k:Int) (a:Nat→Nat) (sk:Int) (r:Nat→Nat) (p q u:Nat):FSpec Tryz.prog 3 [SH k a sk,RY r,V p q u] (bA true):=shape_law (ag_all a sk r p q u k (agS6 a sk r))
end Go.Proofs.YtancjnambbkhmaaGreat.Hs

namespace Go.Proofs.YtancjnambbkhmaaGreat
open Go.Gv Go.RowKit Go.ChangeShapes Go.WideShapes Go.ChangeAt

end Go.Proofs.YtancjnambbkhmaaGreat
