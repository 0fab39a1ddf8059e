/-
  Pc0 Fm6 Fm7 Sf1 Fm8 Fm9 Fm10 Raw0 Arg0 Ar1, one behind the other.
-/
import Derived.Test.YtephoojaflfajaaM1
import Derived.Test.YtephoojaflfajaaGi
namespace Go.Proofs.Ytephoojaflfajaa
open Go.Gv

structure Pic where
  W : Int
  H : Int
  n : Nat
  px : Nat → Int
def Pic.c (p : Pic) : List AV := [iA p.W, iA p.H, sB p.n p.px]
def zP : Pic := ⟨0, 0, 0, fun _ => 0⟩
def picZ : List AV := [iA 0, iA 0, .x (.slice none 0 0)]
theorem zP_like {E : Env} {v : Value} (h : rel E (.agg picZ) v) : rel E (.agg zP.c) v := by
  obtain ⟨vs, h1, h2⟩ := rel_agg.1 h
  refine rel_agg.2 ⟨vs, h1, ?_⟩
  obtain ⟨u0, t0, e0, r0, h2⟩ := rels_cons.1 h2
  obtain ⟨u1, t1, e1, r1, h2⟩ := rels_cons.1 h2
  obtain ⟨u2, t2, e2, r2, h2⟩ := rels_cons.1 h2
  exact rels_cons.2 ⟨u0, t0, e0, r0, rels_cons.2 ⟨u1, t1, e1, r1, rels_cons.2 ⟨u2, t2, e2, nil_like r2, h2⟩⟩⟩
def pOut (p : Pic) (e : Int) : AV := .tup [.agg p.c, iA e]
def pBad (e : Int) : Option Out := some (Out.of (.tup [.agg picZ, iA e]))
theorem pspec_bad {f : Nat} {args : List AV} {e : Int} (h : FSpec Try.prog f args (.tup [.agg picZ, iA e])) : FSpec Try.prog f args (pOut zP e) := FSpec.of_res h fun _ _ hr => tup2_like hr fun _ => zP_like
/-! ### Whether one may be -/
def pbad (W H : Int) : Bool := cond (cond (cond (decide (W < 1)) true (decide (H < 1))) true (decide (W > 64))) true (decide (H > 64))
def pcnt (W H : Int) (n : Nat) : Bool := !((n : Int) == w64 (w64 (4 * W) * H))
def pmay (W H : Int) (n : Nat) : Int := cond (pbad W H) 4 (cond (pcnt W H n) 5 0)
theorem pbad_false {W H : Int} (h : pbad W H = false) : 1 ≤ W ∧ W ≤ 64 ∧ 1 ≤ H ∧ H ≤ 64 := by
  unfold pbad at h
  by_cases h1 : W < 1 <;> by_cases h2 : W > 64 <;> by_cases h3 : H < 1 <;> by_cases h4 : H > 64 <;> simp [h1, h2, h3, h4] at h
  omega
theorem pmay_zero {W H : Int} {n : Nat} (h : pmay W H n = 0) : (1 ≤ W ∧ W ≤ 64 ∧ 1 ≤ H ∧ H ≤ 64) ∧ (n : Int) = 4 * (W * H) ∧ n ≤ 16384 := by
  unfold pmay at h
  cases hb : pbad W H
  · rw [hb] at h
    cases hc : pcnt W H n
    · obtain ⟨a, b, c, d⟩ := pbad_false hb
      have hM := mulB (x := W) (y := H) (X := 64) (Y := 64) (by omega) b (by omega) d
      have e : (n : Int) = 4 * (W * H) := by
        unfold pcnt at hc
        rw [w64_id (n := 4 * W) (by omega) (by omega), Int.mul_assoc, w64_id (by omega) (by omega)] at hc
        simpa using hc
      exact ⟨⟨a, b, c, d⟩, e, by omega⟩
    · rw [hc] at h; cases h
  · rw [hb] at h; cases h
end Go.Proofs.Ytephoojaflfajaa

namespace Go.Proofs.Ytephoojaflfajaa
open Go.Gv

/-! ### The loops -/
def tnV (x n br : Int) : Int := w64 ((w64 (w64 (x.tdiv n) * br)).tdiv 1000)
def tnR (f : Flm) (W H : Int) (m : Nat) (el : Nat → List AV) : List Row := [.c f.c, .c picZ, .c [iA W, iA H, .osl 3 1 0 m], .a 5 1 m el]
def tiS (f : Flm) (W H br i n cv c : Int) (m : Nat) (el : Nat → List AV) : St := mkS 77 [(1, iA br), (2, .own 0 0), (4, .own 1 0), (7, .own 2 0), (8, iA i), (9, iA n), (10, iA cv), (11, iA c)] (tnR f W H m el)
def keepTi : List Nat := [1, 2, 4, 7, 8, 9, 10, 11]
def t4 : List (Option Nat) := [some 0, some 1, some 2, some 3]
def t4n : List (Option Nat) := [some 0, some 1, some 2, some 5]
section
variable (sf : Int → Int) (f : Flm) (W H br i n cv c : Int) (m : Nat) (el : Nat → List AV)
theorem ti_step : evC Try.prog [⟨14, gSh sf⟩] [] noL (loopAt Try.f16 1) (tiS f W H br i n cv c m el) (finN keepTi t4n) =
    cond (decide (c < 3)) (cond (ixB (ix3 i c) f.n || false) (cond ((!(n == 0)) || false) (cond (apB m 1 || false)
      (some ⟨.normal, tiS f W H br i n cv (w64 (c + 1)) (m + 1) (fun q => mixL (Nat.blt q m) (el q) [yA (sf (tnV (f.lt (ix3 i c).toNat) n br))]), .any⟩) none) none) none) none := by kernel_rfl
theorem ti_end : evC Try.prog [⟨14, gSh sf⟩] [] noL (loopAt Try.f16 1) (tiS f W H br i n cv 3 m el) (finE keepTi t4) = some ⟨.exit 2, tiS f W H br i n cv 3 m el, .any⟩ := by kernel_rfl
end
def toS (f : Flm) (W H br i : Int) (m : Nat) (el : Nat → List AV) : St := mkS 77 [(1, iA br), (2, .own 0 0), (4, .own 1 0), (7, .own 2 0), (8, iA i)] (tnR f W H m el)
def keepTo : List Nat := [1, 2, 4, 7, 8]
noncomputable def toL (f : Flm) (W H br i n cv : Int) (m m' : Nat) (el el' : Nat → List AV) : Nat → Option LFun := oneL 16 (toldF keepTi t4 (tiS f W H br i n cv 0 m el) (.exit 2) (tiS f W H br i n cv 3 m' el'))
section
variable (f : Flm) (W H br i n cv : Int) (m m' : Nat) (el el' : Nat → List AV)
def toN : Option Out := cond (apB m' 1 || false) (some ⟨.normal, toS f W H br (w64 (i + 1)) (m' + 1) (fun q => mixL (Nat.blt q m') (el' q) [yA (IntKind.u8.wrap cv)]), .any⟩) none
theorem to_step : evC Try.prog [] [] (toL f W H br i n cv m m' el el') (loopAt Try.f16 0) (toS f W H br i m el) (finN keepTo t4n) =
    cond (decide (i < f.m)) (cond (ixB i f.m || false) (cond (f.sh i.toNat == 0) (gate (Sub (tiS f W H br i 1 0 0 m el) (tiS f W H br i n cv 0 m el)) (toN f W H br i cv m' el')) (gate (Sub (tiS f W H br i (f.sh i.toNat) 255 0 m el) (tiS f W H br i n cv 0 m el)) (toN f W H br i cv m' el'))) none) none := by kernel_rfl
theorem to_end : evC Try.prog [] [] (oneL 16 fun _ _ => none) (loopAt Try.f16 0) (toS f W H br i m el) (finE keepTo t4) =
    cond (decide (i < f.m)) (cond (ixB i f.m || false) (cond (f.sh i.toNat == 0) none none) none) (some ⟨.exit 0, toS f W H br i m el, .any⟩) := by kernel_rfl
end
noncomputable def tnL (f : Flm) (W H br i' : Int) (m : Nat) (g : Nat → Int) : Nat → Option LFun := oneL 8 (toldC keepTo 2 [(2, 3, 1)] (.a 5 1 0 fun q => [yA (g q)]) [some 0, some 1, some 2, none] (toS f W H br 0 0 fun q => [yA (g q)]) (.exit 0) (toS f W H br i' m fun q => [yA (g q)]))
def brB (br : Int) : Bool := cond (decide (br < 0)) true (decide (br > 1000000))
theorem tn_ev (mf : MF) (f : Flm) (W H br i' : Int) (m : Nat) (g : Nat → Int) : ev Try.prog [] [kS Try.prog 9 (fmG mf)] (tnL f W H br i' m g) Try.f16 [.agg f.c, iA br] ret =
    gate (FMok 9 mf f) (cond (!(mf.of f == 0)) (pBad (mf.of f)) (cond (brB br) (pBad 6)
      (gate (Sub (toS f f.W f.H br 0 0 fun q => [yA (g q)]) (toS f W H br 0 0 fun q => [yA (g q)])) (some (Out.of (.tup [.agg [iA W, iA H, .sl 1 m fun i => [yA (g (0 + i))]], iA 0])))))) := by kernel_rfl
theorem tn_ev0 (mf : MF) (f : Flm) (br : Int) : ev Try.prog [] [kS Try.prog 9 (fmG mf)] (oneL 8 fun _ _ => none) Try.f16 [.agg f.c, iA br] ret =
    gate (FMok 9 mf f) (cond (!(mf.of f == 0)) (pBad (mf.of f)) (cond (brB br) (pBad 6) none)) := by kernel_rfl
end Go.Proofs.Ytephoojaflfajaa

namespace Go.Proofs.Ytephoojaflfajaa
open Go.Gv

def tcN (f : Flm) (i : Nat) : Int := cond (f.sh i == 0) 1 (f.sh i)
def tcC (f : Flm) (i : Nat) : Int := cond (f.sh i == 0) 0 255
def tpx (f : Flm) (br : Int) (q : Nat) : Int := if q % 4 = 3 then tcC f (q / 4) else ((shS (tnV (f.lt (3 * (q / 4) + q % 4)) (tcN f (q / 4)) br) : Nat) : Int)
def tpic (f : Flm) (br : Int) : Pic := ⟨f.W, f.H, 4 * f.m, tpx f br⟩
def shI (l : Int) : Int := ((shS l : Nat) : Int)
theorem tcN_ne (f : Flm) (i : Nat) : (!(tcN f i == 0)) = true := by
  unfold tcN
  cases h : f.sh i == 0
  · rw [cond_false, h]; rfl
  · rfl
theorem tcC_u8 (f : Flm) (i : Nat) : IntKind.u8.wrap (tcC f i) = tcC f i := by
  unfold tcC
  cases f.sh i == 0
  · exact u8_id (by decide) (by decide)
  · exact u8_id (by decide) (by decide)
theorem tpx_c {f : Flm} {br : Int} {I c : Nat} (hc : c < 3) : tpx f br (4 * I + c) = shI (tnV (f.lt (3 * I + c)) (tcN f I) br) := by
  unfold tpx shI
  rw [show (4 * I + c) % 4 = c by omega, show (4 * I + c) / 4 = I by omega, if_neg (by omega)]
theorem tpx_3 {f : Flm} {br : Int} {I : Nat} : tpx f br (4 * I + 3) = tcC f I := by
  unfold tpx
  rw [show (4 * I + 3) % 4 = 3 by omega, show (4 * I + 3) / 4 = I by omega, if_pos rfl]
theorem shade_e (l : Int) : FSpec Try.prog 14 [iA l] (yA (shI l)) := shadeR_spec l
theorem app_el {g : Nat → Int} {m q : Nat} {v : Int} (hq : q < m + 1) (hv : g m = v) : mixL (Nat.blt q m) [yA (g q)] [yA v] = [yA (g q)] := by
  rw [mixY]
  cases h : Nat.blt q m
  · have := not_blt h
    have : q = m := by omega
    subst this
    rw [cond_false, hv]
  · rfl
theorem ti_leads {f : Flm} (hn : f.n = 3 * f.m) (hm : f.m ≤ 4096) (W H br : Int) {I : Nat} (hI : I < f.m) : Leads Try.prog (.loop (loopAt Try.f16 1)) (tiS f W H br (I : Nat) (tcN f I) (tcC f I) 0 (4 * I) fun q => [yA (tpx f br q)]) (.exit 2)
    (tiS f W H br (I : Nat) (tcN f I) (tcC f I) 3 (4 * I + 3) fun q => [yA (tpx f br q)]) := by
  refine loop_rule (fun c => tiS f W H br (I : Nat) (tcN f I) (tcC f I) (c : Nat) (4 * I + c) fun q => [yA (tpx f br q)]) 3 (.exit 2) _ (by simp) (fun c hc => ?_) ?_
  · have st := ti_step shI f W H br (I : Nat) (tcN f I) (tcC f I) (c : Nat) (4 * I + c) fun q => [yA (tpx f br q)]
    rw [decide_eq_true (show ((c : Nat) : Int) < 3 by omega), ix3_eq (by omega) (by omega), ixB_t (show 3 * I + c < f.n by omega), tcN_ne, apB_t (by omega), w64_next (by omega), Int.toNat_natCast] at st
    refine (leads_ev (finN_sub _ _) (e_cons (gSh_ok shade_e) e_nil) k_nil noL_ok st).sub (Sub.refl _) ?_
    exact sub_same ⟨Or.inl rfl, Or.inl rfl, Or.inl rfl, Or.inr ⟨5, 1, 4 * I + c + 1, _, _, rfl, rfl, fun q hq => (app_el hq (tpx_c hc)).symm ▸ rfl⟩, trivial⟩
  · exact leads_ev (finE_sub _ _) (e_cons (gSh_ok shade_e) e_nil) k_nil noL_ok (ti_end shI f W H br _ _ _ _ _)
theorem to_leads {f : Flm} (hn : f.n = 3 * f.m) (hm : f.m ≤ 4096) (W H br : Int) : Leads Try.prog (.loop (loopAt Try.f16 0)) (toS f W H br 0 0 fun q => [yA (tpx f br q)]) (.exit 0) (toS f W H br (f.m : Nat) (4 * f.m) fun q => [yA (tpx f br q)]) := by
  refine loop_rule (fun I => toS f W H br (I : Nat) (4 * I) fun q => [yA (tpx f br q)]) f.m (.exit 0) _ (by simp) (fun I hI => ?_) ?_
  · have hL := lok_hd (c := loopAt Try.f16 0) (i := 16) 0 (by kernel_rfl) (by kernel_rfl) (toldF_sound (keep := keepTi) (τ := t4) (ti_leads hn hm W H br hI))
    have st := to_step f W H br (I : Nat) (tcN f I) (tcC f I) (4 * I) (4 * I + 3) (fun q => [yA (tpx f br q)]) fun q => [yA (tpx f br q)]
    have e : evC Try.prog [] [] (toL f W H br (I : Nat) (tcN f I) (tcC f I) (4 * I) (4 * I + 3) (fun q => [yA (tpx f br q)]) fun q => [yA (tpx f br q)]) (loopAt Try.f16 0) (toS f W H br (I : Nat) (4 * I) fun q => [yA (tpx f br q)]) (finN keepTo t4n) = toN f W H br (I : Nat) (tcC f I) (4 * I + 3) fun q => [yA (tpx f br q)] := by
      rw [st, dec_lt hI, ixB_t hI, Int.toNat_natCast]
      cases h : f.sh I == 0
      · have e1 : tcN f I = f.sh I := by unfold tcN; rw [h]; rfl
        have e2 : tcC f I = 255 := by unfold tcC; rw [h]; rfl
        rw [e1, e2, gate_pos (Sub.refl _)]
        rfl
      · have e1 : tcN f I = 1 := by unfold tcN; rw [h]; rfl
        have e2 : tcC f I = 0 := by unfold tcC; rw [h]; rfl
        rw [e1, e2, gate_pos (Sub.refl _)]
        rfl
    unfold toN at e
    rw [apB_t (by omega), tcC_u8, w64_next (by omega)] at e
    refine (leads_ev (finN_sub _ _) e_nil k_nil hL e).sub (Sub.refl _) ?_
    exact sub_same ⟨Or.inl rfl, Or.inl rfl, Or.inl rfl, Or.inr ⟨5, 1, 4 * I + 3 + 1, _, _, rfl, rfl, fun q hq => (app_el hq tpx_3).symm ▸ rfl⟩, trivial⟩
  · refine leads_ev (finE_sub _ _) e_nil k_nil (lok_none 16) ((to_end f W H br (f.m : Nat) _ _).trans ?_)
    rw [dec_self, cond_false]
noncomputable def tonE (f : Flm) (br : Int) : Int := cond (!(fmay f == 0)) (fmay f) (cond (brB br) 6 0)
noncomputable def tonP (f : Flm) (br : Int) : Pic := open Classical in if tonE f br = 0 then tpic f br else zP
theorem toneR_spec (f : Flm) (br : Int) : FSpec Try.prog 16 [.agg f.c, iA br] (pOut (tonP f br) (tonE f br)) := by
  have ok := FMok_of fmayR_spec
  have ks := k_cons (kS_ok (P := Try.prog) (f := 9) (g := fmG fmE')) k_nil
  by_cases h : tonE f br = 0
  · have hp : tonP f br = tpic f br := by unfold tonP; rw [if_pos h]
    have h1 : fmay f = 0 ∧ brB br = false := by
      unfold tonE at h
      cases h1 : fmay f == 0
      · rw [h1] at h
        have : fmay f = 0 := h
        rw [this] at h1; cases h1
      · rw [h1] at h
        cases h2 : brB br
        · exact ⟨eq_of_beq h1, rfl⟩
        · rw [h2] at h; cases h
    obtain ⟨n1, m1, c1, d1⟩ := fmay_n h1.1
    obtain ⟨hb, _, _⟩ := fmay_zero h1.1
    obtain ⟨a, b, c, d⟩ := fbad_false hb
    have hM2 := mulB (x := f.W) (y := f.H) (X := 64) (Y := 64) (by omega) b (by omega) d
    have hL := lok_hd (c := bodyOf Try.f16) (i := 8) 1 (by kernel_rfl) (by kernel_rfl) (toldC_sound (keep := keepTo) (r0 := 2) (nils := [(2, 3, 1)]) (nr := .a 5 1 0 fun q => [yA (tpx f br q)]) (τ := [some 0, some 1, some 2, none]) (to_leads (f := f) (by omega) (by omega) f.W f.H br))
    rw [hp, h]
    refine gspec e_nil ks Try.func16 (by kernel_rfl) (by kernel_rfl) hL rfl ((tn_ev fmE' f f.W f.H br (f.m : Nat) (4 * f.m) (tpx f br)).trans ?_)
    have e5 : (fun i => [yA (tpx f br (0 + i))]) = fun i => [yA (tpx f br i)] := funext fun i => by rw [Nat.zero_add]
    rw [gate_pos (ok f), fmE_of, h1.1, h1.2, gate_pos (Sub.refl _), e5]
    rfl
  · have hp : tonP f br = zP := by unfold tonP; rw [if_neg h]
    rw [hp]
    refine pspec_bad (gspec e_nil ks Try.func16 (by kernel_rfl) (by kernel_rfl) (lok_none 8) rfl ((tn_ev0 fmE' f br).trans ?_))
    rw [gate_pos (ok f), fmE_of]
    unfold tonE at h ⊢
    cases h1 : fmay f == 0
    · rfl
    · rw [h1] at h
      cases h2 : brB br
      · rw [h2] at h; exact absurd rfl h
      · rfl
end Go.Proofs.Ytephoojaflfajaa

namespace Go.Proofs.Ytephoojaflfajaa
open Go.Gv

def gHv (hf : Nat → Nat → Bool) : List AV → Option AV
  | [.agg [.x (.int .i64 _), .x (.int .i64 _), .sl _ n _, .sl _ m _]] => some (bA (hf n m))
  | _ => none
theorem gHv_ok {f : Nat} {hf : Nat → Nat → Bool} (h : ∀ W H sz n el sz' m el', FSpec Try.prog f [.agg [iA W, iA H, .sl sz n el, .sl sz' m el']] (bA (hf n m))) : EOk Try.prog ⟨f, gHv hf⟩ := fun args r hr => by
  simp only [gHv] at hr
  split at hr
  · cases hr; exact Or.inl (h _ _ _ _ _ _ _ _)
  · cases hr
def hvS (n m : Nat) : Bool := decide (w64 ((n : Int) + (m : Int)) > 1200)
theorem hv_ev (W H : Int) (sz n : Nat) (el : Nat → List AV) (sz' m : Nat) (el' : Nat → List AV) : ev Try.prog [] [] noL Try.f5 [.agg [iA W, iA H, .sl sz n el, .sl sz' m el']] ret = some (Out.of (bA (hvS n m))) := by kernel_rfl
theorem hv_spec (W H : Int) (sz n : Nat) (el : Nat → List AV) (sz' m : Nat) (el' : Nat → List AV) : FSpec Try.prog 5 [.agg [iA W, iA H, .sl sz n el, .sl sz' m el']] (bA (hvS n m)) :=
  gspec e_nil k_nil Try.func5 (by kernel_rfl) (by kernel_rfl) noL_ok rfl (hv_ev W H sz n el sz' m el')
/-! ### Films that are the same -/
theorem sfm_ev (f g : Flm) : ev Try.prog [] [kS Try.prog 24 fun _ => bA true] noL Try.f10 [.agg f.c, .agg g.c] ret =
    gate (FSpec Try.prog 24 [sI f.n f.lt, sI g.n g.lt] (bA true)) (gate (FSpec Try.prog 24 [sI f.m f.sh, sI g.m g.sh] (bA true)) (some (Out.of (bA (cond (cond (cond (f.W == g.W) (f.H == g.H) false) true false) true false))))) := by kernel_rfl
theorem same_film {f g : Flm} (hn : f.n ≤ 4611686018427387904) (hm : f.m ≤ 4611686018427387904) (hW : f.W = g.W) (hH : f.H = g.H) (en : f.n = g.n) (em : f.m = g.m) (hl : ∀ i, i < f.n → f.lt i = g.lt i) (hs : ∀ i, i < f.m → f.sh i = g.sh i) : FSpec Try.prog 10 [.agg f.c, .agg g.c] (bA true) := by
  refine gspec e_nil (k_cons kS_ok k_nil) Try.func10 (by kernel_rfl) (by kernel_rfl) noL_ok rfl ((sfm_ev f g).trans ?_)
  have h1 := same_ints hn hl
  have h2 := same_ints hm hs
  rw [en] at h1
  rw [em] at h2
  rw [← en] at h1
  rw [← em] at h2
  have h1' : FSpec Try.prog 24 [sI f.n f.lt, sI g.n g.lt] (bA true) := en ▸ h1
  have h2' : FSpec Try.prog 24 [sI f.m f.sh, sI g.m g.sh] (bA true) := em ▸ h2
  rw [gate_pos h1', gate_pos h2', hW, hH, BEq.rfl, BEq.rfl]
  rfl
theorem sfl_self {f : Flm} (hn : f.n ≤ 4611686018427387904) (hm : f.m ≤ 4611686018427387904) : FSpec Try.prog 10 [.agg f.c, .agg f.c] (bA true) := same_film hn hm rfl rfl rfl rfl (fun _ _ => rfl) fun _ _ => rfl
end Go.Proofs.Ytephoojaflfajaa

namespace Go.Proofs.Ytephoojaflfajaa
open Go.Gv

/-! ### Pictures that are the same -/
theorem smp_ev (p q : Pic) : ev Try.prog [] [] noL Try.f17 [.agg p.c, .agg q.c] ret =
    cond (allB p.n (fun _ => true) || !(decide ((cond (p.W == q.W) (p.H == q.H) false) = true) && true)) (cond (allB q.n (fun _ => true) || !(decide ((cond (p.W == q.W) (p.H == q.H) false) = true) && true))
      (some (Out.of (bA (cond (cond (p.W == q.W) (p.H == q.H) false) ((strF p.n p.px).toList == (strF q.n q.px).toList) false)))) none) none := by kernel_rfl
theorem same_pic (p : Pic) : FSpec Try.prog 17 [.agg p.c, .agg p.c] (bA true) := by
  refine gspec e_nil k_nil Try.func17 (by kernel_rfl) (by kernel_rfl) noL_ok rfl ((smp_ev p p).trans ?_)
  rw [allB_true fun _ _ => rfl, BEq.rfl, BEq.rfl, BEq.rfl]
  rfl
/-! ### A new film -/
noncomputable def newE (w h : Int) : Int := cond (fbad w h) 4 0
def newG (w h : Int) : Flm := ⟨w, h, (w64 (w64 (3 * w) * h)).toNat, fun _ => 0, (w64 (w * h)).toNat, fun _ => 0⟩
def newF (w h : Int) : Flm := if fbad w h = true then zF else newG w h
/-! ### The law -/
def aF (f g : Flm) (x y : Int) (l : Nat → Int) (br w h : Int) : List AV := [.agg f.c, .agg g.c, iA x, iA y, .agg (l3 l), iA br, iA w, iA h]
abbrev SF (a b : List AV) : Prop := FSpec Try.prog 10 [.agg a, .agg b] (bA true)
noncomputable def sfB (p : Prop) (t : Bool) : Bool := ((propB p && true) && true) && t
noncomputable def lawK (f g : Flm) (x y : Int) (l : Nat → Int) (br w h : Int) (A : Flm) (e0 eA : Int) (M : Flm) (eM s : Int) (p : Pic) (eT : Int) (Nw : Flm) (eN : Int) : List KEntry :=
  [kfix 6 [.agg f.c, iA x, iA y, .agg (l3 l)] (fOut A eA), kfix 7 [.agg f.c, iA x, iA y, .agg (l3 l)] (fOut A eA), kfix 8 [.agg f.c] (iA e0), kfix 9 [.agg f.c] (iA e0),
    kfix 11 [.agg f.c, .agg g.c] (fOut M eM), kfix 12 [.agg f.c, .agg g.c] (fOut M eM), kfix 13 [iA br] (yA s), kfix 14 [iA br] (yA s),
    kfix 15 [.agg f.c, iA br] (pOut p eT), kfix 16 [.agg f.c, iA br] (pOut p eT), kfix 17 [.agg p.c, .agg p.c] (bA true), kfix 18 [iA w, iA h] (fOut Nw eN)]
def mkB (n : Int) (t : Bool) : Bool := (decide (0 ≤ n) && (decide (n ≤ n) && decide (((8 : Nat) : Int) * n ≤ 281474976710656))) && t
def mkN (w h : Int) : List AV := [iA w, iA h, .sl 1 (w64 (w64 (3 * w) * h)).toNat fun _ => [iA 0], .sl 1 (w64 (w * h)).toNat fun _ => [iA 0]]
noncomputable def lawN (w h : Int) (Nw : Flm) (eN : Int) : Option Out :=
  cond (fbad w h) (cond (sfB (SF Nw.c flmZ) ((eN == 4) == true) || false) (some (Out.of (bA (cond (eN == 4) true false)))) none)
    (cond ((mkB (w64 (w64 (3 * w) * h)) ((eN == 0) == true) || false) && ((mkB (w64 (w * h)) ((eN == 0) == true) || false) && (((((propB (SF Nw.c (mkN w h)) && (true && ((Nat.ble (0 + (w64 (w64 (3 * w) * h)).toNat) (w64 (w64 (3 * w) * h)).toNat && (Nat.ble (0 + (w64 (w * h)).toNat) (w64 (w * h)).toNat && true)) && true))) && (true && ((Nat.blt 0 (0 + (w64 (w64 (3 * w) * h)).toNat) && (Nat.blt 0 (0 + (w64 (w * h)).toNat) && true)) && true))) && ((eN == 0) == true)) || false) && true)))
      (some (Out.of (bA (cond (eN == 0) true false)))) none)
end Go.Proofs.Ytephoojaflfajaa

namespace Go.Proofs.Ytephoojaflfajaa
open Go.Gv

def hvB (f g : Flm) (w h : Int) (hv : Nat → Nat → Bool) : Bool := cond (cond (cond (hv f.n f.m) true (hv g.n g.m)) true (cond (decide (w > 12)) (decide (w < 65)) false)) true (cond (decide (h > 12)) (decide (h < 65)) false)
def puts (f : Flm) (x y : Int) (l : Nat → Int) : List AV := [.agg f.c, iA x, iA y, .agg (l3 l)]
section
variable (hv : Nat → Nat → Bool) (f g : Flm) (x y : Int) (l : Nat → Int) (br w h : Int) (A : Flm) (e0 eA : Int) (M : Flm) (eM s : Int) (p : Pic) (eT : Int) (Nw : Flm) (eN : Int)
noncomputable def lawR : Option Out :=
  cond (hvB f g w h hv) (some (Out.of (bA true))) (gate (puts f x y l = puts f x y l) (gate (puts f x y l = puts f x y l) (gate ([AV.agg f.c] = [AV.agg f.c]) (gate ([AV.agg f.c] = [AV.agg f.c])
    (cond ((sfB (SF A.c A.c) ((cond (!(e0 == e0)) true (!(eA == eA))) == false) || false) && true) (cond (cond (cond (!(e0 == e0)) true (!(eA == eA))) true (!true)) (some (Out.of (bA false)))
      (gate ([AV.agg f.c, .agg g.c] = [AV.agg f.c, .agg g.c]) (gate ([AV.agg f.c, .agg g.c] = [AV.agg f.c, .agg g.c]) (cond (sfB (SF M.c M.c) ((!(eM == eM)) == false) || false) (gate ([iA br] = [iA br]) (gate ([iA br] = [iA br])
        (cond (cond (cond (!(eM == eM)) true (!true)) true (!(s == s))) (some (Out.of (bA false)))
          (gate ([AV.agg f.c, iA br] = [AV.agg f.c, iA br]) (gate ([AV.agg f.c, iA br] = [AV.agg f.c, iA br]) (gate ([AV.agg p.c, .agg p.c] = [AV.agg p.c, .agg p.c]) (cond (cond (!(eT == eT)) true (!true)) (some (Out.of (bA false)))
            (gate ([iA w, iA h] = [iA w, iA h]) (lawN w h Nw eN))))))))) none)))) none)))))
theorem law_ev : evM Try.prog [⟨5, gHv hv⟩] (lawK f g x y l br w h A e0 eA M eM s p eT Nw eN) [mS Try.prog 10 fun _ => bA true] noL Try.f3 (aF f g x y l br w h) ret = lawR hv f g x y l br w h A e0 eA M eM s p eT Nw eN := by kernel_rfl
end
end Go.Proofs.Ytephoojaflfajaa

namespace Go.Proofs.Ytephoojaflfajaa
open Go.Gv

/-- What the code gives. -/
structure FilmOk : Prop where
  may : ∀ f : Flm, FSpec Try.prog 8 [.agg f.c] (iA (fmay f))
  put : ∀ (f : Flm) (x y : Int) (l : Nat → Int), FSpec Try.prog 6 (puts f x y l) (fOut (putR f x y l) (putE f x y l))
  merge : ∀ f g : Flm, FSpec Try.prog 11 [.agg f.c, .agg g.c] (fOut (mrgF f g) (mrgE f g))
  shade : ∀ l : Int, FSpec Try.prog 13 [iA l] (yA (shS l : Nat))
  tone : ∀ (f : Flm) (br : Int), FSpec Try.prog 15 [.agg f.c, iA br] (pOut (tonP f br) (tonE f br))
  new : ∀ w h : Int, FSpec Try.prog 18 [iA w, iA h] (fOut (newF w h) (newE w h))
theorem sf_self {f : Flm} (hn : f.n ≤ 4611686018427387904) (hm : f.m ≤ 4611686018427387904) : SF f.c f.c := same_film hn hm rfl rfl rfl rfl (fun _ _ => rfl) fun _ _ => rfl
theorem sf_zero : SF zF.c flmZ := by
  refine FSpec.of_args (sf_self (f := zF) (by decide) (by decide)) fun E vs h => ?_
  obtain ⟨u0, t0, e0, r0, h⟩ := rels_cons.1 h
  obtain ⟨u1, t1, e1, r1, h⟩ := rels_cons.1 h
  exact rels_cons.2 ⟨u0, t0, e0, r0, rels_cons.2 ⟨u1, t1, e1, zF_like r1, h⟩⟩
theorem sfB_t {p : Prop} {t : Bool} (h : p) (ht : t = true) : sfB p t = true := by unfold sfB; rw [propB_t h, ht]; rfl
theorem lawN_ok (w h : Int) : lawN w h (newF w h) (newE w h) = some (Out.of (bA true)) := by
  unfold lawN newF newE
  cases hb : fbad w h
  · obtain ⟨h1, h2, h3, h4⟩ := fbad_false hb
    have hM := mulB (x := w) (y := h) (X := 64) (Y := 64) (by omega) h2 (by omega) h4
    have hM1 := mulB (x := 1) (y := h) (X := w) (Y := h) (by omega) (by omega) (by omega) (by omega)
    have e1 : w64 (w64 (3 * w) * h) = 3 * (w * h) := by rw [w64_id (n := 3 * w) (by omega) (by omega), Int.mul_assoc, w64_id (by omega) (by omega)]
    have e2 : w64 (w * h) = w * h := w64_id (by omega) (by omega)
    have hs : SF (newG w h).c (mkN w h) := sf_self (f := newG w h) (by show (w64 (w64 (3 * w) * h)).toNat ≤ _; omega) (by show (w64 (w * h)).toNat ≤ _; omega)
    have mk : ∀ n : Int, 0 ≤ n → n ≤ 100000 → mkB n true = true := fun n h0 h1 => by
      unfold mkB
      rw [decide_eq_true h0, decide_eq_true (Int.le_refl n), decide_eq_true (show ((8 : Nat) : Int) * n ≤ 281474976710656 by omega)]
      rfl
    simp only [cond_false, Bool.false_eq_true, if_false]
    rw [propB_t hs, ble_t (show 0 + (w64 (w64 (3 * w) * h)).toNat ≤ (w64 (w64 (3 * w) * h)).toNat by omega), ble_t (show 0 + (w64 (w * h)).toNat ≤ (w64 (w * h)).toNat by omega), blt_t (show 0 < 0 + (w64 (w64 (3 * w) * h)).toNat by omega), blt_t (show 0 < 0 + (w64 (w * h)).toNat by omega)]
    have em1 := mk (w64 (w64 (3 * w) * h)) (by omega) (by omega)
    have em2 := mk (w64 (w * h)) (by omega) (by omega)
    have z : (((0 : Int) == 0) == true) = true := rfl
    rw [z, em1, em2]
    rfl
  · simp only [cond_true, if_true]
    rw [sfB_t (t := ((4 : Int) == 4) == true) sf_zero rfl]
    rfl
theorem putE_zero {f : Flm} {x y : Int} {l : Nat → Int} (h : putE f x y l = 0) : fmay f = 0 := by
  unfold putE at h
  cases h1 : fmay f == 0
  · rw [h1] at h
    have h : fmay f = 0 := h
    exact h
  · exact eq_of_beq h1
theorem mrgE_zero {f g : Flm} (h : mrgE f g = 0) : fmay f = 0 := by
  unfold mrgE at h
  cases h1 : fmay f == 0
  · rw [h1] at h
    have h : fmay f = 0 := h
    exact h
  · exact eq_of_beq h1
theorem put_small (f : Flm) (x y : Int) (l : Nat → Int) : (putR f x y l).n ≤ 4611686018427387904 ∧ (putR f x y l).m ≤ 4611686018427387904 := by
  unfold putR
  split
  · rename_i h
    obtain ⟨n1, m1, _, _⟩ := fmay_n (putE_zero h)
    exact ⟨by show f.n ≤ _; omega, by show f.m ≤ _; omega⟩
  · exact ⟨Nat.zero_le _, Nat.zero_le _⟩
theorem mrg_small (f g : Flm) : (mrgF f g).n ≤ 4611686018427387904 ∧ (mrgF f g).m ≤ 4611686018427387904 := by
  unfold mrgF
  split
  · rename_i h
    obtain ⟨n1, m1, _, _⟩ := fmay_n (mrgE_zero h)
    exact ⟨by show f.n ≤ _; omega, by show f.m ≤ _; omega⟩
  · exact ⟨Nat.zero_le _, Nat.zero_le _⟩
theorem film_law (ok : FilmOk) (f g : Flm) (x y : Int) (l : Nat → Int) (br w h : Int) : FSpec Try.prog 3 (aF f g x y l br w h) (bA true) := by
  have ks : ∀ e, e ∈ lawK f g x y l br w h (putR f x y l) (fmay f) (putE f x y l) (mrgF f g) (mrgE f g) (shS br : Nat) (tonP f br) (tonE f br) (newF w h) (newE w h) → KOk Try.prog e :=
    k_cons (kfix_ok (ok.put f x y l)) <| k_cons (kfix_ok (putR_spec f x y l)) <| k_cons (kfix_ok (ok.may f)) <| k_cons (kfix_ok (fmayR_spec f)) <| k_cons (kfix_ok (ok.merge f g)) <| k_cons (kfix_ok (mergeR_spec f g)) <|
    k_cons (kfix_ok (ok.shade br)) <| k_cons (kfix_ok (shadeR_spec br)) <| k_cons (kfix_ok (ok.tone f br)) <| k_cons (kfix_ok (toneR_spec f br)) <| k_cons (kfix_ok (same_pic (tonP f br))) <| k_cons (kfix_ok (ok.new w h)) k_nil
  refine gspecM (e_cons (gHv_ok hv_spec) e_nil) ks (m_cons mS_ok m_nil) Try.func3 (by kernel_rfl) (by kernel_rfl) noL_ok rfl ((law_ev hvS f g x y l br w h _ _ _ _ _ _ _ _ _ _).trans ?_)
  unfold lawR
  have b1 := put_small f x y l
  have b2 := mrg_small f g
  cases hvB f g w h hvS
  · have t1 : ((cond (!(fmay f == fmay f)) true (!(putE f x y l == putE f x y l))) == false) = true := by rw [BEq.rfl, BEq.rfl]; rfl
    have t2 : ((!(mrgE f g == mrgE f g)) == false) = true := by rw [BEq.rfl]; rfl
    rw [cond_false, gate_pos rfl, gate_pos rfl, gate_pos rfl, gate_pos rfl, sfB_t (sf_self b1.1 b1.2) t1, gate_pos rfl, gate_pos rfl, sfB_t (sf_self b2.1 b2.2) t2, gate_pos rfl, gate_pos rfl, gate_pos rfl, gate_pos rfl, gate_pos rfl, gate_pos rfl, lawN_ok]
    simp only [BEq.rfl]
    rfl
  · rfl
end Go.Proofs.Ytephoojaflfajaa

namespace Go.Proofs.Ytephoojaflfajaa
open Go.Gv

/-! ### Pick -/
def pk0 (c : Int) : Int := cond (decide (c < 0)) (w64 (0 - w64 (c + 1))) c
def pk (c n : Int) : Int := (pk0 c).tmod n
theorem pick_ev (c n : Int) : ev Try.prog [] [] noL Try.f19 [iA c, iA n] ret = cond (decide (c < 0)) (cond ((!(n == 0)) && true) (some (Out.of (iA ((w64 (0 - w64 (c + 1))).tmod n)))) none) (cond ((!(n == 0)) && true) (some (Out.of (iA (c.tmod n)))) none) := by kernel_rfl
theorem pick_spec {c n : Int} (hn : (!(n == 0)) = true) : FSpec Try.prog 19 [iA c, iA n] (iA (pk c n)) := by
  refine gspec e_nil k_nil Try.func19 (by kernel_rfl) (by kernel_rfl) noL_ok rfl ?_
  rw [pick_ev, hn]
  unfold pk pk0
  cases decide (c < 0) <;> rfl
def pkC : List AV → Bool
  | [.x (.int .i64 _), .x (.int .i64 n)] => !(n == 0)
  | _ => false
def pkG (pf : Int → Int → Int) : List AV → AV
  | [.x (.int .i64 c), .x (.int .i64 n)] => iA (pf c n)
  | _ => .any
def kPick (pf : Int → Int → Int) : KEntry := kIf 19 pkC (pkG pf)
theorem kPick_ok : KOk Try.prog (kPick pk) := kIf_ok fun args h => by
  unfold pkC at h
  split at h
  · exact pick_spec h
  · cases h
theorem pk_nat {c : Int} {n : Nat} (hc : (Lit.int .i64 c).wf = true) (hn : 0 < n) : ∃ k : Nat, pk c n = k ∧ k < n := by
  have h0 : ∃ m : Nat, pk0 c = m := by
    have hr : -9223372036854775808 ≤ c ∧ c ≤ 9223372036854775807 := by
      simp [Lit.wf, IntKind.min, IntKind.max, IntKind.signed, IntKind.bits] at hc
      omega
    unfold pk0
    by_cases h : c < 0
    · rw [decide_eq_true h]
      simp only [cond_true]
      rw [w64_id (n := c + 1) (by omega) (by omega), w64_id (by omega) (by omega)]
      exact ⟨(0 - (c + 1)).toNat, by omega⟩
    · rw [decide_eq_false h]
      exact ⟨c.toNat, by simp only [cond_false]; omega⟩
  obtain ⟨m, hm⟩ := h0
  refine ⟨m % n, ?_, Nat.mod_lt _ hn⟩
  unfold pk
  rw [hm, ← Int.ofNat_tmod]
/-! ### Raw -/
def rsl (n : Nat) (hs : Nat → Int) : AV := .sl 1 n fun i => [iA (hs i)]
def rawV (n : Nat) (hs : Nat → Int) (k : Int) : Int := cond ((n : Int) == 0) 0 (hs (k.tmod n).toNat)
theorem raw_ev (n : Nat) (hs : Nat → Int) (k : Int) : ev Try.prog [] [] noL Try.f28 [rsl n hs, iA k] ret =
    cond ((n : Int) == 0) (some (Out.of (iA 0))) (cond ((!((n : Int) == 0)) && true) (cond ((decide (0 ≤ k.tmod n) && decide (k.tmod n < (n : Int))) && true) (some (Out.of (iA (hs (k.tmod n).toNat)))) none) none) := by kernel_rfl
theorem raw_spec {n : Nat} {hs : Nat → Int} {k : Int} (hk : 0 ≤ k) : FSpec Try.prog 28 [rsl n hs, iA k] (iA (rawV n hs k)) := by
  refine gspec e_nil k_nil Try.func28 (by kernel_rfl) (by kernel_rfl) noL_ok rfl ((raw_ev n hs k).trans ?_)
  unfold rawV
  by_cases h : n = 0
  · subst h; rfl
  · have e1 : ((n : Int) == 0) = false := beq_false_of_ne (by omega)
    obtain ⟨m, rfl⟩ : ∃ m : Nat, k = m := ⟨k.toNat, by omega⟩
    have e2 : Int.tmod (m : Int) (n : Int) = ((m % n : Nat) : Int) := (Int.ofNat_tmod m n).symm
    have hlt : m % n < n := Nat.mod_lt _ (by omega)
    rw [e1, e2, dec_nonneg, dec_lt hlt]
    rfl
def rawC : List AV → Bool
  | [_, .x (.int .i64 k)] => decide (0 ≤ k)
  | _ => false
def rawG (rv : Int → Int) : List AV → AV
  | [_, .x (.int .i64 k)] => iA (rv k)
  | _ => .any
noncomputable def kRaw (n : Nat) (hs : Nat → Int) (rv : Int → Int) : KEntry := kIfP 28 (fun args => args.head? = some (rsl n hs)) rawC (rawG rv)
theorem kRaw_ok (n : Nat) (hs : Nat → Int) : KOk Try.prog (kRaw n hs (rawV n hs)) := kIfP_ok fun args hp h => by
  unfold rawC at h
  split at h
  · simp only [List.head?_cons, Option.some.injEq] at hp
    subst hp
    exact raw_spec (of_decide_eq_true h)
  · cases h
end Go.Proofs.Ytephoojaflfajaa

namespace Go.Proofs.Ytephoojaflfajaa
open Go.Gv Go.RowKit Go.ChangeShapes Go.WideShapes Go.ChangeAt

theorem open_num {H : Type} {enc : TypeId × Value → H} {P : Program} {w : World} {r : Reach} {b0 : Nat} {t : TypeId} {v : Value} {d : DataW H} {p : List MemPlace} {k : IntKind} (hu : P.underlying t = some (.int k)) (hk : kds P 1 t = some [.i k]) (hv : Value.okWide P w r b0 t v)
    (h : DataW.Trod enc P w 0 (fun _ => true) true t v d p) : ∃ n, rel (Env.all w) (.x (.int k n)) v ∧ (Lit.int k n).wf = true := by
  have hone : v.cells = #[v] := by
    obtain ⟨n, rfl, _⟩ := okWide_int hu hv
    rfl
  obtain ⟨fuel, hf⟩ := h
  obtain ⟨a, h1, h2⟩ := open_arg hf hk hone
  rw [fitA] at h1
  obtain ⟨n, rfl, hw⟩ := h1
  exact ⟨n, h2, hw⟩
def numOf (el : Nat → List AV) (i : Nat) : Int := match el i with
  | [.x (.int .i64 h)] => h
  | _ => 0
theorem sl_same {E : Env} {sz n : Nat} {el el' : Nat → List AV} {v : Value} (h : rel E (.sl sz n el) v) (he : ∀ i, i < n → el' i = el i) : rel E (.sl sz n el') v := by
  have h : relA _ _ _ := h
  show relA _ _ _
  rw [relA] at h ⊢
  obtain ⟨a, c, h1, h2, h3⟩ := h
  refine ⟨a, c, h1, h2, ?_⟩
  rcases h3 with h3 | ⟨b, o, cs, e, fz, h4, h5, h6, h7⟩
  · exact Or.inl h3
  · exact Or.inr ⟨b, o, cs, e, fz, h4, h5, h6, fun i hi => by rw [he i hi]; exact h7 i hi⟩
theorem fitL_single {k : Kd} {zs : List AV} (h : fitL [k] zs) : ∃ a, zs = [a] ∧ fitA k a := by
  match zs, h with
  | [a], h => exact ⟨a, rfl, (fitL_cons.1 h).1⟩
  | [], h => have := fitL_length h; simp at this
  | _ :: _ :: _, h => have := fitL_length h; simp at this
/-- A row of whole numbers that came in: as many, each a number of 64 bits. -/
theorem open_raw {H : Type} {enc : TypeId × Value → H} {P : Program} {w : World} {r : Reach} {b0 : Nat} {t e : TypeId} {v : Value} {d : DataW H} {p : List MemPlace} (hu : P.underlying t = some (.slice e)) (hk : kds P 2 t = some [.l 1 [.i .i64]]) (hv : Value.okWide P w r b0 t v)
    (h : DataW.Trod enc P w 0 (fun _ => true) true t v d p) : ∃ n hs, rel (Env.all w) (rsl n hs) v ∧ ∀ i, i < n → (Lit.int .i64 (hs i)).wf = true := by
  have hone : v.cells = #[v] := by
    obtain ⟨a, len, cap, rfl⟩ := okWide_slice hu hv
    rfl
  obtain ⟨fuel, hf⟩ := h
  obtain ⟨a, h1, h2⟩ := open_arg hf hk hone
  rw [fitA] at h1
  obtain ⟨n, el, rfl, _, hel⟩ := h1
  have key : ∀ i, i < n → el i = [iA (numOf el i)] ∧ (Lit.int .i64 (numOf el i)).wf = true := fun i hi => by
    obtain ⟨a, ha, hf⟩ := fitL_single (hel i hi)
    rw [fitA] at hf
    obtain ⟨m, rfl, hw⟩ := hf
    have e : numOf el i = m := by unfold numOf; rw [ha]
    rw [e]
    exact ⟨ha, hw⟩
  exact ⟨n, numOf el, sl_same h2 fun i hi => (key i hi).1.symm, fun i hi => (key i hi).2⟩
end Go.Proofs.Ytephoojaflfajaa

namespace Go.Proofs.Ytephoojaflfajaa
open Go.Gv Go.RowKit Go.ChangeShapes Go.WideShapes Go.ChangeAt

def u8Of (el : Nat → List AV) (i : Nat) : Int := match el i with
  | [.x (.int .u8 h)] => h
  | _ => 0
theorem u8_wf {n : Int} (h : (Lit.int .u8 n).wf = true) : 0 ≤ n ∧ n ≤ 255 := by
  simp [Lit.wf, IntKind.min, IntKind.max, IntKind.signed, IntKind.bits] at h
  omega
theorem fit_iw {a : AV} {k : IntKind} (h : fitA (.i k) a) : ∃ n, a = .x (.int k n) ∧ (Lit.int k n).wf = true := by rw [fitA] at h; exact h
/-- A row of whole numbers within something. -/
theorem fit_ints {E : Env} {a : AV} {v : Value} (h : fitA (.l 1 [.i .i64]) a) (hr : rel E a v) : ∃ n g, n ≤ maxLen ∧ (∀ i, i < n → (Lit.int .i64 (g i)).wf = true) ∧ rel E (sI n g) v := by
  rw [fitA] at h
  obtain ⟨n, el, rfl, hn, hel⟩ := h
  have key : ∀ i, i < n → el i = [iA (numOf el i)] ∧ (Lit.int .i64 (numOf el i)).wf = true := fun i hi => by
    obtain ⟨a, ha, hf⟩ := fitL_single (hel i hi)
    obtain ⟨m, rfl, hw⟩ := fit_iw hf
    have e : numOf el i = m := by unfold numOf; rw [ha]
    rw [e]
    exact ⟨ha, hw⟩
  exact ⟨n, numOf el, hn, fun i hi => (key i hi).2, sl_like hr fun i hi => (key i hi).1.symm⟩
/-- A row of bytes within something. -/
theorem fit_bytes {E : Env} {a : AV} {v : Value} (h : fitA (.l 1 [.i .u8]) a) (hr : rel E a v) : ∃ n g, n ≤ maxLen ∧ (∀ i, i < n → 0 ≤ g i ∧ g i ≤ 255) ∧ rel E (sB n g) v := by
  rw [fitA] at h
  obtain ⟨n, el, rfl, hn, hel⟩ := h
  have key : ∀ i, i < n → el i = [yA (u8Of el i)] ∧ (Lit.int .u8 (u8Of el i)).wf = true := fun i hi => by
    obtain ⟨a, ha, hf⟩ := fitL_single (hel i hi)
    obtain ⟨m, rfl, hw⟩ := fit_iw hf
    have e : u8Of el i = m := by unfold u8Of; rw [ha]
    rw [e]
    exact ⟨ha, hw⟩
  exact ⟨n, u8Of el, hn, fun i hi => u8_wf (key i hi).2, sl_like hr fun i hi => (key i hi).1.symm⟩
/-- A row of bytes that came in. -/
theorem open_bytes {H : Type} {enc : TypeId × Value → H} {P : Program} {w : World} {r : Reach} {b0 : Nat} {t e : TypeId} {v : Value} {d : DataW H} {p : List MemPlace} (hu : P.underlying t = some (.slice e)) (hk : kds P 2 t = some [.l 1 [.i .u8]]) (hv : Value.okWide P w r b0 t v)
    (h : DataW.Trod enc P w 0 (fun _ => true) true t v d p) : ∃ n g, n ≤ maxLen ∧ (∀ i, i < n → 0 ≤ g i ∧ g i ≤ 255) ∧ rel (Env.all w) (sB n g) v := by
  have hone : v.cells = #[v] := by
    obtain ⟨a, len, cap, rfl⟩ := okWide_slice hu hv
    rfl
  obtain ⟨fuel, hf⟩ := h
  obtain ⟨a, h1, h2⟩ := open_arg hf hk hone
  exact fit_bytes h1 h2
/-- Four cells, one behind the other. -/
theorem fitL_n3 {k0 k1 k2 : Kd} {zs : List AV} (h : fitL [k0, k1, k2] zs) : ∃ x y z, zs = [x, y, z] ∧ fitA k0 x ∧ fitA k1 y ∧ fitA k2 z := by
  match zs, h with
  | [x, y, z], h =>
    simp only [fitL_cons] at h
    exact ⟨x, y, z, rfl, h.1, h.2.1, h.2.2.1⟩
  | [], h => have := fitL_length h; simp at this
  | [_], h => have := fitL_length h; simp at this
  | [_, _], h => have := fitL_length h; simp at this
  | _ :: _ :: _ :: _ :: _, h => have := fitL_length h; simp at this
theorem fitL_n4 {k0 k1 k2 k3 : Kd} {zs : List AV} (h : fitL [k0, k1, k2, k3] zs) : ∃ x y z u, zs = [x, y, z, u] ∧ fitA k0 x ∧ fitA k1 y ∧ fitA k2 z ∧ fitA k3 u := by
  match zs, h with
  | [x, y, z, u], h =>
    simp only [fitL_cons] at h
    exact ⟨x, y, z, u, rfl, h.1, h.2.1, h.2.2.1, h.2.2.2.1⟩
  | [], h => have := fitL_length h; simp at this
  | [_], h => have := fitL_length h; simp at this
  | [_, _], h => have := fitL_length h; simp at this
  | [_, _, _], h => have := fitL_length h; simp at this
  | _ :: _ :: _ :: _ :: _ :: _, h => have := fitL_length h; simp at this
def l3A (l : Nat → Int) : List AV := [iA (l 0), iA (l 1), iA (l 2)]
/-- Three whole numbers. -/
theorem three_arg {E : Env} {zs : List AV} {v : Value} (h : fitL [.i .i64, .i .i64, .i .i64] zs) (hr : rel E (.agg zs) v) : ∃ l : Nat → Int, (∀ i, i < 3 → (Lit.int .i64 (l i)).wf = true) ∧ rel E (.agg (l3A l)) v := by
  obtain ⟨x, y, z, rfl, h0, h1, h2⟩ := fitL_n3 h
  obtain ⟨a, rfl, wa⟩ := fit_iw h0
  obtain ⟨b, rfl, wb⟩ := fit_iw h1
  obtain ⟨c, rfl, wc⟩ := fit_iw h2
  refine ⟨fun i => [a, b, c].getD i 0, fun i hi => ?_, hr⟩
  match i, hi with
  | 0, _ => exact wa
  | 1, _ => exact wb
  | 2, _ => exact wc
end Go.Proofs.Ytephoojaflfajaa
