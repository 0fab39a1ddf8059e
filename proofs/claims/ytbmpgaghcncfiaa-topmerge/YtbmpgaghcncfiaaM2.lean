/-
  Cf3 Fnd Cg0 Fpd Cf4 Cf5 Raw0 Arg0 Ar1 Fo1, one behind the other.
-/
import Derived.Test.YtbmpgaghcncfiaaM1
import Derived.Test.YtbmpgaghcncfiaaGu
import Derived.Test.YtbmpgaghcncfiaaGi
namespace Go.Proofs.Ytbmpgaghcncfiaa
open Go.Gv

def mkC (n : Int) : Bool := decide (0 ≤ n) && (decide (n ≤ n) && decide (((8 : Nat) : Int) * n ≤ 281474976710656))
theorem mkC_t {n : Int} (h0 : 0 ≤ n) (h1 : n ≤ 100000) : mkC n = true := by
  unfold mkC
  rw [decide_eq_true h0, decide_eq_true (Int.le_refl n), decide_eq_true (show ((8 : Nat) : Int) * n ≤ 281474976710656 by omega)]
  rfl
def nwN (w h : Int) : Nat := (w64 (w64 (3 * w) * h)).toNat
def nwM (w h : Int) : Nat := (w64 (w * h)).toNat
def nwC (w h : Int) : Bool := (mkC (w64 (w64 (3 * w) * h)) || false) && ((mkC (w64 (w * h)) || false) && true)
def nwA (w h : Int) : AV := .tup [.agg [iA w, iA h, .osl 0 1 0 (nwN w h), .osl 1 1 0 (nwM w h)], iA 0]
def nwR (w h : Int) : List Row := [.a 3 1 (nwN w h) (fun _ => [iA 0]), .a 3 1 (nwM w h) (fun _ => [iA 0])]
theorem nw_ev (sd : Int → Bool) (w h : Int) : evG Try.prog [⟨12, gSd sd⟩] [] [] noL Try.f7 [iA w, iA h] [] [some 1, some 2] = cond (cSd sd w h) none (cond (nwC w h) (gout (nwA w h) (nwR w h)) none) := by kernel_rfl
theorem nw_ev0 (sd : Int → Bool) (w h : Int) : ev Try.prog [⟨12, gSd sd⟩] [] noL Try.f7 [iA w, iA h] ret = cond (cSd sd w h) (fBad 4) (cond (nwC w h) (some (Out.of (.tup [.agg [iA w, iA h, sI (nwN w h) fun _ => 0, sI (nwM w h) fun _ => 0], iA 0]))) none) := by kernel_rfl
theorem nw_eq {w h : Int} (hb : fbad w h = false) : w64 (w64 (3 * w) * h) = 3 * (w * h) ∧ w64 (w * h) = w * h ∧ 1 ≤ w * h ∧ w * h ≤ 4096 := by
  obtain ⟨h1, h2, h3, h4⟩ := fbad_false hb
  have hM := mulB (x := w) (y := h) (X := 64) (Y := 64) (by omega) h2 (by omega) h4
  have hM1 := mulB (x := 1) (y := h) (X := w) (Y := h) (by omega) (by omega) (by omega) (by omega)
  refine ⟨?_, w64_id (by omega) (by omega), by omega, by omega⟩
  rw [w64_id (n := 3 * w) (by omega) (by omega), Int.mul_assoc, w64_id (by omega) (by omega)]
theorem nwC_t {w h : Int} (hb : fbad w h = false) : nwC w h = true := by
  obtain ⟨h1, h2, h3, h4⟩ := nw_eq hb
  unfold nwC
  rw [mkC_t (n := w64 (w64 (3 * w) * h)) (by omega) (by omega), mkC_t (n := w64 (w * h)) (by omega) (by omega)]
  rfl
theorem nw_G {w h : Int} (hb : fbad w h = false) : GSpec Try.prog 7 [iA w, iA h] [] (nwA w h) (nwR w h) := by
  refine gspecG (e_cons gSd_ok e_nil) k_nil m_nil Try.func7 (by kernel_rfl) (by kernel_rfl) (fun _ _ _ _ _ h => by cases h) rfl (by kernel_rfl) ((nw_ev isd w h).trans ?_)
  rw [cSd_eq, hb, nwC_t hb]
  rfl
end Go.Proofs.Ytbmpgaghcncfiaa

namespace Go.Proofs.Ytbmpgaghcncfiaa
open Go.Gv

/-! ### A new film -/
noncomputable def newE (w h : Int) : Int := cond (fbad w h) 4 0
def newG (w h : Int) : Flm := ⟨w, h, (w64 (w64 (3 * w) * h)).toNat, fun _ => 0, (w64 (w * h)).toNat, fun _ => 0⟩
def newF (w h : Int) : Flm := if fbad w h = true then zF else newG w h
end Go.Proofs.Ytbmpgaghcncfiaa

namespace Go.Proofs.Ytbmpgaghcncfiaa
open Go.Gv

theorem cnew_spec (w h : Int) : FSpec Try.prog 7 [iA w, iA h] (fOut (newF w h) (newE w h)) := by
  have hev := nw_ev0 isd w h
  rw [cSd_eq] at hev
  unfold newF newE
  cases hb : fbad w h
  · rw [hb, nwC_t hb] at hev
    simp only [cond_false, Bool.false_eq_true, if_false]
    exact gspec (e_cons gSd_ok e_nil) k_nil Try.func7 (by kernel_rfl) (by kernel_rfl) noL_ok rfl hev
  · rw [hb] at hev
    simp only [cond_true, if_true]
    exact fspec_bad (gspec (e_cons gSd_ok e_nil) k_nil Try.func7 (by kernel_rfl) (by kernel_rfl) noL_ok rfl hev)
end Go.Proofs.Ytbmpgaghcncfiaa

namespace Go.Proofs.Ytbmpgaghcncfiaa
open Go.Gv

def sumI (a b : Nat → Int) (i : Nat) : Int := w64 (a i + b i)
abbrev PF : Type := (Nat → List AV) → (Nat → List AV) → Nat → Int
def plG (pf : PF) : List AV → AV
  | [.sl _ n el, .sl _ _ el'] => sI n (pf el el')
  | _ => .any
def PF.of (pf : PF) (a b : Nat → Int) : Nat → Int := pf (fun i => [iA (a i)]) (fun i => [iA (b i)])
def plE : PF := fun el el' i => w64 (intOf (el i) + intOf (el' i))
/-- Two films together. -/
def mrgP (pf : PF) (f g : Flm) : Flm := ⟨f.W, f.H, f.n, pf.of f.lt g.lt, f.m, pf.of f.sh g.sh⟩
def mrg (f g : Flm) : Flm := ⟨f.W, f.H, f.n, sumI f.lt g.lt, f.m, sumI f.sh g.sh⟩
def sideB (f g : Flm) : Bool := cond (!(f.W == g.W)) true (!(f.H == g.H))
noncomputable def mrgE (f g : Flm) : Int := cond (!(fmay f == 0)) (fmay f) (cond (!(fmay g == 0)) (fmay g) (cond (sideB f g) 5 (cond (!(fmay (mrg f g) == 0)) 4 0)))
noncomputable def mrgF (f g : Flm) : Flm := open Classical in if mrgE f g = 0 then mrg f g else zF
theorem sideB_false {f g : Flm} (h : sideB f g = false) : f.W = g.W ∧ f.H = g.H := by
  unfold sideB at h
  cases h1 : f.W == g.W <;> cases h2 : f.H == g.H <;> rw [h1, h2] at h <;> simp at h
  exact ⟨eq_of_beq h1, eq_of_beq h2⟩
end Go.Proofs.Ytbmpgaghcncfiaa

namespace Go.Proofs.Ytbmpgaghcncfiaa
open Go.Gv

/-! ### Number and number together -/
def smS (n m : Nat) (a b : Nat → Int) (i : Int) (el : Nat → List AV) : St := mkS 29 [(0, sI n a), (1, sI m b), (5, .osl 0 1 0 n), (11, iA n), (12, iA i)] [.a 3 1 n el]
def keepSm : List Nat := [0, 1, 5, 11, 12]
section
variable (n m : Nat) (a b g : Nat → Int) (i : Int)
def smB (n m : Nat) (i : Int) : Bool := (ixB i n || false) && ((ixB i m || false) && ((ixB i n || false) && ((Nat.blt (0 + i.toNat) n || false) && true)))
theorem sm_step : evC Try.prog [] [] noL (loopAt Try.f18 0) (smS n m a b i fun q => [iA (g q)]) (finN keepSm [some 0]) =
    cond (decide (i < n)) (cond (smB n m i) (some ⟨.normal, smS n m a b (w64 (i + 1)) (fun q => mixL (q == 0 + i.toNat) [iA (w64 (a i.toNat + b i.toNat))] [iA (g q)]), .any⟩) none) none := by kernel_rfl
theorem sm_end : evC Try.prog [] [] noL (loopAt Try.f18 0) (smS n m a b i fun q => [iA (g q)]) (finE keepSm [some 0]) =
    cond (decide (i < n)) (cond (smB n m i) none none) (some ⟨.exit 0, smS n m a b i fun q => [iA (g q)], .any⟩) := by kernel_rfl
end
def smG (a b : Nat → Int) (k q : Nat) : Int := if q < k then sumI a b q else 0
theorem smB_t {n m i : Nat} (h : i < n) (h' : i < m) : smB n m (i : Nat) = true := by
  unfold smB
  rw [ixB_t h, ixB_t h', Int.toNat_natCast, Nat.zero_add, blt_t h]
  rfl
theorem sm_leads {n m : Nat} (hn : n ≤ 1000000) (hm : n ≤ m) (a b : Nat → Int) : Leads Try.prog (.loop (loopAt Try.f18 0)) (smS n m a b 0 fun _ => [iA 0]) (.exit 0) (smS n m a b (n : Nat) fun q => [iA (sumI a b q)]) := by
  have h0 : Leads Try.prog (.loop (loopAt Try.f18 0)) (smS n m a b (0 : Nat) fun q => [iA (smG a b 0 q)]) (.exit 0) (smS n m a b (n : Nat) fun q => [iA (smG a b n q)]) := by
    refine loop_rule (fun k => smS n m a b (k : Nat) fun q => [iA (smG a b k q)]) n (.exit 0) _ (by simp) (fun k hk => ?_) ?_
    · have st := sm_step n m a b (smG a b k) (k : Nat)
      rw [dec_lt hk, smB_t hk (by omega), w64_next (by omega), Int.toNat_natCast] at st
      refine (leads_ev (finN_sub _ _) e_nil k_nil noL_ok st).sub (Sub.refl _) ?_
      refine sub_same ⟨Or.inr ⟨3, 1, n, _, _, rfl, rfl, fun q hq => ?_⟩, trivial⟩
      rw [mixI, Nat.zero_add]
      unfold smG
      by_cases hqk : q = k
      · subst hqk
        rw [BEq.rfl, if_pos (by omega)]
        rfl
      · rw [beq_false_of_ne hqk, cond_false]
        by_cases hlt : q < k
        · rw [if_pos hlt, if_pos (by omega)]
        · rw [if_neg hlt, if_neg (by omega)]
    · refine leads_ev (finE_sub _ _) e_nil k_nil noL_ok ((sm_end n m a b (smG a b n) (n : Nat)).trans ?_)
      rw [dec_self, cond_false]
  refine h0.sub (sub_same ⟨Or.inr ⟨3, 1, n, _, _, rfl, rfl, fun q _ => ?_⟩, trivial⟩) (sub_same ⟨Or.inr ⟨3, 1, n, _, _, rfl, rfl, fun q hq => ?_⟩, trivial⟩)
  · unfold smG; rw [if_neg (by omega)]
  · unfold smG; rw [if_pos hq]
noncomputable def smL (n m : Nat) (a b g : Nat → Int) : Nat → Option LFun := oneL 3 (toldF keepSm [some 0] (smS n m a b 0 fun _ => [iA 0]) (.exit 0) (smS n m a b (n : Nat) fun q => [iA (g q)]))
def smC (n : Nat) : Bool := mkC (n : Int) || false
theorem sm_ev (n m : Nat) (a b g : Nat → Int) : evG Try.prog [] [] [] (smL n m a b g) Try.f18 [sI n a, sI m b] [] [some 0] =
    cond (smC n) (gate (Sub (smS n m a b 0 fun _ => [iA 0]) (smS n m a b 0 fun _ => [iA 0])) (gout (.osl 0 1 0 n) [.a 3 1 n fun q => [iA (g q)]])) none := by kernel_rfl
def suV : List AV → AV
  | [.sl _ n _, .sl _ _ _] => .osl 0 1 0 n
  | _ => .any
def suR (pf : PF) : List AV → List Row
  | [.sl _ n el, .sl _ _ el'] => [.a 3 1 n fun q => [iA (pf el el' q)]]
  | _ => []
abbrev SMok (pf : PF) (n m : Nat) (a b : Nat → Int) : Prop := GSpec Try.prog 18 [sI n a, sI m b] [] (suV [sI n a, sI m b]) (suR pf [sI n a, sI m b])
theorem SMok_of {n m : Nat} (hn : n ≤ 30000) (hm : n ≤ m) (a b : Nat → Int) : SMok plE n m a b := by
  have hL := lok_hd (c := bodyOf Try.f18) (i := 3) 0 (by kernel_rfl) (by kernel_rfl) (toldF_sound (keep := keepSm) (τ := [some 0]) (sm_leads (n := n) (m := m) (by omega) hm a b))
  refine gspecG (mem := []) e_nil k_nil m_nil Try.func18 (by kernel_rfl) (by kernel_rfl) hL rfl (by kernel_rfl) ((sm_ev n m a b (sumI a b)).trans ?_)
  have hc : smC n = true := by unfold smC; rw [mkC_t (by omega) (by omega)]; rfl
  rw [hc, gate_pos (Sub.refl _)]
  rfl
/-! ### Two films -/
def tgC (pf : PF) (f g : Flm) : List AV := [iA f.W, iA f.H, .sl 1 f.n fun i => [iA (pf.of f.lt g.lt (0 + i))], .sl 1 f.m fun i => [iA (pf.of f.sh g.sh (0 + i))]]
def tgM (mf : MF) (pf : PF) (f g : Flm) : Int := mf f.W f.H f.n (fun i => [iA (pf.of f.lt g.lt (0 + i))]) f.m (fun i => [iA (pf.of f.sh g.sh (0 + i))])
def tgR (pf : PF) (f g : Flm) : List Row := [.a 3 1 f.n fun q => [iA (pf.of f.lt g.lt q)], .a 3 1 f.m fun q => [iA (pf.of f.sh g.sh q)]]
def lendF (n m : Nat) : Bool := (Nat.ble (0 + n) n && (Nat.ble (0 + m) m && true)) && true
def witF (n m : Nat) : Bool := (Nat.blt 0 (0 + n) && (Nat.blt 0 (0 + m) && true)) && true
noncomputable def smP (p : Prop) : Bool := (propB p && true) || false
theorem tg_ev (mf : MF) (pf : PF) (f g : Flm) : evG Try.prog [] [] [mN Try.prog 18 suV (suR pf), mS Try.prog 13 (fmG mf)] noL Try.f14 [.agg f.c, .agg g.c] [] [some 3, some 4] =
    cond (smP (SMok pf f.n g.n f.lt g.lt) && (smP (SMok pf f.m g.m f.sh g.sh) && true))
      (cond (((propB (FSpec Try.prog 13 [.agg (tgC pf f g)] (fmG mf [.agg (tgC pf f g)])) && lendF f.n f.m) && witF f.n f.m) || false)
        (cond (!(tgM mf pf f g == 0)) (gout (.tup [.agg flmZ, iA 4]) (tgR pf f g)) (gout (.tup [.agg [iA f.W, iA f.H, .osl 0 1 0 f.n, .osl 1 1 0 f.m], iA 0]) (tgR pf f g))) none) none := by kernel_rfl
noncomputable def tgE (f g : Flm) : Int := cond (!(fmay (mrg f g) == 0)) 4 0
noncomputable def tgF (f g : Flm) : Flm := open Classical in if fmay (mrg f g) = 0 then mrg f g else zF
theorem plainR (mf : PF) (f g : Flm) : PlainRows (tgR mf f g) := by
  intro k e sz n el hk i hi
  match k, hk with
  | 0, hk => cases hk; rfl
  | 1, hk => cases hk; rfl
  | k + 2, hk => simp [tgR] at hk
theorem tg_fresh {f g : Flm} (hn : f.n ≤ 30000) (hm : f.m ≤ 30000) (hn0 : 0 < f.n) (hm0 : 0 < f.m) (hn' : f.n ≤ g.n) (hm' : f.m ≤ g.m) : FreshSpec Try.prog 14 [.agg f.c, .agg g.c] (fOut (tgF f g) (tgE f g)) := by
  have ok := FMok_of cmay_spec
  have hev := tg_ev fmE' plE f g
  have eC : tgC plE f g = (mrg f g).c := by
    show ([iA f.W, iA f.H, .sl 1 f.n fun i => [iA (sumI f.lt g.lt (0 + i))], .sl 1 f.m fun i => [iA (sumI f.sh g.sh (0 + i))]] : List AV) = [iA f.W, iA f.H, .sl 1 f.n fun i => [iA (sumI f.lt g.lt i)], .sl 1 f.m fun i => [iA (sumI f.sh g.sh i)]]
    simp only [Nat.zero_add]
  have eM : tgM fmE' plE f g = fmay (mrg f g) := by
    show fmay ⟨f.W, f.H, f.n, fun i => sumI f.lt g.lt (0 + i), f.m, fun i => sumI f.sh g.sh (0 + i)⟩ = _
    simp only [Nat.zero_add]
    rfl
  have s1 : smP (SMok plE f.n g.n f.lt g.lt) = true := by unfold smP; rw [propB_t (SMok_of hn hn' _ _)]; rfl
  have s2 : smP (SMok plE f.m g.m f.sh g.sh) = true := by unfold smP; rw [propB_t (SMok_of hm hm' _ _)]; rfl
  have hl : lendF f.n f.m = true := by unfold lendF; rw [ble_t (by omega), ble_t (by omega)]; rfl
  have hw : witF f.n f.m = true := by unfold witF; rw [blt_t (by omega), blt_t (by omega)]; rfl
  rw [s1, s2, eC, propB_t (ok (mrg f g)), hl, hw, eM] at hev
  have ms := m_cons (mN_ok (P := Try.prog) (f := 18) (g := suV) (m := suR plE)) (m_cons (mS_ok (P := Try.prog) (f := 13) (g := fmG fmE')) m_nil)
  unfold tgF tgE
  by_cases h : fmay (mrg f g) = 0
  · rw [h] at hev ⊢
    have hG := gspecG e_nil k_nil ms Try.func14 (by kernel_rfl) (by kernel_rfl) (fun _ _ _ _ _ h => by cases h) rfl (by kernel_rfl) hev
    have hF := fresh_rows hG (by
      show ownB (tgR plE f g) _ = true
      simp only [ownB, ownBL, tgR, List.getElem?_cons_zero, List.getElem?_cons_succ, iA]
      rw [ble_t (show 0 + f.n ≤ f.n by omega), ble_t (show 0 + f.m ≤ f.m by omega)]
      rfl) (plainR _ _ _)
    have e : frzT (tgR plE f g) (.tup [.agg [iA f.W, iA f.H, .osl 0 1 0 f.n, .osl 1 1 0 f.m], iA 0]) = fOut (mrg f g) 0 := by
      show AV.tup [.agg [iA f.W, iA f.H, .sl 1 f.n fun i => [iA (sumI f.lt g.lt (0 + i))], .sl 1 f.m fun i => [iA (sumI f.sh g.sh (0 + i))]], iA 0] = AV.tup [.agg [iA f.W, iA f.H, .sl 1 f.n fun i => [iA (sumI f.lt g.lt i)], .sl 1 f.m fun i => [iA (sumI f.sh g.sh i)]], iA 0]
      simp only [Nat.zero_add]
    rw [e] at hF
    rw [if_pos rfl]
    exact hF
  · rw [beq_false_of_ne h] at hev ⊢
    have hG := gspecG e_nil k_nil ms Try.func14 (by kernel_rfl) (by kernel_rfl) (fun _ _ _ _ _ h => by cases h) rfl (by kernel_rfl) hev
    have hF := fresh_rows hG (by rfl) (plainR _ _ _)
    rw [if_neg h]
    exact hF.of_res fun _ _ hr => tup2_like hr fun _ => zF_like
end Go.Proofs.Ytbmpgaghcncfiaa

namespace Go.Proofs.Ytbmpgaghcncfiaa
open Go.Gv

abbrev FT : Type := List AV → Flm
abbrev ET : Type := List AV → Int
def tgG (ff : FT) (ef : ET) : List AV → AV := fun args => fOut (ff args) (ef args)
abbrev TGok (ff : FT) (ef : ET) (f g : Flm) : Prop := FSpec Try.prog 14 [.agg f.c, .agg g.c] (tgG ff ef [.agg f.c, .agg g.c])
theorem cm_ev (mf : MF) (ff : FT) (ef : ET) (f g : Flm) : ev Try.prog [] [kS Try.prog 13 (fmG mf), kS Try.prog 14 (tgG ff ef)] noL Try.f8 [.agg f.c, .agg g.c] ret =
    gate (FMok 13 mf f) (cond (!(mf.of f == 0)) (fBad (mf.of f)) (gate (FMok 13 mf g) (cond (!(mf.of g == 0)) (fBad (mf.of g)) (cond (sideB f g) (fBad 5)
      (gate (TGok ff ef f g) (some (Out.of (fOut (ff [.agg f.c, .agg g.c]) (ef [.agg f.c, .agg g.c]))))))))) := by kernel_rfl
def flmOf : List AV → Flm
  | [.x (.int .i64 W), .x (.int .i64 H), .sl _ n el, .sl _ m el'] => ⟨W, H, n, fun i => intOf (el i), m, fun i => intOf (el' i)⟩
  | _ => zF
theorem flmOf_c (f : Flm) : flmOf f.c = f := rfl
noncomputable def tgFF : FT
  | [.agg a, .agg b] => tgF (flmOf a) (flmOf b)
  | _ => zF
noncomputable def tgEF : ET
  | [.agg a, .agg b] => tgE (flmOf a) (flmOf b)
  | _ => 0
theorem fmay_small {f : Flm} (h : fmay f = 0) : f.n ≤ 30000 ∧ f.m ≤ 30000 ∧ 0 < f.n ∧ 0 < f.m := by
  obtain ⟨hb, _, _⟩ := fmay_zero h
  obtain ⟨_, _, h3, h4⟩ := nw_eq hb
  obtain ⟨_, _, c1, d1⟩ := fmay_n h
  omega
theorem tgG_fresh {f g : Flm} (h1 : fmay f = 0) (hn : f.n ≤ g.n) (hm : f.m ≤ g.m) : FreshSpec Try.prog 14 [.agg f.c, .agg g.c] (tgG tgFF tgEF [.agg f.c, .agg g.c]) := by
  obtain ⟨a, b, c, d⟩ := fmay_small h1
  exact tg_fresh a b c d hn hm
theorem TGok_of {f g : Flm} (h1 : fmay f = 0) (hn : f.n ≤ g.n) (hm : f.m ≤ g.m) : TGok tgFF tgEF f g := (tgG_fresh h1 hn hm).spec rfl rfl
theorem cmerge_spec (f g : Flm) : FSpec Try.prog 8 [.agg f.c, .agg g.c] (fOut (mrgF f g) (mrgE f g)) := by
  have ok := FMok_of cmay_spec
  have ks := k_cons (kS_ok (P := Try.prog) (f := 13) (g := fmG fmE')) (k_cons (kS_ok (P := Try.prog) (f := 14) (g := tgG tgFF tgEF)) k_nil)
  have hev := cm_ev fmE' tgFF tgEF f g
  rw [gate_pos (ok f), fmE_of, fmE_of] at hev
  have bad : ∀ e : Int, e ≠ 0 → mrgE f g = e → ev Try.prog [] [kS Try.prog 13 (fmG fmE'), kS Try.prog 14 (tgG tgFF tgEF)] noL Try.f8 [.agg f.c, .agg g.c] ret = fBad e → FSpec Try.prog 8 [.agg f.c, .agg g.c] (fOut (mrgF f g) (mrgE f g)) := fun e he h1 h2 => by
    have hf : mrgF f g = zF := by unfold mrgF; rw [if_neg (by rw [h1]; exact he)]
    rw [hf, h1]
    exact fspec_bad (gspec e_nil ks Try.func8 (by kernel_rfl) (by kernel_rfl) noL_ok rfl h2)
  by_cases h1 : fmay f = 0
  · rw [h1] at hev
    rw [gate_pos (ok g)] at hev
    by_cases h2 : fmay g = 0
    · rw [h2] at hev
      cases h3 : sideB f g
      · rw [h3] at hev
        obtain ⟨n1, m1, c1, d1⟩ := fmay_n h1
        obtain ⟨n2, m2, c2, d2⟩ := fmay_n h2
        obtain ⟨eW, eH⟩ := sideB_false h3
        rw [eW, eH] at c1 d1
        rw [gate_pos (TGok_of h1 (by omega) (by omega))] at hev
        have e1 : mrgE f g = tgE f g := by unfold mrgE tgE; rw [h1, h2, h3]; rfl
        have e2 : mrgF f g = tgF f g := by
          unfold mrgF tgF
          rw [e1]
          unfold tgE
          by_cases h4 : fmay (mrg f g) = 0
          · rw [h4, if_pos rfl]; exact if_pos rfl
          · rw [beq_false_of_ne h4, if_neg h4]; exact if_neg (by decide)
        rw [e1, e2]
        exact gspec e_nil ks Try.func8 (by kernel_rfl) (by kernel_rfl) noL_ok rfl hev
      · rw [h3] at hev
        exact bad 5 (by decide) (by unfold mrgE; rw [h1, h2, h3]; rfl) hev
    · rw [beq_false_of_ne h2] at hev
      exact bad (fmay g) h2 (by unfold mrgE; rw [h1, beq_false_of_ne h2]; rfl) hev
  · rw [beq_false_of_ne h1] at hev
    exact bad (fmay f) h1 (by unfold mrgE; rw [beq_false_of_ne h1]; rfl) hev
end Go.Proofs.Ytbmpgaghcncfiaa

namespace Go.Proofs.Ytbmpgaghcncfiaa
open Go.Gv

/-! ### Pick -/
def pk0 (c : Int) : Int := cond (decide (c < 0)) (w64 (0 - w64 (c + 1))) c
def pk (c n : Int) : Int := (pk0 c).tmod n
theorem pick_ev (c n : Int) : ev Try.prog [] [] noL Try.f5 [iA c, iA n] ret = cond (decide (c < 0)) (cond ((!(n == 0)) && true) (some (Out.of (iA ((w64 (0 - w64 (c + 1))).tmod n)))) none) (cond ((!(n == 0)) && true) (some (Out.of (iA (c.tmod n)))) none) := by kernel_rfl
theorem pick_spec {c n : Int} (hn : (!(n == 0)) = true) : FSpec Try.prog 5 [iA c, iA n] (iA (pk c n)) := by
  refine gspec e_nil k_nil Try.func5 (by kernel_rfl) (by kernel_rfl) noL_ok rfl ?_
  rw [pick_ev, hn]
  unfold pk pk0
  cases decide (c < 0) <;> rfl
def pkC : List AV → Bool
  | [.x (.int .i64 _), .x (.int .i64 n)] => !(n == 0)
  | _ => false
def pkG (pf : Int → Int → Int) : List AV → AV
  | [.x (.int .i64 c), .x (.int .i64 n)] => iA (pf c n)
  | _ => .any
def kPick (pf : Int → Int → Int) : KEntry := kIf 5 pkC (pkG pf)
theorem kPick_ok : KOk Try.prog (kPick pk) := kIf_ok fun args h => by
  unfold pkC at h
  split at h
  · exact pick_spec h
  · cases h
theorem pk_nat {c : Int} {n : Nat} (hc : (Lit.int .i64 c).wf = true) (hn : 0 < n) : ∃ k : Nat, pk c n = k ∧ k < n := by
  have h0 : ∃ m : Nat, pk0 c = m := by
    have hr : -9223372036854775808 ≤ c ∧ c ≤ 9223372036854775807 := by
      simp [Lit.wf, IntKind.min, IntKind.max, IntKind.signed, IntKind.bits] at hc
      omega
    unfold pk0
    by_cases h : c < 0
    · rw [decide_eq_true h]
      simp only [cond_true]
      rw [w64_id (n := c + 1) (by omega) (by omega), w64_id (by omega) (by omega)]
      exact ⟨(0 - (c + 1)).toNat, by omega⟩
    · rw [decide_eq_false h]
      exact ⟨c.toNat, by simp only [cond_false]; omega⟩
  obtain ⟨m, hm⟩ := h0
  refine ⟨m % n, ?_, Nat.mod_lt _ hn⟩
  unfold pk
  rw [hm, ← Int.ofNat_tmod]
/-! ### Raw -/
def rsl (n : Nat) (hs : Nat → Int) : AV := .sl 1 n fun i => [iA (hs i)]
def rawV (n : Nat) (hs : Nat → Int) (k : Int) : Int := cond ((n : Int) == 0) 0 (hs (k.tmod n).toNat)
theorem raw_ev (n : Nat) (hs : Nat → Int) (k : Int) : ev Try.prog [] [] noL Try.f11 [rsl n hs, iA k] ret =
    cond ((n : Int) == 0) (some (Out.of (iA 0))) (cond ((!((n : Int) == 0)) && true) (cond ((decide (0 ≤ k.tmod n) && decide (k.tmod n < (n : Int))) && true) (some (Out.of (iA (hs (k.tmod n).toNat)))) none) none) := by kernel_rfl
theorem raw_spec {n : Nat} {hs : Nat → Int} {k : Int} (hk : 0 ≤ k) : FSpec Try.prog 11 [rsl n hs, iA k] (iA (rawV n hs k)) := by
  refine gspec e_nil k_nil Try.func11 (by kernel_rfl) (by kernel_rfl) noL_ok rfl ((raw_ev n hs k).trans ?_)
  unfold rawV
  by_cases h : n = 0
  · subst h; rfl
  · have e1 : ((n : Int) == 0) = false := beq_false_of_ne (by omega)
    obtain ⟨m, rfl⟩ : ∃ m : Nat, k = m := ⟨k.toNat, by omega⟩
    have e2 : Int.tmod (m : Int) (n : Int) = ((m % n : Nat) : Int) := (Int.ofNat_tmod m n).symm
    have hlt : m % n < n := Nat.mod_lt _ (by omega)
    rw [e1, e2, dec_nonneg, dec_lt hlt]
    rfl
def rawC : List AV → Bool
  | [_, .x (.int .i64 k)] => decide (0 ≤ k)
  | _ => false
def rawG (rv : Int → Int) : List AV → AV
  | [_, .x (.int .i64 k)] => iA (rv k)
  | _ => .any
noncomputable def kRaw (n : Nat) (hs : Nat → Int) (rv : Int → Int) : KEntry := kIfP 11 (fun args => args.head? = some (rsl n hs)) rawC (rawG rv)
theorem kRaw_ok (n : Nat) (hs : Nat → Int) : KOk Try.prog (kRaw n hs (rawV n hs)) := kIfP_ok fun args hp h => by
  unfold rawC at h
  split at h
  · simp only [List.head?_cons, Option.some.injEq] at hp
    subst hp
    exact raw_spec (of_decide_eq_true h)
  · cases h
end Go.Proofs.Ytbmpgaghcncfiaa

namespace Go.Proofs.Ytbmpgaghcncfiaa
open Go.Gv Go.RowKit Go.ChangeShapes Go.WideShapes Go.ChangeAt

theorem open_num {H : Type} {enc : TypeId × Value → H} {P : Program} {w : World} {r : Reach} {b0 : Nat} {t : TypeId} {v : Value} {d : DataW H} {p : List MemPlace} {k : IntKind} (hu : P.underlying t = some (.int k)) (hk : kds P 1 t = some [.i k]) (hv : Value.okWide P w r b0 t v)
    (h : DataW.Trod enc P w 0 (fun _ => true) true t v d p) : ∃ n, rel (Env.all w) (.x (.int k n)) v ∧ (Lit.int k n).wf = true := by
  have hone : v.cells = #[v] := by
    obtain ⟨n, rfl, _⟩ := okWide_int hu hv
    rfl
  obtain ⟨fuel, hf⟩ := h
  obtain ⟨a, h1, h2⟩ := open_arg hf hk hone
  rw [fitA] at h1
  obtain ⟨n, rfl, hw⟩ := h1
  exact ⟨n, h2, hw⟩
def numOf (el : Nat → List AV) (i : Nat) : Int := match el i with
  | [.x (.int .i64 h)] => h
  | _ => 0
theorem sl_same {E : Env} {sz n : Nat} {el el' : Nat → List AV} {v : Value} (h : rel E (.sl sz n el) v) (he : ∀ i, i < n → el' i = el i) : rel E (.sl sz n el') v := by
  have h : relA _ _ _ := h
  show relA _ _ _
  rw [relA] at h ⊢
  obtain ⟨a, c, h1, h2, h3⟩ := h
  refine ⟨a, c, h1, h2, ?_⟩
  rcases h3 with h3 | ⟨b, o, cs, e, fz, h4, h5, h6, h7⟩
  · exact Or.inl h3
  · exact Or.inr ⟨b, o, cs, e, fz, h4, h5, h6, fun i hi => by rw [he i hi]; exact h7 i hi⟩
theorem fitL_single {k : Kd} {zs : List AV} (h : fitL [k] zs) : ∃ a, zs = [a] ∧ fitA k a := by
  match zs, h with
  | [a], h => exact ⟨a, rfl, (fitL_cons.1 h).1⟩
  | [], h => have := fitL_length h; simp at this
  | _ :: _ :: _, h => have := fitL_length h; simp at this
/-- A row of whole numbers that came in: as many, each a number of 64 bits. -/
theorem open_raw {H : Type} {enc : TypeId × Value → H} {P : Program} {w : World} {r : Reach} {b0 : Nat} {t e : TypeId} {v : Value} {d : DataW H} {p : List MemPlace} (hu : P.underlying t = some (.slice e)) (hk : kds P 2 t = some [.l 1 [.i .i64]]) (hv : Value.okWide P w r b0 t v)
    (h : DataW.Trod enc P w 0 (fun _ => true) true t v d p) : ∃ n hs, rel (Env.all w) (rsl n hs) v ∧ ∀ i, i < n → (Lit.int .i64 (hs i)).wf = true := by
  have hone : v.cells = #[v] := by
    obtain ⟨a, len, cap, rfl⟩ := okWide_slice hu hv
    rfl
  obtain ⟨fuel, hf⟩ := h
  obtain ⟨a, h1, h2⟩ := open_arg hf hk hone
  rw [fitA] at h1
  obtain ⟨n, el, rfl, _, hel⟩ := h1
  have key : ∀ i, i < n → el i = [iA (numOf el i)] ∧ (Lit.int .i64 (numOf el i)).wf = true := fun i hi => by
    obtain ⟨a, ha, hf⟩ := fitL_single (hel i hi)
    rw [fitA] at hf
    obtain ⟨m, rfl, hw⟩ := hf
    have e : numOf el i = m := by unfold numOf; rw [ha]
    rw [e]
    exact ⟨ha, hw⟩
  exact ⟨n, numOf el, sl_same h2 fun i hi => (key i hi).1.symm, fun i hi => (key i hi).2⟩
end Go.Proofs.Ytbmpgaghcncfiaa

namespace Go.Proofs.Ytbmpgaghcncfiaa
open Go.Gv Go.RowKit Go.ChangeShapes Go.WideShapes Go.ChangeAt

def u8Of (el : Nat → List AV) (i : Nat) : Int := match el i with
  | [.x (.int .u8 h)] => h
  | _ => 0
theorem u8_wf {n : Int} (h : (Lit.int .u8 n).wf = true) : 0 ≤ n ∧ n ≤ 255 := by
  simp [Lit.wf, IntKind.min, IntKind.max, IntKind.signed, IntKind.bits] at h
  omega
theorem fit_iw {a : AV} {k : IntKind} (h : fitA (.i k) a) : ∃ n, a = .x (.int k n) ∧ (Lit.int k n).wf = true := by rw [fitA] at h; exact h
/-- A row of whole numbers within something. -/
theorem fit_ints {E : Env} {a : AV} {v : Value} (h : fitA (.l 1 [.i .i64]) a) (hr : rel E a v) : ∃ n g, n ≤ maxLen ∧ (∀ i, i < n → (Lit.int .i64 (g i)).wf = true) ∧ rel E (sI n g) v := by
  rw [fitA] at h
  obtain ⟨n, el, rfl, hn, hel⟩ := h
  have key : ∀ i, i < n → el i = [iA (numOf el i)] ∧ (Lit.int .i64 (numOf el i)).wf = true := fun i hi => by
    obtain ⟨a, ha, hf⟩ := fitL_single (hel i hi)
    obtain ⟨m, rfl, hw⟩ := fit_iw hf
    have e : numOf el i = m := by unfold numOf; rw [ha]
    rw [e]
    exact ⟨ha, hw⟩
  exact ⟨n, numOf el, hn, fun i hi => (key i hi).2, sl_like hr fun i hi => (key i hi).1.symm⟩
/-- A row of bytes within something. -/
theorem fit_bytes {E : Env} {a : AV} {v : Value} (h : fitA (.l 1 [.i .u8]) a) (hr : rel E a v) : ∃ n g, n ≤ maxLen ∧ (∀ i, i < n → 0 ≤ g i ∧ g i ≤ 255) ∧ rel E (sB n g) v := by
  rw [fitA] at h
  obtain ⟨n, el, rfl, hn, hel⟩ := h
  have key : ∀ i, i < n → el i = [yA (u8Of el i)] ∧ (Lit.int .u8 (u8Of el i)).wf = true := fun i hi => by
    obtain ⟨a, ha, hf⟩ := fitL_single (hel i hi)
    obtain ⟨m, rfl, hw⟩ := fit_iw hf
    have e : u8Of el i = m := by unfold u8Of; rw [ha]
    rw [e]
    exact ⟨ha, hw⟩
  exact ⟨n, u8Of el, hn, fun i hi => u8_wf (key i hi).2, sl_like hr fun i hi => (key i hi).1.symm⟩
/-- A row of bytes that came in. -/
theorem open_bytes {H : Type} {enc : TypeId × Value → H} {P : Program} {w : World} {r : Reach} {b0 : Nat} {t e : TypeId} {v : Value} {d : DataW H} {p : List MemPlace} (hu : P.underlying t = some (.slice e)) (hk : kds P 2 t = some [.l 1 [.i .u8]]) (hv : Value.okWide P w r b0 t v)
    (h : DataW.Trod enc P w 0 (fun _ => true) true t v d p) : ∃ n g, n ≤ maxLen ∧ (∀ i, i < n → 0 ≤ g i ∧ g i ≤ 255) ∧ rel (Env.all w) (sB n g) v := by
  have hone : v.cells = #[v] := by
    obtain ⟨a, len, cap, rfl⟩ := okWide_slice hu hv
    rfl
  obtain ⟨fuel, hf⟩ := h
  obtain ⟨a, h1, h2⟩ := open_arg hf hk hone
  exact fit_bytes h1 h2
/-- Four cells, one behind the other. -/
theorem fitL_n3 {k0 k1 k2 : Kd} {zs : List AV} (h : fitL [k0, k1, k2] zs) : ∃ x y z, zs = [x, y, z] ∧ fitA k0 x ∧ fitA k1 y ∧ fitA k2 z := by
  match zs, h with
  | [x, y, z], h =>
    simp only [fitL_cons] at h
    exact ⟨x, y, z, rfl, h.1, h.2.1, h.2.2.1⟩
  | [], h => have := fitL_length h; simp at this
  | [_], h => have := fitL_length h; simp at this
  | [_, _], h => have := fitL_length h; simp at this
  | _ :: _ :: _ :: _ :: _, h => have := fitL_length h; simp at this
theorem fitL_n4 {k0 k1 k2 k3 : Kd} {zs : List AV} (h : fitL [k0, k1, k2, k3] zs) : ∃ x y z u, zs = [x, y, z, u] ∧ fitA k0 x ∧ fitA k1 y ∧ fitA k2 z ∧ fitA k3 u := by
  match zs, h with
  | [x, y, z, u], h =>
    simp only [fitL_cons] at h
    exact ⟨x, y, z, u, rfl, h.1, h.2.1, h.2.2.1, h.2.2.2.1⟩
  | [], h => have := fitL_length h; simp at this
  | [_], h => have := fitL_length h; simp at this
  | [_, _], h => have := fitL_length h; simp at this
  | [_, _, _], h => have := fitL_length h; simp at this
  | _ :: _ :: _ :: _ :: _ :: _, h => have := fitL_length h; simp at this
def l3A (l : Nat → Int) : List AV := [iA (l 0), iA (l 1), iA (l 2)]
/-- Three whole numbers. -/
theorem three_arg {E : Env} {zs : List AV} {v : Value} (h : fitL [.i .i64, .i .i64, .i .i64] zs) (hr : rel E (.agg zs) v) : ∃ l : Nat → Int, (∀ i, i < 3 → (Lit.int .i64 (l i)).wf = true) ∧ rel E (.agg (l3A l)) v := by
  obtain ⟨x, y, z, rfl, h0, h1, h2⟩ := fitL_n3 h
  obtain ⟨a, rfl, wa⟩ := fit_iw h0
  obtain ⟨b, rfl, wb⟩ := fit_iw h1
  obtain ⟨c, rfl, wc⟩ := fit_iw h2
  refine ⟨fun i => [a, b, c].getD i 0, fun i hi => ?_, hr⟩
  match i, hi with
  | 0, _ => exact wa
  | 1, _ => exact wb
  | 2, _ => exact wc
end Go.Proofs.Ytbmpgaghcncfiaa

namespace Go.Proofs.Ytbmpgaghcncfiaa
open Go.Gv

def foS (n : Nat) (hs : Nat → Int) (w h i : Int) (m k : Nat) (el el' : Nat → List AV) : St := mkS 49 [(0, rsl n hs), (1, iA w), (2, iA h), (6, .own 0 0), (7, .own 1 0), (8, iA i)] [.c flmZ, .c [iA w, iA h, .osl 2 1 0 m, .osl 3 1 0 k], .a 3 1 m el, .a 3 1 k el']
def keepFo : List Nat := [0, 1, 2, 6, 7, 8]
def foT : List (Option Nat) := [some 0, some 1, some 2, some 3]
def foTn : List (Option Nat) := [some 0, some 1, some 9, some 11]
def apI (el : Nat → List AV) (m : Nat) (v : Int) : Nat → List AV := fun q => mixL (Nat.blt q m) (el q) [iA v]
def poK (i c : Int) : Int := w64 (w64 (4 * i) + c)
section
variable (n : Nat) (hs : Nat → Int) (pf : Int → Int → Int) (rv : Int → Int) (w h i : Int) (m k : Nat) (el el' : Nat → List AV)
def foN (c : Int) : Int := pf (w64 (rv (poK i c) * 4099)) 300000
def foC : Int := pf (rv (poK i 3)) 6
noncomputable def poG (c : Int) (o : Option Out) : Option Out := gate (some (rsl n hs) = some (rsl n hs)) (cond (decide (0 ≤ poK i c)) o none)
def aCi (m : Nat) : Bool := (apB m 8 || false) && true
theorem fo_step : evC Try.prog [] [kRaw n hs rv, kPick pf] noL (loopAt Try.f6 0) (foS n hs w h i m k el el') (finN keepFo foTn) =
    cond (decide (i < w64 (w * h))) (poG n hs i 0 (cond (aCi m) (poG n hs i 1 (cond (aCi (m + 1)) (poG n hs i 2 (cond (aCi (m + 2)) (poG n hs i 3 (cond (aCi k)
      (some ⟨.normal, foS n hs w h (w64 (i + 1)) (m + 3) (k + 1) (apI (apI (apI el m (foN pf rv i 0)) (m + 1) (foN pf rv i 1)) (m + 2) (foN pf rv i 2)) (apI el' k (foC pf rv i)), .any⟩) none)) none)) none)) none)) none := by kernel_rfl
theorem fo_end : evC Try.prog [] [⟨11, fun _ _ => none⟩, kPick pf] noL (loopAt Try.f6 0) (foS n hs w h i m k el el') (finE keepFo foT) =
    cond (decide (i < w64 (w * h))) none (some ⟨.exit 0, foS n hs w h i m k el el', .any⟩) := by kernel_rfl
end
def flt (n : Nat) (hs : Nat → Int) (q : Nat) : Int := foN pk (rawV n hs) (q / 3 : Nat) (q % 3 : Nat)
def fsh (n : Nat) (hs : Nat → Int) (q : Nat) : Int := foC pk (rawV n hs) (q : Nat)
theorem flt_c (n : Nat) (hs : Nat → Int) {i c : Nat} (h : c < 3) : flt n hs (3 * i + c) = foN pk (rawV n hs) (i : Nat) (c : Nat) := by
  unfold flt
  rw [show (3 * i + c) % 3 = c by omega, show (3 * i + c) / 3 = i by omega]
theorem poK_ok {i c : Nat} (hi : i ≤ 100000) (hc : c < 4) : decide (0 ≤ poK (i : Nat) (c : Nat)) = true := by
  unfold poK
  rw [w64_id (n := 4 * _) (by omega) (by omega), w64_id (by omega) (by omega)]
  exact decide_eq_true (by omega)
theorem aCi_ok {m : Nat} (h : m ≤ 1000000) : aCi m = true := by
  unfold aCi
  rw [apB_t (by omega)]
  rfl
theorem poG_pos {n : Nat} {hs : Nat → Int} {i c : Nat} {o : Option Out} (hi : i ≤ 100000) (hc : c < 4) : poG n hs (i : Nat) (c : Nat) o = o := by
  unfold poG
  rw [gate_pos rfl, poK_ok hi hc, cond_true]
theorem apI_at {el : Nat → List AV} {m : Nat} {v : Int} {g : Nat → Int} (he : ∃ G : Nat → Int, (∀ q, el q = [iA (G q)]) ∧ ∀ q, q < m → G q = g q) (hg : g m = v) : ∃ G : Nat → Int, (∀ q, apI el m v q = [iA (G q)]) ∧ ∀ q, q < m + 1 → G q = g q := by
  obtain ⟨G, h1, h2⟩ := he
  refine ⟨fun q => cond (Nat.blt q m) (G q) v, fun q => ?_, fun q hq => ?_⟩
  · unfold apI
    rw [h1, mixI]
  · show cond (Nat.blt q m) (G q) v = g q
    cases hlt : Nat.blt q m
    · have hge := not_blt hlt
      have : q = m := by omega
      subst this
      exact hg.symm
    · exact h2 q (lt_of_blt hlt)
theorem fo_leads (n : Nat) (hs : Nat → Int) {wd ht : Nat} (hw : wd ≤ 64) (hh : ht ≤ 64) :
    Leads Try.prog (.loop (loopAt Try.f6 0)) (foS n hs (wd : Nat) (ht : Nat) 0 0 0 (fun q => [iA (flt n hs q)]) fun q => [iA (fsh n hs q)]) (.exit 0) (foS n hs (wd : Nat) (ht : Nat) (wd * ht : Nat) (3 * (wd * ht)) (wd * ht) (fun q => [iA (flt n hs q)]) fun q => [iA (fsh n hs q)]) := by
  have hn : wd * ht ≤ 64 * 64 := Nat.mul_le_mul hw hh
  have em : w64 ((wd : Int) * (ht : Int)) = ((wd * ht : Nat) : Int) := by rw [← Int.natCast_mul, w64_id (by omega) (by omega)]
  refine loop_rule (fun i => foS n hs (wd : Nat) (ht : Nat) (i : Nat) (3 * i) i (fun q => [iA (flt n hs q)]) fun q => [iA (fsh n hs q)]) (wd * ht) (.exit 0) _ (by simp) (fun i hi => ?_) ?_
  · have st := fo_step n hs pk (rawV n hs) (wd : Nat) (ht : Nat) (i : Nat) (3 * i) i (fun q => [iA (flt n hs q)]) fun q => [iA (fsh n hs q)]
    rw [em, dec_lt hi, aCi_ok (by omega), aCi_ok (by omega), aCi_ok (by omega), aCi_ok (by omega)] at st
    simp only [cond_true] at st
    have g3 : ∀ o, poG n hs (i : Nat) 3 o = o := fun o => poG_pos (c := 3) (by omega) (by omega)
    have g0 : ∀ o, poG n hs (i : Nat) 0 o = o := fun o => poG_pos (c := 0) (by omega) (by omega)
    have g1 : ∀ o, poG n hs (i : Nat) 1 o = o := fun o => poG_pos (c := 1) (by omega) (by omega)
    have g2 : ∀ o, poG n hs (i : Nat) 2 o = o := fun o => poG_pos (c := 2) (by omega) (by omega)
    rw [g3, g0, g1, g2, w64_next (by omega)] at st
    refine (leads_ev (finN_sub keepFo foTn) e_nil (k_cons (kRaw_ok n hs) (k_cons kPick_ok k_nil)) noL_ok st).sub (Sub.refl _) ?_
    refine sub_same ⟨Or.inl rfl, Or.inl rfl, Or.inr ⟨3, 1, 3 * i + 3, _, _, rfl, rfl, fun q hq => ?_⟩, Or.inr ⟨3, 1, i + 1, _, _, rfl, rfl, fun q hq => ?_⟩, trivial⟩
    · have p0 := apI_at (el := fun q => [iA (flt n hs q)]) (m := 3 * i) (v := foN pk (rawV n hs) (i : Nat) 0) (g := flt n hs) ⟨flt n hs, fun _ => rfl, fun _ _ => rfl⟩ (flt_c n hs (c := 0) (by omega))
      have p1 := apI_at p0 (v := foN pk (rawV n hs) (i : Nat) 1) (flt_c n hs (c := 1) (by omega))
      have p2 := apI_at p1 (v := foN pk (rawV n hs) (i : Nat) 2) (flt_c n hs (c := 2) (by omega))
      obtain ⟨G, h1, h2⟩ := p2
      rw [h1 q, h2 q hq]
    · have p0 := apI_at (el := fun q => [iA (fsh n hs q)]) (m := i) (v := foC pk (rawV n hs) (i : Nat)) (g := fsh n hs) ⟨fsh n hs, fun _ => rfl, fun _ _ => rfl⟩ rfl
      obtain ⟨G, h1, h2⟩ := p0
      rw [h1 q, h2 q hq]
  · refine leads_ev (finE_sub keepFo foT) e_nil (k_cons (kno_ok _) (k_cons kPick_ok k_nil)) noL_ok ((fo_end n hs pk _ _ _ _ _ _ _).trans ?_)
    rw [em, dec_self, cond_false]
noncomputable def foL (n : Nat) (hs : Nat → Int) (w h i' : Int) (m k : Nat) (g g' : Nat → Int) : Nat → Option LFun := oneL 3 (toldC keepFo 1 [(2, 2, 1), (3, 3, 1)] (.a 3 1 0 fun q => [iA (g q)]) [some 0, some 1, none, none] (foS n hs w h 0 0 0 (fun q => [iA (g q)]) fun q => [iA (g q)]) (.exit 0) (foS n hs w h i' m k (fun q => [iA (g q)]) fun q => [iA (g' q)]))
theorem fo_ev (n : Nat) (hs : Nat → Int) (w h i' : Int) (m k : Nat) (g g' : Nat → Int) : ev Try.prog [] [] (foL n hs w h i' m k g g') Try.f6 [rsl n hs, iA w, iA h] ret =
    gate (Sub (foS n hs w h 0 0 0 (fun q => [iA (g q)]) fun q => [iA (g q)]) (foS n hs w h 0 0 0 (fun q => [iA (g q)]) fun q => [iA (g q)])) (some (Out.of (.agg [iA w, iA h, .sl 1 m (fun i => [iA (g (0 + i))]), .sl 1 k fun i => [iA (g' (0 + i))]]))) := by kernel_rfl
def mflm (n : Nat) (hs : Nat → Int) (wd ht : Nat) : Flm := ⟨wd, ht, 3 * (wd * ht), flt n hs, wd * ht, fsh n hs⟩
theorem mflm_spec (n : Nat) (hs : Nat → Int) {wd ht : Nat} (hw : wd ≤ 64) (hh : ht ≤ 64) : FSpec Try.prog 6 [rsl n hs, iA (wd : Nat), iA (ht : Nat)] (.agg (mflm n hs wd ht).c) := by
  have h1 : Leads Try.prog (.loop (loopAt Try.f6 0)) (foS n hs (wd : Nat) (ht : Nat) 0 0 0 (fun q => [iA (flt n hs q)]) fun q => [iA (flt n hs q)]) (.exit 0) (foS n hs (wd : Nat) (ht : Nat) (wd * ht : Nat) (3 * (wd * ht)) (wd * ht) (fun q => [iA (flt n hs q)]) fun q => [iA (fsh n hs q)]) := by
    refine LeadsN.sub (fo_leads n hs hw hh) ?_ (Sub.refl _)
    exact sub_same ⟨Or.inl rfl, Or.inl rfl, Or.inl rfl, Or.inr ⟨3, 1, 0, _, _, rfl, rfl, fun q hq => absurd hq (Nat.not_lt_zero q)⟩, trivial⟩
  have hL := lok_hd (c := bodyOf Try.f6) (i := 3) 1 (by kernel_rfl) (by kernel_rfl) (toldC_sound (keep := keepFo) (r0 := 1) (nils := [(2, 2, 1), (3, 3, 1)]) (nr := .a 3 1 0 fun q => [iA (flt n hs q)]) (τ := [some 0, some 1, none, none]) h1)
  refine gspec e_nil k_nil Try.func6 (by kernel_rfl) (by kernel_rfl) hL rfl ((fo_ev n hs (wd : Nat) (ht : Nat) (wd * ht : Nat) (3 * (wd * ht)) (wd * ht) (flt n hs) (fsh n hs)).trans ?_)
  have e5 : (fun i => [iA (flt n hs (0 + i))]) = fun i => [iA (flt n hs i)] := funext fun i => by rw [Nat.zero_add]
  have e6 : (fun i => [iA (fsh n hs (0 + i))]) = fun i => [iA (fsh n hs i)] := funext fun i => by rw [Nat.zero_add]
  rw [gate_pos (Sub.refl _), e5, e6]
  rfl
end Go.Proofs.Ytbmpgaghcncfiaa
