/-
  Cf3 Cf4 Cf5 Cf6 Cf7 Cg1 Cg2 Fo1 Fo2, one behind the other.
-/
import Derived.Test.YtephoojaflfajaaM3
import Derived.Test.YtephoojaflfajaaGu
import Derived.Test.YtephoojaflfajaaM1
import Derived.Test.YtephoojaflfajaaM2
namespace Go.Proofs.Ytephoojaflfajaa
open Go.Gv

def mkC (n : Int) : Bool := decide (0 ≤ n) && (decide (n ≤ n) && decide (((8 : Nat) : Int) * n ≤ 281474976710656))
theorem mkC_t {n : Int} (h0 : 0 ≤ n) (h1 : n ≤ 100000) : mkC n = true := by
  unfold mkC
  rw [decide_eq_true h0, decide_eq_true (Int.le_refl n), decide_eq_true (show ((8 : Nat) : Int) * n ≤ 281474976710656 by omega)]
  rfl
def nwN (w h : Int) : Nat := (w64 (w64 (3 * w) * h)).toNat
def nwM (w h : Int) : Nat := (w64 (w * h)).toNat
def nwC (w h : Int) : Bool := (mkC (w64 (w64 (3 * w) * h)) || false) && ((mkC (w64 (w * h)) || false) && true)
def nwA (w h : Int) : AV := .tup [.agg [iA w, iA h, .osl 0 1 0 (nwN w h), .osl 1 1 0 (nwM w h)], iA 0]
def nwR (w h : Int) : List Row := [.a 3 1 (nwN w h) (fun _ => [iA 0]), .a 3 1 (nwM w h) (fun _ => [iA 0])]
theorem nw_ev (sd : Int → Bool) (w h : Int) : evG Try.prog [⟨23, gSd sd⟩] [] [] noL Try.f18 [iA w, iA h] [] [some 1, some 2] = cond (cSd sd w h) none (cond (nwC w h) (gout (nwA w h) (nwR w h)) none) := by kernel_rfl
theorem nw_ev0 (sd : Int → Bool) (w h : Int) : ev Try.prog [⟨23, gSd sd⟩] [] noL Try.f18 [iA w, iA h] ret = cond (cSd sd w h) (fBad 4) (cond (nwC w h) (some (Out.of (.tup [.agg [iA w, iA h, sI (nwN w h) fun _ => 0, sI (nwM w h) fun _ => 0], iA 0]))) none) := by kernel_rfl
theorem nw_eq {w h : Int} (hb : fbad w h = false) : w64 (w64 (3 * w) * h) = 3 * (w * h) ∧ w64 (w * h) = w * h ∧ 1 ≤ w * h ∧ w * h ≤ 4096 := by
  obtain ⟨h1, h2, h3, h4⟩ := fbad_false hb
  have hM := mulB (x := w) (y := h) (X := 64) (Y := 64) (by omega) h2 (by omega) h4
  have hM1 := mulB (x := 1) (y := h) (X := w) (Y := h) (by omega) (by omega) (by omega) (by omega)
  refine ⟨?_, w64_id (by omega) (by omega), by omega, by omega⟩
  rw [w64_id (n := 3 * w) (by omega) (by omega), Int.mul_assoc, w64_id (by omega) (by omega)]
theorem nwC_t {w h : Int} (hb : fbad w h = false) : nwC w h = true := by
  obtain ⟨h1, h2, h3, h4⟩ := nw_eq hb
  unfold nwC
  rw [mkC_t (n := w64 (w64 (3 * w) * h)) (by omega) (by omega), mkC_t (n := w64 (w * h)) (by omega) (by omega)]
  rfl
theorem nw_G {w h : Int} (hb : fbad w h = false) : GSpec Try.prog 18 [iA w, iA h] [] (nwA w h) (nwR w h) := by
  refine gspecG (e_cons gSd_ok e_nil) k_nil m_nil Try.func18 (by kernel_rfl) (by kernel_rfl) (fun _ _ _ _ _ h => by cases h) rfl (by kernel_rfl) ((nw_ev isd w h).trans ?_)
  rw [cSd_eq, hb, nwC_t hb]
  rfl
end Go.Proofs.Ytephoojaflfajaa

namespace Go.Proofs.Ytephoojaflfajaa
open Go.Gv

/-! ### Number and number together -/
def smS (n m : Nat) (a b : Nat → Int) (i : Int) (el : Nat → List AV) : St := mkS 29 [(0, sI n a), (1, sI m b), (5, .osl 0 1 0 n), (11, iA n), (12, iA i)] [.a 3 1 n el]
def keepSm : List Nat := [0, 1, 5, 11, 12]
section
variable (n m : Nat) (a b g : Nat → Int) (i : Int)
def smB (n m : Nat) (i : Int) : Bool := (ixB i n || false) && ((ixB i m || false) && ((ixB i n || false) && ((Nat.blt (0 + i.toNat) n || false) && true)))
theorem sm_step : evC Try.prog [] [] noL (loopAt Try.f29 0) (smS n m a b i fun q => [iA (g q)]) (finN keepSm [some 0]) =
    cond (decide (i < n)) (cond (smB n m i) (some ⟨.normal, smS n m a b (w64 (i + 1)) (fun q => mixL (q == 0 + i.toNat) [iA (w64 (a i.toNat + b i.toNat))] [iA (g q)]), .any⟩) none) none := by kernel_rfl
theorem sm_end : evC Try.prog [] [] noL (loopAt Try.f29 0) (smS n m a b i fun q => [iA (g q)]) (finE keepSm [some 0]) =
    cond (decide (i < n)) (cond (smB n m i) none none) (some ⟨.exit 0, smS n m a b i fun q => [iA (g q)], .any⟩) := by kernel_rfl
end
def smG (a b : Nat → Int) (k q : Nat) : Int := if q < k then sumI a b q else 0
theorem smB_t {n m i : Nat} (h : i < n) (h' : i < m) : smB n m (i : Nat) = true := by
  unfold smB
  rw [ixB_t h, ixB_t h', Int.toNat_natCast, Nat.zero_add, blt_t h]
  rfl
theorem sm_leads {n m : Nat} (hn : n ≤ 1000000) (hm : n ≤ m) (a b : Nat → Int) : Leads Try.prog (.loop (loopAt Try.f29 0)) (smS n m a b 0 fun _ => [iA 0]) (.exit 0) (smS n m a b (n : Nat) fun q => [iA (sumI a b q)]) := by
  have h0 : Leads Try.prog (.loop (loopAt Try.f29 0)) (smS n m a b (0 : Nat) fun q => [iA (smG a b 0 q)]) (.exit 0) (smS n m a b (n : Nat) fun q => [iA (smG a b n q)]) := by
    refine loop_rule (fun k => smS n m a b (k : Nat) fun q => [iA (smG a b k q)]) n (.exit 0) _ (by simp) (fun k hk => ?_) ?_
    · have st := sm_step n m a b (smG a b k) (k : Nat)
      rw [dec_lt hk, smB_t hk (by omega), w64_next (by omega), Int.toNat_natCast] at st
      refine (leads_ev (finN_sub _ _) e_nil k_nil noL_ok st).sub (Sub.refl _) ?_
      refine sub_same ⟨Or.inr ⟨3, 1, n, _, _, rfl, rfl, fun q hq => ?_⟩, trivial⟩
      rw [mixI, Nat.zero_add]
      unfold smG
      by_cases hqk : q = k
      · subst hqk
        rw [BEq.rfl, if_pos (by omega)]
        rfl
      · rw [beq_false_of_ne hqk, cond_false]
        by_cases hlt : q < k
        · rw [if_pos hlt, if_pos (by omega)]
        · rw [if_neg hlt, if_neg (by omega)]
    · refine leads_ev (finE_sub _ _) e_nil k_nil noL_ok ((sm_end n m a b (smG a b n) (n : Nat)).trans ?_)
      rw [dec_self, cond_false]
  refine h0.sub (sub_same ⟨Or.inr ⟨3, 1, n, _, _, rfl, rfl, fun q _ => ?_⟩, trivial⟩) (sub_same ⟨Or.inr ⟨3, 1, n, _, _, rfl, rfl, fun q hq => ?_⟩, trivial⟩)
  · unfold smG; rw [if_neg (by omega)]
  · unfold smG; rw [if_pos hq]
noncomputable def smL (n m : Nat) (a b g : Nat → Int) : Nat → Option LFun := oneL 3 (toldF keepSm [some 0] (smS n m a b 0 fun _ => [iA 0]) (.exit 0) (smS n m a b (n : Nat) fun q => [iA (g q)]))
def smC (n : Nat) : Bool := mkC (n : Int) || false
theorem sm_ev (n m : Nat) (a b g : Nat → Int) : evG Try.prog [] [] [] (smL n m a b g) Try.f29 [sI n a, sI m b] [] [some 0] =
    cond (smC n) (gate (Sub (smS n m a b 0 fun _ => [iA 0]) (smS n m a b 0 fun _ => [iA 0])) (gout (.osl 0 1 0 n) [.a 3 1 n fun q => [iA (g q)]])) none := by kernel_rfl
def suV : List AV → AV
  | [.sl _ n _, .sl _ _ _] => .osl 0 1 0 n
  | _ => .any
def suR (pf : PF) : List AV → List Row
  | [.sl _ n el, .sl _ _ el'] => [.a 3 1 n fun q => [iA (pf el el' q)]]
  | _ => []
abbrev SMok (pf : PF) (n m : Nat) (a b : Nat → Int) : Prop := GSpec Try.prog 29 [sI n a, sI m b] [] (suV [sI n a, sI m b]) (suR pf [sI n a, sI m b])
theorem SMok_of {n m : Nat} (hn : n ≤ 30000) (hm : n ≤ m) (a b : Nat → Int) : SMok plE n m a b := by
  have hL := lok_hd (c := bodyOf Try.f29) (i := 3) 0 (by kernel_rfl) (by kernel_rfl) (toldF_sound (keep := keepSm) (τ := [some 0]) (sm_leads (n := n) (m := m) (by omega) hm a b))
  refine gspecG (mem := []) e_nil k_nil m_nil Try.func29 (by kernel_rfl) (by kernel_rfl) hL rfl (by kernel_rfl) ((sm_ev n m a b (sumI a b)).trans ?_)
  have hc : smC n = true := by unfold smC; rw [mkC_t (by omega) (by omega)]; rfl
  rw [hc, gate_pos (Sub.refl _)]
  rfl
/-! ### Two films -/
def tgC (pf : PF) (f g : Flm) : List AV := [iA f.W, iA f.H, .sl 1 f.n fun i => [iA (pf.of f.lt g.lt (0 + i))], .sl 1 f.m fun i => [iA (pf.of f.sh g.sh (0 + i))]]
def tgM (mf : MF) (pf : PF) (f g : Flm) : Int := mf f.W f.H f.n (fun i => [iA (pf.of f.lt g.lt (0 + i))]) f.m (fun i => [iA (pf.of f.sh g.sh (0 + i))])
def tgR (pf : PF) (f g : Flm) : List Row := [.a 3 1 f.n fun q => [iA (pf.of f.lt g.lt q)], .a 3 1 f.m fun q => [iA (pf.of f.sh g.sh q)]]
def lendF (n m : Nat) : Bool := (Nat.ble (0 + n) n && (Nat.ble (0 + m) m && true)) && true
def witF (n m : Nat) : Bool := (Nat.blt 0 (0 + n) && (Nat.blt 0 (0 + m) && true)) && true
noncomputable def smP (p : Prop) : Bool := (propB p && true) || false
theorem tg_ev (mf : MF) (pf : PF) (f g : Flm) : evG Try.prog [] [] [mN Try.prog 29 suV (suR pf), mS Try.prog 8 (fmG mf)] noL Try.f22 [.agg f.c, .agg g.c] [] [some 3, some 4] =
    cond (smP (SMok pf f.n g.n f.lt g.lt) && (smP (SMok pf f.m g.m f.sh g.sh) && true))
      (cond (((propB (FSpec Try.prog 8 [.agg (tgC pf f g)] (fmG mf [.agg (tgC pf f g)])) && lendF f.n f.m) && witF f.n f.m) || false)
        (cond (!(tgM mf pf f g == 0)) (gout (.tup [.agg flmZ, iA 4]) (tgR pf f g)) (gout (.tup [.agg [iA f.W, iA f.H, .osl 0 1 0 f.n, .osl 1 1 0 f.m], iA 0]) (tgR pf f g))) none) none := by kernel_rfl
noncomputable def tgE (f g : Flm) : Int := cond (!(fmay (mrg f g) == 0)) 4 0
noncomputable def tgF (f g : Flm) : Flm := open Classical in if fmay (mrg f g) = 0 then mrg f g else zF
theorem plainR (mf : PF) (f g : Flm) : PlainRows (tgR mf f g) := by
  intro k e sz n el hk i hi
  match k, hk with
  | 0, hk => cases hk; rfl
  | 1, hk => cases hk; rfl
  | k + 2, hk => simp [tgR] at hk
theorem tg_fresh {f g : Flm} (hn : f.n ≤ 30000) (hm : f.m ≤ 30000) (hn0 : 0 < f.n) (hm0 : 0 < f.m) (hn' : f.n ≤ g.n) (hm' : f.m ≤ g.m) : FreshSpec Try.prog 22 [.agg f.c, .agg g.c] (fOut (tgF f g) (tgE f g)) := by
  have ok := FMok_of cmay_spec
  have hev := tg_ev fmE' plE f g
  have eC : tgC plE f g = (mrg f g).c := by
    show ([iA f.W, iA f.H, .sl 1 f.n fun i => [iA (sumI f.lt g.lt (0 + i))], .sl 1 f.m fun i => [iA (sumI f.sh g.sh (0 + i))]] : List AV) = [iA f.W, iA f.H, .sl 1 f.n fun i => [iA (sumI f.lt g.lt i)], .sl 1 f.m fun i => [iA (sumI f.sh g.sh i)]]
    simp only [Nat.zero_add]
  have eM : tgM fmE' plE f g = fmay (mrg f g) := by
    show fmay ⟨f.W, f.H, f.n, fun i => sumI f.lt g.lt (0 + i), f.m, fun i => sumI f.sh g.sh (0 + i)⟩ = _
    simp only [Nat.zero_add]
    rfl
  have s1 : smP (SMok plE f.n g.n f.lt g.lt) = true := by unfold smP; rw [propB_t (SMok_of hn hn' _ _)]; rfl
  have s2 : smP (SMok plE f.m g.m f.sh g.sh) = true := by unfold smP; rw [propB_t (SMok_of hm hm' _ _)]; rfl
  have hl : lendF f.n f.m = true := by unfold lendF; rw [ble_t (by omega), ble_t (by omega)]; rfl
  have hw : witF f.n f.m = true := by unfold witF; rw [blt_t (by omega), blt_t (by omega)]; rfl
  rw [s1, s2, eC, propB_t (ok (mrg f g)), hl, hw, eM] at hev
  have ms := m_cons (mN_ok (P := Try.prog) (f := 29) (g := suV) (m := suR plE)) (m_cons (mS_ok (P := Try.prog) (f := 8) (g := fmG fmE')) m_nil)
  unfold tgF tgE
  by_cases h : fmay (mrg f g) = 0
  · rw [h] at hev ⊢
    have hG := gspecG e_nil k_nil ms Try.func22 (by kernel_rfl) (by kernel_rfl) (fun _ _ _ _ _ h => by cases h) rfl (by kernel_rfl) hev
    have hF := fresh_rows hG (by
      show ownB (tgR plE f g) _ = true
      simp only [ownB, ownBL, tgR, List.getElem?_cons_zero, List.getElem?_cons_succ, iA]
      rw [ble_t (show 0 + f.n ≤ f.n by omega), ble_t (show 0 + f.m ≤ f.m by omega)]
      rfl) (plainR _ _ _)
    have e : frzT (tgR plE f g) (.tup [.agg [iA f.W, iA f.H, .osl 0 1 0 f.n, .osl 1 1 0 f.m], iA 0]) = fOut (mrg f g) 0 := by
      show AV.tup [.agg [iA f.W, iA f.H, .sl 1 f.n fun i => [iA (sumI f.lt g.lt (0 + i))], .sl 1 f.m fun i => [iA (sumI f.sh g.sh (0 + i))]], iA 0] = AV.tup [.agg [iA f.W, iA f.H, .sl 1 f.n fun i => [iA (sumI f.lt g.lt i)], .sl 1 f.m fun i => [iA (sumI f.sh g.sh i)]], iA 0]
      simp only [Nat.zero_add]
    rw [e] at hF
    rw [if_pos rfl]
    exact hF
  · rw [beq_false_of_ne h] at hev ⊢
    have hG := gspecG e_nil k_nil ms Try.func22 (by kernel_rfl) (by kernel_rfl) (fun _ _ _ _ _ h => by cases h) rfl (by kernel_rfl) hev
    have hF := fresh_rows hG (by rfl) (plainR _ _ _)
    rw [if_neg h]
    exact hF.of_res fun _ _ hr => tup2_like hr fun _ => zF_like
end Go.Proofs.Ytephoojaflfajaa

namespace Go.Proofs.Ytephoojaflfajaa
open Go.Gv

abbrev FT : Type := List AV → Flm
abbrev ET : Type := List AV → Int
def tgG (ff : FT) (ef : ET) : List AV → AV := fun args => fOut (ff args) (ef args)
abbrev TGok (ff : FT) (ef : ET) (f g : Flm) : Prop := FSpec Try.prog 22 [.agg f.c, .agg g.c] (tgG ff ef [.agg f.c, .agg g.c])
theorem cm_ev (mf : MF) (ff : FT) (ef : ET) (f g : Flm) : ev Try.prog [] [kS Try.prog 8 (fmG mf), kS Try.prog 22 (tgG ff ef)] noL Try.f11 [.agg f.c, .agg g.c] ret =
    gate (FMok 8 mf f) (cond (!(mf.of f == 0)) (fBad (mf.of f)) (gate (FMok 8 mf g) (cond (!(mf.of g == 0)) (fBad (mf.of g)) (cond (sideB f g) (fBad 5)
      (gate (TGok ff ef f g) (some (Out.of (fOut (ff [.agg f.c, .agg g.c]) (ef [.agg f.c, .agg g.c]))))))))) := by kernel_rfl
def flmOf : List AV → Flm
  | [.x (.int .i64 W), .x (.int .i64 H), .sl _ n el, .sl _ m el'] => ⟨W, H, n, fun i => intOf (el i), m, fun i => intOf (el' i)⟩
  | _ => zF
theorem flmOf_c (f : Flm) : flmOf f.c = f := rfl
noncomputable def tgFF : FT
  | [.agg a, .agg b] => tgF (flmOf a) (flmOf b)
  | _ => zF
noncomputable def tgEF : ET
  | [.agg a, .agg b] => tgE (flmOf a) (flmOf b)
  | _ => 0
theorem fmay_small {f : Flm} (h : fmay f = 0) : f.n ≤ 30000 ∧ f.m ≤ 30000 ∧ 0 < f.n ∧ 0 < f.m := by
  obtain ⟨hb, _, _⟩ := fmay_zero h
  obtain ⟨_, _, h3, h4⟩ := nw_eq hb
  obtain ⟨_, _, c1, d1⟩ := fmay_n h
  omega
theorem tgG_fresh {f g : Flm} (h1 : fmay f = 0) (hn : f.n ≤ g.n) (hm : f.m ≤ g.m) : FreshSpec Try.prog 22 [.agg f.c, .agg g.c] (tgG tgFF tgEF [.agg f.c, .agg g.c]) := by
  obtain ⟨a, b, c, d⟩ := fmay_small h1
  exact tg_fresh a b c d hn hm
theorem TGok_of {f g : Flm} (h1 : fmay f = 0) (hn : f.n ≤ g.n) (hm : f.m ≤ g.m) : TGok tgFF tgEF f g := (tgG_fresh h1 hn hm).spec rfl rfl
theorem cmerge_spec (f g : Flm) : FSpec Try.prog 11 [.agg f.c, .agg g.c] (fOut (mrgF f g) (mrgE f g)) := by
  have ok := FMok_of cmay_spec
  have ks := k_cons (kS_ok (P := Try.prog) (f := 8) (g := fmG fmE')) (k_cons (kS_ok (P := Try.prog) (f := 22) (g := tgG tgFF tgEF)) k_nil)
  have hev := cm_ev fmE' tgFF tgEF f g
  rw [gate_pos (ok f), fmE_of, fmE_of] at hev
  have bad : ∀ e : Int, e ≠ 0 → mrgE f g = e → ev Try.prog [] [kS Try.prog 8 (fmG fmE'), kS Try.prog 22 (tgG tgFF tgEF)] noL Try.f11 [.agg f.c, .agg g.c] ret = fBad e → FSpec Try.prog 11 [.agg f.c, .agg g.c] (fOut (mrgF f g) (mrgE f g)) := fun e he h1 h2 => by
    have hf : mrgF f g = zF := by unfold mrgF; rw [if_neg (by rw [h1]; exact he)]
    rw [hf, h1]
    exact fspec_bad (gspec e_nil ks Try.func11 (by kernel_rfl) (by kernel_rfl) noL_ok rfl h2)
  by_cases h1 : fmay f = 0
  · rw [h1] at hev
    rw [gate_pos (ok g)] at hev
    by_cases h2 : fmay g = 0
    · rw [h2] at hev
      cases h3 : sideB f g
      · rw [h3] at hev
        obtain ⟨n1, m1, c1, d1⟩ := fmay_n h1
        obtain ⟨n2, m2, c2, d2⟩ := fmay_n h2
        obtain ⟨eW, eH⟩ := sideB_false h3
        rw [eW, eH] at c1 d1
        rw [gate_pos (TGok_of h1 (by omega) (by omega))] at hev
        have e1 : mrgE f g = tgE f g := by unfold mrgE tgE; rw [h1, h2, h3]; rfl
        have e2 : mrgF f g = tgF f g := by
          unfold mrgF tgF
          rw [e1]
          unfold tgE
          by_cases h4 : fmay (mrg f g) = 0
          · rw [h4, if_pos rfl]; exact if_pos rfl
          · rw [beq_false_of_ne h4, if_neg h4]; exact if_neg (by decide)
        rw [e1, e2]
        exact gspec e_nil ks Try.func11 (by kernel_rfl) (by kernel_rfl) noL_ok rfl hev
      · rw [h3] at hev
        exact bad 5 (by decide) (by unfold mrgE; rw [h1, h2, h3]; rfl) hev
    · rw [beq_false_of_ne h2] at hev
      exact bad (fmay g) h2 (by unfold mrgE; rw [h1, beq_false_of_ne h2]; rfl) hev
  · rw [beq_false_of_ne h1] at hev
    exact bad (fmay f) h1 (by unfold mrgE; rw [beq_false_of_ne h1]; rfl) hev
end Go.Proofs.Ytephoojaflfajaa

namespace Go.Proofs.Ytephoojaflfajaa
open Go.Gv

abbrev NF : Type := Int → Int → Nat
def nwV (nN nM : NF) : List AV → AV
  | [.x (.int .i64 w), .x (.int .i64 h)] => .tup [.agg [iA w, iA h, .osl 0 1 0 (nN w h), .osl 1 1 0 (nM w h)], iA 0]
  | _ => .any
def nwS (nN nM : NF) : List AV → List Row
  | [.x (.int .i64 w), .x (.int .i64 h)] => [.a 3 1 (nN w h) (fun _ => [iA 0]), .a 3 1 (nM w h) (fun _ => [iA 0])]
  | _ => []
abbrev NWok (nN nM : NF) (w h : Int) : Prop := GSpec Try.prog 18 [iA w, iA h] [] (nwV nN nM [iA w, iA h]) (nwS nN nM [iA w, iA h])
def elT (l : Nat → Int) (i : Nat) : List AV := ((l3 l).drop (0 * 1 + (0 + 0 * 1) + i * 1)).take 1
abbrev UTl (uf : UF) (l : Nat → Int) : Prop := FSpec Try.prog 21 [iA 1099511627776, .sl 1 3 (elT l)] (utG uf [iA 1099511627776, .sl 1 3 (elT l)])
def pxC (f : Flm) (x y : Int) (u : Bool) : Bool := cond (cond (cond (cond (decide (x < 0)) true (decide (x ≥ f.W))) true (decide (y < 0))) true (decide (y ≥ f.H))) true (!u)
def onL (st : Nat) (l : Nat → Int) : Nat → List AV := fun q => mixL (Nat.blt q st) [iA 0] (mixL (Nat.blt q (st + 3)) (spread st (csrc (l3 l) (0 * 1 + (0 + 0 * 1)) 1 3) q) [iA 0])
def onS (A : Nat) : Nat → List AV := fun j => mixL (j == A) [iA 1] [iA 0]
def onC (W H : Int) (n m st A : Nat) (l : Nat → Int) : List AV := [iA W, iA H, .sl 1 n fun i => onL st l (0 + i), .sl 1 m fun i => onS A (0 + i)]
def cpB (lo : Int) (n : Nat) : Bool := (sbB (some lo) none none n || false) && ((Nat.ble 3 (sbN (some lo) none n) && Nat.ble (0 + sbL (some lo) + 3) n || false) && true)
noncomputable def ptT (ff : FT) (ef : ET) (f : Flm) (l : Nat → Int) (a : Int) (n m : Nat) : Option Out :=
  cond (cpB (w64 (3 * a)) n) (cond (ixB a m || false) (cond (Nat.blt (0 + a.toNat) m || false)
    (cond (((propB (FreshSpec Try.prog 22 [.agg f.c, .agg (onC f.W f.H n m (0 + sbL (some (w64 (3 * a)))) (0 + a.toNat) l)] (tgG ff ef [.agg f.c, .agg (onC f.W f.H n m (0 + sbL (some (w64 (3 * a)))) (0 + a.toNat) l)])) && lendF n m) && witF n m) || false)
      (some (Out.of (tgG ff ef [.agg f.c, .agg (onC f.W f.H n m (0 + sbL (some (w64 (3 * a)))) (0 + a.toNat) l)]))) none) none) none) none
theorem cput_ev (mf : MF) (uf : UF) (nN nM : NF) (ff : FT) (ef : ET) (f : Flm) (l : Nat → Int) (x y : Int) :
    evM Try.prog [] [kS Try.prog 8 (fmG mf), kS Try.prog 21 (utG uf)] [mR Try.prog 18 (nwV nN nM) (nwS nN nM), mF Try.prog 22 (tgG ff ef)] noL Try.f6 [.agg f.c, iA x, iA y, .agg (l3 l)] ret =
    gate (FMok 8 mf f) (cond (!(mf.of f == 0)) (fBad (mf.of f)) (gate (UTl uf l) (cond (pxC f x y (uf 1099511627776 3 (elT l))) (fBad 6)
      (cond (propB (NWok nN nM f.W f.H)) (ptT ff ef f l (atP f x y) (nN f.W f.H) (nM f.W f.H)) none)))) := by kernel_rfl
end Go.Proofs.Ytephoojaflfajaa

namespace Go.Proofs.Ytephoojaflfajaa
open Go.Gv

/-! ### Films that are the same as far as they go -/
theorem allI_congr {n : Nat} {p q : Nat → Bool} (h : ∀ i, i < n → p i = q i) : allI n p = allI n q := by
  rcases all_or_first p n with hp | ⟨K, hK, hf, _⟩
  · rw [allI_t hp, allI_t fun i hi => (h i hi).symm.trans (hp i hi)]
  · rw [allI_f hK hf, allI_f hK ((h K hK).symm.trans hf)]
theorem fmay_congr {f g : Flm} (hW : f.W = g.W) (hH : f.H = g.H) (en : f.n = g.n) (em : f.m = g.m) (hl : ∀ i, i < f.n → f.lt i = g.lt i) (hs : ∀ i, i < f.m → f.sh i = g.sh i) : fmay f = fmay g := by
  have e1 : fcnt f = fcnt g := by unfold fcnt; rw [hW, hH, en, em]
  have e2 : fval f = fval g := by
    unfold fval
    rw [allI_congr (p := fun i => !ofB (f.lt i) 1099511627776) (q := fun i => !ofB (g.lt i) 1099511627776) fun i hi => by rw [hl i hi], allI_congr (p := fun i => !ofB (f.sh i) 1048576) (q := fun i => !ofB (g.sh i) 1048576) fun i hi => by rw [hs i hi], en, em]
  unfold fmay
  rw [hW, hH, e1, e2]
theorem flm_like {E : Env} {f g : Flm} {v : Value} (hW : f.W = g.W) (hH : f.H = g.H) (en : f.n = g.n) (em : f.m = g.m) (hl : ∀ i, i < f.n → f.lt i = g.lt i) (hs : ∀ i, i < f.m → f.sh i = g.sh i) (h : rel E (.agg f.c) v) : rel E (.agg g.c) v := by
  obtain ⟨W, H, n, lt, m, sh⟩ := f
  obtain ⟨W', H', n', lt', m', sh'⟩ := g
  simp only at hW hH en em hl hs
  subst hW
  subst hH
  subst en
  subst em
  obtain ⟨vs, h1, h2⟩ := rel_agg.1 h
  refine rel_agg.2 ⟨vs, h1, ?_⟩
  obtain ⟨u0, t0, e0, r0, h2⟩ := rels_cons.1 h2
  obtain ⟨u1, t1, e1, r1, h2⟩ := rels_cons.1 h2
  obtain ⟨u2, t2, e2, r2, h2⟩ := rels_cons.1 h2
  obtain ⟨u3, t3, e3, r3, h2⟩ := rels_cons.1 h2
  exact rels_cons.2 ⟨u0, t0, e0, r0, rels_cons.2 ⟨u1, t1, e1, r1, rels_cons.2 ⟨u2, t2, e2, sl_like r2 (fun i hi => congrArg (fun z => [iA z]) (hl i hi).symm), rels_cons.2 ⟨u3, t3, e3, sl_like r3 (fun i hi => congrArg (fun z => [iA z]) (hs i hi).symm), h2⟩⟩⟩⟩
theorem ofB_false {x M : Int} (h : ofB x M = false) : 0 ≤ x ∧ x ≤ M := by
  unfold ofB at h
  by_cases h1 : x < 0 <;> by_cases h2 : x > M <;> simp [h1, h2] at h
  omega
theorem fval_all {f : Flm} (h : fval f = true) : (∀ i, i < f.n → 0 ≤ f.lt i ∧ f.lt i ≤ 1099511627776) ∧ ∀ i, i < f.m → 0 ≤ f.sh i ∧ f.sh i ≤ 1048576 := by
  unfold fval at h
  simp only [Bool.and_eq_true] at h
  exact ⟨fun i hi => ofB_false (by simpa using allI_all h.1 i hi), fun i hi => ofB_false (by simpa using allI_all h.2 i hi)⟩
/-! ### A film with one shot -/
def oneF (W H : Int) (n m A : Nat) (l : Nat → Int) : Flm := ⟨W, H, n, fun q => if 3 * A ≤ q ∧ q < 3 * A + 3 then l (q - 3 * A) else 0, m, fun j => if j = A then 1 else 0⟩
theorem blt_f {a b : Nat} (h : b ≤ a) : Nat.blt a b = false := by
  cases hb : Nat.blt a b
  · rfl
  · have : a < b := Nat.le_of_ble_eq_true hb
    omega
theorem onL_eq (A : Nat) (l : Nat → Int) (q : Nat) : onL (3 * A) l q = [iA (if 3 * A ≤ q ∧ q < 3 * A + 3 then l (q - 3 * A) else 0)] := by
  have e : csrc (l3 l) (0 * 1 + (0 + 0 * 1)) 1 3 = [[iA (l 0)], [iA (l 1)], [iA (l 2)]] := rfl
  unfold onL
  rw [e]
  simp only [spread]
  rw [mixI, mixI, mixI, mixI]
  by_cases h1 : q < 3 * A
  · rw [blt_t h1, cond_true, if_neg (by omega)]
  · rw [blt_f (by omega), cond_false]
    by_cases h2 : q < 3 * A + 3
    · rw [blt_t h2, cond_true, if_pos (by omega)]
      by_cases h3 : q < 3 * A + 1
      · rw [blt_t h3, cond_true, show q - 3 * A = 0 by omega]
      · rw [blt_f (by omega), cond_false]
        by_cases h4 : q < 3 * A + 1 + 1
        · rw [blt_t h4, cond_true, show q - 3 * A = 1 by omega]
        · rw [blt_f (by omega), cond_false, show q - 3 * A = 2 by omega]
    · rw [blt_f (show 3 * A + 3 ≤ q by omega), cond_false, if_neg (by omega)]
theorem onC_eq (W H : Int) (n m A : Nat) (l : Nat → Int) : onC W H n m (3 * A) A l = (oneF W H n m A l).c := by
  have e1 : (fun i => onL (3 * A) l (0 + i)) = fun i => [iA ((oneF W H n m A l).lt i)] := funext fun i => by rw [Nat.zero_add, onL_eq]; rfl
  have e2 : (fun i => onS A (0 + i)) = fun i => [iA ((oneF W H n m A l).sh i)] := funext fun i => by
    rw [Nat.zero_add]
    unfold onS
    rw [mixI]
    show [iA (cond (i == A) 1 0)] = [iA (if i = A then 1 else 0)]
    by_cases h : i = A
    · subst h; rw [BEq.rfl, if_pos rfl]; rfl
    · rw [beq_false_of_ne h, if_neg h]; rfl
  unfold onC
  rw [e1, e2]
  rfl
theorem UTl_of (l : Nat → Int) : UTl utF l := by
  refine FSpec.of_args (ut_spec (most := 1099511627776) (n := 3) (g := fun i => intOf (elT l i)) (by omega)) fun E vs h => ?_
  obtain ⟨u0, t0, e0, r0, h⟩ := rels_cons.1 h
  obtain ⟨u1, t1, e1, r1, h⟩ := rels_cons.1 h
  refine rels_cons.2 ⟨u0, t0, e0, r0, rels_cons.2 ⟨u1, t1, e1, sl_like r1 fun i hi => ?_, h⟩⟩
  match i, hi with
  | 0, _ => rfl
  | 1, _ => rfl
  | 2, _ => rfl
theorem utl_eq (l : Nat → Int) : utF 1099511627776 3 (elT l) = !ltB l := by
  show allI 3 (fun i => !ofB (intOf (elT l i)) 1099511627776) = !ltB l
  unfold ltB
  have g0 : intOf (elT l 0) = l 0 := rfl
  have g1 : intOf (elT l 1) = l 1 := rfl
  have g2 : intOf (elT l 2) = l 2 := rfl
  cases h0 : ofB (l 0) 1099511627776
  · cases h1 : ofB (l 1) 1099511627776
    · cases h2 : ofB (l 2) 1099511627776
      · refine allI_t fun i hi => ?_
        match i, hi with
        | 0, _ => rw [g0, h0]; rfl
        | 1, _ => rw [g1, h1]; rfl
        | 2, _ => rw [g2, h2]; rfl
      · exact allI_f (K := 2) (by omega) (by rw [g2, h2]; rfl)
    · exact allI_f (K := 1) (by omega) (by rw [g1, h1]; rfl)
  · exact allI_f (K := 0) (by omega) (by rw [g0, h0]; rfl)
theorem pxC_eq (f : Flm) (x y : Int) (u : Bool) : pxC f x y u = cond (pxB f x y) true (!u) := by
  unfold pxC pxB
  cases decide (x < 0) <;> cases decide (x ≥ f.W) <;> cases decide (y < 0) <;> cases decide (y ≥ f.H) <;> rfl
theorem cpB_t {A n : Nat} (hA : A ≤ 1000000) (h : 3 * A + 3 ≤ n) : cpB (w64 (3 * ((A : Nat) : Int))) n = true := by
  rw [w64_id (n := 3 * ((A : Nat) : Int)) (by omega) (by omega)]
  unfold cpB sbB sbN sbL
  simp only [Option.getD_some, Option.getD_none]
  rw [decide_eq_true (show (0 : Int) ≤ 3 * ((A : Nat) : Int) by omega), decide_eq_true (show 3 * ((A : Nat) : Int) ≤ (n : Int) by omega), decide_eq_true (Int.le_refl (n : Int)), ble_t (show 3 ≤ ((n : Int) - 3 * ((A : Nat) : Int)).toNat by omega), ble_t (show 0 + (3 * ((A : Nat) : Int)).toNat + 3 ≤ n by omega)]
  rfl
theorem cput_spec (f : Flm) (x y : Int) (l : Nat → Int) : FSpec Try.prog 6 [.agg f.c, iA x, iA y, .agg (l3 l)] (fOut (putR f x y l) (putE f x y l)) := by
  have ok := FMok_of cmay_spec
  have ks := k_cons (kS_ok (P := Try.prog) (f := 8) (g := fmG fmE')) (k_cons (kS_ok (P := Try.prog) (f := 21) (g := utG utF)) k_nil)
  have ms := m_cons (mR_ok (P := Try.prog) (f := 18) (g := nwV nwN nwM) (m := nwS nwN nwM)) (m_cons (mF_ok (P := Try.prog) (f := 22) (g := tgG tgFF tgEF)) m_nil)
  have hev := cput_ev fmE' utF nwN nwM tgFF tgEF f l x y
  rw [gate_pos (ok f), fmE_of, gate_pos (UTl_of l), utl_eq, pxC_eq] at hev
  have bad : ∀ e : Int, e ≠ 0 → putE f x y l = e → evM Try.prog [] [kS Try.prog 8 (fmG fmE'), kS Try.prog 21 (utG utF)] [mR Try.prog 18 (nwV nwN nwM) (nwS nwN nwM), mF Try.prog 22 (tgG tgFF tgEF)] noL Try.f6 [.agg f.c, iA x, iA y, .agg (l3 l)] ret = fBad e → FSpec Try.prog 6 [.agg f.c, iA x, iA y, .agg (l3 l)] (fOut (putR f x y l) (putE f x y l)) := fun e he h1 h2 => by
    have hf : putR f x y l = zF := by unfold putR; rw [if_neg (by rw [h1]; exact he)]
    rw [hf, h1]
    exact fspec_bad (gspecM e_nil ks ms Try.func6 (by kernel_rfl) (by kernel_rfl) noL_ok rfl h2)
  by_cases h1 : fmay f = 0
  · rw [h1] at hev
    cases h2 : pxB f x y
    · cases h3 : ltB l
      · rw [h2, h3] at hev
        obtain ⟨eA, hAm, hAn, hA⟩ := at_eq h1 h2
        obtain ⟨hb, _, hv⟩ := fmay_zero h1
        obtain ⟨vl, vs⟩ := fval_all hv
        obtain ⟨n1, m1, c1, d1⟩ := fmay_n h1
        obtain ⟨w1, w2, w3, w4⟩ := nw_eq hb
        have en : nwN f.W f.H = f.n := by unfold nwN; omega
        have em : nwM f.W f.H = f.m := by unfold nwM; omega
        have hN : NWok nwN nwM f.W f.H := nw_G hb
        unfold ptT at hev
        have el : 0 + sbL (some (w64 (3 * ((atN f x y : Nat) : Int)))) = 3 * atN f x y := by
          rw [w64_id (n := 3 * ((atN f x y : Nat) : Int)) (by omega) (by omega)]
          unfold sbL
          simp only [Option.getD_some]
          omega
        have lf : lendF f.n f.m = true := by unfold lendF; rw [ble_t (by omega), ble_t (by omega)]; rfl
        have wf : witF f.n f.m = true := by unfold witF; rw [blt_t (by omega), blt_t (by omega)]; rfl
        rw [propB_t hN, en, em, eA, Int.toNat_natCast, el, Nat.zero_add, onC_eq, cpB_t hA hAn, ixB_t hAm, blt_t hAm, propB_t (tgG_fresh (f := f) (g := oneF f.W f.H f.n f.m (atN f x y) l) h1 (Nat.le_refl _) (Nat.le_refl _)), lf, wf] at hev
        have hF : FSpec Try.prog 6 [.agg f.c, iA x, iA y, .agg (l3 l)] (fOut (tgF f (oneF f.W f.H f.n f.m (atN f x y) l)) (tgE f (oneF f.W f.H f.n f.m (atN f x y) l))) := gspecM e_nil ks ms Try.func6 (by kernel_rfl) (by kernel_rfl) noL_ok rfl hev
        have sl : ∀ i, i < f.n → (mrg f (oneF f.W f.H f.n f.m (atN f x y) l)).lt i = (putF f x y l).lt i := fun i hi => by
          show w64 (f.lt i + (if 3 * atN f x y ≤ i ∧ i < 3 * atN f x y + 3 then l (i - 3 * atN f x y) else 0)) = pt3 f.lt l (atN f x y) 3 i
          unfold pt3
          by_cases hc : 3 * atN f x y ≤ i ∧ i < 3 * atN f x y + 3
          · rw [if_pos hc, if_pos hc]
          · have := vl i hi
            rw [if_neg hc, if_neg hc, Int.add_zero, w64_id (by omega) (by omega)]
        have ss : ∀ i, i < f.m → (mrg f (oneF f.W f.H f.n f.m (atN f x y) l)).sh i = (putF f x y l).sh i := fun i hi => by
          show w64 (f.sh i + (if i = atN f x y then 1 else 0)) = if i = atN f x y then w64 (f.sh i + 1) else f.sh i
          by_cases hc : i = atN f x y
          · rw [if_pos hc, if_pos hc]
          · have := vs i hi
            rw [if_neg hc, if_neg hc, Int.add_zero, w64_id (by omega) (by omega)]
        have em2 : fmay (mrg f (oneF f.W f.H f.n f.m (atN f x y) l)) = fmay (putF f x y l) := fmay_congr rfl rfl rfl rfl sl ss
        have e1 : putE f x y l = tgE f (oneF f.W f.H f.n f.m (atN f x y) l) := by unfold putE tgE; rw [h1, h2, h3, em2]; rfl
        rw [e1]
        refine FSpec.of_res hF fun E v hr => tup2_like hr fun u hu => ?_
        unfold tgF at hu
        unfold putR
        by_cases h4 : fmay (putF f x y l) = 0
        · rw [if_pos (em2.trans h4)] at hu
          have e0 : putE f x y l = 0 := by rw [e1]; unfold tgE; rw [em2, h4]; rfl
          rw [if_pos e0]
          exact flm_like (f := mrg f (oneF f.W f.H f.n f.m (atN f x y) l)) (g := putF f x y l) rfl rfl rfl rfl sl ss hu
        · rw [if_neg (fun hc => h4 (em2.symm.trans hc))] at hu
          have e0 : putE f x y l = 4 := by rw [e1]; unfold tgE; rw [em2, beq_false_of_ne h4]; rfl
          rw [if_neg (by rw [e0]; decide)]
          exact hu
      · rw [h2, h3] at hev
        exact bad 6 (by decide) (by unfold putE; rw [h1, h2, h3]; rfl) hev
    · rw [h2] at hev
      exact bad 6 (by decide) (by unfold putE; rw [h1, h2]; rfl) hev
  · rw [beq_false_of_ne h1] at hev
    exact bad (fmay f) h1 (by unfold putE; rw [beq_false_of_ne h1]; rfl) hev
end Go.Proofs.Ytephoojaflfajaa

namespace Go.Proofs.Ytephoojaflfajaa
open Go.Gv

theorem mx_eq {f : Flm} {I : Nat} (h : 0 ≤ f.sh I) : mxI (f.sh I) = tcN f I := by
  unfold mxI tcN
  by_cases h0 : f.sh I = 0
  · rw [h0]; rfl
  · rw [beq_false_of_ne h0, cond_false]
    split <;> omega
theorem cshade_e (l : Int) : FSpec Try.prog 13 [iA l] (yA (shI l)) := cshade_spec l
theorem ci_leads {f : Flm} (br : Int) {I : Nat} (hI : I < 4096) (h0 : 0 ≤ f.sh I) : Leads Try.prog (.loop (loopAt Try.f15 1)) (ciS f br (I : Nat) (f.sh I) 0 (fun c => f.lt (3 * I + c)) (4 * I) fun q => [yA (tpx f br q)]) (.exit 2)
    (ciS f br (I : Nat) (f.sh I) 3 (fun c => f.lt (3 * I + c)) (4 * I + 3) fun q => [yA (tpx f br q)]) := by
  refine loop_rule (fun c => ciS f br (I : Nat) (f.sh I) (c : Nat) (fun c => f.lt (3 * I + c)) (4 * I + c) fun q => [yA (tpx f br q)]) 3 (.exit 2) _ (by simp) (fun c hc => ?_) ?_
  · have st := ci_step shI f br (I : Nat) (f.sh I) (c : Nat) (fun c => f.lt (3 * I + c)) (4 * I + c) fun q => [yA (tpx f br q)]
    rw [decide_eq_true (show ((c : Nat) : Int) < 3 by omega), ixB_t hc, mx_eq h0, tcN_ne, apB_t (by omega), w64_next (by omega), Int.toNat_natCast] at st
    refine (leads_ev (finN_sub _ _) (e_cons (gSh_ok cshade_e) e_nil) k_nil noL_ok st).sub (Sub.refl _) ?_
    exact sub_same ⟨Or.inl rfl, Or.inl rfl, Or.inr ⟨5, 1, 4 * I + c + 1, _, _, rfl, rfl, fun q hq => (app_el hq (tpx_c hc)).symm ▸ rfl⟩, trivial⟩
  · exact leads_ev (finE_sub _ _) (e_cons (gSh_ok cshade_e) e_nil) k_nil noL_ok (ci_end shI f br _ _ _ _ _)
theorem ciA_eq {f : Flm} (br : Int) {I : Nat} (hI : I < 4096) (m : Nat) (el : Nat → List AV) : ciA f br (I : Nat) m el = ciS f br (I : Nat) (f.sh I) 0 (fun c => f.lt (3 * I + c)) m el := by
  have e1 : lo3 ((I : Nat) : Int) = 3 * ((I : Nat) : Int) := w64_id (by omega) (by omega)
  have e2 : hi3 ((I : Nat) : Int) = 3 * ((I : Nat) : Int) + 3 := by
    unfold hi3
    rw [w64_id (n := ((I : Nat) : Int) + 1) (by omega) (by omega), w64_id (by omega) (by omega)]
    omega
  have e3 : sbN (some (lo3 ((I : Nat) : Int))) (some (hi3 ((I : Nat) : Int))) f.n = 3 := by
    unfold sbN
    rw [e1, e2]
    simp only [Option.getD_some]
    omega
  have e4 : sbL (some (lo3 ((I : Nat) : Int))) = 3 * I := by
    unfold sbL
    rw [e1]
    simp only [Option.getD_some]
    omega
  unfold ciA
  rw [e3, e4, Int.toNat_natCast]
  rfl
theorem sb3_t {n I : Nat} (h : 3 * I + 3 ≤ n) (hI : I < 4096) : sbB (some (lo3 ((I : Nat) : Int))) (some (hi3 ((I : Nat) : Int))) none n = true := by
  have e1 : lo3 ((I : Nat) : Int) = 3 * ((I : Nat) : Int) := w64_id (by omega) (by omega)
  have e2 : hi3 ((I : Nat) : Int) = 3 * ((I : Nat) : Int) + 3 := by
    unfold hi3
    rw [w64_id (n := ((I : Nat) : Int) + 1) (by omega) (by omega), w64_id (by omega) (by omega)]
    omega
  unfold sbB
  rw [e1, e2]
  simp only [Option.getD_some, Option.getD_none]
  rw [decide_eq_true (show (0 : Int) ≤ 3 * ((I : Nat) : Int) by omega), decide_eq_true (show 3 * ((I : Nat) : Int) ≤ 3 * ((I : Nat) : Int) + 3 by omega), decide_eq_true (show 3 * ((I : Nat) : Int) + 3 ≤ (n : Int) by omega), decide_eq_true (Int.le_refl (n : Int))]
  rfl
theorem gCv_ok : EOk Try.prog ⟨27, gSh cvI⟩ := gSh_ok cv_spec
theorem co_leads {f : Flm} (hn : f.n = 3 * f.m) (hm : f.m ≤ 4096) (hs : ∀ i, i < f.m → 0 ≤ f.sh i) (br : Int) : Leads Try.prog (.loop (loopAt Try.f15 0)) (coS f br 0 0 fun q => [yA (tpx f br q)]) (.exit 0) (coS f br (f.m : Nat) (4 * f.m) fun q => [yA (tpx f br q)]) := by
  refine loop_rule (fun I => coS f br (I : Nat) (4 * I) fun q => [yA (tpx f br q)]) f.m (.exit 0) _ (by simp) (fun I hI => ?_) ?_
  · have hL := lok_hd (c := loopAt Try.f15 0) (i := 11) 0 (by kernel_rfl) (by kernel_rfl) (toldF_sound (keep := keepCi) (τ := c3) (ci_leads (f := f) br (show I < 4096 by omega) (hs I hI)))
    have st := co_step cvI f br (I : Nat) (f.sh I) (fun c => f.lt (3 * I + c)) (4 * I) (4 * I + 3) (fun q => [yA (tpx f br q)]) fun q => [yA (tpx f br q)]
    rw [dec_lt hI, ixB_t hI, sb3_t (by omega) (by omega), ciA_eq br (by omega), gate_pos (Sub.refl _), apB_t (by omega), w64_next (by omega)] at st
    refine (leads_ev (finN_sub _ _) (e_cons gCv_ok e_nil) k_nil hL st).sub (Sub.refl _) ?_
    exact sub_same ⟨Or.inl rfl, Or.inl rfl, Or.inr ⟨5, 1, 4 * I + 3 + 1, _, _, rfl, rfl, fun q hq => (app_el hq tpx_3).symm ▸ rfl⟩, trivial⟩
  · refine leads_ev (finE_sub _ _) (e_cons gCv_ok e_nil) k_nil (lok_none 11) ((co_end cvI f br (f.m : Nat) _ _).trans ?_)
    rw [dec_self, cond_false]
theorem ctone_spec (f : Flm) (br : Int) : FSpec Try.prog 15 [.agg f.c, iA br] (pOut (tonP f br) (tonE f br)) := by
  have ok := FMok_of cmay_spec
  have ks := k_cons (kS_ok (P := Try.prog) (f := 8) (g := fmG fmE')) k_nil
  by_cases h : tonE f br = 0
  · have hp : tonP f br = tpic f br := by unfold tonP; rw [if_pos h]
    have h1 : fmay f = 0 ∧ brB br = false := by
      unfold tonE at h
      cases h1 : fmay f == 0
      · rw [h1] at h
        have : fmay f = 0 := h
        rw [this] at h1; cases h1
      · rw [h1] at h
        cases h2 : brB br
        · exact ⟨eq_of_beq h1, rfl⟩
        · rw [h2] at h; cases h
    obtain ⟨n1, m1, c1, d1⟩ := fmay_n h1.1
    obtain ⟨hb, _, hv⟩ := fmay_zero h1.1
    obtain ⟨a, b, c, d⟩ := fbad_false hb
    obtain ⟨_, vs⟩ := fval_all hv
    have hM2 := mulB (x := f.W) (y := f.H) (X := 64) (Y := 64) (by omega) b (by omega) d
    have hL := lok_hd (c := bodyOf Try.f15) (i := 8) 1 (by kernel_rfl) (by kernel_rfl) (toldF_sound (keep := keepCo) (τ := c3) (co_leads (f := f) (by omega) (by omega) (fun i hi => (vs i hi).1) br))
    rw [hp, h]
    refine gspec e_nil ks Try.func15 (by kernel_rfl) (by kernel_rfl) hL rfl ((ct_ev fmE' f br (f.m : Nat) (4 * f.m) (tpx f br)).trans ?_)
    have e5 : (fun i => [yA (tpx f br (0 + i))]) = fun i => [yA (tpx f br i)] := funext fun i => by rw [Nat.zero_add]
    have hk : mk0 (w64 (4 * (f.m : Int))) = true := by
      rw [w64_id (by omega) (by omega)]
      unfold mk0
      rw [decide_eq_true (show (0 : Int) ≤ 4 * (f.m : Int) by omega), decide_eq_true (show ((1 : Nat) : Int) * (4 * (f.m : Int)) ≤ 281474976710656 by omega)]
      rfl
    have hsub : Sub (coS f br 0 0 fun _ => [yA 0]) (coS f br 0 0 fun q => [yA (tpx f br q)]) := sub_same ⟨Or.inl rfl, Or.inl rfl, Or.inr ⟨5, 1, 0, _, _, rfl, rfl, fun q hq => absurd hq (Nat.not_lt_zero q)⟩, trivial⟩
    rw [gate_pos (ok f), fmE_of, h1.1, h1.2, hk, gate_pos hsub, e5]
    rfl
  · have hp : tonP f br = zP := by unfold tonP; rw [if_neg h]
    rw [hp]
    refine pspec_bad (gspec e_nil ks Try.func15 (by kernel_rfl) (by kernel_rfl) (lok_none 8) rfl ((ct_ev0 fmE' f br).trans ?_))
    rw [gate_pos (ok f), fmE_of]
    unfold tonE at h ⊢
    cases h1 : fmay f == 0
    · rfl
    · rw [h1] at h
      cases h2 : brB br
      · rw [h2] at h; exact absurd rfl h
      · rfl
end Go.Proofs.Ytephoojaflfajaa

namespace Go.Proofs.Ytephoojaflfajaa
open Go.Gv

theorem cnew_spec (w h : Int) : FSpec Try.prog 18 [iA w, iA h] (fOut (newF w h) (newE w h)) := by
  have hev := nw_ev0 isd w h
  rw [cSd_eq] at hev
  unfold newF newE
  cases hb : fbad w h
  · rw [hb, nwC_t hb] at hev
    simp only [cond_false, Bool.false_eq_true, if_false]
    exact gspec (e_cons gSd_ok e_nil) k_nil Try.func18 (by kernel_rfl) (by kernel_rfl) noL_ok rfl hev
  · rw [hb] at hev
    simp only [cond_true, if_true]
    exact fspec_bad (gspec (e_cons gSd_ok e_nil) k_nil Try.func18 (by kernel_rfl) (by kernel_rfl) noL_ok rfl hev)
theorem tok : FilmOk := ⟨cmay_spec, cput_spec, cmerge_spec, cshade_spec, ctone_spec, cnew_spec⟩
end Go.Proofs.Ytephoojaflfajaa

namespace Go.Proofs.Ytephoojaflfajaa
open Go.Gv

def foS (n : Nat) (hs : Nat → Int) (w h i : Int) (m k : Nat) (el el' : Nat → List AV) : St := mkS 49 [(0, rsl n hs), (1, iA w), (2, iA h), (6, .own 0 0), (7, .own 1 0), (8, iA i)] [.c flmZ, .c [iA w, iA h, .osl 2 1 0 m, .osl 3 1 0 k], .a 3 1 m el, .a 3 1 k el']
def keepFo : List Nat := [0, 1, 2, 6, 7, 8]
def foT : List (Option Nat) := [some 0, some 1, some 2, some 3]
def foTn : List (Option Nat) := [some 0, some 1, some 9, some 11]
def apI (el : Nat → List AV) (m : Nat) (v : Int) : Nat → List AV := fun q => mixL (Nat.blt q m) (el q) [iA v]
def poK (i c : Int) : Int := w64 (w64 (4 * i) + c)
section
variable (n : Nat) (hs : Nat → Int) (pf : Int → Int → Int) (rv : Int → Int) (w h i : Int) (m k : Nat) (el el' : Nat → List AV)
def foN (c : Int) : Int := pf (w64 (rv (poK i c) * 4099)) 300000
def foC : Int := pf (rv (poK i 3)) 6
noncomputable def poG (c : Int) (o : Option Out) : Option Out := gate (some (rsl n hs) = some (rsl n hs)) (cond (decide (0 ≤ poK i c)) o none)
def aCi (m : Nat) : Bool := (apB m 8 || false) && true
theorem fo_step : evC Try.prog [] [kRaw n hs rv, kPick pf] noL (loopAt Try.f20 0) (foS n hs w h i m k el el') (finN keepFo foTn) =
    cond (decide (i < w64 (w * h))) (poG n hs i 0 (cond (aCi m) (poG n hs i 1 (cond (aCi (m + 1)) (poG n hs i 2 (cond (aCi (m + 2)) (poG n hs i 3 (cond (aCi k)
      (some ⟨.normal, foS n hs w h (w64 (i + 1)) (m + 3) (k + 1) (apI (apI (apI el m (foN pf rv i 0)) (m + 1) (foN pf rv i 1)) (m + 2) (foN pf rv i 2)) (apI el' k (foC pf rv i)), .any⟩) none)) none)) none)) none)) none := by kernel_rfl
theorem fo_end : evC Try.prog [] [⟨28, fun _ _ => none⟩, kPick pf] noL (loopAt Try.f20 0) (foS n hs w h i m k el el') (finE keepFo foT) =
    cond (decide (i < w64 (w * h))) none (some ⟨.exit 0, foS n hs w h i m k el el', .any⟩) := by kernel_rfl
end
def flt (n : Nat) (hs : Nat → Int) (q : Nat) : Int := foN pk (rawV n hs) (q / 3 : Nat) (q % 3 : Nat)
def fsh (n : Nat) (hs : Nat → Int) (q : Nat) : Int := foC pk (rawV n hs) (q : Nat)
theorem flt_c (n : Nat) (hs : Nat → Int) {i c : Nat} (h : c < 3) : flt n hs (3 * i + c) = foN pk (rawV n hs) (i : Nat) (c : Nat) := by
  unfold flt
  rw [show (3 * i + c) % 3 = c by omega, show (3 * i + c) / 3 = i by omega]
theorem poK_ok {i c : Nat} (hi : i ≤ 100000) (hc : c < 4) : decide (0 ≤ poK (i : Nat) (c : Nat)) = true := by
  unfold poK
  rw [w64_id (n := 4 * _) (by omega) (by omega), w64_id (by omega) (by omega)]
  exact decide_eq_true (by omega)
theorem aCi_ok {m : Nat} (h : m ≤ 1000000) : aCi m = true := by
  unfold aCi
  rw [apB_t (by omega)]
  rfl
theorem poG_pos {n : Nat} {hs : Nat → Int} {i c : Nat} {o : Option Out} (hi : i ≤ 100000) (hc : c < 4) : poG n hs (i : Nat) (c : Nat) o = o := by
  unfold poG
  rw [gate_pos rfl, poK_ok hi hc, cond_true]
theorem apI_at {el : Nat → List AV} {m : Nat} {v : Int} {g : Nat → Int} (he : ∃ G : Nat → Int, (∀ q, el q = [iA (G q)]) ∧ ∀ q, q < m → G q = g q) (hg : g m = v) : ∃ G : Nat → Int, (∀ q, apI el m v q = [iA (G q)]) ∧ ∀ q, q < m + 1 → G q = g q := by
  obtain ⟨G, h1, h2⟩ := he
  refine ⟨fun q => cond (Nat.blt q m) (G q) v, fun q => ?_, fun q hq => ?_⟩
  · unfold apI
    rw [h1, mixI]
  · show cond (Nat.blt q m) (G q) v = g q
    cases hlt : Nat.blt q m
    · have hge := not_blt hlt
      have : q = m := by omega
      subst this
      exact hg.symm
    · exact h2 q (lt_of_blt hlt)
theorem fo_leads (n : Nat) (hs : Nat → Int) {wd ht : Nat} (hw : wd ≤ 64) (hh : ht ≤ 64) :
    Leads Try.prog (.loop (loopAt Try.f20 0)) (foS n hs (wd : Nat) (ht : Nat) 0 0 0 (fun q => [iA (flt n hs q)]) fun q => [iA (fsh n hs q)]) (.exit 0) (foS n hs (wd : Nat) (ht : Nat) (wd * ht : Nat) (3 * (wd * ht)) (wd * ht) (fun q => [iA (flt n hs q)]) fun q => [iA (fsh n hs q)]) := by
  have hn : wd * ht ≤ 64 * 64 := Nat.mul_le_mul hw hh
  have em : w64 ((wd : Int) * (ht : Int)) = ((wd * ht : Nat) : Int) := by rw [← Int.natCast_mul, w64_id (by omega) (by omega)]
  refine loop_rule (fun i => foS n hs (wd : Nat) (ht : Nat) (i : Nat) (3 * i) i (fun q => [iA (flt n hs q)]) fun q => [iA (fsh n hs q)]) (wd * ht) (.exit 0) _ (by simp) (fun i hi => ?_) ?_
  · have st := fo_step n hs pk (rawV n hs) (wd : Nat) (ht : Nat) (i : Nat) (3 * i) i (fun q => [iA (flt n hs q)]) fun q => [iA (fsh n hs q)]
    rw [em, dec_lt hi, aCi_ok (by omega), aCi_ok (by omega), aCi_ok (by omega), aCi_ok (by omega)] at st
    simp only [cond_true] at st
    have g3 : ∀ o, poG n hs (i : Nat) 3 o = o := fun o => poG_pos (c := 3) (by omega) (by omega)
    have g0 : ∀ o, poG n hs (i : Nat) 0 o = o := fun o => poG_pos (c := 0) (by omega) (by omega)
    have g1 : ∀ o, poG n hs (i : Nat) 1 o = o := fun o => poG_pos (c := 1) (by omega) (by omega)
    have g2 : ∀ o, poG n hs (i : Nat) 2 o = o := fun o => poG_pos (c := 2) (by omega) (by omega)
    rw [g3, g0, g1, g2, w64_next (by omega)] at st
    refine (leads_ev (finN_sub keepFo foTn) e_nil (k_cons (kRaw_ok n hs) (k_cons kPick_ok k_nil)) noL_ok st).sub (Sub.refl _) ?_
    refine sub_same ⟨Or.inl rfl, Or.inl rfl, Or.inr ⟨3, 1, 3 * i + 3, _, _, rfl, rfl, fun q hq => ?_⟩, Or.inr ⟨3, 1, i + 1, _, _, rfl, rfl, fun q hq => ?_⟩, trivial⟩
    · have p0 := apI_at (el := fun q => [iA (flt n hs q)]) (m := 3 * i) (v := foN pk (rawV n hs) (i : Nat) 0) (g := flt n hs) ⟨flt n hs, fun _ => rfl, fun _ _ => rfl⟩ (flt_c n hs (c := 0) (by omega))
      have p1 := apI_at p0 (v := foN pk (rawV n hs) (i : Nat) 1) (flt_c n hs (c := 1) (by omega))
      have p2 := apI_at p1 (v := foN pk (rawV n hs) (i : Nat) 2) (flt_c n hs (c := 2) (by omega))
      obtain ⟨G, h1, h2⟩ := p2
      rw [h1 q, h2 q hq]
    · have p0 := apI_at (el := fun q => [iA (fsh n hs q)]) (m := i) (v := foC pk (rawV n hs) (i : Nat)) (g := fsh n hs) ⟨fsh n hs, fun _ => rfl, fun _ _ => rfl⟩ rfl
      obtain ⟨G, h1, h2⟩ := p0
      rw [h1 q, h2 q hq]
  · refine leads_ev (finE_sub keepFo foT) e_nil (k_cons (kno_ok _) (k_cons kPick_ok k_nil)) noL_ok ((fo_end n hs pk _ _ _ _ _ _ _).trans ?_)
    rw [em, dec_self, cond_false]
noncomputable def foL (n : Nat) (hs : Nat → Int) (w h i' : Int) (m k : Nat) (g g' : Nat → Int) : Nat → Option LFun := oneL 3 (toldC keepFo 1 [(2, 2, 1), (3, 3, 1)] (.a 3 1 0 fun q => [iA (g q)]) [some 0, some 1, none, none] (foS n hs w h 0 0 0 (fun q => [iA (g q)]) fun q => [iA (g q)]) (.exit 0) (foS n hs w h i' m k (fun q => [iA (g q)]) fun q => [iA (g' q)]))
theorem fo_ev (n : Nat) (hs : Nat → Int) (w h i' : Int) (m k : Nat) (g g' : Nat → Int) : ev Try.prog [] [] (foL n hs w h i' m k g g') Try.f20 [rsl n hs, iA w, iA h] ret =
    gate (Sub (foS n hs w h 0 0 0 (fun q => [iA (g q)]) fun q => [iA (g q)]) (foS n hs w h 0 0 0 (fun q => [iA (g q)]) fun q => [iA (g q)])) (some (Out.of (.agg [iA w, iA h, .sl 1 m (fun i => [iA (g (0 + i))]), .sl 1 k fun i => [iA (g' (0 + i))]]))) := by kernel_rfl
def mflm (n : Nat) (hs : Nat → Int) (wd ht : Nat) : Flm := ⟨wd, ht, 3 * (wd * ht), flt n hs, wd * ht, fsh n hs⟩
theorem mflm_spec (n : Nat) (hs : Nat → Int) {wd ht : Nat} (hw : wd ≤ 64) (hh : ht ≤ 64) : FSpec Try.prog 20 [rsl n hs, iA (wd : Nat), iA (ht : Nat)] (.agg (mflm n hs wd ht).c) := by
  have h1 : Leads Try.prog (.loop (loopAt Try.f20 0)) (foS n hs (wd : Nat) (ht : Nat) 0 0 0 (fun q => [iA (flt n hs q)]) fun q => [iA (flt n hs q)]) (.exit 0) (foS n hs (wd : Nat) (ht : Nat) (wd * ht : Nat) (3 * (wd * ht)) (wd * ht) (fun q => [iA (flt n hs q)]) fun q => [iA (fsh n hs q)]) := by
    refine LeadsN.sub (fo_leads n hs hw hh) ?_ (Sub.refl _)
    exact sub_same ⟨Or.inl rfl, Or.inl rfl, Or.inl rfl, Or.inr ⟨3, 1, 0, _, _, rfl, rfl, fun q hq => absurd hq (Nat.not_lt_zero q)⟩, trivial⟩
  have hL := lok_hd (c := bodyOf Try.f20) (i := 3) 1 (by kernel_rfl) (by kernel_rfl) (toldC_sound (keep := keepFo) (r0 := 1) (nils := [(2, 2, 1), (3, 3, 1)]) (nr := .a 3 1 0 fun q => [iA (flt n hs q)]) (τ := [some 0, some 1, none, none]) h1)
  refine gspec e_nil k_nil Try.func20 (by kernel_rfl) (by kernel_rfl) hL rfl ((fo_ev n hs (wd : Nat) (ht : Nat) (wd * ht : Nat) (3 * (wd * ht)) (wd * ht) (flt n hs) (fsh n hs)).trans ?_)
  have e5 : (fun i => [iA (flt n hs (0 + i))]) = fun i => [iA (flt n hs i)] := funext fun i => by rw [Nat.zero_add]
  have e6 : (fun i => [iA (fsh n hs (0 + i))]) = fun i => [iA (fsh n hs i)] := funext fun i => by rw [Nat.zero_add]
  rw [gate_pos (Sub.refl _), e5, e6]
  rfl
end Go.Proofs.Ytephoojaflfajaa

namespace Go.Proofs.Ytephoojaflfajaa
open Go.Gv

abbrev FF : Type := Nat → (Nat → List AV) → Int → Int → Flm
def ffG (ff : FF) : List AV → AV
  | [.sl _ n el, .x (.int .i64 w), .x (.int .i64 h)] => .agg (ff n el w h).c
  | _ => .any
def ffE : FF := fun n el w h => mflm n (fun i => intOf (el i)) w.toNat h.toNat
def rEl (hs : Nat → Int) : Nat → List AV := fun i => [iA (hs i)]
abbrev FOok (ff : FF) (n : Nat) (hs : Nat → Int) (w h : Int) : Prop := FSpec Try.prog 20 [rsl n hs, iA w, iA h] (.agg (ff n (rEl hs) w h).c)
theorem FOok_of (n : Nat) (hs : Nat → Int) {w h : Nat} (hw : w ≤ 64) (hh : h ≤ 64) : FOok ffE n hs (w : Nat) (h : Nat) := mflm_spec n hs hw hh
def l3c (a : Int) (i : Nat) : Int := [a, 5, 65536].getD i 0
section
variable (pf : Int → Int → Int) (ff : FF) (n n' : Nat) (hs hs' : Nat → Int) (w h x y l b : Int)
def w1 (w : Int) (k : Int) : Int := w64 (1 + pf w k)
theorem fd_ev : ev Try.prog [] [kPick pf, kS Try.prog 20 (ffG ff), kS Try.prog 3 fun _ => bA true] noL Try.f4 [rsl n hs, rsl n' hs', iA w, iA h, iA x, iA y, iA l, iA b] ret =
    cond (decide (w64 ((n : Int) + (n' : Int)) > 512)) (some (Out.of (bA true))) (gate (FOok ff n hs (w1 pf w 5) (w1 pf h 5)) (gate (FOok ff n' hs' (w1 pf w 5) (w1 pf h 5)) (cond (!(w1 pf w 5 == 0)) (cond (!(w1 pf h 5 == 0))
      (gate (FSpec Try.prog 3 (aF (ff n (rEl hs) (w1 pf w 5) (w1 pf h 5)) (ff n' (rEl hs') (w1 pf w 5) (w1 pf h 5)) (pf x (w1 pf w 5)) (pf y (w1 pf h 5)) (l3c (pf l 70000)) (pf b 3000) (w1 pf w 5) (w1 pf h 5)) (bA true)) (some (Out.of (bA true)))) none) none))) := by kernel_rfl
end
theorem made_law (ok : FilmOk) (n n' : Nat) (hs hs' : Nat → Int) {w h : Int} (hw : (Lit.int .i64 w).wf = true) (hh : (Lit.int .i64 h).wf = true) (x y l b : Int) : FSpec Try.prog 4 [rsl n hs, rsl n' hs', iA w, iA h, iA x, iA y, iA l, iA b] (bA true) := by
  obtain ⟨p, ep, hp⟩ := pk_nat (n := 5) hw (by omega)
  obtain ⟨q, eq, hq⟩ := pk_nat (n := 5) hh (by omega)
  have e1 : w1 pk w 5 = ((1 + p : Nat) : Int) := by
    have ep' : pk w 5 = (p : Int) := ep
    unfold w1
    rw [ep', w64_id (by omega) (by omega)]; omega
  have e2 : w1 pk h 5 = ((1 + q : Nat) : Int) := by
    have eq' : pk h 5 = (q : Int) := eq
    unfold w1
    rw [eq', w64_id (by omega) (by omega)]; omega
  refine gspec e_nil (k_cons kPick_ok (k_cons kS_ok (k_cons kS_ok k_nil))) Try.func4 (by kernel_rfl) (by kernel_rfl) noL_ok rfl ((fd_ev pk ffE n n' hs hs' w h x y l b).trans ?_)
  rw [e1, e2, gate_pos (FOok_of n hs (by omega) (by omega)), gate_pos (FOok_of n' hs' (by omega) (by omega)), beq_false_of_ne (show ((1 + p : Nat) : Int) ≠ 0 by omega), beq_false_of_ne (show ((1 + q : Nat) : Int) ≠ 0 by omega), gate_pos (film_law ok _ _ _ _ _ _ _ _)]
  cases decide (w64 ((n : Int) + (n' : Int)) > 512) <;> rfl
end Go.Proofs.Ytephoojaflfajaa
