/-
  A picture, half of it, half of that, .. down to one pixel: what the code gives.
-/
import Derived.Test.YtkibceiellnggaaSk17
namespace Go.Proofs.Ytkibceiellnggaa
open Go.Gv

theorem mixPic_t (p q : Pic) : mixL true p.c q.c = p.c := by kernel_rfl
theorem mixPic_f (p q : Pic) : mixL false p.c q.c = q.c := by kernel_rfl
theorem haT_eq {p : Pic} {wd ht : Nat} (h : PG p wd ht) : haT p = !(decide (wd = 1 ∧ ht = 1)) := by
  have := h.w1; have := h.h1
  unfold haT
  rw [h.W, h.H]
  by_cases h1 : wd = 1
  · by_cases h2 : ht = 1
    · rw [decide_eq_false (show ¬ ((wd : Int) > 1) by omega), decide_eq_false (show ¬ ((ht : Int) > 1) by omega), decide_eq_true ⟨h1, h2⟩]; rfl
    · rw [decide_eq_false (show ¬ ((wd : Int) > 1) by omega), decide_eq_true (show ((ht : Int) > 1) by omega), decide_eq_false (show ¬ (wd = 1 ∧ ht = 1) from fun hc => h2 hc.2)]; rfl
  · rw [decide_eq_true (show ((wd : Int) > 1) by omega), decide_eq_false (show ¬ (wd = 1 ∧ ht = 1) from fun hc => h1 hc.1)]; rfl
theorem ha_leads {p : Pic} {wd ht : Nat} (h : PG p wd ht) {K : Nat} (hK : K ≤ 6) (hend : hwk wd K = 1 ∧ hwk ht K = 1) (hbe : ∀ k, k < K → ¬ (hwk wd k = 1 ∧ hwk ht k = 1)) :
    Leads Try.prog (.loop (loopAt Try.f14 0)) (haS p 1 fun j => (hp p wd ht j).c) (.exit 0) (haS (hp p wd ht K) (K + 1) fun j => (hp p wd ht j).c) := by
  refine loop_rule (fun k => haS (hp p wd ht k) (k + 1) fun j => (hp p wd ht j).c) K (.exit 0) _ (by simp) (fun k hk => ?_) ?_
  · have st := ha_step (hp p wd ht k) (hp p wd ht (k + 1)) (k + 1) fun j => (hp p wd ht j).c
    rw [haT_eq (hp_pg h k), decide_eq_false (hbe k hk), gate_pos rfl, Nat.ble_eq_true_of_le (show (k + 1 + 1) * 40 ≤ 140737488355328 by omega)] at st
    simp only [BEq.rfl, Bool.and_true, Bool.not_false, cond_true] at st
    refine (leads_ev (finN_sub [5, 6] [some 0, some 3]) e_nil (k_cons (kfix_ok (half_spec (hp_pg h k))) k_nil) noL_ok st).sub (Sub.refl _) ?_
    refine sub_same ⟨Or.inl rfl, Or.inr ⟨24, 3, k + 1 + 1, _, _, rfl, rfl, fun q hq => ?_⟩, trivial⟩
    cases hlt : Nat.blt q (k + 1)
    · have hge := not_blt hlt
      have : q = k + 1 := by omega
      subst this
      rw [mixPic_f]
    · rw [mixPic_t]
  · refine leads_ev (finX_sub [5, 6] [some 0, some 1]) e_nil (k_cons (kno_ok _) k_nil) noL_ok ((ha_end (hp p wd ht K) (K + 1) _).trans ?_)
    rw [haT_eq (hp_pg h K), decide_eq_true hend]
    rfl
noncomputable def hsL (p q : Pic) (m : Nat) (f : Nat → Pic) : Nat → Option LFun := oneL 6 (toldF [5, 6] [some 1, some 2] (haS p 1 fun j => (f j).c) (.exit 0) (haS q m fun j => (f j).c))
theorem hs_ev (mf : Int → Int → Nat → Int) (p q : Pic) (m : Nat) (f : Nat → Pic) : ev Try.prog [⟨9, gPm mf⟩] [kfix 26 [sB p.n p.px] (sB p.n p.px)] (hsL p q m f) Try.f14 [.agg p.c] ret =
    cond (!(mf p.W p.H p.n == 0)) (some (Out.of (.tup [.x (.slice none 0 0), iA (mf p.W p.H p.n)])))
      (gate ([sB p.n p.px] = [sB p.n p.px]) (gate (Sub (haS p 1 (chunk p.c 3)) (haS p 1 fun j => (f j).c)) (some (Out.of (.tup [.sl 3 m fun j => (f (0 + j)).c, iA 0]))))) := by kernel_rfl
theorem hs_ev0 (mf : Int → Int → Nat → Int) (p : Pic) : ev Try.prog [⟨9, gPm mf⟩] [⟨26, fun _ _ => none⟩] (oneL 6 fun _ _ => none) Try.f14 [.agg p.c] ret =
    cond (!(mf p.W p.H p.n == 0)) (some (Out.of (.tup [.x (.slice none 0 0), iA (mf p.W p.H p.n)]))) none := by kernel_rfl
theorem halves_bad {p : Pic} (h : mayS p.W p.H p.n ≠ 0) : FSpec Try.prog 14 [.agg p.c] (.tup [.x (.slice none 0 0), iA (mayS p.W p.H p.n)]) := by
  refine gspec (e_cons (gPm_ok may_spec) e_nil) (k_cons (kno_ok _) k_nil) Try.func14 (by kernel_rfl) (by kernel_rfl) (lok_none 6) rfl ((hs_ev0 mayS p).trans ?_)
  rw [beq_false_of_ne h]
  rfl
theorem halves_good {p : Pic} {wd ht : Nat} (h : PG p wd ht) {K : Nat} (hK : K ≤ 6) (hend : hwk wd K = 1 ∧ hwk ht K = 1) (hbe : ∀ k, k < K → ¬ (hwk wd k = 1 ∧ hwk ht k = 1)) : FSpec Try.prog 14 [.agg p.c] (.tup [.sl 3 (K + 1) fun j => (hp p wd ht j).c, iA 0]) := by
  have hL := lok_hd (c := bodyOf Try.f14) (i := 6) 0 (by kernel_rfl) (by kernel_rfl) (toldF_sound (keep := [5, 6]) (τ := [some 1, some 2]) (ha_leads h hK hend hbe))
  have hn := h.n_le
  have hn0 : 0 < p.n := by
    have h1 := h.at_lt (x := 0) (y := 0) (k := 0) (by have := h.w1; omega) (by have := h.h1; omega) (by omega)
    omega
  refine gspec (e_cons (gPm_ok may_spec) e_nil) (k_cons (kfix_ok (cl_spec p.px hn0 (by omega))) k_nil) Try.func14 (by kernel_rfl) (by kernel_rfl) hL rfl ((hs_ev mayS p (hp p wd ht K) (K + 1) (hp p wd ht)).trans ?_)
  have e5 : (fun j => (hp p wd ht (0 + j)).c) = fun j => (hp p wd ht j).c := funext fun i => by rw [Nat.zero_add]
  have hs : Sub (haS p 1 (chunk p.c 3)) (haS p 1 fun j => (hp p wd ht j).c) := by
    refine sub_same ⟨Or.inl rfl, Or.inr ⟨24, 3, 1, _, _, rfl, rfl, fun q hq => ?_⟩, trivial⟩
    have : q = 0 := by omega
    subst this
    rfl
  rw [may_zero h, gate_pos rfl, gate_pos hs, e5]
  rfl
end Go.Proofs.Ytkibceiellnggaa
