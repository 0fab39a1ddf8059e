/-
  The law of skins holds: as a contract.
-/
import Derived.Test.YtkibceiellnggaaSk21
namespace Go.Proofs.Ytkibceiellnggaa
open Go.Gv

theorem strB_eq (g : Nat → Int) : ((strF 4 (four4 (g 0) (g 1) (g 2) (g 3))).toList == (strF 4 g).toList) = true := by
  have e : strF 4 (four4 (g 0) (g 1) (g 2) (g 3)) = strF 4 g := strF_congr fun i hi => by
    have : i = 0 ∨ i = 1 ∨ i = 2 ∨ i = 3 := by omega
    rcases this with rfl | rfl | rfl | rfl <;> rfl
  rw [e, BEq.rfl]
theorem law_spec {p : Pic} (hpx : ∀ i, i < p.n → 0 ≤ p.px i ∧ p.px i ≤ 255) (w u v : Int) : FSpec Try.prog 3 [.agg p.c, iA w, iA u, iA v] (.x (.bool true)) := by
  by_cases hh : p.n ≤ 1600
  · have hv := hv_spec p
    rw [decide_eq_false (show ¬ ((p.n : Int) > 1600) by omega)] at hv
    by_cases hm : mayS p.W p.H p.n = 0
    · have hg := may_pg hm hpx
      obtain ⟨K, hK, hend, hbe⟩ := hK_ex hg.w1 hg.w64 hg.h1 hg.h64
      have hL := lok_hd (c := bodyOf Try.f3) (i := 16) 0 (by kernel_rfl) (by kernel_rfl) (toldF_sound (keep := [8, 10, 15, 16, 17]) (τ := [some 4]) (lw_leads hg hK hend hbe))
      have hmc := may_spec p.W p.H 1 p.n fun i => [yA (p.px i)]
      have hmr := mayR_spec p.W p.H 1 p.n fun i => [yA (p.px i)]
      rw [hm] at hmc hmr
      have rest := k_cons (kfix_ok (half_good hg)) (k_cons (kfix_ok (halfR_good hg)) (k_cons (kfix_ok (same_spec (hpic p p.W.toNat p.H.toNat))) (k_cons (kfix_ok (halves_good hg hK hend hbe)) k_nil)))
      have rest2 := k_cons (kfix_ok hmc) (k_cons (kfix_ok hmr) rest)
      by_cases ha : matS p.W p.H p.n w u v = 0
      · refine gspec e_nil (k_cons (kfix_ok hv) (k_cons (kfix_ok (at_good ha hpx)) (k_cons (kfix_ok (atR_good ha hpx)) rest2))) Try.func3 (by kernel_rfl) (by kernel_rfl) hL rfl ((law_ev0 p _ w u v _ _ _ _ _ (K + 1) _ _).trans ?_)
        rw [strB_eq]
        simp only [gate_pos trivial, gate_pos (Sub.refl _), Bool.not_true, cond_false]
      · have hb1 := at_bad ha
        have hb2 := atR_bad' ha
        have hv3 : matS p.W p.H p.n w u v = 3 ∨ matS p.W p.H p.n w u v = 1 := by
          revert ha
          unfold matS
          rw [hm]
          cases wayS w <;> cases uvS u v <;> simp
        rcases hv3 with hv3 | hv3
        · rw [hv3] at hb1 hb2
          refine gspec e_nil (k_cons (kfix_ok hv) (k_cons (kfix_ok hb1) (k_cons (kfix_ok hb2) rest2))) Try.func3 (by kernel_rfl) (by kernel_rfl) hL rfl ((law_ev3 p _ w u v _ (K + 1) _).trans ?_)
          simp only [gate_pos trivial, gate_pos (Sub.refl _)]
        · rw [hv3] at hb1 hb2
          refine gspec e_nil (k_cons (kfix_ok hv) (k_cons (kfix_ok hb1) (k_cons (kfix_ok hb2) rest2))) Try.func3 (by kernel_rfl) (by kernel_rfl) hL rfl ((law_ev1 p _ w u v _ (K + 1) _).trans ?_)
          simp only [gate_pos trivial, gate_pos (Sub.refl _)]
    · have hmt : matS p.W p.H p.n w u v = mayS p.W p.H p.n := by
        unfold matS
        rw [beq_false_of_ne hm]
        rfl
      have hmc := may_spec p.W p.H 1 p.n fun i => [yA (p.px i)]
      have hmr := mayR_spec p.W p.H 1 p.n fun i => [yA (p.px i)]
      have hb1 := at_bad (p := p) (w := w) (u := u) (v := v) (by rw [hmt]; exact hm)
      have hb2 := atR_bad' (p := p) (w := w) (u := u) (v := v) (by rw [hmt]; exact hm)
      have hb3 := half_bad' hm
      have hb4 := halfR_bad' hm
      have hb5 := halves_bad' (fun _ => zP) hm
      rw [hmt] at hb1 hb2
      have hv3 : mayS p.W p.H p.n = 4 ∨ mayS p.W p.H p.n = 5 := by
        revert hm
        unfold mayS
        cases badS p.W p.H <;> cases !(((p.n : Nat) : Int) == w64 (w64 (p.W * p.H) * 4)) <;> simp
      rcases hv3 with hv3 | hv3
      · rw [hv3] at hb1 hb2 hb3 hb4 hb5 hmc hmr
        refine gspec e_nil (k_cons (kfix_ok hv) (k_cons (kfix_ok hb1) (k_cons (kfix_ok hb2) (k_cons (kfix_ok hmc) (k_cons (kfix_ok hmr) (k_cons (kfix_ok hb3) (k_cons (kfix_ok hb4) (k_cons (kfix_ok (same_spec zP)) (k_cons (kfix_ok hb5) k_nil))))))))) Try.func3 (by kernel_rfl) (by kernel_rfl) (lok_none 16) rfl ((law_ev4 p zP w u v _).trans ?_)
        simp only [gate_pos trivial]
      · rw [hv3] at hb1 hb2 hb3 hb4 hb5 hmc hmr
        refine gspec e_nil (k_cons (kfix_ok hv) (k_cons (kfix_ok hb1) (k_cons (kfix_ok hb2) (k_cons (kfix_ok hmc) (k_cons (kfix_ok hmr) (k_cons (kfix_ok hb3) (k_cons (kfix_ok hb4) (k_cons (kfix_ok (same_spec zP)) (k_cons (kfix_ok hb5) k_nil))))))))) Try.func3 (by kernel_rfl) (by kernel_rfl) (lok_none 16) rfl ((law_ev5 p zP w u v _).trans ?_)
        simp only [gate_pos trivial]
  · have hv := hv_spec p
    rw [decide_eq_true (show ((p.n : Int) > 1600) by omega)] at hv
    refine gspec e_nil (k_cons (kfix_ok hv) (k_cons (kno_ok _) k_nil)) Try.func3 (by kernel_rfl) (by kernel_rfl) (lok_none 16) rfl ((law_evH p w u v).trans ?_)
    exact gate_pos rfl
end Go.Proofs.Ytkibceiellnggaa
