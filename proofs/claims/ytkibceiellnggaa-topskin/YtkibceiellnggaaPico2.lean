/-
  The answer's pictures that are made of raw numbers: what they are.
-/
import Derived.Test.YtkibceiellnggaaPico
namespace Go.Proofs.Ytkibceiellnggaa
open Go.Gv

def ppx (n : Nat) (hs : Nat → Int) (q : Nat) : Int := IntKind.u8.wrap (cond (q % 4 == 3) (poC pk (rawV n hs) (q / 4 : Nat)) (poN pk (rawV n hs) (q / 4 : Nat) (q % 4 : Nat)))
theorem ppx3 (n : Nat) (hs : Nat → Int) (i : Nat) : ppx n hs (4 * i + 3) = IntKind.u8.wrap (poC pk (rawV n hs) (i : Nat)) := by
  unfold ppx
  rw [show (4 * i + 3) % 4 = 3 by omega, show (4 * i + 3) / 4 = i by omega]
  rfl
theorem ppxc (n : Nat) (hs : Nat → Int) (i c : Nat) (h : c < 3) : ppx n hs (4 * i + c) = IntKind.u8.wrap (poN pk (rawV n hs) (i : Nat) (c : Nat)) := by
  unfold ppx
  rw [show (4 * i + c) % 4 = c by omega, show (4 * i + c) / 4 = i by omega, beq_false_of_ne (show c ≠ 3 by omega)]
  rfl
theorem poK_ok {i c : Nat} (hi : i ≤ 100000) (hc : c < 4) : decide (0 ≤ poK (i : Nat) (c : Nat)) = true := by
  unfold poK
  rw [w64_id (n := 4 * _) (by omega) (by omega), w64_id (by omega) (by omega)]
  exact decide_eq_true (by omega)
theorem aC_ok {m : Nat} (h : m ≤ 1000000) : aC m = true := by
  unfold aC
  rw [Nat.ble_eq_true_of_le (show (m + 1) * 1 ≤ 140737488355328 by omega)]
  simp
theorem poG_pos {n : Nat} {hs : Nat → Int} {i c : Nat} {o : Option Out} (hi : i ≤ 100000) (hc : c < 4) : poG n hs (i : Nat) (c : Nat) o = o := by
  unfold poG
  rw [gate_pos rfl, poK_ok hi hc, cond_true]
theorem apE_at {el : Nat → List AV} {m : Nat} {v : Int} {g : Nat → Int} (he : ∃ G : Nat → Int, (∀ q, el q = [yA (G q)]) ∧ ∀ q, q < m → G q = g q) (hg : g m = IntKind.u8.wrap v) : ∃ G : Nat → Int, (∀ q, apE el m v q = [yA (G q)]) ∧ ∀ q, q < m + 1 → G q = g q := by
  obtain ⟨G, h1, h2⟩ := he
  refine ⟨fun q => cond (Nat.blt q m) (G q) (IntKind.u8.wrap v), fun q => ?_, fun q hq => ?_⟩
  · unfold apE
    rw [h1, mix1]
  · show cond (Nat.blt q m) (G q) (IntKind.u8.wrap v) = g q
    cases hlt : Nat.blt q m
    · have hge := not_blt hlt
      have : q = m := by omega
      subst this
      exact hg.symm
    · exact h2 q (lt_of_blt hlt)
theorem po_leads (n : Nat) (hs : Nat → Int) {wd ht : Nat} (hw : wd ≤ 64) (hh : ht ≤ 64) :
    Leads Try.prog (.loop (loopAt Try.f15 0)) (poS n hs (wd : Nat) (ht : Nat) 0 0 fun q => [yA (ppx n hs q)]) (.exit 0) (poS n hs (wd : Nat) (ht : Nat) (wd * ht : Nat) (4 * (wd * ht)) fun q => [yA (ppx n hs q)]) := by
  have hn : wd * ht ≤ 64 * 64 := Nat.mul_le_mul hw hh
  have em : w64 ((wd : Int) * (ht : Int)) = ((wd * ht : Nat) : Int) := by rw [← Int.natCast_mul, w64_id (by omega) (by omega)]
  refine loop_rule (fun i => poS n hs (wd : Nat) (ht : Nat) (i : Nat) (4 * i) fun q => [yA (ppx n hs q)]) (wd * ht) (.exit 0) _ (by simp) (fun i hi => ?_) ?_
  · have st := po_step n hs pk (rawV n hs) (wd : Nat) (ht : Nat) (i : Nat) (4 * i) fun q => [yA (ppx n hs q)]
    rw [em, dec_lt hi, aC_ok (by omega), aC_ok (by omega), aC_ok (by omega), aC_ok (by omega)] at st
    simp only [cond_true] at st
    have g3 : ∀ o, poG n hs (i : Nat) 3 o = o := fun o => poG_pos (c := 3) (by omega) (by omega)
    have g0 : ∀ o, poG n hs (i : Nat) 0 o = o := fun o => poG_pos (c := 0) (by omega) (by omega)
    have g1 : ∀ o, poG n hs (i : Nat) 1 o = o := fun o => poG_pos (c := 1) (by omega) (by omega)
    have g2 : ∀ o, poG n hs (i : Nat) 2 o = o := fun o => poG_pos (c := 2) (by omega) (by omega)
    rw [g3, g0, g1, g2, w64_next (by omega)] at st
    refine (leads_ev (finN_sub keepPo t3n) e_nil (k_cons (kRaw_ok n hs) (k_cons kPick_ok k_nil)) noL_ok st).sub (Sub.refl _) ?_
    refine sub_same ⟨Or.inl rfl, Or.inl rfl, Or.inr ⟨5, 1, 4 * i + 4, _, _, rfl, rfl, fun q hq => ?_⟩, trivial⟩
    have p0 := apE_at (el := fun q => [yA (ppx n hs q)]) (m := 4 * i) (v := poN pk (rawV n hs) (i : Nat) 0) (g := ppx n hs) ⟨ppx n hs, fun _ => rfl, fun _ _ => rfl⟩ (ppxc n hs i 0 (by omega))
    have p1 := apE_at p0 (v := poN pk (rawV n hs) (i : Nat) 1) (ppxc n hs i 1 (by omega))
    have p2 := apE_at p1 (v := poN pk (rawV n hs) (i : Nat) 2) (ppxc n hs i 2 (by omega))
    have p3 := apE_at p2 (v := poC pk (rawV n hs) (i : Nat)) (ppx3 n hs i)
    obtain ⟨G, h1, h2⟩ := p3
    rw [h1 q, h2 q hq]
  · refine leads_ev (finX_sub keepPo t3) e_nil (k_cons (kno_ok _) (k_cons kPick_ok k_nil)) noL_ok ((po_end n hs pk _ _ _ _ _).trans ?_)
    rw [em, dec_self, cond_false]
noncomputable def poL (n : Nat) (hs : Nat → Int) (w h i' : Int) (m : Nat) (g : Nat → Int) : Nat → Option LFun := oneL 3 (toldC keepPo 1 [(2, 2, 1)] (.a 5 1 0 fun q => [yA (g q)]) [some 0, some 1, none] (poS n hs w h 0 0 fun q => [yA (g q)]) (.exit 0) (poS n hs w h i' m fun q => [yA (g q)]))
theorem po_ev (n : Nat) (hs : Nat → Int) (w h i' : Int) (m : Nat) (g : Nat → Int) : ev Try.prog [] [] (poL n hs w h i' m g) Try.f15 [rsl n hs, iA w, iA h, bA false] ret =
    gate (Sub (poS n hs w h 0 0 fun q => [yA (g q)]) (poS n hs w h 0 0 fun q => [yA (g q)])) (some (Out.of (.agg [iA w, iA h, .sl 1 m fun i => [yA (g (0 + i))]]))) := by kernel_rfl
def mpic (n : Nat) (hs : Nat → Int) (wd ht : Nat) : Pic := ⟨wd, ht, 4 * (wd * ht), ppx n hs⟩
theorem mpic_spec (n : Nat) (hs : Nat → Int) {wd ht : Nat} (hw : wd ≤ 64) (hh : ht ≤ 64) : FSpec Try.prog 15 [rsl n hs, iA (wd : Nat), iA (ht : Nat), bA false] (.agg (mpic n hs wd ht).c) := by
  have hL := lok_hd (c := bodyOf Try.f15) (i := 3) 1 (by kernel_rfl) (by kernel_rfl) (toldC_sound (keep := keepPo) (r0 := 1) (nils := [(2, 2, 1)]) (nr := .a 5 1 0 fun q => [yA (ppx n hs q)]) (τ := [some 0, some 1, none]) (po_leads n hs hw hh))
  refine gspec e_nil k_nil Try.func15 (by kernel_rfl) (by kernel_rfl) hL rfl ((po_ev n hs (wd : Nat) (ht : Nat) (wd * ht : Nat) (4 * (wd * ht)) (ppx n hs)).trans ?_)
  have e5 : (fun i => [yA (ppx n hs (0 + i))]) = fun i => [yA (ppx n hs i)] := funext fun i => by rw [Nat.zero_add]
  rw [gate_pos (Sub.refl _), e5]
  rfl
theorem mpic_px (n : Nat) (hs : Nat → Int) (wd ht : Nat) : ∀ i, i < (mpic n hs wd ht).n → 0 ≤ (mpic n hs wd ht).px i ∧ (mpic n hs wd ht).px i ≤ 255 := fun _ _ => u8_rng _
end Go.Proofs.Ytkibceiellnggaa
