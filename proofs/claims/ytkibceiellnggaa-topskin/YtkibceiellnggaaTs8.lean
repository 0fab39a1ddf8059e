/-
  The law TopSkin: it holds.
-/
import Derived.Test.YtkibceiellnggaaTs7
namespace Go.Proofs.Ytkibceiellnggaa
open Go.Gv

theorem mul_rng {T : Int} {s : Nat} (h0 : -500 ≤ T) (h1 : T ≤ 500) (hs : s ≤ 8) : -4000 ≤ T * (s : Int) ∧ T * (s : Int) ≤ 4000 := by
  have a := Int.mul_le_mul_of_nonneg_right h0 (Int.natCast_nonneg s)
  have b := Int.mul_le_mul_of_nonneg_right h1 (Int.natCast_nonneg s)
  omega
theorem mpic_pg (n : Nat) (hs : Nat → Int) {wd ht : Nat} (w1 : 1 ≤ wd) (w8 : wd ≤ 8) (h1 : 1 ≤ ht) (h8 : ht ≤ 8) : PG (mpic n hs wd ht) wd ht :=
  ⟨rfl, rfl, w1, by omega, h1, by omega, by show 4 * (wd * ht) = wd * ht * 4; omega, mpic_px n hs wd ht⟩
/-- Four bytes of a picture. -/
theorem cut4 {p : Pic} {N : Nat} {l h : Int} (hl : l = ((N * 4 : Nat) : Int)) (hh : h = l + 4) (hN : N * 4 + 3 < p.n) : sbB (some l) (some h) none p.n = true ∧ sbN (some l) (some h) p.n = 4 ∧ cutP p l h = strF 4 (fun i => p.px (N * 4 + i)) := by
  have e1 : sbN (some l) (some h) p.n = 4 := by
    unfold sbN
    simp only [Option.getD_some]
    omega
  refine ⟨?_, e1, ?_⟩
  · unfold sbB
    simp only [Option.getD_some, Option.getD_none, Bool.and_eq_true, decide_eq_true_eq]
    omega
  · unfold cutP
    rw [e1]
    unfold sbL
    simp only [Option.getD_some]
    rw [hl, Int.toNat_natCast]
theorem mid_eq {x : Nat} (h : x ≤ 1000) : mid (x : Nat) = 256 * (x : Int) + 128 := by
  unfold mid
  rw [w64_id (n := 256 * _) (by omega) (by omega), w64_id (by omega) (by omega)]
theorem l1_leads {p : Pic} {wd ht : Nat} (hg : PG p wd ht) (w8 : wd ≤ 8) (h8 : ht ≤ 8) {X Y : Nat} (hX : X < wd) (hY : Y < ht) (t : Int) :
    Leads Try.prog (.loop (loopAt Try.f5 0)) (l1S (wd : Nat) (ht : Nat) (X : Nat) (Y : Nat) t p (strF 4 (pixS p wd X Y)) 0) (.exit 0) (l1S (wd : Nat) (ht : Nat) (X : Nat) (Y : Nat) t p (strF 4 (pixS p wd X Y)) 3) := by
  refine loop_rule (fun k => l1S (wd : Nat) (ht : Nat) (X : Nat) (Y : Nat) t p (strF 4 (pixS p wd X Y)) (k : Nat)) 3 (.exit 0) _ (by simp) (fun k hk => ?_) ?_
  · refine leads_ev (finN_sub keepL1 [some 0]) e_nil (k_cons kS_ok k_nil) noL_ok ((l1_step atS _ _ _ _ _ _ _ _).trans ?_)
    have e : strA atS p (k : Nat) (mid (X : Nat)) (mid (Y : Nat)) = strF 4 (pixS p wd X Y) := by
      rw [mid_eq (by omega), mid_eq (by omega)]
      exact at_place hg (xR_mid _) (xR_mid _) (by rw [xQ_mid]; exact onP_in (by omega) (by omega)) (by rw [xQ_mid]; exact onP_in (by omega) (by omega))
    have e2 : (!((strA atS p (k : Nat) (mid (X : Nat)) (mid (Y : Nat))).toList == (strF 4 (pixS p wd X Y)).toList)) = false := nS_same e
    rw [decide_eq_true (show ((k : Nat) : Int) < 3 by omega), e2, w64_next (by omega), gate_pos]
    · rfl
    · rw [mid_eq (by omega), mid_eq (by omega)]
      exact at_ask hg (by omega) (by omega) (by omega)
  · exact leads_ev (finX_sub keepL1 [some 0]) e_nil (k_cons (kno_ok _) k_nil) noL_ok (l1_end _ _ _ _ _ _ _ 3)
section
variable {p : Pic} {wd ht : Nat} (hg : PG p wd ht) (w8 : wd ≤ 8) (h8 : ht ≤ 8) {X Y : Nat} (hX : X < wd) (hY : Y < ht) {T : Int} (t0 : -500 ≤ T) (t1 : T ≤ 500)
include hg w8 h8 hX hY t0 t1
theorem place1 : gAt atS p 0 (u1 (wd : Nat) (X : Nat) T) (v1 (ht : Nat) (Y : Nat) T) = (fun o => o) ∧ strA atS p 0 (u1 (wd : Nat) (X : Nat) T) (v1 (ht : Nat) (Y : Nat) T) = strF 4 (pixS p wd X Y) := by
  have a := mul_rng t0 t1 w8
  have b := mul_rng t0 t1 h8
  have e1 : u1 (wd : Nat) (X : Nat) T = 256 * ((X : Int) + T * (wd : Int)) + 128 := by
    unfold u1
    rw [w64_id (n := T * (wd : Int)) (by omega) (by omega), w64_id (n := (X : Int) + _) (by omega) (by omega), w64_id (n := 256 * _) (by omega) (by omega), w64_id (by omega) (by omega)]
  have e2 : v1 (ht : Nat) (Y : Nat) T = 256 * ((Y : Int) + -T * (ht : Int)) + 128 := by
    unfold v1
    rw [w64_id (n := T * (ht : Int)) (by omega) (by omega), w64_id (n := (Y : Int) - _) (by omega) (by omega), w64_id (n := 256 * _) (by omega) (by omega), w64_id (by omega) (by omega), Int.neg_mul]
    omega
  have e3 : -T * (ht : Int) = -(T * (ht : Int)) := Int.neg_mul _ _
  rw [e1, e2]
  refine ⟨funext fun o => gate_pos (at_ask hg (by omega) (by omega) (by omega)), at_place hg (xR_mid _) (xR_mid _) ?_ ?_⟩
  · rw [xQ_mid]; exact onP_rep (by omega) (by omega)
  · rw [xQ_mid]; exact onP_rep (by omega) (by omega)
theorem place2 : gAt atS p 1 (u2 (wd : Nat) (X : Nat) T) (v2 (ht : Nat) (Y : Nat) T) = (fun o => o) ∧ strA atS p 1 (u2 (wd : Nat) (X : Nat) T) (v2 (ht : Nat) (Y : Nat) T) = strF 4 (pixS p wd X Y) := by
  have a := mul_rng t0 t1 w8
  have b := mul_rng t0 t1 h8
  have c1 : 2 * T * (wd : Int) = 2 * (T * (wd : Int)) := Int.mul_assoc _ _ _
  have c2 : 2 * T * (ht : Int) = 2 * (T * (ht : Int)) := Int.mul_assoc _ _ _
  have d1 : T * (2 * (wd : Int)) = 2 * (T * (wd : Int)) := by rw [← Int.mul_assoc, Int.mul_comm T 2, Int.mul_assoc]
  have d2 : T * (2 * (ht : Int)) = 2 * (T * (ht : Int)) := by rw [← Int.mul_assoc, Int.mul_comm T 2, Int.mul_assoc]
  have e1 : u2 (wd : Nat) (X : Nat) T = 256 * (-1 - (X : Int) + T * (2 * (wd : Int))) + 128 := by
    unfold u2
    rw [w64_id (n := 2 * T) (by omega) (by omega), w64_id (n := 2 * T * (wd : Int)) (by omega) (by omega), w64_id (n := 2 * T * (wd : Int) - 1) (by omega) (by omega), w64_id (n := 2 * T * (wd : Int) - 1 - _) (by omega) (by omega), w64_id (n := 256 * _) (by omega) (by omega), w64_id (by omega) (by omega)]
    omega
  have e2 : v2 (ht : Nat) (Y : Nat) T = 256 * ((Y : Int) + T * (2 * (ht : Int))) + 128 := by
    unfold v2
    rw [w64_id (n := 2 * T) (by omega) (by omega), w64_id (n := 2 * T * (ht : Int)) (by omega) (by omega), w64_id (n := 2 * T * (ht : Int) + _) (by omega) (by omega), w64_id (n := 256 * _) (by omega) (by omega), w64_id (by omega) (by omega)]
    omega
  rw [e1, e2]
  refine ⟨funext fun o => gate_pos (at_ask hg (by omega) (by omega) (by omega)), at_place hg (xR_mid _) (xR_mid _) ?_ ?_⟩
  · rw [xQ_mid]; exact onP_back (by omega) (by omega)
  · rw [xQ_mid]; exact onP_fold (by omega) (by omega)
omit t0 t1 in
theorem place3 : gAt atS p 2 (u3 (X : Nat)) (v3 (ht : Nat) (Y : Nat)) = (fun o => o) ∧ strA atS p 2 (u3 (X : Nat)) (v3 (ht : Nat) (Y : Nat)) = strF 4 (pixS p wd 0 (ht - 1)) := by
  have e1 : u3 (X : Nat) = 256 * (-(X : Int)) + 128 := by
    unfold u3
    rw [w64_id (n := 256 * _) (by omega) (by omega), w64_id (by omega) (by omega)]
    omega
  have e2 : v3 (ht : Nat) (Y : Nat) = 256 * ((ht : Int) + (Y : Int)) + 128 := by
    unfold v3
    rw [w64_id (n := (ht : Int) + _) (by omega) (by omega), w64_id (n := 256 * _) (by omega) (by omega), w64_id (by omega) (by omega)]
  rw [e1, e2]
  refine ⟨funext fun o => gate_pos (at_ask hg (by omega) (by omega) (by omega)), at_place hg (xR_mid _) (xR_mid _) ?_ ?_⟩
  · rw [xQ_mid]; exact onP_low (by omega) (by omega)
  · rw [xQ_mid, onP_high (by omega) (by omega)]; omega
theorem tkB_eq (o : Option Out) : tkB atS p (wd : Nat) (ht : Nat) (X : Nat) (Y : Nat) T (strF 4 (pixS p wd X Y)) o = o := by
  obtain ⟨g1, s1⟩ := place1 hg w8 h8 hX hY t0 t1
  obtain ⟨g2, s2⟩ := place2 hg w8 h8 hX hY t0 t1
  obtain ⟨g3, s3⟩ := place3 hg w8 h8 hX hY
  have hlt := hg.at_lt (x := 0) (y := ht - 1) (k := 3) (by omega) (by omega) (by omega)
  have hn := hg.n_le
  have hm : (ht - 1) * wd ≤ 8 * 8 := Nat.mul_le_mul (by omega) w8
  have ec : coL (wd : Nat) (ht : Nat) = ((((ht - 1) * wd + 0) * 4 : Nat) : Int) := by
    unfold coL
    have c1 : 4 * ((ht : Int) - 1) * (wd : Int) = ((4 * ((ht - 1) * wd) : Nat) : Int) := by
      rw [Int.natCast_mul, Int.natCast_mul, ← Int.mul_assoc]
      congr 2
      omega
    rw [w64_id (n := (ht : Int) - 1) (by omega) (by omega), w64_id (n := 4 * ((ht : Int) - 1)) (by omega) (by omega), c1, w64_id (by omega) (by omega)]
    omega
  have ec4 : co4 (wd : Nat) (ht : Nat) = coL (wd : Nat) (ht : Nat) + 4 := by
    unfold co4
    rw [ec]
    exact w64_id (by omega) (by omega)
  obtain ⟨q1, q2, q3⟩ := cut4 ec ec4 hlt
  have hC : tkC atS p (wd : Nat) (ht : Nat) (X : Nat) (Y : Nat) T (strF 4 (pixS p wd X Y)) = false := by
    unfold tkC
    rw [nS_same s1, nS_same s2, nS_same (s3.trans q3.symm)]
    rfl
  unfold tkB
  rw [g1, g2, g3, q1, q2, hC]
  rfl
end
end Go.Proofs.Ytkibceiellnggaa
