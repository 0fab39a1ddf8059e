/-
  The document's answer on fields: the pieces.
-/
import Derived.Test.YtiagpcjonaahlaaGreatGr2
namespace Go.Proofs.YtiagpcjonaahlaaGreat
open Go.Gv
open Go.Ev (cn fadd fsub fmul fdiv feq flt fle fgt fge)

def keepU : List Nat := [1, 5, 6, 7]
def keepV : List Nat := [1, 5, 6]
def gp (F : Fd) (x y : Int) : Nat → Nat := ptXY F (F.hs (ix F.W y x).toNat) x y
theorem rpI_step (F : Fd) (y x : Int) (m : Nat) (ps : Nat → List AV) : evC Tryz.prog D2 (GK Tryz.prog Tryz.f25) noL (loopAt Tryz.f11 1) (rpI F y x m ps) (finN keepU [some 0, some 7]) =
    cond (decide (x < F.W)) (cond ((inR (ix F.W (w64 (y - 1)) (w64 (x - 1))) F.n || false) && true) (cond ((inR (ix F.W (w64 (y - 1)) x) F.n || false) && true) (cond ((inR (ix F.W y (w64 (x - 1))) F.n || false) && true) (cond ((inR (ix F.W y x) F.n || false) && true)
      (cond (((m == m) && Nat.ble ((m + 2) * 104) 140737488355328) && true)
        (some ⟨.normal, rpI F y (w64 (x + 1)) (m + 2) (fun q => mixL (Nat.blt q m) (ps q) (mixL (Nat.blt q (m + 1)) (shC (tri (gp F (w64 (x - 1)) (w64 (y - 1))) (gp F (w64 (x - 1)) y) (gp F x (w64 (y - 1)))) F.sk)
          (shC (tri (gp F x (w64 (y - 1))) (gp F (w64 (x - 1)) y) (gp F x y)) F.sk))), .any⟩) none) none) none) none) none) none := by kernel_rfl
theorem rpI_end (F : Fd) (y x : Int) (m : Nat) (ps : Nat → List AV) : evC Tryz.prog D2 (GK Tryz.prog Tryz.f25) noL (loopAt Tryz.f11 1) (rpI F y x m ps) (finX keepU [some 0, some 1]) =
    cond (decide (x < F.W)) (cond ((inR (ix F.W (w64 (y - 1)) (w64 (x - 1))) F.n || false) && true) (cond ((inR (ix F.W (w64 (y - 1)) x) F.n || false) && true) (cond ((inR (ix F.W y (w64 (x - 1))) F.n || false) && true) (cond ((inR (ix F.W y x) F.n || false) && true)
      (cond (((m == m) && Nat.ble ((m + 2) * 104) 140737488355328) && true) none none) none) none) none) none) (some ⟨.exit 2, rpI F y x m ps, .any⟩) := by kernel_rfl
theorem w64_less {n : Nat} (h : n < 4611686018427387904) : w64 (((n + 1 : Nat) : Int) - 1) = (n : Int) := by rw [w64_id (by omega) (by omega)]; omega
theorem gp_at {F : Fd} {w h y x : Nat} (d : Dim F w h) (hy : y < h) (hx : x < w) : gp F (x : Nat) (y : Nat) = pt F (y * w + x) := by
  unfold gp
  rw [d.ix hy hx, Int.toNat_natCast, ← pt_at d hx]
theorem rpI_leads {F : Fd} {w h y : Nat} (d : Dim F w h) (hy : y < h - 1) :
    Leads Tryz.prog (.loop (loopAt Tryz.f11 1)) (rpI F ((y + 1 : Nat) : Int) 1 (2 * (y * (w - 1))) (pcs F w)) (.exit 2) (rpI F ((y + 1 : Nat) : Int) ((w - 1 + 1 : Nat) : Int) (2 * (y * (w - 1) + (w - 1))) (pcs F w)) := by
  have hle := d.le
  have hyW := d.row (y := y + 1) (by omega)
  have e1 : (y + 1) * w = y * w + w := Nat.succ_mul y w
  rw [e1] at hyW
  have hw := d.w1
  have hn := d.n
  have hyv : y * (w - 1) ≤ y * w := Nat.mul_le_mul_left _ (by omega)
  refine loop_rule (fun j => rpI F ((y + 1 : Nat) : Int) ((j + 1 : Nat) : Int) (2 * (y * (w - 1) + j)) (pcs F w)) (w - 1) (.exit 2) _ (by simp) (fun j hj => ?_) ?_
  · have hy8 := d.h8
    have hw8 := d.w8
    have hstep := rpI_step F ((y + 1 : Nat) : Int) ((j + 1 : Nat) : Int) (2 * (y * (w - 1) + j)) (pcs F w)
    have c1 : decide (((j + 1 : Nat) : Int) < F.W) = true := by rw [d.W]; exact dec_lt (by omega)
    rw [c1, w64_less (by omega), w64_less (by omega), d.ix (y := y) (x := j) (by omega) (by omega), d.ix (y := y) (x := j + 1) (by omega) (by omega), d.ix (y := y + 1) (x := j) (by omega) (by omega), d.ix (y := y + 1) (x := j + 1) (by omega) (by omega),
      inR_nat (show y * w + j < F.n by omega), inR_nat (show y * w + (j + 1) < F.n by omega), inR_nat (show (y + 1) * w + j < F.n by omega), inR_nat (show (y + 1) * w + (j + 1) < F.n by omega),
      Nat.ble_eq_true_of_le (show (2 * (y * (w - 1) + j) + 2) * 104 ≤ 140737488355328 by omega), w64_next (by omega), gp_at d (show y < h by omega) (show j < w by omega), gp_at d (show y + 1 < h by omega) (show j < w by omega), gp_at d (show y < h by omega) (show j + 1 < w by omega), gp_at d (show y + 1 < h by omega) (show j + 1 < w by omega)] at hstep
    simp only [cond_true, Bool.and_self, Bool.or_false, BEq.rfl] at hstep
    refine Leads.sub (leads_ev (finN_sub keepU [some 0, some 7]) D2_ok GK_ok noL_ok hstep) (Sub.refl _) ?_
    have e2 : 2 * (y * (w - 1) + (j + 1)) = 2 * (y * (w - 1) + j) + 2 := by omega
    have a1 : (y + 1) * w + j = y * w + j + w := by omega
    have a2 : (y + 1) * w + (j + 1) = y * w + j + w + 1 := by omega
    have a3 : y * w + (j + 1) = y * w + j + 1 := by omega
    rw [e2, a1, a2, a3]
    refine sub_same ⟨Or.inl rfl, Or.inr ⟨41, 13, 2 * (y * (w - 1) + j) + 2, _, _, rfl, rfl, fun q hq => ?_⟩, trivial⟩
    obtain ⟨k1, k2⟩ := crn_at (w := w) (y := y) (x := j) hj
    cases hlt : Nat.blt q (2 * (y * (w - 1) + j))
    · have hge := not_blt hlt
      cases hlt2 : Nat.blt q (2 * (y * (w - 1) + j) + 1)
      · have hq2 : q = 2 * (y * (w - 1) + j) + 1 := by have := not_blt hlt2; omega
        subst hq2
        have hm : ((2 * (y * (w - 1) + j) + 1) % 2 == 0) = false := by rw [show (2 * (y * (w - 1) + j) + 1) % 2 = 1 by omega]; rfl
        unfold pcs pc shC iA
        rw [hm, k2]
        simp only [mixL, mixA, cond_false, decide_true, cond_true]
      · have hq2 : q = 2 * (y * (w - 1) + j) := by have : q < _ := Nat.le_of_ble_eq_true hlt2; omega
        subst hq2
        have hm : (2 * (y * (w - 1) + j) % 2 == 0) = true := by rw [show 2 * (y * (w - 1) + j) % 2 = 0 by omega]; rfl
        unfold pcs pc shC iA
        rw [hm, k1]
        simp only [mixL, mixA, cond_false, decide_true, cond_true]
    · unfold pcs shC iA
      simp only [mixL, mixA, decide_true, cond_true]
  · refine leads_ev (finX_sub keepU [some 0, some 1]) D2_ok GK_ok noL_ok ?_
    have c1 : decide (((w - 1 + 1 : Nat) : Int) < F.W) = false := by rw [d.W, Nat.sub_add_cancel (by omega)]; exact dec_self w
    rw [rpI_end, c1]
    rfl
noncomputable def rpIL (F : Fd) (w y : Nat) : Nat → Option LFun := oneL 9 (toldF keepU [some 0, some 1] (rpI F ((y + 1 : Nat) : Int) 1 (2 * (y * (w - 1))) (pcs F w)) (.exit 2) (rpI F ((y + 1 : Nat) : Int) ((w - 1 + 1 : Nat) : Int) (2 * (y * (w - 1) + (w - 1))) (pcs F w)))
theorem rpIL_ok {F : Fd} {w h y : Nat} (d : Dim F w h) (hy : y < h - 1) : LOk Tryz.prog (rpIL F w y) (loopAt Tryz.f11 0) :=
  lok_one (i := 9) 1 (by kernel_rfl) fun j hj _ => by
    have : j = 0 := by omega
    subst this
    have e : (loopsOf (loopAt Tryz.f11 0)).getD 0 .skip = loopAt Tryz.f11 1 := by kernel_rfl
    rw [e]
    exact toldF_sound (rpI_leads d hy)
theorem rpO_step (F : Fd) (w y : Nat) : evC Tryz.prog D2 [] (rpIL F w y) (loopAt Tryz.f11 0) (rpO F ((y + 1 : Nat) : Int) (2 * (y * (w - 1))) (pcs F w)) (finN keepV [some 0, some 1]) =
    cond (decide (((y + 1 : Nat) : Int) < F.H)) (gate (Sub (rpI F ((y + 1 : Nat) : Int) 1 (2 * (y * (w - 1))) (pcs F w)) (rpI F ((y + 1 : Nat) : Int) 1 (2 * (y * (w - 1))) (pcs F w))) (some ⟨.normal, rpO F (w64 (((y + 1 : Nat) : Int) + 1)) (2 * (y * (w - 1) + (w - 1))) (pcs F w), .any⟩)) none := by kernel_rfl
theorem rpO_last (F : Fd) (w m : Nat) (y : Int) : evC Tryz.prog D2 [] (oneL 9 fun _ _ => none) (loopAt Tryz.f11 0) (rpO F y m (pcs F w)) (finX keepV [some 0, some 1]) =
    cond (decide (y < F.H)) none (some ⟨.exit 0, rpO F y m (pcs F w), .any⟩) := by kernel_rfl
theorem rpO_leads {F : Fd} {w h : Nat} (d : Dim F w h) : Leads Tryz.prog (.loop (loopAt Tryz.f11 0)) (rpO F 1 (2 * (0 * (w - 1))) (pcs F w)) (.exit 0) (rpO F ((h - 1 + 1 : Nat) : Int) (2 * ((h - 1) * (w - 1))) (pcs F w)) := by
  have h8 := d.h8
  have h1 := d.h1
  refine loop_rule (fun y => rpO F ((y + 1 : Nat) : Int) (2 * (y * (w - 1))) (pcs F w)) (h - 1) (.exit 0) _ (by simp) (fun y hy => ?_) ?_
  · refine leads_ev (finN_sub keepV [some 0, some 1]) D2_ok k_nil (rpIL_ok d hy) ?_
    have c1 : decide (((y + 1 : Nat) : Int) < F.H) = true := by rw [d.H]; exact dec_lt (by omega)
    rw [rpO_step, c1, gate_pos (Sub.refl _), w64_next (by omega), Nat.succ_mul y (w - 1)]
    rfl
  · refine leads_ev (finX_sub keepV [some 0, some 1]) D2_ok k_nil (lok_none 9) ?_
    have c1 : decide (((h - 1 + 1 : Nat) : Int) < F.H) = false := by rw [d.H, Nat.sub_add_cancel (by omega)]; exact dec_self h
    rw [rpO_last, c1]
    rfl
noncomputable def rpL (F : Fd) (w h : Nat) : Nat → Option LFun := oneL 6 (toldN keepV [(5, 1, 13)] (.a 41 13 0 (pcs F w)) [some 0, none] (rpO F 1 (2 * (0 * (w - 1))) (pcs F w)) (.exit 0) (rpO F ((h - 1 + 1 : Nat) : Int) (2 * ((h - 1) * (w - 1))) (pcs F w)))
theorem rpL_ok {F : Fd} {w h : Nat} (d : Dim F w h) : LOk Tryz.prog (rpL F w h) (bodyOf Tryz.f11) :=
  lok_one (i := 6) 2 (by kernel_rfl) fun j hj hid => by
    have : j = 0 ∨ j = 1 := by omega
    rcases this with rfl | rfl
    · exact toldN_sound (rpO_leads d)
    · have e : firstId ((loopsOf (bodyOf Tryz.f11)).getD 1 .skip) = some 9 := by kernel_rfl
      rw [e] at hid
      cases hid
theorem rp_ev1 (F : Fd) (e : Int) : ev Tryz.prog D2 [kfix 8 [.agg F.c] (iA e)] (oneL 6 fun _ _ => none) Tryz.f11 [.agg F.c] ret =
    gate ([AV.agg F.c] = [AV.agg F.c]) (cond (!(e == 0)) (some (Out.of (.tup [.x (.slice none 0 0), iA e]))) none) := by kernel_rfl
theorem rp_ev2 (F : Fd) (w h : Nat) : ev Tryz.prog D2 [kfix 8 [.agg F.c] (iA 0)] (rpL F w h) Tryz.f11 [.agg F.c] ret =
    gate ([AV.agg F.c] = [AV.agg F.c]) (gate (Sub (rpO F 1 0 (pcs F w)) (rpO F 1 (2 * (0 * (w - 1))) (pcs F w))) (some (Out.of (.tup [.sl 13 (2 * ((h - 1) * (w - 1))) fun i => shC (pc F w (0 + i)) F.sk, iA 0])))) := by kernel_rfl
end Go.Proofs.YtiagpcjonaahlaaGreat
