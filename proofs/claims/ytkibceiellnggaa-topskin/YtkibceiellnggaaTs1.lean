/-
  The colour at a place: in the middle of a pixel; of a picture that is the same everywhere.
-/
import Derived.Test.YtkibceiellnggaaPico2
namespace Go.Proofs.Ytkibceiellnggaa
open Go.Gv

theorem rsum {b0 b1 b2 b3 s t : Int} (h0 : 0 ≤ b0 ∧ b0 ≤ 255) (h1 : 0 ≤ b1 ∧ b1 ≤ 255) (h2 : 0 ≤ b2 ∧ b2 ≤ 255) (h3 : 0 ≤ b3 ∧ b3 ≤ 255) (hs : 0 ≤ s ∧ s ≤ 255) (ht : 0 ≤ t ∧ t ≤ 255) :
    rAdd (rAdd (rAdd (rAdd 32768 b0 (w64 (256 - s)) (w64 (256 - t))) b1 s (w64 (256 - t))) b2 (w64 (256 - s)) t) b3 s t = 32768 + b0 * ((256 - s) * (256 - t)) + b1 * (s * (256 - t)) + b2 * ((256 - s) * t) + b3 * (s * t) := by
  have ea : w64 (256 - s) = 256 - s := w64_id (by omega) (by omega)
  have ec : w64 (256 - t) = 256 - t := w64_id (by omega) (by omega)
  rw [ea, ec]
  have hA := mulB (x := 256 - s) (y := 256 - t) (X := 256) (Y := 256) (by omega) (by omega) (by omega) (by omega)
  have hB := mulB (x := s) (y := 256 - t) (X := 255) (Y := 256) (by omega) (by omega) (by omega) (by omega)
  have hC := mulB (x := 256 - s) (y := t) (X := 256) (Y := 255) (by omega) (by omega) (by omega) (by omega)
  have hD := mulB (x := s) (y := t) (X := 255) (Y := 255) (by omega) (by omega) (by omega) (by omega)
  generalize hAe : (256 - s) * (256 - t) = A at *
  generalize hBe : s * (256 - t) = B at *
  generalize hCe : (256 - s) * t = C at *
  generalize hDe : s * t = D at *
  have p0 := mulB h0.1 h0.2 (y := A) (Y := 65536) hA.1 (by omega)
  have p1 := mulB h1.1 h1.2 (y := B) (Y := 65536) hB.1 (by omega)
  have p2 := mulB h2.1 h2.2 (y := C) (Y := 65536) hC.1 (by omega)
  have r0 : rAdd 32768 b0 (256 - s) (256 - t) = 32768 + b0 * A := by rw [rAdd_eq (by omega) h0 (by omega) (by omega), hAe]
  have r1 : rAdd (32768 + b0 * A) b1 s (256 - t) = 32768 + b0 * A + b1 * B := by rw [rAdd_eq (by omega) h1 (by omega) (by omega), hBe]
  have r2 : rAdd (32768 + b0 * A + b1 * B) b2 (256 - s) t = 32768 + b0 * A + b1 * B + b2 * C := by rw [rAdd_eq (by omega) h2 (by omega) (by omega), hCe]
  rw [r0, r1, r2, rAdd_eq (by omega) h3 (by omega) (by omega), hDe]
theorem rFin_eq {b x : Int} (hb : 0 ≤ b ∧ b ≤ 255) (hx : x = 32768 + 65536 * b) : rFin x = b := by
  unfold rFin
  subst hx
  rw [Int.tdiv_eq_ediv_of_nonneg (by omega), show (32768 + 65536 * b) / 65536 = b by omega, w64_id (by omega) (by omega)]
  have e : IntKind.u8.wrap b = b % 256 := by
    unfold IntKind.wrap
    simp only [IntKind.bits, IntKind.signed, Bool.false_and]
    rfl
  rw [e]
  omega
/-- In the middle of a pixel. -/
theorem rB_mid {p : Pic} {wd ht : Nat} (h : PG p wd ht) {w X Y : Int} {k : Nat} (hk : k < 4) : rB p w X Y 0 0 k = bt p w X Y 0 0 k := by
  have b00 := bt_rng h (w := w) (X := X) (Y := Y) (j := 0) (i := 0) hk
  have b01 := bt_rng h (w := w) (X := X) (Y := Y) (j := 0) (i := 1) hk
  have b10 := bt_rng h (w := w) (X := X) (Y := Y) (j := 1) (i := 0) hk
  have b11 := bt_rng h (w := w) (X := X) (Y := Y) (j := 1) (i := 1) hk
  unfold rB rTot
  rw [rsum b00 b01 b10 b11 (by omega) (by omega)]
  refine rFin_eq b00 ?_
  omega
/-- Where all four pixels are the same. -/
theorem rB_all {p : Pic} {wd ht : Nat} (h : PG p wd ht) {w X Y s t c : Int} {k : Nat} (hk : k < 4) (hs : 0 ≤ s ∧ s ≤ 255) (ht : 0 ≤ t ∧ t ≤ 255) (hc : ∀ j i, bt p w X Y j i k = c) : rB p w X Y s t k = c := by
  have b00 := bt_rng h (w := w) (X := X) (Y := Y) (j := 0) (i := 0) hk
  rw [hc] at b00
  unfold rB rTot
  simp only [hc]
  rw [rsum b00 b00 b00 b00 hs ht]
  refine rFin_eq b00 ?_
  have hsum : (256 - s) * (256 - t) + s * (256 - t) + (256 - s) * t + s * t = 65536 := by
    have e1 : (256 - s) * (256 - t) + s * (256 - t) = 256 * (256 - t) := by rw [← Int.add_mul]; congr 1; omega
    have e2 : (256 - s) * t + s * t = 256 * t := by rw [← Int.add_mul]; congr 1; omega
    omega
  have e3 : 32768 + c * ((256 - s) * (256 - t)) + c * (s * (256 - t)) + c * ((256 - s) * t) + c * (s * t) = 32768 + c * ((256 - s) * (256 - t) + s * (256 - t) + (256 - s) * t + s * t) := by
    rw [Int.mul_add, Int.mul_add, Int.mul_add]; omega
  rw [e3, hsum]
  omega
/-! ### Which pixel stands for one -/
theorem onP_in {w n s : Int} (h0 : 0 ≤ n) (h1 : n < s) : onP w n s = n := by
  unfold onP
  have e1 : n % s = n := Int.emod_eq_of_lt h0 h1
  have e2 : n % (2 * s) = n := Int.emod_eq_of_lt h0 (by omega)
  rw [e1, e2, decide_eq_false (show ¬ n ≥ s by omega), decide_eq_false (show ¬ n < 0 by omega)]
  cases w == 0 <;> cases w == 1 <;> rfl
theorem onP_rep {n s t : Int} (h0 : 0 ≤ n) (h1 : n < s) : onP 0 (n + t * s) s = n := by
  show (n + t * s) % s = n
  rw [Int.add_mul_emod_self_right]
  exact Int.emod_eq_of_lt h0 h1
theorem onP_fold {n s t : Int} (h0 : 0 ≤ n) (h1 : n < s) : onP 1 (n + t * (2 * s)) s = n := by
  have e : (n + t * (2 * s)) % (2 * s) = n := by
    rw [Int.add_mul_emod_self_right]
    exact Int.emod_eq_of_lt h0 (by omega)
  show cond (decide ((n + t * (2 * s)) % (2 * s) ≥ s)) (2 * s - 1 - (n + t * (2 * s)) % (2 * s)) ((n + t * (2 * s)) % (2 * s)) = n
  rw [e, decide_eq_false (by omega)]
  rfl
theorem onP_back {n s t : Int} (h0 : 0 ≤ n) (h1 : n < s) : onP 1 (-1 - n + t * (2 * s)) s = n := by
  have e : (-1 - n + t * (2 * s)) % (2 * s) = 2 * s - 1 - n := by
    have e1 : -1 - n + t * (2 * s) = 2 * s - 1 - n + (t - 1) * (2 * s) := by rw [Int.sub_mul]; omega
    rw [e1, Int.add_mul_emod_self_right]
    exact Int.emod_eq_of_lt (by omega) (by omega)
  show cond (decide ((-1 - n + t * (2 * s)) % (2 * s) ≥ s)) (2 * s - 1 - (-1 - n + t * (2 * s)) % (2 * s)) ((-1 - n + t * (2 * s)) % (2 * s)) = n
  rw [e, decide_eq_true (by omega), cond_true]
  omega
theorem onP_low {n s : Int} (h0 : n ≤ 0) (h1 : 0 < s) : onP 2 n s = 0 := by
  show cond (decide (n < 0)) 0 (cond (decide (n ≥ s)) (s - 1) n) = 0
  by_cases h : n < 0
  · rw [decide_eq_true h]; rfl
  · rw [decide_eq_false h, decide_eq_false (by omega), cond_false, cond_false]; omega
theorem onP_high {n s : Int} (h0 : s ≤ n) (h1 : 0 < s) : onP 2 n s = s - 1 := by
  show cond (decide (n < 0)) 0 (cond (decide (n ≥ s)) (s - 1) n) = s - 1
  rw [decide_eq_false (by omega), decide_eq_true h0]
  rfl
theorem xQ_mid (n : Int) : xQ (256 * n + 128) = n := by unfold xQ; omega
theorem xR_mid (n : Int) : xR (256 * n + 128) = 0 := by unfold xR; omega
end Go.Proofs.Ytkibceiellnggaa
