/-
  The colour at a place: the code's numbers are the answer's.
-/
import Derived.Test.YtkibceiellnggaaSk7
namespace Go.Proofs.Ytkibceiellnggaa
open Go.Gv

theorem mulB {x y X Y : Int} (h0 : 0 ≤ x) (h1 : x ≤ X) (g0 : 0 ≤ y) (g1 : y ≤ Y) : 0 ≤ x * y ∧ x * y ≤ X * Y :=
  ⟨Int.mul_nonneg h0 g0, Int.mul_le_mul h1 g1 g0 (by omega)⟩
theorem rAdd_eq {sum b a c : Int} (hs : 0 ≤ sum ∧ sum ≤ 100000000) (hb : 0 ≤ b ∧ b ≤ 255) (ha : 0 ≤ a ∧ a ≤ 256) (hc : 0 ≤ c ∧ c ≤ 256) : rAdd sum b a c = sum + b * (a * c) := by
  unfold rAdd
  have h1 := mulB hb.1 hb.2 ha.1 ha.2
  have h2 := mulB h1.1 h1.2 hc.1 hc.2
  rw [w64_id (n := b) (by omega) (by omega), w64_id (n := b * a) (by omega) (by omega), w64_id (n := b * a * c) (by omega) (by omega), Int.mul_assoc]
  rw [Int.mul_assoc] at h2
  exact w64_id (by omega) (by omega)
theorem addS_eq {sum b m : Int} (hs : 0 ≤ sum ∧ sum ≤ 100000000) (hb : 0 ≤ b ∧ b ≤ 255) (hm : 0 ≤ m ∧ m ≤ 65536) : addS sum b m = sum + b * m := by
  unfold addS
  have h1 := mulB hb.1 hb.2 hm.1 hm.2
  rw [w64_id (n := b) (by omega) (by omega), w64_id (n := b * m) (by omega) (by omega), w64_id (by omega) (by omega)]
theorem at_num {b0 b1 b2 b3 s t : Int} (h0 : 0 ≤ b0 ∧ b0 ≤ 255) (h1 : 0 ≤ b1 ∧ b1 ≤ 255) (h2 : 0 ≤ b2 ∧ b2 ≤ 255) (h3 : 0 ≤ b3 ∧ b3 ≤ 255) (hs : 0 ≤ s ∧ s ≤ 255) (ht : 0 ≤ t ∧ t ≤ 255) :
    meS (addS (addS (addS (addS 0 b0 (w64 (w64 (256 - s) * w64 (256 - t)))) b1 (w64 (s * w64 (256 - t)))) b2 (w64 (w64 (256 - s) * t))) b3 (w64 (s * t))) 65536 =
      rFin (rAdd (rAdd (rAdd (rAdd 32768 b0 (w64 (256 - s)) (w64 (256 - t))) b1 s (w64 (256 - t))) b2 (w64 (256 - s)) t) b3 s t) := by
  have ea : w64 (256 - s) = 256 - s := w64_id (by omega) (by omega)
  have ec : w64 (256 - t) = 256 - t := w64_id (by omega) (by omega)
  rw [ea, ec]
  have hA := mulB (x := 256 - s) (y := 256 - t) (X := 256) (Y := 256) (by omega) (by omega) (by omega) (by omega)
  have hB := mulB (x := s) (y := 256 - t) (X := 255) (Y := 256) (by omega) (by omega) (by omega) (by omega)
  have hC := mulB (x := 256 - s) (y := t) (X := 256) (Y := 255) (by omega) (by omega) (by omega) (by omega)
  have hD := mulB (x := s) (y := t) (X := 255) (Y := 255) (by omega) (by omega) (by omega) (by omega)
  have hsum : (256 - s) * (256 - t) + s * (256 - t) + (256 - s) * t + s * t = 65536 := by
    have e1 : (256 - s) * (256 - t) + s * (256 - t) = 256 * (256 - t) := by rw [← Int.add_mul]; congr 1; omega
    have e2 : (256 - s) * t + s * t = 256 * t := by rw [← Int.add_mul]; congr 1; omega
    omega
  rw [w64_id (n := (256 - s) * (256 - t)) (by omega) (by omega), w64_id (n := s * (256 - t)) (by omega) (by omega), w64_id (n := (256 - s) * t) (by omega) (by omega), w64_id (n := s * t) (by omega) (by omega)]
  generalize hAe : (256 - s) * (256 - t) = A at *
  generalize hBe : s * (256 - t) = B at *
  generalize hCe : (256 - s) * t = C at *
  generalize hDe : s * t = D at *
  have p0 := mulB h0.1 h0.2 (y := A) (Y := A) hA.1 (by omega)
  have p1 := mulB h1.1 h1.2 (y := B) (Y := B) hB.1 (by omega)
  have p2 := mulB h2.1 h2.2 (y := C) (Y := C) hC.1 (by omega)
  have p3 := mulB h3.1 h3.2 (y := D) (Y := D) hD.1 (by omega)
  have r0 : rAdd 32768 b0 (256 - s) (256 - t) = 32768 + b0 * A := by rw [rAdd_eq (by omega) h0 (by omega) (by omega), hAe]
  have r1 : rAdd (32768 + b0 * A) b1 s (256 - t) = 32768 + b0 * A + b1 * B := by rw [rAdd_eq (by omega) h1 (by omega) (by omega), hBe]
  have r2 : rAdd (32768 + b0 * A + b1 * B) b2 (256 - s) t = 32768 + b0 * A + b1 * B + b2 * C := by rw [rAdd_eq (by omega) h2 (by omega) (by omega), hCe]
  have r3 : rAdd (32768 + b0 * A + b1 * B + b2 * C) b3 s t = 32768 + b0 * A + b1 * B + b2 * C + b3 * D := by rw [rAdd_eq (by omega) h3 (by omega) (by omega), hDe]
  rw [r0, r1, r2, r3, addS_eq (by omega) h0 (by omega), addS_eq (by omega) h1 (by omega), addS_eq (by omega) h2 (by omega), addS_eq (by omega) h3 (by omega)]
  generalize b0 * A = z0 at *
  generalize b1 * B = z1 at *
  generalize b2 * C = z2 at *
  generalize b3 * D = z3 at *
  unfold meS rFin
  rw [w64_id (n := 2 * (0 + z0 + z1 + z2 + z3)) (by omega) (by omega), w64_id (n := 2 * (0 + z0 + z1 + z2 + z3) + 65536) (by omega) (by omega), w64_id (n := 2 * 65536) (by omega) (by omega)]
  rw [Int.tdiv_eq_ediv_of_nonneg (a := 2 * (0 + z0 + z1 + z2 + z3) + 65536) (by omega), Int.tdiv_eq_ediv_of_nonneg (a := 32768 + z0 + z1 + z2 + z3) (by omega)]
  have : (2 * (0 + z0 + z1 + z2 + z3) + 65536) / (2 * 65536) = (32768 + z0 + z1 + z2 + z3) / 65536 := by omega
  rw [this]
theorem px_at {p : Pic} {wd ht : Nat} (h : PG p wd ht) {w X Y : Int} : pxCB p.W p.n (onP w X p.W) (onP w Y p.H) = true ∧ (pxF p.W (onP w X p.W) (onP w Y p.H)).toNat = (ont w Y p.H * p.W.toNat + ont w X p.W) * 4 := by
  have hx := ont_lt (w := w) (n := X) (s := wd) (by rw [← h.W]; exact h.siW)
  have hy := ont_lt (w := w) (n := Y) (s := ht) (by rw [← h.H]; exact h.siH)
  have hlt := h.at_lt hx hy (show 3 < 4 by omega)
  have hn := h.n_le
  have e0 : p.W.toNat = wd := by rw [h.W]; simp
  have e : pxF p.W (onP w X p.W) (onP w Y p.H) = (((ont w Y p.H * p.W.toNat + ont w X p.W) * 4 : Nat) : Int) := by
    unfold pxF
    rw [ont_eq h.siH, ont_eq h.siW, e0, h.W, h.H]
    have e1 : ((ont w Y ht : Nat) : Int) * (wd : Int) = ((ont w Y ht * wd : Nat) : Int) := by rw [Int.natCast_mul]
    rw [e1, w64_id (n := ((ont w Y ht * wd : Nat) : Int)) (by omega) (by omega), w64_id (n := ((ont w Y ht * wd : Nat) : Int) + _) (by omega) (by omega), w64_id (by omega) (by omega)]
    omega
  have hN : (ont w Y p.H * p.W.toNat + ont w X p.W) * 4 + 3 < p.n := by rw [e0, h.W, h.H]; exact hlt
  refine ⟨?_, by rw [e]; exact Int.toNat_natCast _⟩
  unfold pxCB pxB sbB
  rw [e]
  generalize (ont w Y p.H * p.W.toNat + ont w X p.W) * 4 = N at hN
  rw [w64_id (by omega) (by omega)]
  simp only [Option.getD_some, Bool.and_eq_true, decide_eq_true_eq]
  omega
theorem bt_rng {p : Pic} {wd ht : Nat} (h : PG p wd ht) {w X Y : Int} {j i k : Nat} (hk : k < 4) : 0 ≤ bt p w X Y j i k ∧ bt p w X Y j i k ≤ 255 := by
  have hx := ont_lt (w := w) (n := X + i) (s := wd) (by rw [← h.W]; exact h.siW)
  have hy := ont_lt (w := w) (n := Y + j) (s := ht) (by rw [← h.H]; exact h.siH)
  have hlt := h.at_lt hx hy hk
  have e0 : p.W.toNat = wd := by rw [h.W]; simp
  refine h.px _ ?_
  rw [e0, h.W, h.H]
  exact hlt
/-- What the code gives, where a place may be asked for. -/
theorem at_good {p : Pic} {w u v : Int} (h : matS p.W p.H p.n w u v = 0) (hpx : ∀ i, i < p.n → 0 ≤ p.px i ∧ p.px i ≤ 255) : FSpec Try.prog 7 [.agg p.c, iA w, iA u, iA v]
    (.tup [.agg [yA (rB p w (xQ u) (xQ v) (xR u) (xR v) 0), yA (rB p w (xQ u) (xQ v) (xR u) (xR v) 1), yA (rB p w (xQ u) (xQ v) (xR u) (xR v) 2), yA (rB p w (xQ u) (xQ v) (xR u) (xR v) 3)], iA 0]) := by
  obtain ⟨h1, h2, h3⟩ := mat_zero h
  have hg := may_pg h1 hpx
  obtain ⟨hu, hv⟩ := uv_rng h3
  obtain ⟨i1, i2, i3⟩ := xQ_in hu
  obtain ⟨j1, j2, j3⟩ := xQ_in hv
  refine gspecM (e_cons gMat_ok e_nil) (k_cons kCe_ok (k_cons kOn_ok (k_cons kPx_ok (k_cons kMe_ok k_nil)))) (m_cons mAdd_ok m_nil) Try.func7 (by kernel_rfl) (by kernel_rfl) noL_ok rfl ((at_ev matS onP q256 r256 addS meS p w u v).trans ?_)
  have e1 : w64 (u - 128) = u - 128 := w64_id (by omega) (by omega)
  have e2 : w64 (v - 128) = v - 128 := w64_id (by omega) (by omega)
  have e3 : q256 (u - 128) = xQ u := rfl
  have e4 : q256 (v - 128) = xQ v := rfl
  have e5 : r256 (u - 128) = xR u := rfl
  have e6 : r256 (v - 128) = xR v := rfl
  have a1 := inB_rng i1
  have a2 := inB_rng j1
  have e7 : w64 (xQ u + 1) = xQ u + 1 := w64_id (by omega) (by omega)
  have e8 : w64 (xQ v + 1) = xQ v + 1 := w64_id (by omega) (by omega)
  rw [h, e1, e2, e3, e4, e5, e6, e7, e8, i1, i2, i3, j1, j2, j3, hg.siW, hg.siH]
  have q00 := px_at hg (w := w) (X := xQ u) (Y := xQ v)
  have q10 := px_at hg (w := w) (X := xQ u + 1) (Y := xQ v)
  have q01 := px_at hg (w := w) (X := xQ u) (Y := xQ v + 1)
  have q11 := px_at hg (w := w) (X := xQ u + 1) (Y := xQ v + 1)
  have hs : 0 ≤ xR u ∧ xR u ≤ 255 := by unfold xR; omega
  have ht : 0 ≤ xR v ∧ xR v ≤ 255 := by unfold xR; omega
  have key : ∀ k : Nat, k < 4 → meS (atSum addS p.px (pxF p.W (onP w (xQ u) p.W) (onP w (xQ v) p.H)).toNat (pxF p.W (onP w (xQ u + 1) p.W) (onP w (xQ v) p.H)).toNat (pxF p.W (onP w (xQ u) p.W) (onP w (xQ v + 1) p.H)).toNat (pxF p.W (onP w (xQ u + 1) p.W) (onP w (xQ v + 1) p.H)).toNat
      (w64 (w64 (256 - xR u) * w64 (256 - xR v))) (w64 (xR u * w64 (256 - xR v))) (w64 (w64 (256 - xR u) * xR v)) (w64 (xR u * xR v)) k) 65536 = rB p w (xQ u) (xQ v) (xR u) (xR v) k := by
    intro k hk
    rw [q00.2, q10.2, q01.2, q11.2]
    have c0 : ∀ z : Int, z + ((0 : Nat) : Int) = z := fun z => by omega
    have b00 := bt_rng hg (w := w) (X := xQ u) (Y := xQ v) (j := 0) (i := 0) hk
    have b01 := bt_rng hg (w := w) (X := xQ u) (Y := xQ v) (j := 0) (i := 1) hk
    have b10 := bt_rng hg (w := w) (X := xQ u) (Y := xQ v) (j := 1) (i := 0) hk
    have b11 := bt_rng hg (w := w) (X := xQ u) (Y := xQ v) (j := 1) (i := 1) hk
    have := at_num b00 b01 b10 b11 hs ht
    unfold rB rTot atSum
    rw [← this]
    unfold bt
    simp only [c0]
    rfl
  unfold atOut
  rw [q00.1, q10.1, q01.1, q11.1, key 0 (by omega), key 1 (by omega), key 2 (by omega), key 3 (by omega)]
  rfl
end Go.Proofs.Ytkibceiellnggaa
