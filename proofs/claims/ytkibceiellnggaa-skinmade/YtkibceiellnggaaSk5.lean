/-
  The colour at a place: the answer's loops.
-/
import Derived.Test.YtkibceiellnggaaSk4
namespace Go.Proofs.Ytkibceiellnggaa
open Go.Gv

/-- A picture that may be. -/
structure PG (p : Pic) (wd ht : Nat) : Prop where
  W : p.W = wd
  H : p.H = ht
  w1 : 1 ≤ wd
  w64 : wd ≤ 64
  h1 : 1 ≤ ht
  h64 : ht ≤ 64
  n : p.n = wd * ht * 4
  px : ∀ i, i < p.n → 0 ≤ p.px i ∧ p.px i ≤ 255
theorem PG.siW {p : Pic} {wd ht : Nat} (h : PG p wd ht) : siB p.W = true := by
  have := h.w1; have := h.w64
  unfold siB; rw [h.W]; simp; omega
theorem PG.siH {p : Pic} {wd ht : Nat} (h : PG p wd ht) : siB p.H = true := by
  have := h.h1; have := h.h64
  unfold siB; rw [h.H]; simp; omega
/-- Which pixel stands for one, along a side. -/
def ont (w n : Int) (s : Int) : Nat := (onP w n s).toNat
theorem ont_eq {w n s : Int} (hs : siB s = true) : onP w n s = (ont w n s : Nat) := by
  have := (onP_rng (w := w) (n := n) hs).1
  unfold ont; omega
theorem ont_lt {w n : Int} {s : Nat} (hs : siB s = true) : ont w n s < s := by
  have h1 := (onP_rng (w := w) (n := n) hs).2
  rw [ont_eq hs] at h1
  omega
theorem PG.at_lt {p : Pic} {wd ht : Nat} (h : PG p wd ht) {x y k : Nat} (hx : x < wd) (hy : y < ht) (hk : k < 4) : (y * wd + x) * 4 + k < p.n := by
  rw [h.n]
  have h1 : (y + 1) * wd ≤ ht * wd := Nat.mul_le_mul_right _ hy
  rw [Nat.succ_mul] at h1
  rw [Nat.mul_comm wd ht]
  omega
theorem PG.n_le {p : Pic} {wd ht : Nat} (h : PG p wd ht) : p.n ≤ 16384 := by
  rw [h.n]
  have : wd * ht ≤ 64 * 64 := Nat.mul_le_mul h.w64 h.h64
  omega
/-- The byte k of the pixel that stands for (X + i, Y + j). -/
def bt (p : Pic) (w X Y : Int) (j i k : Nat) : Int := p.px ((ont w (Y + j) p.H * p.W.toNat + ont w (X + i) p.W) * 4 + k)
theorem rIx_eq {p : Pic} {wd ht : Nat} (h : PG p wd ht) {w X Y : Int} {j i k : Nat} (hY : inB Y = true) (hX : inB X = true) (hj : j < 2) (hi : i < 2) (hk : k < 4) :
    rIx onP p w X Y j i k = (((ont w (Y + j) p.H * p.W.toNat + ont w (X + i) p.W) * 4 + k : Nat) : Int) ∧ (ont w (Y + j) p.H * p.W.toNat + ont w (X + i) p.W) * 4 + k < p.n := by
  have hY' := inB_rng hY
  have hX' := inB_rng hX
  have hx := ont_lt (w := w) (n := X + i) (s := wd) (by rw [← h.W]; exact h.siW)
  have hy := ont_lt (w := w) (n := Y + j) (s := ht) (by rw [← h.H]; exact h.siH)
  have hlt := h.at_lt hx hy hk
  have hn := h.n_le
  have e0 : p.W.toNat = wd := by rw [h.W]; simp
  unfold rIx
  rw [w64_id (n := Y + j) (by omega) (by omega), w64_id (n := X + i) (by omega) (by omega), ont_eq h.siH, ont_eq h.siW, e0, h.W, h.H]
  refine ⟨?_, hlt⟩
  have e1 : ((ont w (Y + j) ht : Nat) : Int) * (wd : Int) = ((ont w (Y + j) ht * wd : Nat) : Int) := by rw [Int.natCast_mul]
  rw [e1, w64_id (n := ((ont w (Y + j) ht * wd : Nat) : Int)) (by omega) (by omega), w64_id (n := ((ont w (Y + j) ht * wd : Nat) : Int) + _) (by omega) (by omega), w64_id (n := 4 * _) (by omega) (by omega), w64_id (by omega) (by omega)]
  omega
theorem rStep_eq {p : Pic} {wd ht : Nat} (h : PG p wd ht) {w X Y : Int} {j i k : Nat} (hY : inB Y = true) (hX : inB X = true) (hY1 : inB (Y + 1) = true) (hX1 : inB (X + 1) = true) (hj : j < 2) (hi : i < 2) (hk : k < 4) (cont : Int → Option Out) :
    rStep onP p w X Y j i k cont = cont (bt p w X Y j i k) := by
  obtain ⟨e1, e2⟩ := rIx_eq h (w := w) hY hX hj hi hk
  have hY' := inB_rng hY
  have hX' := inB_rng hX
  have c1 : inB (w64 (Y + j)) = true := by
    rw [w64_id (by omega) (by omega)]
    have : j = 0 ∨ j = 1 := by omega
    rcases this with rfl | rfl
    · simpa using hY
    · simpa using hY1
  have c2 : inB (w64 (X + i)) = true := by
    rw [w64_id (by omega) (by omega)]
    have : i = 0 ∨ i = 1 := by omega
    rcases this with rfl | rfl
    · simpa using hX
    · simpa using hX1
  unfold rStep
  rw [c1, c2, h.siH, h.siW, e1, dec_nonneg, dec_lt e2, Int.toNat_natCast]
  rfl
/-! ### The loop over j -/
def rTot (p : Pic) (w X Y s t : Int) (k : Nat) : Int := rAdd (rAdd (rAdd (rAdd 32768 (bt p w X Y 0 0 k) (w64 (256 - s)) (w64 (256 - t))) (bt p w X Y 0 1 k) s (w64 (256 - t))) (bt p w X Y 1 0 k) (w64 (256 - s)) t) (bt p w X Y 1 1 k) s t
def jS (p : Pic) (w X Y s t : Int) (k : Nat) (m : Nat) (el : Nat → List AV) : Nat → St
  | 0 => ainS p w X Y s t (k : Nat) 32768 0 m el
  | 1 => ainS p w X Y s t (k : Nat) (rAdd (rAdd 32768 (bt p w X Y 0 0 k) (w64 (256 - s)) (w64 (256 - t))) (bt p w X Y 0 1 k) s (w64 (256 - t))) 1 m el
  | _ => ainS p w X Y s t (k : Nat) (rTot p w X Y s t k) 2 m el
theorem aj_leads {p : Pic} {wd ht : Nat} (h : PG p wd ht) {w X Y : Int} (s t : Int) {k : Nat} (m : Nat) (el : Nat → List AV) (hY : inB Y = true) (hX : inB X = true) (hY1 : inB (Y + 1) = true) (hX1 : inB (X + 1) = true) (hk : k < 4) :
    Leads Try.prog (.loop (loopAt Try.f8 1)) (ainS p w X Y s t (k : Nat) 32768 0 m el) (.exit 2) (ainS p w X Y s t (k : Nat) (rTot p w X Y s t k) 2 m el) := by
  refine loop_rule (jS p w X Y s t k m el) 2 (.exit 2) _ (by simp) (fun j hj => ?_) ?_
  · have : j = 0 ∨ j = 1 := by omega
    rcases this with rfl | rfl
    · refine leads_ev (finN_sub keepAi [some 0, some 1]) e_nil (k_cons kWr_ok k_nil) noL_ok ((aj0_ev onP p w X Y s t (k : Nat) 32768 m el).trans ?_)
      exact (rStep_eq h (j := 0) (i := 0) hY hX hY1 hX1 (by omega) (by omega) hk _).trans (rStep_eq h (j := 0) (i := 1) hY hX hY1 hX1 (by omega) (by omega) hk _)
    · refine leads_ev (finN_sub keepAi [some 0, some 1]) e_nil (k_cons kWr_ok k_nil) noL_ok ((aj1_ev onP p w X Y s t (k : Nat) _ m el).trans ?_)
      exact (rStep_eq h (j := 1) (i := 0) hY hX hY1 hX1 (by omega) (by omega) hk _).trans (rStep_eq h (j := 1) (i := 1) hY hX hY1 hX1 (by omega) (by omega) hk _)
  · exact leads_ev (finX_sub keepAi [some 0, some 1]) e_nil k_nil noL_ok (aj2_ev p w X Y s t (k : Nat) _ m el)
end Go.Proofs.Ytkibceiellnggaa
