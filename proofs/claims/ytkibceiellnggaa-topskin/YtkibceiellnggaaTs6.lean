/-
  The law TopSkin: strings of four bytes; the colours that are asked for.
-/
import Derived.Test.YtkibceiellnggaaTs5
namespace Go.Proofs.Ytkibceiellnggaa
open Go.Gv

theorem str4 (g : Nat → Int) : (strF 4 g).data.toList = [UInt8.ofNat (g 0).toNat, UInt8.ofNat (g 1).toNat, UInt8.ofNat (g 2).toNat, UInt8.ofNat (g 3).toNat] := by
  rw [strF_eq]
  rfl
theorem str4_size (g : Nat → Int) : (strF 4 g).size = 4 := by
  have : (strF 4 g).size = (strF 4 g).data.toList.length := rfl
  rw [this, str4]
  rfl
theorem u8_back {n : Int} (h : 0 ≤ n ∧ n ≤ 255) : ((UInt8.ofNat n.toNat).toNat : Int) = n := by
  rw [UInt8.toNat_ofNat']
  omega
theorem str4_at {g : Nat → Int} {i : Nat} (hi : i < 4) (h : 0 ≤ g i ∧ g i ≤ 255) : byAt (strF 4 g) i = g i := by
  unfold byAt
  rw [str4]
  match i, hi with
  | 0, _ => exact u8_back h
  | 1, _ => exact u8_back h
  | 2, _ => exact u8_back h
  | 3, _ => exact u8_back h
theorem four4_at (a b c d : Int) (g : Nat → Int) (h0 : a = g 0) (h1 : b = g 1) (h2 : c = g 2) (h3 : d = g 3) : strF 4 (four4 a b c d) = strF 4 g := strF_congr fun i hi => by
  match i, hi with
  | 0, _ => exact h0
  | 1, _ => exact h1
  | 2, _ => exact h2
  | 3, _ => exact h3
def pixS (p : Pic) (wd X Y : Nat) (i : Nat) : Int := p.px ((Y * wd + X) * 4 + i)
/-- In the middle of a pixel. -/
theorem at_place {p : Pic} {wd ht : Nat} (h : PG p wd ht) {w u v : Int} {X Y : Nat} (hu : xR u = 0) (hv : xR v = 0) (hX : onP w (xQ u) wd = (X : Nat)) (hY : onP w (xQ v) ht = (Y : Nat)) : strA atS p w u v = strF 4 (pixS p wd X Y) := by
  have key : ∀ i, i < 4 → atS p.W p.H p.n (fun i => [yA (p.px i)]) w u v i = pixS p wd X Y i := fun i hi => by
    show rB p w (xQ u) (xQ v) (xR u) (xR v) i = _
    rw [hu, hv, rB_mid h hi]
    unfold bt ont pixS
    have e1 : xQ v + ((0 : Nat) : Int) = xQ v := by omega
    have e2 : xQ u + ((0 : Nat) : Int) = xQ u := by omega
    rw [e1, e2, h.W, h.H, hX, hY, Int.toNat_natCast, Int.toNat_natCast, Int.toNat_natCast]
  exact four4_at _ _ _ _ _ (key 0 (by omega)) (key 1 (by omega)) (key 2 (by omega)) (key 3 (by omega))
theorem mat_ok {p : Pic} {wd ht : Nat} (h : PG p wd ht) {w u v : Int} (hw : 0 ≤ w ∧ w < 3) (hu : -1073741824 ≤ u ∧ u ≤ 1073741824) (hv : -1073741824 ≤ v ∧ v ≤ 1073741824) : matS p.W p.H p.n w u v = 0 := by
  have e1 : wayS w = false := by
    have : w = 0 ∨ w = 1 ∨ w = 2 := by omega
    rcases this with rfl | rfl | rfl <;> rfl
  have e2 : uvS u v = false := by
    unfold uvS
    rw [decide_eq_false (show ¬ u < -1073741824 by omega), decide_eq_false (show ¬ u > 1073741824 by omega), decide_eq_false (show ¬ v < -1073741824 by omega), decide_eq_false (show ¬ v > 1073741824 by omega)]
    rfl
  unfold matS
  rw [may_zero h, e1, e2]
  rfl
theorem at_ask {p : Pic} {wd ht : Nat} (h : PG p wd ht) {w u v : Int} (hw : 0 ≤ w ∧ w < 3) (hu : -1073741824 ≤ u ∧ u ≤ 1073741824) (hv : -1073741824 ≤ v ∧ v ≤ 1073741824) : FSpec Try.prog 7 (aP p w u v) (atG atS (aP p w u v)) :=
  at_good (mat_ok h hw hu hv) h.px
/-- Of a picture that is the same everywhere. -/
theorem at_same {p : Pic} {wd ht : Nat} (h : PG p wd ht) {w u v : Int} {c : Nat → Int} (hc : ∀ i, i < p.n → p.px i = c (i % 4)) : strA atS p w u v = strF 4 c := by
  have key : ∀ k, k < 4 → atS p.W p.H p.n (fun i => [yA (p.px i)]) w u v k = c k := fun k hk => by
    show rB p w (xQ u) (xQ v) (xR u) (xR v) k = _
    refine rB_all h hk (by unfold xR; omega) (by unfold xR; omega) fun j i => ?_
    unfold bt
    have hx := ont_lt (w := w) (n := xQ u + i) (s := wd) (by rw [← h.W]; exact h.siW)
    have hy := ont_lt (w := w) (n := xQ v + j) (s := ht) (by rw [← h.H]; exact h.siH)
    have hlt := h.at_lt hx hy hk
    have e0 : p.W.toNat = wd := by rw [h.W]; simp
    rw [e0, h.W, h.H, hc _ hlt]
    congr 1
    omega
  exact four4_at _ _ _ _ _ (key 0 (by omega)) (key 1 (by omega)) (key 2 (by omega)) (key 3 (by omega))
theorem nS_same {a c : ByteArray} (h : a = c) : nS a c = false := by
  unfold nS
  rw [h, BEq.rfl]
  rfl
end Go.Proofs.Ytkibceiellnggaa
