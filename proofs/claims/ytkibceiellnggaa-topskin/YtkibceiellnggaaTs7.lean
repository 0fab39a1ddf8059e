/-
  Half of a picture that is the same everywhere is the same.
-/
import Derived.Test.YtkibceiellnggaaTs6
namespace Go.Proofs.Ytkibceiellnggaa
open Go.Gv

theorem accX_same {p : Pic} {wd ht : Nat} (h : PG p wd ht) {c : Nat → Int} (hc : ∀ i, i < p.n → p.px i = c (i % 4)) {x y k : Nat} (hy : y < ht) (hk : k < 4) : ∀ m : Nat, x + m ≤ wd → accX p wd x y k m = (m : Int) * c k
  | 0, _ => by simp [accX]
  | m + 1, hm => by
    have hlt := h.at_lt (x := x + m) (y := y) (k := k) (by omega) hy hk
    rw [accX, accX_same h hc hy hk m (by omega), hc _ hlt, show ((y * wd + (x + m)) * 4 + k) % 4 = k by omega]
    have : ((m + 1 : Nat) : Int) = (m : Int) + 1 := by omega
    rw [this, Int.add_mul, Int.one_mul]
theorem accY_same {p : Pic} {wd ht : Nat} (h : PG p wd ht) {c : Nat → Int} (hc : ∀ i, i < p.n → p.px i = c (i % 4)) {x y nx k : Nat} (hx : x + nx ≤ wd) (hk : k < 4) : ∀ m : Nat, y + m ≤ ht → accY p wd x y nx k m = (m : Int) * ((nx : Int) * c k)
  | 0, _ => by simp [accY]
  | m + 1, hm => by
    rw [accY, accY_same h hc hx hk m (by omega), accX_same h hc (by omega) hk nx hx]
    have : ((m + 1 : Nat) : Int) = (m : Int) + 1 := by omega
    rw [this, Int.add_mul, Int.one_mul]
theorem meS_same {c : Int} {cnt : Nat} (hc : 0 ≤ c ∧ c ≤ 255) (h1 : 1 ≤ cnt) (h4 : cnt ≤ 4) : meS ((cnt : Int) * c) cnt = c := by
  have e : IntKind.u8.wrap c = c := by
    have e : IntKind.u8.wrap c = c % 256 := by
      unfold IntKind.wrap
      simp only [IntKind.bits, IntKind.signed, Bool.false_and]
      rfl
    rw [e]; omega
  have key : ∀ d : Int, 1 ≤ d → d ≤ 4 → w64 ((w64 (w64 (2 * (d * c)) + d)).tdiv (w64 (2 * d))) = c := fun d hd1 hd4 => by
    have hm := mulB (x := d) (y := c) (X := 4) (Y := 255) (by omega) hd4 hc.1 hc.2
    rw [w64_id (n := 2 * (d * c)) (by omega) (by omega), w64_id (n := 2 * (d * c) + d) (by omega) (by omega), w64_id (n := 2 * d) (by omega) (by omega), Int.tdiv_eq_ediv_of_nonneg (by omega)]
    have hd : d = 1 ∨ d = 2 ∨ d = 3 ∨ d = 4 := by omega
    have : (2 * (d * c) + d) / (2 * d) = c := by rcases hd with rfl | rfl | rfl | rfl <;> omega
    rw [this]
    exact w64_id (by omega) (by omega)
  unfold meS
  rw [key cnt (by omega) (by omega), e]
theorem c_rng {p : Pic} {wd ht : Nat} (h : PG p wd ht) {c : Nat → Int} (hc : ∀ i, i < p.n → p.px i = c (i % 4)) {k : Nat} (hk : k < 4) : 0 ≤ c k ∧ c k ≤ 255 := by
  have hlt := h.at_lt (x := 0) (y := 0) (k := k) (by have := h.w1; omega) (by have := h.h1; omega) hk
  have h1 := h.px _ hlt
  rw [hc _ hlt, show ((0 * wd + 0) * 4 + k) % 4 = k by omega] at h1
  exact h1
theorem hpic_same {p : Pic} {wd ht : Nat} (h : PG p wd ht) {c : Nat → Int} (hc : ∀ i, i < p.n → p.px i = c (i % 4)) : ∀ i, i < (hpic p wd ht).n → (hpic p wd ht).px i = c (i % 4) := fun i hi => by
  have hi : i < half2 wd * half2 ht * 4 := hi
  have w1 : 0 < half2 wd := by have := h.w1; unfold half2; omega
  have hX : i / 4 % half2 wd < half2 wd := Nat.mod_lt _ w1
  have hY : i / 4 / half2 wd < half2 ht := Nat.div_lt_of_lt_mul (by omega)
  have hx := half2_lt hX
  have hy := half2_lt hY
  have hk : i % 4 < 4 := by omega
  have hr := c_rng h hc hk
  show hpx p wd ht i = _
  unfold hpx hbt
  rw [accY_same h hc (by omega) hk _ (by omega), ← Int.mul_assoc, ← Int.natCast_mul]
  have h1 : 1 * 1 ≤ min 2 (ht - 2 * (i / 4 / half2 wd)) * min 2 (wd - 2 * (i / 4 % half2 wd)) := Nat.mul_le_mul (by omega) (by omega)
  have h2 : min 2 (ht - 2 * (i / 4 / half2 wd)) * min 2 (wd - 2 * (i / 4 % half2 wd)) ≤ 2 * 2 := Nat.mul_le_mul (by omega) (by omega)
  exact meS_same hr (by omega) (by omega)
theorem hp_same {p : Pic} {wd ht : Nat} (h : PG p wd ht) {c : Nat → Int} (hc : ∀ i, i < p.n → p.px i = c (i % 4)) : ∀ k i, i < (hp p wd ht k).n → (hp p wd ht k).px i = c (i % 4)
  | 0 => hc
  | k + 1 => hpic_same (hp_pg h k) (hp_same h hc k)
end Go.Proofs.Ytkibceiellnggaa
