/-
  Floats: what is written is the exact value, rounded once (see Fl4).
-/
import Derived.Test.YtenaeijehjnfeaaFl4
namespace Go.Ev
open Ieee

theorem log2_half (n : Nat) : (n / 2).log2 = n.log2 - 1 := by
  rw [Nat.log2_def n]
  by_cases h : n ≥ 2
  · rw [if_pos h]; simp
  · rw [if_neg h]
    have : n / 2 = 0 := by omega
    rw [this]; simp
theorem log2_div (n : Nat) : ∀ v, (n / 2 ^ v).log2 = n.log2 - v
  | 0 => by simp
  | v + 1 => by rw [Nat.pow_succ, ← Nat.div_div_eq_div_mul, log2_half, log2_div n v]; omega

theorem nearest_rq0 (s : Bool) (m u : Nat) (p : Int) (hp : p = u - 1074) : double.nearest s m p = double.word s (min (rq 52 (m * 2 ^ u) 1) double.infRung) := by
  by_cases hm : m = 0
  · subst hm; rw [nearest_zero, Nat.zero_mul, rq_zero 52 (by decide), Nat.zero_min]
  · have hl : (m * 2 ^ u / 1).log2 = m.log2 + u := by rw [Nat.div_one, ← Nat.shiftLeft_eq, log2_shl u hm]
    have e1 : (max (p + m.log2 - (double.fractionBits : Int)) double.leastPlace - double.leastPlace).toNat = m.log2 + u - 52 := by rw [leastP, fracB]; omega
    have e2 : (p - max (p + m.log2 - (double.fractionBits : Int)) double.leastPlace).toNat = u - (m.log2 + u - 52) := by rw [leastP, fracB]; omega
    have e3 : (max (p + m.log2 - (double.fractionBits : Int)) double.leastPlace - p).toNat = (m.log2 + u - 52) - u := by rw [leastP, fracB]; omega
    unfold Format.nearest rq
    rw [if_neg hm, hl]
    simp only [e1, e2, e3]
    generalize m.log2 + u - 52 = l
    rw [cut_rnd, Nat.shiftLeft_eq, Nat.one_mul]
    have : rnd (m * 2 ^ (u - l)) (2 ^ (l - u)) = rnd (m * 2 ^ u) (2 ^ l) := by
      rw [← rnd_mul _ _ (Nat.two_pow_pos (min u l)), Nat.mul_assoc, ← Nat.pow_add, ← Nat.pow_add]
      congr 3 <;> omega
    rw [this]
    rfl

theorem nearest_rq1 (s : Bool) (m v : Nat) (p : Int) (hp : p = -1074 - v) : double.nearest s m p = double.word s (min (rq 52 m (2 ^ v)) double.infRung) := by
  by_cases hm : m = 0
  · subst hm; rw [nearest_zero, rq_zero 52 (Nat.two_pow_pos _), Nat.zero_min]
  · have e1 : (max (p + m.log2 - (double.fractionBits : Int)) double.leastPlace - double.leastPlace).toNat = m.log2 - v - 52 := by rw [leastP, fracB]; omega
    have e2 : (p - max (p + m.log2 - (double.fractionBits : Int)) double.leastPlace).toNat = 0 := by rw [leastP, fracB]; omega
    have e3 : (max (p + m.log2 - (double.fractionBits : Int)) double.leastPlace - p).toNat = v + (m.log2 - v - 52) := by rw [leastP, fracB]; omega
    unfold Format.nearest rq
    rw [if_neg hm, log2_div]
    simp only [e1, e2, e3]
    rw [cut_rnd, Nat.shiftLeft_eq, Nat.pow_zero, Nat.mul_one, Nat.pow_add]
    rfl

/-- What is written of 'm * 2 ^ p', with 'p + 1074 = u - v'. -/
theorem nearest_rq (s : Bool) (m u v : Nat) (p : Int) (hp : p + 1074 = u - v) : double.nearest s m p = double.word s (min (rq 52 (m * 2 ^ u) (2 ^ v)) double.infRung) := by
  by_cases h : v ≤ u
  · rw [nearest_rq0 s m (u - v) p (by omega)]
    have := rq_mul 52 (m * 2 ^ (u - v)) 1 (Nat.two_pow_pos v)
    rw [Nat.mul_assoc, ← Nat.pow_add, Nat.one_mul, Nat.sub_add_cancel h] at this
    rw [this]
  · rw [nearest_rq1 s m (v - u) p (by omega)]
    have := rq_mul 52 m (2 ^ (v - u)) (Nat.two_pow_pos u)
    rw [← Nat.pow_add, Nat.sub_add_cancel (by omega)] at this
    rw [this]

theorem log2_of_iff {x y : Nat} (h : ∀ k, 2 ^ k ≤ x ↔ 2 ^ k ≤ y) : x.log2 = y.log2 := by
  by_cases hx : x = 0
  · have : y = 0 := by
      by_cases hy : y = 0
      · exact hy
      · have := (h 0).2 (by rw [Nat.pow_zero]; omega)
        rw [Nat.pow_zero] at this; omega
    rw [hx, this]
  · have hy : y ≠ 0 := by
      have := (h 0).1 (by rw [Nat.pow_zero]; omega)
      rw [Nat.pow_zero] at this; omega
    exact Nat.le_antisymm ((Nat.le_log2 hy).2 ((h _).1 (Nat.log2_self_le hx))) ((Nat.le_log2 hx).2 ((h _).2 (Nat.log2_self_le hy)))

theorem rq_sticky (b d n u v : Nat) (hn : 0 < n) (hq : 2 ^ (b + 1) ≤ d / n) : rq b ((2 * (d / n) + (d % n != 0).toNat) * 2 ^ u) (2 ^ v) = rq b (2 * d * 2 ^ u) (n * 2 ^ v) := by
  have hp : 0 < 2 ^ (b + 1) := Nat.two_pow_pos _
  have hst := toNat_le_one (d % n != 0)
  have hlog : ((2 * (d / n) + (d % n != 0).toNat) * 2 ^ u / 2 ^ v).log2 = (2 * d * 2 ^ u / (n * 2 ^ v)).log2 := by
    refine log2_of_iff fun k => ?_
    rw [Nat.le_div_iff_mul_le (Nat.two_pow_pos _), Nat.le_div_iff_mul_le (Nat.mul_pos hn (Nat.two_pow_pos _)), ← Nat.pow_add, Nat.mul_left_comm, ← Nat.pow_add]
    have hnd : n ≤ d := by
      have := (Nat.le_div_iff_mul_le hn (x := 1) (y := d)).1 (by omega)
      omega
    by_cases hk : k + v ≤ u
    · have hle : 2 ^ (k + v) ≤ 2 ^ u := Nat.pow_le_pow_right (by decide) hk
      constructor
      · intro _; exact Nat.le_trans (Nat.mul_le_mul hnd hle) (Nat.mul_le_mul_right _ (by omega))
      · intro _
        exact Nat.le_trans hle (Nat.le_mul_of_pos_left _ (by omega))
    · obtain ⟨w, hw⟩ : ∃ w, k + v = w + 1 + u := ⟨k + v - u - 1, by omega⟩
      rw [hw, Nat.pow_add, ← Nat.mul_assoc, Nat.mul_le_mul_right_iff (Nat.two_pow_pos u), Nat.mul_le_mul_right_iff (Nat.two_pow_pos u), Nat.pow_succ]
      have hiff := Nat.le_div_iff_mul_le hn (x := 2 ^ w) (y := d)
      have e : n * (2 ^ w * 2) = 2 * (2 ^ w * n) := by rw [Nat.mul_comm, Nat.mul_assoc, Nat.mul_left_comm]
      rw [e]
      omega
  have hl : u + 2 ≤ v + (((2 * (d / n) + (d % n != 0).toNat) * 2 ^ u / 2 ^ v).log2 - b) := by
    by_cases h : v ≤ b + 2 + u
    · have h1 : 2 ^ (b + 2 + u - v) ≤ (2 * (d / n) + (d % n != 0).toNat) * 2 ^ u / 2 ^ v := by
        rw [Nat.le_div_iff_mul_le (Nat.two_pow_pos _), ← Nat.pow_add, Nat.sub_add_cancel h, Nat.pow_add]
        refine Nat.mul_le_mul_right _ ?_
        rw [Nat.pow_succ]; omega
      have h0 : (2 * (d / n) + (d % n != 0).toNat) * 2 ^ u / 2 ^ v ≠ 0 := by
        have := Nat.two_pow_pos (b + 2 + u - v)
        intro h0; rw [h0] at h1; omega
      have := (Nat.le_log2 h0).2 h1
      omega
    · omega
  unfold rq
  rw [hlog] at hl ⊢
  generalize (2 * d * 2 ^ u / (n * 2 ^ v)).log2 - b = l at hl
  obtain ⟨k, hk⟩ : ∃ k, v + l = k + 2 + u := ⟨v + l - u - 2, by omega⟩
  congr 1
  rw [← Nat.pow_add, Nat.mul_assoc n, ← Nat.pow_add, hk, Nat.pow_add, rnd_mul _ _ (Nat.two_pow_pos u), rnd_sticky d n k hn, ← Nat.mul_assoc, rnd_mul _ _ (Nat.two_pow_pos u)]
  have := rnd_mul d (n * 2 ^ (k + 1)) (c := 2) (by decide)
  rw [← this, Nat.mul_comm d 2, Nat.mul_assoc n, ← Nat.pow_succ]
end Go.Ev
