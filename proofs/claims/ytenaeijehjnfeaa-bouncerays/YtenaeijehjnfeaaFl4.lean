/-
  Floats: rounding is monotone. A word's key (its rung with its sign) orders the words; what is added, taken off, multiplied or divided is the exact value, rounded once.
-/
import Derived.Test.YtenaeijehjnfeaaFl2
namespace Go.Ev
open Ieee

/-- 'a / g' to the nearest whole number, between two to the even one. -/
def rnd (a g : Nat) : Nat := a / g + (decide (g < 2 * (a % g)) || (g == 2 * (a % g) && a / g % 2 == 1)).toNat

theorem rnd_small {a g : Nat} (h : 2 * a < g) : rnd a g = 0 := by
  have h1 : a / g = 0 := Nat.div_eq_of_lt (by omega)
  have h2 : a % g = a := Nat.mod_eq_of_lt (by omega)
  have h3 : decide (g < 2 * a) = false := decide_eq_false (by omega)
  have h4 : (g == 2 * a) = false := by simp; omega
  unfold rnd
  rw [h1, h2, h3, h4]; rfl

theorem toNat_le_one (b : Bool) : b.toNat ≤ 1 := by cases b <;> decide
theorem rnd_le (a g : Nat) : rnd a g ≤ a / g + 1 := Nat.add_le_add_left (toNat_le_one _) _
theorem le_rnd (a g : Nat) : a / g ≤ rnd a g := Nat.le_add_right _ _

theorem rnd_mono {a b g : Nat} (h : a ≤ b) : rnd a g ≤ rnd b g := by
  have hd : a / g ≤ b / g := Nat.div_le_div_right h
  rcases Nat.eq_or_lt_of_le hd with e | e
  · have h1 := Nat.div_add_mod a g
    have h2 := Nat.div_add_mod b g
    have hm : a % g ≤ b % g := by rw [e] at h1; omega
    unfold rnd
    rw [e]
    refine Nat.add_le_add_left ?_ _
    cases hx : (decide (g < 2 * (a % g)) || (g == 2 * (a % g) && b / g % 2 == 1))
    · exact Nat.zero_le _
    · have : (decide (g < 2 * (b % g)) || (g == 2 * (b % g) && b / g % 2 == 1)) = true := by
        simp only [Bool.or_eq_true, Bool.and_eq_true, decide_eq_true_eq, beq_iff_eq] at hx ⊢
        omega
      rw [this]; exact Nat.le_refl _
  · exact Nat.le_trans (rnd_le a g) (Nat.le_trans e (le_rnd b g))

theorem rnd_mul (a g : Nat) {c : Nat} (hc : 0 < c) : rnd (a * c) (g * c) = rnd a g := by
  unfold rnd
  rw [Nat.mul_div_mul_right _ _ hc, Nat.mul_mod_mul_right]
  have h1 : decide (g * c < 2 * (a % g * c)) = decide (g < 2 * (a % g)) := by
    rw [← Nat.mul_assoc]
    exact decide_eq_decide.2 (Nat.mul_lt_mul_right hc)
  have h2 : (g * c == 2 * (a % g * c)) = (g == 2 * (a % g)) := by
    rw [← Nat.mul_assoc, Bool.eq_iff_iff, beq_iff_eq, beq_iff_eq]
    exact Nat.mul_left_inj (by omega)
  rw [h1, h2]

theorem cut_rnd (s : Bool) (n d : Nat) : Toward.even.cut s n d = rnd n (2 ^ d) := by
  have hn : n < 2 ^ (n.log2 + 1) := Nat.lt_log2_self
  by_cases h : d ≤ n.log2 + 2
  · unfold Toward.cut rnd
    rw [Nat.min_eq_left h, Nat.one_shiftLeft]
  · have hL : 2 * n < 2 ^ (n.log2 + 2) := by rw [Nat.pow_succ]; omega
    have hd : 2 * n < 2 ^ d := Nat.lt_of_lt_of_le hL (Nat.pow_le_pow_right (by decide) (by omega))
    rw [rnd_small hd]
    have := rnd_small hL
    unfold rnd at this
    unfold Toward.cut
    rw [Nat.min_eq_right (by omega), Nat.one_shiftLeft]
    exact this

/-- A quotient with one digit more that tells whether anything is left. -/
theorem rnd_sticky (d n k : Nat) (hn : 0 < n) : rnd (2 * (d / n) + (d % n != 0).toNat) (2 ^ (k + 2)) = rnd d (n * 2 ^ (k + 1)) := by
  have hp : 0 < 2 ^ k := Nat.two_pow_pos k
  have e1 : 2 ^ (k + 1) = 2 * 2 ^ k := by rw [Nat.pow_succ]; omega
  have e2 : 2 ^ (k + 2) = 2 * (2 * 2 ^ k) := by rw [Nat.pow_succ, e1]; omega
  rw [e1, e2]
  generalize 2 ^ k = H at hp
  have hr : d % n < n := Nat.mod_lt _ hn
  have hd := Nat.div_add_mod d n
  generalize hst : (d % n != 0).toNat = st
  have hs : (st = 0 ∧ d % n = 0) ∨ (st = 1 ∧ 0 < d % n) := by
    cases hb : (d % n != 0)
    · rw [hb] at hst; left; exact ⟨hst.symm, by simpa using hb⟩
    · rw [hb] at hst; right; refine ⟨hst.symm, ?_⟩
      have : d % n ≠ 0 := by simpa using hb
      omega
  generalize d % n = r at hr hd hs
  have hQ := Nat.div_add_mod (d / n) (2 * H)
  have hB : d / n % (2 * H) < 2 * H := Nat.mod_lt _ (by omega)
  -- the whole part
  have w1 : (2 * (d / n) + st) / (2 * (2 * H)) = d / n / (2 * H) := by
    rw [← Nat.div_div_eq_div_mul]
    congr 1
    omega
  have w2 : d / (n * (2 * H)) = d / n / (2 * H) := (Nat.div_div_eq_div_mul d n (2 * H)).symm
  generalize hA : d / n / (2 * H) = A at *
  generalize hBe : d / n % (2 * H) = Bq at *
  generalize hq : d / n = Q at *
  -- what is left
  have m1 : (2 * Q + st) % (2 * (2 * H)) = 2 * Bq + st := by
    have := Nat.div_add_mod (2 * Q + st) (2 * (2 * H))
    rw [w1] at this
    have e : 2 * (2 * H) * A = 2 * (2 * H * A) := by rw [Nat.mul_assoc]
    omega
  have m2 : d % (n * (2 * H)) = n * Bq + r := by
    have := Nat.div_add_mod d (n * (2 * H))
    rw [w2] at this
    have e : n * Q = n * (2 * H) * A + n * Bq := by rw [← hQ, Nat.mul_add, Nat.mul_assoc n]
    omega
  unfold rnd
  rw [w1, w2, m1, m2]
  congr 2
  have c1 : (2 * (2 * H) < 2 * (2 * Bq + st)) ↔ (n * (2 * H) < 2 * (n * Bq + r)) := by
    have q1 : n * (2 * H) = 2 * (n * H) := by rw [Nat.mul_left_comm]
    rw [q1]
    constructor
    · intro h
      have : H ≤ Bq := by omega
      rcases Nat.eq_or_lt_of_le this with e | e
      · subst e; omega
      · have := Nat.mul_le_mul_left n (show H + 1 ≤ Bq from e)
        rw [Nat.mul_add] at this; omega
    · intro h
      by_cases hl : Bq < H
      · have := Nat.mul_le_mul_left n (show Bq + 1 ≤ H from hl)
        rw [Nat.mul_add] at this; omega
      · rcases Nat.eq_or_lt_of_le (Nat.le_of_not_lt hl) with e | e
        · subst e; omega
        · omega
  have c2 : (2 * (2 * H) = 2 * (2 * Bq + st)) ↔ (n * (2 * H) = 2 * (n * Bq + r)) := by
    have q1 : n * (2 * H) = 2 * (n * H) := by rw [Nat.mul_left_comm]
    rw [q1]
    constructor
    · intro h
      have : H = Bq := by omega
      subst this; omega
    · intro h
      rcases Nat.lt_trichotomy Bq H with hl | e | hl
      · have := Nat.mul_le_mul_left n (show Bq + 1 ≤ H from hl)
        rw [Nat.mul_add] at this; omega
      · subst e; omega
      · have := Nat.mul_le_mul_left n (show H + 1 ≤ Bq from hl)
        rw [Nat.mul_add] at this; omega
  have d1 : decide (2 * (2 * H) < 2 * (2 * Bq + st)) = decide (n * (2 * H) < 2 * (n * Bq + r)) := decide_eq_decide.2 c1
  have d2 : (2 * (2 * H) == 2 * (2 * Bq + st)) = (n * (2 * H) == 2 * (n * Bq + r)) := by
    rw [Bool.eq_iff_iff, beq_iff_eq, beq_iff_eq]; exact c2
  rw [d1, d2]

/-- The rung of 'a / g' units, uncapped: 'b' bits of fraction. -/
def rq (b a g : Nat) : Nat := ((a / g).log2 - b) * 2 ^ b + rnd a (g * 2 ^ ((a / g).log2 - b))

theorem rq_mul (b a g : Nat) {c : Nat} (hc : 0 < c) : rq b (a * c) (g * c) = rq b a g := by
  unfold rq
  rw [Nat.mul_div_mul_right _ _ hc, Nat.mul_right_comm, rnd_mul _ _ hc]

theorem rq_mono1 (b : Nat) {a c g : Nat} (h : a ≤ c) : rq b a g ≤ rq b c g := by
  have hd : a / g ≤ c / g := Nat.div_le_div_right h
  have hl : (a / g).log2 ≤ (c / g).log2 := by
    by_cases h0 : a / g = 0
    · rw [h0]; simp
    · exact (Nat.le_log2 (fun hc => h0 (Nat.le_zero.1 (hc ▸ hd)))).2 (Nat.le_trans (Nat.log2_self_le h0) hd)
  unfold rq
  have hl2 : (a / g).log2 - b ≤ (c / g).log2 - b := by omega
  rcases Nat.eq_or_lt_of_le hl2 with e | e
  · rw [e]
    exact Nat.add_le_add_left (rnd_mono h) _
  · -- the lower one is at most the next binade's first
    have h1 : rnd a (g * 2 ^ ((a / g).log2 - b)) ≤ 2 ^ (b + 1) := by
      refine Nat.le_trans (rnd_le _ _) ?_
      rw [← Nat.div_div_eq_div_mul]
      have : a / g < 2 ^ ((a / g).log2 + 1) := Nat.lt_log2_self
      have h2 : a / g / 2 ^ ((a / g).log2 - b) < 2 ^ (b + 1) := by
        rw [Nat.div_lt_iff_lt_mul (Nat.two_pow_pos _), ← Nat.pow_add]
        exact Nat.lt_of_lt_of_le this (Nat.pow_le_pow_right (by decide) (by omega))
      omega
    have h2 : 2 ^ b ≤ rnd c (g * 2 ^ ((c / g).log2 - b)) := by
      refine Nat.le_trans ?_ (le_rnd _ _)
      rw [← Nat.div_div_eq_div_mul, Nat.le_div_iff_mul_le (Nat.two_pow_pos _), ← Nat.pow_add]
      have h0 : c / g ≠ 0 := by
        intro h0; rw [h0] at e; simp at e
      refine Nat.le_trans (Nat.pow_le_pow_right (by decide) (by omega)) (Nat.log2_self_le h0)
    have h3 := Nat.mul_le_mul_right (2 ^ b) e
    rw [Nat.succ_mul] at h3
    rw [Nat.pow_succ] at h1
    omega

theorem rq_mono (b : Nat) {a c g h : Nat} (hg : 0 < g) (hh : 0 < h) (hle : a * h ≤ c * g) : rq b a g ≤ rq b c h := by
  rw [← rq_mul b a g hh, ← rq_mul b c h hg, Nat.mul_comm h g]
  exact rq_mono1 b hle

theorem rq_zero (b : Nat) {g : Nat} (hg : 0 < g) : rq b 0 g = 0 := by
  unfold rq
  rw [Nat.zero_div, Nat.log2_zero, Nat.zero_sub, Nat.zero_mul, Nat.zero_add]
  exact rnd_small (by rw [Nat.mul_zero]; exact Nat.mul_pos hg (Nat.two_pow_pos _))
end Go.Ev
