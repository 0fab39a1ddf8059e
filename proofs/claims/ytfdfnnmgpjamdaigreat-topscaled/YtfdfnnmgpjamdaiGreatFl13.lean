/-
  Floats: multiples of a power of two stay so when they are rounded; how great a root is, and how small.
-/
import Derived.Test.YtfdfnnmgpjamdaiGreatFl12
namespace Go.Ev
open Ieee

theorem rnd_exact {a g : Nat} (hg : 0 < g) (h : g ∣ a) : rnd a g = a / g := by
  obtain ⟨t, rfl⟩ := h
  unfold rnd
  rw [Nat.mul_mod_right, Nat.mul_zero]
  have h1 : decide (g < 0) = false := decide_eq_false (Nat.not_lt_zero _)
  have h2 : (g == 0) = false := by
    cases h3 : g == 0
    · rfl
    · have := eq_of_beq h3; omega
  rw [h1, h2]
  rfl
theorem rnd_lo {a : Nat} (h : 2 ^ 52 ≤ a) : 2 ^ 52 ≤ rnd a (2 ^ (a.log2 - 52)) ∧ rnd a (2 ^ (a.log2 - 52)) ≤ 2 ^ 53 := by
  have h0 : a ≠ 0 := by have := Nat.two_pow_pos 52; omega
  have hL : 52 ≤ a.log2 := (Nat.le_log2 h0).2 h
  have l1 := Nat.log2_self_le h0
  have l2 := Nat.lt_log2_self (n := a)
  constructor
  · refine Nat.le_trans ?_ (le_rnd _ _)
    rw [Nat.le_div_iff_mul_le (Nat.two_pow_pos _), ← Nat.pow_add, show 52 + (a.log2 - 52) = a.log2 by omega]
    exact l1
  · refine Nat.le_trans (rnd_le _ _) ?_
    have : a / 2 ^ (a.log2 - 52) < 2 ^ 53 := by
      rw [Nat.div_lt_iff_lt_mul (Nat.two_pow_pos _), ← Nat.pow_add, show 53 + (a.log2 - 52) = a.log2 + 1 by omega]
      exact l2
    exact this
/-- The value of what is rounded. -/
theorem rv_rq {a : Nat} (h : 2 ^ 52 ≤ a) : rv 52 (rq 52 a 1) = rnd a (2 ^ (a.log2 - 52)) * 2 ^ (a.log2 - 52) := by
  obtain ⟨r1, r2⟩ := rnd_lo h
  unfold rq
  rw [Nat.div_one, Nat.one_mul]
  generalize rnd a (2 ^ (a.log2 - 52)) = R at *
  generalize a.log2 - 52 = k
  have p52 : (2 : Nat) ^ 52 = 4503599627370496 := by decide
  have p53 : (2 : Nat) ^ 53 = 9007199254740992 := by decide
  rw [p52] at r1
  rw [p53] at r2
  rw [p52, rv_high (by omega)]
  rcases Nat.lt_or_ge R 9007199254740992 with e | e
  · have h1 : (k * 4503599627370496 + R) % 4503599627370496 = R - 4503599627370496 := by omega
    have h2 : (k * 4503599627370496 + R) / 4503599627370496 = k + 1 := by omega
    rw [h1, h2, Nat.add_sub_cancel, show 4503599627370496 + (R - 4503599627370496) = R by omega]
  · have h0 : R = 9007199254740992 := by omega
    subst h0
    have h1 : (k * 4503599627370496 + 9007199254740992) % 4503599627370496 = 0 := by omega
    have h2 : (k * 4503599627370496 + 9007199254740992) / 4503599627370496 = k + 2 := by omega
    rw [h1, h2, Nat.add_zero, show k + 2 - 1 = k + 1 by omega, Nat.pow_succ, show (9007199254740992 : Nat) = 4503599627370496 * 2 by decide, Nat.mul_assoc, Nat.mul_comm (2 ^ k) 2]
/-- A multiple of a power of two. -/
def Gr (k x : Nat) : Prop := 2 ^ k ∣ (val x).natAbs
theorem gr_round {k a : Nat} (h : 2 ^ 52 ≤ a) (hd : 2 ^ k ∣ a) : 2 ^ k ∣ rv 52 (rq 52 a 1) := by
  rw [rv_rq h]
  rcases Nat.le_total (a.log2 - 52) k with e | e
  · have hd' : 2 ^ (a.log2 - 52) ∣ a := Nat.dvd_trans (Nat.pow_dvd_pow 2 e) hd
    rw [rnd_exact (Nat.two_pow_pos _) hd', Nat.div_mul_cancel hd']
    exact hd
  · exact Nat.dvd_trans (Nat.pow_dvd_pow 2 e) (Nat.dvd_mul_left _ _)
theorem gr_of {k g z : Nat} {v : Int} (hk : 52 ≤ k) (hg : 0 < g) (hz : key z = KR v g) (f : isFin z = true) (hd : 2 ^ k * g ∣ v.natAbs) : Gr k z := by
  unfold Gr
  rw [val_abs]
  have fz := isFin_lt f
  rw [← key_abs, hz] at fz
  have cap : rq 52 v.natAbs g < 9218868437227405312 := by
    unfold KR at fz
    cases hd : decide (v < 0)
    · rw [hd, cond_false, Int.natAbs_natCast] at fz; omega
    · rw [hd, cond_true, Int.natAbs_neg, Int.natAbs_natCast] at fz; omega
  have rz : rung z = rq 52 v.natAbs g := by rw [← key_abs, hz, KR_big cap]
  obtain ⟨t, ht⟩ := hd
  have e : v.natAbs = 2 ^ k * t * g := by rw [ht, Nat.mul_right_comm]
  have hr : rq 52 v.natAbs g = rq 52 (2 ^ k * t) 1 := by
    rw [e]
    have := rq_mul 52 (2 ^ k * t) 1 hg
    rwa [Nat.one_mul] at this
  rw [rz, hr]
  by_cases h0 : t = 0
  · subst h0
    rw [Nat.mul_zero, rq_zero 52 (by decide), rv_zero]
    exact Nat.dvd_zero _
  · refine gr_round ?_ (Nat.dvd_mul_right _ _)
    exact Nat.le_trans (pow_le_pow' hk) (Nat.le_mul_of_pos_right _ (by omega))
theorem Gr.mono {k l x : Nat} (h : Gr k x) (hl : l ≤ k) : Gr l x := Nat.dvd_trans (Nat.pow_dvd_pow 2 hl) h
theorem Gr.low {k x : Nat} (h : Gr k x) (h0 : val x ≠ 0) : 2 ^ k ≤ (val x).natAbs := Nat.le_of_dvd (by omega) h
theorem gr_add {k x y : Nat} (hk : 52 ≤ k) (hx : Gr k x) (hy : Gr k y) (fx : isFin x = true) (fy : isFin y = true) (f : isFin (fadd x y) = true) : Gr k (fadd x y) ∧ (val x + val y ≠ 0 → 2 ^ 52 ≤ (val x + val y).natAbs) := by
  have hd : 2 ^ k ∣ (val x + val y).natAbs := by
    rw [← Int.ofNat_dvd_left] at *
    exact Int.dvd_add (Int.ofNat_dvd_left.2 hx) (Int.ofNat_dvd_left.2 hy)
  exact ⟨gr_of hk (by decide) (key_add fx fy).1 f (by rw [Nat.mul_one]; exact hd), fun h0 => Nat.le_trans (pow_le_pow' hk) (Nat.le_of_dvd (by omega) hd)⟩
theorem gr_sub {k x y : Nat} (hk : 52 ≤ k) (hx : Gr k x) (hy : Gr k y) (fx : isFin x = true) (fy : isFin y = true) (f : isFin (fsub x y) = true) : Gr k (fsub x y) ∧ (val x - val y ≠ 0 → 2 ^ 52 ≤ (val x - val y).natAbs) := by
  have hd : 2 ^ k ∣ (val x - val y).natAbs := by
    rw [← Int.ofNat_dvd_left] at *
    exact Int.dvd_sub (Int.ofNat_dvd_left.2 hx) (Int.ofNat_dvd_left.2 hy)
  exact ⟨gr_of hk (by decide) (key_sub fx fy).1 f (by rw [Nat.mul_one]; exact hd), fun h0 => Nat.le_trans (pow_le_pow' hk) (Nat.le_of_dvd (by omega) hd)⟩
theorem gr_mul {c k l n x y : Nat} (hc : c = 1074) (hx : Gr k x) (hy : Gr l y) (hn : n + c = k + l) (hk : 52 ≤ n) (fx : isFin x = true) (fy : isFin y = true) (f : isFin (fmul x y) = true) : Gr n (fmul x y) ∧ (val x * val y ≠ 0 → 2 ^ 52 ≤ (val x * val y).natAbs / 2 ^ c) := by
  have hd : 2 ^ n * 2 ^ c ∣ (val x * val y).natAbs := by
    rw [← Nat.pow_add, hn, Nat.pow_add, Int.natAbs_mul]
    exact Nat.mul_dvd_mul hx hy
  refine ⟨gr_of hk (Nat.two_pow_pos c) (key_mul hc fx fy).1 f hd, fun h0 => ?_⟩
  rw [Nat.le_div_iff_mul_le (Nat.two_pow_pos c)]
  exact Nat.le_trans (Nat.mul_le_mul_right _ (pow_le_pow' hk)) (Nat.le_of_dvd (by omega) hd)
/-- What is not small is a multiple of a power of two that is 52 less. -/
theorem gr_low {n x : Nat} (hn : 52 ≤ n) (h : 2 ^ n ≤ (val x).natAbs ∨ val x = 0) : Gr (n - 52) x := by
  unfold Gr
  rcases h with h | h
  · rw [val_abs] at *
    have hr : pw n ≤ rung x := by
      rcases Nat.lt_or_ge (rung x) (pw n) with e | e
      · have := rv_lt 52 e; rw [rv_pw hn] at this; omega
      · exact e
    unfold pw at hr
    have hb : ¬ rung x < 4503599627370496 := by
      have : 1 * 4503599627370496 ≤ (n - 51) * 4503599627370496 := Nat.mul_le_mul_right _ (by omega)
      omega
    rw [rv_high hb]
    have hq : n - 51 ≤ rung x / 4503599627370496 := (Nat.le_div_iff_mul_le (by decide)).2 hr
    exact Nat.dvd_trans (Nat.pow_dvd_pow 2 (by omega)) (Nat.dvd_mul_left _ _)
  · rw [h, Int.natAbs_zero]; exact Nat.dvd_zero _
end Go.Ev
