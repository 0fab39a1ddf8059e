/-
  Floats: the square root of what is a power of four times as great.
-/
import Derived.Test.YtfdfnnmgpjamdaiGreatFl11
namespace Go.Ev
open Ieee

theorem rung_word (s : Bool) {r : Nat} (h : r ≤ 9218868437227405312) : rung (double.word s r) = r := by
  unfold rung Format.word
  rw [signW]
  cases s
  · simp only [Bool.false_eq_true, if_false]; exact Nat.mod_eq_of_lt (by omega)
  · simp only [if_true]; omega
theorem sc_nearest {s : Bool} {m j u w : Nat} {p : Int} (hp : p + 1074 = u - w) (hlow : 2 ^ 52 ≤ m * 2 ^ u / 2 ^ w) (hf : isFin (double.nearest s m (p + j)) = true) : Sc j (double.nearest s m p) (double.nearest s m (p + j)) := by
  have e1 := nearest_rq s m u w p hp
  have e2 := nearest_rq s m (u + j) w (p + j) (by omega)
  rw [infR] at e1 e2
  have hs := rq_scale (a := m * 2 ^ u) j (Nat.two_pow_pos w) hlow
  rw [Nat.mul_assoc, ← Nat.pow_add] at hs
  have lo := rq_low hlow
  rw [hs] at e2
  clear hs hlow
  generalize rq 52 (m * 2 ^ u) (2 ^ w) = R at e1 e2 lo
  have h2 := isFin_lt hf
  rw [e2, rung_word s (Nat.min_le_right _ _)] at h2
  have p52 : (2 : Nat) ^ 52 = 4503599627370496 := by decide
  rw [p52] at e2 lo h2
  have h3 : R + j * 4503599627370496 < 9218868437227405312 := by omega
  have h4 : R < 9218868437227405312 := by omega
  have r1 : rung (double.nearest s m p) = R := by rw [e1, rung_word s (Nat.min_le_right _ _), Nat.min_eq_left (Nat.le_of_lt h4)]
  have r2 : rung (double.nearest s m (p + j)) = R + j * 4503599627370496 := by rw [e2, rung_word s (Nat.min_le_right _ _), Nat.min_eq_left (Nat.le_of_lt h3)]
  refine ⟨by rw [sgn_nearest, sgn_nearest], ?_, hf, Or.inr ⟨by rw [r1, p52]; exact lo, by rw [r1, r2, p52]⟩⟩
  unfold isFin
  rw [r1]
  exact Nat.ble_eq_true_of_le (show R + 1 ≤ 9218868437227405312 from h4)
theorem read_norm {x : Nat} (h : isFin x = true) (hn : 2 ^ 52 ≤ rung x) : double.read x = .number (sgn x) (4503599627370496 + rung x % 4503599627370496) (-1074 + ((rung x / 4503599627370496 - 1 : Nat) : Int)) := by
  have hl := isFin_lt h
  unfold rung at hl hn ⊢
  unfold Format.read sgn
  simp only [signW, infR, binadeV, leastP]
  have h1 : ¬ x % 9223372036854775808 < 4503599627370496 := Nat.not_lt.2 hn
  rw [if_neg h1, if_pos hl]
theorem read_nought {x : Nat} (h : rung x = 0) : double.read x = .number (sgn x) 0 (-1074) := by
  unfold rung at h
  unfold Format.read sgn
  simp only [signW, infR, binadeV, leastP]
  rw [h, if_pos (by decide)]
/-- What the root's text gives, of a number above 0. -/
def rootM (m : Nat) (i : Int) : Nat :=
  (m <<< (108 - m.log2 + ((i - ((108 - m.log2 : Nat) : Int)) % 2).toNat))
def rootW (m : Nat) (i : Int) : Nat := 2 * Datum.rootFrom (rootM m i) ((rootM m i).log2 / 2 + 1) 0 + (Datum.rootFrom (rootM m i) ((rootM m i).log2 / 2 + 1) 0 * Datum.rootFrom (rootM m i) ((rootM m i).log2 / 2 + 1) 0 != rootM m i).toNat
def rootE (m : Nat) (i : Int) : Int := (i - ((108 - m.log2 + ((i - ((108 - m.log2 : Nat) : Int)) % 2).toNat : Nat) : Int)) / 2 - 1
theorem fsqrt_text {x m : Nat} {i : Int} (h : double.read x = .number false m i) (hm : m ≠ 0) : fsqrt x = double.nearest false (rootW m i) (rootE m i) := by
  unfold fsqrt Format.sqrt
  rw [h]
  simp only [Datum.root, if_neg hm, Bool.false_eq_true, if_false, Option.map_some, Option.getD_some]
  rfl
theorem root_shift (m : Nat) (i : Int) (j : Nat) : rootW m (i + 2 * j) = rootW m i ∧ rootE m (i + 2 * j) = rootE m i + j := by
  have e : (i + 2 * (j : Int) - ((108 - m.log2 : Nat) : Int)) % 2 = (i - ((108 - m.log2 : Nat) : Int)) % 2 := by omega
  constructor
  · unfold rootW rootM; rw [e]
  · unfold rootE
    rw [e]
    generalize ((i - ((108 - m.log2 : Nat) : Int)) % 2).toNat = q
    generalize 108 - m.log2 = t
    omega
theorem rootW_pos {m : Nat} (hm : m ≠ 0) (i : Int) : 1 ≤ rootW m i := by
  have h : rootM m i ≠ 0 := by
    unfold rootM
    rw [Nat.shiftLeft_eq]
    exact Nat.mul_ne_zero hm (Nat.ne_of_gt (Nat.two_pow_pos _))
  unfold rootW
  generalize rootM m i = n at *
  cases hw : Datum.rootFrom n (n.log2 / 2 + 1) 0 with
  | zero =>
    have : (0 * 0 != n) = true := by
      rw [Nat.zero_mul]
      cases n with
      | zero => exact absurd rfl h
      | succ k => rfl
    rw [this]
    decide
  | succ k => omega
theorem pow_le_pow' {a b : Nat} (h : a ≤ b) : 2 ^ a ≤ 2 ^ b := Nat.pow_le_pow_right (by decide) h
theorem rootE_low (m : Nat) {i : Int} (hi : -1074 ≤ i) : -600 ≤ rootE m i := by
  unfold rootE
  have h1 : ((i - ((108 - m.log2 : Nat) : Int)) % 2).toNat ≤ 1 := by omega
  have h2 : 108 - m.log2 ≤ 108 := Nat.sub_le _ _
  generalize ((i - ((108 - m.log2 : Nat) : Int)) % 2).toNat = q at *
  generalize 108 - m.log2 = t at *
  omega
/-- The root of what is 4^j times as great is 2^j times as great. -/
theorem sc_sqrt {j x x' : Nat} (h : Sc (2 * j) x x') (hs : rung x = 0 ∨ sgn x = false) (f' : isFin (fsqrt x') = true) : Sc j (fsqrt x) (fsqrt x') := by
  rcases h.r with ⟨a, b⟩ | ⟨a, b⟩
  · have r1 := read_nought a
    have r2 := read_nought b
    have e : ∀ {y : Nat} {s : Bool}, double.read y = .number s 0 (-1074) → fsqrt y = double.word s 0 := fun {y s} hy => by
      unfold fsqrt Format.sqrt
      rw [hy]
      simp only [Datum.root, if_true, Option.map_some, Option.getD_some, Format.write, nearest_zero]
    rw [e r1, e r2, h.s]
    have r0 : rung (double.word (sgn x') 0) = 0 := rung_word _ (by decide)
    have f0 : isFin (double.word (sgn x') 0) = true := by unfold isFin; rw [r0]; rfl
    exact ⟨rfl, f0, f0, Or.inl ⟨r0, r0⟩⟩
  · have p52 : (2 : Nat) ^ 52 = 4503599627370496 := by decide
    have hsx : sgn x = false := by
      rcases hs with e | e
      · rw [e, p52] at a; omega
      · exact e
    have hb : 2 ^ 52 ≤ rung x' := by rw [b]; exact Nat.le_trans a (Nat.le_add_right _ _)
    have r1 := read_norm h.fx a
    have r2 := read_norm h.fy hb
    rw [p52] at a b
    rw [← h.s, hsx, b, Nat.add_mul_mod_self_right, Nat.add_mul_div_right _ _ (by decide)] at r2
    rw [hsx] at r1
    have hq : 1 ≤ rung x / 4503599627370496 := (Nat.le_div_iff_mul_le (by decide)).2 (by omega)
    have hi : (-1074 + ((rung x / 4503599627370496 + 2 * j - 1 : Nat) : Int)) = (-1074 + ((rung x / 4503599627370496 - 1 : Nat) : Int)) + 2 * (j : Int) := by omega
    rw [hi] at r2
    generalize hm : 4503599627370496 + rung x % 4503599627370496 = m at r1 r2
    have hi' : -1074 ≤ (-1074 + ((rung x / 4503599627370496 - 1 : Nat) : Int)) := by omega
    generalize (-1074 + ((rung x / 4503599627370496 - 1 : Nat) : Int)) = i at r1 r2 hi'
    have m0 : m ≠ 0 := by omega
    have e1 := fsqrt_text r1 m0
    have e2 := fsqrt_text r2 m0
    rw [(root_shift m i j).1, (root_shift m i j).2] at e2
    rw [e2] at f'
    rw [e1, e2]
    have hl := rootE_low m hi'
    have hw := rootW_pos m0 i
    generalize rootW m i = W at *
    generalize rootE m i = E at *
    refine sc_nearest (u := (E + 1074).toNat) (w := 0) (by omega) ?_ f'
    rw [Nat.pow_zero, Nat.div_one]
    exact Nat.le_trans (pow_le_pow' (show 52 ≤ (E + 1074).toNat by omega)) (Nat.le_mul_of_pos_left _ hw)
end Go.Ev
