/-
  Floats: keys and values. A word's key orders the words; sums, differences, products and quotients have the key of the exact value, rounded.
-/
import Derived.Test.YtenaeijehjnfeaaFl5
import Derived.Test.YtenaeijehjnfeaaFl3
namespace Go.Ev
open Ieee

/-- The magnitude of a rung, in the least units: 'b' bits of fraction. -/
def rv (b r : Nat) : Nat := if r < 2 ^ b then r else (2 ^ b + r % 2 ^ b) * 2 ^ (r / 2 ^ b - 1)

theorem rv_step (b r : Nat) : rv b r < rv b (r + 1) := by
  have hN : 0 < 2 ^ b := Nat.two_pow_pos b
  unfold rv
  generalize 2 ^ b = N at hN
  by_cases h1 : r + 1 < N
  · rw [if_pos (by omega), if_pos h1]; omega
  · rw [if_neg h1]
    by_cases h2 : r < N
    · rw [if_pos h2]
      have e : r + 1 = N := by omega
      rw [e, Nat.mod_self, Nat.div_self hN, Nat.sub_self, Nat.pow_zero]; omega
    · rw [if_neg h2]
      have hd := Nat.div_add_mod r N
      have hm : r % N < N := Nat.mod_lt _ hN
      have hq : 1 ≤ r / N := (Nat.le_div_iff_mul_le hN).2 (by omega)
      by_cases h3 : r % N + 1 < N
      · have e1 : (r + 1) / N = r / N := by
          rw [Nat.div_eq_iff hN]
          have : r / N * N = N * (r / N) := Nat.mul_comm _ _
          omega
        have e2 : (r + 1) % N = r % N + 1 := by
          have := Nat.div_add_mod (r + 1) N
          rw [e1] at this; omega
        rw [e1, e2]
        exact Nat.mul_lt_mul_of_pos_right (by omega) (Nat.two_pow_pos _)
      · have h4 : r % N + 1 = N := by omega
        have e0 : r + 1 = N * (r / N + 1) := by rw [Nat.mul_add]; omega
        have e1 : (r + 1) / N = r / N + 1 := by rw [e0, Nat.mul_div_cancel_left _ hN]
        have e2 : (r + 1) % N = 0 := by rw [e0, Nat.mul_mod_right]
        rw [e1, e2]
        obtain ⟨q, hq'⟩ : ∃ q, r / N = q + 1 := ⟨r / N - 1, by omega⟩
        rw [hq', Nat.add_sub_cancel, Nat.add_sub_cancel, Nat.pow_succ, Nat.add_zero, Nat.mul_comm (2 ^ q) 2, ← Nat.mul_assoc]
        exact Nat.mul_lt_mul_of_pos_right (by omega) (Nat.two_pow_pos _)
theorem rv_lt (b : Nat) {r : Nat} : ∀ {q : Nat}, r < q → rv b r < rv b q
  | 0, h => by omega
  | q + 1, h => by
    rcases Nat.eq_or_lt_of_le (Nat.lt_succ_iff.1 h) with e | e
    · rw [e]; exact rv_step b q
    · exact Nat.lt_trans (rv_lt b e) (rv_step b q)
theorem rv_lt_iff (b r q : Nat) : rv b r < rv b q ↔ r < q := by
  constructor
  · intro h
    rcases Nat.lt_trichotomy r q with e | e | e
    · exact e
    · rw [e] at h; omega
    · have := rv_lt b e; omega
  · exact rv_lt b
theorem rv_zero (b : Nat) : rv b 0 = 0 := by unfold rv; rw [if_pos (Nat.two_pow_pos b)]

theorem log2_mul_pow {m : Nat} (k : Nat) (hm : m ≠ 0) : (m * 2 ^ k).log2 = m.log2 + k := by rw [← Nat.shiftLeft_eq, log2_shl k hm]
theorem rnd_one (a : Nat) : rnd a 1 = a := by
  unfold rnd
  rw [Nat.div_one, Nat.mod_one]; rfl
/-- Rounding what is a rung's gives that rung. -/
theorem rq_rv (b r : Nat) : rq b (rv b r) 1 = r := by
  have hN : 0 < 2 ^ b := Nat.two_pow_pos b
  unfold rq rv
  rw [Nat.div_one]
  by_cases h : r < 2 ^ b
  · rw [if_pos h]
    have hl : r.log2 - b = 0 := by
      by_cases h0 : r = 0
      · rw [h0]; simp
      · have := (Nat.log2_lt h0).2 h; omega
    rw [hl, Nat.zero_mul, Nat.zero_add, Nat.pow_zero, rnd_one]
  · rw [if_neg h]
    have hm : r % 2 ^ b < 2 ^ b := Nat.mod_lt _ hN
    have hd := Nat.div_add_mod r (2 ^ b)
    have hq : 1 ≤ r / 2 ^ b := (Nat.le_div_iff_mul_le hN).2 (by omega)
    have hl : ((2 ^ b + r % 2 ^ b) * 2 ^ (r / 2 ^ b - 1)).log2 = b + (r / 2 ^ b - 1) := by
      rw [log2_mul_pow _ (by omega)]
      congr 1
      rw [Nat.log2_eq_iff (by omega), Nat.pow_succ]
      omega
    rw [hl, Nat.add_sub_cancel_left, rnd_mul _ 1 (Nat.two_pow_pos _), rnd_one]
    obtain ⟨q, hq'⟩ : ∃ q, r / 2 ^ b = q + 1 := ⟨r / 2 ^ b - 1, by omega⟩
    rw [hq', Nat.mul_add] at hd
    rw [hq', Nat.add_sub_cancel, Nat.mul_comm q]
    omega

/-! ### Words -/
def sgn (x : Nat) : Bool := x / 9223372036854775808 % 2 == 1
def rung (x : Nat) : Nat := x % 9223372036854775808
def key (x : Nat) : Int := cond (sgn x) (-(rung x : Int)) (rung x)
def isFin (x : Nat) : Bool := Nat.blt (rung x) 9218868437227405312
def val (x : Nat) : Int := cond (sgn x) (-(rv 52 (rung x) : Int)) (rv 52 (rung x))

theorem isFin_lt {x : Nat} (h : isFin x = true) : rung x < 9218868437227405312 := Nat.le_of_ble_eq_true h

theorem rv_low {r : Nat} (h : r < 4503599627370496) : rv 52 r = r := by unfold rv; rw [if_pos (show r < 2 ^ 52 from h)]
theorem rv_high {r : Nat} (h : ¬ r < 4503599627370496) : rv 52 r = (4503599627370496 + r % 4503599627370496) * 2 ^ (r / 4503599627370496 - 1) := by
  unfold rv; rw [if_neg (show ¬ r < 2 ^ 52 from h)]

theorem signed_val (s : Bool) (m k : Nat) : signed s m k = cond s (-((m * 2 ^ k : Nat) : Int)) ((m * 2 ^ k : Nat) : Int) := by
  unfold signed; rw [Nat.shiftLeft_eq]; cases s <;> rfl

/-- What a word that is a number stands for. -/
theorem read_fin {x : Nat} (h : isFin x = true) : ∃ m i, double.read x = .number (sgn x) m i ∧ -1074 ≤ i ∧ m < 9007199254740992 ∧ rv 52 (rung x) = m * 2 ^ (i + 1074).toNat := by
  have hl := isFin_lt h
  unfold rung at hl ⊢
  unfold Format.read sgn
  simp only [signW, infR, binadeV, leastP]
  by_cases h1 : x % 9223372036854775808 < 4503599627370496
  · rw [if_pos h1]
    refine ⟨_, _, rfl, by omega, by omega, ?_⟩
    rw [rv_low h1, show (-1074 + 1074 : Int).toNat = 0 from rfl, Nat.pow_zero, Nat.mul_one]
  · rw [if_neg h1, if_pos hl]
    have := Nat.mod_lt (x % 9223372036854775808) (show 0 < 4503599627370496 by decide)
    refine ⟨_, _, rfl, by omega, by omega, ?_⟩
    rw [rv_high h1]
    congr 2
    omega
theorem read_inf {x : Nat} (h : rung x = 9218868437227405312) : double.read x = .infinity (sgn x) := by
  unfold rung at h
  unfold Format.read sgn
  simp only [signW, infR, binadeV, leastP, h]
  rfl
theorem fin_or_inf {x : Nat} (h : isNan x = false) : isFin x = true ∨ rung x = 9218868437227405312 := by
  cases hf : isFin x
  · right
    have h1 : ¬ rung x < 9218868437227405312 := fun hl => by
      have : isFin x = true := Nat.ble_eq_true_of_le hl
      rw [hf] at this; cases this
    unfold rung at h1 ⊢
    unfold isNan Format.read at h
    simp only [signW, infR, binadeV, leastP] at h
    rw [if_neg (by omega), if_neg h1] at h
    by_cases he : x % 9223372036854775808 = 9218868437227405312
    · exact he
    · rw [if_neg he] at h; simp [Datum.isNaN] at h
  · exact Or.inl rfl
theorem fin_not_nan {x : Nat} (h : isFin x = true) : isNan x = false := by
  obtain ⟨m, i, hr, _⟩ := read_fin h
  unfold isNan; rw [hr]; rfl

/-! ### Order -/
theorem cmp_congr {a b c d : Int} (h1 : a < b ↔ c < d) (h2 : a = b ↔ c = d) : compare a b = compare c d := by
  show compareOfLessAndEq a b = compareOfLessAndEq c d
  unfold compareOfLessAndEq
  simp only [h1, h2]
theorem order_val {x y : Nat} (hx : isFin x = true) (hy : isFin y = true) : double.order x y = some (compare (val x) (val y)) := by
  obtain ⟨m, i, hrx, hi, _, hvx⟩ := read_fin hx
  obtain ⟨n, j, hry, hj, _, hvy⟩ := read_fin hy
  unfold Format.order
  rw [hrx, hry]
  simp only [Datum.order, Option.some.injEq]
  have e1 : val x = signed (sgn x) m (i - min i j).toNat * 2 ^ (min i j + 1074).toNat := by
    rw [← signed_split, show (i - min i j).toNat + (min i j + 1074).toNat = (i + 1074).toNat by omega, signed_val, ← hvx]; rfl
  have e2 : val y = signed (sgn y) n (j - min i j).toNat * 2 ^ (min i j + 1074).toNat := by
    rw [← signed_split, show (j - min i j).toNat + (min i j + 1074).toNat = (j + 1074).toNat by omega, signed_val, ← hvy]; rfl
  have hp : (0 : Int) < 2 ^ (min i j + 1074).toNat := Int.pow_pos (by decide)
  rw [e1, e2]
  generalize (2 : Int) ^ (min i j + 1074).toNat = c at hp
  refine cmp_congr ?_ ?_
  · exact (Int.mul_lt_mul_right hp).symm
  · exact (Int.mul_eq_mul_right_iff (by omega)).symm
theorem val_lt {x y : Nat} : val x < val y ↔ key x < key y := by
  unfold val key
  have a1 := rv_lt_iff 52 (rung x) (rung y)
  have a2 := rv_lt_iff 52 (rung y) (rung x)
  have a3 := rv_lt_iff 52 0 (rung x)
  have a4 := rv_lt_iff 52 0 (rung y)
  rw [rv_zero] at a3 a4
  cases sgn x <;> cases sgn y <;> simp only [cond_true, cond_false] <;> omega
theorem val_le {x y : Nat} : val x ≤ val y ↔ key x ≤ key y := by
  have := val_lt (x := y) (y := x); omega
theorem order_key {x y : Nat} (hx : isNan x = false) (hy : isNan y = false) : double.order x y = some (compare (key x) (key y)) := by
  rcases fin_or_inf hx with fx | ix
  · rcases fin_or_inf hy with fy | iy
    · rw [order_val fx fy]
      have := val_lt (x := x) (y := y)
      have := val_lt (x := y) (y := x)
      exact congrArg some (cmp_congr (by omega) (by omega))
    · obtain ⟨m, i, hr, _⟩ := read_fin fx
      have hl := isFin_lt fx
      unfold Format.order
      rw [hr, read_inf iy]
      simp only [Datum.order, Option.some.injEq]
      unfold key
      rw [iy]
      cases sgn y
      · exact (show compare _ _ = compare (0 : Int) 1 from cmp_congr (by cases sgn x <;> simp only [cond_true, cond_false] <;> omega) (by cases sgn x <;> simp only [cond_true, cond_false] <;> omega)).symm
      · exact (show compare _ _ = compare (1 : Int) 0 from cmp_congr (by cases sgn x <;> simp only [cond_true, cond_false] <;> omega) (by cases sgn x <;> simp only [cond_true, cond_false] <;> omega)).symm
  · rcases fin_or_inf hy with fy | iy
    · obtain ⟨m, i, hr, _⟩ := read_fin fy
      have hl := isFin_lt fy
      unfold Format.order
      rw [hr, read_inf ix]
      simp only [Datum.order, Option.some.injEq]
      unfold key
      rw [ix]
      cases sgn x
      · exact (show compare _ _ = compare (1 : Int) 0 from cmp_congr (by cases sgn y <;> simp only [cond_true, cond_false] <;> omega) (by cases sgn y <;> simp only [cond_true, cond_false] <;> omega)).symm
      · exact (show compare _ _ = compare (0 : Int) 1 from cmp_congr (by cases sgn y <;> simp only [cond_true, cond_false] <;> omega) (by cases sgn y <;> simp only [cond_true, cond_false] <;> omega)).symm
    · unfold Format.order key
      rw [read_inf ix, read_inf iy, ix, iy]
      cases sgn x <;> cases sgn y <;> decide
end Go.Ev
