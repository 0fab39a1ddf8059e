/-
  Floats: tests and operations by keys and values.
-/
import Derived.Test.YtenaeijehjnfeaaFl6
namespace Go.Ev
open Ieee

/-! ### Tests -/
theorem cmp_lt (a b : Int) : (compare a b == Ordering.lt) = decide (a < b) := by
  show (compareOfLessAndEq a b == Ordering.lt) = _
  unfold compareOfLessAndEq
  by_cases h : a < b
  · simp [h]
  · by_cases h2 : a = b
    · simp [h2]
    · simp [h, h2]
theorem cmp_eq (a b : Int) : (compare a b == Ordering.eq) = decide (a = b) := by
  show (compareOfLessAndEq a b == Ordering.eq) = _
  unfold compareOfLessAndEq
  by_cases h : a < b
  · have : a ≠ b := by omega
    simp [h, this]
  · by_cases h2 : a = b
    · simp [h2]
    · simp [h, h2]
theorem cmp_gt (a b : Int) : (compare a b == Ordering.gt) = decide (b < a) := by
  show (compareOfLessAndEq a b == Ordering.gt) = _
  unfold compareOfLessAndEq
  by_cases h : a < b
  · have : ¬ b < a := by omega
    simp [h, this]
  · by_cases h2 : a = b
    · simp [h2]
    · have : b < a := by omega
      simp [h, h2, this]
theorem some_beq (a b : Ordering) : (some a == some b) = (a == b) := rfl

theorem flt_key {x y : Nat} (hx : isNan x = false) (hy : isNan y = false) : flt x y = decide (key x < key y) := by
  unfold flt; rw [order_key hx hy, some_beq, cmp_lt]
theorem fgt_key {x y : Nat} (hx : isNan x = false) (hy : isNan y = false) : fgt x y = decide (key y < key x) := by
  unfold fgt; rw [order_key hx hy, some_beq, cmp_gt]
theorem feq_key {x y : Nat} (hx : isNan x = false) (hy : isNan y = false) : feq x y = decide (key x = key y) := by
  unfold feq; rw [order_key hx hy, some_beq, cmp_eq]
theorem fle_key {x y : Nat} (hx : isNan x = false) (hy : isNan y = false) : fle x y = decide (key x ≤ key y) := by
  unfold fle; rw [order_key hx hy, some_beq, some_beq, cmp_lt, cmp_eq, Bool.eq_iff_iff]; simp; omega
theorem fge_key {x y : Nat} (hx : isNan x = false) (hy : isNan y = false) : fge x y = decide (key y ≤ key x) := by
  unfold fge; rw [order_key hx hy, some_beq, some_beq, cmp_gt, cmp_eq, Bool.eq_iff_iff]; simp; omega
theorem not_nan_of {x y : Nat} {o : Ordering} (h : double.order x y = some o) : isNan x = false ∧ isNan y = false := by
  constructor
  · cases hx : isNan x
    · rfl
    · have : double.order x y = none := order_nan_left hx
      rw [this] at h; cases h
  · cases hy : isNan y
    · rfl
    · have : double.order x y = none := order_nan_right hy
      rw [this] at h; cases h
theorem fle_true {x y : Nat} (h : fle x y = true) : isNan x = false ∧ isNan y = false ∧ key x ≤ key y := by
  have h' := h
  unfold fle at h
  cases ho : double.order x y with
  | none => rw [ho] at h; cases h
  | some o =>
    obtain ⟨a, b⟩ := not_nan_of ho
    rw [fle_key a b] at h'
    exact ⟨a, b, of_decide_eq_true h'⟩
theorem fge_true {x y : Nat} (h : fge x y = true) : isNan x = false ∧ isNan y = false ∧ key y ≤ key x := by
  have h' := h
  unfold fge at h
  cases ho : double.order x y with
  | none => rw [ho] at h; cases h
  | some o =>
    obtain ⟨a, b⟩ := not_nan_of ho
    rw [fge_key a b] at h'
    exact ⟨a, b, of_decide_eq_true h'⟩
theorem flt_true {x y : Nat} (h : flt x y = true) : isNan x = false ∧ isNan y = false ∧ key x < key y := by
  have h' := h
  unfold flt at h
  cases ho : double.order x y with
  | none => rw [ho] at h; cases h
  | some o =>
    obtain ⟨a, b⟩ := not_nan_of ho
    rw [flt_key a b] at h'
    exact ⟨a, b, of_decide_eq_true h'⟩
theorem fgt_true {x y : Nat} (h : fgt x y = true) : isNan x = false ∧ isNan y = false ∧ key y < key x := by
  have h' := h
  unfold fgt at h
  cases ho : double.order x y with
  | none => rw [ho] at h; cases h
  | some o =>
    obtain ⟨a, b⟩ := not_nan_of ho
    rw [fgt_key a b] at h'
    exact ⟨a, b, of_decide_eq_true h'⟩
theorem feq_true {x y : Nat} (h : feq x y = true) : isNan x = false ∧ isNan y = false ∧ key x = key y := by
  have h' := h
  unfold feq at h
  cases ho : double.order x y with
  | none => rw [ho] at h; cases h
  | some o =>
    obtain ⟨a, b⟩ := not_nan_of ho
    rw [feq_key a b] at h'
    exact ⟨a, b, of_decide_eq_true h'⟩

/-! ### The key of an exact value, rounded -/
def KR (v : Int) (g : Nat) : Int := cond (decide (v < 0)) (-((min (rq 52 v.natAbs g) 9218868437227405312 : Nat) : Int)) ((min (rq 52 v.natAbs g) 9218868437227405312 : Nat) : Int)

theorem KR_mono {v w : Int} (g : Nat) (h : v ≤ w) : KR v g ≤ KR w g := by
  unfold KR
  by_cases h1 : v < 0
  · rw [decide_eq_true h1, cond_true]
    by_cases h2 : w < 0
    · rw [decide_eq_true h2, cond_true]
      have := rq_mono1 52 (g := g) (show w.natAbs ≤ v.natAbs by omega)
      omega
    · rw [decide_eq_false h2, cond_false]; omega
  · rw [decide_eq_false h1, decide_eq_false (show ¬ w < 0 by omega), cond_false, cond_false]
    have := rq_mono1 52 (g := g) (show v.natAbs ≤ w.natAbs by omega)
    omega
theorem KR_neg (v : Int) {g : Nat} (hg : 0 < g) : KR (-v) g = - KR v g := by
  unfold KR
  rw [Int.natAbs_neg]
  rcases Int.lt_trichotomy v 0 with h | h | h
  · rw [decide_eq_true h, decide_eq_false (show ¬ -v < 0 by omega), cond_true, cond_false, Int.neg_neg]
  · subst h
    rw [Int.neg_zero, Int.natAbs_zero, rq_zero 52 hg]; decide
  · rw [decide_eq_false (show ¬ v < 0 by omega), decide_eq_true (show -v < 0 by omega), cond_true, cond_false]
theorem KR_zero {g : Nat} (hg : 0 < g) : KR 0 g = 0 := by
  unfold KR
  rw [Int.natAbs_zero, rq_zero 52 hg]; decide
theorem KR_sign {v : Int} {g : Nat} : (0 ≤ v → 0 ≤ KR v g) ∧ (v ≤ 0 → 0 < g → KR v g ≤ 0) := by
  unfold KR
  constructor
  · intro h; rw [decide_eq_false (show ¬ v < 0 by omega), cond_false]; omega
  · intro h hg
    by_cases h0 : v = 0
    · subst h0; rw [Int.natAbs_zero, rq_zero 52 hg]; decide
    · rw [decide_eq_true (show v < 0 by omega), cond_true]; omega

theorem key_word (s : Bool) {r : Nat} (h : r ≤ 9218868437227405312) : key (double.word s r) = cond s (-(r : Int)) r := by
  unfold key rung sgn Format.word
  rw [signW]
  cases s
  · have h1 : r / 9223372036854775808 = 0 := Nat.div_eq_of_lt (by omega)
    have h2 : r % 9223372036854775808 = r := Nat.mod_eq_of_lt (by omega)
    simp [h1, h2]
  · have h1 : (9223372036854775808 + r) / 9223372036854775808 = 1 := by omega
    have h2 : (9223372036854775808 + r) % 9223372036854775808 = r := by omega
    simp [h1, h2]

/-- What is written of an exact value 'v / g' units, where the sign is the value's (of nought either). -/
theorem key_nearest {s : Bool} {m u w : Nat} {p : Int} {v : Int} {g : Nat} (hg : 0 < g) (hp : p + 1074 = u - w) (ha : rq 52 (m * 2 ^ u) (2 ^ w) = rq 52 v.natAbs g) (hs : v ≠ 0 → s = decide (v < 0)) : key (double.nearest s m p) = KR v g := by
  rw [nearest_rq s m u w p hp, ha, infR, key_word _ (Nat.min_le_right _ _)]
  unfold KR
  by_cases h0 : v = 0
  · subst h0
    rw [Int.natAbs_zero, rq_zero 52 hg]
    cases s <;> decide
  · rw [hs h0]

theorem KR_val {x : Nat} (h : isFin x = true) : KR (val x) 1 = key x := by
  have hl := isFin_lt h
  have hn : (val x).natAbs = rv 52 (rung x) := by unfold val; cases sgn x <;> simp only [cond_true, cond_false] <;> omega
  unfold KR
  rw [hn, rq_rv]
  unfold val key
  have hz : rung x = 0 ∨ 0 < rv 52 (rung x) := by
    rcases Nat.eq_zero_or_pos (rung x) with e | e
    · exact Or.inl e
    · right; have := rv_lt 52 e; rw [rv_zero] at this; exact this
  rw [Nat.min_eq_left (by omega)]
  cases sgn x
  · rw [cond_false, cond_false, decide_eq_false (by omega), cond_false]
  · rw [cond_true, cond_true]
    rcases hz with e | e
    · rw [e, rv_zero]; decide
    · rw [decide_eq_true (by omega), cond_true]

/-! ### Operations -/
theorem val_signed {x m : Nat} {i base : Int} (hv : rv 52 (rung x) = m * 2 ^ (i + 1074).toNat) (h1 : base ≤ i) (h2 : -1074 ≤ base) : val x = signed (sgn x) m (i - base).toNat * 2 ^ (base + 1074).toNat := by
  rw [← signed_split, show (i - base).toNat + (base + 1074).toNat = (i + 1074).toNat by omega, signed_val, ← hv]; rfl

theorem key_sum {x : Nat} {s t : Bool} {m n : Nat} {i j : Int} {r : Bool} {a b : Int} (hi : -1074 ≤ i) (hj : -1074 ≤ j)
    (ea : a = signed s m (i - min i j).toNat * 2 ^ (min i j + 1074).toNat) (eb : b = signed t n (j - min i j).toNat * 2 ^ (min i j + 1074).toNat)
    (hr : x = double.write (.number r (signed s m (i - min i j).toNat + signed t n (j - min i j).toNat).natAbs (min i j)))
    (hs : signed s m (i - min i j).toNat + signed t n (j - min i j).toNat ≠ 0 → r = decide (signed s m (i - min i j).toNat + signed t n (j - min i j).toNat < 0)) : key x = KR (a + b) 1 := by
  generalize signed s m (i - min i j).toNat = A at *
  generalize signed t n (j - min i j).toNat = B at *
  have e : a + b = (A + B) * 2 ^ (min i j + 1074).toNat := by rw [ea, eb, Int.add_mul]
  have hc : (0 : Int) < 2 ^ (min i j + 1074).toNat := Int.pow_pos (by decide)
  rw [hr, e]
  refine key_nearest (u := (min i j + 1074).toNat) (w := 0) (by decide) (by omega) ?_ ?_
  · rw [Int.natAbs_mul, Int.natAbs_pow]; rfl
  · intro h0
    have hAB : A + B ≠ 0 := fun h => h0 (by rw [h, Int.zero_mul])
    rw [hs hAB]
    refine decide_eq_decide.2 ?_
    constructor
    · intro h; exact Int.mul_neg_of_neg_of_pos h hc
    · intro h
      rcases Int.lt_trichotomy (A + B) 0 with h1 | h1 | h1
      · exact h1
      · exact absurd h1 hAB
      · have := Int.mul_pos h1 hc; omega

theorem key_add {x y : Nat} (hx : isFin x = true) (hy : isFin y = true) : key (fadd x y) = KR (val x + val y) 1 ∧ isNan (fadd x y) = false := by
  obtain ⟨m, i, hrx, hi, _, hvx⟩ := read_fin hx
  obtain ⟨n, j, hry, hj, _, hvy⟩ := read_fin hy
  constructor
  · unfold fadd Format.add
    rw [hrx, hry]
    simp only [Datum.sum, Option.map_some, Option.getD_some]
    refine key_sum hi hj (val_signed hvx (by omega) (by omega)) (val_signed hvy (by omega) (by omega)) rfl ?_
    intro h; rw [if_neg h]
  · have : ∃ r, double.add x y = some r := by unfold Format.add; rw [hrx, hry]; exact ⟨_, rfl⟩
    obtain ⟨r, hr⟩ := this
    unfold fadd; rw [hr]; exact isNan_add hr
theorem key_sub {x y : Nat} (hx : isFin x = true) (hy : isFin y = true) : key (fsub x y) = KR (val x - val y) 1 ∧ isNan (fsub x y) = false := by
  obtain ⟨m, i, hrx, hi, _, hvx⟩ := read_fin hx
  obtain ⟨n, j, hry, hj, _, hvy⟩ := read_fin hy
  constructor
  · unfold fsub Format.sub
    rw [hrx, hry]
    simp only [Datum.opposite, Datum.sum, Option.map_some, Option.getD_some]
    have e : val x - val y = val x + -(val y) := Int.sub_eq_add_neg
    rw [e]
    refine key_sum hi hj (val_signed hvx (by omega) (by omega)) ?_ rfl ?_
    · rw [signed_neg, Int.neg_mul, ← val_signed hvy (by omega) (by omega)]
    · intro h; rw [if_neg h]
  · have : ∃ r, double.sub x y = some r := by unfold Format.sub; rw [hrx, hry]; exact ⟨_, rfl⟩
    obtain ⟨r, hr⟩ := this
    unfold fsub; rw [hr]; exact isNan_sub hr

theorem val_abs (x : Nat) : (val x).natAbs = rv 52 (rung x) := by unfold val; cases sgn x <;> simp only [cond_true, cond_false] <;> omega
theorem val_neg {x : Nat} (h : val x ≠ 0) : sgn x = decide (val x < 0) := by
  unfold val at h ⊢
  cases hs : sgn x
  · rw [cond_false, decide_eq_false (by omega)]
  · rw [hs, cond_true] at h; rw [cond_true, decide_eq_true (by omega)]
theorem mul_sign {a b : Int} (h : a * b ≠ 0) : (decide (a < 0) ^^ decide (b < 0)) = decide (a * b < 0) := by
  have ha : a ≠ 0 := fun e => h (by rw [e, Int.zero_mul])
  have hb : b ≠ 0 := fun e => h (by rw [e, Int.mul_zero])
  rcases Int.lt_or_gt_of_ne ha with h1 | h1 <;> rcases Int.lt_or_gt_of_ne hb with h2 | h2
  · have := Int.mul_pos_of_neg_of_neg h1 h2
    rw [decide_eq_true h1, decide_eq_true h2, decide_eq_false (by omega)]; rfl
  · have := Int.mul_neg_of_neg_of_pos h1 h2
    rw [decide_eq_true h1, decide_eq_false (by omega), decide_eq_true this]; rfl
  · have := Int.mul_neg_of_pos_of_neg h1 h2
    rw [decide_eq_false (by omega), decide_eq_true h2, decide_eq_true this]; rfl
  · have := Int.mul_pos h1 h2
    rw [decide_eq_false (by omega), decide_eq_false (by omega), decide_eq_false (by omega)]; rfl

theorem key_mul {x y c : Nat} (hc : c = 1074) (hx : isFin x = true) (hy : isFin y = true) : key (fmul x y) = KR (val x * val y) (2 ^ c) ∧ isNan (fmul x y) = false := by
  obtain ⟨m, i, hrx, hi, _, hvx⟩ := read_fin hx
  obtain ⟨n, j, hry, hj, _, hvy⟩ := read_fin hy
  constructor
  · unfold fmul Format.mul
    rw [hrx, hry]
    simp only [Datum.product, Option.map_some, Option.getD_some, Format.write]
    refine key_nearest (u := (i + 1074).toNat + (j + 1074).toNat) (w := c) (Nat.two_pow_pos _) (by omega) ?_ ?_
    · rw [Int.natAbs_mul, val_abs, val_abs, hvx, hvy, Nat.pow_add]
      congr 1
      rw [Nat.mul_assoc, Nat.mul_assoc, Nat.mul_left_comm n]
    · intro h
      have ha : val x ≠ 0 := fun e => h (by rw [e, Int.zero_mul])
      have hb : val y ≠ 0 := fun e => h (by rw [e, Int.mul_zero])
      rw [val_neg ha, val_neg hb, mul_sign h]
  · have : ∃ r, double.mul x y = some r := by unfold Format.mul; rw [hrx, hry]; exact ⟨_, rfl⟩
    obtain ⟨r, hr⟩ := this
    unfold fmul; rw [hr]; exact isNan_mul hr

/-- A number's sign, as a factor. -/
def sg (v : Int) : Int := cond (decide (v < 0)) (-1) 1

theorem key_div {x y c : Nat} (hc : c = 1074) (hx : isFin x = true) (hy : isFin y = true) (h0 : val y ≠ 0) : key (fdiv x y) = KR (val x * sg (val y) * ((2 ^ c : Nat) : Int)) (val y).natAbs ∧ isNan (fdiv x y) = false := by
  obtain ⟨m, i, hrx, hi, hm, hvx⟩ := read_fin hx
  obtain ⟨n, j, hry, hj, hn, hvy⟩ := read_fin hy
  have hn0 : n ≠ 0 := fun e => h0 (by
    have : (val y).natAbs = 0 := by rw [val_abs, hvy, e, Nat.zero_mul]
    omega)
  have hr : double.div x y = some (double.write (.number (sgn x ^^ sgn y) (2 * (m <<< (54 + n.log2 - m.log2) / n) + (m <<< (54 + n.log2 - m.log2) % n != 0).toNat) (i - j - (54 + n.log2 - m.log2 : Nat) - 1))) := by
    unfold Format.div
    rw [hrx, hry]
    simp only [Datum.quotient]
    rw [if_neg hn0]
    rfl
  refine ⟨?_, by unfold fdiv; rw [hr]; exact isNan_div hr⟩
  unfold fdiv
  rw [hr, Option.getD_some]
  have hsg : (sg (val y)).natAbs = 1 := by unfold sg; cases decide (val y < 0) <;> rfl
  have hP : 0 < (2 ^ c : Nat) := Nat.two_pow_pos _
  refine key_nearest (u := (i + 1074).toNat + c) (w := (j + 1074).toNat + (54 + n.log2 - m.log2) + 1) (by omega) (by omega) ?_ ?_
  · rw [Int.natAbs_mul, Int.natAbs_mul, hsg, Nat.mul_one, Int.natAbs_natCast, val_abs, val_abs, hvx, hvy]
    by_cases hm0 : m = 0
    · rw [hm0, Nat.zero_shiftLeft, Nat.zero_div, Nat.zero_mod, Nat.zero_mul, Nat.zero_mul]
      show rq 52 (0 * _) _ = _
      rw [Nat.zero_mul, rq_zero 52 (Nat.two_pow_pos _), rq_zero 52 (Nat.mul_pos (by omega) (Nat.two_pow_pos _))]
    · have hl := log2_lt53 hm
      have hq : 2 ^ (52 + 1) ≤ m <<< (54 + n.log2 - m.log2) / n := by
        rw [Nat.le_div_iff_mul_le (by omega)]
        have h1 : 2 ^ (54 + n.log2) ≤ m <<< (54 + n.log2 - m.log2) := by
          rw [Nat.shiftLeft_eq]
          have := Nat.mul_le_mul_right (2 ^ (54 + n.log2 - m.log2)) (Nat.log2_self_le hm0)
          rw [← Nat.pow_add, show m.log2 + (54 + n.log2 - m.log2) = 54 + n.log2 by omega] at this
          exact this
        refine Nat.le_trans ?_ h1
        rw [show 54 + n.log2 = (52 + 1) + (n.log2 + 1) by omega, Nat.pow_add 2 (52 + 1)]
        exact Nat.mul_le_mul_left _ (Nat.le_of_lt Nat.lt_log2_self)
      rw [rq_sticky 52 _ n _ _ (by omega) hq, Nat.shiftLeft_eq]
      generalize 54 + n.log2 - m.log2 = k
      have := rq_mul 52 (m * 2 ^ (i + 1074).toNat * 2 ^ c) (n * 2 ^ (j + 1074).toNat) (Nat.two_pow_pos (k + 1))
      rw [← this]
      congr 1
      · rw [Nat.pow_add, Nat.pow_succ]
        generalize 2 ^ (i + 1074).toNat = a
        generalize 2 ^ c = b
        generalize 2 ^ k = d
        simp only [Nat.mul_assoc, Nat.mul_comm, Nat.mul_left_comm]
      · rw [Nat.mul_assoc, ← Nat.pow_add, Nat.add_assoc]
  · intro h
    have hP' : (0 : Int) < ((2 ^ c : Nat) : Int) := Int.ofNat_lt.2 hP
    generalize ((2 ^ c : Nat) : Int) = P at h hP'
    have h1 : val x * sg (val y) ≠ 0 := fun e => h (by rw [e, Int.zero_mul])
    have ha : val x ≠ 0 := fun e => h1 (by rw [e, Int.zero_mul])
    have h2 := mul_sign h
    rw [← h2, decide_eq_false (show ¬ P < 0 by omega), Bool.xor_false, ← mul_sign h1, val_neg ha, val_neg h0]
    congr 1
    unfold sg
    cases decide (val y < 0) <;> decide
end Go.Ev
