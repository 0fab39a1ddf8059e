/-
  Floats: ones and noughts among products and sums.
-/
import Derived.Test.YtenaeijehjnfeaaFl2
namespace Go.Ev
open Ieee

/-- A near number, and what it is, in the least parts that there are. -/
def Nice (x : Nat) (v : Int) : Prop :=
  ∃ s m i, double.read x = .number s m i ∧ m < 9007199254740992 ∧ -1074 ≤ i ∧ (m ≠ 0 → i + m.log2 ≤ 19) ∧ signed s m (i + 1074).toNat = v

theorem signed_mul (s : Bool) (m k : Nat) : signed s m k = signed s 1 0 * ((m : Int) * 2 ^ k) := by
  cases s <;> simp [signed, Nat.shiftLeft_eq]

theorem signed_abs (s : Bool) (m k : Nat) : (signed s m k).natAbs = m <<< k := by
  unfold signed
  generalize m <<< k = n
  cases s
  · simp only [Bool.false_eq_true, if_false]; omega
  · simp only [if_true]; omega

theorem signed_split (s : Bool) (m a b : Nat) : signed s m (a + b) = signed s m a * 2 ^ b := by
  rw [signed_mul, signed_mul s m a, Int.mul_assoc, Int.mul_assoc, Int.pow_add]

theorem nice_zero {x : Nat} {s : Bool} {i : Int} (h : double.read x = .number s 0 i) : Nice x 0 := by
  refine ⟨s, 0, i, h, by decide, (read_bounds h).2, fun h => absurd rfl h, ?_⟩
  cases s <;> simp [signed]

/-- What the nearest word of a near number is. -/
theorem nice_nearest {s : Bool} {m : Nat} {i : Int} (h53 : m < 9007199254740992) (hi : -1074 ≤ i) (hb : m ≠ 0 → i + m.log2 ≤ 19) : Nice (double.nearest s m i) (signed s m (i + 1074).toNat) := by
  by_cases hm : m = 0
  · subst hm
    rw [nearest_zero]
    have hr : double.read (double.word s 0) = .number s 0 (-1074) := by rw [read_word s (by omega)]; rfl
    have := nice_zero hr
    have e : signed s 0 (i + 1074).toNat = 0 := by cases s <;> simp [signed]
    rw [e]; exact this
  · have hbm := hb hm
    obtain ⟨k, hk⟩ := read_nearest s hm h53 hi (by omega)
    obtain ⟨h1, h2⟩ := read_bounds hk
    refine ⟨s, m <<< k, i - k, hk, h1, h2, fun _ => by rw [log2_shl k hm]; omega, ?_⟩
    rw [signed_mul, signed_mul s m]
    congr 1
    rw [Nat.shiftLeft_eq, show (i + 1074).toNat = k + (i - k + 1074).toNat by omega, Int.pow_add]
    push_cast
    rw [Int.mul_assoc]

/-- A factor that is 1, -1 or 0. -/
def cls (c : Nat) : Option Int :=
  cond (c == 4607182418800017408) (some 1) (cond (c == 13830554455654793216) (some (-1)) (cond (c == 0) (some 0) (cond (c == 9223372036854775808) (some 0) none)))

theorem nice_coef {c x : Nat} {k v : Int} (hc : cls c = some k) (hx : Nice x v) : Nice (fmul c x) (k * v) := by
  obtain ⟨s, m, i, hr, h53, hi, hb, hv⟩ := hx
  unfold cls at hc
  cases h1 : (c == 4607182418800017408)
  · rw [h1, cond_false] at hc
    cases h2 : (c == 13830554455654793216)
    · rw [h2, cond_false] at hc
      have zero : ∀ (t : Bool), double.read c = .number t 0 (-1074) → k = 0 → Nice (fmul c x) (k * v) := fun t ht hk => by
        subst hk
        rw [Int.zero_mul]
        unfold fmul Format.mul
        rw [ht, hr]
        simp only [Datum.product, Option.map_some, Option.getD_some, Format.write, Nat.zero_mul, nearest_zero]
        exact nice_zero (i := -1074) (by rw [read_word _ (by omega)]; rfl)
      cases h3 : (c == 0)
      · rw [h3, cond_false] at hc
        cases h4 : (c == 9223372036854775808)
        · rw [h4] at hc; cases hc
        · have e : c = 9223372036854775808 := by simpa using h4
          rw [h4, cond_true] at hc
          refine zero true ?_ (by simpa using hc.symm)
          subst e; decide +kernel
      · have e : c = 0 := by simpa using h3
        rw [h3, cond_true] at hc
        refine zero false ?_ (by simpa using hc.symm)
        subst e; decide +kernel
    · have e : c = 13830554455654793216 := by simpa using h2
      rw [h2, cond_true] at hc
      have hk : k = -1 := by simpa using hc.symm
      subst e hk
      have hcr : double.read 13830554455654793216 = .number true 4503599627370496 (-52) := by decide +kernel
      have hmul : fmul 13830554455654793216 x = double.nearest (!s) m i := by
        unfold fmul Format.mul
        rw [hcr, hr]
        simp only [Datum.product, Option.map_some, Option.getD_some, Bool.true_xor, Format.write]
        have e52 : (4503599627370496 : Nat) = 2 ^ 52 := by decide
        rw [e52, Nat.mul_comm]
        exact nearest_mul (!s) m i _ 52 (by omega)
      rw [hmul]
      have := nice_nearest (s := !s) h53 hi hb
      rw [signed_neg, hv] at this
      rw [Int.neg_mul, Int.one_mul]
      exact this
  · have e : c = 4607182418800017408 := by simpa using h1
    rw [h1, cond_true] at hc
    have hk : k = 1 := by simpa using hc.symm
    subst e hk
    have hcr : double.read 4607182418800017408 = .number false 4503599627370496 (-52) := by decide +kernel
    have hmul : fmul 4607182418800017408 x = double.nearest s m i := by
      rw [fmul_comm, fmul_pow hr hcr (by decide)]
      congr 1; omega
    rw [hmul, Int.one_mul, ← hv]
    exact nice_nearest h53 hi hb

/-- A sum with a nought. -/
theorem nice_add {x y : Nat} {v : Int} (hx : Nice x v) (hy : Nice y 0) : Nice (fadd x y) v := by
  obtain ⟨s, m, i, hr, h53, hi, hb, hv⟩ := hx
  obtain ⟨t, n, j, hq, g53, hj, gb, gv⟩ := hy
  have hn : n = 0 := by
    rw [signed_mul] at gv
    have h1 : signed t 1 0 = 1 ∨ signed t 1 0 = -1 := by cases t <;> simp [signed]
    have hp : (2 : Int) ^ (j + 1074).toNat ≠ 0 := by
      have : (0 : Int) < 2 ^ (j + 1074).toNat := Int.pow_pos (by decide)
      omega
    rcases h1 with h1 | h1 <;> rw [h1] at gv
    · rw [Int.one_mul] at gv
      rcases Int.mul_eq_zero.1 gv with h | h
      · omega
      · exact absurd h hp
    · have gv' : (n : Int) * 2 ^ (j + 1074).toNat = 0 := by
        rw [Int.neg_mul, Int.one_mul] at gv; omega
      rcases Int.mul_eq_zero.1 gv' with h | h
      · omega
      · exact absurd h hp
  subst hn
  unfold fadd Format.add
  rw [hr, hq]
  simp only [Datum.sum, Option.map_some, Option.getD_some, Format.write]
  have hz : signed t 0 (j - min i j).toNat = 0 := by cases t <;> simp [signed]
  rw [hz, Int.add_zero]
  have habs : (signed s m (i - min i j).toNat).natAbs = m <<< (i - min i j).toNat := signed_abs s m _
  rw [habs]
  by_cases hm : m = 0
  · subst hm
    rw [Nat.zero_shiftLeft, nearest_zero]
    have hv0 : v = 0 := by rw [← hv]; cases s <;> simp [signed]
    rw [hv0]
    exact nice_zero (i := -1074) (by rw [read_word _ (by omega)]; rfl)
  · have hne : m <<< (i - min i j).toNat ≠ 0 := by rw [Nat.shiftLeft_eq]; exact Nat.mul_ne_zero hm (Nat.pos_iff_ne_zero.1 (Nat.two_pow_pos _))
    have hne' : signed s m (i - min i j).toNat ≠ 0 := fun h => hne (by rw [← habs, h]; rfl)
    rw [if_neg hne']
    have hsg : decide (signed s m (i - min i j).toNat < 0) = s := by
      cases s
      · have : ¬ signed false m (i - min i j).toNat < 0 := by
          unfold signed
          simp only [Bool.false_eq_true, if_false]; omega
        simp [this]
      · have : signed true m (i - min i j).toNat < 0 := by
          have : 0 < m <<< (i - min i j).toNat := Nat.pos_of_ne_zero hne
          simp only [signed, if_true]; omega
        simp [this]
    rw [hsg]
    have hsh : double.nearest s (m <<< (i - min i j).toNat) (min i j) = double.nearest s m i := by
      have := nearest_shift s m i (i - min i j).toNat
      rw [show i - ((i - min i j).toNat : Int) = min i j by omega] at this
      exact this
    rw [hsh, ← hv]
    exact nice_nearest h53 hi hb

theorem nice_add' {x y : Nat} {v : Int} (hx : Nice x 0) (hy : Nice y v) : Nice (fadd x y) v := by
  rw [fadd_comm]; exact nice_add hy hx

/-- Numbers that are the same are told to be. -/
theorem nice_eq {x y : Nat} {v : Int} (hx : Nice x v) (hy : Nice y v) : feq x y = true := by
  obtain ⟨s, m, i, hr, h53, hi, hb, hv⟩ := hx
  obtain ⟨t, n, j, hq, g53, hj, gb, gv⟩ := hy
  unfold feq Format.order
  rw [hr, hq]
  simp only [Datum.order]
  have e1 : signed s m (i - min i j).toNat * 2 ^ (min i j + 1074).toNat = v := by
    rw [← signed_split, ← hv]; congr 1; omega
  have e2 : signed t n (j - min i j).toNat * 2 ^ (min i j + 1074).toNat = v := by
    rw [← signed_split, ← gv]; congr 1; omega
  have hp : (2 : Int) ^ (min i j + 1074).toNat ≠ 0 := by
    have : (0 : Int) < 2 ^ (min i j + 1074).toNat := Int.pow_pos (by decide)
    omega
  have e3 : signed s m (i - min i j).toNat = signed t n (j - min i j).toNat := Int.eq_of_mul_eq_mul_right hp (by rw [e1, e2])
  rw [e3]
  simp

end Go.Ev
