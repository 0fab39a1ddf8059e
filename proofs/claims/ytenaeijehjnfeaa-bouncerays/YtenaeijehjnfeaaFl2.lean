/-
  Floats: sums and products may be turned about; powers of two are taken in and out; what is near stays a number.
-/
import Derived.Test.YtenaeijehjnfeaaFl
namespace Go.Ev
open Ieee

/-! ### Turned about -/
theorem sum_comm (d e : Datum) : d.sum e = e.sum d := by
  cases d <;> cases e <;> simp only [Datum.sum]
  · rename_i s m i t n j
    rw [Int.min_comm i j, Int.add_comm, Bool.and_comm]
  · rename_i s t
    by_cases h : s = t
    · subst h; rfl
    · rw [if_neg h, if_neg (Ne.symm h)]
theorem product_comm (d e : Datum) : d.product e = e.product d := by
  cases d <;> cases e <;> simp only [Datum.product]
  · rename_i s m i t n j
    rw [Nat.mul_comm, Int.add_comm, Bool.xor_comm]
  · rename_i s t; rw [Bool.xor_comm]
theorem fadd_comm (x y : Nat) : fadd x y = fadd y x := by unfold fadd Format.add; rw [sum_comm]
theorem fmul_comm (x y : Nat) : fmul x y = fmul y x := by unfold fmul Format.mul; rw [product_comm]

/-! ### Words -/
theorem leastP : double.leastPlace = -1074 := by decide +kernel
theorem fracB : (double.fractionBits : Int) = 52 := rfl
theorem log2_shl {m : Nat} (k : Nat) (hm : m ≠ 0) : (m <<< k).log2 = m.log2 + k := by
  have hp : 0 < 2 ^ k := Nat.two_pow_pos k
  have hne : m <<< k ≠ 0 := by rw [Nat.shiftLeft_eq]; exact Nat.mul_ne_zero hm (Nat.pos_iff_ne_zero.1 hp)
  rw [Nat.log2_eq_iff hne, Nat.shiftLeft_eq]
  refine ⟨by rw [Nat.pow_add]; exact Nat.mul_le_mul_right _ (Nat.log2_self_le hm), ?_⟩
  rw [show m.log2 + k + 1 = m.log2 + 1 + k by omega, Nat.pow_add]
  exact Nat.mul_lt_mul_of_pos_right Nat.lt_log2_self hp

theorem read_word (s : Bool) {r : Nat} (h : r ≤ 9218868437227405312) : double.read (double.word s r) =
    if r < 4503599627370496 then .number s r (-1074) else if r < 9218868437227405312 then .number s (4503599627370496 + r % 4503599627370496) (-1074 + (r / 4503599627370496 - 1 : Nat)) else .infinity s := by
  have hm := word_mod s h
  have hs : (double.word s r / 9223372036854775808 % 2 == 1) = s := by
    unfold Format.word; rw [signW]
    cases s
    · have : r / 9223372036854775808 = 0 := Nat.div_eq_of_lt (by omega)
      simp [this]
    · have : (9223372036854775808 + r) / 9223372036854775808 = 1 := by omega
      simp [this]
  unfold Format.read
  simp only [signW, infR, binadeV, leastP, hm, hs]
  split
  · rfl
  · split
    · rfl
    · have : r = 9218868437227405312 := by omega
      rw [if_pos this]

/-- What a word of a number is like. -/
theorem read_bounds {x : Nat} {s : Bool} {m : Nat} {i : Int} (h : double.read x = .number s m i) : m < 9007199254740992 ∧ -1074 ≤ i := by
  unfold Format.read at h
  simp only [signW, infR, binadeV, leastP] at h
  split at h
  · cases h; omega
  · split at h
    · rename_i h1 h2
      cases h
      have : x % 9223372036854775808 % 4503599627370496 < 4503599627370496 := Nat.mod_lt _ (by decide)
      omega
    · split at h <;> cases h

theorem log2_lt53 {m : Nat} (h : m < 9007199254740992) : m.log2 ≤ 52 := by
  by_cases h0 : m = 0
  · subst h0; decide
  · have := (Nat.log2_lt h0).2 (show m < 2 ^ 53 by omega)
    omega

/-! ### The nearest word hangs on the number alone -/
theorem cut_shift (s : Bool) (m k d : Nat) (hm : m ≠ 0) : Toward.even.cut s (m <<< k) (d + k) = Toward.even.cut s m d := by
  unfold Toward.cut
  have hlog : (m <<< k).log2 = m.log2 + k := log2_shl k hm
  simp only [hlog]
  have hmin : min (d + k) (m.log2 + k + 2) = min d (m.log2 + 2) + k := by omega
  rw [hmin]
  generalize min d (m.log2 + 2) = g
  have hp : 0 < 2 ^ k := Nat.two_pow_pos k
  have hgap : 1 <<< (g + k) = (1 <<< g) * 2 ^ k := by simp [Nat.shiftLeft_eq, Nat.pow_add]
  have hn : m <<< k = m * 2 ^ k := Nat.shiftLeft_eq m k
  rw [hgap, hn, Nat.mul_div_mul_right _ _ hp, Nat.mul_mod_mul_right]
  generalize m % (1 <<< g) = r
  generalize m / (1 <<< g) = q
  generalize (1 <<< g : Nat) = G
  have e1 : decide (G * 2 ^ k < 2 * (r * 2 ^ k)) = decide (G < 2 * r) := by
    rw [← Nat.mul_assoc]
    exact decide_eq_decide.2 (Nat.mul_lt_mul_right hp)
  have e2 : (G * 2 ^ k == 2 * (r * 2 ^ k)) = (G == 2 * r) := by
    rw [← Nat.mul_assoc]
    rw [Bool.eq_iff_iff]
    simp only [beq_iff_eq]
    exact ⟨fun h => Nat.eq_of_mul_eq_mul_right hp h, fun h => by rw [h]⟩
  rw [e1, e2]

theorem cut_zero (s : Bool) (n : Nat) : Toward.even.cut s n 0 = n := by
  unfold Toward.cut
  simp [Nat.mod_one]

theorem cut_exact (s : Bool) (n d : Nat) (hn : n ≠ 0) : Toward.even.cut s (n <<< d) d = n := by
  have := cut_shift s n d 0 hn
  rw [Nat.zero_add] at this
  rw [this, cut_zero]

theorem nearest_shift (s : Bool) (m : Nat) (p : Int) (k : Nat) : double.nearest s (m <<< k) (p - k) = double.nearest s m p := by
  by_cases hm : m = 0
  · subst hm; simp [Format.nearest]
  · have hmk : m <<< k ≠ 0 := by rw [Nat.shiftLeft_eq]; exact Nat.mul_ne_zero hm (Nat.pos_iff_ne_zero.1 (Nat.two_pow_pos k))
    unfold Format.nearest
    rw [if_neg hm, if_neg hmk]
    have hlog : (m <<< k).log2 = m.log2 + k := log2_shl k hm
    simp only [hlog]
    have hlast : max (p - (k : Int) + ((m.log2 + k : Nat) : Int) - (double.fractionBits : Int)) double.leastPlace = max (p + (m.log2 : Int) - (double.fractionBits : Int)) double.leastPlace := by
      congr 1; omega
    rw [hlast]
    generalize max (p + (m.log2 : Int) - (double.fractionBits : Int)) double.leastPlace = last
    have hkept : Toward.even.cut s (m <<< k <<< (p - (k : Int) - last).toNat) (last - (p - (k : Int))).toNat = Toward.even.cut s (m <<< (p - last).toNat) (last - p).toNat := by
      by_cases h1 : last ≤ p - k
      · have e1 : (last - (p - (k : Int))).toNat = 0 := by omega
        have e2 : (last - p).toNat = 0 := by omega
        rw [e1, e2, cut_zero, cut_zero, ← Nat.shiftLeft_add]
        congr 1; omega
      · have e1 : (p - (k : Int) - last).toNat = 0 := by omega
        rw [e1, Nat.shiftLeft_zero]
        by_cases h2 : last ≤ p
        · have e2 : (last - p).toNat = 0 := by omega
          rw [e2, cut_zero]
          have e3 : m <<< k = m <<< (p - last).toNat <<< (last - (p - (k : Int))).toNat := by
            rw [← Nat.shiftLeft_add]; congr 1; omega
          rw [e3, cut_exact]
          rw [Nat.shiftLeft_eq]; exact Nat.mul_ne_zero hm (Nat.pos_iff_ne_zero.1 (Nat.two_pow_pos _))
        · have e2 : (p - last).toNat = 0 := by omega
          rw [e2, Nat.shiftLeft_zero]
          have e3 : (last - (p - (k : Int))).toNat = (last - p).toNat + k := by omega
          rw [e3, cut_shift s m k _ hm]
    rw [hkept]

theorem nearest_mul (s : Bool) (m : Nat) (p q : Int) (k : Nat) (h : q = p - k) : double.nearest s (m * 2 ^ k) q = double.nearest s m p := by
  rw [h, ← Nat.shiftLeft_eq, nearest_shift]

/-- A number that a word can hold is held. -/
theorem read_nearest (s : Bool) {m : Nat} {p : Int} (hm : m ≠ 0) (h53 : m < 9007199254740992) (hp : -1074 ≤ p) (hb : p + m.log2 ≤ 1023) :
    ∃ k : Nat, double.read (double.nearest s m p) = .number s (m <<< k) (p - k) := by
  have hl := log2_lt53 h53
  have h2 : 2 ^ m.log2 ≤ m := Nat.log2_self_le hm
  have h3 : m < 2 ^ (m.log2 + 1) := Nat.lt_log2_self
  unfold Format.nearest
  rw [if_neg hm]
  simp only [fracB, leastP, binadeV, infR]
  have hle : max (p + (m.log2 : Int) - 52) (-1074) ≤ p := by omega
  by_cases hc : p + (m.log2 : Int) - 52 ≤ -1074
  · have hmax : max (p + (m.log2 : Int) - 52) (-1074) = -1074 := by omega
    rw [hmax]
    have e1 : (-1074 - p).toNat = 0 := by omega
    have e2 : ((-1074 : Int) - -1074).toNat = 0 := by decide
    rw [e1, e2, cut_zero, Nat.zero_mul, Nat.zero_add]
    refine ⟨(p - -1074).toNat, ?_⟩
    have hk : m.log2 + (p - -1074).toNat ≤ 52 := by omega
    have hlt : m <<< (p - -1074).toNat < 9007199254740992 := by
      rw [Nat.shiftLeft_eq]
      calc m * 2 ^ (p - -1074).toNat < 2 ^ (m.log2 + 1) * 2 ^ (p - -1074).toNat := Nat.mul_lt_mul_of_pos_right h3 (Nat.two_pow_pos _)
        _ = 2 ^ (m.log2 + (p - -1074).toNat + 1) := by rw [← Nat.pow_add]; congr 1; omega
        _ ≤ 2 ^ 53 := Nat.pow_le_pow_right (by decide) (by omega)
        _ = 9007199254740992 := by decide
    have hpl : p - ((p - -1074).toNat : Int) = -1074 := by omega
    rw [hpl]
    generalize m <<< (p - -1074).toNat = n at hlt
    rw [Nat.min_eq_left (by omega), read_word s (by omega)]
    split
    · rfl
    · rw [if_pos (by omega)]
      have hd : n / 4503599627370496 = 1 := by omega
      have hmod : 4503599627370496 + n % 4503599627370496 = n := by omega
      rw [hd, hmod]; rfl
  · have hmax : max (p + (m.log2 : Int) - 52) (-1074) = p + (m.log2 : Int) - 52 := by omega
    rw [hmax]
    have e1 : (p + (m.log2 : Int) - 52 - p).toNat = 0 := by omega
    have e3 : (p - (p + (m.log2 : Int) - 52)).toNat = 52 - m.log2 := by omega
    rw [e1, e3, cut_zero]
    refine ⟨52 - m.log2, ?_⟩
    have hlo : 4503599627370496 ≤ m <<< (52 - m.log2) := by
      rw [Nat.shiftLeft_eq]
      calc 4503599627370496 = 2 ^ (m.log2 + (52 - m.log2)) := by rw [show m.log2 + (52 - m.log2) = 52 by omega]
        _ = 2 ^ m.log2 * 2 ^ (52 - m.log2) := Nat.pow_add _ _ _
        _ ≤ m * 2 ^ (52 - m.log2) := Nat.mul_le_mul_right _ h2
    have hhi : m <<< (52 - m.log2) < 9007199254740992 := by
      rw [Nat.shiftLeft_eq]
      calc m * 2 ^ (52 - m.log2) < 2 ^ (m.log2 + 1) * 2 ^ (52 - m.log2) := Nat.mul_lt_mul_of_pos_right h3 (Nat.two_pow_pos _)
        _ = 2 ^ 53 := by rw [← Nat.pow_add]; congr 1; omega
        _ = 9007199254740992 := by decide
    generalize m <<< (52 - m.log2) = n at hlo hhi
    obtain ⟨t, ht⟩ : ∃ t : Nat, (p + (m.log2 : Int) - 52 - -1074).toNat = t ∧ (t : Int) = p + (m.log2 : Int) - 52 + 1074 := ⟨_, rfl, by omega⟩
    rw [ht.1]
    have htb : t ≤ 2045 := by omega
    have hr : t * 4503599627370496 + n < 9218868437227405312 := by omega
    rw [Nat.min_eq_left (by omega), read_word s (by omega), if_neg (by omega), if_pos hr]
    have hd : (t * 4503599627370496 + n) / 4503599627370496 = t + 1 := by omega
    have hmod : (t * 4503599627370496 + n) % 4503599627370496 = n - 4503599627370496 := by omega
    rw [hd, hmod]
    have hn : 4503599627370496 + (n - 4503599627370496) = n := by omega
    rw [hn]
    have hpl : (-1074 + ((t + 1 - 1 : Nat) : Int)) = p - ((52 - m.log2 : Nat) : Int) := by omega
    rw [hpl]

/-! ### What is near -/
/-- A number from minus a million to a million: its word. -/
theorem near_read {x : Nat} (h1 : fge x 13920209183539462144 = true) (h2 : fle x 4696837146684686336 = true) :
    ∃ s m i, double.read x = .number s m i ∧ m < 9007199254740992 ∧ -1074 ≤ i ∧ (m ≠ 0 → i + m.log2 ≤ 19) := by
  have hp : double.read 4696837146684686336 = .number false 8589934592000000 (-33) := by decide +kernel
  have hq : double.read 13920209183539462144 = .number true 8589934592000000 (-33) := by decide +kernel
  unfold fge Format.order at h1
  unfold fle Format.order at h2
  rw [hq] at h1
  rw [hp] at h2
  cases hx : double.read x with
  | nan s f => rw [hx] at h2; simp [Datum.order] at h2
  | infinity s =>
    rw [hx] at h1 h2
    cases s <;> simp [Datum.order] at h1 h2
  | number s m i =>
    obtain ⟨h53, hi⟩ := read_bounds hx
    refine ⟨s, m, i, rfl, h53, hi, fun hm => ?_⟩
    rw [hx] at h1 h2
    simp only [Datum.order] at h1 h2
    have hl := log2_lt53 h53
    by_cases hc : i ≤ -33
    · omega
    · have hmin : min i (-33) = -33 := by omega
      rw [hmin] at h1 h2
      have e0 : ((-33 : Int) - -33).toNat = 0 := by decide
      rw [e0] at h1 h2
      have key : m <<< (i - -33).toNat ≤ 8589934592000000 := by
        cases s
        · simp only [signed, Bool.false_eq_true, if_false, Nat.shiftLeft_zero] at h2
          have : ((m <<< (i - -33).toNat : Nat) : Int) ≤ ((8589934592000000 : Nat) : Int) := by
            rcases Int.lt_trichotomy ((m <<< (i - -33).toNat : Nat) : Int) ((8589934592000000 : Nat) : Int) with h | h | h
            · omega
            · omega
            · have hgt : compare ((m <<< (i - -33).toNat : Nat) : Int) ((8589934592000000 : Nat) : Int) = .gt := by rw [Int.compare_eq_gt]; exact h
              rw [hgt] at h2; simp at h2
          omega
        · simp only [signed, if_true, Nat.shiftLeft_zero] at h1
          have : -((m <<< (i - -33).toNat : Nat) : Int) ≥ -((8589934592000000 : Nat) : Int) := by
            rcases Int.lt_trichotomy (-((m <<< (i - -33).toNat : Nat) : Int)) (-((8589934592000000 : Nat) : Int)) with h | h | h
            · have hlt : compare (-((m <<< (i - -33).toNat : Nat) : Int)) (-((8589934592000000 : Nat) : Int)) = .lt := by rw [Int.compare_eq_lt]; exact h
              rw [hlt] at h1; simp at h1
            · omega
            · omega
          omega
      have hlog := log2_shl (i - -33).toNat hm
      have := log2_lt53 (m := m <<< (i - -33).toNat) (by omega)
      omega

/-! ### Powers of two -/
theorem fmul_pow {x y N : Nat} {s : Bool} {m : Nat} {i j : Int} (hx : double.read x = .number s m i) (hy : double.read y = .number false N j) (hN : N = 2 ^ 52) : fmul x y = double.nearest s m (i + j + 52) := by
  unfold fmul Format.mul
  rw [hx, hy]
  simp only [Datum.product, Option.map_some, Option.getD_some, Bool.xor_false, Format.write]
  subst hN
  exact nearest_mul s m (i + j + 52) (i + j) 52 (by omega)

theorem fdiv_pow {x y N : Nat} {s : Bool} {m : Nat} {i j : Int} (hx : double.read x = .number s m i) (hy : double.read y = .number false N j) (hN : N = 2 ^ 52) (h53 : m < 9007199254740992) : fdiv x y = double.nearest s m (i - j - 52) := by
  unfold fdiv Format.div
  rw [hx, hy]
  have hl := log2_lt53 h53
  have hlog : N.log2 = 52 := by subst hN; exact Nat.log2_two_pow
  have hN0 : N ≠ 0 := by subst hN; exact Nat.pos_iff_ne_zero.1 (Nat.two_pow_pos 52)
  have hNp : 0 < N := Nat.pos_of_ne_zero hN0
  have hfd : double.fractionBits + 2 = 54 := rfl
  simp only [Datum.quotient, hfd, hlog, hN0, if_false, Option.map_some, Option.getD_some, Bool.xor_false, Format.write]
  have hmore : 54 + 52 - m.log2 = 52 + (54 - m.log2) := by omega
  rw [hmore]
  have hsh : m <<< (52 + (54 - m.log2)) = (m * 2 ^ (54 - m.log2)) * N := by
    rw [Nat.shiftLeft_eq, Nat.pow_add, hN, Nat.mul_comm (2 ^ 52), Nat.mul_assoc]
  rw [hsh, Nat.mul_div_cancel _ hNp, Nat.mul_mod_left]
  simp only [bne_self_eq_false, Bool.toNat_false, Nat.add_zero]
  have e : 2 * (m * 2 ^ (54 - m.log2)) = m * 2 ^ (55 - m.log2) := by
    rw [show 55 - m.log2 = (54 - m.log2) + 1 by omega, Nat.pow_succ]
    rw [Nat.mul_comm 2, Nat.mul_assoc]
  rw [e]
  exact nearest_mul s m (i - j - 52) _ (55 - m.log2) (by omega)

theorem nearest_zero (s : Bool) (p : Int) : double.nearest s 0 p = double.word s 0 := by simp [Format.nearest]

/-- Two powers of two, one behind the other, are one. -/
theorem fmul_fmul_pow {x y z N : Nat} {s : Bool} {m : Nat} {i j k : Int} (hx : double.read x = .number s m i) (hy : double.read y = .number false N j) (hz : double.read z = .number false N k) (hN : N = 2 ^ 52)
    (h53 : m < 9007199254740992) (hp : -1074 ≤ i + j + 52) (hb : m ≠ 0 → i + j + 52 + m.log2 ≤ 1023) : fmul (fmul x y) z = double.nearest s m (i + j + 52 + k + 52) := by
  rw [fmul_pow hx hy hN]
  by_cases hm : m = 0
  · subst hm
    rw [nearest_zero, nearest_zero]
    have hr : double.read (double.word s 0) = .number s 0 (-1074) := by rw [read_word s (by omega)]; rfl
    rw [fmul_pow hr hz hN, nearest_zero]
  · obtain ⟨t, ht⟩ := read_nearest s hm h53 hp (hb hm)
    rw [fmul_pow ht hz hN]
    rw [Nat.shiftLeft_eq]
    exact nearest_mul s m _ _ t (by omega)

/-! ### Differences, the other way about -/
theorem word_neg (s : Bool) {r : Nat} (h : r ≤ 9218868437227405312) : double.word s r ^^^ 9223372036854775808 = double.word (!s) r := by
  have h63 : r < 2 ^ 63 := by omega
  unfold Format.word
  rw [signW]
  have e : (9223372036854775808 : Nat) = 2 ^ 63 := by decide
  rw [e]
  cases s
  · simp only [Bool.false_eq_true, if_false, Bool.not_false, if_true]
    have hor := Nat.two_pow_add_eq_or_of_lt h63 1
    rw [Nat.mul_one] at hor
    rw [hor]
    apply Nat.eq_of_testBit_eq
    intro n
    simp only [Nat.testBit_xor, Nat.testBit_or, Nat.testBit_two_pow]
    by_cases hn : 63 = n
    · subst hn; simp [Nat.testBit_lt_two_pow h63]
    · simp [hn]
  · simp only [if_true, Bool.not_true, Bool.false_eq_true, if_false]
    have hor := Nat.two_pow_add_eq_or_of_lt h63 1
    rw [Nat.mul_one] at hor
    rw [hor]
    apply Nat.eq_of_testBit_eq
    intro n
    simp only [Nat.testBit_xor, Nat.testBit_or, Nat.testBit_two_pow]
    by_cases hn : 63 = n
    · subst hn; simp [Nat.testBit_lt_two_pow h63]
    · simp [hn]

theorem nearest_word (s : Bool) (m : Nat) (p : Int) : ∃ r, r ≤ 9218868437227405312 ∧ ∀ t, double.nearest t m p = double.word t r := by
  by_cases hm : m = 0
  · subst hm; exact ⟨0, by omega, fun t => nearest_zero t p⟩
  · refine ⟨min ((max (p + m.log2 - double.fractionBits) double.leastPlace - double.leastPlace).toNat * double.binade +
      Toward.even.cut s (m <<< (p - max (p + m.log2 - double.fractionBits) double.leastPlace).toNat) (max (p + m.log2 - double.fractionBits) double.leastPlace - p).toNat) double.infRung, by rw [infR]; exact Nat.min_le_right _ _, fun t => ?_⟩
    unfold Format.nearest
    rw [if_neg hm]
    rfl

theorem fneg_word (s : Bool) {r : Nat} (h : r ≤ 9218868437227405312) : fneg (double.word s r) = double.word (!s) r := by
  unfold fneg
  rw [isNan_word s h, cond_false, word_neg s h]

theorem signed_neg (s : Bool) (m k : Nat) : signed (!s) m k = - signed s m k := by cases s <;> simp [signed]

/-- 'x - y' is 'y - x' with its sign turned, where both are numbers. -/
theorem fsub_turn {x y : Nat} {s t : Bool} {m n : Nat} {i j : Int} (hx : double.read x = .number s m i) (hy : double.read y = .number t n j) : feq (fsub x y) (fneg (fsub y x)) = true := by
  unfold fsub Format.sub
  rw [hx, hy]
  simp only [Datum.opposite, Datum.sum, Option.map_some, Option.getD_some, Format.write]
  rw [Int.min_comm j i]
  generalize min i j = base
  rw [signed_neg, signed_neg]
  generalize ha : signed s m (i - base).toNat = a
  generalize hb : signed t n (j - base).toNat = b
  have e1 : (a + -b).natAbs = (b + -a).natAbs := by omega
  rw [e1]
  by_cases h0 : a + -b = 0
  · have h0' : b + -a = 0 := by omega
    rw [h0']
    simp only [h0, if_true, Int.natAbs_zero, nearest_zero]
    rw [fneg_word _ (by omega)]
    unfold feq Format.order
    rw [read_word _ (by omega), read_word _ (by omega)]
    simp [Datum.order, signed]
  · have h0' : b + -a ≠ 0 := by omega
    rw [if_neg h0, if_neg h0']
    obtain ⟨r, hr, hw⟩ := nearest_word true (b + -a).natAbs base
    rw [hw, hw, fneg_word _ hr]
    have e2 : (!decide (b + -a < 0)) = decide (a + -b < 0) := by
      rw [Bool.eq_iff_iff]; simp; omega
    rw [e2, feq_self, isNan_word _ hr]
    rfl

/-- A product of near numbers is a number. -/
theorem fmul_near {x y : Nat} {s t : Bool} {m n : Nat} {i j : Int} (hx : double.read x = .number s m i) (hy : double.read y = .number t n j) (h1 : m ≠ 0 → i + m.log2 ≤ 19) (h2 : n ≠ 0 → j + n.log2 ≤ 19) :
    ∃ u p k, double.read (fmul x y) = .number u p k := by
  unfold fmul Format.mul
  rw [hx, hy]
  simp only [Datum.product, Option.map_some, Option.getD_some, Format.write]
  have small : ∀ (u : Bool) (p : Nat) (k : Int), (p ≠ 0 → k + p.log2 ≤ 1000) → ∃ u' p' k', double.read (double.nearest u p k) = .number u' p' k' := by
    intro u p k hp
    by_cases h0 : p = 0
    · subst h0
      rw [nearest_zero, read_word u (by omega)]
      exact ⟨_, _, _, rfl⟩
    · have hk := hp h0
      unfold Format.nearest
      rw [if_neg h0]
      simp only [fracB, leastP, binadeV, infR]
      have hcut : ∀ n d : Nat, n < 2 ^ (53 + d) → Toward.even.cut u n d ≤ 2 ^ 53 := by
        intro n d hn
        unfold Toward.cut
        by_cases hd : d ≤ n.log2 + 2
        · rw [Nat.min_eq_left hd]
          have h1 : n / (1 <<< d) < 2 ^ 53 := by
            rw [Nat.shiftLeft_eq, Nat.one_mul]
            exact Nat.div_lt_of_lt_mul (by rw [← Nat.pow_add, Nat.add_comm]; exact hn)
          have h2 : ∀ c : Bool, n / (1 <<< d) + c.toNat ≤ 2 ^ 53 := fun c => by cases c <;> simp <;> omega
          exact h2 _
        · rw [Nat.min_eq_right (by omega)]
          have h1 : n / (1 <<< (n.log2 + 2)) = 0 := by
            rw [Nat.shiftLeft_eq, Nat.one_mul]
            exact Nat.div_eq_of_lt (Nat.lt_of_lt_of_le Nat.lt_log2_self (Nat.pow_le_pow_right (by decide) (by omega)))
          have h2 : ∀ c : Bool, n / (1 <<< (n.log2 + 2)) + c.toNat ≤ 2 ^ 53 := fun c => by rw [h1]; cases c <;> simp
          exact h2 _
      have hlt : p < 2 ^ (p.log2 + 1) := Nat.lt_log2_self
      have hkept : Toward.even.cut u (p <<< (k - max (k + (p.log2 : Int) - 52) (-1074)).toNat) (max (k + (p.log2 : Int) - 52) (-1074) - k).toNat ≤ 9007199254740992 := by
        refine hcut _ _ ?_
        rw [Nat.shiftLeft_eq]
        calc p * 2 ^ (k - max (k + (p.log2 : Int) - 52) (-1074)).toNat < 2 ^ (p.log2 + 1) * 2 ^ (k - max (k + (p.log2 : Int) - 52) (-1074)).toNat := Nat.mul_lt_mul_of_pos_right hlt (Nat.two_pow_pos _)
          _ = 2 ^ (p.log2 + 1 + (k - max (k + (p.log2 : Int) - 52) (-1074)).toNat) := by rw [← Nat.pow_add]
          _ ≤ 2 ^ (53 + (max (k + (p.log2 : Int) - 52) (-1074) - k).toNat) := Nat.pow_le_pow_right (by decide) (by omega)
      have hrung : (max (k + (p.log2 : Int) - 52) (-1074) - -1074).toNat ≤ 2022 := by omega
      generalize Toward.even.cut u (p <<< (k - max (k + (p.log2 : Int) - 52) (-1074)).toNat) (max (k + (p.log2 : Int) - 52) (-1074) - k).toNat = c at hkept
      generalize (max (k + (p.log2 : Int) - 52) (-1074) - -1074).toNat = q at hrung
      have hr : q * 4503599627370496 + c < 9218868437227405312 := by omega
      rw [Nat.min_eq_left (by omega), read_word u (by omega)]
      split
      · exact ⟨_, _, _, rfl⟩
      · first | exact ⟨_, _, _, rfl⟩ | (rw [if_pos hr]; exact ⟨_, _, _, rfl⟩)
  refine small _ _ _ fun hmn => ?_
  have hm : m ≠ 0 := fun h => hmn (by rw [h, Nat.zero_mul])
  have hn : n ≠ 0 := fun h => hmn (by rw [h, Nat.mul_zero])
  have a1 := h1 hm
  have a2 := h2 hn
  have hlog : (m * n).log2 ≤ m.log2 + n.log2 + 1 := by
    have h3 : m * n < 2 ^ (m.log2 + n.log2 + 2) := by
      calc m * n < 2 ^ (m.log2 + 1) * 2 ^ (n.log2 + 1) := Nat.mul_lt_mul'' Nat.lt_log2_self Nat.lt_log2_self
        _ = 2 ^ (m.log2 + n.log2 + 2) := by rw [← Nat.pow_add]; congr 1; omega
    have := (Nat.log2_lt hmn).2 h3
    omega
  omega

end Go.Ev
