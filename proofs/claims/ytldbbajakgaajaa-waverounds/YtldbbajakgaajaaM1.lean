/-
  Fl Fl2 Fl4 Fl5 Fl3 Fl6 Fl7 Fl8, one behind the other.
-/
import Derived.Test.YtldbbajakgaajaaEv1
namespace Go.Ev
open Ieee

theorem order_self {d : Datum} (h : d.isNaN = false) : d.order d = some .eq := by
  cases d with
  | number s m i => simp only [Datum.order]; simp
  | infinity s => simp [Datum.order]
  | nan s f => simp [Datum.isNaN] at h

theorem feq_self (x : Nat) : feq x x = !isNan x := by
  unfold feq
  cases h : isNan x
  · have : double.order x x = some .eq := order_self h
    rw [this]; rfl
  · have : double.order x x = none := order_nan_left h
    rw [this]; rfl

theorem isNan_fdiv_one {x : Nat} (h : isNan x = false) : isNan (fdiv 4607182418800017408 x) = false := by
  unfold fdiv
  cases hd : double.div 4607182418800017408 x with
  | some r => exact isNan_div hd
  | none =>
    exfalso
    unfold Format.div at hd
    have hr : double.read 4607182418800017408 = .number false 4503599627370496 (-52) := by decide +kernel
    rw [hr] at hd
    cases hx : double.read x with
    | number s m i =>
      rw [hx] at hd
      simp only [Datum.quotient] at hd
      split at hd
      · simp at hd
      · simp at hd
    | infinity s => rw [hx] at hd; simp [Datum.quotient] at hd
    | nan s f => unfold isNan at h; rw [hx] at h; simp [Datum.isNaN] at h

end Go.Ev

namespace Go.Ev
open Ieee

/-! ### Turned about -/
theorem sum_comm (d e : Datum) : d.sum e = e.sum d := by
  cases d <;> cases e <;> simp only [Datum.sum]
  · rename_i s m i t n j
    rw [Int.min_comm i j, Int.add_comm, Bool.and_comm]
  · rename_i s t
    by_cases h : s = t
    · subst h; rfl
    · rw [if_neg h, if_neg (Ne.symm h)]
theorem product_comm (d e : Datum) : d.product e = e.product d := by
  cases d <;> cases e <;> simp only [Datum.product]
  · rename_i s m i t n j
    rw [Nat.mul_comm, Int.add_comm, Bool.xor_comm]
  · rename_i s t; rw [Bool.xor_comm]
theorem fadd_comm (x y : Nat) : fadd x y = fadd y x := by unfold fadd Format.add; rw [sum_comm]
theorem fmul_comm (x y : Nat) : fmul x y = fmul y x := by unfold fmul Format.mul; rw [product_comm]

/-! ### Words -/
theorem leastP : double.leastPlace = -1074 := by decide +kernel
theorem fracB : (double.fractionBits : Int) = 52 := rfl
theorem log2_shl {m : Nat} (k : Nat) (hm : m ≠ 0) : (m <<< k).log2 = m.log2 + k := by
  have hp : 0 < 2 ^ k := Nat.two_pow_pos k
  have hne : m <<< k ≠ 0 := by rw [Nat.shiftLeft_eq]; exact Nat.mul_ne_zero hm (Nat.pos_iff_ne_zero.1 hp)
  rw [Nat.log2_eq_iff hne, Nat.shiftLeft_eq]
  refine ⟨by rw [Nat.pow_add]; exact Nat.mul_le_mul_right _ (Nat.log2_self_le hm), ?_⟩
  rw [show m.log2 + k + 1 = m.log2 + 1 + k by omega, Nat.pow_add]
  exact Nat.mul_lt_mul_of_pos_right Nat.lt_log2_self hp

theorem read_word (s : Bool) {r : Nat} (h : r ≤ 9218868437227405312) : double.read (double.word s r) =
    if r < 4503599627370496 then .number s r (-1074) else if r < 9218868437227405312 then .number s (4503599627370496 + r % 4503599627370496) (-1074 + (r / 4503599627370496 - 1 : Nat)) else .infinity s := by
  have hm := word_mod s h
  have hs : (double.word s r / 9223372036854775808 % 2 == 1) = s := by
    unfold Format.word; rw [signW]
    cases s
    · have : r / 9223372036854775808 = 0 := Nat.div_eq_of_lt (by omega)
      simp [this]
    · have : (9223372036854775808 + r) / 9223372036854775808 = 1 := by omega
      simp [this]
  unfold Format.read
  simp only [signW, infR, binadeV, leastP, hm, hs]
  split
  · rfl
  · split
    · rfl
    · have : r = 9218868437227405312 := by omega
      rw [if_pos this]

/-- What a word of a number is like. -/
theorem read_bounds {x : Nat} {s : Bool} {m : Nat} {i : Int} (h : double.read x = .number s m i) : m < 9007199254740992 ∧ -1074 ≤ i := by
  unfold Format.read at h
  simp only [signW, infR, binadeV, leastP] at h
  split at h
  · cases h; omega
  · split at h
    · rename_i h1 h2
      cases h
      have : x % 9223372036854775808 % 4503599627370496 < 4503599627370496 := Nat.mod_lt _ (by decide)
      omega
    · split at h <;> cases h

theorem log2_lt53 {m : Nat} (h : m < 9007199254740992) : m.log2 ≤ 52 := by
  by_cases h0 : m = 0
  · subst h0; decide
  · have := (Nat.log2_lt h0).2 (show m < 2 ^ 53 by omega)
    omega

/-! ### The nearest word hangs on the number alone -/
theorem cut_shift (s : Bool) (m k d : Nat) (hm : m ≠ 0) : Toward.even.cut s (m <<< k) (d + k) = Toward.even.cut s m d := by
  unfold Toward.cut
  have hlog : (m <<< k).log2 = m.log2 + k := log2_shl k hm
  simp only [hlog]
  have hmin : min (d + k) (m.log2 + k + 2) = min d (m.log2 + 2) + k := by omega
  rw [hmin]
  generalize min d (m.log2 + 2) = g
  have hp : 0 < 2 ^ k := Nat.two_pow_pos k
  have hgap : 1 <<< (g + k) = (1 <<< g) * 2 ^ k := by simp [Nat.shiftLeft_eq, Nat.pow_add]
  have hn : m <<< k = m * 2 ^ k := Nat.shiftLeft_eq m k
  rw [hgap, hn, Nat.mul_div_mul_right _ _ hp, Nat.mul_mod_mul_right]
  generalize m % (1 <<< g) = r
  generalize m / (1 <<< g) = q
  generalize (1 <<< g : Nat) = G
  have e1 : decide (G * 2 ^ k < 2 * (r * 2 ^ k)) = decide (G < 2 * r) := by
    rw [← Nat.mul_assoc]
    exact decide_eq_decide.2 (Nat.mul_lt_mul_right hp)
  have e2 : (G * 2 ^ k == 2 * (r * 2 ^ k)) = (G == 2 * r) := by
    rw [← Nat.mul_assoc]
    rw [Bool.eq_iff_iff]
    simp only [beq_iff_eq]
    exact ⟨fun h => Nat.eq_of_mul_eq_mul_right hp h, fun h => by rw [h]⟩
  rw [e1, e2]

theorem cut_zero (s : Bool) (n : Nat) : Toward.even.cut s n 0 = n := by
  unfold Toward.cut
  simp [Nat.mod_one]

theorem cut_exact (s : Bool) (n d : Nat) (hn : n ≠ 0) : Toward.even.cut s (n <<< d) d = n := by
  have := cut_shift s n d 0 hn
  rw [Nat.zero_add] at this
  rw [this, cut_zero]

theorem nearest_shift (s : Bool) (m : Nat) (p : Int) (k : Nat) : double.nearest s (m <<< k) (p - k) = double.nearest s m p := by
  by_cases hm : m = 0
  · subst hm; simp [Format.nearest]
  · have hmk : m <<< k ≠ 0 := by rw [Nat.shiftLeft_eq]; exact Nat.mul_ne_zero hm (Nat.pos_iff_ne_zero.1 (Nat.two_pow_pos k))
    unfold Format.nearest
    rw [if_neg hm, if_neg hmk]
    have hlog : (m <<< k).log2 = m.log2 + k := log2_shl k hm
    simp only [hlog]
    have hlast : max (p - (k : Int) + ((m.log2 + k : Nat) : Int) - (double.fractionBits : Int)) double.leastPlace = max (p + (m.log2 : Int) - (double.fractionBits : Int)) double.leastPlace := by
      congr 1; omega
    rw [hlast]
    generalize max (p + (m.log2 : Int) - (double.fractionBits : Int)) double.leastPlace = last
    have hkept : Toward.even.cut s (m <<< k <<< (p - (k : Int) - last).toNat) (last - (p - (k : Int))).toNat = Toward.even.cut s (m <<< (p - last).toNat) (last - p).toNat := by
      by_cases h1 : last ≤ p - k
      · have e1 : (last - (p - (k : Int))).toNat = 0 := by omega
        have e2 : (last - p).toNat = 0 := by omega
        rw [e1, e2, cut_zero, cut_zero, ← Nat.shiftLeft_add]
        congr 1; omega
      · have e1 : (p - (k : Int) - last).toNat = 0 := by omega
        rw [e1, Nat.shiftLeft_zero]
        by_cases h2 : last ≤ p
        · have e2 : (last - p).toNat = 0 := by omega
          rw [e2, cut_zero]
          have e3 : m <<< k = m <<< (p - last).toNat <<< (last - (p - (k : Int))).toNat := by
            rw [← Nat.shiftLeft_add]; congr 1; omega
          rw [e3, cut_exact]
          rw [Nat.shiftLeft_eq]; exact Nat.mul_ne_zero hm (Nat.pos_iff_ne_zero.1 (Nat.two_pow_pos _))
        · have e2 : (p - last).toNat = 0 := by omega
          rw [e2, Nat.shiftLeft_zero]
          have e3 : (last - (p - (k : Int))).toNat = (last - p).toNat + k := by omega
          rw [e3, cut_shift s m k _ hm]
    rw [hkept]

theorem nearest_mul (s : Bool) (m : Nat) (p q : Int) (k : Nat) (h : q = p - k) : double.nearest s (m * 2 ^ k) q = double.nearest s m p := by
  rw [h, ← Nat.shiftLeft_eq, nearest_shift]

/-- A number that a word can hold is held. -/
theorem read_nearest (s : Bool) {m : Nat} {p : Int} (hm : m ≠ 0) (h53 : m < 9007199254740992) (hp : -1074 ≤ p) (hb : p + m.log2 ≤ 1023) :
    ∃ k : Nat, double.read (double.nearest s m p) = .number s (m <<< k) (p - k) := by
  have hl := log2_lt53 h53
  have h2 : 2 ^ m.log2 ≤ m := Nat.log2_self_le hm
  have h3 : m < 2 ^ (m.log2 + 1) := Nat.lt_log2_self
  unfold Format.nearest
  rw [if_neg hm]
  simp only [fracB, leastP, binadeV, infR]
  have hle : max (p + (m.log2 : Int) - 52) (-1074) ≤ p := by omega
  by_cases hc : p + (m.log2 : Int) - 52 ≤ -1074
  · have hmax : max (p + (m.log2 : Int) - 52) (-1074) = -1074 := by omega
    rw [hmax]
    have e1 : (-1074 - p).toNat = 0 := by omega
    have e2 : ((-1074 : Int) - -1074).toNat = 0 := by decide
    rw [e1, e2, cut_zero, Nat.zero_mul, Nat.zero_add]
    refine ⟨(p - -1074).toNat, ?_⟩
    have hk : m.log2 + (p - -1074).toNat ≤ 52 := by omega
    have hlt : m <<< (p - -1074).toNat < 9007199254740992 := by
      rw [Nat.shiftLeft_eq]
      calc m * 2 ^ (p - -1074).toNat < 2 ^ (m.log2 + 1) * 2 ^ (p - -1074).toNat := Nat.mul_lt_mul_of_pos_right h3 (Nat.two_pow_pos _)
        _ = 2 ^ (m.log2 + (p - -1074).toNat + 1) := by rw [← Nat.pow_add]; congr 1; omega
        _ ≤ 2 ^ 53 := Nat.pow_le_pow_right (by decide) (by omega)
        _ = 9007199254740992 := by decide
    have hpl : p - ((p - -1074).toNat : Int) = -1074 := by omega
    rw [hpl]
    generalize m <<< (p - -1074).toNat = n at hlt
    rw [Nat.min_eq_left (by omega), read_word s (by omega)]
    split
    · rfl
    · rw [if_pos (by omega)]
      have hd : n / 4503599627370496 = 1 := by omega
      have hmod : 4503599627370496 + n % 4503599627370496 = n := by omega
      rw [hd, hmod]; rfl
  · have hmax : max (p + (m.log2 : Int) - 52) (-1074) = p + (m.log2 : Int) - 52 := by omega
    rw [hmax]
    have e1 : (p + (m.log2 : Int) - 52 - p).toNat = 0 := by omega
    have e3 : (p - (p + (m.log2 : Int) - 52)).toNat = 52 - m.log2 := by omega
    rw [e1, e3, cut_zero]
    refine ⟨52 - m.log2, ?_⟩
    have hlo : 4503599627370496 ≤ m <<< (52 - m.log2) := by
      rw [Nat.shiftLeft_eq]
      calc 4503599627370496 = 2 ^ (m.log2 + (52 - m.log2)) := by rw [show m.log2 + (52 - m.log2) = 52 by omega]
        _ = 2 ^ m.log2 * 2 ^ (52 - m.log2) := Nat.pow_add _ _ _
        _ ≤ m * 2 ^ (52 - m.log2) := Nat.mul_le_mul_right _ h2
    have hhi : m <<< (52 - m.log2) < 9007199254740992 := by
      rw [Nat.shiftLeft_eq]
      calc m * 2 ^ (52 - m.log2) < 2 ^ (m.log2 + 1) * 2 ^ (52 - m.log2) := Nat.mul_lt_mul_of_pos_right h3 (Nat.two_pow_pos _)
        _ = 2 ^ 53 := by rw [← Nat.pow_add]; congr 1; omega
        _ = 9007199254740992 := by decide
    generalize m <<< (52 - m.log2) = n at hlo hhi
    obtain ⟨t, ht⟩ : ∃ t : Nat, (p + (m.log2 : Int) - 52 - -1074).toNat = t ∧ (t : Int) = p + (m.log2 : Int) - 52 + 1074 := ⟨_, rfl, by omega⟩
    rw [ht.1]
    have htb : t ≤ 2045 := by omega
    have hr : t * 4503599627370496 + n < 9218868437227405312 := by omega
    rw [Nat.min_eq_left (by omega), read_word s (by omega), if_neg (by omega), if_pos hr]
    have hd : (t * 4503599627370496 + n) / 4503599627370496 = t + 1 := by omega
    have hmod : (t * 4503599627370496 + n) % 4503599627370496 = n - 4503599627370496 := by omega
    rw [hd, hmod]
    have hn : 4503599627370496 + (n - 4503599627370496) = n := by omega
    rw [hn]
    have hpl : (-1074 + ((t + 1 - 1 : Nat) : Int)) = p - ((52 - m.log2 : Nat) : Int) := by omega
    rw [hpl]

/-! ### What is near -/
/-- A number from minus a million to a million: its word. -/
theorem near_read {x : Nat} (h1 : fge x 13920209183539462144 = true) (h2 : fle x 4696837146684686336 = true) :
    ∃ s m i, double.read x = .number s m i ∧ m < 9007199254740992 ∧ -1074 ≤ i ∧ (m ≠ 0 → i + m.log2 ≤ 19) := by
  have hp : double.read 4696837146684686336 = .number false 8589934592000000 (-33) := by decide +kernel
  have hq : double.read 13920209183539462144 = .number true 8589934592000000 (-33) := by decide +kernel
  unfold fge Format.order at h1
  unfold fle Format.order at h2
  rw [hq] at h1
  rw [hp] at h2
  cases hx : double.read x with
  | nan s f => rw [hx] at h2; simp [Datum.order] at h2
  | infinity s =>
    rw [hx] at h1 h2
    cases s <;> simp [Datum.order] at h1 h2
  | number s m i =>
    obtain ⟨h53, hi⟩ := read_bounds hx
    refine ⟨s, m, i, rfl, h53, hi, fun hm => ?_⟩
    rw [hx] at h1 h2
    simp only [Datum.order] at h1 h2
    have hl := log2_lt53 h53
    by_cases hc : i ≤ -33
    · omega
    · have hmin : min i (-33) = -33 := by omega
      rw [hmin] at h1 h2
      have e0 : ((-33 : Int) - -33).toNat = 0 := by decide
      rw [e0] at h1 h2
      have key : m <<< (i - -33).toNat ≤ 8589934592000000 := by
        cases s
        · simp only [signed, Bool.false_eq_true, if_false, Nat.shiftLeft_zero] at h2
          have : ((m <<< (i - -33).toNat : Nat) : Int) ≤ ((8589934592000000 : Nat) : Int) := by
            rcases Int.lt_trichotomy ((m <<< (i - -33).toNat : Nat) : Int) ((8589934592000000 : Nat) : Int) with h | h | h
            · omega
            · omega
            · have hgt : compare ((m <<< (i - -33).toNat : Nat) : Int) ((8589934592000000 : Nat) : Int) = .gt := by rw [Int.compare_eq_gt]; exact h
              rw [hgt] at h2; simp at h2
          omega
        · simp only [signed, if_true, Nat.shiftLeft_zero] at h1
          have : -((m <<< (i - -33).toNat : Nat) : Int) ≥ -((8589934592000000 : Nat) : Int) := by
            rcases Int.lt_trichotomy (-((m <<< (i - -33).toNat : Nat) : Int)) (-((8589934592000000 : Nat) : Int)) with h | h | h
            · have hlt : compare (-((m <<< (i - -33).toNat : Nat) : Int)) (-((8589934592000000 : Nat) : Int)) = .lt := by rw [Int.compare_eq_lt]; exact h
              rw [hlt] at h1; simp at h1
            · omega
            · omega
          omega
      have hlog := log2_shl (i - -33).toNat hm
      have := log2_lt53 (m := m <<< (i - -33).toNat) (by omega)
      omega

/-! ### Powers of two -/
theorem fmul_pow {x y N : Nat} {s : Bool} {m : Nat} {i j : Int} (hx : double.read x = .number s m i) (hy : double.read y = .number false N j) (hN : N = 2 ^ 52) : fmul x y = double.nearest s m (i + j + 52) := by
  unfold fmul Format.mul
  rw [hx, hy]
  simp only [Datum.product, Option.map_some, Option.getD_some, Bool.xor_false, Format.write]
  subst hN
  exact nearest_mul s m (i + j + 52) (i + j) 52 (by omega)

theorem fdiv_pow {x y N : Nat} {s : Bool} {m : Nat} {i j : Int} (hx : double.read x = .number s m i) (hy : double.read y = .number false N j) (hN : N = 2 ^ 52) (h53 : m < 9007199254740992) : fdiv x y = double.nearest s m (i - j - 52) := by
  unfold fdiv Format.div
  rw [hx, hy]
  have hl := log2_lt53 h53
  have hlog : N.log2 = 52 := by subst hN; exact Nat.log2_two_pow
  have hN0 : N ≠ 0 := by subst hN; exact Nat.pos_iff_ne_zero.1 (Nat.two_pow_pos 52)
  have hNp : 0 < N := Nat.pos_of_ne_zero hN0
  have hfd : double.fractionBits + 2 = 54 := rfl
  simp only [Datum.quotient, hfd, hlog, hN0, if_false, Option.map_some, Option.getD_some, Bool.xor_false, Format.write]
  have hmore : 54 + 52 - m.log2 = 52 + (54 - m.log2) := by omega
  rw [hmore]
  have hsh : m <<< (52 + (54 - m.log2)) = (m * 2 ^ (54 - m.log2)) * N := by
    rw [Nat.shiftLeft_eq, Nat.pow_add, hN, Nat.mul_comm (2 ^ 52), Nat.mul_assoc]
  rw [hsh, Nat.mul_div_cancel _ hNp, Nat.mul_mod_left]
  simp only [bne_self_eq_false, Bool.toNat_false, Nat.add_zero]
  have e : 2 * (m * 2 ^ (54 - m.log2)) = m * 2 ^ (55 - m.log2) := by
    rw [show 55 - m.log2 = (54 - m.log2) + 1 by omega, Nat.pow_succ]
    rw [Nat.mul_comm 2, Nat.mul_assoc]
  rw [e]
  exact nearest_mul s m (i - j - 52) _ (55 - m.log2) (by omega)

theorem nearest_zero (s : Bool) (p : Int) : double.nearest s 0 p = double.word s 0 := by simp [Format.nearest]

/-- Two powers of two, one behind the other, are one. -/
theorem fmul_fmul_pow {x y z N : Nat} {s : Bool} {m : Nat} {i j k : Int} (hx : double.read x = .number s m i) (hy : double.read y = .number false N j) (hz : double.read z = .number false N k) (hN : N = 2 ^ 52)
    (h53 : m < 9007199254740992) (hp : -1074 ≤ i + j + 52) (hb : m ≠ 0 → i + j + 52 + m.log2 ≤ 1023) : fmul (fmul x y) z = double.nearest s m (i + j + 52 + k + 52) := by
  rw [fmul_pow hx hy hN]
  by_cases hm : m = 0
  · subst hm
    rw [nearest_zero, nearest_zero]
    have hr : double.read (double.word s 0) = .number s 0 (-1074) := by rw [read_word s (by omega)]; rfl
    rw [fmul_pow hr hz hN, nearest_zero]
  · obtain ⟨t, ht⟩ := read_nearest s hm h53 hp (hb hm)
    rw [fmul_pow ht hz hN]
    rw [Nat.shiftLeft_eq]
    exact nearest_mul s m _ _ t (by omega)

/-! ### Differences, the other way about -/
theorem word_neg (s : Bool) {r : Nat} (h : r ≤ 9218868437227405312) : double.word s r ^^^ 9223372036854775808 = double.word (!s) r := by
  have h63 : r < 2 ^ 63 := by omega
  unfold Format.word
  rw [signW]
  have e : (9223372036854775808 : Nat) = 2 ^ 63 := by decide
  rw [e]
  cases s
  · simp only [Bool.false_eq_true, if_false, Bool.not_false, if_true]
    have hor := Nat.two_pow_add_eq_or_of_lt h63 1
    rw [Nat.mul_one] at hor
    rw [hor]
    apply Nat.eq_of_testBit_eq
    intro n
    simp only [Nat.testBit_xor, Nat.testBit_or, Nat.testBit_two_pow]
    by_cases hn : 63 = n
    · subst hn; simp [Nat.testBit_lt_two_pow h63]
    · simp [hn]
  · simp only [if_true, Bool.not_true, Bool.false_eq_true, if_false]
    have hor := Nat.two_pow_add_eq_or_of_lt h63 1
    rw [Nat.mul_one] at hor
    rw [hor]
    apply Nat.eq_of_testBit_eq
    intro n
    simp only [Nat.testBit_xor, Nat.testBit_or, Nat.testBit_two_pow]
    by_cases hn : 63 = n
    · subst hn; simp [Nat.testBit_lt_two_pow h63]
    · simp [hn]

theorem nearest_word (s : Bool) (m : Nat) (p : Int) : ∃ r, r ≤ 9218868437227405312 ∧ ∀ t, double.nearest t m p = double.word t r := by
  by_cases hm : m = 0
  · subst hm; exact ⟨0, by omega, fun t => nearest_zero t p⟩
  · refine ⟨min ((max (p + m.log2 - double.fractionBits) double.leastPlace - double.leastPlace).toNat * double.binade +
      Toward.even.cut s (m <<< (p - max (p + m.log2 - double.fractionBits) double.leastPlace).toNat) (max (p + m.log2 - double.fractionBits) double.leastPlace - p).toNat) double.infRung, by rw [infR]; exact Nat.min_le_right _ _, fun t => ?_⟩
    unfold Format.nearest
    rw [if_neg hm]
    rfl

theorem fneg_word (s : Bool) {r : Nat} (h : r ≤ 9218868437227405312) : fneg (double.word s r) = double.word (!s) r := by
  unfold fneg
  rw [isNan_word s h, cond_false, word_neg s h]

theorem signed_neg (s : Bool) (m k : Nat) : signed (!s) m k = - signed s m k := by cases s <;> simp [signed]

/-- 'x - y' is 'y - x' with its sign turned, where both are numbers. -/
theorem fsub_turn {x y : Nat} {s t : Bool} {m n : Nat} {i j : Int} (hx : double.read x = .number s m i) (hy : double.read y = .number t n j) : feq (fsub x y) (fneg (fsub y x)) = true := by
  unfold fsub Format.sub
  rw [hx, hy]
  simp only [Datum.opposite, Datum.sum, Option.map_some, Option.getD_some, Format.write]
  rw [Int.min_comm j i]
  generalize min i j = base
  rw [signed_neg, signed_neg]
  generalize ha : signed s m (i - base).toNat = a
  generalize hb : signed t n (j - base).toNat = b
  have e1 : (a + -b).natAbs = (b + -a).natAbs := by omega
  rw [e1]
  by_cases h0 : a + -b = 0
  · have h0' : b + -a = 0 := by omega
    rw [h0']
    simp only [h0, if_true, Int.natAbs_zero, nearest_zero]
    rw [fneg_word _ (by omega)]
    unfold feq Format.order
    rw [read_word _ (by omega), read_word _ (by omega)]
    simp [Datum.order, signed]
  · have h0' : b + -a ≠ 0 := by omega
    rw [if_neg h0, if_neg h0']
    obtain ⟨r, hr, hw⟩ := nearest_word true (b + -a).natAbs base
    rw [hw, hw, fneg_word _ hr]
    have e2 : (!decide (b + -a < 0)) = decide (a + -b < 0) := by
      rw [Bool.eq_iff_iff]; simp; omega
    rw [e2, feq_self, isNan_word _ hr]
    rfl

/-- A product of near numbers is a number. -/
theorem fmul_near {x y : Nat} {s t : Bool} {m n : Nat} {i j : Int} (hx : double.read x = .number s m i) (hy : double.read y = .number t n j) (h1 : m ≠ 0 → i + m.log2 ≤ 19) (h2 : n ≠ 0 → j + n.log2 ≤ 19) :
    ∃ u p k, double.read (fmul x y) = .number u p k := by
  unfold fmul Format.mul
  rw [hx, hy]
  simp only [Datum.product, Option.map_some, Option.getD_some, Format.write]
  have small : ∀ (u : Bool) (p : Nat) (k : Int), (p ≠ 0 → k + p.log2 ≤ 1000) → ∃ u' p' k', double.read (double.nearest u p k) = .number u' p' k' := by
    intro u p k hp
    by_cases h0 : p = 0
    · subst h0
      rw [nearest_zero, read_word u (by omega)]
      exact ⟨_, _, _, rfl⟩
    · have hk := hp h0
      unfold Format.nearest
      rw [if_neg h0]
      simp only [fracB, leastP, binadeV, infR]
      have hcut : ∀ n d : Nat, n < 2 ^ (53 + d) → Toward.even.cut u n d ≤ 2 ^ 53 := by
        intro n d hn
        unfold Toward.cut
        by_cases hd : d ≤ n.log2 + 2
        · rw [Nat.min_eq_left hd]
          have h1 : n / (1 <<< d) < 2 ^ 53 := by
            rw [Nat.shiftLeft_eq, Nat.one_mul]
            exact Nat.div_lt_of_lt_mul (by rw [← Nat.pow_add, Nat.add_comm]; exact hn)
          have h2 : ∀ c : Bool, n / (1 <<< d) + c.toNat ≤ 2 ^ 53 := fun c => by cases c <;> simp <;> omega
          exact h2 _
        · rw [Nat.min_eq_right (by omega)]
          have h1 : n / (1 <<< (n.log2 + 2)) = 0 := by
            rw [Nat.shiftLeft_eq, Nat.one_mul]
            exact Nat.div_eq_of_lt (Nat.lt_of_lt_of_le Nat.lt_log2_self (Nat.pow_le_pow_right (by decide) (by omega)))
          have h2 : ∀ c : Bool, n / (1 <<< (n.log2 + 2)) + c.toNat ≤ 2 ^ 53 := fun c => by rw [h1]; cases c <;> simp
          exact h2 _
      have hlt : p < 2 ^ (p.log2 + 1) := Nat.lt_log2_self
      have hkept : Toward.even.cut u (p <<< (k - max (k + (p.log2 : Int) - 52) (-1074)).toNat) (max (k + (p.log2 : Int) - 52) (-1074) - k).toNat ≤ 9007199254740992 := by
        refine hcut _ _ ?_
        rw [Nat.shiftLeft_eq]
        calc p * 2 ^ (k - max (k + (p.log2 : Int) - 52) (-1074)).toNat < 2 ^ (p.log2 + 1) * 2 ^ (k - max (k + (p.log2 : Int) - 52) (-1074)).toNat := Nat.mul_lt_mul_of_pos_right hlt (Nat.two_pow_pos _)
          _ = 2 ^ (p.log2 + 1 + (k - max (k + (p.log2 : Int) - 52) (-1074)).toNat) := by rw [← Nat.pow_add]
          _ ≤ 2 ^ (53 + (max (k + (p.log2 : Int) - 52) (-1074) - k).toNat) := Nat.pow_le_pow_right (by decide) (by omega)
      have hrung : (max (k + (p.log2 : Int) - 52) (-1074) - -1074).toNat ≤ 2022 := by omega
      generalize Toward.even.cut u (p <<< (k - max (k + (p.log2 : Int) - 52) (-1074)).toNat) (max (k + (p.log2 : Int) - 52) (-1074) - k).toNat = c at hkept
      generalize (max (k + (p.log2 : Int) - 52) (-1074) - -1074).toNat = q at hrung
      have hr : q * 4503599627370496 + c < 9218868437227405312 := by omega
      rw [Nat.min_eq_left (by omega), read_word u (by omega)]
      split
      · exact ⟨_, _, _, rfl⟩
      · first | exact ⟨_, _, _, rfl⟩ | (rw [if_pos hr]; exact ⟨_, _, _, rfl⟩)
  refine small _ _ _ fun hmn => ?_
  have hm : m ≠ 0 := fun h => hmn (by rw [h, Nat.zero_mul])
  have hn : n ≠ 0 := fun h => hmn (by rw [h, Nat.mul_zero])
  have a1 := h1 hm
  have a2 := h2 hn
  have hlog : (m * n).log2 ≤ m.log2 + n.log2 + 1 := by
    have h3 : m * n < 2 ^ (m.log2 + n.log2 + 2) := by
      calc m * n < 2 ^ (m.log2 + 1) * 2 ^ (n.log2 + 1) := Nat.mul_lt_mul'' Nat.lt_log2_self Nat.lt_log2_self
        _ = 2 ^ (m.log2 + n.log2 + 2) := by rw [← Nat.pow_add]; congr 1; omega
    have := (Nat.log2_lt hmn).2 h3
    omega
  omega

end Go.Ev

namespace Go.Ev
open Ieee

/-- 'a / g' to the nearest whole number, between two to the even one. -/
def rnd (a g : Nat) : Nat := a / g + (decide (g < 2 * (a % g)) || (g == 2 * (a % g) && a / g % 2 == 1)).toNat

theorem rnd_small {a g : Nat} (h : 2 * a < g) : rnd a g = 0 := by
  have h1 : a / g = 0 := Nat.div_eq_of_lt (by omega)
  have h2 : a % g = a := Nat.mod_eq_of_lt (by omega)
  have h3 : decide (g < 2 * a) = false := decide_eq_false (by omega)
  have h4 : (g == 2 * a) = false := by simp; omega
  unfold rnd
  rw [h1, h2, h3, h4]; rfl

theorem toNat_le_one (b : Bool) : b.toNat ≤ 1 := by cases b <;> decide
theorem rnd_le (a g : Nat) : rnd a g ≤ a / g + 1 := Nat.add_le_add_left (toNat_le_one _) _
theorem le_rnd (a g : Nat) : a / g ≤ rnd a g := Nat.le_add_right _ _

theorem rnd_mono {a b g : Nat} (h : a ≤ b) : rnd a g ≤ rnd b g := by
  have hd : a / g ≤ b / g := Nat.div_le_div_right h
  rcases Nat.eq_or_lt_of_le hd with e | e
  · have h1 := Nat.div_add_mod a g
    have h2 := Nat.div_add_mod b g
    have hm : a % g ≤ b % g := by rw [e] at h1; omega
    unfold rnd
    rw [e]
    refine Nat.add_le_add_left ?_ _
    cases hx : (decide (g < 2 * (a % g)) || (g == 2 * (a % g) && b / g % 2 == 1))
    · exact Nat.zero_le _
    · have : (decide (g < 2 * (b % g)) || (g == 2 * (b % g) && b / g % 2 == 1)) = true := by
        simp only [Bool.or_eq_true, Bool.and_eq_true, decide_eq_true_eq, beq_iff_eq] at hx ⊢
        omega
      rw [this]; exact Nat.le_refl _
  · exact Nat.le_trans (rnd_le a g) (Nat.le_trans e (le_rnd b g))

theorem rnd_mul (a g : Nat) {c : Nat} (hc : 0 < c) : rnd (a * c) (g * c) = rnd a g := by
  unfold rnd
  rw [Nat.mul_div_mul_right _ _ hc, Nat.mul_mod_mul_right]
  have h1 : decide (g * c < 2 * (a % g * c)) = decide (g < 2 * (a % g)) := by
    rw [← Nat.mul_assoc]
    exact decide_eq_decide.2 (Nat.mul_lt_mul_right hc)
  have h2 : (g * c == 2 * (a % g * c)) = (g == 2 * (a % g)) := by
    rw [← Nat.mul_assoc, Bool.eq_iff_iff, beq_iff_eq, beq_iff_eq]
    exact Nat.mul_left_inj (by omega)
  rw [h1, h2]

theorem cut_rnd (s : Bool) (n d : Nat) : Toward.even.cut s n d = rnd n (2 ^ d) := by
  have hn : n < 2 ^ (n.log2 + 1) := Nat.lt_log2_self
  by_cases h : d ≤ n.log2 + 2
  · unfold Toward.cut rnd
    rw [Nat.min_eq_left h, Nat.one_shiftLeft]
  · have hL : 2 * n < 2 ^ (n.log2 + 2) := by rw [Nat.pow_succ]; omega
    have hd : 2 * n < 2 ^ d := Nat.lt_of_lt_of_le hL (Nat.pow_le_pow_right (by decide) (by omega))
    rw [rnd_small hd]
    have := rnd_small hL
    unfold rnd at this
    unfold Toward.cut
    rw [Nat.min_eq_right (by omega), Nat.one_shiftLeft]
    exact this

/-- A quotient with one digit more that tells whether anything is left. -/
theorem rnd_sticky (d n k : Nat) (hn : 0 < n) : rnd (2 * (d / n) + (d % n != 0).toNat) (2 ^ (k + 2)) = rnd d (n * 2 ^ (k + 1)) := by
  have hp : 0 < 2 ^ k := Nat.two_pow_pos k
  have e1 : 2 ^ (k + 1) = 2 * 2 ^ k := by rw [Nat.pow_succ]; omega
  have e2 : 2 ^ (k + 2) = 2 * (2 * 2 ^ k) := by rw [Nat.pow_succ, e1]; omega
  rw [e1, e2]
  generalize 2 ^ k = H at hp
  have hr : d % n < n := Nat.mod_lt _ hn
  have hd := Nat.div_add_mod d n
  generalize hst : (d % n != 0).toNat = st
  have hs : (st = 0 ∧ d % n = 0) ∨ (st = 1 ∧ 0 < d % n) := by
    cases hb : (d % n != 0)
    · rw [hb] at hst; left; exact ⟨hst.symm, by simpa using hb⟩
    · rw [hb] at hst; right; refine ⟨hst.symm, ?_⟩
      have : d % n ≠ 0 := by simpa using hb
      omega
  generalize d % n = r at hr hd hs
  have hQ := Nat.div_add_mod (d / n) (2 * H)
  have hB : d / n % (2 * H) < 2 * H := Nat.mod_lt _ (by omega)
  -- the whole part
  have w1 : (2 * (d / n) + st) / (2 * (2 * H)) = d / n / (2 * H) := by
    rw [← Nat.div_div_eq_div_mul]
    congr 1
    omega
  have w2 : d / (n * (2 * H)) = d / n / (2 * H) := (Nat.div_div_eq_div_mul d n (2 * H)).symm
  generalize hA : d / n / (2 * H) = A at *
  generalize hBe : d / n % (2 * H) = Bq at *
  generalize hq : d / n = Q at *
  -- what is left
  have m1 : (2 * Q + st) % (2 * (2 * H)) = 2 * Bq + st := by
    have := Nat.div_add_mod (2 * Q + st) (2 * (2 * H))
    rw [w1] at this
    have e : 2 * (2 * H) * A = 2 * (2 * H * A) := by rw [Nat.mul_assoc]
    omega
  have m2 : d % (n * (2 * H)) = n * Bq + r := by
    have := Nat.div_add_mod d (n * (2 * H))
    rw [w2] at this
    have e : n * Q = n * (2 * H) * A + n * Bq := by rw [← hQ, Nat.mul_add, Nat.mul_assoc n]
    omega
  unfold rnd
  rw [w1, w2, m1, m2]
  congr 2
  have c1 : (2 * (2 * H) < 2 * (2 * Bq + st)) ↔ (n * (2 * H) < 2 * (n * Bq + r)) := by
    have q1 : n * (2 * H) = 2 * (n * H) := by rw [Nat.mul_left_comm]
    rw [q1]
    constructor
    · intro h
      have : H ≤ Bq := by omega
      rcases Nat.eq_or_lt_of_le this with e | e
      · subst e; omega
      · have := Nat.mul_le_mul_left n (show H + 1 ≤ Bq from e)
        rw [Nat.mul_add] at this; omega
    · intro h
      by_cases hl : Bq < H
      · have := Nat.mul_le_mul_left n (show Bq + 1 ≤ H from hl)
        rw [Nat.mul_add] at this; omega
      · rcases Nat.eq_or_lt_of_le (Nat.le_of_not_lt hl) with e | e
        · subst e; omega
        · omega
  have c2 : (2 * (2 * H) = 2 * (2 * Bq + st)) ↔ (n * (2 * H) = 2 * (n * Bq + r)) := by
    have q1 : n * (2 * H) = 2 * (n * H) := by rw [Nat.mul_left_comm]
    rw [q1]
    constructor
    · intro h
      have : H = Bq := by omega
      subst this; omega
    · intro h
      rcases Nat.lt_trichotomy Bq H with hl | e | hl
      · have := Nat.mul_le_mul_left n (show Bq + 1 ≤ H from hl)
        rw [Nat.mul_add] at this; omega
      · subst e; omega
      · have := Nat.mul_le_mul_left n (show H + 1 ≤ Bq from hl)
        rw [Nat.mul_add] at this; omega
  have d1 : decide (2 * (2 * H) < 2 * (2 * Bq + st)) = decide (n * (2 * H) < 2 * (n * Bq + r)) := decide_eq_decide.2 c1
  have d2 : (2 * (2 * H) == 2 * (2 * Bq + st)) = (n * (2 * H) == 2 * (n * Bq + r)) := by
    rw [Bool.eq_iff_iff, beq_iff_eq, beq_iff_eq]; exact c2
  rw [d1, d2]

/-- The rung of 'a / g' units, uncapped: 'b' bits of fraction. -/
def rq (b a g : Nat) : Nat := ((a / g).log2 - b) * 2 ^ b + rnd a (g * 2 ^ ((a / g).log2 - b))

theorem rq_mul (b a g : Nat) {c : Nat} (hc : 0 < c) : rq b (a * c) (g * c) = rq b a g := by
  unfold rq
  rw [Nat.mul_div_mul_right _ _ hc, Nat.mul_right_comm, rnd_mul _ _ hc]

theorem rq_mono1 (b : Nat) {a c g : Nat} (h : a ≤ c) : rq b a g ≤ rq b c g := by
  have hd : a / g ≤ c / g := Nat.div_le_div_right h
  have hl : (a / g).log2 ≤ (c / g).log2 := by
    by_cases h0 : a / g = 0
    · rw [h0]; simp
    · exact (Nat.le_log2 (fun hc => h0 (Nat.le_zero.1 (hc ▸ hd)))).2 (Nat.le_trans (Nat.log2_self_le h0) hd)
  unfold rq
  have hl2 : (a / g).log2 - b ≤ (c / g).log2 - b := by omega
  rcases Nat.eq_or_lt_of_le hl2 with e | e
  · rw [e]
    exact Nat.add_le_add_left (rnd_mono h) _
  · -- the lower one is at most the next binade's first
    have h1 : rnd a (g * 2 ^ ((a / g).log2 - b)) ≤ 2 ^ (b + 1) := by
      refine Nat.le_trans (rnd_le _ _) ?_
      rw [← Nat.div_div_eq_div_mul]
      have : a / g < 2 ^ ((a / g).log2 + 1) := Nat.lt_log2_self
      have h2 : a / g / 2 ^ ((a / g).log2 - b) < 2 ^ (b + 1) := by
        rw [Nat.div_lt_iff_lt_mul (Nat.two_pow_pos _), ← Nat.pow_add]
        exact Nat.lt_of_lt_of_le this (Nat.pow_le_pow_right (by decide) (by omega))
      omega
    have h2 : 2 ^ b ≤ rnd c (g * 2 ^ ((c / g).log2 - b)) := by
      refine Nat.le_trans ?_ (le_rnd _ _)
      rw [← Nat.div_div_eq_div_mul, Nat.le_div_iff_mul_le (Nat.two_pow_pos _), ← Nat.pow_add]
      have h0 : c / g ≠ 0 := by
        intro h0; rw [h0] at e; simp at e
      refine Nat.le_trans (Nat.pow_le_pow_right (by decide) (by omega)) (Nat.log2_self_le h0)
    have h3 := Nat.mul_le_mul_right (2 ^ b) e
    rw [Nat.succ_mul] at h3
    rw [Nat.pow_succ] at h1
    omega

theorem rq_mono (b : Nat) {a c g h : Nat} (hg : 0 < g) (hh : 0 < h) (hle : a * h ≤ c * g) : rq b a g ≤ rq b c h := by
  rw [← rq_mul b a g hh, ← rq_mul b c h hg, Nat.mul_comm h g]
  exact rq_mono1 b hle

theorem rq_zero (b : Nat) {g : Nat} (hg : 0 < g) : rq b 0 g = 0 := by
  unfold rq
  rw [Nat.zero_div, Nat.log2_zero, Nat.zero_sub, Nat.zero_mul, Nat.zero_add]
  exact rnd_small (by rw [Nat.mul_zero]; exact Nat.mul_pos hg (Nat.two_pow_pos _))
end Go.Ev

namespace Go.Ev
open Ieee

theorem log2_half (n : Nat) : (n / 2).log2 = n.log2 - 1 := by
  rw [Nat.log2_def n]
  by_cases h : n ≥ 2
  · rw [if_pos h]; simp
  · rw [if_neg h]
    have : n / 2 = 0 := by omega
    rw [this]; simp
theorem log2_div (n : Nat) : ∀ v, (n / 2 ^ v).log2 = n.log2 - v
  | 0 => by simp
  | v + 1 => by rw [Nat.pow_succ, ← Nat.div_div_eq_div_mul, log2_half, log2_div n v]; omega

theorem nearest_rq0 (s : Bool) (m u : Nat) (p : Int) (hp : p = u - 1074) : double.nearest s m p = double.word s (min (rq 52 (m * 2 ^ u) 1) double.infRung) := by
  by_cases hm : m = 0
  · subst hm; rw [nearest_zero, Nat.zero_mul, rq_zero 52 (by decide), Nat.zero_min]
  · have hl : (m * 2 ^ u / 1).log2 = m.log2 + u := by rw [Nat.div_one, ← Nat.shiftLeft_eq, log2_shl u hm]
    have e1 : (max (p + m.log2 - (double.fractionBits : Int)) double.leastPlace - double.leastPlace).toNat = m.log2 + u - 52 := by rw [leastP, fracB]; omega
    have e2 : (p - max (p + m.log2 - (double.fractionBits : Int)) double.leastPlace).toNat = u - (m.log2 + u - 52) := by rw [leastP, fracB]; omega
    have e3 : (max (p + m.log2 - (double.fractionBits : Int)) double.leastPlace - p).toNat = (m.log2 + u - 52) - u := by rw [leastP, fracB]; omega
    unfold Format.nearest rq
    rw [if_neg hm, hl]
    simp only [e1, e2, e3]
    generalize m.log2 + u - 52 = l
    rw [cut_rnd, Nat.shiftLeft_eq, Nat.one_mul]
    have : rnd (m * 2 ^ (u - l)) (2 ^ (l - u)) = rnd (m * 2 ^ u) (2 ^ l) := by
      rw [← rnd_mul _ _ (Nat.two_pow_pos (min u l)), Nat.mul_assoc, ← Nat.pow_add, ← Nat.pow_add]
      congr 3 <;> omega
    rw [this]
    rfl

theorem nearest_rq1 (s : Bool) (m v : Nat) (p : Int) (hp : p = -1074 - v) : double.nearest s m p = double.word s (min (rq 52 m (2 ^ v)) double.infRung) := by
  by_cases hm : m = 0
  · subst hm; rw [nearest_zero, rq_zero 52 (Nat.two_pow_pos _), Nat.zero_min]
  · have e1 : (max (p + m.log2 - (double.fractionBits : Int)) double.leastPlace - double.leastPlace).toNat = m.log2 - v - 52 := by rw [leastP, fracB]; omega
    have e2 : (p - max (p + m.log2 - (double.fractionBits : Int)) double.leastPlace).toNat = 0 := by rw [leastP, fracB]; omega
    have e3 : (max (p + m.log2 - (double.fractionBits : Int)) double.leastPlace - p).toNat = v + (m.log2 - v - 52) := by rw [leastP, fracB]; omega
    unfold Format.nearest rq
    rw [if_neg hm, log2_div]
    simp only [e1, e2, e3]
    rw [cut_rnd, Nat.shiftLeft_eq, Nat.pow_zero, Nat.mul_one, Nat.pow_add]
    rfl

/-- What is written of 'm * 2 ^ p', with 'p + 1074 = u - v'. -/
theorem nearest_rq (s : Bool) (m u v : Nat) (p : Int) (hp : p + 1074 = u - v) : double.nearest s m p = double.word s (min (rq 52 (m * 2 ^ u) (2 ^ v)) double.infRung) := by
  by_cases h : v ≤ u
  · rw [nearest_rq0 s m (u - v) p (by omega)]
    have := rq_mul 52 (m * 2 ^ (u - v)) 1 (Nat.two_pow_pos v)
    rw [Nat.mul_assoc, ← Nat.pow_add, Nat.one_mul, Nat.sub_add_cancel h] at this
    rw [this]
  · rw [nearest_rq1 s m (v - u) p (by omega)]
    have := rq_mul 52 m (2 ^ (v - u)) (Nat.two_pow_pos u)
    rw [← Nat.pow_add, Nat.sub_add_cancel (by omega)] at this
    rw [this]

theorem log2_of_iff {x y : Nat} (h : ∀ k, 2 ^ k ≤ x ↔ 2 ^ k ≤ y) : x.log2 = y.log2 := by
  by_cases hx : x = 0
  · have : y = 0 := by
      by_cases hy : y = 0
      · exact hy
      · have := (h 0).2 (by rw [Nat.pow_zero]; omega)
        rw [Nat.pow_zero] at this; omega
    rw [hx, this]
  · have hy : y ≠ 0 := by
      have := (h 0).1 (by rw [Nat.pow_zero]; omega)
      rw [Nat.pow_zero] at this; omega
    exact Nat.le_antisymm ((Nat.le_log2 hy).2 ((h _).1 (Nat.log2_self_le hx))) ((Nat.le_log2 hx).2 ((h _).2 (Nat.log2_self_le hy)))

theorem rq_sticky (b d n u v : Nat) (hn : 0 < n) (hq : 2 ^ (b + 1) ≤ d / n) : rq b ((2 * (d / n) + (d % n != 0).toNat) * 2 ^ u) (2 ^ v) = rq b (2 * d * 2 ^ u) (n * 2 ^ v) := by
  have hp : 0 < 2 ^ (b + 1) := Nat.two_pow_pos _
  have hst := toNat_le_one (d % n != 0)
  have hlog : ((2 * (d / n) + (d % n != 0).toNat) * 2 ^ u / 2 ^ v).log2 = (2 * d * 2 ^ u / (n * 2 ^ v)).log2 := by
    refine log2_of_iff fun k => ?_
    rw [Nat.le_div_iff_mul_le (Nat.two_pow_pos _), Nat.le_div_iff_mul_le (Nat.mul_pos hn (Nat.two_pow_pos _)), ← Nat.pow_add, Nat.mul_left_comm, ← Nat.pow_add]
    have hnd : n ≤ d := by
      have := (Nat.le_div_iff_mul_le hn (x := 1) (y := d)).1 (by omega)
      omega
    by_cases hk : k + v ≤ u
    · have hle : 2 ^ (k + v) ≤ 2 ^ u := Nat.pow_le_pow_right (by decide) hk
      constructor
      · intro _; exact Nat.le_trans (Nat.mul_le_mul hnd hle) (Nat.mul_le_mul_right _ (by omega))
      · intro _
        exact Nat.le_trans hle (Nat.le_mul_of_pos_left _ (by omega))
    · obtain ⟨w, hw⟩ : ∃ w, k + v = w + 1 + u := ⟨k + v - u - 1, by omega⟩
      rw [hw, Nat.pow_add, ← Nat.mul_assoc, Nat.mul_le_mul_right_iff (Nat.two_pow_pos u), Nat.mul_le_mul_right_iff (Nat.two_pow_pos u), Nat.pow_succ]
      have hiff := Nat.le_div_iff_mul_le hn (x := 2 ^ w) (y := d)
      have e : n * (2 ^ w * 2) = 2 * (2 ^ w * n) := by rw [Nat.mul_comm, Nat.mul_assoc, Nat.mul_left_comm]
      rw [e]
      omega
  have hl : u + 2 ≤ v + (((2 * (d / n) + (d % n != 0).toNat) * 2 ^ u / 2 ^ v).log2 - b) := by
    by_cases h : v ≤ b + 2 + u
    · have h1 : 2 ^ (b + 2 + u - v) ≤ (2 * (d / n) + (d % n != 0).toNat) * 2 ^ u / 2 ^ v := by
        rw [Nat.le_div_iff_mul_le (Nat.two_pow_pos _), ← Nat.pow_add, Nat.sub_add_cancel h, Nat.pow_add]
        refine Nat.mul_le_mul_right _ ?_
        rw [Nat.pow_succ]; omega
      have h0 : (2 * (d / n) + (d % n != 0).toNat) * 2 ^ u / 2 ^ v ≠ 0 := by
        have := Nat.two_pow_pos (b + 2 + u - v)
        intro h0; rw [h0] at h1; omega
      have := (Nat.le_log2 h0).2 h1
      omega
    · omega
  unfold rq
  rw [hlog] at hl ⊢
  generalize (2 * d * 2 ^ u / (n * 2 ^ v)).log2 - b = l at hl
  obtain ⟨k, hk⟩ : ∃ k, v + l = k + 2 + u := ⟨v + l - u - 2, by omega⟩
  congr 1
  rw [← Nat.pow_add, Nat.mul_assoc n, ← Nat.pow_add, hk, Nat.pow_add, rnd_mul _ _ (Nat.two_pow_pos u), rnd_sticky d n k hn, ← Nat.mul_assoc, rnd_mul _ _ (Nat.two_pow_pos u)]
  have := rnd_mul d (n * 2 ^ (k + 1)) (c := 2) (by decide)
  rw [← this, Nat.mul_comm d 2, Nat.mul_assoc n, ← Nat.pow_succ]
end Go.Ev

namespace Go.Ev
open Ieee

/-- A near number, and what it is, in the least parts that there are. -/
def Nice (x : Nat) (v : Int) : Prop :=
  ∃ s m i, double.read x = .number s m i ∧ m < 9007199254740992 ∧ -1074 ≤ i ∧ (m ≠ 0 → i + m.log2 ≤ 19) ∧ signed s m (i + 1074).toNat = v

theorem signed_mul (s : Bool) (m k : Nat) : signed s m k = signed s 1 0 * ((m : Int) * 2 ^ k) := by
  cases s <;> simp [signed, Nat.shiftLeft_eq]

theorem signed_abs (s : Bool) (m k : Nat) : (signed s m k).natAbs = m <<< k := by
  unfold signed
  generalize m <<< k = n
  cases s
  · simp only [Bool.false_eq_true, if_false]; omega
  · simp only [if_true]; omega

theorem signed_split (s : Bool) (m a b : Nat) : signed s m (a + b) = signed s m a * 2 ^ b := by
  rw [signed_mul, signed_mul s m a, Int.mul_assoc, Int.mul_assoc, Int.pow_add]

theorem nice_zero {x : Nat} {s : Bool} {i : Int} (h : double.read x = .number s 0 i) : Nice x 0 := by
  refine ⟨s, 0, i, h, by decide, (read_bounds h).2, fun h => absurd rfl h, ?_⟩
  cases s <;> simp [signed]

/-- What the nearest word of a near number is. -/
theorem nice_nearest {s : Bool} {m : Nat} {i : Int} (h53 : m < 9007199254740992) (hi : -1074 ≤ i) (hb : m ≠ 0 → i + m.log2 ≤ 19) : Nice (double.nearest s m i) (signed s m (i + 1074).toNat) := by
  by_cases hm : m = 0
  · subst hm
    rw [nearest_zero]
    have hr : double.read (double.word s 0) = .number s 0 (-1074) := by rw [read_word s (by omega)]; rfl
    have := nice_zero hr
    have e : signed s 0 (i + 1074).toNat = 0 := by cases s <;> simp [signed]
    rw [e]; exact this
  · have hbm := hb hm
    obtain ⟨k, hk⟩ := read_nearest s hm h53 hi (by omega)
    obtain ⟨h1, h2⟩ := read_bounds hk
    refine ⟨s, m <<< k, i - k, hk, h1, h2, fun _ => by rw [log2_shl k hm]; omega, ?_⟩
    rw [signed_mul, signed_mul s m]
    congr 1
    rw [Nat.shiftLeft_eq, show (i + 1074).toNat = k + (i - k + 1074).toNat by omega, Int.pow_add]
    push_cast
    rw [Int.mul_assoc]

/-- A factor that is 1, -1 or 0. -/
def cls (c : Nat) : Option Int :=
  cond (c == 4607182418800017408) (some 1) (cond (c == 13830554455654793216) (some (-1)) (cond (c == 0) (some 0) (cond (c == 9223372036854775808) (some 0) none)))

theorem nice_coef {c x : Nat} {k v : Int} (hc : cls c = some k) (hx : Nice x v) : Nice (fmul c x) (k * v) := by
  obtain ⟨s, m, i, hr, h53, hi, hb, hv⟩ := hx
  unfold cls at hc
  cases h1 : (c == 4607182418800017408)
  · rw [h1, cond_false] at hc
    cases h2 : (c == 13830554455654793216)
    · rw [h2, cond_false] at hc
      have zero : ∀ (t : Bool), double.read c = .number t 0 (-1074) → k = 0 → Nice (fmul c x) (k * v) := fun t ht hk => by
        subst hk
        rw [Int.zero_mul]
        unfold fmul Format.mul
        rw [ht, hr]
        simp only [Datum.product, Option.map_some, Option.getD_some, Format.write, Nat.zero_mul, nearest_zero]
        exact nice_zero (i := -1074) (by rw [read_word _ (by omega)]; rfl)
      cases h3 : (c == 0)
      · rw [h3, cond_false] at hc
        cases h4 : (c == 9223372036854775808)
        · rw [h4] at hc; cases hc
        · have e : c = 9223372036854775808 := by simpa using h4
          rw [h4, cond_true] at hc
          refine zero true ?_ (by simpa using hc.symm)
          subst e; decide +kernel
      · have e : c = 0 := by simpa using h3
        rw [h3, cond_true] at hc
        refine zero false ?_ (by simpa using hc.symm)
        subst e; decide +kernel
    · have e : c = 13830554455654793216 := by simpa using h2
      rw [h2, cond_true] at hc
      have hk : k = -1 := by simpa using hc.symm
      subst e hk
      have hcr : double.read 13830554455654793216 = .number true 4503599627370496 (-52) := by decide +kernel
      have hmul : fmul 13830554455654793216 x = double.nearest (!s) m i := by
        unfold fmul Format.mul
        rw [hcr, hr]
        simp only [Datum.product, Option.map_some, Option.getD_some, Bool.true_xor, Format.write]
        have e52 : (4503599627370496 : Nat) = 2 ^ 52 := by decide
        rw [e52, Nat.mul_comm]
        exact nearest_mul (!s) m i _ 52 (by omega)
      rw [hmul]
      have := nice_nearest (s := !s) h53 hi hb
      rw [signed_neg, hv] at this
      rw [Int.neg_mul, Int.one_mul]
      exact this
  · have e : c = 4607182418800017408 := by simpa using h1
    rw [h1, cond_true] at hc
    have hk : k = 1 := by simpa using hc.symm
    subst e hk
    have hcr : double.read 4607182418800017408 = .number false 4503599627370496 (-52) := by decide +kernel
    have hmul : fmul 4607182418800017408 x = double.nearest s m i := by
      rw [fmul_comm, fmul_pow hr hcr (by decide)]
      congr 1; omega
    rw [hmul, Int.one_mul, ← hv]
    exact nice_nearest h53 hi hb

/-- A sum with a nought. -/
theorem nice_add {x y : Nat} {v : Int} (hx : Nice x v) (hy : Nice y 0) : Nice (fadd x y) v := by
  obtain ⟨s, m, i, hr, h53, hi, hb, hv⟩ := hx
  obtain ⟨t, n, j, hq, g53, hj, gb, gv⟩ := hy
  have hn : n = 0 := by
    rw [signed_mul] at gv
    have h1 : signed t 1 0 = 1 ∨ signed t 1 0 = -1 := by cases t <;> simp [signed]
    have hp : (2 : Int) ^ (j + 1074).toNat ≠ 0 := by
      have : (0 : Int) < 2 ^ (j + 1074).toNat := Int.pow_pos (by decide)
      omega
    rcases h1 with h1 | h1 <;> rw [h1] at gv
    · rw [Int.one_mul] at gv
      rcases Int.mul_eq_zero.1 gv with h | h
      · omega
      · exact absurd h hp
    · have gv' : (n : Int) * 2 ^ (j + 1074).toNat = 0 := by
        rw [Int.neg_mul, Int.one_mul] at gv; omega
      rcases Int.mul_eq_zero.1 gv' with h | h
      · omega
      · exact absurd h hp
  subst hn
  unfold fadd Format.add
  rw [hr, hq]
  simp only [Datum.sum, Option.map_some, Option.getD_some, Format.write]
  have hz : signed t 0 (j - min i j).toNat = 0 := by cases t <;> simp [signed]
  rw [hz, Int.add_zero]
  have habs : (signed s m (i - min i j).toNat).natAbs = m <<< (i - min i j).toNat := signed_abs s m _
  rw [habs]
  by_cases hm : m = 0
  · subst hm
    rw [Nat.zero_shiftLeft, nearest_zero]
    have hv0 : v = 0 := by rw [← hv]; cases s <;> simp [signed]
    rw [hv0]
    exact nice_zero (i := -1074) (by rw [read_word _ (by omega)]; rfl)
  · have hne : m <<< (i - min i j).toNat ≠ 0 := by rw [Nat.shiftLeft_eq]; exact Nat.mul_ne_zero hm (Nat.pos_iff_ne_zero.1 (Nat.two_pow_pos _))
    have hne' : signed s m (i - min i j).toNat ≠ 0 := fun h => hne (by rw [← habs, h]; rfl)
    rw [if_neg hne']
    have hsg : decide (signed s m (i - min i j).toNat < 0) = s := by
      cases s
      · have : ¬ signed false m (i - min i j).toNat < 0 := by
          unfold signed
          simp only [Bool.false_eq_true, if_false]; omega
        simp [this]
      · have : signed true m (i - min i j).toNat < 0 := by
          have : 0 < m <<< (i - min i j).toNat := Nat.pos_of_ne_zero hne
          simp only [signed, if_true]; omega
        simp [this]
    rw [hsg]
    have hsh : double.nearest s (m <<< (i - min i j).toNat) (min i j) = double.nearest s m i := by
      have := nearest_shift s m i (i - min i j).toNat
      rw [show i - ((i - min i j).toNat : Int) = min i j by omega] at this
      exact this
    rw [hsh, ← hv]
    exact nice_nearest h53 hi hb

theorem nice_add' {x y : Nat} {v : Int} (hx : Nice x 0) (hy : Nice y v) : Nice (fadd x y) v := by
  rw [fadd_comm]; exact nice_add hy hx

/-- Numbers that are the same are told to be. -/
theorem nice_eq {x y : Nat} {v : Int} (hx : Nice x v) (hy : Nice y v) : feq x y = true := by
  obtain ⟨s, m, i, hr, h53, hi, hb, hv⟩ := hx
  obtain ⟨t, n, j, hq, g53, hj, gb, gv⟩ := hy
  unfold feq Format.order
  rw [hr, hq]
  simp only [Datum.order]
  have e1 : signed s m (i - min i j).toNat * 2 ^ (min i j + 1074).toNat = v := by
    rw [← signed_split, ← hv]; congr 1; omega
  have e2 : signed t n (j - min i j).toNat * 2 ^ (min i j + 1074).toNat = v := by
    rw [← signed_split, ← gv]; congr 1; omega
  have hp : (2 : Int) ^ (min i j + 1074).toNat ≠ 0 := by
    have : (0 : Int) < 2 ^ (min i j + 1074).toNat := Int.pow_pos (by decide)
    omega
  have e3 : signed s m (i - min i j).toNat = signed t n (j - min i j).toNat := Int.eq_of_mul_eq_mul_right hp (by rw [e1, e2])
  rw [e3]
  simp

end Go.Ev

namespace Go.Ev
open Ieee

/-- The magnitude of a rung, in the least units: 'b' bits of fraction. -/
def rv (b r : Nat) : Nat := if r < 2 ^ b then r else (2 ^ b + r % 2 ^ b) * 2 ^ (r / 2 ^ b - 1)

theorem rv_step (b r : Nat) : rv b r < rv b (r + 1) := by
  have hN : 0 < 2 ^ b := Nat.two_pow_pos b
  unfold rv
  generalize 2 ^ b = N at hN
  by_cases h1 : r + 1 < N
  · rw [if_pos (by omega), if_pos h1]; omega
  · rw [if_neg h1]
    by_cases h2 : r < N
    · rw [if_pos h2]
      have e : r + 1 = N := by omega
      rw [e, Nat.mod_self, Nat.div_self hN, Nat.sub_self, Nat.pow_zero]; omega
    · rw [if_neg h2]
      have hd := Nat.div_add_mod r N
      have hm : r % N < N := Nat.mod_lt _ hN
      have hq : 1 ≤ r / N := (Nat.le_div_iff_mul_le hN).2 (by omega)
      by_cases h3 : r % N + 1 < N
      · have e1 : (r + 1) / N = r / N := by
          rw [Nat.div_eq_iff hN]
          have : r / N * N = N * (r / N) := Nat.mul_comm _ _
          omega
        have e2 : (r + 1) % N = r % N + 1 := by
          have := Nat.div_add_mod (r + 1) N
          rw [e1] at this; omega
        rw [e1, e2]
        exact Nat.mul_lt_mul_of_pos_right (by omega) (Nat.two_pow_pos _)
      · have h4 : r % N + 1 = N := by omega
        have e0 : r + 1 = N * (r / N + 1) := by rw [Nat.mul_add]; omega
        have e1 : (r + 1) / N = r / N + 1 := by rw [e0, Nat.mul_div_cancel_left _ hN]
        have e2 : (r + 1) % N = 0 := by rw [e0, Nat.mul_mod_right]
        rw [e1, e2]
        obtain ⟨q, hq'⟩ : ∃ q, r / N = q + 1 := ⟨r / N - 1, by omega⟩
        rw [hq', Nat.add_sub_cancel, Nat.add_sub_cancel, Nat.pow_succ, Nat.add_zero, Nat.mul_comm (2 ^ q) 2, ← Nat.mul_assoc]
        exact Nat.mul_lt_mul_of_pos_right (by omega) (Nat.two_pow_pos _)
theorem rv_lt (b : Nat) {r : Nat} : ∀ {q : Nat}, r < q → rv b r < rv b q
  | 0, h => by omega
  | q + 1, h => by
    rcases Nat.eq_or_lt_of_le (Nat.lt_succ_iff.1 h) with e | e
    · rw [e]; exact rv_step b q
    · exact Nat.lt_trans (rv_lt b e) (rv_step b q)
theorem rv_lt_iff (b r q : Nat) : rv b r < rv b q ↔ r < q := by
  constructor
  · intro h
    rcases Nat.lt_trichotomy r q with e | e | e
    · exact e
    · rw [e] at h; omega
    · have := rv_lt b e; omega
  · exact rv_lt b
theorem rv_zero (b : Nat) : rv b 0 = 0 := by unfold rv; rw [if_pos (Nat.two_pow_pos b)]

theorem log2_mul_pow {m : Nat} (k : Nat) (hm : m ≠ 0) : (m * 2 ^ k).log2 = m.log2 + k := by rw [← Nat.shiftLeft_eq, log2_shl k hm]
theorem rnd_one (a : Nat) : rnd a 1 = a := by
  unfold rnd
  rw [Nat.div_one, Nat.mod_one]; rfl
/-- Rounding what is a rung's gives that rung. -/
theorem rq_rv (b r : Nat) : rq b (rv b r) 1 = r := by
  have hN : 0 < 2 ^ b := Nat.two_pow_pos b
  unfold rq rv
  rw [Nat.div_one]
  by_cases h : r < 2 ^ b
  · rw [if_pos h]
    have hl : r.log2 - b = 0 := by
      by_cases h0 : r = 0
      · rw [h0]; simp
      · have := (Nat.log2_lt h0).2 h; omega
    rw [hl, Nat.zero_mul, Nat.zero_add, Nat.pow_zero, rnd_one]
  · rw [if_neg h]
    have hm : r % 2 ^ b < 2 ^ b := Nat.mod_lt _ hN
    have hd := Nat.div_add_mod r (2 ^ b)
    have hq : 1 ≤ r / 2 ^ b := (Nat.le_div_iff_mul_le hN).2 (by omega)
    have hl : ((2 ^ b + r % 2 ^ b) * 2 ^ (r / 2 ^ b - 1)).log2 = b + (r / 2 ^ b - 1) := by
      rw [log2_mul_pow _ (by omega)]
      congr 1
      rw [Nat.log2_eq_iff (by omega), Nat.pow_succ]
      omega
    rw [hl, Nat.add_sub_cancel_left, rnd_mul _ 1 (Nat.two_pow_pos _), rnd_one]
    obtain ⟨q, hq'⟩ : ∃ q, r / 2 ^ b = q + 1 := ⟨r / 2 ^ b - 1, by omega⟩
    rw [hq', Nat.mul_add] at hd
    rw [hq', Nat.add_sub_cancel, Nat.mul_comm q]
    omega

/-! ### Words -/
def sgn (x : Nat) : Bool := x / 9223372036854775808 % 2 == 1
def rung (x : Nat) : Nat := x % 9223372036854775808
def key (x : Nat) : Int := cond (sgn x) (-(rung x : Int)) (rung x)
def isFin (x : Nat) : Bool := Nat.blt (rung x) 9218868437227405312
def val (x : Nat) : Int := cond (sgn x) (-(rv 52 (rung x) : Int)) (rv 52 (rung x))

theorem isFin_lt {x : Nat} (h : isFin x = true) : rung x < 9218868437227405312 := Nat.le_of_ble_eq_true h

theorem rv_low {r : Nat} (h : r < 4503599627370496) : rv 52 r = r := by unfold rv; rw [if_pos (show r < 2 ^ 52 from h)]
theorem rv_high {r : Nat} (h : ¬ r < 4503599627370496) : rv 52 r = (4503599627370496 + r % 4503599627370496) * 2 ^ (r / 4503599627370496 - 1) := by
  unfold rv; rw [if_neg (show ¬ r < 2 ^ 52 from h)]

theorem signed_val (s : Bool) (m k : Nat) : signed s m k = cond s (-((m * 2 ^ k : Nat) : Int)) ((m * 2 ^ k : Nat) : Int) := by
  unfold signed; rw [Nat.shiftLeft_eq]; cases s <;> rfl

/-- What a word that is a number stands for. -/
theorem read_fin {x : Nat} (h : isFin x = true) : ∃ m i, double.read x = .number (sgn x) m i ∧ -1074 ≤ i ∧ m < 9007199254740992 ∧ rv 52 (rung x) = m * 2 ^ (i + 1074).toNat := by
  have hl := isFin_lt h
  unfold rung at hl ⊢
  unfold Format.read sgn
  simp only [signW, infR, binadeV, leastP]
  by_cases h1 : x % 9223372036854775808 < 4503599627370496
  · rw [if_pos h1]
    refine ⟨_, _, rfl, by omega, by omega, ?_⟩
    rw [rv_low h1, show (-1074 + 1074 : Int).toNat = 0 from rfl, Nat.pow_zero, Nat.mul_one]
  · rw [if_neg h1, if_pos hl]
    have := Nat.mod_lt (x % 9223372036854775808) (show 0 < 4503599627370496 by decide)
    refine ⟨_, _, rfl, by omega, by omega, ?_⟩
    rw [rv_high h1]
    congr 2
    omega
theorem read_inf {x : Nat} (h : rung x = 9218868437227405312) : double.read x = .infinity (sgn x) := by
  unfold rung at h
  unfold Format.read sgn
  simp only [signW, infR, binadeV, leastP, h]
  rfl
theorem fin_or_inf {x : Nat} (h : isNan x = false) : isFin x = true ∨ rung x = 9218868437227405312 := by
  cases hf : isFin x
  · right
    have h1 : ¬ rung x < 9218868437227405312 := fun hl => by
      have : isFin x = true := Nat.ble_eq_true_of_le hl
      rw [hf] at this; cases this
    unfold rung at h1 ⊢
    unfold isNan Format.read at h
    simp only [signW, infR, binadeV, leastP] at h
    rw [if_neg (by omega), if_neg h1] at h
    by_cases he : x % 9223372036854775808 = 9218868437227405312
    · exact he
    · rw [if_neg he] at h; simp [Datum.isNaN] at h
  · exact Or.inl rfl
theorem fin_not_nan {x : Nat} (h : isFin x = true) : isNan x = false := by
  obtain ⟨m, i, hr, _⟩ := read_fin h
  unfold isNan; rw [hr]; rfl

/-! ### Order -/
theorem cmp_congr {a b c d : Int} (h1 : a < b ↔ c < d) (h2 : a = b ↔ c = d) : compare a b = compare c d := by
  show compareOfLessAndEq a b = compareOfLessAndEq c d
  unfold compareOfLessAndEq
  simp only [h1, h2]
theorem order_val {x y : Nat} (hx : isFin x = true) (hy : isFin y = true) : double.order x y = some (compare (val x) (val y)) := by
  obtain ⟨m, i, hrx, hi, _, hvx⟩ := read_fin hx
  obtain ⟨n, j, hry, hj, _, hvy⟩ := read_fin hy
  unfold Format.order
  rw [hrx, hry]
  simp only [Datum.order, Option.some.injEq]
  have e1 : val x = signed (sgn x) m (i - min i j).toNat * 2 ^ (min i j + 1074).toNat := by
    rw [← signed_split, show (i - min i j).toNat + (min i j + 1074).toNat = (i + 1074).toNat by omega, signed_val, ← hvx]; rfl
  have e2 : val y = signed (sgn y) n (j - min i j).toNat * 2 ^ (min i j + 1074).toNat := by
    rw [← signed_split, show (j - min i j).toNat + (min i j + 1074).toNat = (j + 1074).toNat by omega, signed_val, ← hvy]; rfl
  have hp : (0 : Int) < 2 ^ (min i j + 1074).toNat := Int.pow_pos (by decide)
  rw [e1, e2]
  generalize (2 : Int) ^ (min i j + 1074).toNat = c at hp
  refine cmp_congr ?_ ?_
  · exact (Int.mul_lt_mul_right hp).symm
  · exact (Int.mul_eq_mul_right_iff (by omega)).symm
theorem val_lt {x y : Nat} : val x < val y ↔ key x < key y := by
  unfold val key
  have a1 := rv_lt_iff 52 (rung x) (rung y)
  have a2 := rv_lt_iff 52 (rung y) (rung x)
  have a3 := rv_lt_iff 52 0 (rung x)
  have a4 := rv_lt_iff 52 0 (rung y)
  rw [rv_zero] at a3 a4
  cases sgn x <;> cases sgn y <;> simp only [cond_true, cond_false] <;> omega
theorem val_le {x y : Nat} : val x ≤ val y ↔ key x ≤ key y := by
  have := val_lt (x := y) (y := x); omega
theorem order_key {x y : Nat} (hx : isNan x = false) (hy : isNan y = false) : double.order x y = some (compare (key x) (key y)) := by
  rcases fin_or_inf hx with fx | ix
  · rcases fin_or_inf hy with fy | iy
    · rw [order_val fx fy]
      have := val_lt (x := x) (y := y)
      have := val_lt (x := y) (y := x)
      exact congrArg some (cmp_congr (by omega) (by omega))
    · obtain ⟨m, i, hr, _⟩ := read_fin fx
      have hl := isFin_lt fx
      unfold Format.order
      rw [hr, read_inf iy]
      simp only [Datum.order, Option.some.injEq]
      unfold key
      rw [iy]
      cases sgn y
      · exact (show compare _ _ = compare (0 : Int) 1 from cmp_congr (by cases sgn x <;> simp only [cond_true, cond_false] <;> omega) (by cases sgn x <;> simp only [cond_true, cond_false] <;> omega)).symm
      · exact (show compare _ _ = compare (1 : Int) 0 from cmp_congr (by cases sgn x <;> simp only [cond_true, cond_false] <;> omega) (by cases sgn x <;> simp only [cond_true, cond_false] <;> omega)).symm
  · rcases fin_or_inf hy with fy | iy
    · obtain ⟨m, i, hr, _⟩ := read_fin fy
      have hl := isFin_lt fy
      unfold Format.order
      rw [hr, read_inf ix]
      simp only [Datum.order, Option.some.injEq]
      unfold key
      rw [ix]
      cases sgn x
      · exact (show compare _ _ = compare (1 : Int) 0 from cmp_congr (by cases sgn y <;> simp only [cond_true, cond_false] <;> omega) (by cases sgn y <;> simp only [cond_true, cond_false] <;> omega)).symm
      · exact (show compare _ _ = compare (0 : Int) 1 from cmp_congr (by cases sgn y <;> simp only [cond_true, cond_false] <;> omega) (by cases sgn y <;> simp only [cond_true, cond_false] <;> omega)).symm
    · unfold Format.order key
      rw [read_inf ix, read_inf iy, ix, iy]
      cases sgn x <;> cases sgn y <;> decide
end Go.Ev

namespace Go.Ev
open Ieee

/-! ### Tests -/
theorem cmp_lt (a b : Int) : (compare a b == Ordering.lt) = decide (a < b) := by
  show (compareOfLessAndEq a b == Ordering.lt) = _
  unfold compareOfLessAndEq
  by_cases h : a < b
  · simp [h]
  · by_cases h2 : a = b
    · simp [h2]
    · simp [h, h2]
theorem cmp_eq (a b : Int) : (compare a b == Ordering.eq) = decide (a = b) := by
  show (compareOfLessAndEq a b == Ordering.eq) = _
  unfold compareOfLessAndEq
  by_cases h : a < b
  · have : a ≠ b := by omega
    simp [h, this]
  · by_cases h2 : a = b
    · simp [h2]
    · simp [h, h2]
theorem cmp_gt (a b : Int) : (compare a b == Ordering.gt) = decide (b < a) := by
  show (compareOfLessAndEq a b == Ordering.gt) = _
  unfold compareOfLessAndEq
  by_cases h : a < b
  · have : ¬ b < a := by omega
    simp [h, this]
  · by_cases h2 : a = b
    · simp [h2]
    · have : b < a := by omega
      simp [h, h2, this]
theorem some_beq (a b : Ordering) : (some a == some b) = (a == b) := rfl

theorem flt_key {x y : Nat} (hx : isNan x = false) (hy : isNan y = false) : flt x y = decide (key x < key y) := by
  unfold flt; rw [order_key hx hy, some_beq, cmp_lt]
theorem fgt_key {x y : Nat} (hx : isNan x = false) (hy : isNan y = false) : fgt x y = decide (key y < key x) := by
  unfold fgt; rw [order_key hx hy, some_beq, cmp_gt]
theorem feq_key {x y : Nat} (hx : isNan x = false) (hy : isNan y = false) : feq x y = decide (key x = key y) := by
  unfold feq; rw [order_key hx hy, some_beq, cmp_eq]
theorem fle_key {x y : Nat} (hx : isNan x = false) (hy : isNan y = false) : fle x y = decide (key x ≤ key y) := by
  unfold fle; rw [order_key hx hy, some_beq, some_beq, cmp_lt, cmp_eq, Bool.eq_iff_iff]; simp; omega
theorem fge_key {x y : Nat} (hx : isNan x = false) (hy : isNan y = false) : fge x y = decide (key y ≤ key x) := by
  unfold fge; rw [order_key hx hy, some_beq, some_beq, cmp_gt, cmp_eq, Bool.eq_iff_iff]; simp; omega
theorem not_nan_of {x y : Nat} {o : Ordering} (h : double.order x y = some o) : isNan x = false ∧ isNan y = false := by
  constructor
  · cases hx : isNan x
    · rfl
    · have : double.order x y = none := order_nan_left hx
      rw [this] at h; cases h
  · cases hy : isNan y
    · rfl
    · have : double.order x y = none := order_nan_right hy
      rw [this] at h; cases h
theorem fle_true {x y : Nat} (h : fle x y = true) : isNan x = false ∧ isNan y = false ∧ key x ≤ key y := by
  have h' := h
  unfold fle at h
  cases ho : double.order x y with
  | none => rw [ho] at h; cases h
  | some o =>
    obtain ⟨a, b⟩ := not_nan_of ho
    rw [fle_key a b] at h'
    exact ⟨a, b, of_decide_eq_true h'⟩
theorem fge_true {x y : Nat} (h : fge x y = true) : isNan x = false ∧ isNan y = false ∧ key y ≤ key x := by
  have h' := h
  unfold fge at h
  cases ho : double.order x y with
  | none => rw [ho] at h; cases h
  | some o =>
    obtain ⟨a, b⟩ := not_nan_of ho
    rw [fge_key a b] at h'
    exact ⟨a, b, of_decide_eq_true h'⟩
theorem flt_true {x y : Nat} (h : flt x y = true) : isNan x = false ∧ isNan y = false ∧ key x < key y := by
  have h' := h
  unfold flt at h
  cases ho : double.order x y with
  | none => rw [ho] at h; cases h
  | some o =>
    obtain ⟨a, b⟩ := not_nan_of ho
    rw [flt_key a b] at h'
    exact ⟨a, b, of_decide_eq_true h'⟩
theorem fgt_true {x y : Nat} (h : fgt x y = true) : isNan x = false ∧ isNan y = false ∧ key y < key x := by
  have h' := h
  unfold fgt at h
  cases ho : double.order x y with
  | none => rw [ho] at h; cases h
  | some o =>
    obtain ⟨a, b⟩ := not_nan_of ho
    rw [fgt_key a b] at h'
    exact ⟨a, b, of_decide_eq_true h'⟩
theorem feq_true {x y : Nat} (h : feq x y = true) : isNan x = false ∧ isNan y = false ∧ key x = key y := by
  have h' := h
  unfold feq at h
  cases ho : double.order x y with
  | none => rw [ho] at h; cases h
  | some o =>
    obtain ⟨a, b⟩ := not_nan_of ho
    rw [feq_key a b] at h'
    exact ⟨a, b, of_decide_eq_true h'⟩

/-! ### The key of an exact value, rounded -/
def KR (v : Int) (g : Nat) : Int := cond (decide (v < 0)) (-((min (rq 52 v.natAbs g) 9218868437227405312 : Nat) : Int)) ((min (rq 52 v.natAbs g) 9218868437227405312 : Nat) : Int)

theorem KR_mono {v w : Int} (g : Nat) (h : v ≤ w) : KR v g ≤ KR w g := by
  unfold KR
  by_cases h1 : v < 0
  · rw [decide_eq_true h1, cond_true]
    by_cases h2 : w < 0
    · rw [decide_eq_true h2, cond_true]
      have := rq_mono1 52 (g := g) (show w.natAbs ≤ v.natAbs by omega)
      omega
    · rw [decide_eq_false h2, cond_false]; omega
  · rw [decide_eq_false h1, decide_eq_false (show ¬ w < 0 by omega), cond_false, cond_false]
    have := rq_mono1 52 (g := g) (show v.natAbs ≤ w.natAbs by omega)
    omega
theorem KR_neg (v : Int) {g : Nat} (hg : 0 < g) : KR (-v) g = - KR v g := by
  unfold KR
  rw [Int.natAbs_neg]
  rcases Int.lt_trichotomy v 0 with h | h | h
  · rw [decide_eq_true h, decide_eq_false (show ¬ -v < 0 by omega), cond_true, cond_false, Int.neg_neg]
  · subst h
    rw [Int.neg_zero, Int.natAbs_zero, rq_zero 52 hg]; decide
  · rw [decide_eq_false (show ¬ v < 0 by omega), decide_eq_true (show -v < 0 by omega), cond_true, cond_false]
theorem KR_zero {g : Nat} (hg : 0 < g) : KR 0 g = 0 := by
  unfold KR
  rw [Int.natAbs_zero, rq_zero 52 hg]; decide
theorem KR_sign {v : Int} {g : Nat} : (0 ≤ v → 0 ≤ KR v g) ∧ (v ≤ 0 → 0 < g → KR v g ≤ 0) := by
  unfold KR
  constructor
  · intro h; rw [decide_eq_false (show ¬ v < 0 by omega), cond_false]; omega
  · intro h hg
    by_cases h0 : v = 0
    · subst h0; rw [Int.natAbs_zero, rq_zero 52 hg]; decide
    · rw [decide_eq_true (show v < 0 by omega), cond_true]; omega

theorem key_word (s : Bool) {r : Nat} (h : r ≤ 9218868437227405312) : key (double.word s r) = cond s (-(r : Int)) r := by
  unfold key rung sgn Format.word
  rw [signW]
  cases s
  · have h1 : r / 9223372036854775808 = 0 := Nat.div_eq_of_lt (by omega)
    have h2 : r % 9223372036854775808 = r := Nat.mod_eq_of_lt (by omega)
    simp [h1, h2]
  · have h1 : (9223372036854775808 + r) / 9223372036854775808 = 1 := by omega
    have h2 : (9223372036854775808 + r) % 9223372036854775808 = r := by omega
    simp [h1, h2]

/-- What is written of an exact value 'v / g' units, where the sign is the value's (of nought either). -/
theorem key_nearest {s : Bool} {m u w : Nat} {p : Int} {v : Int} {g : Nat} (hg : 0 < g) (hp : p + 1074 = u - w) (ha : rq 52 (m * 2 ^ u) (2 ^ w) = rq 52 v.natAbs g) (hs : v ≠ 0 → s = decide (v < 0)) : key (double.nearest s m p) = KR v g := by
  rw [nearest_rq s m u w p hp, ha, infR, key_word _ (Nat.min_le_right _ _)]
  unfold KR
  by_cases h0 : v = 0
  · subst h0
    rw [Int.natAbs_zero, rq_zero 52 hg]
    cases s <;> decide
  · rw [hs h0]

theorem KR_val {x : Nat} (h : isFin x = true) : KR (val x) 1 = key x := by
  have hl := isFin_lt h
  have hn : (val x).natAbs = rv 52 (rung x) := by unfold val; cases sgn x <;> simp only [cond_true, cond_false] <;> omega
  unfold KR
  rw [hn, rq_rv]
  unfold val key
  have hz : rung x = 0 ∨ 0 < rv 52 (rung x) := by
    rcases Nat.eq_zero_or_pos (rung x) with e | e
    · exact Or.inl e
    · right; have := rv_lt 52 e; rw [rv_zero] at this; exact this
  rw [Nat.min_eq_left (by omega)]
  cases sgn x
  · rw [cond_false, cond_false, decide_eq_false (by omega), cond_false]
  · rw [cond_true, cond_true]
    rcases hz with e | e
    · rw [e, rv_zero]; decide
    · rw [decide_eq_true (by omega), cond_true]

/-! ### Operations -/
theorem val_signed {x m : Nat} {i base : Int} (hv : rv 52 (rung x) = m * 2 ^ (i + 1074).toNat) (h1 : base ≤ i) (h2 : -1074 ≤ base) : val x = signed (sgn x) m (i - base).toNat * 2 ^ (base + 1074).toNat := by
  rw [← signed_split, show (i - base).toNat + (base + 1074).toNat = (i + 1074).toNat by omega, signed_val, ← hv]; rfl

theorem key_sum {x : Nat} {s t : Bool} {m n : Nat} {i j : Int} {r : Bool} {a b : Int} (hi : -1074 ≤ i) (hj : -1074 ≤ j)
    (ea : a = signed s m (i - min i j).toNat * 2 ^ (min i j + 1074).toNat) (eb : b = signed t n (j - min i j).toNat * 2 ^ (min i j + 1074).toNat)
    (hr : x = double.write (.number r (signed s m (i - min i j).toNat + signed t n (j - min i j).toNat).natAbs (min i j)))
    (hs : signed s m (i - min i j).toNat + signed t n (j - min i j).toNat ≠ 0 → r = decide (signed s m (i - min i j).toNat + signed t n (j - min i j).toNat < 0)) : key x = KR (a + b) 1 := by
  generalize signed s m (i - min i j).toNat = A at *
  generalize signed t n (j - min i j).toNat = B at *
  have e : a + b = (A + B) * 2 ^ (min i j + 1074).toNat := by rw [ea, eb, Int.add_mul]
  have hc : (0 : Int) < 2 ^ (min i j + 1074).toNat := Int.pow_pos (by decide)
  rw [hr, e]
  refine key_nearest (u := (min i j + 1074).toNat) (w := 0) (by decide) (by omega) ?_ ?_
  · rw [Int.natAbs_mul, Int.natAbs_pow]; rfl
  · intro h0
    have hAB : A + B ≠ 0 := fun h => h0 (by rw [h, Int.zero_mul])
    rw [hs hAB]
    refine decide_eq_decide.2 ?_
    constructor
    · intro h; exact Int.mul_neg_of_neg_of_pos h hc
    · intro h
      rcases Int.lt_trichotomy (A + B) 0 with h1 | h1 | h1
      · exact h1
      · exact absurd h1 hAB
      · have := Int.mul_pos h1 hc; omega

theorem key_add {x y : Nat} (hx : isFin x = true) (hy : isFin y = true) : key (fadd x y) = KR (val x + val y) 1 ∧ isNan (fadd x y) = false := by
  obtain ⟨m, i, hrx, hi, _, hvx⟩ := read_fin hx
  obtain ⟨n, j, hry, hj, _, hvy⟩ := read_fin hy
  constructor
  · unfold fadd Format.add
    rw [hrx, hry]
    simp only [Datum.sum, Option.map_some, Option.getD_some]
    refine key_sum hi hj (val_signed hvx (by omega) (by omega)) (val_signed hvy (by omega) (by omega)) rfl ?_
    intro h; rw [if_neg h]
  · have : ∃ r, double.add x y = some r := by unfold Format.add; rw [hrx, hry]; exact ⟨_, rfl⟩
    obtain ⟨r, hr⟩ := this
    unfold fadd; rw [hr]; exact isNan_add hr
theorem key_sub {x y : Nat} (hx : isFin x = true) (hy : isFin y = true) : key (fsub x y) = KR (val x - val y) 1 ∧ isNan (fsub x y) = false := by
  obtain ⟨m, i, hrx, hi, _, hvx⟩ := read_fin hx
  obtain ⟨n, j, hry, hj, _, hvy⟩ := read_fin hy
  constructor
  · unfold fsub Format.sub
    rw [hrx, hry]
    simp only [Datum.opposite, Datum.sum, Option.map_some, Option.getD_some]
    have e : val x - val y = val x + -(val y) := Int.sub_eq_add_neg
    rw [e]
    refine key_sum hi hj (val_signed hvx (by omega) (by omega)) ?_ rfl ?_
    · rw [signed_neg, Int.neg_mul, ← val_signed hvy (by omega) (by omega)]
    · intro h; rw [if_neg h]
  · have : ∃ r, double.sub x y = some r := by unfold Format.sub; rw [hrx, hry]; exact ⟨_, rfl⟩
    obtain ⟨r, hr⟩ := this
    unfold fsub; rw [hr]; exact isNan_sub hr

theorem val_abs (x : Nat) : (val x).natAbs = rv 52 (rung x) := by unfold val; cases sgn x <;> simp only [cond_true, cond_false] <;> omega
theorem val_neg {x : Nat} (h : val x ≠ 0) : sgn x = decide (val x < 0) := by
  unfold val at h ⊢
  cases hs : sgn x
  · rw [cond_false, decide_eq_false (by omega)]
  · rw [hs, cond_true] at h; rw [cond_true, decide_eq_true (by omega)]
theorem mul_sign {a b : Int} (h : a * b ≠ 0) : (decide (a < 0) ^^ decide (b < 0)) = decide (a * b < 0) := by
  have ha : a ≠ 0 := fun e => h (by rw [e, Int.zero_mul])
  have hb : b ≠ 0 := fun e => h (by rw [e, Int.mul_zero])
  rcases Int.lt_or_gt_of_ne ha with h1 | h1 <;> rcases Int.lt_or_gt_of_ne hb with h2 | h2
  · have := Int.mul_pos_of_neg_of_neg h1 h2
    rw [decide_eq_true h1, decide_eq_true h2, decide_eq_false (by omega)]; rfl
  · have := Int.mul_neg_of_neg_of_pos h1 h2
    rw [decide_eq_true h1, decide_eq_false (by omega), decide_eq_true this]; rfl
  · have := Int.mul_neg_of_pos_of_neg h1 h2
    rw [decide_eq_false (by omega), decide_eq_true h2, decide_eq_true this]; rfl
  · have := Int.mul_pos h1 h2
    rw [decide_eq_false (by omega), decide_eq_false (by omega), decide_eq_false (by omega)]; rfl

theorem key_mul {x y c : Nat} (hc : c = 1074) (hx : isFin x = true) (hy : isFin y = true) : key (fmul x y) = KR (val x * val y) (2 ^ c) ∧ isNan (fmul x y) = false := by
  obtain ⟨m, i, hrx, hi, _, hvx⟩ := read_fin hx
  obtain ⟨n, j, hry, hj, _, hvy⟩ := read_fin hy
  constructor
  · unfold fmul Format.mul
    rw [hrx, hry]
    simp only [Datum.product, Option.map_some, Option.getD_some, Format.write]
    refine key_nearest (u := (i + 1074).toNat + (j + 1074).toNat) (w := c) (Nat.two_pow_pos _) (by omega) ?_ ?_
    · rw [Int.natAbs_mul, val_abs, val_abs, hvx, hvy, Nat.pow_add]
      congr 1
      rw [Nat.mul_assoc, Nat.mul_assoc, Nat.mul_left_comm n]
    · intro h
      have ha : val x ≠ 0 := fun e => h (by rw [e, Int.zero_mul])
      have hb : val y ≠ 0 := fun e => h (by rw [e, Int.mul_zero])
      rw [val_neg ha, val_neg hb, mul_sign h]
  · have : ∃ r, double.mul x y = some r := by unfold Format.mul; rw [hrx, hry]; exact ⟨_, rfl⟩
    obtain ⟨r, hr⟩ := this
    unfold fmul; rw [hr]; exact isNan_mul hr

/-- A number's sign, as a factor. -/
def sg (v : Int) : Int := cond (decide (v < 0)) (-1) 1

theorem key_div {x y c : Nat} (hc : c = 1074) (hx : isFin x = true) (hy : isFin y = true) (h0 : val y ≠ 0) : key (fdiv x y) = KR (val x * sg (val y) * ((2 ^ c : Nat) : Int)) (val y).natAbs ∧ isNan (fdiv x y) = false := by
  obtain ⟨m, i, hrx, hi, hm, hvx⟩ := read_fin hx
  obtain ⟨n, j, hry, hj, hn, hvy⟩ := read_fin hy
  have hn0 : n ≠ 0 := fun e => h0 (by
    have : (val y).natAbs = 0 := by rw [val_abs, hvy, e, Nat.zero_mul]
    omega)
  have hr : double.div x y = some (double.write (.number (sgn x ^^ sgn y) (2 * (m <<< (54 + n.log2 - m.log2) / n) + (m <<< (54 + n.log2 - m.log2) % n != 0).toNat) (i - j - (54 + n.log2 - m.log2 : Nat) - 1))) := by
    unfold Format.div
    rw [hrx, hry]
    simp only [Datum.quotient]
    rw [if_neg hn0]
    rfl
  refine ⟨?_, by unfold fdiv; rw [hr]; exact isNan_div hr⟩
  unfold fdiv
  rw [hr, Option.getD_some]
  have hsg : (sg (val y)).natAbs = 1 := by unfold sg; cases decide (val y < 0) <;> rfl
  have hP : 0 < (2 ^ c : Nat) := Nat.two_pow_pos _
  refine key_nearest (u := (i + 1074).toNat + c) (w := (j + 1074).toNat + (54 + n.log2 - m.log2) + 1) (by omega) (by omega) ?_ ?_
  · rw [Int.natAbs_mul, Int.natAbs_mul, hsg, Nat.mul_one, Int.natAbs_natCast, val_abs, val_abs, hvx, hvy]
    by_cases hm0 : m = 0
    · rw [hm0, Nat.zero_shiftLeft, Nat.zero_div, Nat.zero_mod, Nat.zero_mul, Nat.zero_mul]
      show rq 52 (0 * _) _ = _
      rw [Nat.zero_mul, rq_zero 52 (Nat.two_pow_pos _), rq_zero 52 (Nat.mul_pos (by omega) (Nat.two_pow_pos _))]
    · have hl := log2_lt53 hm
      have hq : 2 ^ (52 + 1) ≤ m <<< (54 + n.log2 - m.log2) / n := by
        rw [Nat.le_div_iff_mul_le (by omega)]
        have h1 : 2 ^ (54 + n.log2) ≤ m <<< (54 + n.log2 - m.log2) := by
          rw [Nat.shiftLeft_eq]
          have := Nat.mul_le_mul_right (2 ^ (54 + n.log2 - m.log2)) (Nat.log2_self_le hm0)
          rw [← Nat.pow_add, show m.log2 + (54 + n.log2 - m.log2) = 54 + n.log2 by omega] at this
          exact this
        refine Nat.le_trans ?_ h1
        rw [show 54 + n.log2 = (52 + 1) + (n.log2 + 1) by omega, Nat.pow_add 2 (52 + 1)]
        exact Nat.mul_le_mul_left _ (Nat.le_of_lt Nat.lt_log2_self)
      rw [rq_sticky 52 _ n _ _ (by omega) hq, Nat.shiftLeft_eq]
      generalize 54 + n.log2 - m.log2 = k
      have := rq_mul 52 (m * 2 ^ (i + 1074).toNat * 2 ^ c) (n * 2 ^ (j + 1074).toNat) (Nat.two_pow_pos (k + 1))
      rw [← this]
      congr 1
      · rw [Nat.pow_add, Nat.pow_succ]
        generalize 2 ^ (i + 1074).toNat = a
        generalize 2 ^ c = b
        generalize 2 ^ k = d
        simp only [Nat.mul_assoc, Nat.mul_comm, Nat.mul_left_comm]
      · rw [Nat.mul_assoc, ← Nat.pow_add, Nat.add_assoc]
  · intro h
    have hP' : (0 : Int) < ((2 ^ c : Nat) : Int) := Int.ofNat_lt.2 hP
    generalize ((2 ^ c : Nat) : Int) = P at h hP'
    have h1 : val x * sg (val y) ≠ 0 := fun e => h (by rw [e, Int.zero_mul])
    have ha : val x ≠ 0 := fun e => h1 (by rw [e, Int.zero_mul])
    have h2 := mul_sign h
    rw [← h2, decide_eq_false (show ¬ P < 0 by omega), Bool.xor_false, ← mul_sign h1, val_neg ha, val_neg h0]
    congr 1
    unfold sg
    cases decide (val y < 0) <;> decide
end Go.Ev

namespace Go.Ev
open Ieee

theorem fsub_mono {a b o : Nat} (ha : isFin a = true) (hb : isFin b = true) (ho : isFin o = true) (h : key a ≤ key b) : key (fsub a o) ≤ key (fsub b o) := by
  rw [(key_sub ha ho).1, (key_sub hb ho).1]
  have := val_le.2 h
  exact KR_mono 1 (by omega)
theorem fadd_mono {a b o : Nat} (ha : isFin a = true) (hb : isFin b = true) (ho : isFin o = true) (h : key a ≤ key b) : key (fadd a o) ≤ key (fadd b o) := by
  rw [(key_add ha ho).1, (key_add hb ho).1]
  have := val_le.2 h
  exact KR_mono 1 (by omega)
theorem val_pos {x : Nat} : 0 < val x ↔ 0 < key x := by
  have h := val_lt (x := 0) (y := x)
  have h1 : val 0 = 0 := by decide +kernel
  have h2 : key 0 = 0 := by decide +kernel
  rw [h1, h2] at h; exact h
theorem val_negative {x : Nat} : val x < 0 ↔ key x < 0 := by
  have h := val_lt (x := x) (y := 0)
  have h1 : val 0 = 0 := by decide +kernel
  have h2 : key 0 = 0 := by decide +kernel
  rw [h1, h2] at h; exact h
theorem fdiv_mono {a b d : Nat} (ha : isFin a = true) (hb : isFin b = true) (hd : isFin d = true) (h0 : 0 < key d) (h : key a ≤ key b) : key (fdiv a d) ≤ key (fdiv b d) := by
  have hv := val_pos.2 h0
  obtain ⟨c, hc⟩ : ∃ c, c = 1074 := ⟨_, rfl⟩
  rw [(key_div hc ha hd (by omega)).1, (key_div hc hb hd (by omega)).1]
  have hsg : sg (val d) = 1 := by unfold sg; rw [decide_eq_false (by omega)]; rfl
  rw [hsg, Int.mul_one, Int.mul_one]
  exact KR_mono _ (Int.mul_le_mul_of_nonneg_right (val_le.2 h) (Int.natCast_nonneg _))
theorem fdiv_anti {a b d : Nat} (ha : isFin a = true) (hb : isFin b = true) (hd : isFin d = true) (h0 : key d < 0) (h : key a ≤ key b) : key (fdiv b d) ≤ key (fdiv a d) := by
  have hv := val_negative.2 h0
  obtain ⟨c, hc⟩ : ∃ c, c = 1074 := ⟨_, rfl⟩
  rw [(key_div hc ha hd (by omega)).1, (key_div hc hb hd (by omega)).1]
  have hsg : sg (val d) = -1 := by unfold sg; rw [decide_eq_true hv]; rfl
  rw [hsg]
  have := val_le.2 h
  exact KR_mono _ (Int.mul_le_mul_of_nonneg_right (by omega) (Int.natCast_nonneg _))

/-- A float between two numbers is a number. -/
theorem fin_between {x lo hi : Nat} (h0 : isNan x = false) (h1 : key lo ≤ key x) (h2 : key x ≤ key hi) (hl : -9218868437227405312 < key lo) (hh : key hi < 9218868437227405312) : isFin x = true := by
  rcases fin_or_inf h0 with h | h
  · exact h
  · exfalso
    have e : key x = 9218868437227405312 ∨ key x = -9218868437227405312 := by
      unfold key; rw [h]; cases sgn x
      · exact Or.inl rfl
      · exact Or.inr rfl
    omega
/-- A million; two million. -/
theorem near_fin {x : Nat} (h1 : fge x 13920209183539462144 = true) (h2 : fle x 4696837146684686336 = true) : isFin x = true ∧ -4696837146684686336 ≤ key x ∧ key x ≤ 4696837146684686336 := by
  obtain ⟨a, _, h3⟩ := fge_true h1
  obtain ⟨_, _, h4⟩ := fle_true h2
  have e1 : key 13920209183539462144 = -4696837146684686336 := by decide +kernel
  have e2 : key 4696837146684686336 = 4696837146684686336 := by decide +kernel
  refine ⟨fin_between a h3 h4 (by rw [e1]; decide) (by rw [e2]; decide), by omega, by omega⟩
theorem sub_fin {x y : Nat} (hx : isFin x = true) (hy : isFin y = true) (x1 : -4696837146684686336 ≤ key x) (x2 : key x ≤ 4696837146684686336) (y1 : -4696837146684686336 ≤ key y) (y2 : key y ≤ 4696837146684686336) : isFin (fsub x y) = true := by
  have e1 : key 13920209183539462144 = -4696837146684686336 := by decide +kernel
  have e2 : key 4696837146684686336 = 4696837146684686336 := by decide +kernel
  have a1 := val_le.2 (show key 13920209183539462144 ≤ key x by omega)
  have a2 := val_le.2 (show key x ≤ key 4696837146684686336 by omega)
  have b1 := val_le.2 (show key 13920209183539462144 ≤ key y by omega)
  have b2 := val_le.2 (show key y ≤ key 4696837146684686336 by omega)
  have t1 : val 4696837146684686336 - val 13920209183539462144 = val 4701340746312056832 := by decide +kernel
  have t2 : val 13920209183539462144 - val 4696837146684686336 = val 13924712783166832640 := by decide +kernel
  have f1 : isFin 4701340746312056832 = true := by decide +kernel
  have f2 : isFin 13924712783166832640 = true := by decide +kernel
  obtain ⟨k, n⟩ := key_sub hx hy
  refine fin_between (lo := 13924712783166832640) (hi := 4701340746312056832) n ?_ ?_ (by decide +kernel) (by decide +kernel)
  · rw [k, ← KR_val f2]; exact KR_mono 1 (by omega)
  · rw [k, ← KR_val f1]; exact KR_mono 1 (by omega)
end Go.Ev
