/-
  Turned by quarters, whatever is met is met: of the plain functions of floats, of no particular program.
-/
import Derived.Test.YtfdfnnmgpjamdaiGreatThou
namespace Go.Proofs.YtfdfnnmgpjamdaiGreat
open Go.Ev

/-! ### Turns: plain functions -/
def minusOne : Nat := 13830554455654793216
def dirS (t : Nat → Nat) (k a b c : Nat) : Nat := dotS (t (3 * k)) (t (3 * k + 1)) (t (3 * k + 2)) a b c
def dirV (t : Nat → Nat) (a b c : Nat) : Value := V (dirS t 0 a b c) (dirS t 1 a b c) (dirS t 2 a b c)
def pointS (t : Nat → Nat) (k a b c : Nat) : Nat := fadd (dirS t k a b c) (t (9 + k))
def pointV (t : Nat → Nat) (a b c : Nat) : Value := V (pointS t 0 a b c) (pointS t 1 a b c) (pointS t 2 a b c)
def cornS (t b : Nat → Nat) (k i : Nat) : Nat := pointS t i (cond (Nat.testBit k 0) (b 3) (b 0)) (cond (Nat.testBit k 1) (b 4) (b 1)) (cond (Nat.testBit k 2) (b 5) (b 2))
def loS' (g : Nat → Nat) : Nat := lessS (lessS (lessS (lessS (lessS (lessS (lessS (lessS (g 0) (g 0)) (g 1)) (g 2)) (g 3)) (g 4)) (g 5)) (g 6)) (g 7)
def hiS' (g : Nat → Nat) : Nat := moreS (moreS (moreS (moreS (moreS (moreS (moreS (moreS (g 0) (g 0)) (g 1)) (g 2)) (g 3)) (g 4)) (g 5)) (g 6)) (g 7)
def boxS' (t b : Nat → Nat) : Nat → Nat := ls [loS' fun k => cornS t b k 0, loS' fun k => cornS t b k 1, loS' fun k => cornS t b k 2, hiS' fun k => cornS t b k 0, hiS' fun k => cornS t b k 1, hiS' fun k => cornS t b k 2]
def rayT (t r : Nat → Nat) : Nat → Nat := ls [pointS t 0 (r 0) (r 1) (r 2), pointS t 1 (r 0) (r 1) (r 2), pointS t 2 (r 0) (r 1) (r 2), dirS t 0 (r 3) (r 4) (r 5), dirS t 1 (r 3) (r 4) (r 5), dirS t 2 (r 3) (r 4) (r 5), r 6]
def cosN : Nat → Nat := ls [one, 0, minusOne, 0]
def sinN : Nat → Nat := ls [0, one, 0, minusOne]
def msinN : Nat → Nat := ls [0, minusOne, 0, one]
/-- The turn about an axis by so many quarters. -/
def qt (ax r : Nat) : Nat → Nat :=
  match ax with
  | 0 => ls [one, 0, 0, 0, cosN r, msinN r, 0, sinN r, cosN r, 0, 0, 0]
  | 1 => ls [cosN r, 0, sinN r, 0, one, 0, msinN r, 0, cosN r, 0, 0, 0]
  | _ => ls [cosN r, msinN r, 0, sinN r, cosN r, 0, 0, 0, one, 0, 0, 0]

/-! ### Keys of products with 1, -1 and 0 -/
structure KV (x : Nat) (n : Int) : Prop where
  fin : isFin x = true
  key : key x = n
theorem val_of_key {x y : Nat} (h : key x = key y) : val x = val y := by
  have h1 := val_le (x := x) (y := y)
  have h2 := val_le (x := y) (y := x)
  omega
theorem fin_of_key {x y : Nat} (hy : isFin y = true) (h : (key x).natAbs = (key y).natAbs) : isFin x = true := by
  rw [key_abs, key_abs] at h
  unfold isFin at *
  rw [h]; exact hy
theorem val_of_neg {x y : Nat} (h : key x = - key y) : val x = - val y := by
  have e1 : rung x = rung y := by have := key_abs x; have := key_abs y; omega
  have a1 := val_abs x
  have a2 := val_abs y
  rw [e1] at a1
  have p1 := val_pos (x := x)
  have p2 := val_pos (x := y)
  have q1 := val_negative (x := x)
  have q2 := val_negative (x := y)
  omega
theorem val_one {c : Nat} (hc : c = 1074) : val one = ((2 ^ c : Nat) : Int) := by
  have e : one = pw c := by subst hc; decide
  have h := rv_pw (n := c) (by omega)
  have h2 : sgn one = false := by decide +kernel
  have h3 : rung one = one := by decide +kernel
  unfold val
  rw [h2, h3, cond_false, e, h]
theorem val_m1 {c : Nat} (hc : c = 1074) : val minusOne = -((2 ^ c : Nat) : Int) := by
  rw [← val_one hc]
  exact val_of_neg (by decide +kernel)
theorem KR_scale (v : Int) {g : Nat} (hg : 0 < g) : KR (v * (g : Int)) g = KR v 1 := by
  unfold KR
  have e := rq_mul 52 v.natAbs 1 hg
  rw [Nat.one_mul] at e
  rw [Int.natAbs_mul, Int.natAbs_natCast, e]
  have hg' : (0 : Int) < (g : Int) := by omega
  by_cases h : v < 0
  · rw [decide_eq_true h, decide_eq_true (Int.mul_neg_of_neg_of_pos h hg')]
  · rw [decide_eq_false h, decide_eq_false (Int.not_lt.2 (Int.mul_nonneg (by omega) (by omega)))]
theorem kv_one {x : Nat} {n : Int} (h : KV x n) : KV (fmul one x) n := by
  obtain ⟨c, hc⟩ : ∃ c, c = 1074 := ⟨_, rfl⟩
  obtain ⟨k1, _⟩ := key_mul hc (show isFin one = true by decide +kernel) h.fin
  rw [val_one hc, Int.mul_comm, KR_scale _ (Nat.two_pow_pos c), KR_val h.fin] at k1
  exact ⟨fin_of_key h.fin (by rw [k1]), by rw [k1, h.key]⟩
theorem kv_m1 {x : Nat} {n : Int} (h : KV x n) : KV (fmul minusOne x) (-n) := by
  obtain ⟨c, hc⟩ : ∃ c, c = 1074 := ⟨_, rfl⟩
  obtain ⟨k1, _⟩ := key_mul hc (show isFin minusOne = true by decide +kernel) h.fin
  rw [val_m1 hc, Int.neg_mul, KR_neg _ (Nat.two_pow_pos c), Int.mul_comm, KR_scale _ (Nat.two_pow_pos c), KR_val h.fin] at k1
  exact ⟨fin_of_key h.fin (by rw [k1, Int.natAbs_neg]), by rw [k1, h.key]⟩
theorem kv_nul {x : Nat} {n : Int} (h : KV x n) : KV (fmul 0 x) 0 := by
  obtain ⟨c, hc⟩ : ∃ c, c = 1074 := ⟨_, rfl⟩
  obtain ⟨k1, _⟩ := key_mul hc (show isFin 0 = true by decide +kernel) h.fin
  rw [show val 0 = 0 by decide +kernel, Int.zero_mul, KR_zero (Nat.two_pow_pos c)] at k1
  exact ⟨fin_of_key (show isFin 0 = true by decide +kernel) (by rw [k1]; decide +kernel), k1⟩
theorem val_key0 {x : Nat} (h : key x = 0) : val x = 0 := val_zero.2 (key_zero.1 h)
theorem kv_addr {x y : Nat} {n : Int} (h : KV x n) (hy : KV y 0) : KV (fadd x y) n := by
  obtain ⟨k1, _⟩ := key_add h.fin hy.fin
  rw [val_key0 hy.key, Int.add_zero, KR_val h.fin] at k1
  exact ⟨fin_of_key h.fin (by rw [k1]), by rw [k1, h.key]⟩
theorem kv_addl {x y : Nat} {n : Int} (h : KV x 0) (hy : KV y n) : KV (fadd x y) n := by rw [fadd_comm]; exact kv_addr hy h
theorem kv_zero : KV 0 0 := ⟨by decide +kernel, by decide +kernel⟩

/-- One row of a quarter turn: which number it takes, and with which sign. -/
def rowQ (ax k i : Nat) : Nat × Bool :=
  match ax, k, i with
  | 0, 0, 0 => (0, false) | 0, 0, 1 => (1, false) | 0, 0, _ => (2, false)
  | 0, 1, 0 => (0, false) | 0, 1, 1 => (2, true) | 0, 1, _ => (1, false)
  | 0, 2, 0 => (0, false) | 0, 2, 1 => (1, true) | 0, 2, _ => (2, true)
  | 0, _, 0 => (0, false) | 0, _, 1 => (2, false) | 0, _, _ => (1, true)
  | 1, 0, 0 => (0, false) | 1, 0, 1 => (1, false) | 1, 0, _ => (2, false)
  | 1, 1, 0 => (2, false) | 1, 1, 1 => (1, false) | 1, 1, _ => (0, true)
  | 1, 2, 0 => (0, true) | 1, 2, 1 => (1, false) | 1, 2, _ => (2, true)
  | 1, _, 0 => (2, true) | 1, _, 1 => (1, false) | 1, _, _ => (0, false)
  | _, 0, 0 => (0, false) | _, 0, 1 => (1, false) | _, 0, _ => (2, false)
  | _, 1, 0 => (1, true) | _, 1, 1 => (0, false) | _, 1, _ => (2, false)
  | _, 2, 0 => (0, true) | _, 2, 1 => (1, true) | _, 2, _ => (2, false)
  | _, _, 0 => (1, false) | _, _, 1 => (0, true) | _, _, _ => (2, false)
def sgnI (s : Bool) (n : Int) : Int := cond s (-n) n
def sel3 (j : Nat) (a b c : Int) : Int := match j with | 0 => a | 1 => b | _ => c
theorem row_key {ax k i a b c : Nat} {p q r : Int} (hax : ax < 3) (hk : k < 4) (hi : i < 3) (ha : KV a p) (hb : KV b q) (hc : KV c r) : KV (dirS (qt ax k) i a b c) (sgnI (rowQ ax k i).2 (sel3 (rowQ ax k i).1 p q r)) := by
  have h1 : ax = 0 ∨ ax = 1 ∨ ax = 2 := by omega
  have h2 : k = 0 ∨ k = 1 ∨ k = 2 ∨ k = 3 := by omega
  have h3 : i = 0 ∨ i = 1 ∨ i = 2 := by omega
  rcases h1 with rfl | rfl | rfl <;> rcases h2 with rfl | rfl | rfl | rfl <;> rcases h3 with rfl | rfl | rfl <;>
    first
    | exact kv_addr (kv_addr (kv_one ha) (kv_nul hb)) (kv_nul hc)
    | exact kv_addr (kv_addr (kv_m1 ha) (kv_nul hb)) (kv_nul hc)
    | exact kv_addr (kv_addl (kv_nul ha) (kv_one hb)) (kv_nul hc)
    | exact kv_addr (kv_addl (kv_nul ha) (kv_m1 hb)) (kv_nul hc)
    | exact kv_addl (kv_addr (kv_nul ha) (kv_nul hb)) (kv_one hc)
    | exact kv_addl (kv_addr (kv_nul ha) (kv_nul hb)) (kv_m1 hc)
theorem move_zero {ax k i : Nat} (hi : i < 3) : qt ax k (9 + i) = 0 := by
  have h3 : i = 0 ∨ i = 1 ∨ i = 2 := by omega
  unfold qt
  rcases h3 with rfl | rfl | rfl <;> split <;> rfl
theorem point_key {ax k i a b c : Nat} {p q r : Int} (hax : ax < 3) (hk : k < 4) (hi : i < 3) (ha : KV a p) (hb : KV b q) (hc : KV c r) : KV (pointS (qt ax k) i a b c) (sgnI (rowQ ax k i).2 (sel3 (rowQ ax k i).1 p q r)) := by
  unfold pointS
  rw [move_zero hi]
  exact kv_addr (row_key hax hk hi ha hb hc) kv_zero

/-! ### The least and the greatest -/
theorem less_key {a b : Nat} {p q : Int} (ha : KV a p) (hb : KV b q) : KV (lessS a b) (min p q) := by
  unfold lessS
  rw [flt_key (fin_not_nan hb.fin) (fin_not_nan ha.fin), ha.key, hb.key]
  by_cases h : q < p
  · rw [decide_eq_true h, cond_true]; exact ⟨hb.fin, by rw [hb.key]; omega⟩
  · rw [decide_eq_false h, cond_false]; exact ⟨ha.fin, by rw [ha.key]; omega⟩
theorem more_key {a b : Nat} {p q : Int} (ha : KV a p) (hb : KV b q) : KV (moreS a b) (max p q) := by
  unfold moreS
  rw [fgt_key (fin_not_nan hb.fin) (fin_not_nan ha.fin), ha.key, hb.key]
  by_cases h : p < q
  · rw [decide_eq_true h, cond_true]; exact ⟨hb.fin, by rw [hb.key]; omega⟩
  · rw [decide_eq_false h, cond_false]; exact ⟨ha.fin, by rw [ha.key]; omega⟩
end Go.Proofs.YtfdfnnmgpjamdaiGreat
