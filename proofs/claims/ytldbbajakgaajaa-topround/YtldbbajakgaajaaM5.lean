/-
  Er2 Er3 Er4 Er5 Er6 Er7 Er8 Er9 Er10 Er11, one behind the other.
-/
import Derived.Test.YtldbbajakgaajaaM4
namespace Go.Ev

/-- The sum of X_i times the root's power (k * i * 2^(6-m) + t), by halves. -/
def gw (b : Bool) : Nat → (Nat → Int × Int) → Nat → Nat → Int × Int
  | 0, X, _, t => zmul (X 0) (ub b t)
  | m + 1, X, k, t => zadd (gw b m (fun i => X (2 * i)) k t) (gw b m (fun i => X (2 * i + 1)) k (t + k * 2 ^ (5 - m)))
/-- The weight of a row. -/
def wt : Nat → (Nat → Int × Int) → Nat
  | 0, X => (X 0).1.natAbs + (X 0).2.natAbs
  | m + 1, X => wt m (fun i => X (2 * i)) + wt m fun i => X (2 * i + 1)
theorem gw_per (b : Bool) : ∀ (m : Nat) (X : Nat → Int × Int) (k t r : Nat), gw b m X k (t + 64 * r) = gw b m X k t
  | 0, X, k, t, r => by unfold gw; rw [ub_per]
  | m + 1, X, k, t, r => by
    unfold gw
    rw [gw_per b m _ k t r, show t + 64 * r + k * 2 ^ (5 - m) = t + k * 2 ^ (5 - m) + 64 * r by omega, gw_per b m _ k _ r]
def zng (z : Int × Int) : Int × Int := (-z.1, -z.2)
theorem gw_neg (b : Bool) : ∀ (m : Nat) (X : Nat → Int × Int) (k t : Nat), gw b m X k (t + 32) = zng (gw b m X k t)
  | 0, X, k, t => by
    unfold gw
    rw [ub_neg]
    unfold zmul zng
    refine Prod.ext ?_ ?_ <;> dsimp only <;> rw [Int.mul_neg, Int.mul_neg] <;> omega
  | m + 1, X, k, t => by
    unfold gw
    rw [gw_neg b m _ k t, show t + 32 + k * 2 ^ (5 - m) = t + k * 2 ^ (5 - m) + 32 by omega, gw_neg b m _ k _]
    unfold zadd zng
    refine Prod.ext ?_ ?_ <;> dsimp only <;> omega
theorem gw_round (b : Bool) : ∀ (m : Nat), m ≤ 6 → ∀ (X : Nat → Int × Int) (k t r : Nat), gw b m X (k + 2 ^ m * r) t = gw b m X k t
  | 0, _, X, k, t, r => rfl
  | m + 1, hm, X, k, t, r => by
    unfold gw
    have e1 : k + 2 ^ (m + 1) * r = k + 2 ^ m * (2 * r) := by rw [Nat.pow_succ, Nat.mul_assoc]
    have e2 : t + (k + 2 ^ (m + 1) * r) * 2 ^ (5 - m) = t + k * 2 ^ (5 - m) + 64 * r := by
      rw [Nat.add_mul, Nat.mul_assoc, Nat.mul_comm r, ← Nat.mul_assoc, ← Nat.pow_add, show m + 1 + (5 - m) = 6 by omega]
      omega
    rw [e2, e1, gw_round b m (by omega) _ k t _, gw_round b m (by omega) _ k _ _, gw_per]
/-- The upper half. -/
theorem gw_half (b : Bool) {m : Nat} (hm : m < 6) (X : Nat → Int × Int) (k : Nat) : gw b (m + 1) X (k + 2 ^ m) 0 = zsub (gw b m (fun i => X (2 * i)) k 0) (gw b m (fun i => X (2 * i + 1)) k (k * 2 ^ (5 - m))) := by
  have e2 : 0 + (k + 2 ^ m) * 2 ^ (5 - m) = k * 2 ^ (5 - m) + 32 := by
    rw [Nat.add_mul, ← Nat.pow_add, show m + (5 - m) = 5 by omega]; omega
  have e1 : k + 2 ^ m = k + 2 ^ m * 1 := by rw [Nat.mul_one]
  have e0 : gw b (m + 1) X (k + 2 ^ m) 0 = zadd (gw b m (fun i => X (2 * i)) (k + 2 ^ m) 0) (gw b m (fun i => X (2 * i + 1)) (k + 2 ^ m) (0 + (k + 2 ^ m) * 2 ^ (5 - m))) := rfl
  rw [e0, e2, e1, gw_round b m (by omega) _ k 0 1, gw_round b m (by omega) _ k _ 1, gw_neg]
  unfold zadd zsub zng
  refine Prod.ext ?_ ?_ <;> dsimp only <;> omega
theorem gw_low (b : Bool) (m : Nat) (X : Nat → Int × Int) (k : Nat) : gw b (m + 1) X k 0 = zadd (gw b m (fun i => X (2 * i)) k 0) (gw b m (fun i => X (2 * i + 1)) k (k * 2 ^ (5 - m))) := by
  rw [gw, Nat.zero_add]
theorem mul_nat {x y : Int} {B : Nat} (h : y.natAbs ≤ B) : (x * y).natAbs ≤ x.natAbs * B := by rw [Int.natAbs_mul]; exact Nat.mul_le_mul_left _ h
/-- How great it is. -/
theorem gw_size (b : Bool) : ∀ (m : Nat) (X : Nat → Int × Int) (k t : Nat), (gw b m X k t).1.natAbs ≤ wt m X * 1152921504606846976 ∧ (gw b m X k t).2.natAbs ≤ wt m X * 1152921504606846976
  | 0, X, k, t => by
    unfold gw wt zmul
    obtain ⟨h1, h2⟩ := ub_size b t
    have a1 := mul_nat (x := (X 0).1) h1
    have a2 := mul_nat (x := (X 0).2) h2
    have a3 := mul_nat (x := (X 0).1) h2
    have a4 := mul_nat (x := (X 0).2) h1
    dsimp only
    rw [Nat.add_mul]
    omega
  | m + 1, X, k, t => by
    obtain ⟨h1, h2⟩ := gw_size b m (fun i => X (2 * i)) k t
    obtain ⟨h3, h4⟩ := gw_size b m (fun i => X (2 * i + 1)) k (t + k * 2 ^ (5 - m))
    unfold gw wt zadd
    dsimp only
    rw [Nat.add_mul]
    omega
/-- Times a power. -/
theorem gw_shift (b : Bool) (s : Nat) : ∀ (m : Nat) (X : Nat → Int × Int) (k t : Nat), ((zmul (ub b s) (gw b m X k t)).1 - uS * (gw b m X k (t + s)).1).natAbs ≤ wt m X * 2305843009213693952 ∧ ((zmul (ub b s) (gw b m X k t)).2 - uS * (gw b m X k (t + s)).2).natAbs ≤ wt m X * 2305843009213693952
  | 0, X, k, t => by
    obtain ⟨h1, h2⟩ := ub_mul b s t
    rw [Nat.mul_one] at h1 h2
    rw [Nat.add_comm s t] at h1 h2
    unfold gw wt
    unfold zmul at h1 h2 ⊢
    dsimp only at h1 h2 ⊢
    have a1 := mul_nat (x := (X 0).1) h1
    have a2 := mul_nat (x := (X 0).2) h2
    have a3 := mul_nat (x := (X 0).1) h2
    have a4 := mul_nat (x := (X 0).2) h1
    rw [Nat.add_mul]
    generalize (X 0).1 = x at *
    generalize (X 0).2 = y at *
    generalize (ub b s).1 = p at *
    generalize (ub b s).2 = q at *
    generalize (ub b t).1 = c at *
    generalize (ub b t).2 = d at *
    generalize (ub b (t + s)).1 = e at *
    generalize (ub b (t + s)).2 = f at *
    have e1 : p * (x * c - y * d) - q * (x * d + y * c) - uS * (x * e - y * f) = x * (p * c - q * d - uS * e) - y * (p * d + q * c - uS * f) := by grind
    have e2 : p * (x * d + y * c) + q * (x * c - y * d) - uS * (x * f + y * e) = x * (p * d + q * c - uS * f) + y * (p * c - q * d - uS * e) := by grind
    rw [e1, e2]
    omega
  | m + 1, X, k, t => by
    obtain ⟨h1, h2⟩ := gw_shift b s m (fun i => X (2 * i)) k t
    obtain ⟨h3, h4⟩ := gw_shift b s m (fun i => X (2 * i + 1)) k (t + k * 2 ^ (5 - m))
    rw [show t + k * 2 ^ (5 - m) + s = t + s + k * 2 ^ (5 - m) by omega] at h3 h4
    unfold gw wt
    unfold zmul at h1 h2 h3 h4 ⊢
    unfold zadd
    dsimp only at h1 h2 h3 h4 ⊢
    rw [Nat.add_mul]
    generalize gw b m (fun i => X (2 * i)) k t = A at *
    generalize gw b m (fun i => X (2 * i)) k (t + s) = A' at *
    generalize gw b m (fun i => X (2 * i + 1)) k (t + k * 2 ^ (5 - m)) = B at *
    generalize gw b m (fun i => X (2 * i + 1)) k (t + s + k * 2 ^ (5 - m)) = B' at *
    rw [Int.mul_add, Int.mul_add, Int.mul_add, Int.mul_add, Int.mul_add, Int.mul_add]
    omega
end Go.Ev

namespace Go.Ev

theorem abs_sub_tri {x y z : Int} {a b : Nat} (h1 : (x - y).natAbs ≤ a) (h2 : (y - z).natAbs ≤ b) : (x - z).natAbs ≤ a + b := by omega
theorem abs_cancel {d x : Int} {n : Nat} (hd : 0 < d) (h : (d * x).natAbs ≤ d.natAbs * n) : x.natAbs ≤ n := by
  rw [Int.natAbs_mul] at h
  exact Nat.le_of_mul_le_mul_left h (by omega)
theorem mul_nat' {x y : Int} {A B : Nat} (h1 : x.natAbs ≤ A) (h : y.natAbs ≤ B) : (x * y).natAbs ≤ A * B := by rw [Int.natAbs_mul]; exact Nat.mul_le_mul h1 h
/-- One part of one step. -/
theorem step_core {D S K P1 P2 O1 O2 E q y T1 T2 TE G U1 U2 : Int} {e r1 r2 w al : Nat} (hD : 0 < D) (hS : 0 < S)
    (h1 : (D * q - (P1 * O1 - P2 * O2)).natAbs ≤ D.natAbs * r1) (h2 : (y - (E + q)).natAbs ≤ r2) (hE : (K * E - D * TE).natAbs ≤ e) (hO1 : (K * O1 - D * T1).natAbs ≤ e) (hO2 : (K * O2 - D * T2).natAbs ≤ e)
    (hP : P1.natAbs + P2.natAbs ≤ 2 * D.natAbs) (hU1 : (S * P1 - D * U1).natAbs ≤ D.natAbs * al) (hU2 : (S * P2 - D * U2).natAbs ≤ D.natAbs * al) (hT1 : T1.natAbs ≤ w * S.natAbs) (hT2 : T2.natAbs ≤ w * S.natAbs)
    (hG : (U1 * T1 - U2 * T2 - S * G).natAbs ≤ w * (2 * S.natAbs)) : (K * y - D * (TE + G)).natAbs ≤ 3 * e + K.natAbs * (r1 + r2) + D.natAbs * (w * (2 * al + 2)) := by
  have a1 : (K * (D * q - (P1 * O1 - P2 * O2))).natAbs ≤ K.natAbs * (D.natAbs * r1) := mul_nat h1
  have b1 := mul_nat (x := P1) hO1
  have b2 := mul_nat (x := P2) hO2
  have b3 : P1.natAbs * e + P2.natAbs * e ≤ 2 * D.natAbs * e := by rw [← Nat.add_mul]; exact Nat.mul_le_mul_right _ hP
  have c1 : (K * q - (P1 * T1 - P2 * T2)).natAbs ≤ K.natAbs * r1 + 2 * e := by
    refine abs_cancel hD ?_
    have e1 : D * (K * q - (P1 * T1 - P2 * T2)) = K * (D * q - (P1 * O1 - P2 * O2)) + (P1 * (K * O1 - D * T1) - P2 * (K * O2 - D * T2)) := by grind
    have e2 : D.natAbs * (K.natAbs * r1 + 2 * e) = K.natAbs * (D.natAbs * r1) + 2 * D.natAbs * e := by grind
    rw [e1, e2]
    generalize K * (D * q - (P1 * O1 - P2 * O2)) = x1 at *
    generalize P1 * (K * O1 - D * T1) = x2 at *
    generalize P2 * (K * O2 - D * T2) = x3 at *
    generalize K.natAbs * (D.natAbs * r1) = n1 at *
    generalize P1.natAbs * e = n2 at *
    generalize P2.natAbs * e = n3 at *
    generalize 2 * D.natAbs * e = n4 at *
    omega
  have d1 := mul_nat' hU1 hT1
  have d2 := mul_nat' hU2 hT2
  have d3 : (D * (U1 * T1 - U2 * T2 - S * G)).natAbs ≤ D.natAbs * (w * (2 * S.natAbs)) := mul_nat hG
  have c2 : (P1 * T1 - P2 * T2 - D * G).natAbs ≤ D.natAbs * (w * (2 * al + 2)) := by
    refine abs_cancel hS ?_
    have e1 : S * (P1 * T1 - P2 * T2 - D * G) = (S * P1 - D * U1) * T1 - (S * P2 - D * U2) * T2 + D * (U1 * T1 - U2 * T2 - S * G) := by grind
    have e2 : S.natAbs * (D.natAbs * (w * (2 * al + 2))) = D.natAbs * al * (w * S.natAbs) + D.natAbs * al * (w * S.natAbs) + D.natAbs * (w * (2 * S.natAbs)) := by grind
    rw [e1, e2]
    generalize (S * P1 - D * U1) * T1 = x1 at *
    generalize (S * P2 - D * U2) * T2 = x2 at *
    generalize D * (U1 * T1 - U2 * T2 - S * G) = x3 at *
    generalize D.natAbs * al * (w * S.natAbs) = n1 at *
    generalize D.natAbs * (w * (2 * S.natAbs)) = n2 at *
    omega
  have f1 : (K * (y - (E + q))).natAbs ≤ K.natAbs * r2 := mul_nat h2
  have e3 : K * y - D * (TE + G) = K * (y - (E + q)) + (K * E - D * TE) + (K * q - (P1 * T1 - P2 * T2)) + (P1 * T1 - P2 * T2 - D * G) := by grind
  have e4 : 3 * e + K.natAbs * (r1 + r2) + D.natAbs * (w * (2 * al + 2)) = K.natAbs * r2 + e + (K.natAbs * r1 + 2 * e) + D.natAbs * (w * (2 * al + 2)) := by grind
  rw [e3, e4]
  generalize K * (y - (E + q)) = x1 at *
  generalize K * E - D * TE = x2 at *
  generalize K * q - (P1 * T1 - P2 * T2) = x3 at *
  generalize P1 * T1 - P2 * T2 - D * G = x4 at *
  generalize D.natAbs * (w * (2 * al + 2)) = n1 at *
  generalize K.natAbs * r1 = n2 at *
  generalize K.natAbs * r2 = n3 at *
  omega
end Go.Ev

namespace Go.Ev

def dD (c : Nat) : Int := ((2 ^ c : Nat) : Int)
theorem dD_pos (c : Nat) : 0 < dD c := by unfold dD; have := Nat.two_pow_pos c; omega
theorem dD_abs (c : Nat) : (dD c).natAbs = 2 ^ c := Int.natAbs_natCast _
theorem mulE {c j a x y : Nat} (hc : c = 1074) (hx : VB a (c - 3) x) (hy : VB 1 j y) (h0 : a ≠ 0) (ha : a ≤ 16) (hj : 60 ≤ j) (hj' : j ≤ 1900) : (dD c * val (fmul x y) - val x * val y).natAbs ≤ (dD c).natAbs * 2 ^ (j - 52) := by
  have hf := (vb_mul hc hx hy (k := j - 3) (by omega) h0 (by omega) (by omega) (by omega)).1
  have h := round_err (b := j + 1) (key_mul hc hx.1 hy.1).1 hf (Nat.two_pow_pos c) (by omega) (by
    rw [Int.natAbs_mul]
    refine Nat.le_trans (Nat.mul_le_mul hx.2 hy.2) ?_
    rw [Nat.one_mul, show c = 3 + (c - 3) by omega, Nat.pow_add 2 3, show 3 + (c - 3) - 3 = c - 3 by omega, Nat.pow_succ]
    generalize 2 ^ (c - 3) = A
    generalize 2 ^ j = B
    have : a * (A * B) ≤ 16 * (A * B) := Nat.mul_le_mul_right _ ha
    have e1 : a * A * B = a * (A * B) := Nat.mul_assoc _ _ _
    have e2 : B * 2 * (2 ^ 3 * A) = 16 * (A * B) := by grind
    omega)
  rw [show j + 1 - 53 = j - 52 by omega] at h
  rw [dD_abs, Nat.mul_comm (2 ^ c)]
  unfold dD
  rw [Int.mul_comm]
  exact h
theorem addE {a b i k x y : Nat} (hx : VB a i x) (hy : VB b i y) (h0 : a + b ≠ 0) (h : a + b < 2 ^ 53) (hi : 52 ≤ i) (hi' : i ≤ 2000) (hk : a + b ≤ 2 ^ k) (hb : 53 ≤ i + k) : (val (fadd x y) - (val x + val y)).natAbs ≤ 2 ^ (i + k - 53) := by
  have hf := (vb_add hx hy h0 h hi hi').1
  have := round_err (b := i + k) (key_add hx.1 hy.1).1 hf (by decide) hb (by
    have h1 := hx.2
    have h2 := hy.2
    have h3 : (a + b) * 2 ^ i ≤ 2 ^ k * 2 ^ i := Nat.mul_le_mul_right _ hk
    rw [Nat.mul_one, Nat.pow_add, Nat.mul_comm (2 ^ i)]
    rw [Nat.add_mul] at h3
    generalize a * 2 ^ i = A at *
    generalize b * 2 ^ i = B at *
    generalize 2 ^ k * 2 ^ i = C at *
    omega)
  rw [Nat.mul_one] at this
  have e : val (fadd x y) * ((1 : Nat) : Int) = val (fadd x y) := by omega
  rwa [e] at this
theorem subE {a b i k x y : Nat} (hx : VB a i x) (hy : VB b i y) (h0 : a + b ≠ 0) (h : a + b < 2 ^ 53) (hi : 52 ≤ i) (hi' : i ≤ 2000) (hk : a + b ≤ 2 ^ k) (hb : 53 ≤ i + k) : (val (fsub x y) - (val x - val y)).natAbs ≤ 2 ^ (i + k - 53) := by
  have hf := (vb_sub hx hy h0 h hi hi').1
  have := round_err (b := i + k) (key_sub hx.1 hy.1).1 hf (by decide) hb (by
    have h1 := hx.2
    have h2 := hy.2
    have h3 : (a + b) * 2 ^ i ≤ 2 ^ k * 2 ^ i := Nat.mul_le_mul_right _ hk
    rw [Nat.mul_one, Nat.pow_add, Nat.mul_comm (2 ^ i)]
    rw [Nat.add_mul] at h3
    generalize a * 2 ^ i = A at *
    generalize b * 2 ^ i = B at *
    generalize 2 ^ k * 2 ^ i = C at *
    omega)
  rw [Nat.mul_one] at this
  have e : val (fsub x y) * ((1 : Nat) : Int) = val (fsub x y) := by omega
  rwa [e] at this
/-- The product with a power. -/
theorem prodE {c j a b : Nat} {p o : CX} (hc : c = 1074) (hp : PB c p a b) (ho : CB j o) (hj : 60 ≤ j) (hj' : j ≤ 1900) :
    (dD c * val (cmul p o).1 - (val p.1 * val o.1 - val p.2 * val o.2)).natAbs ≤ (dD c).natAbs * (3 * 2 ^ (j - 52)) ∧ (dD c * val (cmul p o).2 - (val p.1 * val o.2 - -val p.2 * val o.1)).natAbs ≤ (dD c).natAbs * (3 * 2 ^ (j - 52)) := by
  have hs := hp.sum
  have hn := hp.ne
  have e : (j - 3) + c = (c - 3) + j := by omega
  have m1 := mulE hc hp.re ho.re hn.1 (by omega) hj hj'
  have m2 := mulE hc hp.im ho.im hn.2 (by omega) hj hj'
  have m3 := mulE hc hp.re ho.im hn.1 (by omega) hj hj'
  have m4 := mulE hc hp.im ho.re hn.2 (by omega) hj hj'
  have s1 := subE (k := 4) (vb_mul hc hp.re ho.re e hn.1 (by omega) (by omega) (by omega)) (vb_mul hc hp.im ho.im e hn.2 (by omega) (by omega) (by omega)) (by omega) (by omega) (by omega) (by omega) (by omega) (by omega)
  have s2 := addE (k := 4) (vb_mul hc hp.re ho.im e hn.1 (by omega) (by omega) (by omega)) (vb_mul hc hp.im ho.re e hn.2 (by omega) (by omega) (by omega)) (by omega) (by omega) (by omega) (by omega) (by omega) (by omega)
  rw [show j - 3 + 4 - 53 = j - 52 by omega] at s1 s2
  have t1 := mul_nat (x := dD c) s1
  have t2 := mul_nat (x := dD c) s2
  have e3 : (dD c).natAbs * (3 * 2 ^ (j - 52)) = 3 * ((dD c).natAbs * 2 ^ (j - 52)) := by grind
  rw [e3, Int.neg_mul]
  unfold cmul
  dsimp only
  rw [Int.mul_sub, Int.mul_sub] at t1
  rw [Int.mul_sub, Int.mul_add] at t2
  generalize (dD c).natAbs * 2 ^ (j - 52) = R at *
  generalize val p.1 * val o.1 = x1 at *
  generalize val p.2 * val o.2 = x2 at *
  generalize val p.1 * val o.2 = x3 at *
  generalize val p.2 * val o.1 = x4 at *
  generalize dD c * val (fmul p.1 o.1) = y1 at *
  generalize dD c * val (fmul p.2 o.2) = y2 at *
  generalize dD c * val (fmul p.1 o.2) = y3 at *
  generalize dD c * val (fmul p.2 o.1) = y4 at *
  omega
theorem sumE {c j a b : Nat} {p o e : CX} (hc : c = 1074) (hp : PB c p a b) (ho : CB j o) (he : CB j e) (hj : 60 ≤ j) (hj' : j ≤ 1900) :
    ((val (cadd e (cmul p o)).1 - (val e.1 + val (cmul p o).1)).natAbs ≤ 2 ^ (j - 51) ∧ (val (cadd e (cmul p o)).2 - (val e.2 + val (cmul p o).2)).natAbs ≤ 2 ^ (j - 51)) ∧
    ((val (csub e (cmul p o)).1 - (val e.1 - val (cmul p o).1)).natAbs ≤ 2 ^ (j - 51) ∧ (val (csub e (cmul p o)).2 - (val e.2 - val (cmul p o).2)).natAbs ≤ 2 ^ (j - 51)) := by
  obtain ⟨q1, q2⟩ := cb_q hc hp ho hj (by omega)
  have e1 := vb_8 (by omega) he.re
  have e2 := vb_8 (by omega) he.im
  have a1 := addE (k := 5) e1 q1 (by omega) (by omega) (by omega) (by omega) (by omega) (by omega)
  have a2 := addE (k := 5) e2 q2 (by omega) (by omega) (by omega) (by omega) (by omega) (by omega)
  have a3 := subE (k := 5) e1 q1 (by omega) (by omega) (by omega) (by omega) (by omega) (by omega)
  have a4 := subE (k := 5) e2 q2 (by omega) (by omega) (by omega) (by omega) (by omega) (by omega)
  rw [show j - 3 + 5 - 53 = j - 51 by omega] at a1 a2 a3 a4
  exact ⟨⟨a1, a2⟩, a3, a4⟩
end Go.Ev

namespace Go.Ev

/-- y is T (in units of 1 / K), but for e. -/
structure Ne (c : Nat) (K : Int) (e : Nat) (y : CX) (T : Int × Int) : Prop where
  f1 : isFin y.1 = true
  f2 : isFin y.2 = true
  re : (K * val y.1 - dD c * T.1).natAbs ≤ e
  im : (K * val y.2 - dD c * T.2).natAbs ≤ e
def er (R e0 : Nat) : Nat → Nat
  | 0 => e0
  | m + 1 => 3 * er R e0 m + R
theorem er_le (R e0 m : Nat) : er R e0 m ≤ er R e0 (m + 1) := by show _ ≤ 3 * er R e0 m + R; omega
theorem ne_vb {c j e w Wt E : Nat} {K v T : Int} {x : Nat} (hK : 0 < K) (hsz : 2 ^ c * (Wt * 1152921504606846976) + E ≤ K.natAbs * 2 ^ j) (hf : isFin x = true) (hv : v = val x) (h : (K * v - dD c * T).natAbs ≤ e) (hT : T.natAbs ≤ w * 1152921504606846976) (hw : w ≤ Wt) (he : e ≤ E) : VB 1 j x := by
  subst hv
  refine ⟨hf, ?_⟩
  rw [Nat.one_mul]
  have h1 : (dD c * T).natAbs ≤ 2 ^ c * (Wt * 1152921504606846976) := by
    rw [Int.natAbs_mul, dD_abs]
    exact Nat.mul_le_mul_left _ (Nat.le_trans hT (Nat.mul_le_mul_right _ hw))
  have h2 : (K * val x).natAbs ≤ K.natAbs * 2 ^ j := by omega
  rw [Int.natAbs_mul] at h2
  exact Nat.le_of_mul_le_mul_left h2 (by omega)
section
variable {c : Nat} (hc : c = 1074) {K : Int} (hK : 0 < K) {j R Wt E : Nat} (hj : 60 ≤ j) (hj' : j ≤ 1900) (hR : K.natAbs * (5 * 2 ^ (j - 52)) + 2 ^ c * (Wt * 4098) ≤ R) (hsz : 2 ^ c * (Wt * 1152921504606846976) + E ≤ K.natAbs * 2 ^ j)
include hc hK hj hj' hR hsz
theorem node_step {b : Bool} {m k e : Nat} (hm : m < 6) (hk : k < 2 ^ m) {Xe Xo : Nat → Int × Int} {ye yo : CX} (he : Ne c K e ye (gw b m Xe k 0)) (ho : Ne c K e yo (gw b m Xo k 0)) (hE : e ≤ E) (we : wt m Xe ≤ Wt) (wo : wt m Xo ≤ Wt) :
    Ne c K (3 * e + R) (cadd ye (cmul (pws (rtB b (m + 1)) k) yo)) (zadd (gw b m Xe k 0) (gw b m Xo k (k * 2 ^ (5 - m)))) ∧ Ne c K (3 * e + R) (csub ye (cmul (pws (rtB b (m + 1)) k) yo)) (zsub (gw b m Xe k 0) (gw b m Xo k (k * 2 ^ (5 - m)))) := by
  have hp := pall_at (w := rtB b (m + 1)) (q := 0) (pall_true b m hm) k hk
  rw [Nat.zero_add] at hp
  obtain ⟨u, v, hpb⟩ := pb_of hc hp
  obtain ⟨n1, n2⟩ := p_near hc b hm hk
  generalize pws (rtB b (m + 1)) k = p at *
  have se := gw_size b m Xe k 0
  have so := gw_size b m Xo k 0
  have ce : CB j ye := ⟨ne_vb hK hsz he.f1 rfl he.re se.1 we hE, ne_vb hK hsz he.f2 rfl he.im se.2 we hE⟩
  have co : CB j yo := ⟨ne_vb hK hsz ho.f1 rfl ho.re so.1 wo hE, ne_vb hK hsz ho.f2 rfl ho.im so.2 wo hE⟩
  obtain ⟨sh1, sh2⟩ := gw_shift b (k * 2 ^ (5 - m)) m Xo k 0
  rw [Nat.zero_add] at sh1 sh2
  obtain ⟨q1, q2⟩ := prodE hc hpb co hj hj'
  obtain ⟨⟨a1, a2⟩, a3, a4⟩ := sumE hc hpb co ce hj hj'
  obtain ⟨b1, b2⟩ := cb_add hc hpb co ce hj (by omega)
  have hD := dD_pos c
  have hS : (0 : Int) < uS := by decide
  have eS : uS.natAbs = 1152921504606846976 := by decide
  have hP : (val p.1).natAbs + (val p.2).natAbs ≤ 2 * (dD c).natAbs := by
    have h1 := hpb.re.2
    have h2 := hpb.im.2
    have h3 := Nat.mul_le_mul_right (2 ^ (c - 3)) hpb.sum
    have e1 : 2 ^ c = 8 * 2 ^ (c - 3) := by rw [show c = 3 + (c - 3) by omega, Nat.pow_add, show 3 + (c - 3) - 3 = c - 3 by omega]
    rw [Nat.add_mul] at h3
    rw [dD_abs, e1]
    generalize u * 2 ^ (c - 3) = A at *
    generalize v * 2 ^ (c - 3) = B at *
    generalize 2 ^ (c - 3) = C at *
    omega
  have hal : ∀ {x : Nat}, x ≤ 2 ^ (c + 11) → x ≤ (dD c).natAbs * 2 ^ 11 := fun h => by rw [dD_abs, ← Nat.pow_add]; exact h
  have hfin : 3 * e + K.natAbs * (3 * 2 ^ (j - 52) + 2 ^ (j - 51)) + (dD c).natAbs * (wt m Xo * (2 * 2 ^ 11 + 2)) ≤ 3 * e + R := by
    have h1 : (dD c).natAbs * (wt m Xo * (2 * 2 ^ 11 + 2)) ≤ 2 ^ c * (Wt * 4098) := by
      rw [dD_abs]
      exact Nat.mul_le_mul_left _ (Nat.mul_le_mul_right _ wo)
    have h2 : 3 * 2 ^ (j - 52) + 2 ^ (j - 51) = 5 * 2 ^ (j - 52) := by rw [show j - 51 = (j - 52) + 1 by omega, Nat.pow_succ]; omega
    rw [h2]
    omega
  have w2 : wt m Xo * 2305843009213693952 = wt m Xo * (2 * uS.natAbs) := by rw [eS]
  have s1 : (gw b m Xo k 0).1.natAbs ≤ wt m Xo * uS.natAbs := by rw [eS]; exact so.1
  have s2 : (gw b m Xo k 0).2.natAbs ≤ wt m Xo * uS.natAbs := by rw [eS]; exact so.2
  rw [w2] at sh1 sh2
  unfold zmul at sh1 sh2
  dsimp only at sh1 sh2
  have n2' : (uS * -val p.2 - dD c * -(ub b (k * 2 ^ (5 - m))).2).natAbs ≤ (dD c).natAbs * 2 ^ 11 := by
    rw [show uS * -val p.2 - dD c * -(ub b (k * 2 ^ (5 - m))).2 = -(uS * val p.2 - dD c * (ub b (k * 2 ^ (5 - m))).2) by rw [Int.mul_neg, Int.mul_neg]; omega, Int.natAbs_neg]
    exact hal n2
  have n1' : (uS * -val p.1 - dD c * -(ub b (k * 2 ^ (5 - m))).1).natAbs ≤ (dD c).natAbs * 2 ^ 11 := by
    rw [show uS * -val p.1 - dD c * -(ub b (k * 2 ^ (5 - m))).1 = -(uS * val p.1 - dD c * (ub b (k * 2 ^ (5 - m))).1) by rw [Int.mul_neg, Int.mul_neg]; omega, Int.natAbs_neg]
    exact hal n1
  constructor
  · refine ⟨b1.re.1, b1.im.1, Nat.le_trans ?_ hfin, Nat.le_trans ?_ hfin⟩
    · exact step_core hD hS q1 a1 he.re ho.re ho.im hP (hal n1) (hal n2) s1 s2 sh1
    · refine step_core (P2 := -val p.2) (U2 := -(ub b (k * 2 ^ (5 - m))).2) hD hS q2 a2 he.im ho.im ho.re (by rw [Int.natAbs_neg]; exact hP) (hal n1) n2' s2 s1 ?_
      rw [Int.neg_mul, Int.sub_neg]
      exact sh2
  · refine ⟨b2.re.1, b2.im.1, Nat.le_trans ?_ hfin, Nat.le_trans ?_ hfin⟩
    · have := step_core (q := -val (cmul p yo).1) (P1 := -val p.1) (P2 := -val p.2) (U1 := -(ub b (k * 2 ^ (5 - m))).1) (U2 := -(ub b (k * 2 ^ (5 - m))).2) (G := -(gw b m Xo k (k * 2 ^ (5 - m))).1) (r1 := 3 * 2 ^ (j - 52)) (r2 := 2 ^ (j - 51)) (y := val (csub ye (cmul p yo)).1) hD hS
        (by rw [show dD c * -val (cmul p yo).1 - (-val p.1 * val yo.1 - -val p.2 * val yo.2) = -(dD c * val (cmul p yo).1 - (val p.1 * val yo.1 - val p.2 * val yo.2)) by rw [Int.mul_neg, Int.neg_mul, Int.neg_mul]; omega, Int.natAbs_neg]; exact q1)
        (by rw [← Int.sub_eq_add_neg]; exact a3) he.re ho.re ho.im (by rw [Int.natAbs_neg, Int.natAbs_neg]; exact hP) n1' n2' s1 s2
        (by rw [show -(ub b (k * 2 ^ (5 - m))).1 * (gw b m Xo k 0).1 - -(ub b (k * 2 ^ (5 - m))).2 * (gw b m Xo k 0).2 - uS * -(gw b m Xo k (k * 2 ^ (5 - m))).1 = -((ub b (k * 2 ^ (5 - m))).1 * (gw b m Xo k 0).1 - (ub b (k * 2 ^ (5 - m))).2 * (gw b m Xo k 0).2 - uS * (gw b m Xo k (k * 2 ^ (5 - m))).1) by rw [Int.mul_neg, Int.neg_mul, Int.neg_mul]; omega, Int.natAbs_neg]; exact sh1)
      rw [← Int.sub_eq_add_neg] at this
      exact this
    · have := step_core (q := -val (cmul p yo).2) (P1 := -val p.1) (P2 := val p.2) (U1 := -(ub b (k * 2 ^ (5 - m))).1) (U2 := (ub b (k * 2 ^ (5 - m))).2) (G := -(gw b m Xo k (k * 2 ^ (5 - m))).2) (r1 := 3 * 2 ^ (j - 52)) (r2 := 2 ^ (j - 51)) (y := val (csub ye (cmul p yo)).2) hD hS
        (by rw [show dD c * -val (cmul p yo).2 - (-val p.1 * val yo.2 - val p.2 * val yo.1) = -(dD c * val (cmul p yo).2 - (val p.1 * val yo.2 - -val p.2 * val yo.1)) by rw [Int.mul_neg, Int.neg_mul, Int.neg_mul]; omega, Int.natAbs_neg]; exact q2)
        (by rw [← Int.sub_eq_add_neg]; exact a4) he.im ho.im ho.re (by rw [Int.natAbs_neg]; exact hP) n1' (hal n2) s2 s1
        (by rw [show -(ub b (k * 2 ^ (5 - m))).1 * (gw b m Xo k 0).2 - (ub b (k * 2 ^ (5 - m))).2 * (gw b m Xo k 0).1 - uS * -(gw b m Xo k (k * 2 ^ (5 - m))).2 = -((ub b (k * 2 ^ (5 - m))).1 * (gw b m Xo k 0).2 + (ub b (k * 2 ^ (5 - m))).2 * (gw b m Xo k 0).1 - uS * (gw b m Xo k (k * 2 ^ (5 - m))).2) by rw [Int.mul_neg, Int.neg_mul]; omega, Int.natAbs_neg]; exact sh2)
      rw [← Int.sub_eq_add_neg] at this
      exact this
/-- ALL OF IT. -/
theorem node_err (b : Bool) : ∀ m, m ≤ 6 → ∀ (X : Nat → Int × Int) (x : Nat → CX) (e0 : Nat), er R e0 m ≤ E → wt m X ≤ Wt → (∀ i, i < 2 ^ m → Ne c K e0 (x i) (zsc uS (X i))) → ∀ k, k < 2 ^ m → Ne c K (er R e0 m) (wv b m x k) (gw b m X k 0)
  | 0, _, X, x, e0, _, _, h, k, hk => by
    obtain rfl : k = 0 := by have : (2 : Nat) ^ 0 = 1 := rfl; omega
    have h0 := h 0 hk
    have e : gw b 0 X 0 0 = zsc uS (X 0) := by
      unfold gw zmul zsc
      have e0 : ub b 0 = (uS, 0) := by cases b <;> rfl
      rw [e0]
      refine Prod.ext ?_ ?_ <;> dsimp only
      · rw [Int.mul_zero, Int.sub_zero, Int.mul_comm]
      · rw [Int.mul_zero, Int.zero_add, Int.mul_comm]
    rw [e]
    exact h0
  | m + 1, hm, X, x, e0, hE, hw, h, k, hk => by
    have e2 : 2 ^ (m + 1) = 2 * 2 ^ m := by rw [Nat.pow_succ]; omega
    have hw' : wt m (fun i => X (2 * i)) + wt m (fun i => X (2 * i + 1)) ≤ Wt := hw
    have hl := er_le R e0 m
    have ih1 := node_err b m (by omega) (fun i => X (2 * i)) (fun i => x (2 * i)) e0 (by omega) (by omega) fun i hi => h _ (by omega)
    have ih2 := node_err b m (by omega) (fun i => X (2 * i + 1)) (fun i => x (2 * i + 1)) e0 (by omega) (by omega) fun i hi => h _ (by omega)
    unfold wv
    cases hb : Nat.blt k (2 ^ m) with
    | true =>
      have hk' : k < 2 ^ m := Nat.le_of_ble_eq_true hb
      rw [cond_true, gw_low]
      exact (node_step hc hK hj hj' hR hsz (by omega) hk' (ih1 k hk') (ih2 k hk') (by omega) (by omega) (by omega)).1
    | false =>
      have hge : 2 ^ m ≤ k := Nat.le_of_not_lt fun hc' => by rw [show Nat.blt k (2 ^ m) = true from Nat.ble_eq_true_of_le hc'] at hb; cases hb
      have hk' : k - 2 ^ m < 2 ^ m := by omega
      rw [cond_false]
      have := (node_step hc hK hj hj' hR hsz (by omega) hk' (ih1 _ hk') (ih2 _ hk') (by omega) (by omega) (by omega)).2
      rw [← gw_half b (by omega) X (k - 2 ^ m), show k - 2 ^ m + 2 ^ m = k by omega] at this
      exact this
end
end Go.Ev

namespace Go.Ev

theorem er_scale (P R e : Nat) : ∀ m, er (P * R) (P * e) m = P * er R e m
  | 0 => rfl
  | m + 1 => by
    show 3 * er (P * R) (P * e) m + P * R = P * (3 * er R e m + R)
    rw [er_scale P R e m]; grind
theorem wt_le (B : Nat) : ∀ (m : Nat) (X : Nat → Int × Int), (∀ i, i < 2 ^ m → (X i).1.natAbs + (X i).2.natAbs ≤ B) → wt m X ≤ 2 ^ m * B
  | 0, X, h => by have := h 0 (by decide); unfold wt; omega
  | m + 1, X, h => by
    have e2 : 2 ^ (m + 1) = 2 * 2 ^ m := by rw [Nat.pow_succ]; omega
    have h1 := wt_le B m (fun i => X (2 * i)) fun i hi => h _ (by omega)
    have h2 := wt_le B m (fun i => X (2 * i + 1)) fun i hi => h _ (by omega)
    unfold wt
    rw [e2, Nat.mul_assoc, Nat.two_mul]
    omega
theorem eS : uS.natAbs = 2 ^ 60 := by decide
theorem eSn : 1152921504606846976 = 2 ^ 60 := by decide
def fX (a : Nat → Int) (i : Nat) : Int × Int := (a i, 0)
/-- There. -/
theorem forth_err {c : Nat} (hc : c = 1074) {m : Nat} (hm : m ≤ 6) {a : Nat → Int} {x : Nat → CX} (ha : ∀ i, i < 2 ^ m → 0 ≤ a i ∧ a i ≤ 255) (hx : ∀ i, i < 2 ^ m → Wh c (x i).1 (a i) ∧ Wh c (x i).2 0) {k : Nat} (hk : k < 2 ^ m) :
    Ne c uS (2 ^ c * 2 ^ 36) (wv false m x k) (gw false m (fX a) k 0) ∧ wt m (fX a) ≤ 2 ^ 14 := by
  have hp : 2 ^ m ≤ 64 := Nat.le_trans (Nat.pow_le_pow_right (by decide) hm) (by decide)
  have hw : wt m (fX a) ≤ 2 ^ 14 := by
    have := wt_le 255 m (fX a) fun i hi => by
      obtain ⟨h1, h2⟩ := ha i hi
      show (a i).natAbs + (0 : Int).natAbs ≤ 255
      have : (0 : Int).natAbs = 0 := rfl
      omega
    have e : (2 : Nat) ^ 14 = 16384 := by decide
    have := Nat.mul_le_mul_right 255 hp
    omega
  refine ⟨?_, hw⟩
  have her : ∀ m, m ≤ 6 → er (2 ^ 27) 0 m ≤ 2 ^ 36 := by decide
  have he : er (2 ^ c * 2 ^ 27) 0 m ≤ 2 ^ c * 2 ^ 36 := by
    have := er_scale (2 ^ c) (2 ^ 27) 0 m
    rw [Nat.mul_zero] at this
    rw [this]
    exact Nat.mul_le_mul_left _ (her m hm)
  have := node_err hc (K := uS) (by decide) (j := c + 15) (R := 2 ^ c * 2 ^ 27) (Wt := 2 ^ 14) (E := 2 ^ c * 2 ^ 36) (by omega) (by omega) (by
      rw [eS, show c + 15 - 52 = c - 37 by omega]
      have e1 : 2 ^ c = 2 ^ 37 * 2 ^ (c - 37) := by rw [← Nat.pow_add]; congr 1; omega
      rw [e1]
      generalize 2 ^ (c - 37) = P
      omega) (by
      rw [eS, eSn, Nat.pow_add]
      generalize 2 ^ c = P
      omega) false m hm (fX a) x 0 he hw (fun i hi => by
      obtain ⟨h1, h2⟩ := hx i hi
      refine ⟨h1.fin, h2.fin, ?_, ?_⟩
      · rw [h1.val]
        show (uS * (a i * ((2 ^ c : Nat) : Int)) - ((2 ^ c : Nat) : Int) * (uS * a i)).natAbs ≤ 0
        rw [show uS * (a i * ((2 ^ c : Nat) : Int)) - ((2 ^ c : Nat) : Int) * (uS * a i) = 0 by grind]
        exact Nat.le_refl _
      · rw [h2.val]
        show (uS * (0 * ((2 ^ c : Nat) : Int)) - ((2 ^ c : Nat) : Int) * (uS * 0)).natAbs ≤ 0
        rw [Int.zero_mul, Int.mul_zero, Int.mul_zero]
        exact Nat.le_refl _) k hk
  exact ⟨this.f1, this.f2, Nat.le_trans this.re he, Nat.le_trans this.im he⟩
/-! ### Products -/
theorem mulE2 {c j x y : Nat} (hc : c = 1074) (hx : VB 1 j x) (hy : VB 1 j y) (hj : c + 10 ≤ j) (hj' : j ≤ c + 100) : (dD c * val (fmul x y) - val x * val y).natAbs ≤ (dD c).natAbs * 2 ^ (j + j - c - 53) := by
  have hf := (vb_mul hc hx hy (k := j + j - c) (by omega) (by decide) (by decide) (by omega) (by omega)).1
  have h := round_err (b := j + j - c) (key_mul hc hx.1 hy.1).1 hf (Nat.two_pow_pos c) (by omega) (by
    rw [Int.natAbs_mul, ← Nat.pow_add, show j + j - c + c = j + j by omega, Nat.pow_add]
    have h1 := hx.2
    have h2 := hy.2
    rw [Nat.one_mul] at h1 h2
    exact Nat.mul_le_mul h1 h2)
  rw [dD_abs, Nat.mul_comm (2 ^ c)]
  unfold dD
  rw [Int.mul_comm]
  exact h
theorem pair_err {D S a b al be : Int} {M e : Nat} (ha : (S * a - D * al).natAbs ≤ e) (hb : (S * b - D * be).natAbs ≤ e) (hA : al.natAbs ≤ M) (hB : be.natAbs ≤ M) (he : e ≤ D.natAbs * M) : (S * S * (a * b) - D * D * (al * be)).natAbs ≤ D.natAbs * (3 * (M * e)) := by
  have h1 : (D * be).natAbs ≤ D.natAbs * M := by rw [Int.natAbs_mul]; exact Nat.mul_le_mul_left _ hB
  have h2 : (S * b).natAbs ≤ 2 * (D.natAbs * M) := by omega
  have h3 := mul_nat' ha h2
  have h4 : (D * al).natAbs ≤ D.natAbs * M := by rw [Int.natAbs_mul]; exact Nat.mul_le_mul_left _ hA
  have h5 := mul_nat' h4 hb
  have e1 : S * S * (a * b) - D * D * (al * be) = (S * a - D * al) * (S * b) + D * al * (S * b - D * be) := by grind
  have e2 : D.natAbs * (3 * (M * e)) = e * (2 * (D.natAbs * M)) + D.natAbs * M * e := by grind
  rw [e1, e2]
  omega
end Go.Ev

namespace Go.Ev

def uS3 : Int := uS * uS * uS
theorem uS3_abs : uS3.natAbs = 2 ^ 180 := by decide
theorem uS3_pos : 0 < uS3 := by decide
theorem eM (c : Nat) : (dD c).natAbs = 2 ^ c := dD_abs c
/-- One part of a product. -/
theorem part_err {D S a1 b1 a2 b2 al1 be1 al2 be2 z : Int} {M e r : Nat} (hD : 0 < D) (hz : (D * z - (a1 * b1 - a2 * b2)).natAbs ≤ D.natAbs * r) (h1 : (S * a1 - D * al1).natAbs ≤ e) (h2 : (S * b1 - D * be1).natAbs ≤ e) (h3 : (S * a2 - D * al2).natAbs ≤ e) (h4 : (S * b2 - D * be2).natAbs ≤ e)
    (m1 : al1.natAbs ≤ M) (m2 : be1.natAbs ≤ M) (m3 : al2.natAbs ≤ M) (m4 : be2.natAbs ≤ M) (he : e ≤ D.natAbs * M) : (S * S * S * z - D * (S * (al1 * be1 - al2 * be2))).natAbs ≤ S.natAbs * ((S * S).natAbs * r + 6 * (M * e)) := by
  have p1 := pair_err h1 h2 m1 m2 he
  have p2 := pair_err h3 h4 m3 m4 he
  have p3 := mul_nat (x := S * S) hz
  have c1 : (S * S * z - D * (al1 * be1 - al2 * be2)).natAbs ≤ (S * S).natAbs * r + 6 * (M * e) := by
    refine abs_cancel hD ?_
    have e1 : D * (S * S * z - D * (al1 * be1 - al2 * be2)) = S * S * (D * z - (a1 * b1 - a2 * b2)) + (S * S * (a1 * b1) - D * D * (al1 * be1)) - (S * S * (a2 * b2) - D * D * (al2 * be2)) := by grind
    have e2 : D.natAbs * ((S * S).natAbs * r + 6 * (M * e)) = (S * S).natAbs * (D.natAbs * r) + D.natAbs * (3 * (M * e)) + D.natAbs * (3 * (M * e)) := by grind
    rw [e1, e2]
    generalize S * S * (D * z - (a1 * b1 - a2 * b2)) = x1 at *
    generalize S * S * (a1 * b1) - D * D * (al1 * be1) = x2 at *
    generalize S * S * (a2 * b2) - D * D * (al2 * be2) = x3 at *
    generalize (S * S).natAbs * (D.natAbs * r) = n1 at *
    generalize D.natAbs * (3 * (M * e)) = n2 at *
    omega
  have e3 : S * S * S * z - D * (S * (al1 * be1 - al2 * be2)) = S * (S * S * z - D * (al1 * be1 - al2 * be2)) := by grind
  rw [e3]
  exact mul_nat c1
theorem num1 {c : Nat} (hc : c = 1074) : uS.natAbs * ((uS * uS).natAbs * 2 ^ (c - 21) + 6 * (2 ^ 74 * (2 ^ c * 2 ^ 36))) ≤ 2 ^ c * 2 ^ 173 := by
  rw [eS, show (uS * uS).natAbs = 2 ^ 120 by decide]
  have e1 : 2 ^ c = 2 ^ 21 * 2 ^ (c - 21) := by rw [← Nat.pow_add]; congr 1; omega
  rw [e1]
  generalize 2 ^ (c - 21) = P
  omega
theorem prod_err {c : Nat} (hc : c = 1074) {A B : CX} {TA TB : Int × Int} (hA : Ne c uS (2 ^ c * 2 ^ 36) A TA) (hB : Ne c uS (2 ^ c * 2 ^ 36) B TB) (a1 : TA.1.natAbs ≤ 2 ^ 74) (a2 : TA.2.natAbs ≤ 2 ^ 74) (b1 : TB.1.natAbs ≤ 2 ^ 74) (b2 : TB.2.natAbs ≤ 2 ^ 74) :
    Ne c uS3 (2 ^ c * 2 ^ 173) (cmul A B) (zsc uS (zmul TA TB)) := by
  have hsz : 2 ^ c * (2 ^ 14 * 1152921504606846976) + 2 ^ c * 2 ^ 36 ≤ uS.natAbs * 2 ^ (c + 15) := by
    rw [eS, eSn, Nat.pow_add]
    generalize 2 ^ c = P
    omega
  have e74 : (2 : Nat) ^ 74 = 2 ^ 14 * 1152921504606846976 := by decide
  have cA : CB (c + 15) A := ⟨ne_vb (by decide) hsz hA.f1 rfl hA.re (by rw [← e74]; exact a1) (Nat.le_refl _) (Nat.le_refl _), ne_vb (by decide) hsz hA.f2 rfl hA.im (by rw [← e74]; exact a2) (Nat.le_refl _) (Nat.le_refl _)⟩
  have cB : CB (c + 15) B := ⟨ne_vb (by decide) hsz hB.f1 rfl hB.re (by rw [← e74]; exact b1) (Nat.le_refl _) (Nat.le_refl _), ne_vb (by decide) hsz hB.f2 rfl hB.im (by rw [← e74]; exact b2) (Nat.le_refl _) (Nat.le_refl _)⟩
  have hk : c + 30 + c = c + 15 + (c + 15) := by omega
  have v11 := vb_mul hc cA.re cB.re hk (by decide) (by decide) (by omega) (by omega)
  have v22 := vb_mul hc cA.im cB.im hk (by decide) (by decide) (by omega) (by omega)
  have v12 := vb_mul hc cA.re cB.im hk (by decide) (by decide) (by omega) (by omega)
  have v21 := vb_mul hc cA.im cB.re hk (by decide) (by decide) (by omega) (by omega)
  have m11 := mulE2 hc cA.re cB.re (by omega) (by omega)
  have m22 := mulE2 hc cA.im cB.im (by omega) (by omega)
  have m12 := mulE2 hc cA.re cB.im (by omega) (by omega)
  have m21 := mulE2 hc cA.im cB.re (by omega) (by omega)
  rw [show c + 15 + (c + 15) - c - 53 = c - 23 by omega] at m11 m22 m12 m21
  have s1 := mul_nat (x := dD c) (subE (k := 1) v11 v22 (by decide) (by decide) (by omega) (by omega) (by decide) (by omega))
  have s2 := mul_nat (x := dD c) (addE (k := 1) v12 v21 (by decide) (by decide) (by omega) (by omega) (by decide) (by omega))
  rw [show c + 30 + 1 - 53 = c - 22 by omega] at s1 s2
  have e23 : (dD c).natAbs * 2 ^ (c - 22) = 2 * ((dD c).natAbs * 2 ^ (c - 23)) := by rw [show c - 22 = (c - 23) + 1 by omega, Nat.pow_succ]; grind
  have e21 : (dD c).natAbs * 2 ^ (c - 21) = 4 * ((dD c).natAbs * 2 ^ (c - 23)) := by rw [show c - 21 = (c - 23) + 2 by omega, Nat.pow_add]; grind
  rw [e23] at s1 s2
  have q1 : (dD c * val (cmul A B).1 - (val A.1 * val B.1 - val A.2 * val B.2)).natAbs ≤ (dD c).natAbs * 2 ^ (c - 21) := by
    rw [e21]
    unfold cmul
    dsimp only
    rw [Int.mul_sub, Int.mul_sub] at s1
    generalize (dD c).natAbs * 2 ^ (c - 23) = R at *
    generalize val A.1 * val B.1 = x1 at *
    generalize val A.2 * val B.2 = x2 at *
    generalize dD c * val (fmul A.1 B.1) = y1 at *
    generalize dD c * val (fmul A.2 B.2) = y2 at *
    omega
  have q2 : (dD c * val (cmul A B).2 - (val A.1 * val B.2 - -val A.2 * val B.1)).natAbs ≤ (dD c).natAbs * 2 ^ (c - 21) := by
    rw [e21, Int.neg_mul]
    unfold cmul
    dsimp only
    rw [Int.mul_sub, Int.mul_add] at s2
    generalize (dD c).natAbs * 2 ^ (c - 23) = R at *
    generalize val A.1 * val B.2 = x1 at *
    generalize val A.2 * val B.1 = x2 at *
    generalize dD c * val (fmul A.1 B.2) = y1 at *
    generalize dD c * val (fmul A.2 B.1) = y2 at *
    omega
  have he : 2 ^ c * 2 ^ 36 ≤ (dD c).natAbs * 2 ^ 74 := by rw [dD_abs]; exact Nat.mul_le_mul_left _ (by decide)
  refine ⟨(vb_sub v11 v22 (by decide) (by decide) (by omega) (by omega)).1, (vb_add v12 v21 (by decide) (by decide) (by omega) (by omega)).1, ?_, ?_⟩
  · exact Nat.le_trans (part_err (dD_pos c) q1 hA.re hB.re hA.im hB.im a1 b1 a2 b2 he) (num1 hc)
  · have h := part_err (a2 := -val A.2) (al2 := -TA.2) (S := uS) (dD_pos c) q2 hA.re hB.im (by
      rw [show uS * -val A.2 - dD c * -TA.2 = -(uS * val A.2 - dD c * TA.2) by rw [Int.mul_neg, Int.mul_neg]; omega, Int.natAbs_neg]
      exact hA.im) hB.re a1 b2 (by rw [Int.natAbs_neg]; exact a2) b1 he
    rw [Int.neg_mul, Int.sub_neg] at h
    exact Nat.le_trans h (num1 hc)
/-- And back. -/
theorem back_err {c : Nat} (hc : c = 1074) {m : Nat} (hm : m ≤ 6) {C : Nat → CX} {TC : Nat → Int × Int} (hC : ∀ i, i < 2 ^ m → Ne c uS3 (2 ^ c * 2 ^ 173) (C i) (zsc uS (TC i))) (hT : ∀ i, i < 2 ^ m → (TC i).1.natAbs + (TC i).2.natAbs ≤ 2 ^ 150) {q : Nat} (hq : q < 2 ^ m) :
    Ne c uS3 (2 ^ c * 2 ^ (178 + m)) (wv true m C q) (gw true m TC q 0) := by
  have hp : 2 ^ m ≤ 64 := Nat.le_trans (Nat.pow_le_pow_right (by decide) hm) (by decide)
  have hw : wt m TC ≤ 2 ^ 156 := Nat.le_trans (wt_le _ m TC hT) (Nat.le_trans (Nat.mul_le_mul_right _ hp) (by decide))
  have her : ∀ m, m ≤ 6 → er (2 ^ 169) (2 ^ 173) m ≤ 2 ^ (178 + m) := by decide
  have hE : ∀ m, m ≤ 6 → 2 ^ (178 + m) ≤ 2 ^ 200 := by decide
  have he : er (2 ^ c * 2 ^ 169) (2 ^ c * 2 ^ 173) m ≤ 2 ^ c * 2 ^ (178 + m) := by
    rw [er_scale]
    exact Nat.mul_le_mul_left _ (her m hm)
  have := node_err hc (K := uS3) uS3_pos (j := c + 37) (R := 2 ^ c * 2 ^ 169) (Wt := 2 ^ 156) (E := 2 ^ c * 2 ^ 200) (by omega) (by omega) (by
      rw [uS3_abs, show c + 37 - 52 = c - 15 by omega]
      have e1 : 2 ^ c = 2 ^ 15 * 2 ^ (c - 15) := by rw [← Nat.pow_add]; congr 1; omega
      rw [e1]
      generalize 2 ^ (c - 15) = P
      omega) (by
      rw [uS3_abs, eSn, Nat.pow_add]
      generalize 2 ^ c = P
      omega) true m hm TC C (2 ^ c * 2 ^ 173) (Nat.le_trans he (Nat.mul_le_mul_left _ (hE m hm))) hw hC q hq
  exact ⟨this.f1, this.f2, Nat.le_trans this.re he, Nat.le_trans this.im he⟩
end Go.Ev

namespace Go.Ev

def si : Nat → (Nat → Int) → Int
  | 0, _ => 0
  | n + 1, f => si n f + f n
theorem si_congr {f g : Nat → Int} : ∀ {n : Nat}, (∀ i, i < n → f i = g i) → si n f = si n g
  | 0, _ => rfl
  | n + 1, h => by unfold si; rw [si_congr fun i hi => h i (by omega), h n (by omega)]
theorem si_add (f g : Nat → Int) : ∀ n, si n (fun i => f i + g i) = si n f + si n g
  | 0 => rfl
  | n + 1 => by show si n (fun i => f i + g i) + (f n + g n) = si n f + f n + (si n g + g n); rw [si_add f g n]; omega
theorem si_mul (a : Int) (f : Nat → Int) : ∀ n, si n (fun i => a * f i) = a * si n f
  | 0 => by unfold si; rw [Int.mul_zero]
  | n + 1 => by unfold si; rw [si_mul a f n, Int.mul_add]
theorem si_zero : ∀ n, si n (fun _ => 0) = 0
  | 0 => rfl
  | n + 1 => by unfold si; rw [si_zero n]; rfl
theorem si_comm (f : Nat → Nat → Int) (m : Nat) : ∀ n, si n (fun i => si m fun j => f i j) = si m fun j => si n fun i => f i j
  | 0 => (si_zero m).symm
  | n + 1 => by
    rw [show si (n + 1) (fun i => si m fun j => f i j) = si n (fun i => si m fun j => f i j) + si m (fun j => f n j) from rfl, si_comm f m n, ← si_add]
    rfl
theorem si_two (f : Nat → Int) : ∀ n, si (2 * n) f = si n (fun i => f (2 * i)) + si n fun i => f (2 * i + 1)
  | 0 => rfl
  | n + 1 => by
    rw [show 2 * (n + 1) = 2 * n + 1 + 1 by omega]
    show si (2 * n) f + f (2 * n) + f (2 * n + 1) = si n (fun i => f (2 * i)) + f (2 * n) + (si n (fun i => f (2 * i + 1)) + f (2 * n + 1))
    rw [si_two f n]
    omega
theorem si_near {f g : Nat → Int} {B : Nat → Nat} : ∀ {n : Nat}, (∀ i, i < n → (f i - g i).natAbs ≤ B i) → (si n f - si n g).natAbs ≤ (si n fun i => (B i : Int)).natAbs
  | 0, _ => Nat.le_refl _
  | n + 1, h => by
    have h1 := si_near (n := n) fun i hi => h i (by omega)
    have h2 := h n (by omega)
    have hp : ∀ n, 0 ≤ si n fun i => (B i : Int) := fun n => by
      induction n with
      | zero => exact Int.le_refl _
      | succ n ih => show 0 ≤ si n (fun i => (B i : Int)) + (B n : Int); omega
    have h3 := hp n
    show (si n f + f n - (si n g + g n)).natAbs ≤ (si n (fun i => (B i : Int)) + (B n : Int)).natAbs
    omega
theorem si_const (B : Nat) : ∀ n, si n (fun _ => (B : Int)) = ((n * B : Nat) : Int)
  | 0 => by rw [Nat.zero_mul]; rfl
  | n + 1 => by show si n (fun _ => (B : Int)) + (B : Int) = _; rw [si_const B n, Nat.add_mul]; omega
theorem si_nearB {f g : Nat → Int} {B n : Nat} (h : ∀ i, i < n → (f i - g i).natAbs ≤ B) : (si n f - si n g).natAbs ≤ n * B := by
  have := si_near (B := fun _ => B) h
  rwa [si_const, Int.natAbs_natCast] at this
/-- The exact waves, as sums. -/
theorem gw_sum (b : Bool) : ∀ (m : Nat), m ≤ 6 → ∀ (X : Nat → Int × Int) (k t : Nat), (gw b m X k t).1 = si (2 ^ m) (fun i => (zmul (X i) (ub b (k * i * 2 ^ (6 - m) + t))).1) ∧ (gw b m X k t).2 = si (2 ^ m) fun i => (zmul (X i) (ub b (k * i * 2 ^ (6 - m) + t))).2
  | 0, _, X, k, t => by
    have e : k * 0 * 2 ^ (6 - 0) + t = t := by omega
    constructor
    · show (zmul (X 0) (ub b t)).1 = 0 + (zmul (X 0) (ub b (k * 0 * 2 ^ (6 - 0) + t))).1
      rw [e]; omega
    · show (zmul (X 0) (ub b t)).2 = 0 + (zmul (X 0) (ub b (k * 0 * 2 ^ (6 - 0) + t))).2
      rw [e]; omega
  | m + 1, hm, X, k, t => by
    obtain ⟨h1, h2⟩ := gw_sum b m (by omega) (fun i => X (2 * i)) k t
    obtain ⟨h3, h4⟩ := gw_sum b m (by omega) (fun i => X (2 * i + 1)) k (t + k * 2 ^ (5 - m))
    have e2 : 2 ^ (m + 1) = 2 * 2 ^ m := by rw [Nat.pow_succ]; omega
    have e6 : 2 ^ (6 - m) = 2 * 2 ^ (5 - m) := by rw [show 6 - m = (5 - m) + 1 by omega, Nat.pow_succ]; omega
    have e5 : 6 - (m + 1) = 5 - m := by omega
    have i1 : ∀ i, k * (2 * i) * 2 ^ (5 - m) + t = k * i * 2 ^ (6 - m) + t := fun i => by rw [e6]; grind
    have i2 : ∀ i, k * (2 * i + 1) * 2 ^ (5 - m) + t = k * i * 2 ^ (6 - m) + (t + k * 2 ^ (5 - m)) := fun i => by rw [e6]; grind
    rw [e2, e5, si_two, si_two]
    simp only [i1, i2]
    rw [← h1, ← h2, ← h3, ← h4]
    exact ⟨rfl, rfl⟩
/-! ### Sums of roots -/
def orB (m r : Nat) : Bool := si (2 ^ m) (fun k => (u (k * 2 ^ (6 - m) * r)).1) == cond (r == 0) (((2 ^ m : Nat) : Int) * uS) 0
theorem or_all : ((List.range 7).all fun m => (List.range (2 ^ m)).all fun r => orB m r) = true := by decide +kernel
theorem root_sum {m : Nat} (hm : m ≤ 6) (r : Nat) : si (2 ^ m) (fun k => (u (k * 2 ^ (6 - m) * r)).1) = cond (r % 2 ^ m == 0) (((2 ^ m : Nat) : Int) * uS) 0 := by
  have h1 := List.all_eq_true.1 or_all m (List.mem_range.2 (by omega))
  have h2 := List.all_eq_true.1 h1 (r % 2 ^ m) (List.mem_range.2 (Nat.mod_lt _ (Nat.two_pow_pos m)))
  have h3 := eq_of_beq h2
  rw [← h3]
  refine si_congr fun k _ => ?_
  rw [u_mod, u_mod (k * 2 ^ (6 - m) * (r % 2 ^ m))]
  congr 2
  have e : 64 = 2 ^ (6 - m) * 2 ^ m := by rw [← Nat.pow_add, show 6 - m + m = 6 by omega]
  have hr := Nat.div_add_mod r (2 ^ m)
  have e2 : k * 2 ^ (6 - m) * r = k * 2 ^ (6 - m) * (r % 2 ^ m) + 64 * (k * (r / 2 ^ m)) := by
    rw [e]
    generalize 2 ^ (6 - m) = A at *
    generalize 2 ^ m = B at *
    generalize r % B = s at *
    generalize r / B = d at *
    rw [← hr]
    grind
  rw [e2, Nat.add_mul_mod_self_left]
end Go.Ev

namespace Go.Ev

/-- What is spread, going round. -/
def conv (n : Nat) (a b : Nat → Int) (q : Nat) : Int := si n fun s => si n fun t => cond ((s + t + 63 * q) % n == 0) (a s * b t) 0
def tri (k s t q h : Nat) : Int := (zmul (zmul (u (k * s * h)) (u (k * t * h))) (zcj (u (k * q * h)))).1
theorem tri_near (k s t q h : Nat) : (tri k s t q h - uS * uS * (u (k * h * (s + t + 63 * q))).1).natAbs ≤ 6 * 2 ^ 120 := by
  have hcj : zcj (u (k * q * h)) = u (63 * (k * q * h)) := (u_cj (by omega)).symm
  obtain ⟨d1, d2⟩ := ub_mul false (k * s * h) (k * t * h)
  obtain ⟨f1, _⟩ := ub_mul false (k * s * h + k * t * h) (63 * (k * q * h))
  obtain ⟨z1, z2⟩ := ub_size false (63 * (k * q * h))
  have ei : k * s * h + k * t * h + 63 * (k * q * h) = k * h * (s + t + 63 * q) := by grind
  rw [ei] at f1
  unfold tri
  rw [hcj]
  unfold ub at *
  simp only [cond_false] at *
  unfold zmul at *
  dsimp only at *
  rw [Nat.mul_one] at *
  generalize u (k * s * h) = x at *
  generalize u (k * t * h) = y at *
  generalize u (k * s * h + k * t * h) = w at *
  generalize u (63 * (k * q * h)) = v at *
  generalize (u (k * h * (s + t + 63 * q))).1 = g at *
  have m1 := mul_nat' d1 z1
  have m2 := mul_nat' d2 z2
  have m3 := mul_nat (x := uS) f1
  have e : (x.1 * y.1 - x.2 * y.2) * v.1 - (x.1 * y.2 + x.2 * y.1) * v.2 - uS * uS * g = (x.1 * y.1 - x.2 * y.2 - uS * w.1) * v.1 - (x.1 * y.2 + x.2 * y.1 - uS * w.2) * v.2 + uS * (w.1 * v.1 - w.2 * v.2 - uS * g) := by grind
  rw [e]
  have e1 : uS.natAbs * 2305843009213693952 = 2 * 2 ^ 120 := by decide
  have e2 : 2305843009213693952 * 1152921504606846976 = 2 * 2 ^ 120 := by decide
  rw [e1] at m3
  rw [e2] at m1 m2
  generalize (x.1 * y.1 - x.2 * y.2 - uS * w.1) * v.1 = p1 at *
  generalize (x.1 * y.2 + x.2 * y.1 - uS * w.2) * v.2 = p2 at *
  generalize uS * (w.1 * v.1 - w.2 * v.2 - uS * g) = p3 at *
  omega
/-- The transform of a row of whole numbers. -/
def tA (m : Nat) (a : Nat → Int) (k : Nat) : Int × Int := gw false m (fX a) k 0
theorem tA_sum {m : Nat} (hm : m ≤ 6) (a : Nat → Int) (k : Nat) : (tA m a k).1 = si (2 ^ m) (fun s => a s * (u (k * s * 2 ^ (6 - m))).1) ∧ (tA m a k).2 = si (2 ^ m) fun s => a s * (u (k * s * 2 ^ (6 - m))).2 := by
  obtain ⟨h1, h2⟩ := gw_sum false m hm (fX a) k 0
  unfold tA
  rw [h1, h2]
  constructor
  · refine si_congr fun s _ => ?_
    show a s * (u (k * s * 2 ^ (6 - m) + 0)).1 - 0 * _ = _
    rw [Nat.add_zero, Int.zero_mul, Int.sub_zero]
  · refine si_congr fun s _ => ?_
    show a s * (u (k * s * 2 ^ (6 - m) + 0)).2 + 0 * _ = _
    rw [Nat.add_zero, Int.zero_mul, Int.add_zero]
theorem si_prod (n : Nat) (f g : Nat → Int) : si n f * si n g = si n fun s => si n fun t => f s * g t := by
  have e : (fun s => si n fun t => f s * g t) = fun s => si n g * f s := funext fun s => by rw [si_mul, Int.mul_comm]
  rw [e, si_mul, Int.mul_comm]
theorem back_sum {m : Nat} (hm : m ≤ 6) (a b : Nat → Int) (q : Nat) : (gw true m (fun k => zmul (tA m a k) (tA m b k)) q 0).1 = si (2 ^ m) fun s => si (2 ^ m) fun t => a s * b t * si (2 ^ m) fun k => tri k s t q (2 ^ (6 - m)) := by
  rw [(gw_sum true m hm _ q 0).1]
  have e1 : ∀ k, (zmul (zmul (tA m a k) (tA m b k)) (ub true (q * k * 2 ^ (6 - m) + 0))).1 = si (2 ^ m) fun s => si (2 ^ m) fun t => a s * b t * tri k s t q (2 ^ (6 - m)) := fun k => by
    obtain ⟨a1, a2⟩ := tA_sum hm a k
    obtain ⟨b1, b2⟩ := tA_sum hm b k
    unfold ub zcj
    rw [cond_true, Nat.add_zero, Nat.mul_comm q k]
    unfold zmul
    dsimp only
    rw [a1, a2, b1, b2, si_prod, si_prod, si_prod, si_prod]
    generalize hv : u (k * q * 2 ^ (6 - m)) = v
    have hs : ∀ (F G : Nat → Nat → Int), si (2 ^ m) (fun s => si (2 ^ m) fun t => F s t) + si (2 ^ m) (fun s => si (2 ^ m) fun t => G s t) = si (2 ^ m) fun s => si (2 ^ m) fun t => F s t + G s t := fun F G => by
      rw [← si_add]
      exact si_congr fun s _ => (si_add _ _ _).symm
    have hm' : ∀ (c : Int) (F : Nat → Nat → Int), c * si (2 ^ m) (fun s => si (2 ^ m) fun t => F s t) = si (2 ^ m) fun s => si (2 ^ m) fun t => c * F s t := fun c F => by
      rw [← si_mul]
      exact si_congr fun s _ => (si_mul _ _ _).symm
    have e : ∀ (x1 x2 x3 x4 : Int), (x1 - x2) * v.1 - (x3 + x4) * -v.2 = (v.1 * x1 + (-v.1) * x2) + (v.2 * x3 + v.2 * x4) := by intros; grind
    rw [e, hm', hm', hm', hm', hs, hs, hs]
    refine si_congr fun s _ => si_congr fun t _ => ?_
    unfold tri
    rw [hv]
    unfold zmul zcj
    dsimp only
    generalize u (k * s * 2 ^ (6 - m)) = x
    generalize u (k * t * 2 ^ (6 - m)) = y
    grind
  rw [si_congr fun k _ => e1 k]
  rw [si_comm]
  refine si_congr fun s _ => ?_
  rw [si_comm]
  refine si_congr fun t _ => ?_
  rw [si_mul]
/-- SPREADING ROUND. -/
theorem conv_near {m : Nat} (hm : m ≤ 6) {a b : Nat → Int} (ha : ∀ i, i < 2 ^ m → 0 ≤ a i ∧ a i ≤ 255) (hb : ∀ i, i < 2 ^ m → 0 ≤ b i ∧ b i ≤ 255) (q : Nat) :
    ((gw true m (fun k => zmul (tA m a k) (tA m b k)) q 0).1 - uS3 * (((2 ^ m : Nat) : Int) * conv (2 ^ m) a b q)).natAbs ≤ 2 ^ 157 := by
  have hp : 2 ^ m ≤ 64 := Nat.le_trans (Nat.pow_le_pow_right (by decide) hm) (by decide)
  have ec : uS3 * (((2 ^ m : Nat) : Int) * conv (2 ^ m) a b q) = si (2 ^ m) fun s => si (2 ^ m) fun t => a s * b t * (uS * uS * cond ((s + t + 63 * q) % 2 ^ m == 0) (((2 ^ m : Nat) : Int) * uS) 0) := by
    unfold conv
    rw [← si_mul, ← si_mul]
    refine si_congr fun s _ => ?_
    rw [← si_mul, ← si_mul]
    refine si_congr fun t _ => ?_
    unfold uS3
    cases (s + t + 63 * q) % 2 ^ m == 0
    · simp only [cond_false, Int.mul_zero]
    · simp only [cond_true]; grind
  rw [ec, back_sum hm]
  refine Nat.le_trans (si_nearB (B := 64 * (65025 * (64 * (6 * 2 ^ 120)))) fun s hs => ?_) (Nat.le_trans (Nat.mul_le_mul_right _ hp) (by decide))
  refine Nat.le_trans (si_nearB (B := 65025 * (64 * (6 * 2 ^ 120))) fun t ht => ?_) (Nat.mul_le_mul_right _ hp)
  rw [← Int.mul_sub]
  obtain ⟨a0, a1⟩ := ha s hs
  obtain ⟨b0, b1⟩ := hb t ht
  refine mul_nat' ?_ ?_
  · have := mul_nat' (x := a s) (y := b t) (A := 255) (B := 255) (by omega) (by omega)
    exact this
  · rw [← root_sum hm, ← si_mul]
    refine Nat.le_trans (si_nearB (B := 6 * 2 ^ 120) fun k _ => ?_) (Nat.mul_le_mul_right _ hp)
    exact tri_near k s t q (2 ^ (6 - m))
end Go.Ev

namespace Go.Ev
open Ieee

theorem cut_floor {c m M : Nat} {i : Int} (hc : c = 1074) {way : Toward} {s : Bool} (hw : way = .zero ∨ (way = .down ∧ s = false)) (hi : -1074 ≤ i) (h1 : 2 ^ c * M ≤ m * 2 ^ (i + 1074).toNat) (h2 : m * 2 ^ (i + 1074).toNat < 2 ^ c * (M + 1)) : way.cut s (m <<< i.toNat) (-i).toNat = M := by
  have hcut : ∀ n d, way.cut s n d = n / (1 <<< min d (n.log2 + 2)) := fun n d => by
    unfold Toward.cut
    rcases hw with rfl | ⟨rfl, rfl⟩ <;> simp
  rw [hcut, Nat.shiftLeft_eq, Nat.shiftLeft_eq, Nat.one_mul]
  by_cases h0 : 0 ≤ i
  · obtain ⟨v, rfl⟩ : ∃ v : Nat, i = v := ⟨i.toNat, by omega⟩
    rw [show ((v : Int) + 1074).toNat = v + c by omega, Nat.pow_add, ← Nat.mul_assoc, Nat.mul_comm _ (2 ^ c)] at h1 h2
    have g1 := Nat.le_of_mul_le_mul_left h1 (Nat.two_pow_pos c)
    have g2 := Nat.lt_of_mul_lt_mul_left h2
    rw [Int.toNat_natCast, show (-(v : Int)).toNat = 0 by omega, Nat.zero_min, Nat.pow_zero, Nat.div_one]
    omega
  · obtain ⟨d, hd⟩ : ∃ d : Nat, i = -(d : Int) := ⟨(-i).toNat, by omega⟩
    subst hd
    have e : 2 ^ c = 2 ^ d * 2 ^ (c - d) := by rw [← Nat.pow_add]; congr 1; omega
    rw [show (-(d : Int) + 1074).toNat = c - d by omega, e, Nat.mul_assoc, Nat.mul_comm (2 ^ (c - d)), ← Nat.mul_assoc] at h1
    rw [show (-(d : Int) + 1074).toNat = c - d by omega, e, Nat.mul_assoc, Nat.mul_comm (2 ^ (c - d)), ← Nat.mul_assoc] at h2
    have g1 := Nat.le_of_mul_le_mul_right h1 (Nat.two_pow_pos (c - d))
    have g2 := Nat.lt_of_mul_lt_mul_right h2
    rw [show (-(d : Int)).toNat = 0 by omega, Nat.pow_zero, Nat.mul_one, show (- -(d : Int)).toNat = d by omega]
    by_cases hl : d ≤ m.log2 + 2
    · rw [Nat.min_eq_left hl]
      exact Nat.div_eq_of_lt_le (by rw [Nat.mul_comm]; exact g1) (by rw [Nat.mul_comm]; exact g2)
    · rw [Nat.min_eq_right (by omega)]
      have hm : m < 2 ^ (m.log2 + 2) := Nat.lt_of_lt_of_le Nat.lt_log2_self (Nat.pow_le_pow_right (by decide) (by omega))
      have hm2 : m < 2 ^ d := Nat.lt_of_lt_of_le hm (Nat.pow_le_pow_right (by decide) (by omega))
      rw [Nat.div_eq_of_lt hm]
      rcases Nat.eq_zero_or_pos M with hM | hM
      · exact hM.symm
      · have := Nat.le_mul_of_pos_right (2 ^ d) hM
        omega
theorem flr_wh {c x M : Nat} (hc : c = 1074) (hf : isFin x = true) (hp : 0 < val x) (h1 : dD c * (M : Int) ≤ val x) (h2 : val x < dD c * ((M : Int) + 1)) (hM : M < 2 ^ 53) : Wh c (flr x) (M : Int) := by
  obtain ⟨m, i, r1, r2, r3, r4⟩ := read_fin hf
  have hs : sgn x = false := by rw [val_neg (by omega)]; exact decide_eq_false (by omega)
  have hv : val x = ((m * 2 ^ (i + 1074).toNat : Nat) : Int) := by
    have := val_abs x
    rw [r4] at this
    omega
  rw [hv] at h1 h2
  unfold dD at h1 h2
  have k1 : 2 ^ c * M ≤ m * 2 ^ (i + 1074).toNat := by rw [← Int.natCast_mul] at h1; omega
  have k2 : m * 2 ^ (i + 1074).toNat < 2 ^ c * (M + 1) := by
    have e : ((2 ^ c : Nat) : Int) * ((M : Int) + 1) = ((2 ^ c * (M + 1) : Nat) : Int) := by rw [Int.natCast_mul]; rfl
    rw [e] at h2; omega
  have hcut := cut_floor hc (way := .down) (s := false) (Or.inr ⟨rfl, rfl⟩) r2 k1 k2
  have e : flr x = FloatKind.f64.nearest (M : Int) := by
    unfold flr
    rw [fin_not_nan hf, cond_false, r1, hs]
    show double.nearest false (Toward.cut .down false (m <<< i.toNat) (-i).toNat) 0 = _
    rw [hcut, wh_nearest_def, decide_eq_false (by omega), Int.natAbs_natCast]
  rw [e]
  exact wh_int hc (by omega)
theorem f2i_wh {c y M : Nat} (hc : c = 1074) (h : Wh c y (M : Int)) (hM : M < 2 ^ 53) : Go.Gv.f2i .i64 y = (M : Int) := by
  obtain ⟨m, i, r1, r2, r3, r4⟩ := read_fin h.fin
  have hv : m * 2 ^ (i + 1074).toNat = 2 ^ c * M := by
    have h1 := val_abs y
    rw [r4, h.val, Int.natAbs_mul, Int.natAbs_natCast, Int.natAbs_natCast] at h1
    rw [← h1, Nat.mul_comm]
  have hP := Nat.two_pow_pos c
  have hcut := cut_floor hc (way := .zero) (s := sgn y) (Or.inl rfl) r2 (m := m) (M := M) (by rw [hv]; exact Nat.le_refl _) (by rw [hv, Nat.mul_add]; omega)
  have e53 : (2 : Nat) ^ 53 = 9007199254740992 := by decide
  have ht : (FloatKind.f64.decode y).toInt .zero = some (signed (sgn y) M 0) := by
    show (double.read y).toInt .zero = _
    rw [r1]
    show some (signed (sgn y) (Toward.cut .zero (sgn y) (m <<< i.toNat) (-i).toNat) 0) = _
    rw [hcut]
  have hs : signed (sgn y) M 0 = (M : Int) := by
    rw [signed_val, Nat.pow_zero, Nat.mul_one]
    rcases Nat.eq_zero_or_pos M with hM0 | hM0
    · subst hM0; cases sgn y <;> rfl
    · have : 0 < val y := by rw [h.val]; exact Int.mul_pos (by omega) (by omega)
      rw [val_neg (by omega), decide_eq_false (by omega), cond_false]
  unfold Go.Gv.f2i floatToIntVal
  rw [ht, hs]
  have h3 : IntKind.i64.min ≤ (M : Int) ∧ (M : Int) ≤ IntKind.i64.max := by
    rw [show IntKind.i64.min = -9223372036854775808 by decide, show IntKind.i64.max = 9223372036854775807 by decide]
    omega
  simp only [h3, and_self, if_true]
  rfl
end Go.Ev

namespace Go.Ev
open Ieee

theorem zmul_size {x y : Int × Int} (a1 : x.1.natAbs ≤ 2 ^ 74) (a2 : x.2.natAbs ≤ 2 ^ 74) (b1 : y.1.natAbs ≤ 2 ^ 74) (b2 : y.2.natAbs ≤ 2 ^ 74) : (zmul x y).1.natAbs + (zmul x y).2.natAbs ≤ 2 ^ 150 := by
  have m1 := mul_nat' a1 b1
  have m2 := mul_nat' a2 b2
  have m3 := mul_nat' a1 b2
  have m4 := mul_nat' a2 b1
  rw [← Nat.pow_add] at m1 m2 m3 m4
  unfold zmul
  dsimp only
  omega
/-- What is worked out, against the sum. -/
theorem wave_sum {c : Nat} (hc : c = 1074) {m : Nat} (hm : m ≤ 6) {a b : Nat → Int} {x y : Nat → CX} (ha : ∀ i, i < 2 ^ m → 0 ≤ a i ∧ a i ≤ 255) (hb : ∀ i, i < 2 ^ m → 0 ≤ b i ∧ b i ≤ 255)
    (hx : ∀ i, i < 2 ^ m → Wh c (x i).1 (a i) ∧ Wh c (x i).2 0) (hy : ∀ i, i < 2 ^ m → Wh c (y i).1 (b i) ∧ Wh c (y i).2 0) {q : Nat} (hq : q < 2 ^ m) :
    isFin (wv true m (fun k => cmul (wv false m x k) (wv false m y k)) q).1 = true ∧ (val (wv true m (fun k => cmul (wv false m x k) (wv false m y k)) q).1 - dD c * (((2 ^ m : Nat) : Int) * conv (2 ^ m) a b q)).natAbs ≤ 2 ^ (c - 2) * 2 ^ m + 2 ^ (c - 23) := by
  have e74 : (2 : Nat) ^ 14 * 1152921504606846976 = 2 ^ 74 := by decide
  have sz : ∀ {f : Nat → Int} {k : Nat}, wt m (fX f) ≤ 2 ^ 14 → (tA m f k).1.natAbs ≤ 2 ^ 74 ∧ (tA m f k).2.natAbs ≤ 2 ^ 74 := fun h => by
    obtain ⟨h1, h2⟩ := gw_size false m (fX _) _ 0
    have h3 := Nat.mul_le_mul_right 1152921504606846976 h
    rw [e74] at h3
    exact ⟨Nat.le_trans h1 h3, Nat.le_trans h2 h3⟩
  have hC : ∀ i, i < 2 ^ m → Ne c uS3 (2 ^ c * 2 ^ 173) (cmul (wv false m x i) (wv false m y i)) (zsc uS (zmul (tA m a i) (tA m b i))) ∧ (zmul (tA m a i) (tA m b i)).1.natAbs + (zmul (tA m a i) (tA m b i)).2.natAbs ≤ 2 ^ 150 := fun i hi => by
    obtain ⟨n1, w1⟩ := forth_err hc hm ha hx hi
    obtain ⟨n2, w2⟩ := forth_err hc hm hb hy hi
    obtain ⟨s1, s2⟩ := sz (k := i) w1
    obtain ⟨t1, t2⟩ := sz (k := i) w2
    exact ⟨prod_err hc n1 n2 s1 s2 t1 t2, zmul_size s1 s2 t1 t2⟩
  have hN := back_err hc hm (fun i hi => (hC i hi).1) (fun i hi => (hC i hi).2) hq
  have hv := conv_near hm ha hb q
  refine ⟨hN.f1, ?_⟩
  have h1 := hN.re
  have h2 := mul_nat (x := dD c) hv
  refine abs_cancel uS3_pos ?_
  rw [dD_abs] at h2
  have e1 : uS3.natAbs * (2 ^ (c - 2) * 2 ^ m + 2 ^ (c - 23)) = 2 ^ c * 2 ^ (178 + m) + 2 ^ c * 2 ^ 157 := by
    rw [uS3_abs, Nat.mul_add, ← Nat.pow_add, ← Nat.pow_add, ← Nat.pow_add, ← Nat.pow_add, ← Nat.pow_add]
    congr 2 <;> omega
  rw [e1]
  have e2 : ∀ v w : Int, uS3 * (v - dD c * w) = uS3 * v - dD c * (uS3 * w) := by intros; grind
  rw [e2]
  rw [Int.mul_sub] at h2
  clear hC hN hv e1 e2 sz e74
  generalize uS3 * val (wv true m (fun k => cmul (wv false m x k) (wv false m y k)) q).1 = z1 at *
  generalize dD c * (gw true m (fun k => zmul (tA m a k) (tA m b k)) q 0).1 = z2 at *
  generalize dD c * (uS3 * (((2 ^ m : Nat) : Int) * conv (2 ^ m) a b q)) = z3 at *
  exact Nat.le_trans (by omega : (z1 - z3).natAbs ≤ (z1 - z2).natAbs + (z2 - z3).natAbs) (Nat.add_le_add h1 h2)
theorem val_half {c : Nat} (hc : c = 1074) : val 4602678819172646912 = ((2 ^ (c - 1) : Nat) : Int) := by
  have h1 : (val 4602678819172646912).natAbs = rv 52 (rung 4602678819172646912) := val_abs _
  have r0 : rung 4602678819172646912 = 4602678819172646912 := by decide
  rw [r0, (rv_a hc).2.2] at h1
  have hp : 0 < val 4602678819172646912 := val_pos.2 (by decide)
  have e : 2 ^ (c - 1) = 4 * 2 ^ (c - 3) := by rw [show c - 1 = 2 + (c - 3) by omega, Nat.pow_add]
  rw [e]
  generalize val 4602678819172646912 = X at *
  generalize 4 * 2 ^ (c - 3) = Y at *
  omega
/-- Divided. -/
theorem div_near {c : Nat} (hc : c = 1074) {m : Nat} (hm : m ≤ 6) {y nf : Nat} {v : Int} (hf : isFin y = true) (hv0 : 0 ≤ v) (hv1 : v ≤ 2 ^ 30) (hn : Wh c nf ((2 ^ m : Nat) : Int)) (h : (val y - dD c * (((2 ^ m : Nat) : Int) * v)).natAbs ≤ 2 ^ (c - 2) * 2 ^ m + 2 ^ (c - 23)) :
    VB 1 (c + 37) (fdiv y nf) ∧ (val (fdiv y nf) - dD c * v).natAbs ≤ 2 ^ (c - 16) + 2 ^ (c - 2) + 2 ^ (c - 23) := by
  have hp : 2 ^ m ≤ 64 := Nat.le_trans (Nat.pow_le_pow_right (by decide) hm) (by decide)
  have hp0 : 0 < 2 ^ m := Nat.two_pow_pos m
  -- sizes
  have eP : 2 ^ c = 2 ^ 23 * 2 ^ (c - 23) := by rw [← Nat.pow_add]; congr 1; omega
  have e2 : 2 ^ (c - 2) = 2 ^ 21 * 2 ^ (c - 23) := by rw [← Nat.pow_add]; congr 1; omega
  have e37 : 2 ^ (c + 37) = 2 ^ 37 * (2 ^ 23 * 2 ^ (c - 23)) := by rw [Nat.pow_add, eP, Nat.mul_comm]
  have hdv : (dD c * (((2 ^ m : Nat) : Int) * v)).natAbs ≤ 2 ^ c * (64 * 2 ^ 30) := by
    rw [Int.natAbs_mul, dD_abs, Int.natAbs_mul, Int.natAbs_natCast]
    exact Nat.mul_le_mul_left _ (Nat.mul_le_mul hp (by omega))
  have h' := h
  rw [e2] at h'
  have hmm : 2 ^ 21 * 2 ^ (c - 23) * 2 ^ m ≤ 2 ^ 21 * 2 ^ (c - 23) * 64 := Nat.mul_le_mul_left _ hp
  have hyb : VB 1 (c + 37) y := by
    refine ⟨hf, ?_⟩
    rw [Nat.one_mul, e37]
    rw [eP] at hdv
    generalize dD c * (((2 ^ m : Nat) : Int) * v) = w at *
    generalize 2 ^ 21 * 2 ^ (c - 23) * 2 ^ m = n1 at *
    generalize 2 ^ (c - 23) = P at *
    omega
  have hzb : VB 1 (c + 37) (fdiv y nf) := vb_div hc hyb hn (by omega) (by omega) (by omega)
  -- the division
  have hD := dD_pos c
  have hny : val nf = ((2 ^ m : Nat) : Int) * dD c := hn.val
  have hpos : 0 < val nf := by rw [hny]; exact Int.mul_pos (by omega) hD
  have hr := round_err (b := c + 37) (key_div hc hf hn.fin (by omega)).1 hzb.1 (show 0 < (val nf).natAbs by omega) (by omega) (by
    have e : sg (val nf) = 1 := by unfold sg; rw [decide_eq_false (by omega)]; rfl
    rw [e, Int.mul_one, Int.natAbs_mul, Int.natAbs_natCast, hny, Int.natAbs_mul, Int.natAbs_natCast, dD_abs]
    have h3 := hyb.2
    rw [Nat.one_mul] at h3
    refine Nat.mul_le_mul h3 ?_
    exact Nat.le_mul_of_pos_left _ hp0)
  have e : sg (val nf) = 1 := by unfold sg; rw [decide_eq_false (by omega)]; rfl
  rw [e, Int.mul_one, show (((val nf).natAbs : Nat) : Int) = val nf by omega, hny] at hr
  have eab : (((2 ^ m : Nat) : Int) * dD c).natAbs = 2 ^ m * 2 ^ c := by rw [Int.natAbs_mul, Int.natAbs_natCast, dD_abs]
  rw [eab] at hr
  have hr2 : (val (fdiv y nf) * ((2 ^ m : Nat) : Int) - val y).natAbs ≤ 2 ^ (c - 16) * 2 ^ m := by
    refine abs_cancel hD ?_
    rw [show c + 37 - 53 = c - 16 by omega] at hr
    have e3 : dD c * (val (fdiv y nf) * ((2 ^ m : Nat) : Int) - val y) = val (fdiv y nf) * (((2 ^ m : Nat) : Int) * dD c) - val y * ((2 ^ c : Nat) : Int) := by unfold dD; grind
    rw [e3, dD_abs]
    have e4 : 2 ^ c * (2 ^ (c - 16) * 2 ^ m) = 2 ^ (c - 16) * (2 ^ m * 2 ^ c) := by grind
    rw [e4]
    exact hr
  clear hr hdv h' hmm e37 eP e2 hyb eab
  refine ⟨hzb, ?_⟩
  show (val (fdiv y nf) - dD c * v).natAbs ≤ 2 ^ (c - 16) + 2 ^ (c - 2) + 2 ^ (c - 23)
  · refine abs_cancel (d := ((2 ^ m : Nat) : Int)) (by omega) ?_
    have e3 : ((2 ^ m : Nat) : Int) * (val (fdiv y nf) - dD c * v) = (val (fdiv y nf) * ((2 ^ m : Nat) : Int) - val y) + (val y - dD c * (((2 ^ m : Nat) : Int) * v)) := by grind
    rw [e3, Int.natAbs_natCast, Nat.mul_add, Nat.mul_add, Nat.mul_comm (2 ^ m), Nat.mul_comm (2 ^ m), Nat.mul_comm (2 ^ m)]
    have h5 : 2 ^ (c - 23) ≤ 2 ^ (c - 23) * 2 ^ m := Nat.le_mul_of_pos_right _ hp0
    generalize val (fdiv y nf) * ((2 ^ m : Nat) : Int) - val y = z1 at *
    generalize val y - dD c * (((2 ^ m : Nat) : Int) * v) = z2 at *
    generalize 2 ^ (c - 16) * 2 ^ m = n1 at *
    generalize 2 ^ (c - 2) * 2 ^ m = n2 at *
    generalize 2 ^ (c - 23) * 2 ^ m = n3 at *
    omega
/-- Divided, and a half added. -/
theorem half_near {c : Nat} (hc : c = 1074) {m : Nat} (hm : m ≤ 6) {y nf : Nat} {v : Int} (hf : isFin y = true) (hv0 : 0 ≤ v) (hv1 : v ≤ 2 ^ 30) (hn : Wh c nf ((2 ^ m : Nat) : Int)) (h : (val y - dD c * (((2 ^ m : Nat) : Int) * v)).natAbs ≤ 2 ^ (c - 2) * 2 ^ m + 2 ^ (c - 23)) :
    isFin (fadd (fdiv y nf) 4602678819172646912) = true ∧ dD c * v < val (fadd (fdiv y nf) 4602678819172646912) ∧ val (fadd (fdiv y nf) 4602678819172646912) < dD c * (v + 1) := by
  obtain ⟨hzb, hz⟩ := div_near hc hm hf hv0 hv1 hn h
  clear h hn hv0 hv1
  have eP : 2 ^ c = 2 ^ 23 * 2 ^ (c - 23) := by rw [← Nat.pow_add]; congr 1; omega
  have e2 : 2 ^ (c - 2) = 2 ^ 21 * 2 ^ (c - 23) := by rw [← Nat.pow_add]; congr 1; omega
  have e1 : 2 ^ (c - 1) = 2 ^ 22 * 2 ^ (c - 23) := by rw [← Nat.pow_add]; congr 1; omega
  -- the half
  have hh4 := vb_rung (x := 4602678819172646912) (by decide) (rv_a hc).2.2 (by decide)
  have hhv := val_half hc
  have hhb : VB 1 (c + 37) 4602678819172646912 := by
    refine ⟨hh4.1, Nat.le_trans hh4.2 ?_⟩
    rw [Nat.one_mul, show 4 = 2 ^ 2 from rfl, ← Nat.pow_add]
    exact Nat.pow_le_pow_right (by decide) (by omega)
  have hs := addE (k := 1) hzb hhb (by decide) (by decide) (by omega) (by omega) (by decide) (by omega)
  have hsf := (vb_add hzb hhb (by decide) (by decide) (by omega) (by omega)).1
  rw [show c + 37 + 1 - 53 = c - 15 by omega, hhv] at hs
  have e16 : 2 ^ (c - 16) = 2 ^ 7 * 2 ^ (c - 23) := by rw [← Nat.pow_add]; congr 1; omega
  have e15 : 2 ^ (c - 15) = 2 ^ 8 * 2 ^ (c - 23) := by rw [← Nat.pow_add]; congr 1; omega
  have hP0 := Nat.two_pow_pos (c - 23)
  refine ⟨hsf, ?_⟩
  have eD : dD c * (v + 1) = dD c * v + ((2 ^ c : Nat) : Int) := by rw [Int.mul_add, Int.mul_one]; rfl
  rw [eD]
  rw [e16, e2] at hz
  rw [e1, e15] at hs
  rw [eP]
  generalize val (fadd (fdiv y nf) 4602678819172646912) = X at *
  generalize val (fdiv y nf) = Z at *
  generalize dD c * v = V at *
  generalize 2 ^ (c - 23) = P at *
  omega
end Go.Ev
