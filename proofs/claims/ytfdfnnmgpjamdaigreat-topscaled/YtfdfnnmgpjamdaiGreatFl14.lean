/-
  Floats: how great and how small a quotient and a root are.
-/
import Derived.Test.YtfdfnnmgpjamdaiGreatFl13
namespace Go.Ev
open Ieee

theorem low_of {l g z : Nat} {v : Int} (hl : 52 ≤ l) (hg : 0 < g) (hz : key z = KR v g) (f : isFin z = true) (h : 2 ^ l * g ≤ v.natAbs) : 2 ^ l ≤ (val z).natAbs := by
  rw [val_abs, ← rv_pw hl]
  refine rv_le ?_
  have fz := isFin_lt f
  rw [← key_abs, hz] at fz
  have cap : rq 52 v.natAbs g < 9218868437227405312 := by
    unfold KR at fz
    cases hd : decide (v < 0)
    · rw [hd, cond_false, Int.natAbs_natCast] at fz; omega
    · rw [hd, cond_true, Int.natAbs_neg, Int.natAbs_natCast] at fz; omega
  rw [← key_abs, hz, KR_big cap]
  have e := rq_mul 52 (2 ^ l) 1 hg
  rw [Nat.one_mul, ← rv_pw hl, rq_rv] at e
  rw [← e, rv_pw hl]
  exact rq_mono1 52 h
theorem val_div0 {c x y : Nat} (hc : c = 1074) (hx : isFin x = true) (hy : isFin y = true) (h0 : val y ≠ 0) (h : val x = 0) : val (fdiv x y) = 0 := by
  have k := (key_div hc hx hy h0).1
  rw [h, Int.zero_mul, Int.zero_mul, KR_zero (by omega)] at k
  exact val_zero.2 (by have := key_abs (fdiv x y); omega)
/-- A quotient: at most 2^(n + c - k), and, where it isn't nought, at least 2^(k' + c - n'). -/
theorem bd_div2 {c n k l x y : Nat} (hc : c = 1074) (hx : Bd n x) (hn : 52 ≤ n) (hn' : n ≤ 2097) (hy : Gr k y) (fy : isFin y = true) (h0 : val y ≠ 0) (hl : l + k = n + c) (hl2 : 52 ≤ l) : Bd l (fdiv x y) := by
  refine bd_of (key_div hc (hx.fin hn') fy h0).1 (by omega) ?_ hl2
  rw [Int.natAbs_mul, Int.natAbs_mul]
  have e : (sg (val y)).natAbs = 1 := by unfold sg; cases decide (val y < 0) <;> rfl
  rw [e, Nat.mul_one, Int.natAbs_natCast]
  refine Nat.le_trans (Nat.mul_le_mul_right _ (hx.val hn)) ?_
  rw [← Nat.pow_add, ← hl, Nat.pow_add]
  exact Nat.mul_le_mul_left _ (hy.low h0)
theorem gr_div {c n k l x y : Nat} (hc : c = 1074) (hx : Gr k x) (fx : isFin x = true) (hy : Bd n y) (hn : 52 ≤ n) (hn' : n ≤ 2097) (h0 : val y ≠ 0) (hl : l + n = k + c) (hl2 : 52 ≤ l) (f : isFin (fdiv x y) = true) : Gr (l - 52) (fdiv x y) ∧ (val x ≠ 0 → 2 ^ 52 ≤ (val x).natAbs * 2 ^ c / (val y).natAbs) := by
  have big : val x ≠ 0 → 2 ^ l * (val y).natAbs ≤ (val x).natAbs * 2 ^ c := fun hv => by
    refine Nat.le_trans (Nat.mul_le_mul_left _ (hy.val hn)) ?_
    rw [← Nat.pow_add, hl, Nat.pow_add]
    exact Nat.mul_le_mul_right _ (hx.low hv)
  have hp : 0 < (val y).natAbs := by omega
  constructor
  · refine gr_low hl2 ?_
    by_cases hv : val x = 0
    · exact Or.inr (val_div0 hc fx (hy.fin hn') h0 hv)
    · left
      refine low_of hl2 hp (key_div hc fx (hy.fin hn') h0).1 f ?_
      rw [Int.natAbs_mul, Int.natAbs_mul]
      have e : (sg (val y)).natAbs = 1 := by unfold sg; cases decide (val y < 0) <;> rfl
      rw [e, Nat.mul_one, Int.natAbs_natCast]
      exact big hv
  · intro hv
    rw [Nat.le_div_iff_mul_le hp]
    exact Nat.le_trans (Nat.mul_le_mul_right _ (pow_le_pow' hl2)) (big hv)

/-! ### Roots -/
theorem rootFrom_lt (n : Nat) : ∀ (k x : Nat), Datum.rootFrom n k x < x + 2 ^ k
  | 0, x => by rw [Datum.rootFrom.eq_1, Nat.pow_zero]; omega
  | k + 1, x => by
    rw [Datum.rootFrom.eq_2, Nat.shiftLeft_eq, Nat.one_mul]
    have p := Nat.two_pow_pos k
    split
    · have := rootFrom_lt n k (x + 2 ^ k)
      rw [Nat.pow_succ]; omega
    · have := rootFrom_lt n k x
      rw [Nat.pow_succ]; omega
theorem rootW_lt (m : Nat) (i : Int) : rootW m i < 2 ^ ((rootM m i).log2 / 2 + 2) := by
  unfold rootW
  have h := rootFrom_lt (rootM m i) ((rootM m i).log2 / 2 + 1) 0
  rw [Nat.zero_add] at h
  rw [show (rootM m i).log2 / 2 + 2 = ((rootM m i).log2 / 2 + 1) + 1 by omega, Nat.pow_succ]
  generalize Datum.rootFrom (rootM m i) ((rootM m i).log2 / 2 + 1) 0 = w at *
  have hb := toNat_le_one (w * w != rootM m i)
  generalize (w * w != rootM m i).toNat = s at hb
  generalize 2 ^ ((rootM m i).log2 / 2 + 1) = p at *
  omega
theorem rootM_log {m : Nat} (hm : m ≠ 0) (i : Int) : (rootM m i).log2 = m.log2 + (108 - m.log2 + ((i - ((108 - m.log2 : Nat) : Int)) % 2).toNat) := by
  unfold rootM; exact log2_shl _ hm
/-- A root: at most about half the power. -/
theorem root_size {m : Nat} (hm : m ≠ 0) (i : Int) : (((rootM m i).log2 / 2 + 2 : Nat) : Int) + rootE m i ≤ ((m.log2 : Int) + i) / 2 + 1 := by
  rw [rootM_log hm]
  unfold rootE
  have hq : ((i - ((108 - m.log2 : Nat) : Int)) % 2).toNat = ((i - ((108 - m.log2 : Nat) : Int)) % 2) := by omega
  generalize hqq : ((i - ((108 - m.log2 : Nat) : Int)) % 2).toNat = q at *
  generalize 108 - m.log2 = t at *
  generalize m.log2 = L at *
  omega
theorem nearest_bd {s : Bool} {m n u : Nat} {p : Int} (hp : p + 1074 = (u : Int)) (h : m * 2 ^ u ≤ 2 ^ n) (hn : 52 ≤ n) : Bd n (double.nearest s m p) := by
  have e := nearest_rq s m u 0 p (by omega)
  unfold Bd
  rw [e, infR, rung_word s (Nat.min_le_right _ _), Nat.pow_zero]
  refine Nat.le_trans (Nat.min_le_left _ _) (Nat.le_trans (rq_mono1 52 h) ?_)
  rw [← rv_pw hn, rq_rv]
  exact Nat.le_refl _
theorem bd_sqrt {n k x : Nat} (hx : Bd n x) (hn : 52 ≤ n) (hn' : n ≤ 2097) (hs : rung x = 0 ∨ sgn x = false) (hk : n + 1076 ≤ 2 * k) (hk2 : 700 ≤ k) : Bd k (fsqrt x) := by
  have fx := hx.fin hn'
  obtain ⟨m, i, hr, hi, _, hv⟩ := read_fin fx
  by_cases m0 : m = 0
  · subst m0
    have e : fsqrt x = double.word (sgn x) 0 := by
      unfold fsqrt Format.sqrt
      rw [hr]
      simp only [Datum.root, if_true, Option.map_some, Option.getD_some, Format.write, nearest_zero]
    unfold Bd
    rw [e, rung_word _ (by decide)]
    exact Nat.zero_le _
  · have hs' : sgn x = false := by
      rcases hs with e | e
      · rw [e, rv_zero] at hv
        have := Nat.mul_ne_zero m0 (Nat.ne_of_gt (Nat.two_pow_pos (i + 1074).toNat))
        omega
      · exact e
    rw [hs'] at hr
    rw [fsqrt_text hr m0]
    have hlow := rootE_low m hi
    have hsz := root_size m0 i
    have hW := rootW_lt m i
    have hL : (m.log2 : Int) + i + 1074 ≤ n := by
      have h1 := hx.val hn
      rw [val_abs, hv] at h1
      have h2 := Nat.log2_self_le m0
      have h3 : 2 ^ (m.log2 + (i + 1074).toNat) ≤ 2 ^ n := by
        rw [Nat.pow_add]; exact Nat.le_trans (Nat.mul_le_mul_right _ h2) h1
      have h4 := (Nat.pow_le_pow_iff_right (by decide)).1 h3
      omega
    generalize rootE m i = E at *
    refine nearest_bd (u := (E + 1074).toNat) (by omega) ?_ (by omega)
    refine Nat.le_trans (Nat.mul_le_mul_right _ (Nat.le_of_lt hW)) ?_
    rw [← Nat.pow_add]
    exact pow_le_pow' (by omega)
/-- A root that isn't nought is not small. -/
theorem gr_sqrt {n x : Nat} (hn : n = 452) (fx : isFin x = true) (hs : rung x = 0 ∨ sgn x = false) (f : isFin (fsqrt x) = true) : Gr (n - 52) (fsqrt x) := by
  obtain ⟨m, i, hr, hi, _, hv⟩ := read_fin fx
  refine gr_low (n := n) (by omega) ?_
  by_cases m0 : m = 0
  · right
    subst m0
    have e : fsqrt x = double.word (sgn x) 0 := by
      unfold fsqrt Format.sqrt
      rw [hr]
      simp only [Datum.root, if_true, Option.map_some, Option.getD_some, Format.write, nearest_zero]
    rw [e]
    exact val_zero.2 (rung_word _ (by decide))
  · left
    have hs' : sgn x = false := by
      rcases hs with e | e
      · rw [e, rv_zero] at hv
        have := Nat.mul_ne_zero m0 (Nat.ne_of_gt (Nat.two_pow_pos (i + 1074).toNat))
        omega
      · exact e
    rw [hs'] at hr
    rw [fsqrt_text hr m0] at f ⊢
    have hlow := rootE_low m hi
    have hw := rootW_pos m0 i
    generalize rootE m i = E at *
    generalize rootW m i = W at *
    have e := nearest_rq false W (E + 1074).toNat 0 E (by omega)
    have fz := isFin_lt f
    rw [e, infR, rung_word _ (Nat.min_le_right _ _), Nat.pow_zero] at fz
    rw [val_abs, e, infR, rung_word _ (Nat.min_le_right _ _), Nat.pow_zero, Nat.min_eq_left (by omega), ← rv_pw (n := n) (by omega)]
    refine rv_le ?_
    have hb : 2 ^ n ≤ W * 2 ^ (E + 1074).toNat := Nat.le_trans (pow_le_pow' (show n ≤ (E + 1074).toNat by omega)) (Nat.le_mul_of_pos_left _ hw)
    have h2 := rq_mono1 52 (g := 1) hb
    rw [← rv_pw (n := n) (by omega), rq_rv] at h2
    exact h2
end Go.Ev
