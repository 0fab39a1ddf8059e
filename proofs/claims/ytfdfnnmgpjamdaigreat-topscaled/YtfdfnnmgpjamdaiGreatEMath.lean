/-
  Nothing slips through: an edge is the same from both its sides but for its sign, and what goes by within the outline of four points goes through one of two triangles: of the plain functions of floats.
-/
import Derived.Test.YtfdfnnmgpjamdaiGreatShE
import Derived.Test.YtfdfnnmgpjamdaiGreatMono
import Derived.Test.YtfdfnnmgpjamdaiGreatFl9
namespace Go.Proofs.YtfdfnnmgpjamdaiGreat
open Go.Ev

theorem Nr.bd {x : Nat} (h : Nr x) : Bd 1094 x := by
  unfold Bd
  rw [← key_abs]
  have h1 := h.lo
  have h2 := h.hi
  have e : pw 1094 = 4697254411347427328 := by decide
  rw [e]
  omega
/-- A ray, and the axis that it goes along most. -/
structure Dp (z : Nat) (r : Nat → Nat) : Prop where
  lt : z < 3
  o : ∀ i, i < 3 → Nr (r i)
  d : ∀ i, i < 3 → isFin (r (3 + i)) = true ∧ rung (r (3 + i)) ≤ rung (r (3 + z))
  nz : rung (r (3 + z)) ≠ 0
theorem three {P : Nat → Prop} (h0 : P 0) (h1 : P 1) (h2 : P 2) : ∀ i, i < 3 → P i := fun i hi => by
  have : i = 0 ∨ i = 1 ∨ i = 2 := by omega
  rcases this with rfl | rfl | rfl
  · exact h0
  · exact h1
  · exact h2
theorem key_zero {x : Nat} : key x = 0 ↔ rung x = 0 := by
  have := key_abs x
  omega
theorem deep_ok {r : Nat → Nat} (h : rayS r = 0) : Dp (zS r) r := by
  have hy := ry_of h
  have hz : rayZ r = false := by
    unfold rayS at h
    cases h1 : rayF r
    · rw [h1] at h
      cases h2 : rayZ r
      · rfl
      · rw [h2] at h; simp at h
    · rw [h1] at h; simp at h
  have hnz : rung (r 3) ≠ 0 ∨ rung (r 4) ≠ 0 ∨ rung (r 5) ≠ 0 := by
    unfold rayZ at hz
    have n0 : isNan 0 = false := by decide +kernel
    have k0 : key 0 = 0 := by decide +kernel
    rw [feq_key hy.n3.nan n0, feq_key hy.n4.nan n0, feq_key hy.n5.nan n0, k0] at hz
    simp only [Bool.and_true, Bool.and_eq_false_iff, decide_eq_false_iff_not, key_zero] at hz
    rcases hz with h | h | h
    · exact Or.inl h
    · exact Or.inr (Or.inl h)
    · exact Or.inr (Or.inr h)
  have hd : (rung (r 3) ≤ rung (r (3 + zS r)) ∧ rung (r 4) ≤ rung (r (3 + zS r)) ∧ rung (r 5) ≤ rung (r (3 + zS r))) ∧ zS r < 3 := by
    unfold zS is2 is1 gt12
    rw [fgt_fabs hy.n4.nan hy.n3.nan, fgt_fabs hy.n5.nan hy.n4.nan, fgt_fabs hy.n5.nan hy.n3.nan]
    by_cases g1 : rung (r 3) < rung (r 4)
    · rw [decide_eq_true g1]
      simp only [cond_true]
      by_cases g2 : rung (r 4) < rung (r 5)
      · rw [decide_eq_true g2]
        simp only [cond_true]
        show (rung (r 3) ≤ rung (r 5) ∧ rung (r 4) ≤ rung (r 5) ∧ rung (r 5) ≤ rung (r 5)) ∧ 2 < 3
        omega
      · rw [decide_eq_false g2]
        simp only [cond_false]
        show (rung (r 3) ≤ rung (r 4) ∧ rung (r 4) ≤ rung (r 4) ∧ rung (r 5) ≤ rung (r 4)) ∧ 1 < 3
        omega
    · rw [decide_eq_false g1]
      simp only [cond_false]
      by_cases g2 : rung (r 3) < rung (r 5)
      · rw [decide_eq_true g2]
        simp only [cond_true]
        show (rung (r 3) ≤ rung (r 5) ∧ rung (r 4) ≤ rung (r 5) ∧ rung (r 5) ≤ rung (r 5)) ∧ 2 < 3
        omega
      · rw [decide_eq_false g2]
        simp only [cond_false]
        show (rung (r 3) ≤ rung (r 3) ∧ rung (r 4) ≤ rung (r 3) ∧ rung (r 5) ≤ rung (r 3)) ∧ 0 < 3
        omega
  obtain ⟨⟨h3, h4, h5⟩, hlt⟩ := hd
  exact ⟨hlt, three hy.n0 hy.n1 hy.n2, three ⟨hy.n3.fin, h3⟩ ⟨hy.n4.fin, h4⟩ ⟨hy.n5.fin, h5⟩, by omega⟩

structure Pt (p : Nat → Nat) : Prop where
  n : ∀ i, i < 3 → Nr (p i)
theorem pt_of {p : Nat → Nat} (h : fineP p = true) : Pt p := by
  obtain ⟨a, b, c⟩ := fine_of h
  exact ⟨three a b c⟩
theorem df_bd {z : Nat} {r p : Nat → Nat} (hd : Dp z r) (hp : Pt p) {i : Nat} (hi : i < 3) : Bd 1095 (df p r i) := bd_sub (hp.n i hi).bd (hd.o i hi).bd (by decide) (by decide)
theorem q_bd {z : Nat} {r : Nat → Nat} (hd : Dp z r) {i : Nat} (hi : i < 3) : Bd 1074 (fdiv (r (3 + i)) (r (3 + z))) := bd_div rfl (hd.d i hi).1 (hd.d z hd.lt).1 hd.nz (hd.d i hi).2
theorem pXY_bd {z : Nat} {r p : Nat → Nat} (hd : Dp z r) (hp : Pt p) {i : Nat} (hi : i < 3) : Bd 1096 (fsub (df p r i) (fmul (fdiv (r (3 + i)) (r (3 + z))) (df p r z))) :=
  bd_sub (df_bd hd hp hi) (bd_mul rfl (q_bd hd hi) (df_bd hd hp hd.lt) (by decide) (by decide) (by decide) (by decide) (by decide) (by decide)) (by decide) (by decide)
theorem pX_bd {z : Nat} {r p : Nat → Nat} (hd : Dp z r) (hp : Pt p) : Bd 1096 (pX z r p) := pXY_bd hd hp (Nat.mod_lt _ (by decide))
theorem pY_bd {z : Nat} {r p : Nat → Nat} (hd : Dp z r) (hp : Pt p) : Bd 1096 (pY z r p) := pXY_bd hd hp (Nat.mod_lt _ (by decide))
theorem prod_bd {x y : Nat} (hx : Bd 1096 x) (hy : Bd 1096 y) : Bd 1118 (fmul x y) := bd_mul rfl hx hy (by decide) (by decide) (by decide) (by decide) (by decide) (by decide)
theorem sd_bd {z : Nat} {r p q : Nat → Nat} (hd : Dp z r) (hp : Pt p) (hq : Pt q) : Bd 1119 (sd z r p q) :=
  bd_sub (prod_bd (pX_bd hd hp) (pY_bd hd hq)) (prod_bd (pY_bd hd hp) (pX_bd hd hq)) (by decide) (by decide)
/-- An edge is the same from both its sides, but for its sign. -/
theorem sd_turn {z : Nat} {r p q : Nat → Nat} (hd : Dp z r) (hp : Pt p) (hq : Pt q) : feq (sd z r p q) (fneg (sd z r q p)) = true := by
  unfold sd
  rw [fmul_comm (pX z r q), fmul_comm (pY z r q)]
  exact sub_turn ((prod_bd (pX_bd hd hp) (pY_bd hd hq)).fin (by decide)) ((prod_bd (pY_bd hd hp) (pX_bd hd hq)).fin (by decide))
theorem add_above {x y : Nat} (hx : isFin x = true) (hy : isFin y = true) (h : 0 ≤ key y) : key x ≤ key (fadd x y) := by
  rw [(key_add hx hy).1, ← KR_val hx]
  refine KR_mono 1 ?_
  have : 0 ≤ val y := by
    rcases Int.lt_or_le (val y) 0 with e | e
    · have := val_negative.1 e; omega
    · exact e
  omega
theorem thr_pos {u v w : Nat} (hu : Bd 1119 u) (hv : Bd 1119 v) (hw : Bd 1119 w) (ku : 0 < key u) (kv : 0 ≤ key v) (kw : 0 ≤ key w) : thr u v w = true := by
  have n0 : isNan 0 = false := by decide +kernel
  have k0 : key 0 = 0 := by decide +kernel
  have fu := hu.fin (by decide)
  have fv := hv.fin (by decide)
  have fw := hw.fin (by decide)
  have hs := bd_add hu hv (by decide) (by decide)
  have fs := hs.fin (by decide)
  have ft := (bd_add hs (hw.mono (by decide)) (by decide) (by decide)).fin (by decide)
  have h1 := add_above fu fv kv
  have h2 := add_above fs fw kw
  unfold thr below3
  rw [flt_key (fin_not_nan fu) n0, flt_key (fin_not_nan fv) n0, flt_key (fin_not_nan fw) n0, feq_key (fin_not_nan ft) n0, k0]
  rw [decide_eq_false (show ¬ key u < 0 by omega), decide_eq_false (show ¬ key v < 0 by omega), decide_eq_false (show ¬ key w < 0 by omega), decide_eq_false (show ¬ key (fadd (fadd u v) w) = 0 by omega)]
  rfl
theorem fgt_zero {x : Nat} (h : fgt x 0 = true) : 0 < key x := by
  obtain ⟨_, _, h3⟩ := fgt_true h
  have k0 : key 0 = 0 := by decide +kernel
  omega
/-- NOTHING SLIPS THROUGH. -/
theorem through_one {z : Nat} {r a b c d : Nat → Nat} (hd : Dp z r) (pa : Pt a) (pb : Pt b) (pc : Pt c) (pd : Pt d) (h1 : fgt (sd z r a b) 0 = true) (h2 : fgt (sd z r b c) 0 = true) (h3 : fgt (sd z r c d) 0 = true) (h4 : fgt (sd z r d a) 0 = true) :
    thr (sd z r b c) (sd z r c a) (sd z r a b) = true ∨ thr (sd z r c d) (sd z r d a) (sd z r a c) = true := by
  have k1 := fgt_zero h1
  have k2 := fgt_zero h2
  have k3 := fgt_zero h3
  have k4 := fgt_zero h4
  rcases Int.lt_or_le (key (sd z r c a)) 0 with e | e
  · right
    obtain ⟨_, _, h5⟩ := feq_true (sd_turn (p := a) (q := c) hd pa pc)
    have h6 := (key_fneg (fin_not_nan ((sd_bd (p := c) (q := a) hd pc pa).fin (by decide)))).1
    exact thr_pos (sd_bd hd pc pd) (sd_bd hd pd pa) (sd_bd hd pa pc) k3 (by omega) (by omega)
  · left
    exact thr_pos (sd_bd hd pb pc) (sd_bd hd pc pa) (sd_bd hd pa pb) k2 e (by omega)

/-! ### What may be asked -/
theorem pass2_zero {r p q : Nat → Nat} (h : (pass2 r p q == 0) = true) : rayS r = 0 ∧ fineP p = true ∧ fineP q = true := by
  unfold pass2 at h
  cases h0 : rayS r == 0
  · rw [h0] at h; simp only [Bool.not_false, cond_true] at h; rw [h0] at h; cases h
  · rw [h0] at h
    simp only [Bool.not_true, cond_false] at h
    cases h1 : fineP p
    · rw [h1] at h; cases h
    · rw [h1] at h
      cases h2 : fineP q
      · rw [h2] at h; cases h
      · exact ⟨by simpa using h0, rfl, rfl⟩
theorem pass2_comm (r p q : Nat → Nat) : pass2 r p q = pass2 r q p := by
  unfold pass2
  cases fineP p <;> cases fineP q <;> rfl
theorem pass3_zero {r p q s : Nat → Nat} (h0 : rayS r = 0) (h1 : fineP p = true) (h2 : fineP q = true) (h3 : fineP s = true) : pass3 r p q s = 0 := by
  unfold pass3
  rw [h0, h1, h2, h3]; rfl
end Go.Proofs.YtfdfnnmgpjamdaiGreat
