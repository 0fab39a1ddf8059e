/-
  Floats: pairs of which the one is 2^j times the other, multiples of 2^k, at most 2^n (in units of the least float): what sums, products, quotients and roots make of them.
-/
import Derived.Test.YtfdfnnmgpjamdaiGreatFl14
namespace Go.Ev
open Ieee

structure SV (j k n x y : Nat) : Prop where
  sc : Sc j x y
  gr : Gr k x
  bd : Bd n x
theorem Sc.bd {j n x y : Nat} (h : Sc j x y) (hb : Bd n x) (hn : 52 ≤ n) : Bd (n + j) y := by
  unfold Bd pw at *
  have p52 : (2 : Nat) ^ 52 = 4503599627370496 := by decide
  rcases h.r with ⟨_, b⟩ | ⟨_, b⟩
  · rw [b]; exact Nat.zero_le _
  · rw [b, p52, show n + j - 51 = (n - 51) + j by omega, Nat.add_mul]
    exact Nat.add_le_add_right hb _
theorem SV.bd' {j k n x y : Nat} (h : SV j k n x y) (hn : 52 ≤ n) : Bd (n + j) y := h.sc.bd h.bd hn
theorem SV.more {j k n k' n' x y : Nat} (h : SV j k n x y) (hk : k' ≤ k) (hn : n ≤ n') : SV j k' n' x y := ⟨h.sc, h.gr.mono hk, h.bd.mono hn⟩
theorem SV.val0 {j k n x y : Nat} (h : SV j k n x y) : val y = 0 ↔ val x = 0 := by
  rw [h.sc.val]
  have hp : ((2 ^ j : Nat) : Int) ≠ 0 := by have := Nat.two_pow_pos j; omega
  constructor
  · intro e; rcases Int.mul_eq_zero.1 e with e | e
    · exact e
    · exact absurd e hp
  · intro e; rw [e, Int.zero_mul]
theorem Sc.gr {j k x y : Nat} (h : Sc j x y) (g : Gr k x) : Gr (k + j) y := by
  unfold Gr at *
  rw [h.val, Int.natAbs_mul, Int.natAbs_natCast, Nat.pow_add]
  exact Nat.mul_dvd_mul_right g _
theorem sv_add {j k n x x' y y' : Nat} (hx : SV j k n x x') (hy : SV j k n y y') (hk : 52 ≤ k) (hn : 52 ≤ n) (hj : n + j ≤ 2090) : SV j k (n + 1) (fadd x y) (fadd x' y') := by
  have b := bd_add hx.bd hy.bd hn (by omega)
  have b' := bd_add (hx.bd' hn) (hy.bd' hn) (by omega) (by omega)
  have f := b.fin (by omega)
  obtain ⟨g, l⟩ := gr_add hk hx.gr hy.gr hx.sc.fx hy.sc.fx f
  exact ⟨sc_add hx.sc hy.sc f (b'.fin (by omega)) l, g, b⟩
theorem sv_sub {j k n x x' y y' : Nat} (hx : SV j k n x x') (hy : SV j k n y y') (hk : 52 ≤ k) (hn : 52 ≤ n) (hj : n + j ≤ 2090) : SV j k (n + 1) (fsub x y) (fsub x' y') := by
  have b := bd_sub hx.bd hy.bd hn (by omega)
  have b' := bd_sub (hx.bd' hn) (hy.bd' hn) (by omega) (by omega)
  have f := b.fin (by omega)
  obtain ⟨g, l⟩ := gr_sub hk hx.gr hy.gr hx.sc.fx hy.sc.fx f
  exact ⟨sc_sub hx.sc hy.sc f (b'.fin (by omega)) l, g, b⟩
theorem sv_mul {c i j k l n m q r x x' y y' : Nat} (hc : c = 1074) (hx : SV i k n x x') (hy : SV j l m y y') (hq : q + c = k + l) (hr : r + c = n + m) (hq2 : 52 ≤ q) (hr2 : 52 ≤ r) (hn : 52 ≤ n) (hm : 52 ≤ m) (h1 : n + i ≤ 2090) (h2 : m + j ≤ 2090) (h3 : r + i + j ≤ 2090) : SV (i + j) q r (fmul x y) (fmul x' y') := by
  have b := bd_mul hc hx.bd hy.bd hn (by omega) hm (by omega) hr hr2
  have b' := bd_mul (l := r + i + j) hc (hx.bd' hn) (hy.bd' hm) (by omega) (by omega) (by omega) (by omega) (by omega) (by omega)
  have f := b.fin (by omega)
  obtain ⟨g, lw⟩ := gr_mul hc hx.gr hy.gr hq hq2 hx.sc.fx hy.sc.fx f
  exact ⟨sc_mul hc hx.sc hy.sc f (b'.fin (by omega)) lw, g, b⟩
/-- Through what is as much greater: the same. -/
theorem sv_div {c j k k' n m l q x x' y y' : Nat} (hc : c = 1074) (hx : SV (j + k') k n x x') (hy : SV j l m y y') (h0 : val y ≠ 0) {r : Nat} (hr : r + l = n + c) (hq : q + m = k + c) (hq2 : 104 ≤ q) (hr2 : 52 ≤ r) (hn : 52 ≤ n) (hm : 52 ≤ m) (h1 : n + j + k' ≤ 2090) (h2 : m + j ≤ 2090) (h3 : r + k' ≤ 2090) : SV k' (q - 52) r (fdiv x y) (fdiv x' y') := by
  have b := bd_div2 hc hx.bd hn (by omega) hy.gr hy.sc.fx h0 hr hr2
  have h0' : val y' ≠ 0 := fun e => h0 (hy.val0.1 e)
  have b' := bd_div2 (l := r + k') hc (hx.bd' hn) (by omega) (by omega) (hy.sc.gr hy.gr) hy.sc.fy h0' (by omega) (by omega)
  have f := b.fin (by omega)
  obtain ⟨g, lw⟩ := gr_div hc hx.gr hx.sc.fx hy.bd hm (by omega) h0 hq (by omega) f
  exact ⟨sc_div hc hx.sc hy.sc h0 f (b'.fin (by omega)) lw, g, b⟩
theorem sv_sqrt {j k n m c x x' : Nat} (hc : c = 452) (hx : SV (2 * j) k n x x') (hs : rung x = 0 ∨ sgn x = false) (hn : 52 ≤ n) (h1 : n + 2 * j ≤ 2090) (hm : n + 1076 ≤ 2 * m) (hm2 : 700 ≤ m) (hm3 : m + j ≤ 2090) : SV j (c - 52) m (fsqrt x) (fsqrt x') := by
  have b := bd_sqrt hx.bd hn (by omega) hs hm hm2
  have hs' : rung x' = 0 ∨ sgn x' = false := by
    rcases hs with e | e
    · rcases hx.sc.r with ⟨_, b⟩ | ⟨a, _⟩
      · exact Or.inl b
      · have := Nat.two_pow_pos 52; omega
    · right; rw [← hx.sc.s]; exact e
  have b' := bd_sqrt (k := m + j) (hx.bd' hn) (by omega) (by omega) hs' (by omega) (by omega)
  have f := b.fin (by omega)
  exact ⟨sc_sqrt hx.sc hs (b'.fin (by omega)), gr_sqrt hc hx.sc.fx hs f, b⟩

/-! ### Comparisons -/
theorem Sc.nanx {j x y : Nat} (h : Sc j x y) : isNan x = false := fin_not_nan h.fx
theorem Sc.nany {j x y : Nat} (h : Sc j x y) : isNan y = false := fin_not_nan h.fy
theorem sc_flt {j x x' y y' : Nat} (hx : Sc j x x') (hy : Sc j y y') : flt x' y' = flt x y := by
  rw [flt_key hx.nany hy.nany, flt_key hx.nanx hy.nanx]; exact decide_eq_decide.2 (sc_key_lt hx hy)
theorem sc_fgt {j x x' y y' : Nat} (hx : Sc j x x') (hy : Sc j y y') : fgt x' y' = fgt x y := by
  rw [fgt_key hx.nany hy.nany, fgt_key hx.nanx hy.nanx]; exact decide_eq_decide.2 (sc_key_lt hy hx)
theorem sc_fle {j x x' y y' : Nat} (hx : Sc j x x') (hy : Sc j y y') : fle x' y' = fle x y := by
  rw [fle_key hx.nany hy.nany, fle_key hx.nanx hy.nanx]
  refine decide_eq_decide.2 ?_
  have := sc_key_lt hy hx; omega
theorem sc_fge {j x x' y y' : Nat} (hx : Sc j x x') (hy : Sc j y y') : fge x' y' = fge x y := by
  rw [fge_key hx.nany hy.nany, fge_key hx.nanx hy.nanx]
  refine decide_eq_decide.2 ?_
  have := sc_key_lt hx hy; omega
theorem sc_feq {j x x' y y' : Nat} (hx : Sc j x x') (hy : Sc j y y') : feq x' y' = feq x y := by
  rw [feq_key hx.nany hy.nany, feq_key hx.nanx hy.nanx]
  refine decide_eq_decide.2 ?_
  have a := sc_key_lt hx hy
  have b := sc_key_lt hy hx
  omega
theorem sc_cond {j x x' y y' : Nat} (b : Bool) (hx : Sc j x x') (hy : Sc j y y') : Sc j (cond b x y) (cond b x' y') := by cases b <;> assumption
theorem sv_cond {j k n x x' y y' : Nat} (b : Bool) (hx : SV j k n x x') (hy : SV j k n y y') : SV j k n (cond b x y) (cond b x' y') := by cases b <;> assumption
theorem sc_zero (j : Nat) : Sc j 0 0 := ⟨rfl, by decide +kernel, by decide +kernel, Or.inl ⟨by decide +kernel, by decide +kernel⟩⟩
theorem sv_zero (j k n : Nat) : SV j k n 0 0 := by
  have r0 : rung 0 = 0 := by decide +kernel
  refine ⟨sc_zero j, ?_, by unfold Bd; rw [r0]; exact Nat.zero_le _⟩
  unfold Gr
  rw [val_zero.2 r0, Int.natAbs_zero]; exact Nat.dvd_zero _
end Go.Ev
