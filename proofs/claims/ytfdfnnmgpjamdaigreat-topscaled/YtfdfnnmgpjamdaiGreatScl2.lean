/-
  Where a ray strikes a shape that is so many times as great: plain functions of floats, and that they are the same. Of no particular program.
-/
import Derived.Test.YtfdfnnmgpjamdaiGreatScl1
namespace Go.Proofs.YtfdfnnmgpjamdaiGreat
open Go.Ev

abbrev U (j x y : Nat) : Prop := SV j 1000 1085 x y
def Us (j m : Nat) (p q : Nat → Nat) : Prop := ∀ i, i < m → U j (p i) (q i)
theorem U.w {j x y : Nat} (h : U j x y) : W j x y := h.more (Nat.le_refl _) (by decide)
theorem Us.ws {j m : Nat} {p q : Nat → Nat} (h : Us j m p q) : Ws j m p q := fun i hi => (h i hi).w

/-! ### A triangle -/
theorem sc_rung {j x x' y y' : Nat} (hx : Sc j x x') (hy : Sc j y y') : rung x' < rung y' ↔ rung x < rung y := by
  have p := Nat.two_pow_pos 52
  have a := hx.r
  have b := hy.r
  generalize 2 ^ 52 = c at *
  generalize j * c = d at *
  rcases a with ⟨a1, a2⟩ | ⟨a1, a2⟩ <;> rcases b with ⟨b1, b2⟩ | ⟨b1, b2⟩ <;> omega
theorem zS_same {j : Nat} {r q : Nat → Nat} (h : Us j 6 r q) : zS q = zS r := by
  have t : ∀ a b, a < 6 → b < 6 → fgt (fabs (q a)) (fabs (q b)) = fgt (fabs (r a)) (fabs (r b)) := fun a b ha hb => by
    rw [fgt_fabs (h a ha).sc.nany (h b hb).sc.nany, fgt_fabs (h a ha).sc.nanx (h b hb).sc.nanx]
    exact decide_eq_decide.2 (sc_rung (h b hb).sc (h a ha).sc)
  unfold zS is2 is1 gt12
  rw [t 4 3 (by decide) (by decide), t 5 4 (by decide) (by decide), t 5 3 (by decide) (by decide)]
theorem bd_one : Bd 1074 one := by unfold Bd; decide +kernel
theorem fin_one : isFin one = true := by decide +kernel
theorem val_one' {c : Nat} (hc : c = 1074) : val one = ((2 ^ c : Nat) : Int) := by
  have e : one = pw c := by subst hc; decide
  rw [e]; exact (val_pw (by omega) (by omega)).1
theorem gr_one : Gr 1074 one := by
  obtain ⟨c, hc⟩ : ∃ c, c = 1074 := ⟨_, rfl⟩
  have : Gr c one := by unfold Gr; rw [val_one' hc, Int.natAbs_natCast]; exact Nat.dvd_refl _
  rwa [hc] at this
theorem sc_one : Sc 0 one one := ⟨rfl, fin_one, fin_one, Or.inr ⟨by decide +kernel, rfl⟩⟩
section
variable {j z : Nat} {r q g g' : Nat → Nat} (hj : j ≤ 3) (hr : Us j 6 r q) (hg : Us j 3 g g') (hz : z < 3) (h0 : val (r (3 + z)) ≠ 0)
include hj hr hg
theorem df_sv {i : Nat} (hi : i < 3) : SV j 1000 1086 (df g r i) (df g' q i) := sv_sub (hg i hi) (hr i (by omega)) (by decide) (by decide) (by omega)
include hz h0
theorem pXY_sv {i : Nat} (hi : i < 3) : SV j 858 1172 (fsub (df g r i) (fmul (fdiv (r (3 + i)) (r (3 + z))) (df g r z))) (fsub (df g' q i) (fmul (fdiv (q (3 + i)) (q (3 + z))) (df g' q z))) := by
  have a := sv_div (c := 1074) (j := j) (k' := 0) (r := 1159) (q := 989) rfl (hr (3 + i) (by omega)) (hr (3 + z) (by omega)) h0 (by decide) (by decide) (by decide) (by decide) (by decide) (by decide) (by omega) (by omega) (by decide)
  have b := sv_mul (c := 1074) (q := 863) (r := 1171) rfl a (df_sv hj hr hg hz) (by decide) (by decide) (by decide) (by decide) (by decide) (by decide) (by decide) (by omega) (by omega)
  rw [Nat.zero_add] at b
  exact (sv_sub ((df_sv hj hr hg hi).more (k' := 863) (n' := 1171) (by decide) (by decide)) b (by decide) (by decide) (by omega)).more (by decide) (by decide)
theorem pX_sv : SV j 858 1172 (pX z r g) (pX z q g') := pXY_sv hj hr hg hz h0 (Nat.mod_lt _ (by decide))
theorem pY_sv : SV j 858 1172 (pY z r g) (pY z q g') := pXY_sv hj hr hg hz h0 (Nat.mod_lt _ (by decide))
theorem pZ_sv : SV 0 932 1165 (pZ z r g) (pZ z q g') := by
  have hd := hr (3 + z) (by omega)
  have h0' : val (q (3 + z)) ≠ 0 := fun e => h0 (hd.val0.1 e)
  have hf := df_sv hj hr hg hz
  have b1 := bd_div2 (c := 1074) (l := 1148) rfl bd_one (by decide) (by decide) hd.gr hd.sc.fx h0 (by decide) (by decide)
  have b2 := bd_div2 (c := 1074) (l := 1148) rfl bd_one (by decide) (by decide) ((hd.sc.gr hd.gr).mono (show 1000 ≤ 1000 + j by omega)) hd.sc.fy h0' (by decide) (by decide)
  have f1 := b1.fin (by decide)
  have f2 := b2.fin (by decide)
  obtain ⟨g1, _⟩ := gr_div (c := 1074) (l := 1060) rfl gr_one fin_one (hd.bd.mono (show 1085 ≤ 1088 by decide)) (by decide) (by decide) h0 (by decide) (by decide) f1
  obtain ⟨_, l2⟩ := gr_div (c := 1074) (l := 1060) rfl gr_one fin_one ((hd.bd' (by decide)).mono (show 1085 + j ≤ 1088 by omega)) (by decide) (by decide) h0' (by decide) (by decide) f2
  have su : Sc j (fdiv one (q (3 + z))) (fdiv one (r (3 + z))) := sc_divx (c := 1074) (k := j) (j := 0) rfl sc_one (by rw [Nat.zero_add]; exact hd.sc) h0 f1 f2 l2
  have bm := bd_mul (c := 1074) (l := 1160) rfl b1 hf.bd (by decide) (by decide) (by decide) (by decide) (by decide) (by decide)
  have bm' := bd_mul (c := 1074) (l := 1163) rfl b2 ((hf.bd' (by decide)).mono (show 1086 + j ≤ 1089 by omega)) (by decide) (by decide) (by decide) (by decide) (by decide) (by decide)
  obtain ⟨gm, lm⟩ := gr_mul (c := 1074) (n := 934) rfl g1 hf.gr (by decide) (by decide) f1 hf.sc.fx (bm.fin (by decide))
  exact ⟨sc_mulx (c := 1074) rfl su hf.sc (bm.fin (by decide)) (bm'.fin (by decide)) lm, gm.mono (by decide), bm.mono (by decide)⟩
end
theorem sd_sv {j z : Nat} {r q g g' k k' : Nat → Nat} (hj : j ≤ 3) (hr : Us j 6 r q) (hg : Us j 3 g g') (hk : Us j 3 k k') (hz : z < 3) (h0 : val (r (3 + z)) ≠ 0) : SV (j + j) 642 1271 (sd z r g k) (sd z q g' k') := by
  have m : ∀ {a a' b b' : Nat}, SV j 858 1172 a a' → SV j 858 1172 b b' → SV (j + j) 642 1270 (fmul a b) (fmul a' b') := fun ha hb => sv_mul (c := 1074) rfl ha hb (by decide) (by decide) (by decide) (by decide) (by decide) (by decide) (by omega) (by omega) (by omega)
  exact sv_sub (m (pX_sv hj hr hg hz h0) (pY_sv hj hr hk hz h0)) (m (pY_sv hj hr hg hz h0) (pX_sv hj hr hk hz h0)) (by decide) (by decide) (by omega)
theorem thr_same {i k n u v w u' v' w' : Nat} (hu : SV i k n u u') (hv : SV i k n v v') (hw : SV i k n w w') (hk : 52 ≤ k) (hn : 52 ≤ n) (hi : n + 2 + i ≤ 2090) : thr u' v' w' = thr u v w ∧ (thr u v w = true → val (fadd (fadd u v) w) ≠ 0) := by
  have s := sv_add (sv_add hu hv hk hn (by omega)) (hw.more (Nat.le_refl _) (Nat.le_succ _)) hk (by omega) (by omega)
  have z := sc_zero i
  constructor
  · unfold thr below3 above3
    rw [sc_flt hu.sc z, sc_flt hv.sc z, sc_flt hw.sc z, sc_fgt hu.sc z, sc_fgt hv.sc z, sc_fgt hw.sc z, sc_feq s.sc z]
  · intro h e
    unfold thr at h
    rw [feq_z s.sc.nanx, decide_eq_true e] at h
    generalize (!cond (below3 u v w) (above3 u v w) false) = b at h
    cases b <;> cases h
def vA (s : Nat → Nat) : Nat → Nat := fun i => s i
def vB (s : Nat → Nat) : Nat → Nat := fun i => s (3 + i)
def vC (s : Nat → Nat) : Nat → Nat := fun i => s (6 + i)
def triOk (z : Nat) (s r : Nat → Nat) : Bool := thr (sd z r (vB s) (vC s)) (sd z r (vC s) (vA s)) (sd z r (vA s) (vB s))
def triT (z : Nat) (s r : Nat → Nat) : Nat := fdiv (fadd (fadd (fmul (sd z r (vB s) (vC s)) (pZ z r (vA s))) (fmul (sd z r (vC s) (vA s)) (pZ z r (vB s)))) (fmul (sd z r (vA s) (vB s)) (pZ z r (vC s)))) (fadd (fadd (sd z r (vB s) (vC s)) (sd z r (vC s) (vA s))) (sd z r (vA s) (vB s)))
theorem tri_same {j z : Nat} {s x r q : Nat → Nat} (hj : j ≤ 3) (hs : Us j 9 s x) (hr : Us j 6 r q) (hz : z < 3) (h0 : val (r (3 + z)) ≠ 0) : triOk z s r = triOk z x q ∧ (triOk z s r = true → triT z s r = triT z x q) := by
  have a : Us j 3 (vA s) (vA x) := fun i hi => hs i (by omega)
  have b : Us j 3 (vB s) (vB x) := fun i hi => hs (3 + i) (by omega)
  have c : Us j 3 (vC s) (vC x) := fun i hi => hs (6 + i) (by omega)
  have u := sd_sv hj hr b c hz h0
  have v := sd_sv hj hr c a hz h0
  have w := sd_sv hj hr a b hz h0
  obtain ⟨t1, t2⟩ := thr_same u v w (by decide) (by decide) (by omega)
  refine ⟨t1.symm, fun h => ?_⟩
  have s1 := sv_add (sv_add u v (by decide) (by decide) (by omega)) (w.more (Nat.le_refl _) (Nat.le_succ _)) (by decide) (by decide) (by omega)
  have m : ∀ {e e' p p' : Nat}, SV (j + j) 642 1271 e e' → SV 0 932 1165 p p' → SV (j + j) 500 1362 (fmul e p) (fmul e' p') := fun he hp => sv_mul (c := 1074) (i := j + j) (j := 0) rfl he hp (by decide) (by decide) (by decide) (by decide) (by decide) (by decide) (by omega) (by omega) (by omega)
  have n1 := m u (pZ_sv hj hr a hz h0)
  have n2 := m v (pZ_sv hj hr b hz h0)
  have n3 := m w (pZ_sv hj hr c hz h0)
  have n := sv_add (sv_add n1 n2 (by decide) (by decide) (by omega)) (n3.more (Nat.le_refl _) (Nat.le_succ _)) (by decide) (by decide) (by omega)
  exact sc0_eq (sv_div (c := 1074) (j := j + j) (k' := 0) (r := 1796) (q := 301) rfl n s1 (t2 h) (by decide) (by decide) (by decide) (by decide) (by decide) (by decide) (by omega) (by omega) (by decide)).sc (fdiv_lt _ _) (fdiv_lt _ _)

/-! ### Roots from below -/
theorem rootFrom_ge (n : Nat) : ∀ (k x : Nat), x ≤ Ieee.Datum.rootFrom n k x
  | 0, x => Nat.le_refl _
  | k + 1, x => by
    unfold Ieee.Datum.rootFrom
    refine Nat.le_trans ?_ (rootFrom_ge n k _)
    split
    · exact Nat.le_add_right _ _
    · exact Nat.le_refl _
theorem rootFrom_low {n t : Nat} (h : 2 ^ (t + t) ≤ n) : 2 ^ t ≤ Ieee.Datum.rootFrom n (t + 1) 0 := by
  unfold Ieee.Datum.rootFrom
  refine Nat.le_trans ?_ (rootFrom_ge n t _)
  simp only [Nat.zero_add, Nat.shiftLeft_eq, Nat.one_mul]
  rw [if_pos (by rw [← Nat.pow_add]; exact h)]
  exact Nat.le_refl _
theorem rootW_low {m : Nat} (hm : m ≠ 0) (hl : m.log2 ≤ 108) (i : Int) : 2 ^ 55 ≤ rootW m i := by
  have e := rootM_log hm i
  have hq : ((i - ((108 - m.log2 : Nat) : Int)) % 2).toNat ≤ 1 := by omega
  have hM : (rootM m i).log2 = 108 ∨ (rootM m i).log2 = 109 := by omega
  have hne : rootM m i ≠ 0 := fun h => by rw [h] at hM; rcases hM with h | h <;> exact absurd h (by decide)
  have h2 : 2 ^ (54 + 54) ≤ rootM m i := by
    refine Nat.le_trans ?_ (Nat.log2_self_le hne)
    exact Nat.pow_le_pow_right (by decide) (by omega)
  have h3 : (rootM m i).log2 / 2 + 1 = 54 + 1 := by omega
  have h4 := rootFrom_low h2
  unfold rootW
  rw [h3]
  have p : 2 ^ 55 = 2 * 2 ^ 54 := by decide
  omega
theorem sqrt_low {x : Nat} {a b : Nat} (ha : a = 1054) (hb : b = 1063) (fx : isFin x = true) (hs : sgn x = false) (h : 2 ^ a ≤ (val x).natAbs) (f : isFin (fsqrt x) = true) : 2 ^ b ≤ (val (fsqrt x)).natAbs := by
  obtain ⟨m, i, hr, hi, hm2, hv⟩ := read_fin fx
  have m0 : m ≠ 0 := fun e => by
    rw [val_abs, hv, e, Nat.zero_mul] at h
    have := Nat.two_pow_pos a
    omega
  have hl : m.log2 ≤ 52 := by
    have := (Nat.log2_lt m0).2 (show m < 2 ^ 53 from hm2)
    omega
  have hL : (a : Int) ≤ m.log2 + i + 1074 := by
    rw [val_abs, hv] at h
    have h1 : m < 2 ^ (m.log2 + 1) := Nat.lt_log2_self
    have h2 : 2 ^ a < 2 ^ (m.log2 + 1 + (i + 1074).toNat) := by
      rw [Nat.pow_add]
      exact Nat.lt_of_le_of_lt h (Nat.mul_lt_mul_of_pos_right h1 (Nat.two_pow_pos _))
    have h3 := (Nat.pow_lt_pow_iff_right (by decide)).1 h2
    omega
  rw [hs] at hr
  have e := fsqrt_text hr m0
  have hW := rootW_low m0 (by omega) i
  have hE : -66 ≤ rootE m i := by
    unfold rootE
    have h1 : ((i - ((108 - m.log2 : Nat) : Int)) % 2).toNat ≤ 1 := by omega
    generalize ((i - ((108 - m.log2 : Nat) : Int)) % 2).toNat = q at *
    omega
  generalize rootW m i = Wd at *
  generalize rootE m i = E at *
  obtain ⟨u, hu⟩ : ∃ u : Nat, E + 1074 = (u : Int) := ⟨(E + 1074).toNat, by omega⟩
  have ek : key (fsqrt x) = KR ((Wd * 2 ^ u : Nat) : Int) 1 := by
    rw [e]
    refine key_nearest (u := u) (w := 0) (by decide) (by omega) ?_ ?_
    · rw [Int.natAbs_natCast, Nat.pow_zero]
    · intro _; rw [decide_eq_false (by omega)]
  refine low_of (by omega) (by decide) ek f ?_
  rw [Nat.mul_one, Int.natAbs_natCast]
  refine Nat.le_trans ?_ (Nat.mul_le_mul_right _ hW)
  rw [← Nat.pow_add]
  exact pow_le_pow' (by omega)

/-! ### A plate -/
def unP (p : Nat → Nat) : Nat → Nat := fun i => fdiv (p i) (fsqrt (dotP p p))
theorem sv_self {k n x : Nat} (hg : Gr k x) (hb : Bd n x) (hk : 52 ≤ k) (hn : n ≤ 2097) : SV 0 k n x x := by
  refine ⟨⟨rfl, hb.fin hn, hb.fin hn, ?_⟩, hg, hb⟩
  by_cases h : rung x = 0
  · exact Or.inl ⟨h, h⟩
  · right
    refine ⟨?_, by omega⟩
    have h1 := (hg.mono hk).low (fun e => h (val_zero.1 e))
    rw [val_abs] at h1
    rcases Nat.lt_or_ge (rung x) (2 ^ 52) with g | g
    · have : rv 52 (rung x) = rung x := by unfold rv; rw [if_pos g]
      omega
    · exact g
/-- A direction that may be made of thousandths: nought, or not too small. -/
structure Bp (p : Nat → Nat) : Prop where
  s : Us 0 3 p p
  low : val (p 0) ≠ 0 ∨ val (p 1) ≠ 0 ∨ val (p 2) ≠ 0
  big : ∀ i, i < 3 → val (p i) ≠ 0 → ∀ c, c = 1064 → 2 ^ c ≤ (val (p i)).natAbs
theorem bp_dot {p : Nat → Nat} (h : Bp p) {a : Nat} (ha : a = 1054) : SV 0 926 1098 (dotP p p) (dotP p p) ∧ 0 < key (dotP p p) ∧ 2 ^ a ≤ (val (dotP p p)).natAbs := by
  obtain ⟨c, hc⟩ : ∃ c, c = 1074 := ⟨_, rfl⟩
  obtain ⟨b, hb⟩ : ∃ b, b = 1064 := ⟨_, rfl⟩
  have d := sv_dot (i := 0) (j := 0) (q := 926) (r := 1096) h.s h.s (by decide) (by decide) (by decide) (by decide) (by decide) (by decide) (by decide) (by decide) (by decide)
  obtain ⟨k, f⟩ := dot_ne (k := 1000) (n := 1085) (fun i hi => (h.s i hi).gr) (fun i hi => (h.s i hi).bd) (by decide) (by decide) (by decide) h.low
  refine ⟨d, k, ?_⟩
  have fp : ∀ i, i < 3 → isFin (p i) = true := fun i hi => (h.s i hi).sc.fx
  have bm : ∀ i, i < 3 → Bd 1096 (fmul (p i) (p i)) := fun i hi => bd_mul (c := 1074) rfl (h.s i hi).bd (h.s i hi).bd (by decide) (by decide) (by decide) (by decide) (by decide) (by decide)
  have fm : ∀ i, i < 3 → isFin (fmul (p i) (p i)) = true := fun i hi => (bm i hi).fin (by decide)
  have s : ∀ i (hi : i < 3), 0 ≤ key (fmul (p i) (p i)) ∧ (val (p i) ≠ 0 → 0 < key (fmul (p i) (p i))) := fun i hi => sq_key (fp i hi) (h.s i hi).gr (by decide) (fm i hi)
  have lo : ∀ i, i < 3 → val (p i) ≠ 0 → ((2 ^ a : Nat) : Int) ≤ val (fmul (p i) (p i)) := fun i hi hne => by
    have b1 := h.big i hi hne b hb
    have : 2 ^ a ≤ (val (fmul (p i) (p i))).natAbs := by
      refine low_of (by omega) (Nat.two_pow_pos c) (key_mul hc (fp i hi) (fp i hi)).1 (fm i hi) ?_
      rw [Int.natAbs_mul, ← Nat.pow_add, show a + c = b + b by omega, Nat.pow_add]
      exact Nat.mul_le_mul b1 b1
    have pos := val_pos.2 ((s i hi).2 hne)
    omega
  have b1 := bd_add (bm 0 (by decide)) (bm 1 (by decide)) (by decide) (by decide)
  have f1 := b1.fin (by decide)
  have ab : ∀ x y, isFin x = true → isFin y = true → 0 ≤ key y → val x ≤ val (fadd x y) := fun x y hx hy h => val_le.2 (add_above hx hy h)
  have ab2 : ∀ x y, isFin x = true → isFin y = true → 0 ≤ key x → val y ≤ val (fadd x y) := fun x y hx hy h => by
    refine val_le.2 ?_
    rw [(key_add hx hy).1, ← KR_val hy]
    refine KR_mono 1 ?_
    have : 0 ≤ val x := by
      rcases Int.lt_or_le (val x) 0 with e | e
      · have := val_negative.1 e; omega
      · exact e
    omega
  have a1 := ab _ _ (fm 0 (by decide)) (fm 1 (by decide)) (s 1 (by decide)).1
  have a2 := ab _ _ f1 (fm 2 (by decide)) (s 2 (by decide)).1
  have c1 := ab2 _ _ (fm 0 (by decide)) (fm 1 (by decide)) (s 0 (by decide)).1
  have k1 := add_above (fm 0 (by decide)) (fm 1 (by decide)) (s 1 (by decide)).1
  have c2 := ab2 _ _ f1 (fm 2 (by decide)) (by have := (s 0 (by decide)).1; omega)
  have key1 : ((2 ^ a : Nat) : Int) ≤ val (dotP p p) := by
    show _ ≤ val (fadd (fadd (fmul (p 0) (p 0)) (fmul (p 1) (p 1))) (fmul (p 2) (p 2)))
    rcases h.low with e | e | e
    · have := lo 0 (by decide) e; omega
    · have := lo 1 (by decide) e; omega
    · have := lo 2 (by decide) e; omega
  omega
theorem bp_len {p : Nat → Nat} (h : Bp p) : Gr 1011 (fsqrt (dotP p p)) ∧ Bd 1087 (fsqrt (dotP p p)) ∧ isFin (fsqrt (dotP p p)) = true ∧ val (fsqrt (dotP p p)) ≠ 0 ∧ feq (fsqrt (dotP p p)) 0 = false := by
  obtain ⟨a, ha⟩ : ∃ a, a = 1054 := ⟨_, rfl⟩
  obtain ⟨b, hb⟩ : ∃ b, b = 1063 := ⟨_, rfl⟩
  obtain ⟨d, k, l⟩ := bp_dot h ha
  have hs : sgn (dotP p p) = false := by rw [key_sgn (by omega), decide_eq_false (by omega)]
  have bd := bd_sqrt (k := 1087) d.bd (by decide) (by decide) (Or.inr hs) (by decide) (by decide)
  have f := bd.fin (by decide)
  have lw := sqrt_low ha hb d.sc.fx hs l f
  have ne : val (fsqrt (dotP p p)) ≠ 0 := fun e => by
    rw [e] at lw
    have := Nat.two_pow_pos b
    simp at lw
  have g := gr_low (n := b) (by omega) (Or.inl lw)
  rw [hb] at g
  exact ⟨g, bd, f, ne, by rw [feq_z (fin_not_nan f), decide_eq_false ne]⟩
theorem un_sv {p : Nat → Nat} (h : Bp p) : ∀ i, i < 3 → SV 0 930 1148 (unP p i) (unP p i) := fun i hi => by
  obtain ⟨g, b, f, n, _⟩ := bp_len h
  exact (sv_div (c := 1074) (j := 0) (k' := 0) (r := 1148) (q := 987) rfl (h.s i hi) (sv_self g b (by decide) (by decide)) n (by decide) (by decide) (by decide) (by decide) (by decide) (by decide) (by decide) (by decide) (by decide)).more (by decide) (by decide)
def plD (s r : Nat → Nat) : Nat := dotP (unP (vB s)) (vB r)
def plT (s r : Nat → Nat) : Nat := fdiv (dotP (unP (vB s)) (fun i => fsub (s i) (r i))) (plD s r)
def plQ (s r : Nat → Nat) : Nat → Nat := fun i => fsub (fadd (r i) (fmul (r (3 + i)) (plT s r))) (s i)
def plOk (s r : Nat → Nat) : Bool := cond (feq (plD s r) 0) false (fle (dotP (plQ s r) (plQ s r)) (fmul (s 9) (s 9)))
theorem plate_same {j : Nat} {s x r q : Nat → Nat} (hj : j ≤ 3) (hs : Us j 3 s x) (hR : U j (s 9) (x 9)) (hB : ∀ i, i < 3 → x (3 + i) = s (3 + i)) (hb : Bp (vB s)) (hr : Us j 6 r q) : plOk s r = plOk x q ∧ (feq (plD s r) 0 = false → plT s r = plT x q) := by
  have eU : ∀ i, i < 3 → unP (vB x) i = unP (vB s) i := fun i hi => by
    have e : dotP (vB x) (vB x) = dotP (vB s) (vB s) := by unfold dotP vB; rw [hB 0 (by decide), hB 1 (by decide), hB 2 (by decide)]
    unfold unP; rw [e]; unfold vB; rw [hB i hi]
  have hU : ∀ i, i < 3 → SV 0 930 1148 (unP (vB s) i) (unP (vB x) i) := fun i hi => by rw [eU i hi]; exact un_sv hb i hi
  have d := sv_dot (i := 0) (j := j) (q := 856) (r := 1159) (s := vB r) (s' := vB q) hU (fun i hi => hr (3 + i) (by omega)) (by decide) (by decide) (by decide) (by decide) (by decide) (by decide) (by decide) (by omega) (by omega)
  have ad : ∀ i, i < 3 → SV j 1000 1086 (fsub (s i) (r i)) (fsub (x i) (q i)) := fun i hi => sv_sub (hs i hi) (hr i (by omega)) (by decide) (by decide) (by omega)
  have n := sv_dot (i := 0) (j := j) (q := 856) (r := 1160) (s := fun i => fsub (s i) (r i)) (s' := fun i => fsub (x i) (q i)) hU ad (by decide) (by decide) (by decide) (by decide) (by decide) (by decide) (by decide) (by omega) (by omega)
  have ed : feq (plD x q) 0 = feq (plD s r) 0 := sc_feq d.sc (sc_zero _)
  cases h0 : feq (plD s r) 0
  · have hne : val (plD s r) ≠ 0 := fun e => by
      rw [feq_z (show isNan (plD s r) = false from d.sc.nanx)] at h0
      exact absurd e (of_decide_eq_false h0)
    have t := sv_div (c := 1074) (j := 0 + j) (k' := 0) (r := 1380) (q := 769) rfl n d hne (by decide) (by decide) (by decide) (by decide) (by decide) (by decide) (by omega) (by omega) (by decide)
    refine ⟨?_, fun _ => sc0_eq t.sc (fdiv_lt _ _) (fdiv_lt _ _)⟩
    have hq : ∀ i, i < 3 → SV j 643 1393 (plQ s r i) (plQ x q i) := fun i hi => by
      have m := sv_mul (c := 1074) (i := j) (j := 0) (q := 643) (r := 1391) rfl (hr (3 + i) (by omega)) t (by decide) (by decide) (by decide) (by decide) (by decide) (by decide) (by omega) (by decide) (by omega)
      have a := sv_add ((hr i (by omega)).more (k' := 643) (n' := 1391) (by decide) (by decide)) m (by decide) (by decide) (by omega)
      exact sv_sub a ((hs i hi).more (by decide) (by decide)) (by decide) (by decide) (by omega)
    have qq := sv_dot (i := j) (j := j) (q := 212) (r := 1712) hq hq (by decide) (by decide) (by decide) (by decide) (by decide) (by decide) (by omega) (by omega) (by omega)
    have rr := sv_mul (c := 1074) (q := 926) (r := 1096) rfl hR hR (by decide) (by decide) (by decide) (by decide) (by decide) (by decide) (by omega) (by omega) (by omega)
    unfold plOk
    rw [ed, h0]
    exact (sc_fle qq.sc rr.sc).symm
  · refine ⟨?_, fun e => by cases e⟩
    unfold plOk
    rw [ed, h0]; rfl
end Go.Proofs.YtfdfnnmgpjamdaiGreat
