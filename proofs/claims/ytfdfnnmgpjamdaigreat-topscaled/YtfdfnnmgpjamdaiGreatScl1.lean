/-
  Floats that are so many times as great: the same words where they must be; where a ray meets a box that is so many times as great. Of no particular program.
-/
import Derived.Test.YtfdfnnmgpjamdaiGreatSthou
import Derived.Test.YtfdfnnmgpjamdaiGreatQuad3
namespace Go.Proofs.YtfdfnnmgpjamdaiGreat
open Go.Ev

/-! ### Words -/
theorem word_lt (s : Bool) {r : Nat} (h : r ≤ 9218868437227405312) : Ieee.double.word s r < 18446744073709551616 := by
  unfold Ieee.Format.word; rw [signW]; split <;> omega
theorem nearest_lt (s : Bool) (m : Nat) (p : Int) : Ieee.double.nearest s m p < 18446744073709551616 := by
  unfold Ieee.Format.nearest
  split
  · exact word_lt s (by omega)
  · exact word_lt s (by rw [← infR]; exact Nat.min_le_right _ _)
theorem write_lt {d : Ieee.Datum} (h : d.isNaN = false) : Ieee.double.write d < 18446744073709551616 := by
  cases d with
  | number s m p => exact nearest_lt s m p
  | infinity s => exact word_lt s (by rw [infR]; omega)
  | nan s f => simp [Ieee.Datum.isNaN] at h
theorem fdiv_lt (x y : Nat) : fdiv x y < 18446744073709551616 := by
  unfold fdiv Ieee.Format.div
  cases h : (Ieee.double.read x).quotient (Ieee.double.fractionBits + 2) (Ieee.double.read y) with
  | none => show nanB < _; decide
  | some d => exact write_lt (isNaN_quotient h)
theorem sc0_eq {x y : Nat} (h : Sc 0 x y) (hx : x < 18446744073709551616) (hy : y < 18446744073709551616) : x = y := by
  have a := h.s
  have b : rung x = rung y := by rcases h.r with ⟨a, b⟩ | ⟨_, b⟩ <;> omega
  unfold sgn at a
  unfold rung at b
  have hx2 : x / 9223372036854775808 = 0 ∨ x / 9223372036854775808 = 1 := by omega
  have hy2 : y / 9223372036854775808 = 0 ∨ y / 9223372036854775808 = 1 := by omega
  have e : x / 9223372036854775808 = y / 9223372036854775808 := by
    rcases hx2 with e1 | e1 <;> rcases hy2 with e2 | e2 <;> rw [e1, e2] at a ⊢ <;> first | rfl | (exact absurd a (by decide))
  omega
theorem sc_fneg {j x y : Nat} (h : Sc j x y) : Sc j (fneg x) (fneg y) := by
  have key1 : ∀ {x : Nat}, isFin x = true → sgn (fneg x) = !sgn x ∧ rung (fneg x) = rung x ∧ isFin (fneg x) = true := by
    intro x fx
    have e : fneg x = x ^^^ 9223372036854775808 := by unfold fneg; rw [fin_not_nan fx]; rfl
    have hb : (x ^^^ 9223372036854775808) % 9223372036854775808 = x % 9223372036854775808 := by
      rw [show (9223372036854775808 : Nat) = 2 ^ 63 from by decide]
      rw [Nat.xor_mod_two_pow, Nat.mod_self]; simp
    have hs : sgn (x ^^^ 9223372036854775808) = !sgn x := by
      unfold sgn
      have : (x ^^^ 9223372036854775808) / 9223372036854775808 = x / 9223372036854775808 ^^^ 1 := by
        rw [show (9223372036854775808 : Nat) = 2 ^ 63 from by decide, ← Nat.shiftRight_eq_div_pow, ← Nat.shiftRight_eq_div_pow, Nat.shiftRight_xor_distrib]
        rfl
      rw [this]
      have h2 : (x / 9223372036854775808 ^^^ 1) % 2 = (x / 9223372036854775808 % 2) ^^^ 1 := by
        rw [show (2 : Nat) = 2 ^ 1 from rfl, Nat.xor_mod_two_pow]
      rw [h2]
      have : x / 9223372036854775808 % 2 = 0 ∨ x / 9223372036854775808 % 2 = 1 := by omega
      rcases this with e | e <;> rw [e] <;> rfl
    have hr : rung (x ^^^ 9223372036854775808) = rung x := hb
    rw [e, hs]
    exact ⟨rfl, hr, by unfold isFin at *; rw [hr]; exact fx⟩
  obtain ⟨a1, a2, a3⟩ := key1 h.fx
  obtain ⟨b1, b2, b3⟩ := key1 h.fy
  exact ⟨by rw [a1, b1, h.s], a3, b3, by rw [a2, b2]; exact h.r⟩
theorem rung_fneg {x : Nat} (h : isFin x = true) : rung (fneg x) = rung x := by
  have := key_fneg (fin_not_nan h)
  have a := key_abs (fneg x)
  have b := key_abs x
  rw [this.1, Int.natAbs_neg] at a
  omega
theorem sv_fneg {j k n x y : Nat} (h : SV j k n x y) : SV j k n (fneg x) (fneg y) := by
  refine ⟨sc_fneg h.sc, ?_, ?_⟩
  · have := h.gr; unfold Gr at *; rw [val_abs, rung_fneg h.sc.fx, ← val_abs]; exact this
  · have := h.bd; unfold Bd at *; rw [rung_fneg h.sc.fx]; exact this
theorem feq_z {x : Nat} (h : isNan x = false) : feq x 0 = decide (val x = 0) := by
  rw [feq_key h nan_z, key_z]
  refine decide_eq_decide.2 ?_
  rw [key_zero, val_zero]

/-! ### Where a ray meets a box -/
abbrev W (j x y : Nat) : Prop := SV j 1000 1090 x y
theorem quo_eq {j l o d l' o' d' : Nat} (hj : j ≤ 3) (hl : W j l l') (ho : W j o o') (hd : W j d d') (h0 : val d ≠ 0) : fdiv (fsub l o) d = fdiv (fsub l' o') d' := by
  have a := sv_sub hl ho (by decide) (by decide) (by omega)
  have b := sv_div (c := 1074) (j := j) (k' := 0) (r := 1165) (q := 984) rfl a hd h0 (by decide) (by decide) (by decide) (by decide) (by decide) (by decide) (by omega) (by omega) (by decide)
  exact sc0_eq b.sc (fdiv_lt _ _) (fdiv_lt _ _)
theorem cut_same {j lo hi o d lo' hi' o' d' : Nat} (hj : j ≤ 3) (hl : W j lo lo') (hh : W j hi hi') (ho : W j o o') (hd : W j d d') :
    cutOk lo hi o d = cutOk lo' hi' o' d' ∧ (∀ n, cutN lo hi o d n = cutN lo' hi' o' d' n) ∧ ∀ n, cutF lo hi o d n = cutF lo' hi' o' d' n := by
  unfold cutOk cutN cutF cutA cutB
  rw [sc_feq hd.sc (sc_zero j), sc_flt hd.sc (sc_zero j), sc_fge ho.sc hl.sc, sc_fle ho.sc hh.sc]
  refine ⟨rfl, ?_⟩
  rw [feq_z hd.sc.nanx]
  by_cases h0 : val d = 0
  · rw [decide_eq_true h0]; exact ⟨fun _ => rfl, fun _ => rfl⟩
  · rw [quo_eq hj hl ho hd h0, quo_eq hj hh ho hd h0]; exact ⟨fun _ => rfl, fun _ => rfl⟩
/-- All numbers so many times as great. -/
def Ws (j m : Nat) (p q : Nat → Nat) : Prop := ∀ i, i < m → W j (p i) (q i)
theorem meet_scaled {j : Nat} {b r b' r' : Nat → Nat} (hj : j ≤ 3) (hb : Ws j 6 b b') (hr : Ws j 6 r r') (hl : r 6 = r' 6) (h1 : badS b r = false) (h2 : badS b' r' = false) :
    meetK b r = meetK b' r' ∧ meetN b r = meetN b' r' ∧ meetF b r = meetF b' r' := by
  obtain ⟨k0, n0, f0⟩ := cut_same hj (hb 0 (by decide)) (hb 3 (by decide)) (hr 0 (by decide)) (hr 3 (by decide))
  obtain ⟨k1, n1, f1⟩ := cut_same hj (hb 1 (by decide)) (hb 4 (by decide)) (hr 1 (by decide)) (hr 4 (by decide))
  obtain ⟨k2, n2, f2⟩ := cut_same hj (hb 2 (by decide)) (hb 5 (by decide)) (hr 2 (by decide)) (hr 5 (by decide))
  have a1 : m1K b r = m1K b' r' := k0
  have a2 : m1N b r = m1N b' r' := by unfold m1N; rw [n0, hl]
  have a3 : m1F b r = m1F b' r' := by unfold m1F; rw [f0]
  have b1 : m2K b r = m2K b' r' := by unfold m2K; rw [a1, k1]
  have b2 : m2N b r = m2N b' r' := by unfold m2N; rw [a1, a2, n1]
  have b3 : m2F b r = m2F b' r' := by unfold m2F; rw [a1, a3, f1]
  have c1 : m3K b r = m3K b' r' := by unfold m3K; rw [b1, k2]
  have c2 : m3N b r = m3N b' r' := by unfold m3N; rw [b1, b2, n2]
  have c3 : m3F b r = m3F b' r' := by unfold m3F; rw [b1, b3, f2]
  have hk : meetK b r = meetK b' r' := by unfold meetK missS; rw [h1, h2, c1, c2, c3]
  refine ⟨hk, ?_, ?_⟩
  · unfold meetN; rw [hk, c2]
  · unfold meetF; rw [hk, c3]

/-! ### Products -/
def dotP (p q : Nat → Nat) : Nat := dotS (p 0) (p 1) (p 2) (q 0) (q 1) (q 2)
theorem sv_dot {i j k l n m q r : Nat} {p p' s s' : Nat → Nat} (hp : ∀ i', i' < 3 → SV i k n (p i') (p' i')) (hs : ∀ i', i' < 3 → SV j l m (s i') (s' i')) (hq : q + 1074 = k + l) (hr : r + 1074 = n + m) (hq2 : 52 ≤ q) (hr2 : 52 ≤ r) (hn : 52 ≤ n) (hm : 52 ≤ m) (h1 : n + i ≤ 2090) (h2 : m + j ≤ 2090) (h3 : r + 2 + i + j ≤ 2090) :
    SV (i + j) q (r + 2) (dotP p s) (dotP p' s') := by
  have f : ∀ t, t < 3 → SV (i + j) q r (fmul (p t) (s t)) (fmul (p' t) (s' t)) := fun t ht => sv_mul (c := 1074) rfl (hp t ht) (hs t ht) hq hr hq2 hr2 hn hm h1 h2 (by omega)
  exact sv_add (sv_add (f 0 (by decide)) (f 1 (by decide)) hq2 hr2 (by omega)) ((f 2 (by decide)).more (Nat.le_refl _) (Nat.le_succ _)) hq2 (by omega) (by omega)
/-- The square of what isn't nought is above it. -/
theorem sq_key {k x : Nat} (fx : isFin x = true) (g : Gr k x) (hk : 700 ≤ k) (f : isFin (fmul x x) = true) : 0 ≤ key (fmul x x) ∧ (val x ≠ 0 → 0 < key (fmul x x)) := by
  obtain ⟨c, hc⟩ : ∃ c, c = 1074 := ⟨_, rfl⟩
  obtain ⟨e, _⟩ := key_mul hc fx fx
  have hp : 0 ≤ val x * val x := by
    rcases Int.le_total 0 (val x) with h | h
    · exact Int.mul_nonneg h h
    · have := Int.mul_nonneg (show 0 ≤ -(val x) by omega) (show 0 ≤ -(val x) by omega)
      rwa [Int.neg_mul_neg] at this
  have h0 : 0 ≤ key (fmul x x) := by rw [e]; exact KR_sign.1 hp
  refine ⟨h0, fun hx => ?_⟩
  obtain ⟨n, hn⟩ : ∃ n, n + c = k + k := ⟨k + k - c, by omega⟩
  obtain ⟨_, lw⟩ := gr_mul hc g g hn (by omega) fx fx f
  have hne : val x * val x ≠ 0 := fun h => (Int.mul_eq_zero.1 h).elim hx hx
  have lw := lw hne
  have := low_of (l := 52) (by decide) (Nat.two_pow_pos c) e f ((Nat.le_div_iff_mul_le (Nat.two_pow_pos c)).1 lw)
  rw [val_abs] at this
  have h3 := key_abs (fmul x x)
  have h4 : rung (fmul x x) ≠ 0 := fun e => by rw [e, rv_zero] at this; have := Nat.two_pow_pos 52; omega
  omega
theorem dot_ne {k n : Nat} {p : Nat → Nat} (hg : ∀ i, i < 3 → Gr k (p i)) (hb : ∀ i, i < 3 → Bd n (p i)) (hk : 700 ≤ k) (hn : 1074 ≤ n) (hn2 : n ≤ 1500) (h : val (p 0) ≠ 0 ∨ val (p 1) ≠ 0 ∨ val (p 2) ≠ 0) : 0 < key (dotP p p) ∧ isFin (dotP p p) = true := by
  have fp : ∀ i, i < 3 → isFin (p i) = true := fun i hi => (hb i hi).fin (by omega)
  have bm : ∀ i, i < 3 → Bd (n + n - 1074) (fmul (p i) (p i)) := fun i hi => bd_mul (c := 1074) rfl (hb i hi) (hb i hi) (by omega) (by omega) (by omega) (by omega) (by omega) (by omega)
  have fm : ∀ i, i < 3 → isFin (fmul (p i) (p i)) = true := fun i hi => (bm i hi).fin (by omega)
  have s : ∀ i (hi : i < 3), 0 ≤ key (fmul (p i) (p i)) ∧ (val (p i) ≠ 0 → 0 < key (fmul (p i) (p i))) := fun i hi => sq_key (fp i hi) (hg i hi) hk (fm i hi)
  have b1 := bd_add (bm 0 (by decide)) (bm 1 (by decide)) (by omega) (by omega)
  have f1 := b1.fin (by omega)
  have b2 := bd_add b1 ((bm 2 (by decide)).mono (Nat.le_succ _)) (by omega) (by omega)
  have a1 := add_above (fm 0 (by decide)) (fm 1 (by decide)) (s 1 (by decide)).1
  have a2 := add_above f1 (fm 2 (by decide)) (s 2 (by decide)).1
  have comm : ∀ x y, isFin x = true → isFin y = true → 0 ≤ key x → key y ≤ key (fadd x y) := fun x y hx hy h => by
    rw [(key_add hx hy).1, ← KR_val hy]
    refine KR_mono 1 ?_
    have : 0 ≤ val x := by
      rcases Int.lt_or_le (val x) 0 with e | e
      · have := val_negative.1 e; omega
      · exact e
    omega
  have c1 := comm _ _ (fm 0 (by decide)) (fm 1 (by decide)) (s 0 (by decide)).1
  have c2 := comm _ _ f1 (fm 2 (by decide)) (by have := (s 0 (by decide)).1; omega)
  refine ⟨?_, b2.fin (by omega)⟩
  show 0 < key (fadd (fadd (fmul (p 0) (p 0)) (fmul (p 1) (p 1))) (fmul (p 2) (p 2)))
  rcases h with e | e | e
  · have := (s 0 (by decide)).2 e; omega
  · have := (s 1 (by decide)).2 e; omega
  · have := (s 2 (by decide)).2 e; omega

/-! ### About -/
def abE (o d : Nat → Nat) (R : Nat) : Nat := fsub (fmul (dotP o d) (dotP o d)) (fmul (dotP d d) (fsub (dotP o o) (fmul R R)))
def abI (o d : Nat → Nat) (R : Nat) : Nat := fdiv (fsub (fneg (dotP o d)) (fsqrt (abE o d R))) (dotP d d)
def abO (o d : Nat → Nat) (R : Nat) : Nat := fdiv (fadd (fneg (dotP o d)) (fsqrt (abE o d R))) (dotP d d)
theorem ge_sgn {x : Nat} (h : fge x 0 = true) : rung x = 0 ∨ sgn x = false := by
  obtain ⟨_, _, a⟩ := fge_true h
  rw [key_z] at a
  by_cases e : rung x = 0
  · exact Or.inl e
  · right
    have hk := key_abs x
    rw [key_sgn (by omega), decide_eq_false (by omega)]
theorem about_same {j : Nat} {o d o' d' : Nat → Nat} {R R' : Nat} (hj : j ≤ 3) (ho : ∀ i, i < 3 → SV j 1000 1091 (o i) (o' i)) (hd : Ws j 3 d d') (hR : W j R R') (hne : val (d 0) ≠ 0 ∨ val (d 1) ≠ 0 ∨ val (d 2) ≠ 0) :
    fge (abE o d R) 0 = fge (abE o' d' R') 0 ∧ (fge (abE o d R) 0 = true → abI o d R = abI o' d' R' ∧ abO o d R = abO o' d' R') := by
  have hd1 : ∀ i, i < 3 → SV j 1000 1091 (d i) (d' i) := fun i hi => (hd i hi).more (Nat.le_refl _) (Nat.le_succ _)
  have a := sv_dot (q := 926) (r := 1108) hd1 hd1 (by decide) (by decide) (by decide) (by decide) (by decide) (by decide) (by omega) (by omega) (by omega)
  have h := sv_dot (q := 926) (r := 1108) ho hd1 (by decide) (by decide) (by decide) (by decide) (by decide) (by decide) (by omega) (by omega) (by omega)
  have c0 := sv_dot (q := 926) (r := 1108) ho ho (by decide) (by decide) (by decide) (by decide) (by decide) (by decide) (by omega) (by omega) (by omega)
  have rr := sv_mul (c := 1074) (q := 926) (r := 1106) rfl hR hR (by decide) (by decide) (by decide) (by decide) (by decide) (by decide) (by omega) (by omega) (by omega)
  have c := sv_sub c0 (rr.more (Nat.le_refl _) (by decide)) (by decide) (by decide) (by omega)
  have hh := sv_mul (c := 1074) (q := 778) (r := 1146) rfl h h (by decide) (by decide) (by decide) (by decide) (by decide) (by decide) (by omega) (by omega) (by omega)
  have ac := sv_mul (c := 1074) (q := 778) (r := 1147) rfl a c (by decide) (by decide) (by decide) (by decide) (by decide) (by decide) (by omega) (by omega) (by omega)
  have e := sv_sub (hh.more (Nat.le_refl _) (by decide)) ac (by decide) (by decide) (by omega)
  have t : fge (abE o d R) 0 = fge (abE o' d' R') 0 := (sc_fge e.sc (sc_zero _)).symm
  refine ⟨t, fun hge => ?_⟩
  have e2 : SV (2 * (j + j)) 778 1148 (abE o d R) (abE o' d' R') := by rw [Nat.two_mul]; exact e
  have q := sv_sqrt (m := 1112) (c := 452) rfl e2 (ge_sgn hge) (by decide) (by omega) (by decide) (by decide) (by omega)
  have nh := (sv_fneg h).more (k' := 400) (n' := 1112) (by decide) (by decide)
  have p := sv_sub nh q (by decide) (by decide) (by omega)
  have p' := sv_add nh q (by decide) (by decide) (by omega)
  have ha : val (dotP d d) ≠ 0 := by
    have := (dot_ne (k := 1000) (n := 1091) (fun i hi => (hd1 i hi).gr) (fun i hi => (hd1 i hi).bd) (by decide) (by decide) (by decide) hne).1
    have := val_pos.2 this
    omega
  refine ⟨sc0_eq (sv_div (c := 1074) (j := j + j) (k' := 0) (r := 1261) (q := 364) rfl p a ha (by decide) (by decide) (by decide) (by decide) (by decide) (by decide) (by omega) (by omega) (by decide)).sc (fdiv_lt _ _) (fdiv_lt _ _),
    sc0_eq (sv_div (c := 1074) (j := j + j) (k' := 0) (r := 1261) (q := 364) rfl p' a ha (by decide) (by decide) (by decide) (by decide) (by decide) (by decide) (by omega) (by omega) (by decide)).sc (fdiv_lt _ _) (fdiv_lt _ _)⟩
end Go.Proofs.YtfdfnnmgpjamdaiGreat
