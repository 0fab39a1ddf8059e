/-
  What a shape that is made of raw numbers, and a ray, must be that Strike answers; and that they are so, times a power of two too. Of no particular program.
-/
import Derived.Test.YtfdfnnmgpjamdaiGreatScl3
namespace Go.Proofs.YtfdfnnmgpjamdaiGreat
open Go.Ev

def neZ (x : Nat) : Bool := !feq x 0
def onlyAt (z : Nat) (v : Nat → Nat) : Bool := (neZ (v 0) == (z == 0)) && ((neZ (v 1) == (z == 1)) && (neZ (v 2) == (z == 2)))
def unOk (p : Nat → Nat) : Bool := fineP p && !feq (fsqrt (dotP p p)) 0
def mayK (k z : Nat) (s : Nat → Nat) : Bool := match k with
  | 2 => !(cond (cond (fgt (s 0) (s 3)) true (fgt (s 1) (s 4))) true (fgt (s 2) (s 5)))
  | 3 => true
  | 4 => fgt (s 9) 0 && unOk (vB s)
  | 5 => onlyAt z (vB s) && fgt (s 9) 0
  | _ => fgt (s 9) 0
def skOk (sk : Int) : Bool := !(cond (decide (sk < 0)) true (decide (sk ≥ 16)))
def okS (k z : Nat) (sk : Int) (s r : Nat → Nat) : Bool := skOk sk && (fineP (vA s) && (fineP (vB s) && (fineP (vC s) && (nearS (s 9) && (nearS (s 10) && (mayK k z s && ((mayS (boxK k z s) == 0) && ((rayS r == 0) && (!(k == 3) || zS r == z)))))))))
theorem may_same {j k z : Nat} {s x r q : Nat → Nat} (h : Grown j k s x r q) : mayK k z x = mayK k z s := by
  have z0 := sc_zero j
  have eR : fgt (x 9) 0 = fgt (s 9) 0 := sc_fgt h.R.sc z0
  unfold mayK
  split
  · have g := h.six (by decide)
    rw [sc_fgt (g 0 (by decide)).sc (g 3 (by decide)).sc, sc_fgt (g 1 (by decide)).sc (g 4 (by decide)).sc, sc_fgt (g 2 (by decide)).sc (g 5 (by decide)).sc]
  · rfl
  · obtain ⟨e, _⟩ := h.b4 rfl
    have e0 : vB x 0 = vB s 0 := e 0 (by decide)
    have e1 : vB x 1 = vB s 1 := e 1 (by decide)
    have e2 : vB x 2 = vB s 2 := e 2 (by decide)
    unfold unOk fineP dotP
    rw [eR, e0, e1, e2]
  · have b := h.b (by decide)
    have n : ∀ i, i < 3 → neZ (vB x i) = neZ (vB s i) := fun i hi => by unfold neZ; rw [show feq (vB x i) 0 = feq (vB s i) 0 from sc_feq (b i hi).sc z0]
    unfold onlyAt
    rw [eR, n 0 (by decide), n 1 (by decide), n 2 (by decide)]
  · exact eR
theorem Grown.fine {j k : Nat} {s x r q : Nat → Nat} (h : Grown j k s x r q) : (fineP (vA s) = true ∧ fineP (vB s) = true ∧ fineP (vC s) = true ∧ nearS (s 9) = true) ∧ (fineP (vA x) = true ∧ fineP (vB x) = true ∧ fineP (vC x) = true ∧ nearS (x 9) = true) := by
  have n : ∀ {a b : Nat}, U j a b → Nr a ∧ Nr b := fun hu => hu.w.nr h.j3
  have B : ∀ i, i < 3 → Nr (s (3 + i)) ∧ Nr (x (3 + i)) := fun i hi => by
    by_cases hk : k = 4
    · obtain ⟨e, b⟩ := h.b4 hk
      have := (b.s i hi).w.nr (by decide)
      rw [e i hi]
      exact ⟨this.1, this.1⟩
    · exact n (h.b hk i hi)
  have A : ∀ i, i < 3 → Nr (s i) ∧ Nr (x i) := fun i hi => n (h.a i hi)
  have C : ∀ i, i < 3 → Nr (s (6 + i)) ∧ Nr (x (6 + i)) := fun i hi => n (h.c i hi)
  exact ⟨⟨fine_mk (A 0 (by decide)).1 (A 1 (by decide)).1 (A 2 (by decide)).1, fine_mk (B 0 (by decide)).1 (B 1 (by decide)).1 (B 2 (by decide)).1, fine_mk (C 0 (by decide)).1 (C 1 (by decide)).1 (C 2 (by decide)).1, near_of (n h.R).1⟩,
    fine_mk (A 0 (by decide)).2 (A 1 (by decide)).2 (A 2 (by decide)).2, fine_mk (B 0 (by decide)).2 (B 1 (by decide)).2 (B 2 (by decide)).2, fine_mk (C 0 (by decide)).2 (C 1 (by decide)).2 (C 2 (by decide)).2, near_of (n h.R).2⟩
theorem box_both' {j : Nat} {b b' : Nat → Nat} (hj : j ≤ 3) (h : Ws j 6 b b') (hl : (∀ i, i < 3 → key (b i) ≤ key (b (3 + i))) ∨ ∀ i, i < 3 → key (b' i) ≤ key (b' (3 + i))) : mayS b = 0 ∧ mayS b' = 0 := by
  rcases hl with hl | hl
  · exact box_both hj h hl
  · exact box_both hj h fun i hi => (le_both (h i (by omega)).sc (h (3 + i) (by omega)).sc).2 (hl i hi)
/-- Strike answers, and answers the same. -/
theorem grown_hit {j k z : Nat} {sk : Int} {s x r q : Nat → Nat} (h : Grown j k s x r q) (hsk : skOk sk = true) (q1 : nearS (s 10) = true) (q2 : nearS (x 10) = true) (hm : mayK k z s = true ∨ mayK k z x = true) (hb : (∀ i, i < 3 → key (boxK k z s i) ≤ key (boxK k z s (3 + i))) ∨ ∀ i, i < 3 → key (boxK k z x i) ≤ key (boxK k z x (3 + i)))
    (hr : rayS r = 0) (hq : rayS q = 0) (hz : k = 3 → zS r = z) : okS k z sk s r = true ∧ okS k z sk x q = true ∧ hitV k z s r = hitV k z x q := by
  obtain ⟨⟨a1, a2, a3, a4⟩, b1, b2, b3, b4⟩ := h.fine
  have em := may_same (z := z) h
  have m1 : mayK k z s = true := by
    rcases hm with e | e
    · exact e
    · rw [← em]; exact e
  have m2 : mayK k z x = true := by rw [em]; exact m1
  obtain ⟨c1, c2⟩ := box_both' h.j3 (h.box (z := z)) hb
  have zz : ∀ g : Nat → Nat, (k = 3 → zS g = z) → (!(k == 3) || zS g == z) = true := fun g hg => by
    by_cases e : k = 3
    · rw [hg e]; simp
    · have : (k == 3) = false := by simpa using e
      rw [this]; rfl
  have nz : rung (r 3) ≠ 0 ∨ rung (r 4) ≠ 0 ∨ rung (r 5) ≠ 0 := by
    have d := deep_ok hr
    have l := d.lt
    have n := d.nz
    have : zS r = 0 ∨ zS r = 1 ∨ zS r = 2 := by omega
    rcases this with e | e | e <;> rw [e] at n
    · exact Or.inl n
    · exact Or.inr (Or.inl n)
    · exact Or.inr (Or.inr n)
  refine ⟨?_, ?_, hit_same h (fun e => ?_) (by unfold badS; rw [c1, hr]; rfl) (by unfold badS; rw [c2, hq]; rfl) nz⟩
  · unfold okS; rw [hsk, a1, a2, a3, a4, q1, m1, c1, hr, zz r hz]; rfl
  · unfold okS; rw [hsk, b1, b2, b3, b4, q2, m2, c2, hq, zz q (fun e => by rw [zS_same h.ray]; exact hz e)]; rfl
  · have d := deep_ok hr
    rw [← hz e]
    exact ⟨d.lt, fun e => d.nz (val_zero.1 e)⟩

/-! ### Times a power of two -/
/-- Thousandths, and sums of two. -/
structure Base (x : Nat) : Prop where
  g : Gr 1012 x
  b : Bd 1078 x
theorem base_zero : Base 0 := ⟨(sv_zero 0 1012 1078).gr, (sv_zero 0 1012 1078).bd⟩
theorem base_thou {n : Int} (h1 : -8000 ≤ n) (h2 : n ≤ 8000) : Base (thouS n) := ⟨thou_gr (m := 1064) rfl (by omega) (by omega), (thou_bd (m := 1077) rfl h1 h2).mono (by decide)⟩
theorem base_sum {m n : Int} (h1 : -8000 ≤ m) (h2 : m ≤ 8000) (h3 : -8000 ≤ n) (h4 : n ≤ 8000) : Base (fadd (thouS m) (thouS n)) := by
  have b1 := thou_bd (m := 1077) rfl h1 h2
  have b2 := thou_bd (m := 1077) rfl h3 h4
  have b := bd_add b1 b2 (by decide) (by decide)
  exact ⟨(gr_add (k := 1012) (by decide) (thou_gr (m := 1064) rfl (by omega) (by omega)) (thou_gr (m := 1064) rfl (by omega) (by omega)) (b1.fin (by decide)) (b2.fin (by decide)) (b.fin (by decide))).1, b⟩
theorem base_one : Base 4607182418800017408 := by
  have e : (4607182418800017408 : Nat) = thouS 1000 := by decide +kernel
  rw [e]; exact base_thou (by decide) (by decide)
theorem base_cond {c : Bool} {x y : Nat} (hx : Base x) (hy : Base y) : Base (cond c x y) := by cases c <;> assumption
/-- Up, or down. -/
def pairU (up : Bool) (j x w : Nat) : Prop := cond up (U j x (fmul x w)) (U j (fmul x w) x)
def byW (up : Bool) (j : Nat) : Nat := cond up (pw (1074 + j)) (pw (1074 - j))
theorem base_u {up : Bool} {j x : Nat} (hj : j ≤ 3) (h : Base x) : cond up (U j x (fmul x (byW up j))) (U j (fmul x (byW up j)) x) := by
  cases up
  · exact (sv_down (c := 1074) (k := j) (n := 1078) (g := 1012 - j) rfl hj (h.b.fin (by decide)) (by rw [show 1012 - j + j = 1012 by omega]; exact h.g) (by omega) h.b (by decide) (by decide)).more (by omega) (by decide)
  · exact (sv_up (c := 1074) (k := j) (n := 1078) (g := 1012) rfl hj (h.b.fin (by decide)) h.g (by decide) h.b (by decide) (by decide)).more (by decide) (by decide)
def scS (k w : Nat) (s : Nat → Nat) : Nat → Nat := cond (k == 1 || k == 4)
  (ls [fmul (s 0) w, fmul (s 1) w, fmul (s 2) w, s 3, s 4, s 5, fmul (s 6) w, fmul (s 7) w, fmul (s 8) w, fmul (s 9) w, s 10])
  (ls [fmul (s 0) w, fmul (s 1) w, fmul (s 2) w, fmul (s 3) w, fmul (s 4) w, fmul (s 5) w, fmul (s 6) w, fmul (s 7) w, fmul (s 8) w, fmul (s 9) w, s 10])
def scR (w : Nat) (r : Nat → Nat) : Nat → Nat := ls [fmul (r 0) w, fmul (r 1) w, fmul (r 2) w, fmul (r 3) w, fmul (r 4) w, fmul (r 5) w, r 6]
/-- A shape, a ray: all of thousandths. -/
structure Plain (k z : Nat) (s r : Nat → Nat) : Prop where
  kk : k = 1 ∨ k = 2 ∨ k = 3 ∨ k = 4 ∨ k = 5
  ss : ∀ i, i < 10 → Base (s i)
  b1 : k = 1 → s 3 = 0 ∧ s 4 = 0 ∧ s 5 = 0
  b4 : k = 4 → Bp (vB s)
  q : s 10 = 0
  may : mayK k z s = true
  box : ∀ i, i < 3 → key (boxK k z s i) ≤ key (boxK k z s (3 + i))
  rr : ∀ i, i < 6 → Base (r i)
  far : ∀ i, i < 3 → FarR (r (3 + i))
  nz : rung (r 3) ≠ 0 ∨ rung (r 4) ≠ 0 ∨ rung (r 5) ≠ 0
  ln : Nr (r 6)
  lp : 0 ≤ key (r 6)
  z3 : k = 3 → zS r = z
theorem near_zero : nearS 0 = true := near_of nr_z where
  nr_z : Nr 0 := ⟨by decide +kernel, by decide +kernel, by decide +kernel⟩
theorem far_up {j x y : Nat} (h : Sc j x y) (f : FarR x) : FarR y := by
  have a := h.r
  have p := Nat.two_pow_pos 52
  unfold FarR at *
  generalize 2 ^ 52 = c at *
  obtain ⟨d, hd⟩ : ∃ d, d = j * c := ⟨_, rfl⟩
  rw [← hd] at a
  rcases a with ⟨a1, a2⟩ | ⟨a1, a2⟩ <;> omega
theorem nz_iff {j x y : Nat} (h : Sc j x y) : rung x ≠ 0 ↔ rung y ≠ 0 := by
  have a := h.r
  have p := Nat.two_pow_pos 52
  generalize 2 ^ 52 = c at *
  generalize j * c = d at *
  rcases a with ⟨a1, a2⟩ | ⟨a1, a2⟩ <;> omega
theorem grown_of {k z : Nat} {s r : Nat → Nat} (h : Plain k z s r) (up : Bool) {j : Nat} (hj : j ≤ 3) :
    cond up (Grown j k s (scS k (byW up j) s) r (scR (byW up j) r)) (Grown j k (scS k (byW up j) s) s (scR (byW up j) r) r) := by
  obtain ⟨w, hw⟩ : ∃ w, w = byW up j := ⟨_, rfl⟩
  have u : ∀ i, i < 10 → cond up (U j (s i) (fmul (s i) w)) (U j (fmul (s i) w) (s i)) := fun i hi => by rw [hw]; exact base_u hj (h.ss i hi)
  have v : ∀ i, i < 6 → cond up (U j (r i) (fmul (r i) w)) (U j (fmul (r i) w) (r i)) := fun i hi => by rw [hw]; exact base_u hj (h.rr i hi)
  have e0 : scS k w s 0 = fmul (s 0) w := by unfold scS; cases (k == 1 || k == 4) <;> rfl
  have e1 : scS k w s 1 = fmul (s 1) w := by unfold scS; cases (k == 1 || k == 4) <;> rfl
  have e2 : scS k w s 2 = fmul (s 2) w := by unfold scS; cases (k == 1 || k == 4) <;> rfl
  have e6 : scS k w s 6 = fmul (s 6) w := by unfold scS; cases (k == 1 || k == 4) <;> rfl
  have e7 : scS k w s 7 = fmul (s 7) w := by unfold scS; cases (k == 1 || k == 4) <;> rfl
  have e8 : scS k w s 8 = fmul (s 8) w := by unfold scS; cases (k == 1 || k == 4) <;> rfl
  have e9 : scS k w s 9 = fmul (s 9) w := by unfold scS; cases (k == 1 || k == 4) <;> rfl
  have bk : k ≠ 4 → ∀ i, i < 3 → cond up (U j (s (3 + i)) (scS k w s (3 + i))) (U j (scS k w s (3 + i)) (s (3 + i))) := fun hk => by
    by_cases h1 : k = 1
    · obtain ⟨z3, z4, z5⟩ := h.b1 h1
      have zz : cond up (U j 0 0) (U j 0 0) := by cases up <;> exact sv_zero _ _ _
      have f : ∀ i, i < 3 → scS k w s (3 + i) = 0 ∧ s (3 + i) = 0 := by
        subst h1
        exact three ⟨z3, z3⟩ ⟨z4, z4⟩ ⟨z5, z5⟩
      intro i hi
      rw [(f i hi).1, (f i hi).2]; exact zz
    · have ek : (k == 1 || k == 4) = false := by simp [h1, hk]
      have f : ∀ i, i < 3 → scS k w s (3 + i) = fmul (s (3 + i)) w := by
        unfold scS; rw [ek]
        exact three rfl rfl rfl
      intro i hi
      rw [f i hi]; exact u (3 + i) (by omega)
  have b4 : k = 4 → ∀ i, i < 3 → scS k w s (3 + i) = s (3 + i) := fun hk => by
    subst hk
    exact three rfl rfl rfl
  rw [← hw]
  cases up
  · exact ⟨hj, three (by rw [e0]; exact u 0 (by decide)) (by rw [e1]; exact u 1 (by decide)) (by rw [e2]; exact u 2 (by decide)), by rw [e9]; exact u 9 (by decide), bk,
      fun hk => ⟨fun i hi => (b4 hk i hi).symm, by
        have e : vB s = vB s := rfl
        have hb := h.b4 hk
        have p : ∀ i, i < 3 → vB (scS k w s) i = vB s i := fun i hi => b4 hk i hi
        refine ⟨fun i hi => by rw [p i hi]; exact hb.s i hi, ?_, fun i hi => by rw [p i hi]; exact hb.big i hi⟩
        rw [p 0 (by decide), p 1 (by decide), p 2 (by decide)]; exact hb.low⟩,
      three (by rw [e6]; exact u 6 (by decide)) (by rw [e7]; exact u 7 (by decide)) (by rw [e8]; exact u 8 (by decide)), six (v 0 (by decide)) (v 1 (by decide)) (v 2 (by decide)) (v 3 (by decide)) (v 4 (by decide)) (v 5 (by decide)), rfl⟩
  · exact ⟨hj, three (by rw [e0]; exact u 0 (by decide)) (by rw [e1]; exact u 1 (by decide)) (by rw [e2]; exact u 2 (by decide)), by rw [e9]; exact u 9 (by decide), bk,
      fun hk => ⟨b4 hk, h.b4 hk⟩,
      three (by rw [e6]; exact u 6 (by decide)) (by rw [e7]; exact u 7 (by decide)) (by rw [e8]; exact u 8 (by decide)), six (v 0 (by decide)) (v 1 (by decide)) (v 2 (by decide)) (v 3 (by decide)) (v 4 (by decide)) (v 5 (by decide)), rfl⟩
/-- THE MATHEMATICS OF IT. -/
theorem plain_hit {k z : Nat} {sk : Int} {s r : Nat → Nat} (h : Plain k z s r) (hsk : skOk sk = true) (up : Bool) {j : Nat} (hj : j ≤ 3) : okS k z sk s r = true ∧ okS k z sk (scS k (byW up j) s) (scR (byW up j) r) = true ∧ hitV k z s r = hitV k z (scS k (byW up j) s) (scR (byW up j) r) := by
  have g := grown_of h up hj
  obtain ⟨w, hw⟩ : ∃ w, w = byW up j := ⟨_, rfl⟩
  rw [← hw] at g ⊢
  have e10 : scS k w s 10 = s 10 := by unfold scS; cases (k == 1 || k == 4) <;> rfl
  have n1 : nearS (s 10) = true := by rw [h.q]; exact near_zero
  have n2 : nearS (scS k w s 10) = true := by rw [e10]; exact n1
  cases up
  · have g : Grown j k (scS k w s) s (scR w r) r := g
    have nz : rung (scR w r 3) ≠ 0 ∨ rung (scR w r 4) ≠ 0 ∨ rung (scR w r 5) ≠ 0 := by
      have a := nz_iff (g.ray 3 (by decide)).sc
      have b := nz_iff (g.ray 4 (by decide)).sc
      have c := nz_iff (g.ray 5 (by decide)).sc
      rcases h.nz with e | e | e
      · exact Or.inl (a.2 e)
      · exact Or.inr (Or.inl (b.2 e))
      · exact Or.inr (Or.inr (c.2 e))
    obtain ⟨r1, r2⟩ := ray_both hj g.ray h.far nz h.ln h.lp rfl
    obtain ⟨a, b, c⟩ := grown_hit g hsk n2 n1 (Or.inr h.may) (Or.inr h.box) r1 r2 (fun e => by rw [← zS_same g.ray]; exact h.z3 e)
    exact ⟨b, a, c.symm⟩
  · have g : Grown j k s (scS k w s) r (scR w r) := g
    obtain ⟨r1, r2⟩ := ray_both hj g.ray (fun i hi => far_up (g.ray (3 + i) (by omega)).sc (h.far i hi)) h.nz h.ln h.lp rfl
    exact grown_hit g hsk n1 n2 (Or.inl h.may) (Or.inl h.box) r1 r2 h.z3
end Go.Proofs.YtfdfnnmgpjamdaiGreat
