/-
  Shapes and rays that are made of raw numbers: they are of thousandths, and may be. Of no particular program.
-/
import Derived.Test.YtfdfnnmgpjamdaiGreatScl4
namespace Go.Proofs.YtfdfnnmgpjamdaiGreat
open Go.Ev

/-! ### Rays -/
theorem nr_zero : Nr 0 := ⟨by decide +kernel, by decide +kernel, by decide +kernel⟩
theorem mil_base {c most : Int} (hc : I64 c) (h0 : 0 ≤ most) (h1 : most ≤ 8000) : Base (milS c most) := by
  obtain ⟨j, e, a, b⟩ := mil_range hc h0 (by omega)
  rw [e]; exact base_thou (by omega) (by omega)
theorem mil_farR {c most : Int} (hc : I64 c) (h0 : 0 ≤ most) (h1 : most ≤ 8000) : FarR (milS c most) := by
  have a := key_abs (milS c most)
  rcases mil_far hc h0 (show most ≤ 1000000 by omega) with e | e | e
  · left; rw [e]; decide +kernel
  · right; omega
  · right; omega
theorem zero_farR : FarR 0 := Or.inl (by decide +kernel)
theorem one_rung : rung 4607182418800017408 = 4607182418800017408 := by decide +kernel
theorem one_farR : FarR 4607182418800017408 := Or.inr (by rw [one_rung]; decide)
def rayX (q : Int → Int) : Nat := cond (pickS (q 21) 3 == 0) 0 (milS (q 17) 1500)
def rayY (q : Int → Int) : Nat := cond (pickS (q 22) 4 == 0) 0 (milS (q 18) 1500)
def rayZz (q : Int → Int) : Nat := cond (noughtS (rayX q) (rayY q) (milS (q 19) 1500)) 4607182418800017408 (milS (q 19) 1500)
def rayOfS (q : Int → Int) : Nat → Nat := ls [milS (q 14) 6000, milS (q 15) 6000, milS (q 16) 6000, rayX q, rayY q, rayZz q, thouS (pickS (q 20) 3)]
def ray3 (x y z : Nat) (q : Int → Int) : Option Value := cond (noughtS x y z) (some (RY (ls [milS (q 14) 6000, milS (q 15) 6000, milS (q 16) 6000, x, y, 4607182418800017408, thouS (pickS (q 20) 3)])))
  (some (RY (ls [milS (q 14) 6000, milS (q 15) 6000, milS (q 16) 6000, x, y, z, thouS (pickS (q 20) 3)])))
def ray2 (x y y' z : Nat) (q : Int → Int) : Option Value := cond (pickS (q 22) 4 == 0) (ray3 x y' z q) (ray3 x y z q)
def ray1 (q : Int → Int) : Option Value := cond (pickS (q 21) 3 == 0) (ray2 0 (milS (q 18) 1500) 0 (milS (q 19) 1500) q) (ray2 (milS (q 17) 1500) (milS (q 18) 1500) 0 (milS (q 19) 1500) q)
theorem ray1_eq (q : Int → Int) : ray1 q = some (RY (rayOfS q)) := by
  unfold ray1 ray2 ray3 rayOfS rayZz rayX rayY
  cases pickS (q 21) 3 == 0 <;> cases pickS (q 22) 4 == 0 <;> simp only [cond_true, cond_false] <;> (generalize noughtS _ _ _ = z; cases z <;> rfl)
/-- What is asked of a ray. -/
structure RayP (r : Nat → Nat) : Prop where
  rr : ∀ i, i < 6 → Base (r i)
  far : ∀ i, i < 3 → FarR (r (3 + i))
  nz : rung (r 3) ≠ 0 ∨ rung (r 4) ≠ 0 ∨ rung (r 5) ≠ 0
  ln : Nr (r 6)
  lp : 0 ≤ key (r 6)
theorem ray_plain {q : Int → Int} (hq : ∀ n, I64 (q n)) : RayP (rayOfS q) := by
  have m6 : ∀ n, Base (milS (q n) 6000) := fun n => mil_base (hq n) (by decide) (by decide)
  have m1 : ∀ n, Base (milS (q n) 1500) := fun n => mil_base (hq n) (by decide) (by decide)
  have f1 : ∀ n, FarR (milS (q n) 1500) := fun n => mil_farR (hq n) (by decide) (by decide)
  have hx : Base (rayX q) ∧ FarR (rayX q) := by
    unfold rayX
    cases pickS (q 21) 3 == 0
    · exact ⟨m1 _, f1 _⟩
    · exact ⟨base_zero, zero_farR⟩
  have hy : Base (rayY q) ∧ FarR (rayY q) := by
    unfold rayY
    cases pickS (q 22) 4 == 0
    · exact ⟨m1 _, f1 _⟩
    · exact ⟨base_zero, zero_farR⟩
  have hz : (Base (rayZz q) ∧ FarR (rayZz q)) ∧ (rung (rayX q) ≠ 0 ∨ rung (rayY q) ≠ 0 ∨ rung (rayZz q) ≠ 0) := by
    unfold rayZz
    cases hn : noughtS (rayX q) (rayY q) (milS (q 19) 1500)
    · refine ⟨⟨m1 _, f1 _⟩, ?_⟩
      unfold noughtS at hn
      have nan : ∀ {x : Nat}, Base x → isNan x = false := fun h => fin_not_nan (h.b.fin (by decide))
      rw [feq_z (nan hx.1), feq_z (nan hy.1), feq_z (nan (m1 19))] at hn
      by_cases a : val (rayX q) = 0
      · by_cases b : val (rayY q) = 0
        · refine Or.inr (Or.inr fun c => ?_)
          have c' : val (milS (q 19) 1500) = 0 := val_zero.2 c
          rw [decide_eq_true a, decide_eq_true b, decide_eq_true c'] at hn; cases hn
        · exact Or.inr (Or.inl fun e => b (val_zero.2 e))
      · exact Or.inl fun e => a (val_zero.2 e)
    · exact ⟨⟨base_one, one_farR⟩, Or.inr (Or.inr (by rw [cond_true, one_rung]; decide))⟩
  have hl : Nr (thouS (pickS (q 20) 3)) ∧ 0 ≤ key (thouS (pickS (q 20) 3)) := by
    obtain ⟨a, b⟩ := pick_range (hq 20) (show (0 : Int) < 3 by decide)
    refine ⟨thou_fin (by omega) (by omega), ?_⟩
    have := thou_mono (m := 0) a (by decide) (by omega)
    rw [thou_zero, key_z] at this
    exact this
  exact ⟨six (m6 _) (m6 _) (m6 _) hx.1 hy.1 hz.1.1, three hx.2 hy.2 hz.1.2, hz.2, hl.1, hl.2⟩

/-! ### Shapes -/
def mA (q : Int → Int) (n : Int) : Nat := milS (q n) 4000
def mB (q : Int → Int) (n : Int) : Nat := milS (q n) 3000
def mR (q : Int → Int) : Nat := thouS (w64 (1 + pickS (q 8) 2500))
def mT (q : Int → Int) (n : Int) : Nat := thouS (pickS (q n) 2000)
def mL (q : Int → Int) : Nat := thouS (w64 (1 + pickS (q 5) 3000))
def mN (q : Int → Int) : Bool := noughtS (mB q 4) (mB q 5) (mB q 6)
def mk1 (q : Int → Int) : Nat → Nat := ls [mA q 1, mA q 2, mA q 3, 0, 0, 0, 0, 0, 0, mR q, 0]
def mk2 (q : Int → Int) : Nat → Nat := ls [mA q 1, mA q 2, mA q 3, fadd (mA q 1) (mR q), fadd (mA q 2) (mT q 5), fadd (mA q 3) (mT q 6), 0, 0, 0, 0, 0]
def mk3 (q : Int → Int) : Nat → Nat := ls [mA q 1, mA q 2, mA q 3, fadd (mA q 1) (mB q 4), fadd (mA q 2) (mB q 5), fadd (mA q 3) (mB q 6), mA q 9, mA q 10, mA q 11, 0, 0]
def mk4 (q : Int → Int) : Nat → Nat := ls [mA q 1, mA q 2, mA q 3, cond (mN q) 0 (mB q 4), cond (mN q) 4607182418800017408 (mB q 5), cond (mN q) 0 (mB q 6), 0, 0, 0, mR q, 0]
def mk5 (z : Nat) (q : Int → Int) : Nat → Nat := ls [mA q 1, mA q 2, mA q 3, cond (0 == z) (mL q) 0, cond (1 == z) (mL q) 0, cond (2 == z) (mL q) 0, 0, 0, 0, mR q, 0]
theorem ten {P : Nat → Prop} (h0 : P 0) (h1 : P 1) (h2 : P 2) (h3 : P 3) (h4 : P 4) (h5 : P 5) (h6 : P 6) (h7 : P 7) (h8 : P 8) (h9 : P 9) : ∀ i, i < 10 → P i := fun i hi => by
  match i, hi with
  | 0, _ => exact h0
  | 1, _ => exact h1
  | 2, _ => exact h2
  | 3, _ => exact h3
  | 4, _ => exact h4
  | 5, _ => exact h5
  | 6, _ => exact h6
  | 7, _ => exact h7
  | 8, _ => exact h8
  | 9, _ => exact h9
  | n + 10, h => omega
theorem sub_below {x y : Nat} (hx : isFin x = true) (hy : isFin y = true) (h : 0 ≤ key y) : key (fsub x y) ≤ key x := by
  rw [(key_sub hx hy).1, ← KR_val hx]
  refine KR_mono 1 ?_
  have : 0 ≤ val y := by
    rcases Int.lt_or_le (val y) 0 with e | e
    · have := val_negative.1 e; omega
    · exact e
  omega
section
variable {q : Int → Int} (hq : ∀ n, I64 (q n))
include hq
theorem mR_eq : ∃ n : Int, mR q = thouS n ∧ 1 ≤ n ∧ n ≤ 2500 := by
  obtain ⟨a, b⟩ := pick_range (hq 8) (show (0 : Int) < 2500 by decide)
  exact ⟨1 + pickS (q 8) 2500, by unfold mR; rw [w64_small (by omega) (by omega)], by omega, by omega⟩
theorem mL_eq : ∃ n : Int, mL q = thouS n ∧ 1 ≤ n ∧ n ≤ 3000 := by
  obtain ⟨a, b⟩ := pick_range (hq 5) (show (0 : Int) < 3000 by decide)
  exact ⟨1 + pickS (q 5) 3000, by unfold mL; rw [w64_small (by omega) (by omega)], by omega, by omega⟩
theorem mT_eq (k : Int) : ∃ n : Int, mT q k = thouS n ∧ 0 ≤ n ∧ n ≤ 2000 := by
  obtain ⟨a, b⟩ := pick_range (hq k) (show (0 : Int) < 2000 by decide)
  exact ⟨_, rfl, by omega, by omega⟩
theorem mA_base (n : Int) : Base (mA q n) := mil_base (hq n) (by decide) (by decide)
theorem mB_base (n : Int) : Base (mB q n) := mil_base (hq n) (by decide) (by decide)
theorem mR_base : Base (mR q) ∧ 0 < key (mR q) := by
  obtain ⟨n, e, a, b⟩ := mR_eq hq
  rw [e]
  have := thou_pos a (show n ≤ 1000000 by omega)
  exact ⟨base_thou (by omega) (by omega), by omega⟩
theorem mL_base : Base (mL q) ∧ 0 < key (mL q) := by
  obtain ⟨n, e, a, b⟩ := mL_eq hq
  rw [e]
  have := thou_pos a (show n ≤ 1000000 by omega)
  exact ⟨base_thou (by omega) (by omega), by omega⟩
theorem mT_base (k : Int) : Base (mT q k) ∧ 0 ≤ key (mT q k) := by
  obtain ⟨n, e, a, b⟩ := mT_eq hq k
  rw [e]
  have := thou_mono (m := 0) a (by decide) (show n ≤ 9007199254740992 by omega)
  rw [thou_zero, key_z] at this
  exact ⟨base_thou (by omega) (by omega), this⟩
theorem sum_base (k : Int) {y : Nat} {n : Int} (e : y = thouS n) (h1 : -8000 ≤ n) (h2 : n ≤ 8000) : Base (fadd (mA q k) y) := by
  obtain ⟨j, e1, a, b⟩ := mil_range (hq k) (show (0 : Int) ≤ 4000 by decide) (by decide)
  unfold mA
  rw [e1, e]; exact base_sum (by omega) (by omega) h1 h2
theorem mB_eq (k : Int) : ∃ n : Int, mB q k = thouS n ∧ -3000 ≤ n ∧ n ≤ 3000 := mil_range (hq k) (show (0 : Int) ≤ 3000 by decide) (by decide)
end
theorem Base.fin {x : Nat} (h : Base x) : isFin x = true := h.b.fin (by decide)
theorem Base.nan {x : Nat} (h : Base x) : isNan x = false := fin_not_nan h.fin
theorem Base.nr {x : Nat} (h : Base x) : Nr x := nr_bd h.b (by decide)
theorem pos_gt {x : Nat} (h : Base x) (hp : 0 < key x) : fgt x 0 = true := by
  rw [fgt_key h.nan nan_z, key_z, decide_eq_true hp]
theorem cube_le {a R : Nat} (ha : Base a) (hR : Base R) (hp : 0 < key R) : key (fsub a R) ≤ key (fadd a R) :=
  Int.le_trans (sub_below ha.fin hR.fin (by omega)) (add_above ha.fin hR.fin (by omega))
section
variable {q : Int → Int} (hq : ∀ n, I64 (q n)) {r : Nat → Nat} (hr : RayP r)
include hq hr
theorem plain1 : Plain 1 0 (mk1 q) r := by
  obtain ⟨R1, R2⟩ := mR_base hq
  exact ⟨Or.inl rfl, ten (mA_base hq 1) (mA_base hq 2) (mA_base hq 3) base_zero base_zero base_zero base_zero base_zero base_zero R1, fun _ => ⟨rfl, rfl, rfl⟩, (fun h => by cases h), rfl, pos_gt R1 R2,
    three (cube_le (mA_base hq 1) R1 R2) (cube_le (mA_base hq 2) R1 R2) (cube_le (mA_base hq 3) R1 R2), hr.rr, hr.far, hr.nz, hr.ln, hr.lp, (fun h => by cases h)⟩
theorem plain2 : Plain 2 0 (mk2 q) r := by
  obtain ⟨R1, R2⟩ := mR_base hq
  obtain ⟨n, en, n1, n2⟩ := mR_eq hq
  obtain ⟨m, em, m1, m2⟩ := mT_eq hq 5
  obtain ⟨l, el, l1, l2⟩ := mT_eq hq 6
  have a1 := add_above (mA_base hq 1).fin R1.fin (show 0 ≤ key (mR q) by omega)
  have a2 := add_above (mA_base hq 2).fin (mT_base hq 5).1.fin (mT_base hq 5).2
  have a3 := add_above (mA_base hq 3).fin (mT_base hq 6).1.fin (mT_base hq 6).2
  have b1 := sum_base hq 1 en (by omega) (by omega)
  have b2 := sum_base hq 2 em (by omega) (by omega)
  have b3 := sum_base hq 3 el (by omega) (by omega)
  refine ⟨Or.inr (Or.inl rfl), ten (mA_base hq 1) (mA_base hq 2) (mA_base hq 3) b1 b2 b3 base_zero base_zero base_zero base_zero, (fun h => by cases h), (fun h => by cases h), rfl, ?_,
    three a1 a2 a3, hr.rr, hr.far, hr.nz, hr.ln, hr.lp, (fun h => by cases h)⟩
  show (!(cond (cond (fgt (mA q 1) (fadd (mA q 1) (mR q))) true (fgt (mA q 2) (fadd (mA q 2) (mT q 5)))) true (fgt (mA q 3) (fadd (mA q 3) (mT q 6))))) = true
  rw [fgt_mk (mA_base hq 1).nr b1.nr a1, fgt_mk (mA_base hq 2).nr b2.nr a2, fgt_mk (mA_base hq 3).nr b3.nr a3]; rfl
theorem plain3 : Plain 3 (zS r) (mk3 q) r := by
  obtain ⟨n, en, n1, n2⟩ := mB_eq hq 4
  obtain ⟨m, em, m1, m2⟩ := mB_eq hq 5
  obtain ⟨l, el, l1, l2⟩ := mB_eq hq 6
  have b1 := sum_base hq 1 en (by omega) (by omega)
  have b2 := sum_base hq 2 em (by omega) (by omega)
  have b3 := sum_base hq 3 el (by omega) (by omega)
  have le : ∀ {a b c : Nat}, Nr a → Nr b → Nr c → key (lessS (lessS a b) c) ≤ key (moreS (moreS a b) c) := fun ha hb hc => by
    have x := less_ok ha hb
    have y := less_ok x.1 hc
    have z := more_ok ha hb
    have w := more_ok z.1 hc
    omega
  exact ⟨Or.inr (Or.inr (Or.inl rfl)), ten (mA_base hq 1) (mA_base hq 2) (mA_base hq 3) b1 b2 b3 (mA_base hq 9) (mA_base hq 10) (mA_base hq 11) base_zero, (fun h => by cases h), (fun h => by cases h), rfl, rfl,
    three (le (mA_base hq 1).nr b1.nr (mA_base hq 9).nr) (le (mA_base hq 2).nr b2.nr (mA_base hq 10).nr) (le (mA_base hq 3).nr b3.nr (mA_base hq 11).nr), hr.rr, hr.far, hr.nz, hr.ln, hr.lp, fun _ => rfl⟩
omit hr in
theorem bp4 : Bp (vB (mk4 q)) := by
  have base : ∀ i, i < 3 → Base (vB (mk4 q) i) := three (base_cond base_zero (mB_base hq 4)) (base_cond base_one (mB_base hq 5)) (base_cond base_zero (mB_base hq 6))
  have far : ∀ i, i < 3 → FarR (vB (mk4 q) i) := by
    have f : ∀ n, FarR (mB q n) := fun n => mil_farR (hq n) (by decide) (by decide)
    have g : ∀ {c : Bool} {x y : Nat}, FarR x → FarR y → FarR (cond c x y) := fun {c} _ _ hx hy => by cases c <;> assumption
    exact three (g zero_farR (f 4)) (g one_farR (f 5)) (g zero_farR (f 6))
  refine ⟨fun i hi => (sv_self (base i hi).g (base i hi).b (by decide) (by decide)).more (by decide) (by decide), ?_, fun i hi hne c hc => ?_⟩
  · show val (cond (mN q) 0 (mB q 4)) ≠ 0 ∨ val (cond (mN q) 4607182418800017408 (mB q 5)) ≠ 0 ∨ val (cond (mN q) 0 (mB q 6)) ≠ 0
    cases hn : mN q
    · simp only [cond_false]
      unfold mN noughtS at hn
      rw [feq_z (mB_base hq 4).nan, feq_z (mB_base hq 5).nan, feq_z (mB_base hq 6).nan] at hn
      by_cases a : val (mB q 4) = 0
      · by_cases b : val (mB q 5) = 0
        · refine Or.inr (Or.inr fun c => ?_)
          rw [decide_eq_true a, decide_eq_true b, decide_eq_true c] at hn; cases hn
        · exact Or.inr (Or.inl b)
      · exact Or.inl a
    · refine Or.inr (Or.inl fun e => ?_)
      rw [cond_true] at e
      have := val_zero.1 e
      rw [one_rung] at this
      exact absurd this (by decide)
  · have hf := far i hi
    have hr0 : rung (vB (mk4 q) i) ≠ 0 := fun e => hne (val_zero.2 e)
    rcases hf with e | e
    · exact absurd e hr0
    · rw [val_abs, ← rv_pw (n := c) (by omega)]
      refine rv_le ?_
      have e : pw c = 4562146422526312448 := by subst hc; decide
      omega
theorem plain4 : Plain 4 0 (mk4 q) r := by
  obtain ⟨R1, R2⟩ := mR_base hq
  have bp := bp4 hq
  have fB : fineP (vB (mk4 q)) = true := fine_mk ((bp.s 0 (by decide)).w.nr (by decide)).1 ((bp.s 1 (by decide)).w.nr (by decide)).1 ((bp.s 2 (by decide)).w.nr (by decide)).1
  refine ⟨Or.inr (Or.inr (Or.inr (Or.inl rfl))), ten (mA_base hq 1) (mA_base hq 2) (mA_base hq 3) (base_cond base_zero (mB_base hq 4)) (base_cond base_one (mB_base hq 5)) (base_cond base_zero (mB_base hq 6)) base_zero base_zero base_zero R1, (fun h => by cases h), fun _ => bp, rfl, ?_,
    three (cube_le (mA_base hq 1) R1 R2) (cube_le (mA_base hq 2) R1 R2) (cube_le (mA_base hq 3) R1 R2), hr.rr, hr.far, hr.nz, hr.ln, hr.lp, (fun h => by cases h)⟩
  show (fgt (mR q) 0 && (fineP (vB (mk4 q)) && !feq (fsqrt (dotP (vB (mk4 q)) (vB (mk4 q)))) 0)) = true
  rw [pos_gt R1 R2, fB, (bp_len bp).2.2.2.2]; rfl
theorem plain5 {z : Nat} (hz : z < 3) : Plain 5 z (mk5 z q) r := by
  obtain ⟨R1, R2⟩ := mR_base hq
  obtain ⟨L1, L2⟩ := mL_base hq
  have cb : ∀ c : Bool, Base (cond c (mL q) 0) := fun c => base_cond L1 base_zero
  obtain ⟨n, en, n1, n2⟩ := mL_eq hq
  have sb : ∀ (k : Int) (c : Bool), Base (fadd (mA q k) (cond c (mL q) 0)) := fun k c => by
    cases c
    · exact sum_base hq k (n := 0) (by rw [thou_zero]; rfl) (by decide) (by decide)
    · exact sum_base hq k en (by omega) (by omega)
  have db : ∀ c : Bool, isFin (cond c 0 (mR q)) = true ∧ 0 ≤ key (cond c 0 (mR q)) := fun c => by
    cases c
    · exact ⟨R1.fin, by rw [cond_false]; omega⟩
    · exact ⟨nr_zero.fin, by rw [cond_true, key_z]; decide⟩
  have le : ∀ (k : Int) (c d : Bool), key (fsub (lessS (mA q k) (fadd (mA q k) (cond c (mL q) 0))) (cond d 0 (mR q))) ≤ key (fadd (moreS (mA q k) (fadd (mA q k) (cond c (mL q) 0))) (cond d 0 (mR q))) := fun k c d => by
    have x := less_ok (mA_base hq k).nr (sb k c).nr
    have y := more_ok (mA_base hq k).nr (sb k c).nr
    have s1 := sub_below x.1.fin (db d).1 (db d).2
    have s2 := add_above y.1.fin (db d).1 (db d).2
    omega
  refine ⟨Or.inr (Or.inr (Or.inr (Or.inr rfl))), ten (mA_base hq 1) (mA_base hq 2) (mA_base hq 3) (cb _) (cb _) (cb _) base_zero base_zero base_zero R1, (fun h => by cases h), (fun h => by cases h), rfl, ?_,
    three (le 1 (0 == z) (0 == z)) (le 2 (1 == z) (1 == z)) (le 3 (2 == z) (2 == z)), hr.rr, hr.far, hr.nz, hr.ln, hr.lp, (fun h => by cases h)⟩
  have nL : neZ (mL q) = true := by
    unfold neZ; rw [feq_key L1.nan nan_z, key_z, decide_eq_false (by omega)]; rfl
  have n0 : neZ 0 = false := by decide +kernel
  show (onlyAt z (vB (mk5 z q)) && fgt (mR q) 0) = true
  rw [pos_gt R1 R2]
  have h3 : z = 0 ∨ z = 1 ∨ z = 2 := by omega
  rcases h3 with rfl | rfl | rfl
  · show ((neZ (mL q) == true) && ((neZ 0 == false) && (neZ 0 == false)) && true) = true
    rw [nL, n0]; rfl
  · show ((neZ 0 == false) && ((neZ (mL q) == true) && (neZ 0 == false)) && true) = true
    rw [nL, n0]; rfl
  · show ((neZ 0 == false) && ((neZ 0 == false) && (neZ (mL q) == true)) && true) = true
    rw [nL, n0]; rfl
end
theorem sk_ok {q : Int → Int} (hq : ∀ n, I64 (q n)) : skOk (pickS (q 7) 3) = true := by
  obtain ⟨a, b⟩ := pick_range (hq 7) (show (0 : Int) < 3 by decide)
  unfold skOk
  rw [decide_eq_false (by omega), decide_eq_false (by omega)]; rfl
end Go.Proofs.YtfdfnnmgpjamdaiGreat
