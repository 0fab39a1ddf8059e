/-
  Aq1 Aq2 Arg0 Ar1 Ar2, one behind the other.
-/
import Derived.Test.YtbmggfmifopddaaM1
import Derived.Test.YtbmggfmifopddaaGu
import Derived.Test.YtbmggfmifopddaaGi
namespace Go.Proofs.Ytbmggfmifopddaa
open Go.Gv

def qmx (x y : Int) : Int := if x < y then y else x
def qD (P Q : Nat → Int) (i : Nat) : Int := w64 (w64 (P i) - w64 (Q i))
def qM (P Q : Nat → Int) : Nat → Int
  | 0 => 0
  | i + 1 => qmx (qmx (qM P Q i) (qD P Q i)) (w64 (0 - qD P Q i))
def qS (P Q : Nat → Int) : Nat → Int
  | 0 => 0
  | i + 1 => w64 (qS P Q i + w64 (qD P Q i * qD P Q i))
def qU (P Q : Nat → Int) : Int := cond (decide (qM P Q 4 > 0)) 1 0
theorem px_ev (P Q : Nat → Int) : ev Try.prog [] [] noL Try.f11 [sB 4 P, sB 4 Q] ret =
    cond (decide (qM P Q 4 > 0)) (some (Out.of (.agg (dfc 1 (qM P Q 4) (qS P Q 4))))) (some (Out.of (.agg (dfc 0 (qM P Q 4) (qS P Q 4))))) := by kernel_rfl
theorem px_spec (P Q : Nat → Int) : FSpec Try.prog 11 [sB 4 P, sB 4 Q] (.agg (dfc (qU P Q) (qM P Q 4) (qS P Q 4))) := by
  refine gspec e_nil k_nil Try.func11 (by kernel_rfl) (by kernel_rfl) noL_ok rfl ((px_ev P Q).trans ?_)
  unfold qU
  cases decide (qM P Q 4 > 0) <;> rfl
abbrev DF : Type := Nat → (Nat → List AV) → Nat → (Nat → List AV) → Nat → Int
def pxG (df : DF) : List AV → AV
  | [.sl _ n el, .sl _ m em] => .agg (dfc (df n el m em 0) (df n el m em 1) (df n el m em 2))
  | _ => .any
def axS (a b : Pic) (i un mo sq : Int) : St := mkS 75 [(2, .own 0 0), (3, .own 1 0), (4, .own 2 0), (8, .own 3 0), (9, iA i)] [.c a.c, .c b.c, .c (dfc 0 0 0), .c (dfc un mo sq)]
def keepA : List Nat := [2, 3, 4, 8, 9]
section
variable (df : DF) (a b : Pic) (i un mo sq : Int)
def axN (n : Nat) : Nat := sbN (some i) (some (w64 (i + 4))) n
def axE (p : Pic) : Nat → List AV := fun k => [yA (p.px (sbL (some i) + k))]
def axV (c : Nat) : Int := df (axN i a.n) (axE i a) (axN i b.n) (axE i b) c
abbrev PXok : Prop := FSpec Try.prog 11 [.sl 1 (axN i a.n) (axE i a), .sl 1 (axN i b.n) (axE i b)] (.agg (dfc (axV df a b i 0) (axV df a b i 1) (axV df a b i 2)))
def axB : Bool := (sbB (some i) (some (w64 (i + 4))) none a.n || false) && ((sbB (some i) (some (w64 (i + 4))) none b.n || false) && true)
theorem ax_step : evC Try.prog [] [kS Try.prog 11 (pxG df)] noL (loopAt Try.f6 0) (axS a b i un mo sq) (finN keepA row4) =
    cond (decide (i < a.n)) (gate (PXok df a b i) (cond (axB a b i) (some ⟨.normal, axS a b (w64 (i + 4)) (w64 (un + axV df a b i 0)) (qmx mo (axV df a b i 1)) (w64 (sq + axV df a b i 2)), .any⟩) none)) none := by kernel_rfl
theorem ax_end : evC Try.prog [] [kS Try.prog 11 (pxG df)] noL (loopAt Try.f6 0) (axS a b i un mo sq) (finE keepA row4) =
    cond (decide (i < a.n)) (gate (PXok df a b i) (cond (axB a b i) none none)) (some ⟨.exit 0, axS a b i un mo sq, .any⟩) := by kernel_rfl
end
noncomputable def axL (a b : Pic) (i' un mo sq : Int) : Nat → Option LFun := oneL 11 (toldF keepA row4 (axS a b 0 0 0 0) (.exit 0) (axS a b i' un mo sq))
section
variable (mf : Int → Int → Nat → Int) (a b : Pic) (i' un mo sq : Int)
theorem ac_ev : ev Try.prog [⟨10, gPm mf⟩] [] (axL a b i' un mo sq) Try.f6 [.agg a.c, .agg b.c] ret =
    apX mf a b (gate (Sub (axS a b 0 0 0 0) (axS a b 0 0 0 0)) (some (Out.of (dTup un mo sq 0)))) := by kernel_rfl
theorem ac_ev0 : ev Try.prog [⟨10, gPm mf⟩] [] (oneL 11 fun _ _ => none) Try.f6 [.agg a.c, .agg b.c] ret = apX mf a b none := by kernel_rfl
end
/-! ### Whether a picture may be -/
def cbad (W H : Int) : Bool := cond (cond (cond (decide (W < 1)) true (decide (W > 64))) true (decide (H < 1))) true (decide (H > 64))
theorem cmp_ev (W H : Int) (sz n : Nat) (el : Nat → List AV) : ev Try.prog [] [] noL Try.f10 [.agg [iA W, iA H, .sl sz n el]] ret =
    cond (cbad W H) (some (Out.of (iA 4))) (cond (!((n : Int) == w64 (w64 (W * H) * 4))) (some (Out.of (iA 5))) (some (Out.of (iA 0)))) := by kernel_rfl
theorem cbad_eq (W H : Int) : cbad W H = pbad W H := by
  unfold cbad pbad
  by_cases h1 : W < 1 <;> by_cases h2 : W > 64 <;> by_cases h3 : H < 1 <;> by_cases h4 : H > 64 <;> simp [h1, h2, h3, h4]
theorem pmayC_spec (W H : Int) (sz n : Nat) (el : Nat → List AV) : FSpec Try.prog 10 [.agg [iA W, iA H, .sl sz n el]] (iA (pmay W H n)) := by
  refine gspec e_nil k_nil Try.func10 (by kernel_rfl) (by kernel_rfl) noL_ok rfl ((cmp_ev W H sz n el).trans ?_)
  unfold pmay
  rw [cbad_eq]
  cases hb : pbad W H
  · obtain ⟨a, b, c, d⟩ := pbad_false hb
    have hM := mulB (x := W) (y := H) (X := 64) (Y := 64) (by omega) b (by omega) d
    unfold pcnt
    rw [w64_id (n := W * H) (by omega) (by omega), w64_id (n := 4 * W) (by omega) (by omega), show W * H * 4 = 4 * W * H by grind]
    cases !((n : Int) == w64 (4 * W * H)) <;> rfl
  · rfl
end Go.Proofs.Ytbmggfmifopddaa

namespace Go.Proofs.Ytbmggfmifopddaa
open Go.Gv

def ByP (a : Pic) : Prop := ∀ i, i < a.n → 0 ≤ a.px i ∧ a.px i ≤ 255
theorem qD_eq {P Q : Nat → Int} {i : Nat} (hp : 0 ≤ P i ∧ P i ≤ 255) (hq : 0 ≤ Q i ∧ Q i ≤ 255) : qD P Q i = P i - Q i := by
  unfold qD
  rw [w64_id (n := P i) (by omega) (by omega), w64_id (n := Q i) (by omega) (by omega), w64_id (by omega) (by omega)]
def abI (x : Int) : Int := if x < 0 then -x else x
theorem apN_eq {a b : Pic} {k : Nat} (hp : 0 ≤ a.px k ∧ a.px k ≤ 255) (hq : 0 ≤ b.px k ∧ b.px k ≤ 255) : apN a b k = abI (a.px k - b.px k) := by
  unfold apN abI
  rw [w64_id (n := a.px k) (by omega) (by omega), w64_id (n := b.px k) (by omega) (by omega), w64_id (n := a.px k - b.px k) (by omega) (by omega)]
  by_cases h : a.px k - b.px k < 0
  · rw [decide_eq_true h, if_pos h, cond_true, w64_id (by omega) (by omega)]; omega
  · rw [decide_eq_false h, if_neg h, cond_false]
theorem ab_le {x y : Int} (hp : 0 ≤ x ∧ x ≤ 255) (hq : 0 ≤ y ∧ y ≤ 255) : 0 ≤ abI (x - y) ∧ abI (x - y) ≤ 255 := by unfold abI; split <;> omega
theorem ab_sq (x : Int) : abI x * abI x = x * x := by unfold abI; split <;> grind
theorem mo_step (a b : Pic) (k : Nat) : moV a b (k + 1) = qmx (moV a b k) (apN a b k) := by
  show cond (decide (apN a b k > moV a b k)) (apN a b k) (moV a b k) = _
  unfold qmx
  by_cases h : moV a b k < apN a b k
  · rw [decide_eq_true h, if_pos h]; rfl
  · rw [decide_eq_false (by omega), if_neg h]; rfl
theorem mo_nonneg (a b : Pic) : ∀ k, 0 ≤ moV a b k
  | 0 => Int.le_refl 0
  | k + 1 => by rw [mo_step]; have := mo_nonneg a b k; unfold qmx; split <;> omega
theorem qM_step {P Q : Nat → Int} {i : Nat} (hp : 0 ≤ P i ∧ P i ≤ 255) (hq : 0 ≤ Q i ∧ Q i ≤ 255) (h : 0 ≤ qM P Q i) : qM P Q (i + 1) = qmx (qM P Q i) (abI (P i - Q i)) := by
  show qmx (qmx (qM P Q i) (qD P Q i)) (w64 (0 - qD P Q i)) = _
  rw [qD_eq hp hq, w64_id (by omega) (by omega)]
  unfold qmx abI
  generalize qM P Q i = m at *
  split <;> split <;> split <;> (try split) <;> omega
theorem qS_step {P Q : Nat → Int} {i : Nat} (hp : 0 ≤ P i ∧ P i ≤ 255) (hq : 0 ≤ Q i ∧ Q i ≤ 255) (h0 : 0 ≤ qS P Q i) (h1 : qS P Q i ≤ 1000000) : qS P Q (i + 1) = qS P Q i + abI (P i - Q i) * abI (P i - Q i) ∧ 0 ≤ abI (P i - Q i) * abI (P i - Q i) ∧ abI (P i - Q i) * abI (P i - Q i) ≤ 65025 := by
  have hb := ab_le hp hq
  have m := mulB (x := abI (P i - Q i)) (y := abI (P i - Q i)) (X := 255) (Y := 255) hb.1 hb.2 hb.1 hb.2
  refine ⟨?_, m.1, m.2⟩
  show w64 (qS P Q i + w64 (qD P Q i * qD P Q i)) = _
  rw [qD_eq hp hq, ← ab_sq, w64_id (n := abI (P i - Q i) * abI (P i - Q i)) (by omega) (by omega), w64_id (by omega) (by omega)]
theorem four {P Q : Nat → Int} (h : ∀ i, i < 4 → (0 ≤ P i ∧ P i ≤ 255) ∧ (0 ≤ Q i ∧ Q i ≤ 255)) :
    qM P Q 4 = qmx (qmx (qmx (qmx 0 (abI (P 0 - Q 0))) (abI (P 1 - Q 1))) (abI (P 2 - Q 2))) (abI (P 3 - Q 3)) ∧
    qS P Q 4 = abI (P 0 - Q 0) * abI (P 0 - Q 0) + abI (P 1 - Q 1) * abI (P 1 - Q 1) + abI (P 2 - Q 2) * abI (P 2 - Q 2) + abI (P 3 - Q 3) * abI (P 3 - Q 3) := by
  have nn : ∀ m x, 0 ≤ m → 0 ≤ qmx m x := fun m x h => by unfold qmx; split <;> omega
  have z0 : qM P Q 0 = 0 := rfl
  have y0 : qS P Q 0 = 0 := rfl
  have m1 := qM_step (i := 0) (h 0 (by omega)).1 (h 0 (by omega)).2 (Int.le_refl 0)
  have p1 : 0 ≤ qM P Q 1 := by rw [m1]; exact nn _ _ (by omega)
  have m2 := qM_step (i := 1) (h 1 (by omega)).1 (h 1 (by omega)).2 p1
  have p2 : 0 ≤ qM P Q 2 := by rw [m2]; exact nn _ _ p1
  have m3 := qM_step (i := 2) (h 2 (by omega)).1 (h 2 (by omega)).2 p2
  have p3 : 0 ≤ qM P Q 3 := by rw [m3]; exact nn _ _ p2
  have m4 := qM_step (i := 3) (h 3 (by omega)).1 (h 3 (by omega)).2 p3
  have s1 := qS_step (i := 0) (h 0 (by omega)).1 (h 0 (by omega)).2 (by omega) (by omega)
  simp only [Nat.zero_add] at s1
  have s2 := qS_step (i := 1) (h 1 (by omega)).1 (h 1 (by omega)).2 (by omega) (by omega)
  simp only [Nat.reduceAdd] at s2
  have s3 := qS_step (i := 2) (h 2 (by omega)).1 (h 2 (by omega)).2 (by omega) (by omega)
  simp only [Nat.reduceAdd] at s3
  have s4 := qS_step (i := 3) (h 3 (by omega)).1 (h 3 (by omega)).2 (by omega) (by omega)
  simp only [Nat.reduceAdd] at s4
  refine ⟨?_, by omega⟩
  rw [m4, m3, m2, m1, z0]
theorem sq_step {a b : Pic} {k : Nat} (hk : k ≤ 100000) (hp : 0 ≤ a.px k ∧ a.px k ≤ 255) (hq : 0 ≤ b.px k ∧ b.px k ≤ 255) (h0 : 0 ≤ sqV a b k) (h1 : sqV a b k ≤ 65025 * k) : sqV a b (k + 1) = sqV a b k + abI (a.px k - b.px k) * abI (a.px k - b.px k) ∧ 0 ≤ sqV a b (k + 1) ∧ sqV a b (k + 1) ≤ 65025 * (k + 1 : Nat) := by
  have hb := ab_le hp hq
  have m := mulB (x := abI (a.px k - b.px k)) (y := abI (a.px k - b.px k)) (X := 255) (Y := 255) hb.1 hb.2 hb.1 hb.2
  have e : sqV a b (k + 1) = sqV a b k + abI (a.px k - b.px k) * abI (a.px k - b.px k) := by
    show w64 (sqV a b k + w64 (apN a b k * apN a b k)) = _
    rw [apN_eq hp hq, w64_id (n := abI (a.px k - b.px k) * abI (a.px k - b.px k)) (by omega) (by omega), w64_id (by omega) (by omega)]
  refine ⟨e, by omega, by omega⟩
theorem sq_bound {a b : Pic} (ha : ByP a) (hb : ByP b) : ∀ k, k ≤ 100000 → k ≤ a.n → k ≤ b.n → 0 ≤ sqV a b k ∧ sqV a b k ≤ 65025 * k
  | 0, _, _, _ => ⟨Int.le_refl 0, by show (0 : Int) ≤ _; omega⟩
  | k + 1, h, h1, h2 => by
    obtain ⟨x, y⟩ := sq_bound ha hb k (by omega) (by omega) (by omega)
    exact (sq_step (by omega) (ha k (by omega)) (hb k (by omega)) x y).2
theorem un_bound (a b : Pic) : ∀ i, i ≤ 100000 → 0 ≤ unV a b i ∧ unV a b i ≤ i
  | 0, _ => ⟨Int.le_refl 0, Int.le_refl 0⟩
  | i + 1, h => by
    obtain ⟨x, y⟩ := un_bound a b i (by omega)
    show 0 ≤ cond (ulV a b i 4) (w64 (unV a b i + 1)) (unV a b i) ∧ cond (ulV a b i 4) (w64 (unV a b i + 1)) (unV a b i) ≤ _
    rw [w64_id (by omega) (by omega)]
    cases ulV a b i 4 <;> simp only [cond_true, cond_false] <;> omega
def dfR : DF := fun _ el _ em c => let P := fun i => intY (el i); let Q := fun i => intY (em i); if c = 0 then qU P Q else if c = 1 then qM P Q 4 else qS P Q 4
where intY : List AV → Int
  | [.x (.int .u8 b)] => b
  | _ => 0
theorem u4 {x0 x1 x2 x3 : Int} (h0 : 0 ≤ x0) (h1 : 0 ≤ x1) (h2 : 0 ≤ x2) (h3 : 0 ≤ x3) : cond (cond (cond (cond false true (decide (x0 > 0))) true (decide (x1 > 0))) true (decide (x2 > 0))) true (decide (x3 > 0)) = decide (qmx (qmx (qmx (qmx 0 x0) x1) x2) x3 > 0) := by
  have q : ∀ x y, qmx x y = max x y := fun x y => by unfold qmx; split <;> omega
  simp only [q]
  by_cases g0 : x0 > 0 <;> by_cases g1 : x1 > 0 <;> by_cases g2 : x2 > 0 <;> by_cases g3 : x3 > 0 <;> simp only [g0, g1, g2, g3, decide_true, decide_false, cond_true, cond_false] <;> first | exact (decide_eq_true (by omega)).symm | exact (decide_eq_false (by omega)).symm
theorem ax_in {a b : Pic} (ha : ByP a) (hb : ByP b) {i : Nat} (hi : 4 * i + 4 ≤ a.n) (hj : 4 * i + 4 ≤ b.n) (hs : i ≤ 10000) : PXok dfR a b (4 * i : Nat) ∧ axB a b (4 * i : Nat) = true ∧
    w64 (unV a b i + axV dfR a b (4 * i : Nat) 0) = unV a b (i + 1) ∧ qmx (moV a b (4 * i)) (axV dfR a b (4 * i : Nat) 1) = moV a b (4 * (i + 1)) ∧ w64 (sqV a b (4 * i) + axV dfR a b (4 * i : Nat) 2) = sqV a b (4 * (i + 1)) := by
  have hw : w64 (((4 * i : Nat) : Int) + 4) = ((4 * i + 4 : Nat) : Int) := by rw [w64_id (by omega) (by omega)]; omega
  have hN : ∀ n, axN (4 * i : Nat) n = 4 := fun n => by unfold axN sbN; rw [hw]; simp only [Option.getD_some]; omega
  have hE : ∀ p : Pic, axE (4 * i : Nat) p = fun k => [yA (p.px (4 * i + k))] := fun p => by unfold axE sbL; simp only [Option.getD_some, Int.toNat_natCast]
  have hb4 : ∀ k, k < 4 → (0 ≤ a.px (4 * i + k) ∧ a.px (4 * i + k) ≤ 255) ∧ (0 ≤ b.px (4 * i + k) ∧ b.px (4 * i + k) ≤ 255) := fun k hk => ⟨ha _ (by omega), hb _ (by omega)⟩
  have f4 := four (P := fun k => a.px (4 * i + k)) (Q := fun k => b.px (4 * i + k)) hb4
  have v0 : axV dfR a b (4 * i : Nat) 0 = qU (fun k => a.px (4 * i + k)) (fun k => b.px (4 * i + k)) := by unfold axV; rw [hE, hE]; rfl
  have v1 : axV dfR a b (4 * i : Nat) 1 = qM (fun k => a.px (4 * i + k)) (fun k => b.px (4 * i + k)) 4 := by unfold axV; rw [hE, hE]; rfl
  have v2 : axV dfR a b (4 * i : Nat) 2 = qS (fun k => a.px (4 * i + k)) (fun k => b.px (4 * i + k)) 4 := by unfold axV; rw [hE, hE]; rfl
  refine ⟨?_, ?_, ?_, ?_, ?_⟩
  · unfold PXok
    rw [hN, hN, hE, hE, v0, v1, v2]
    exact px_spec _ _
  · unfold axB sbB
    rw [hw]
    simp only [Option.getD_some, Option.getD_none, Bool.or_false, Bool.and_true, Bool.and_eq_true, decide_eq_true_eq]
    omega
  · rw [v0]
    obtain ⟨x, y⟩ := un_bound a b i (by omega)
    show _ = cond (ulV a b i 4) (w64 (unV a b i + 1)) (unV a b i)
    have hu : ulV a b i 4 = decide (qM (fun k => a.px (4 * i + k)) (fun k => b.px (4 * i + k)) 4 > 0) := by
      show cond (cond (cond (cond false true (decide (apN a b (4 * i + 0) > 0))) true (decide (apN a b (4 * i + 1) > 0))) true (decide (apN a b (4 * i + 2) > 0))) true (decide (apN a b (4 * i + 3) > 0)) = _
      rw [f4.1, apN_eq (hb4 0 (by omega)).1 (hb4 0 (by omega)).2, apN_eq (hb4 1 (by omega)).1 (hb4 1 (by omega)).2, apN_eq (hb4 2 (by omega)).1 (hb4 2 (by omega)).2, apN_eq (hb4 3 (by omega)).1 (hb4 3 (by omega)).2]
      have n0 := ab_le (hb4 0 (by omega)).1 (hb4 0 (by omega)).2
      have n1 := ab_le (hb4 1 (by omega)).1 (hb4 1 (by omega)).2
      have n2 := ab_le (hb4 2 (by omega)).1 (hb4 2 (by omega)).2
      have n3 := ab_le (hb4 3 (by omega)).1 (hb4 3 (by omega)).2
      exact u4 n0.1 n1.1 n2.1 n3.1
    rw [hu]
    unfold qU
    cases decide (qM (fun k => a.px (4 * i + k)) (fun k => b.px (4 * i + k)) 4 > 0) <;> simp only [cond_true, cond_false]
    rw [Int.add_zero, w64_id (by omega) (by omega)]
  · rw [v1, f4.1, show 4 * (i + 1) = 4 * i + 3 + 1 by omega, mo_step, mo_step a b (4 * i + 2), mo_step a b (4 * i + 1), mo_step a b (4 * i + 0), apN_eq (hb4 0 (by omega)).1 (hb4 0 (by omega)).2, apN_eq (hb4 1 (by omega)).1 (hb4 1 (by omega)).2, apN_eq (hb4 2 (by omega)).1 (hb4 2 (by omega)).2, apN_eq (hb4 3 (by omega)).1 (hb4 3 (by omega)).2]
    have hm := mo_nonneg a b (4 * i)
    simp only [Nat.add_zero] at *
    generalize abI (a.px (4 * i) - b.px (4 * i)) = x0 at *
    generalize abI (a.px (4 * i + 1) - b.px (4 * i + 1)) = x1 at *
    generalize abI (a.px (4 * i + 2) - b.px (4 * i + 2)) = x2 at *
    generalize abI (a.px (4 * i + 3) - b.px (4 * i + 3)) = x3 at *
    generalize moV a b (4 * i) = m at *
    have q : ∀ x y, qmx x y = max x y := fun x y => by unfold qmx; split <;> omega
    simp only [q]
    omega
  · have b0 := sq_bound ha hb (4 * i) (by omega) (by omega) (by omega)
    have t1 := sq_step (k := 4 * i) (by omega) (ha _ (by omega)) (hb _ (by omega)) b0.1 b0.2
    have t2 := sq_step (k := 4 * i + 1) (by omega) (ha _ (by omega)) (hb _ (by omega)) t1.2.1 t1.2.2
    have t3 := sq_step (k := 4 * i + 2) (by omega) (ha _ (by omega)) (hb _ (by omega)) t2.2.1 t2.2.2
    have t4 := sq_step (k := 4 * i + 3) (by omega) (ha _ (by omega)) (hb _ (by omega)) t3.2.1 t3.2.2
    rw [v2, f4.2, show 4 * (i + 1) = 4 * i + 3 + 1 by omega, t4.1, t3.1, t2.1, t1.1]
    have e := t4.2
    rw [t4.1, t3.1, t2.1, t1.1] at e
    simp only [Nat.add_zero] at *
    generalize abI (a.px (4 * i) - b.px (4 * i)) * abI (a.px (4 * i) - b.px (4 * i)) = x0 at *
    generalize abI (a.px (4 * i + 1) - b.px (4 * i + 1)) * abI (a.px (4 * i + 1) - b.px (4 * i + 1)) = x1 at *
    generalize abI (a.px (4 * i + 2) - b.px (4 * i + 2)) * abI (a.px (4 * i + 2) - b.px (4 * i + 2)) = x2 at *
    generalize abI (a.px (4 * i + 3) - b.px (4 * i + 3)) * abI (a.px (4 * i + 3) - b.px (4 * i + 3)) = x3 at *
    rw [w64_id (by omega) (by omega)]
    omega
theorem ax_leads {a b : Pic} (ha : pmay a.W a.H a.n = 0) (hn : b.n = a.n) (pa : ByP a) (pb : ByP b) : Leads Try.prog (.loop (loopAt Try.f6 0)) (axS a b 0 0 0 0) (.exit 0) (axS a b (a.n : Nat) (unV a b (a.n / 4)) (moV a b (4 * (a.n / 4))) (sqV a b (4 * (a.n / 4)))) := by
  obtain ⟨⟨w1, w2, h1, h2⟩, e, hN⟩ := pmay_zero ha
  have hM := mulB (x := a.W) (y := a.H) (X := 64) (Y := 64) (by omega) w2 (by omega) h2
  have e4 : 4 * (a.n / 4) = a.n := by omega
  have ks := k_cons (kS_ok (P := Try.prog) (f := 11) (g := pxG dfR)) k_nil
  refine loop_rule (fun i => axS a b (4 * i : Nat) (unV a b i) (moV a b (4 * i)) (sqV a b (4 * i))) (a.n / 4) (.exit 0) _ (by simp) (fun i hi => ?_) ?_
  · obtain ⟨g1, g2, g3, g4, g5⟩ := ax_in pa pb (i := i) (by omega) (by omega) (by omega)
    refine leads_ev (finN_sub _ _) e_nil ks noL_ok ((ax_step dfR a b (4 * i : Nat) (unV a b i) (moV a b (4 * i)) (sqV a b (4 * i))).trans ?_)
    have hw : w64 (((4 * i : Nat) : Int) + 4) = ((4 * (i + 1) : Nat) : Int) := by rw [w64_id (by omega) (by omega)]; omega
    rw [dec_lt (show 4 * i < a.n by omega), gate_pos g1, g2, g3, g4, g5, hw]
    rfl
  · have h := ax_end dfR a b (4 * (a.n / 4) : Nat) (unV a b (a.n / 4)) (moV a b (4 * (a.n / 4))) (sqV a b (4 * (a.n / 4)))
    rw [e4] at h ⊢
    refine leads_ev (finE_sub _ _) e_nil ks noL_ok (h.trans ?_)
    rw [dec_self, cond_false]
theorem aok : ApartOk := ⟨fun a b pa pb => by
  have en := e_cons (gPm_ok pmayC_spec) e_nil
  have bad : ∀ e : Int, e ≠ 0 → apE a b = e → apX pmay a b none = dBad e → FSpec Try.prog 6 [.agg a.c, .agg b.c] (dTup (apU a b) (apM a b) (apQ a b) (apE a b)) := fun e he h1 h2 => by
    unfold apU apM apQ
    rw [h1, beq_false_of_ne he]
    refine gspec en k_nil Try.func6 (by kernel_rfl) (by kernel_rfl) (lok_none 11) rfl ((ac_ev0 pmay a b).trans ?_)
    rw [h2]
    rfl
  by_cases ha : pmay a.W a.H a.n = 0
  · by_cases hb : pmay b.W b.H b.n = 0
    · cases hs : apS a b
      · have hE : apE a b = 0 := by unfold apE; rw [ha, hb, hs]; rfl
        obtain ⟨⟨_, _, _, _⟩, e, _⟩ := pmay_zero ha
        obtain ⟨⟨_, _, _, _⟩, e', _⟩ := pmay_zero hb
        have hn : b.n = a.n := by
          unfold apS at hs
          by_cases hw : a.W = b.W <;> by_cases hh : a.H = b.H <;> simp [hw, hh] at hs
          rw [hw, hh] at e
          omega
        have hL := lok_at (c := bodyOf Try.f6) (i := 11) 0 1 (by kernel_rfl) (by kernel_rfl) (toldF_sound (keep := keepA) (τ := row4) (ax_leads ha hn pa pb))
        refine gspec en k_nil Try.func6 (by kernel_rfl) (by kernel_rfl) hL rfl ((ac_ev pmay a b (a.n : Nat) _ _ _).trans ?_)
        unfold apX apU apM apQ
        rw [hE, ha, hb, hs, gate_pos (Sub.refl _)]
        rfl
      · refine bad 5 (by decide) (by unfold apE; rw [ha, hb, hs]; rfl) ?_
        unfold apX; rw [ha, hb, hs]; rfl
    · refine bad (pmay b.W b.H b.n) hb (by unfold apE; rw [ha, beq_false_of_ne hb]; rfl) ?_
      unfold apX; rw [ha, beq_false_of_ne hb]; rfl
  · refine bad (pmay a.W a.H a.n) ha (by unfold apE; rw [beq_false_of_ne ha]; rfl) ?_
    unfold apX; rw [beq_false_of_ne ha]; rfl⟩
end Go.Proofs.Ytbmggfmifopddaa

namespace Go.Proofs.Ytbmggfmifopddaa
open Go.Gv Go.RowKit Go.ChangeShapes Go.WideShapes Go.ChangeAt

def rsl (n : Nat) (hs : Nat → Int) : AV := .sl 1 n fun i => [iA (hs i)]
theorem open_num {H : Type} {enc : TypeId × Value → H} {P : Program} {w : World} {r : Reach} {b0 : Nat} {t : TypeId} {v : Value} {d : DataW H} {p : List MemPlace} {k : IntKind} (hu : P.underlying t = some (.int k)) (hk : kds P 1 t = some [.i k]) (hv : Value.okWide P w r b0 t v)
    (h : DataW.Trod enc P w 0 (fun _ => true) true t v d p) : ∃ n, rel (Env.all w) (.x (.int k n)) v ∧ (Lit.int k n).wf = true := by
  have hone : v.cells = #[v] := by
    obtain ⟨n, rfl, _⟩ := okWide_int hu hv
    rfl
  obtain ⟨fuel, hf⟩ := h
  obtain ⟨a, h1, h2⟩ := open_arg hf hk hone
  rw [fitA] at h1
  obtain ⟨n, rfl, hw⟩ := h1
  exact ⟨n, h2, hw⟩
def numOf (el : Nat → List AV) (i : Nat) : Int := match el i with
  | [.x (.int .i64 h)] => h
  | _ => 0
theorem sl_same {E : Env} {sz n : Nat} {el el' : Nat → List AV} {v : Value} (h : rel E (.sl sz n el) v) (he : ∀ i, i < n → el' i = el i) : rel E (.sl sz n el') v := by
  have h : relA _ _ _ := h
  show relA _ _ _
  rw [relA] at h ⊢
  obtain ⟨a, c, h1, h2, h3⟩ := h
  refine ⟨a, c, h1, h2, ?_⟩
  rcases h3 with h3 | ⟨b, o, cs, e, fz, h4, h5, h6, h7⟩
  · exact Or.inl h3
  · exact Or.inr ⟨b, o, cs, e, fz, h4, h5, h6, fun i hi => by rw [he i hi]; exact h7 i hi⟩
theorem fitL_single {k : Kd} {zs : List AV} (h : fitL [k] zs) : ∃ a, zs = [a] ∧ fitA k a := by
  match zs, h with
  | [a], h => exact ⟨a, rfl, (fitL_cons.1 h).1⟩
  | [], h => have := fitL_length h; simp at this
  | _ :: _ :: _, h => have := fitL_length h; simp at this
/-- A row of whole numbers that came in: as many, each a number of 64 bits. -/
theorem open_raw {H : Type} {enc : TypeId × Value → H} {P : Program} {w : World} {r : Reach} {b0 : Nat} {t e : TypeId} {v : Value} {d : DataW H} {p : List MemPlace} (hu : P.underlying t = some (.slice e)) (hk : kds P 2 t = some [.l 1 [.i .i64]]) (hv : Value.okWide P w r b0 t v)
    (h : DataW.Trod enc P w 0 (fun _ => true) true t v d p) : ∃ n hs, rel (Env.all w) (rsl n hs) v ∧ ∀ i, i < n → (Lit.int .i64 (hs i)).wf = true := by
  have hone : v.cells = #[v] := by
    obtain ⟨a, len, cap, rfl⟩ := okWide_slice hu hv
    rfl
  obtain ⟨fuel, hf⟩ := h
  obtain ⟨a, h1, h2⟩ := open_arg hf hk hone
  rw [fitA] at h1
  obtain ⟨n, el, rfl, _, hel⟩ := h1
  have key : ∀ i, i < n → el i = [iA (numOf el i)] ∧ (Lit.int .i64 (numOf el i)).wf = true := fun i hi => by
    obtain ⟨a, ha, hf⟩ := fitL_single (hel i hi)
    rw [fitA] at hf
    obtain ⟨m, rfl, hw⟩ := hf
    have e : numOf el i = m := by unfold numOf; rw [ha]
    rw [e]
    exact ⟨ha, hw⟩
  exact ⟨n, numOf el, sl_same h2 fun i hi => (key i hi).1.symm, fun i hi => (key i hi).2⟩
end Go.Proofs.Ytbmggfmifopddaa

namespace Go.Proofs.Ytbmggfmifopddaa
open Go.Gv Go.RowKit Go.ChangeShapes Go.WideShapes Go.ChangeAt

def u8Of (el : Nat → List AV) (i : Nat) : Int := match el i with
  | [.x (.int .u8 h)] => h
  | _ => 0
theorem u8_wf {n : Int} (h : (Lit.int .u8 n).wf = true) : 0 ≤ n ∧ n ≤ 255 := by
  simp [Lit.wf, IntKind.min, IntKind.max, IntKind.signed, IntKind.bits] at h
  omega
theorem fit_iw {a : AV} {k : IntKind} (h : fitA (.i k) a) : ∃ n, a = .x (.int k n) ∧ (Lit.int k n).wf = true := by rw [fitA] at h; exact h
/-- A row of whole numbers within something. -/
theorem fit_ints {E : Env} {a : AV} {v : Value} (h : fitA (.l 1 [.i .i64]) a) (hr : rel E a v) : ∃ n g, n ≤ maxLen ∧ (∀ i, i < n → (Lit.int .i64 (g i)).wf = true) ∧ rel E (sI n g) v := by
  rw [fitA] at h
  obtain ⟨n, el, rfl, hn, hel⟩ := h
  have key : ∀ i, i < n → el i = [iA (numOf el i)] ∧ (Lit.int .i64 (numOf el i)).wf = true := fun i hi => by
    obtain ⟨a, ha, hf⟩ := fitL_single (hel i hi)
    obtain ⟨m, rfl, hw⟩ := fit_iw hf
    have e : numOf el i = m := by unfold numOf; rw [ha]
    rw [e]
    exact ⟨ha, hw⟩
  exact ⟨n, numOf el, hn, fun i hi => (key i hi).2, sl_like hr fun i hi => (key i hi).1.symm⟩
/-- A row of bytes within something. -/
theorem fit_bytes {E : Env} {a : AV} {v : Value} (h : fitA (.l 1 [.i .u8]) a) (hr : rel E a v) : ∃ n g, n ≤ maxLen ∧ (∀ i, i < n → 0 ≤ g i ∧ g i ≤ 255) ∧ rel E (sB n g) v := by
  rw [fitA] at h
  obtain ⟨n, el, rfl, hn, hel⟩ := h
  have key : ∀ i, i < n → el i = [yA (u8Of el i)] ∧ (Lit.int .u8 (u8Of el i)).wf = true := fun i hi => by
    obtain ⟨a, ha, hf⟩ := fitL_single (hel i hi)
    obtain ⟨m, rfl, hw⟩ := fit_iw hf
    have e : u8Of el i = m := by unfold u8Of; rw [ha]
    rw [e]
    exact ⟨ha, hw⟩
  exact ⟨n, u8Of el, hn, fun i hi => u8_wf (key i hi).2, sl_like hr fun i hi => (key i hi).1.symm⟩
/-- A row of bytes that came in. -/
theorem open_bytes {H : Type} {enc : TypeId × Value → H} {P : Program} {w : World} {r : Reach} {b0 : Nat} {t e : TypeId} {v : Value} {d : DataW H} {p : List MemPlace} (hu : P.underlying t = some (.slice e)) (hk : kds P 2 t = some [.l 1 [.i .u8]]) (hv : Value.okWide P w r b0 t v)
    (h : DataW.Trod enc P w 0 (fun _ => true) true t v d p) : ∃ n g, n ≤ maxLen ∧ (∀ i, i < n → 0 ≤ g i ∧ g i ≤ 255) ∧ rel (Env.all w) (sB n g) v := by
  have hone : v.cells = #[v] := by
    obtain ⟨a, len, cap, rfl⟩ := okWide_slice hu hv
    rfl
  obtain ⟨fuel, hf⟩ := h
  obtain ⟨a, h1, h2⟩ := open_arg hf hk hone
  exact fit_bytes h1 h2
/-- Four cells, one behind the other. -/
theorem fitL_n3 {k0 k1 k2 : Kd} {zs : List AV} (h : fitL [k0, k1, k2] zs) : ∃ x y z, zs = [x, y, z] ∧ fitA k0 x ∧ fitA k1 y ∧ fitA k2 z := by
  match zs, h with
  | [x, y, z], h =>
    simp only [fitL_cons] at h
    exact ⟨x, y, z, rfl, h.1, h.2.1, h.2.2.1⟩
  | [], h => have := fitL_length h; simp at this
  | [_], h => have := fitL_length h; simp at this
  | [_, _], h => have := fitL_length h; simp at this
  | _ :: _ :: _ :: _ :: _, h => have := fitL_length h; simp at this
theorem fitL_n4 {k0 k1 k2 k3 : Kd} {zs : List AV} (h : fitL [k0, k1, k2, k3] zs) : ∃ x y z u, zs = [x, y, z, u] ∧ fitA k0 x ∧ fitA k1 y ∧ fitA k2 z ∧ fitA k3 u := by
  match zs, h with
  | [x, y, z, u], h =>
    simp only [fitL_cons] at h
    exact ⟨x, y, z, u, rfl, h.1, h.2.1, h.2.2.1, h.2.2.2.1⟩
  | [], h => have := fitL_length h; simp at this
  | [_], h => have := fitL_length h; simp at this
  | [_, _], h => have := fitL_length h; simp at this
  | [_, _, _], h => have := fitL_length h; simp at this
  | _ :: _ :: _ :: _ :: _ :: _, h => have := fitL_length h; simp at this
def l3A (l : Nat → Int) : List AV := [iA (l 0), iA (l 1), iA (l 2)]
/-- Three whole numbers. -/
theorem three_arg {E : Env} {zs : List AV} {v : Value} (h : fitL [.i .i64, .i .i64, .i .i64] zs) (hr : rel E (.agg zs) v) : ∃ l : Nat → Int, (∀ i, i < 3 → (Lit.int .i64 (l i)).wf = true) ∧ rel E (.agg (l3A l)) v := by
  obtain ⟨x, y, z, rfl, h0, h1, h2⟩ := fitL_n3 h
  obtain ⟨a, rfl, wa⟩ := fit_iw h0
  obtain ⟨b, rfl, wb⟩ := fit_iw h1
  obtain ⟨c, rfl, wc⟩ := fit_iw h2
  refine ⟨fun i => [a, b, c].getD i 0, fun i hi => ?_, hr⟩
  match i, hi with
  | 0, _ => exact wa
  | 1, _ => exact wb
  | 2, _ => exact wc
end Go.Proofs.Ytbmggfmifopddaa

namespace Go.Proofs.Ytbmggfmifopddaa
open Go.Gv Go.RowKit Go.ChangeShapes Go.WideShapes Go.ChangeAt

theorem pic_arg {E : Env} {zs : List AV} {v : Value} (h : fitL [.i .i64, .i .i64, .l 1 [.i .u8]] zs) (hr : rel E (.agg zs) v) : ∃ p : Pic, (p.n ≤ maxLen ∧ ∀ i, i < p.n → 0 ≤ p.px i ∧ p.px i ≤ 255) ∧ rel E (.agg p.c) v := by
  obtain ⟨x, y, z, rfl, h0, h1, h2⟩ := fitL_n3 h
  obtain ⟨W, rfl, _⟩ := fit_iw h0
  obtain ⟨H, rfl, _⟩ := fit_iw h1
  obtain ⟨vs, e, hr⟩ := rel_agg.1 hr
  obtain ⟨v0, t0, e0, r0, hr⟩ := rels_cons.1 hr
  obtain ⟨v1, t1, e1, r1, hr⟩ := rels_cons.1 hr
  obtain ⟨v2, t2, e2, r2, hr⟩ := rels_cons.1 hr
  obtain ⟨n, g, hn, hg, r2⟩ := fit_bytes h2 r2
  exact ⟨⟨W, H, n, g⟩, ⟨hn, hg⟩, rel_agg.2 ⟨vs, e, rels_cons.2 ⟨v0, t0, e0, r0, rels_cons.2 ⟨v1, t1, e1, r1, rels_cons.2 ⟨v2, t2, e2, r2, hr⟩⟩⟩⟩⟩
end Go.Proofs.Ytbmggfmifopddaa
