/-
  The law TopScaled, by the kind of shape that the raw numbers speak of.
-/
import Derived.Test.YtfdfnnmgpjamdaiGreatSlaw
namespace Go.Proofs.YtfdfnnmgpjamdaiGreat
open Go.Ev

theorem strikes_ok [Tok] : FSpec Tryz.prog 12 [] [] (B true) := by
  refine sp3 A3_ok mall_nil (kall_cons (kHit_ok (kd := 1) (z := 0) fun sk s r h => strike1 h) kall_nil) Tryz.func12 (by kernel_rfl) rfl ?_
  have h : ev3 Tryz.prog [] A3 [] [(17, kHit 1 0)] Tryz.f12 [] = some (B true) := by kernel_rfl
  exact h
def LW [Tok] : List Entry := (12, pe (eN0 (B true))) :: (18, eFF fun a b => B (sameS a b)) :: A3
theorem LW_ok [Tok] : ∀ e, e ∈ LW → EOk Tryz.prog e := all_cons (eN_ok strikes_ok) <| all_cons (eFF_ok rsame) A3_ok
def KW (kd z : Nat) : List KEntry := (9, kPick6) :: (17, kHit kd z) :: []
theorem KW_ok [Tok] {kd z : Nat} (h : ∀ sk s r, okS kd z sk s r = true → FSpec Tryz.prog 17 [] [SH kd s sk, RY r] (hitV kd z s r)) : ∀ e, e ∈ KW kd z → KOk Tryz.prog e := kall_cons kPick6_ok <| kall_cons (kHit_ok h) kall_nil
theorem cast_sh {k : Int} {kd : Nat} {s r : Nat → Nat} {sk : Int} {v : Value} [Tok] (e : k = (kd : Int)) (h : FSpec Tryz.prog 17 [] [SH k s sk, RY r] v) : FSpec Tryz.prog 17 [] [SH kd s sk, RY r] v := by rw [← e]; exact h

theorem st10 [Tok] : ∀ sk s r, okS 1 0 sk s r = true → FSpec Tryz.prog 17 [] [SH ((1 : Nat) : Int) s sk, RY r] (hitV 1 0 s r) := fun _ _ _ h => strike1 h
theorem st20 [Tok] : ∀ sk s r, okS 2 0 sk s r = true → FSpec Tryz.prog 17 [] [SH ((2 : Nat) : Int) s sk, RY r] (hitV 2 0 s r) := fun _ _ _ h => strike2 h
theorem st40 [Tok] : ∀ sk s r, okS 4 0 sk s r = true → FSpec Tryz.prog 17 [] [SH ((4 : Nat) : Int) s sk, RY r] (hitV 4 0 s r) := fun _ _ _ h => strike4 h
theorem st30 [Tok] : ∀ sk s r, okS 3 0 sk s r = true → FSpec Tryz.prog 17 [] [SH ((3 : Nat) : Int) s sk, RY r] (hitV 3 0 s r) := fun _ _ _ h => strike3a h
theorem st31 [Tok] : ∀ sk s r, okS 3 1 sk s r = true → FSpec Tryz.prog 17 [] [SH ((3 : Nat) : Int) s sk, RY r] (hitV 3 1 s r) := fun _ _ _ h => strike3b h
theorem st32 [Tok] : ∀ sk s r, okS 3 2 sk s r = true → FSpec Tryz.prog 17 [] [SH ((3 : Nat) : Int) s sk, RY r] (hitV 3 2 s r) := fun _ _ _ h => strike3c h
theorem st50 [Tok] : ∀ sk s r, okS 5 0 sk s r = true → FSpec Tryz.prog 17 [] [SH ((5 : Nat) : Int) s sk, RY r] (hitV 5 0 s r) := fun _ _ _ h => strike5a h
theorem st51 [Tok] : ∀ sk s r, okS 5 1 sk s r = true → FSpec Tryz.prog 17 [] [SH ((5 : Nat) : Int) s sk, RY r] (hitV 5 1 s r) := fun _ _ _ h => strike5b h
theorem st52 [Tok] : ∀ sk s r, okS 5 2 sk s r = true → FSpec Tryz.prog 17 [] [SH ((5 : Nat) : Int) s sk, RY r] (hitV 5 2 s r) := fun _ _ _ h => strike5c h

/-! ### CASE B: there are none -/
def QB1 [Tok] (P : Program) (fm fo : Func) : List Entry := (29, eRawB) :: R1 P fm fo
theorem QB1_ok [Tok] : ∀ e, e ∈ QB1 Tryz.prog Tryz.f43 Tryz.f66 → EOkH Tryz.prog [] e := allH_cons eRawB_ok fun e he => (R1_ok e he).over _
theorem vecB [Tok] {fr most : Int} (h : okPair fr most = true) : FSpec Tryz.prog 20 [] [NIL, I fr, I most] (vecS (fun _ => 0) fr most) := by
  rcases okPair_cases h with ⟨rfl, rfl⟩ | ⟨rfl, rfl⟩ | ⟨rfl, rfl⟩ | ⟨rfl, rfl⟩ | ⟨rfl, rfl⟩ <;> exact spH QB1_ok Tryz.func20 (by kernel_rfl) rfl (by kernel_rfl)
def eVecB : List (List Value) → List Value → Option Value := fun _ args => match args with
  | [.slice none 0 0, .int .i64 fr, .int .i64 most] => cond (okPair fr most) (some (vecS (fun _ => 0) fr most)) none
  | _ => none
theorem eVecB_ok [Tok] : EOkH Tryz.prog [] (20, eVecB) := by
  intro mem args r hp hr
  simp only [eVecB] at hr
  split at hr
  · obtain ⟨h1, h2⟩ := fw hr
    subst h2
    exact Or.inl ((vecB h1).weak rfl rfl hp)
  · cases hr
def QB2 [Tok] (P : Program) (fm fo : Func) : List Entry := (20, eVecB) :: QB1 P fm fo
theorem QB2_ok [Tok] : ∀ e, e ∈ QB2 Tryz.prog Tryz.f43 Tryz.f66 → EOkH Tryz.prog [] e := allH_cons eVecB_ok QB1_ok
theorem rayOB [Tok] : FSpec Tryz.prog 10 [] [NIL, I 14] (RY (rayOfS fun _ => 0)) := by
  refine spH QB2_ok Tryz.func10 (by kernel_rfl) rfl ?_
  have h : evH Tryz.prog [] (QB2 Tryz.prog Tryz.f43 Tryz.f66) Tryz.f10 [NIL, I 14] = ray1 (fun _ => 0) := by kernel_rfl
  rw [h]; exact ray1_eq _

/-! ### Shapes, case A -/
theorem shA00 [Tok] (l : List Int) (hn : Tok.n 0 = l.length) (hl : l ≠ []) {x y a b : Nat} (hq : ∀ n, I64 (rawS l n)) (hk : pickS ((rawS l) 0) 6 = 0) : FSpec Tryz.prog 15 [RW l] [.slice (some ⟨0, x, some y⟩) a b, I 0, I 3] (shV 0 0 (rawS l)) := by
  refine spH3 (QA2_ok l hn hl) (KS_ok 0 (show 0 < 3 by decide)) Tryz.func15 (by kernel_rfl) rfl ?_
  have h : ev3 Tryz.prog [RW l] (QA2 l Tryz.prog Tryz.f43 Tryz.f66) [] (KS 0 0) Tryz.f15 [.slice (some ⟨0, x, some y⟩) a b, I 0, I 3] = shTree 0 0 (rawS l) := by kernel_rfl
  rw [h]; exact shTree_eq hq (by decide) hk (fun e => by rcases e with e | e <;> cases e)
theorem shA10 [Tok] (l : List Int) (hn : Tok.n 0 = l.length) (hl : l ≠ []) {x y a b : Nat} (hq : ∀ n, I64 (rawS l n)) (hk : pickS ((rawS l) 0) 6 = 1) : FSpec Tryz.prog 15 [RW l] [.slice (some ⟨0, x, some y⟩) a b, I 0, I 3] (shV 1 0 (rawS l)) := by
  refine spH3 (QA2_ok l hn hl) (KS_ok 1 (show 0 < 3 by decide)) Tryz.func15 (by kernel_rfl) rfl ?_
  have h : ev3 Tryz.prog [RW l] (QA2 l Tryz.prog Tryz.f43 Tryz.f66) [] (KS 1 0) Tryz.f15 [.slice (some ⟨0, x, some y⟩) a b, I 0, I 3] = shTree 1 0 (rawS l) := by kernel_rfl
  rw [h]; exact shTree_eq hq (by decide) hk (fun e => by rcases e with e | e <;> cases e)
theorem shA20 [Tok] (l : List Int) (hn : Tok.n 0 = l.length) (hl : l ≠ []) {x y a b : Nat} (hq : ∀ n, I64 (rawS l n)) (hk : pickS ((rawS l) 0) 6 = 2) : FSpec Tryz.prog 15 [RW l] [.slice (some ⟨0, x, some y⟩) a b, I 0, I 3] (shV 2 0 (rawS l)) := by
  refine spH3 (QA2_ok l hn hl) (KS_ok 2 (show 0 < 3 by decide)) Tryz.func15 (by kernel_rfl) rfl ?_
  have h : ev3 Tryz.prog [RW l] (QA2 l Tryz.prog Tryz.f43 Tryz.f66) [] (KS 2 0) Tryz.f15 [.slice (some ⟨0, x, some y⟩) a b, I 0, I 3] = shTree 2 0 (rawS l) := by kernel_rfl
  rw [h]; exact shTree_eq hq (by decide) hk (fun e => by rcases e with e | e <;> cases e)
theorem shA30 [Tok] (l : List Int) (hn : Tok.n 0 = l.length) (hl : l ≠ []) {x y a b : Nat} (hq : ∀ n, I64 (rawS l n)) (hk : pickS ((rawS l) 0) 6 = 3) : FSpec Tryz.prog 15 [RW l] [.slice (some ⟨0, x, some y⟩) a b, I 0, I 3] (shV 3 0 (rawS l)) := by
  refine spH3 (QA2_ok l hn hl) (KS_ok 3 (show 0 < 3 by decide)) Tryz.func15 (by kernel_rfl) rfl ?_
  have h : ev3 Tryz.prog [RW l] (QA2 l Tryz.prog Tryz.f43 Tryz.f66) [] (KS 3 0) Tryz.f15 [.slice (some ⟨0, x, some y⟩) a b, I 0, I 3] = shTree 3 0 (rawS l) := by kernel_rfl
  rw [h]; exact shTree_eq hq (by decide) hk (fun e => by rcases e with e | e <;> cases e)
theorem shA40 [Tok] (l : List Int) (hn : Tok.n 0 = l.length) (hl : l ≠ []) {x y a b : Nat} (hq : ∀ n, I64 (rawS l n)) (hk : pickS ((rawS l) 0) 6 = 4) (hz : pickS ((rawS l) 6) 3 = 0) : FSpec Tryz.prog 15 [RW l] [.slice (some ⟨0, x, some y⟩) a b, I 0, I 3] (shV 4 0 (rawS l)) := by
  refine spH3 (QA2_ok l hn hl) (KS_ok 4 (show 0 < 3 by decide)) Tryz.func15 (by kernel_rfl) rfl ?_
  have h : ev3 Tryz.prog [RW l] (QA2 l Tryz.prog Tryz.f43 Tryz.f66) [] (KS 4 0) Tryz.f15 [.slice (some ⟨0, x, some y⟩) a b, I 0, I 3] = shTree 4 0 (rawS l) := by kernel_rfl
  rw [h]; exact shTree_eq hq (by decide) hk (fun _ => hz)
theorem shA41 [Tok] (l : List Int) (hn : Tok.n 0 = l.length) (hl : l ≠ []) {x y a b : Nat} (hq : ∀ n, I64 (rawS l n)) (hk : pickS ((rawS l) 0) 6 = 4) (hz : pickS ((rawS l) 6) 3 = 1) : FSpec Tryz.prog 15 [RW l] [.slice (some ⟨0, x, some y⟩) a b, I 0, I 3] (shV 4 1 (rawS l)) := by
  refine spH3 (QA2_ok l hn hl) (KS_ok 4 (show 1 < 3 by decide)) Tryz.func15 (by kernel_rfl) rfl ?_
  have h : ev3 Tryz.prog [RW l] (QA2 l Tryz.prog Tryz.f43 Tryz.f66) [] (KS 4 1) Tryz.f15 [.slice (some ⟨0, x, some y⟩) a b, I 0, I 3] = shTree 4 1 (rawS l) := by kernel_rfl
  rw [h]; exact shTree_eq hq (by decide) hk (fun _ => hz)
theorem shA42 [Tok] (l : List Int) (hn : Tok.n 0 = l.length) (hl : l ≠ []) {x y a b : Nat} (hq : ∀ n, I64 (rawS l n)) (hk : pickS ((rawS l) 0) 6 = 4) (hz : pickS ((rawS l) 6) 3 = 2) : FSpec Tryz.prog 15 [RW l] [.slice (some ⟨0, x, some y⟩) a b, I 0, I 3] (shV 4 2 (rawS l)) := by
  refine spH3 (QA2_ok l hn hl) (KS_ok 4 (show 2 < 3 by decide)) Tryz.func15 (by kernel_rfl) rfl ?_
  have h : ev3 Tryz.prog [RW l] (QA2 l Tryz.prog Tryz.f43 Tryz.f66) [] (KS 4 2) Tryz.f15 [.slice (some ⟨0, x, some y⟩) a b, I 0, I 3] = shTree 4 2 (rawS l) := by kernel_rfl
  rw [h]; exact shTree_eq hq (by decide) hk (fun _ => hz)
theorem shA50 [Tok] (l : List Int) (hn : Tok.n 0 = l.length) (hl : l ≠ []) {x y a b : Nat} (hq : ∀ n, I64 (rawS l n)) (hk : pickS ((rawS l) 0) 6 = 5) (hz : pickS ((rawS l) 6) 3 = 0) : FSpec Tryz.prog 15 [RW l] [.slice (some ⟨0, x, some y⟩) a b, I 0, I 3] (shV 5 0 (rawS l)) := by
  refine spH3 (QA2_ok l hn hl) (KS_ok 5 (show 0 < 3 by decide)) Tryz.func15 (by kernel_rfl) rfl ?_
  have h : ev3 Tryz.prog [RW l] (QA2 l Tryz.prog Tryz.f43 Tryz.f66) [] (KS 5 0) Tryz.f15 [.slice (some ⟨0, x, some y⟩) a b, I 0, I 3] = shTree 5 0 (rawS l) := by kernel_rfl
  rw [h]; exact shTree_eq hq (by decide) hk (fun _ => hz)
theorem shA51 [Tok] (l : List Int) (hn : Tok.n 0 = l.length) (hl : l ≠ []) {x y a b : Nat} (hq : ∀ n, I64 (rawS l n)) (hk : pickS ((rawS l) 0) 6 = 5) (hz : pickS ((rawS l) 6) 3 = 1) : FSpec Tryz.prog 15 [RW l] [.slice (some ⟨0, x, some y⟩) a b, I 0, I 3] (shV 5 1 (rawS l)) := by
  refine spH3 (QA2_ok l hn hl) (KS_ok 5 (show 1 < 3 by decide)) Tryz.func15 (by kernel_rfl) rfl ?_
  have h : ev3 Tryz.prog [RW l] (QA2 l Tryz.prog Tryz.f43 Tryz.f66) [] (KS 5 1) Tryz.f15 [.slice (some ⟨0, x, some y⟩) a b, I 0, I 3] = shTree 5 1 (rawS l) := by kernel_rfl
  rw [h]; exact shTree_eq hq (by decide) hk (fun _ => hz)
theorem shA52 [Tok] (l : List Int) (hn : Tok.n 0 = l.length) (hl : l ≠ []) {x y a b : Nat} (hq : ∀ n, I64 (rawS l n)) (hk : pickS ((rawS l) 0) 6 = 5) (hz : pickS ((rawS l) 6) 3 = 2) : FSpec Tryz.prog 15 [RW l] [.slice (some ⟨0, x, some y⟩) a b, I 0, I 3] (shV 5 2 (rawS l)) := by
  refine spH3 (QA2_ok l hn hl) (KS_ok 5 (show 2 < 3 by decide)) Tryz.func15 (by kernel_rfl) rfl ?_
  have h : ev3 Tryz.prog [RW l] (QA2 l Tryz.prog Tryz.f43 Tryz.f66) [] (KS 5 2) Tryz.f15 [.slice (some ⟨0, x, some y⟩) a b, I 0, I 3] = shTree 5 2 (rawS l) := by kernel_rfl
  rw [h]; exact shTree_eq hq (by decide) hk (fun _ => hz)
def eShA (v : Value) : List (List Value) → List Value → Option Value := fun _ args => match args with
  | [.slice (some ⟨0, _, some _⟩) _ _, .int .i64 fr, .int .i64 n] => cond (fr == 0 && n == 3) (some v) none
  | _ => none
theorem eShA_ok [Tok] (l : List Int) {v : Value} (h : ∀ x y a b, FSpec Tryz.prog 15 [RW l] [.slice (some ⟨0, x, some y⟩) a b, I 0, I 3] v) : EOkH Tryz.prog [RW l] (15, eShA v) := by
  intro mem args r hp hr
  simp only [eShA] at hr
  split at hr
  · obtain ⟨h1, h2⟩ := fw hr
    subst h2
    simp only [Bool.and_eq_true] at h1
    rw [eq_of_beq h1.1, eq_of_beq h1.2]
    exact Or.inl ((h _ _ _ _).weak (by simp [RW_noPtr]) rfl hp)
  · cases hr
def eRyA (v : Value) : List (List Value) → List Value → Option Value := fun _ args => match args with
  | [.slice (some ⟨0, _, some _⟩) _ _, .int .i64 fr] => cond (fr == 14) (some v) none
  | _ => none
theorem eRyA_ok [Tok] (l : List Int) {v : Value} (h : ∀ x y a b, FSpec Tryz.prog 10 [RW l] [.slice (some ⟨0, x, some y⟩) a b, I 14] v) : EOkH Tryz.prog [RW l] (10, eRyA v) := by
  intro mem args r hp hr
  simp only [eRyA] at hr
  split at hr
  · obtain ⟨h1, h2⟩ := fw hr
    subst h2
    rw [eq_of_beq h1]
    exact Or.inl ((h _ _ _ _).weak (by simp [RW_noPtr]) rfl hp)
  · cases hr
def LLA [Tok] (v : Value) (q : Int → Int) : List Entry := (15, eShA v) :: (10, eRyA (RY (rayOfS q))) :: LW
/-! ### The law, case A -/
theorem lawA00 [Tok] (l : List Int) (hn : Tok.n 0 = l.length) (hl : l ≠ []) {x y a b : Nat} (hq : ∀ n, I64 (rawS l n)) (k : Int) (ik : I64 k) (hk : pickS ((rawS l) 0) 6 = 0) : FSpec Tryz.prog 5 [RW l] [.slice (some ⟨0, x, some y⟩) a b, I k] (B true) := by
  have hL : ∀ e, e ∈ LLA (shV 0 0 (rawS l)) (rawS l) → EOkH Tryz.prog [RW l] e := allH_cons (eShA_ok l fun _ _ _ _ => shA00 l hn hl hq hk) <| allH_cons (eRyA_ok l fun _ _ _ _ => rayA l hn hl) fun e he => (LW_ok e he).over _
  refine spH3 hL (KW_ok st10) Tryz.func5 (by kernel_rfl) rfl ?_
  have h : ev3 Tryz.prog [RW l] (LLA (shV 0 0 (rawS l)) (rawS l)) [] (KW 1 0) Tryz.f5 [.slice (some ⟨0, x, some y⟩) a b, I k] = cond (decide (((Tok.n 0 : Nat) : Int) > 256)) (some (B true)) (lawV 1 0 (sk3 (rawS l)) (mk1 (rawS l)) (rayOfS (rawS l)) (pickS k 6)) := by kernel_rfl
  obtain ⟨p0, p6⟩ := pick_range ik (show (0 : Int) < 6 by decide)
  have pl : Plain 1 0 (mk1 (rawS l)) (rayOfS (rawS l)) := plain1 hq (ray_plain hq)
  rw [h, law_true pl (show skOk (sk3 (rawS l)) = true from sk_ok hq) p0 p6]
  cases decide (((Tok.n 0 : Nat) : Int) > 256) <;> rfl
theorem lawA10 [Tok] (l : List Int) (hn : Tok.n 0 = l.length) (hl : l ≠ []) {x y a b : Nat} (hq : ∀ n, I64 (rawS l n)) (k : Int) (ik : I64 k) (hk : pickS ((rawS l) 0) 6 = 1) : FSpec Tryz.prog 5 [RW l] [.slice (some ⟨0, x, some y⟩) a b, I k] (B true) := by
  have hL : ∀ e, e ∈ LLA (shV 1 0 (rawS l)) (rawS l) → EOkH Tryz.prog [RW l] e := allH_cons (eShA_ok l fun _ _ _ _ => shA10 l hn hl hq hk) <| allH_cons (eRyA_ok l fun _ _ _ _ => rayA l hn hl) fun e he => (LW_ok e he).over _
  refine spH3 hL (KW_ok st20) Tryz.func5 (by kernel_rfl) rfl ?_
  have h : ev3 Tryz.prog [RW l] (LLA (shV 1 0 (rawS l)) (rawS l)) [] (KW 2 0) Tryz.f5 [.slice (some ⟨0, x, some y⟩) a b, I k] = cond (decide (((Tok.n 0 : Nat) : Int) > 256)) (some (B true)) (lawV 2 0 (sk3 (rawS l)) (mk2 (rawS l)) (rayOfS (rawS l)) (pickS k 6)) := by kernel_rfl
  obtain ⟨p0, p6⟩ := pick_range ik (show (0 : Int) < 6 by decide)
  have pl : Plain 2 0 (mk2 (rawS l)) (rayOfS (rawS l)) := plain2 hq (ray_plain hq)
  rw [h, law_true pl (show skOk (sk3 (rawS l)) = true from sk_ok hq) p0 p6]
  cases decide (((Tok.n 0 : Nat) : Int) > 256) <;> rfl
theorem lawA20 [Tok] (l : List Int) (hn : Tok.n 0 = l.length) (hl : l ≠ []) {x y a b : Nat} (hq : ∀ n, I64 (rawS l n)) (k : Int) (ik : I64 k) (hk : pickS ((rawS l) 0) 6 = 2) (hz : zS (rayOfS (rawS l)) = 0) : FSpec Tryz.prog 5 [RW l] [.slice (some ⟨0, x, some y⟩) a b, I k] (B true) := by
  have hL : ∀ e, e ∈ LLA (shV 2 0 (rawS l)) (rawS l) → EOkH Tryz.prog [RW l] e := allH_cons (eShA_ok l fun _ _ _ _ => shA20 l hn hl hq hk) <| allH_cons (eRyA_ok l fun _ _ _ _ => rayA l hn hl) fun e he => (LW_ok e he).over _
  refine spH3 hL (KW_ok st30) Tryz.func5 (by kernel_rfl) rfl ?_
  have h : ev3 Tryz.prog [RW l] (LLA (shV 2 0 (rawS l)) (rawS l)) [] (KW 3 0) Tryz.f5 [.slice (some ⟨0, x, some y⟩) a b, I k] = cond (decide (((Tok.n 0 : Nat) : Int) > 256)) (some (B true)) (lawV 3 0 (sk3 (rawS l)) (mk3 (rawS l)) (rayOfS (rawS l)) (pickS k 6)) := by kernel_rfl
  obtain ⟨p0, p6⟩ := pick_range ik (show (0 : Int) < 6 by decide)
  have pl : Plain 3 0 (mk3 (rawS l)) (rayOfS (rawS l)) := by have := plain3 hq (ray_plain hq); rw [hz] at this; exact this
  rw [h, law_true pl (show skOk (sk3 (rawS l)) = true from sk_ok hq) p0 p6]
  cases decide (((Tok.n 0 : Nat) : Int) > 256) <;> rfl
theorem lawA21 [Tok] (l : List Int) (hn : Tok.n 0 = l.length) (hl : l ≠ []) {x y a b : Nat} (hq : ∀ n, I64 (rawS l n)) (k : Int) (ik : I64 k) (hk : pickS ((rawS l) 0) 6 = 2) (hz : zS (rayOfS (rawS l)) = 1) : FSpec Tryz.prog 5 [RW l] [.slice (some ⟨0, x, some y⟩) a b, I k] (B true) := by
  have hL : ∀ e, e ∈ LLA (shV 2 0 (rawS l)) (rawS l) → EOkH Tryz.prog [RW l] e := allH_cons (eShA_ok l fun _ _ _ _ => shA20 l hn hl hq hk) <| allH_cons (eRyA_ok l fun _ _ _ _ => rayA l hn hl) fun e he => (LW_ok e he).over _
  refine spH3 hL (KW_ok st31) Tryz.func5 (by kernel_rfl) rfl ?_
  have h : ev3 Tryz.prog [RW l] (LLA (shV 2 0 (rawS l)) (rawS l)) [] (KW 3 1) Tryz.f5 [.slice (some ⟨0, x, some y⟩) a b, I k] = cond (decide (((Tok.n 0 : Nat) : Int) > 256)) (some (B true)) (lawV 3 1 (sk3 (rawS l)) (mk3 (rawS l)) (rayOfS (rawS l)) (pickS k 6)) := by kernel_rfl
  obtain ⟨p0, p6⟩ := pick_range ik (show (0 : Int) < 6 by decide)
  have pl : Plain 3 1 (mk3 (rawS l)) (rayOfS (rawS l)) := by have := plain3 hq (ray_plain hq); rw [hz] at this; exact this
  rw [h, law_true pl (show skOk (sk3 (rawS l)) = true from sk_ok hq) p0 p6]
  cases decide (((Tok.n 0 : Nat) : Int) > 256) <;> rfl
theorem lawA22 [Tok] (l : List Int) (hn : Tok.n 0 = l.length) (hl : l ≠ []) {x y a b : Nat} (hq : ∀ n, I64 (rawS l n)) (k : Int) (ik : I64 k) (hk : pickS ((rawS l) 0) 6 = 2) (hz : zS (rayOfS (rawS l)) = 2) : FSpec Tryz.prog 5 [RW l] [.slice (some ⟨0, x, some y⟩) a b, I k] (B true) := by
  have hL : ∀ e, e ∈ LLA (shV 2 0 (rawS l)) (rawS l) → EOkH Tryz.prog [RW l] e := allH_cons (eShA_ok l fun _ _ _ _ => shA20 l hn hl hq hk) <| allH_cons (eRyA_ok l fun _ _ _ _ => rayA l hn hl) fun e he => (LW_ok e he).over _
  refine spH3 hL (KW_ok st32) Tryz.func5 (by kernel_rfl) rfl ?_
  have h : ev3 Tryz.prog [RW l] (LLA (shV 2 0 (rawS l)) (rawS l)) [] (KW 3 2) Tryz.f5 [.slice (some ⟨0, x, some y⟩) a b, I k] = cond (decide (((Tok.n 0 : Nat) : Int) > 256)) (some (B true)) (lawV 3 2 (sk3 (rawS l)) (mk3 (rawS l)) (rayOfS (rawS l)) (pickS k 6)) := by kernel_rfl
  obtain ⟨p0, p6⟩ := pick_range ik (show (0 : Int) < 6 by decide)
  have pl : Plain 3 2 (mk3 (rawS l)) (rayOfS (rawS l)) := by have := plain3 hq (ray_plain hq); rw [hz] at this; exact this
  rw [h, law_true pl (show skOk (sk3 (rawS l)) = true from sk_ok hq) p0 p6]
  cases decide (((Tok.n 0 : Nat) : Int) > 256) <;> rfl
theorem lawA30 [Tok] (l : List Int) (hn : Tok.n 0 = l.length) (hl : l ≠ []) {x y a b : Nat} (hq : ∀ n, I64 (rawS l n)) (k : Int) (ik : I64 k) (hk : pickS ((rawS l) 0) 6 = 3) : FSpec Tryz.prog 5 [RW l] [.slice (some ⟨0, x, some y⟩) a b, I k] (B true) := by
  have hL : ∀ e, e ∈ LLA (shV 3 0 (rawS l)) (rawS l) → EOkH Tryz.prog [RW l] e := allH_cons (eShA_ok l fun _ _ _ _ => shA30 l hn hl hq hk) <| allH_cons (eRyA_ok l fun _ _ _ _ => rayA l hn hl) fun e he => (LW_ok e he).over _
  refine spH3 hL (KW_ok st40) Tryz.func5 (by kernel_rfl) rfl ?_
  have h : ev3 Tryz.prog [RW l] (LLA (shV 3 0 (rawS l)) (rawS l)) [] (KW 4 0) Tryz.f5 [.slice (some ⟨0, x, some y⟩) a b, I k] = cond (decide (((Tok.n 0 : Nat) : Int) > 256)) (some (B true)) (lawV 4 0 (sk3 (rawS l)) (mk4 (rawS l)) (rayOfS (rawS l)) (pickS k 6)) := by kernel_rfl
  obtain ⟨p0, p6⟩ := pick_range ik (show (0 : Int) < 6 by decide)
  have pl : Plain 4 0 (mk4 (rawS l)) (rayOfS (rawS l)) := plain4 hq (ray_plain hq)
  rw [h, law_true pl (show skOk (sk3 (rawS l)) = true from sk_ok hq) p0 p6]
  cases decide (((Tok.n 0 : Nat) : Int) > 256) <;> rfl
theorem lawA40 [Tok] (l : List Int) (hn : Tok.n 0 = l.length) (hl : l ≠ []) {x y a b : Nat} (hq : ∀ n, I64 (rawS l n)) (k : Int) (ik : I64 k) (hk : pickS ((rawS l) 0) 6 = 4) (hz : pickS ((rawS l) 6) 3 = 0) : FSpec Tryz.prog 5 [RW l] [.slice (some ⟨0, x, some y⟩) a b, I k] (B true) := by
  have hL : ∀ e, e ∈ LLA (shV 4 0 (rawS l)) (rawS l) → EOkH Tryz.prog [RW l] e := allH_cons (eShA_ok l fun _ _ _ _ => shA40 l hn hl hq hk hz) <| allH_cons (eRyA_ok l fun _ _ _ _ => rayA l hn hl) fun e he => (LW_ok e he).over _
  refine spH3 hL (KW_ok st50) Tryz.func5 (by kernel_rfl) rfl ?_
  have h : ev3 Tryz.prog [RW l] (LLA (shV 4 0 (rawS l)) (rawS l)) [] (KW 5 0) Tryz.f5 [.slice (some ⟨0, x, some y⟩) a b, I k] = cond (decide (((Tok.n 0 : Nat) : Int) > 256)) (some (B true)) (lawV 5 0 (sk3 (rawS l)) (mk5 0 (rawS l)) (rayOfS (rawS l)) (pickS k 6)) := by kernel_rfl
  obtain ⟨p0, p6⟩ := pick_range ik (show (0 : Int) < 6 by decide)
  have pl : Plain 5 0 (mk5 0 (rawS l)) (rayOfS (rawS l)) := plain5 hq (ray_plain hq) (show 0 < 3 by decide)
  rw [h, law_true pl (show skOk (sk3 (rawS l)) = true from sk_ok hq) p0 p6]
  cases decide (((Tok.n 0 : Nat) : Int) > 256) <;> rfl
theorem lawA41 [Tok] (l : List Int) (hn : Tok.n 0 = l.length) (hl : l ≠ []) {x y a b : Nat} (hq : ∀ n, I64 (rawS l n)) (k : Int) (ik : I64 k) (hk : pickS ((rawS l) 0) 6 = 4) (hz : pickS ((rawS l) 6) 3 = 1) : FSpec Tryz.prog 5 [RW l] [.slice (some ⟨0, x, some y⟩) a b, I k] (B true) := by
  have hL : ∀ e, e ∈ LLA (shV 4 1 (rawS l)) (rawS l) → EOkH Tryz.prog [RW l] e := allH_cons (eShA_ok l fun _ _ _ _ => shA41 l hn hl hq hk hz) <| allH_cons (eRyA_ok l fun _ _ _ _ => rayA l hn hl) fun e he => (LW_ok e he).over _
  refine spH3 hL (KW_ok st51) Tryz.func5 (by kernel_rfl) rfl ?_
  have h : ev3 Tryz.prog [RW l] (LLA (shV 4 1 (rawS l)) (rawS l)) [] (KW 5 1) Tryz.f5 [.slice (some ⟨0, x, some y⟩) a b, I k] = cond (decide (((Tok.n 0 : Nat) : Int) > 256)) (some (B true)) (lawV 5 1 (sk3 (rawS l)) (mk5 1 (rawS l)) (rayOfS (rawS l)) (pickS k 6)) := by kernel_rfl
  obtain ⟨p0, p6⟩ := pick_range ik (show (0 : Int) < 6 by decide)
  have pl : Plain 5 1 (mk5 1 (rawS l)) (rayOfS (rawS l)) := plain5 hq (ray_plain hq) (show 1 < 3 by decide)
  rw [h, law_true pl (show skOk (sk3 (rawS l)) = true from sk_ok hq) p0 p6]
  cases decide (((Tok.n 0 : Nat) : Int) > 256) <;> rfl
theorem lawA42 [Tok] (l : List Int) (hn : Tok.n 0 = l.length) (hl : l ≠ []) {x y a b : Nat} (hq : ∀ n, I64 (rawS l n)) (k : Int) (ik : I64 k) (hk : pickS ((rawS l) 0) 6 = 4) (hz : pickS ((rawS l) 6) 3 = 2) : FSpec Tryz.prog 5 [RW l] [.slice (some ⟨0, x, some y⟩) a b, I k] (B true) := by
  have hL : ∀ e, e ∈ LLA (shV 4 2 (rawS l)) (rawS l) → EOkH Tryz.prog [RW l] e := allH_cons (eShA_ok l fun _ _ _ _ => shA42 l hn hl hq hk hz) <| allH_cons (eRyA_ok l fun _ _ _ _ => rayA l hn hl) fun e he => (LW_ok e he).over _
  refine spH3 hL (KW_ok st52) Tryz.func5 (by kernel_rfl) rfl ?_
  have h : ev3 Tryz.prog [RW l] (LLA (shV 4 2 (rawS l)) (rawS l)) [] (KW 5 2) Tryz.f5 [.slice (some ⟨0, x, some y⟩) a b, I k] = cond (decide (((Tok.n 0 : Nat) : Int) > 256)) (some (B true)) (lawV 5 2 (sk3 (rawS l)) (mk5 2 (rawS l)) (rayOfS (rawS l)) (pickS k 6)) := by kernel_rfl
  obtain ⟨p0, p6⟩ := pick_range ik (show (0 : Int) < 6 by decide)
  have pl : Plain 5 2 (mk5 2 (rawS l)) (rayOfS (rawS l)) := plain5 hq (ray_plain hq) (show 2 < 3 by decide)
  rw [h, law_true pl (show skOk (sk3 (rawS l)) = true from sk_ok hq) p0 p6]
  cases decide (((Tok.n 0 : Nat) : Int) > 256) <;> rfl
theorem lawA50 [Tok] (l : List Int) (hn : Tok.n 0 = l.length) (hl : l ≠ []) {x y a b : Nat} (hq : ∀ n, I64 (rawS l n)) (k : Int) (ik : I64 k) (hk : pickS ((rawS l) 0) 6 = 5) (hz : pickS ((rawS l) 6) 3 = 0) : FSpec Tryz.prog 5 [RW l] [.slice (some ⟨0, x, some y⟩) a b, I k] (B true) := by
  have hL : ∀ e, e ∈ LLA (shV 5 0 (rawS l)) (rawS l) → EOkH Tryz.prog [RW l] e := allH_cons (eShA_ok l fun _ _ _ _ => shA50 l hn hl hq hk hz) <| allH_cons (eRyA_ok l fun _ _ _ _ => rayA l hn hl) fun e he => (LW_ok e he).over _
  refine spH3 hL (KW_ok st50) Tryz.func5 (by kernel_rfl) rfl ?_
  have h : ev3 Tryz.prog [RW l] (LLA (shV 5 0 (rawS l)) (rawS l)) [] (KW 5 0) Tryz.f5 [.slice (some ⟨0, x, some y⟩) a b, I k] = cond (decide (((Tok.n 0 : Nat) : Int) > 256)) (some (B true)) (lawV 5 0 (sk3 (rawS l)) (mk5 0 (rawS l)) (rayOfS (rawS l)) (pickS k 6)) := by kernel_rfl
  obtain ⟨p0, p6⟩ := pick_range ik (show (0 : Int) < 6 by decide)
  have pl : Plain 5 0 (mk5 0 (rawS l)) (rayOfS (rawS l)) := plain5 hq (ray_plain hq) (show 0 < 3 by decide)
  rw [h, law_true pl (show skOk (sk3 (rawS l)) = true from sk_ok hq) p0 p6]
  cases decide (((Tok.n 0 : Nat) : Int) > 256) <;> rfl
theorem lawA51 [Tok] (l : List Int) (hn : Tok.n 0 = l.length) (hl : l ≠ []) {x y a b : Nat} (hq : ∀ n, I64 (rawS l n)) (k : Int) (ik : I64 k) (hk : pickS ((rawS l) 0) 6 = 5) (hz : pickS ((rawS l) 6) 3 = 1) : FSpec Tryz.prog 5 [RW l] [.slice (some ⟨0, x, some y⟩) a b, I k] (B true) := by
  have hL : ∀ e, e ∈ LLA (shV 5 1 (rawS l)) (rawS l) → EOkH Tryz.prog [RW l] e := allH_cons (eShA_ok l fun _ _ _ _ => shA51 l hn hl hq hk hz) <| allH_cons (eRyA_ok l fun _ _ _ _ => rayA l hn hl) fun e he => (LW_ok e he).over _
  refine spH3 hL (KW_ok st51) Tryz.func5 (by kernel_rfl) rfl ?_
  have h : ev3 Tryz.prog [RW l] (LLA (shV 5 1 (rawS l)) (rawS l)) [] (KW 5 1) Tryz.f5 [.slice (some ⟨0, x, some y⟩) a b, I k] = cond (decide (((Tok.n 0 : Nat) : Int) > 256)) (some (B true)) (lawV 5 1 (sk3 (rawS l)) (mk5 1 (rawS l)) (rayOfS (rawS l)) (pickS k 6)) := by kernel_rfl
  obtain ⟨p0, p6⟩ := pick_range ik (show (0 : Int) < 6 by decide)
  have pl : Plain 5 1 (mk5 1 (rawS l)) (rayOfS (rawS l)) := plain5 hq (ray_plain hq) (show 1 < 3 by decide)
  rw [h, law_true pl (show skOk (sk3 (rawS l)) = true from sk_ok hq) p0 p6]
  cases decide (((Tok.n 0 : Nat) : Int) > 256) <;> rfl
theorem lawA52 [Tok] (l : List Int) (hn : Tok.n 0 = l.length) (hl : l ≠ []) {x y a b : Nat} (hq : ∀ n, I64 (rawS l n)) (k : Int) (ik : I64 k) (hk : pickS ((rawS l) 0) 6 = 5) (hz : pickS ((rawS l) 6) 3 = 2) : FSpec Tryz.prog 5 [RW l] [.slice (some ⟨0, x, some y⟩) a b, I k] (B true) := by
  have hL : ∀ e, e ∈ LLA (shV 5 2 (rawS l)) (rawS l) → EOkH Tryz.prog [RW l] e := allH_cons (eShA_ok l fun _ _ _ _ => shA52 l hn hl hq hk hz) <| allH_cons (eRyA_ok l fun _ _ _ _ => rayA l hn hl) fun e he => (LW_ok e he).over _
  refine spH3 hL (KW_ok st52) Tryz.func5 (by kernel_rfl) rfl ?_
  have h : ev3 Tryz.prog [RW l] (LLA (shV 5 2 (rawS l)) (rawS l)) [] (KW 5 2) Tryz.f5 [.slice (some ⟨0, x, some y⟩) a b, I k] = cond (decide (((Tok.n 0 : Nat) : Int) > 256)) (some (B true)) (lawV 5 2 (sk3 (rawS l)) (mk5 2 (rawS l)) (rayOfS (rawS l)) (pickS k 6)) := by kernel_rfl
  obtain ⟨p0, p6⟩ := pick_range ik (show (0 : Int) < 6 by decide)
  have pl : Plain 5 2 (mk5 2 (rawS l)) (rayOfS (rawS l)) := plain5 hq (ray_plain hq) (show 2 < 3 by decide)
  rw [h, law_true pl (show skOk (sk3 (rawS l)) = true from sk_ok hq) p0 p6]
  cases decide (((Tok.n 0 : Nat) : Int) > 256) <;> rfl
/-- Whatever the first raw number speaks of. -/
theorem scaledA [Tok] (l : List Int) (hn : Tok.n 0 = l.length) (hl : l ≠ []) {x y a b : Nat} (hq : ∀ n, I64 (rawS l n)) (k : Int) (ik : I64 k) : FSpec Tryz.prog 5 [RW l] [.slice (some ⟨0, x, some y⟩) a b, I k] (B true) := by
  have i0 : I64 ((rawS l) 0) := hq 0
  have i6 : I64 ((rawS l) 6) := hq 6
  obtain ⟨p0, p6⟩ := pick_range i0 (show (0 : Int) < 6 by decide)
  obtain ⟨z0, z3⟩ := pick_range i6 (show (0 : Int) < 3 by decide)
  have hk : pickS ((rawS l) 0) 6 = 0 ∨ pickS ((rawS l) 0) 6 = 1 ∨ pickS ((rawS l) 0) 6 = 2 ∨ pickS ((rawS l) 0) 6 = 3 ∨ pickS ((rawS l) 0) 6 = 4 ∨ pickS ((rawS l) 0) 6 = 5 := by omega
  have hz : pickS ((rawS l) 6) 3 = 0 ∨ pickS ((rawS l) 6) 3 = 1 ∨ pickS ((rawS l) 6) 3 = 2 := by omega
  have hy : zS (rayOfS (rawS l)) = 0 ∨ zS (rayOfS (rawS l)) = 1 ∨ zS (rayOfS (rawS l)) = 2 := by unfold zS; cases is2 (rayOfS (rawS l)) <;> cases is1 (rayOfS (rawS l)) <;> simp
  rcases hk with hk | hk | hk | hk | hk | hk
  · exact lawA00 l hn hl hq k ik hk
  · exact lawA10 l hn hl hq k ik hk
  · rcases hy with h | h | h
    · exact lawA20 l hn hl hq k ik hk h
    · exact lawA21 l hn hl hq k ik hk h
    · exact lawA22 l hn hl hq k ik hk h
  · exact lawA30 l hn hl hq k ik hk
  · rcases hz with h | h | h
    · exact lawA40 l hn hl hq k ik hk h
    · exact lawA41 l hn hl hq k ik hk h
    · exact lawA42 l hn hl hq k ik hk h
  · rcases hz with h | h | h
    · exact lawA50 l hn hl hq k ik hk h
    · exact lawA51 l hn hl hq k ik hk h
    · exact lawA52 l hn hl hq k ik hk h
/-! ### Shapes, case B -/
theorem shB00 [Tok]   (hk : pickS ((fun _ => 0) 0) 6 = 0) : FSpec Tryz.prog 15 [] [NIL, I 0, I 3] (shV 0 0 (fun _ => 0)) := by
  refine spH3 QB2_ok (KS_ok 0 (show 0 < 3 by decide)) Tryz.func15 (by kernel_rfl) rfl ?_
  have h : ev3 Tryz.prog [] (QB2 Tryz.prog Tryz.f43 Tryz.f66) [] (KS 0 0) Tryz.f15 [NIL, I 0, I 3] = shTree 0 0 (fun _ => 0) := by kernel_rfl
  rw [h]; exact shTree_eq (fun _ => ⟨by decide, by decide⟩) (by decide) hk (fun e => by rcases e with e | e <;> cases e)
theorem shB10 [Tok]   (hk : pickS ((fun _ => 0) 0) 6 = 1) : FSpec Tryz.prog 15 [] [NIL, I 0, I 3] (shV 1 0 (fun _ => 0)) := by
  refine spH3 QB2_ok (KS_ok 1 (show 0 < 3 by decide)) Tryz.func15 (by kernel_rfl) rfl ?_
  have h : ev3 Tryz.prog [] (QB2 Tryz.prog Tryz.f43 Tryz.f66) [] (KS 1 0) Tryz.f15 [NIL, I 0, I 3] = shTree 1 0 (fun _ => 0) := by kernel_rfl
  rw [h]; exact shTree_eq (fun _ => ⟨by decide, by decide⟩) (by decide) hk (fun e => by rcases e with e | e <;> cases e)
theorem shB20 [Tok]   (hk : pickS ((fun _ => 0) 0) 6 = 2) : FSpec Tryz.prog 15 [] [NIL, I 0, I 3] (shV 2 0 (fun _ => 0)) := by
  refine spH3 QB2_ok (KS_ok 2 (show 0 < 3 by decide)) Tryz.func15 (by kernel_rfl) rfl ?_
  have h : ev3 Tryz.prog [] (QB2 Tryz.prog Tryz.f43 Tryz.f66) [] (KS 2 0) Tryz.f15 [NIL, I 0, I 3] = shTree 2 0 (fun _ => 0) := by kernel_rfl
  rw [h]; exact shTree_eq (fun _ => ⟨by decide, by decide⟩) (by decide) hk (fun e => by rcases e with e | e <;> cases e)
theorem shB30 [Tok]   (hk : pickS ((fun _ => 0) 0) 6 = 3) : FSpec Tryz.prog 15 [] [NIL, I 0, I 3] (shV 3 0 (fun _ => 0)) := by
  refine spH3 QB2_ok (KS_ok 3 (show 0 < 3 by decide)) Tryz.func15 (by kernel_rfl) rfl ?_
  have h : ev3 Tryz.prog [] (QB2 Tryz.prog Tryz.f43 Tryz.f66) [] (KS 3 0) Tryz.f15 [NIL, I 0, I 3] = shTree 3 0 (fun _ => 0) := by kernel_rfl
  rw [h]; exact shTree_eq (fun _ => ⟨by decide, by decide⟩) (by decide) hk (fun e => by rcases e with e | e <;> cases e)
theorem shB40 [Tok]   (hk : pickS ((fun _ => 0) 0) 6 = 4) (hz : pickS ((fun _ => 0) 6) 3 = 0) : FSpec Tryz.prog 15 [] [NIL, I 0, I 3] (shV 4 0 (fun _ => 0)) := by
  refine spH3 QB2_ok (KS_ok 4 (show 0 < 3 by decide)) Tryz.func15 (by kernel_rfl) rfl ?_
  have h : ev3 Tryz.prog [] (QB2 Tryz.prog Tryz.f43 Tryz.f66) [] (KS 4 0) Tryz.f15 [NIL, I 0, I 3] = shTree 4 0 (fun _ => 0) := by kernel_rfl
  rw [h]; exact shTree_eq (fun _ => ⟨by decide, by decide⟩) (by decide) hk (fun _ => hz)
theorem shB41 [Tok]   (hk : pickS ((fun _ => 0) 0) 6 = 4) (hz : pickS ((fun _ => 0) 6) 3 = 1) : FSpec Tryz.prog 15 [] [NIL, I 0, I 3] (shV 4 1 (fun _ => 0)) := by
  refine spH3 QB2_ok (KS_ok 4 (show 1 < 3 by decide)) Tryz.func15 (by kernel_rfl) rfl ?_
  have h : ev3 Tryz.prog [] (QB2 Tryz.prog Tryz.f43 Tryz.f66) [] (KS 4 1) Tryz.f15 [NIL, I 0, I 3] = shTree 4 1 (fun _ => 0) := by kernel_rfl
  rw [h]; exact shTree_eq (fun _ => ⟨by decide, by decide⟩) (by decide) hk (fun _ => hz)
theorem shB42 [Tok]   (hk : pickS ((fun _ => 0) 0) 6 = 4) (hz : pickS ((fun _ => 0) 6) 3 = 2) : FSpec Tryz.prog 15 [] [NIL, I 0, I 3] (shV 4 2 (fun _ => 0)) := by
  refine spH3 QB2_ok (KS_ok 4 (show 2 < 3 by decide)) Tryz.func15 (by kernel_rfl) rfl ?_
  have h : ev3 Tryz.prog [] (QB2 Tryz.prog Tryz.f43 Tryz.f66) [] (KS 4 2) Tryz.f15 [NIL, I 0, I 3] = shTree 4 2 (fun _ => 0) := by kernel_rfl
  rw [h]; exact shTree_eq (fun _ => ⟨by decide, by decide⟩) (by decide) hk (fun _ => hz)
theorem shB50 [Tok]   (hk : pickS ((fun _ => 0) 0) 6 = 5) (hz : pickS ((fun _ => 0) 6) 3 = 0) : FSpec Tryz.prog 15 [] [NIL, I 0, I 3] (shV 5 0 (fun _ => 0)) := by
  refine spH3 QB2_ok (KS_ok 5 (show 0 < 3 by decide)) Tryz.func15 (by kernel_rfl) rfl ?_
  have h : ev3 Tryz.prog [] (QB2 Tryz.prog Tryz.f43 Tryz.f66) [] (KS 5 0) Tryz.f15 [NIL, I 0, I 3] = shTree 5 0 (fun _ => 0) := by kernel_rfl
  rw [h]; exact shTree_eq (fun _ => ⟨by decide, by decide⟩) (by decide) hk (fun _ => hz)
theorem shB51 [Tok]   (hk : pickS ((fun _ => 0) 0) 6 = 5) (hz : pickS ((fun _ => 0) 6) 3 = 1) : FSpec Tryz.prog 15 [] [NIL, I 0, I 3] (shV 5 1 (fun _ => 0)) := by
  refine spH3 QB2_ok (KS_ok 5 (show 1 < 3 by decide)) Tryz.func15 (by kernel_rfl) rfl ?_
  have h : ev3 Tryz.prog [] (QB2 Tryz.prog Tryz.f43 Tryz.f66) [] (KS 5 1) Tryz.f15 [NIL, I 0, I 3] = shTree 5 1 (fun _ => 0) := by kernel_rfl
  rw [h]; exact shTree_eq (fun _ => ⟨by decide, by decide⟩) (by decide) hk (fun _ => hz)
theorem shB52 [Tok]   (hk : pickS ((fun _ => 0) 0) 6 = 5) (hz : pickS ((fun _ => 0) 6) 3 = 2) : FSpec Tryz.prog 15 [] [NIL, I 0, I 3] (shV 5 2 (fun _ => 0)) := by
  refine spH3 QB2_ok (KS_ok 5 (show 2 < 3 by decide)) Tryz.func15 (by kernel_rfl) rfl ?_
  have h : ev3 Tryz.prog [] (QB2 Tryz.prog Tryz.f43 Tryz.f66) [] (KS 5 2) Tryz.f15 [NIL, I 0, I 3] = shTree 5 2 (fun _ => 0) := by kernel_rfl
  rw [h]; exact shTree_eq (fun _ => ⟨by decide, by decide⟩) (by decide) hk (fun _ => hz)
def eShB (v : Value) : List (List Value) → List Value → Option Value := fun _ args => match args with
  | [.slice none 0 0, .int .i64 fr, .int .i64 n] => cond (fr == 0 && n == 3) (some v) none
  | _ => none
theorem eShB_ok [Tok] {v : Value} (h : FSpec Tryz.prog 15 [] [NIL, I 0, I 3] v) : EOkH Tryz.prog [] (15, eShB v) := by
  intro mem args r hp hr
  simp only [eShB] at hr
  split at hr
  · obtain ⟨h1, h2⟩ := fw hr
    subst h2
    simp only [Bool.and_eq_true] at h1
    rw [eq_of_beq h1.1, eq_of_beq h1.2]
    exact Or.inl ((h).weak rfl rfl hp)
  · cases hr
def eRyB (v : Value) : List (List Value) → List Value → Option Value := fun _ args => match args with
  | [.slice none 0 0, .int .i64 fr] => cond (fr == 14) (some v) none
  | _ => none
theorem eRyB_ok [Tok] {v : Value} (h : FSpec Tryz.prog 10 [] [NIL, I 14] v) : EOkH Tryz.prog [] (10, eRyB v) := by
  intro mem args r hp hr
  simp only [eRyB] at hr
  split at hr
  · obtain ⟨h1, h2⟩ := fw hr
    subst h2
    rw [eq_of_beq h1]
    exact Or.inl ((h).weak rfl rfl hp)
  · cases hr
def LLB [Tok] (v : Value) (q : Int → Int) : List Entry := (15, eShB v) :: (10, eRyB (RY (rayOfS q))) :: LW
/-! ### The law, case B -/
theorem lawB00 [Tok]   (k : Int) (ik : I64 k) (hk : pickS ((fun _ => 0) 0) 6 = 0) : FSpec Tryz.prog 5 [] [NIL, I k] (B true) := by
  have hL : ∀ e, e ∈ LLB (shV 0 0 (fun _ => 0)) (fun _ => 0) → EOkH Tryz.prog [] e := allH_cons (eShB_ok (shB00 hk)) <| allH_cons (eRyB_ok rayOB) fun e he => (LW_ok e he).over _
  refine spH3 hL (KW_ok st10) Tryz.func5 (by kernel_rfl) rfl ?_
  have h : ev3 Tryz.prog [] (LLB (shV 0 0 (fun _ => 0)) (fun _ => 0)) [] (KW 1 0) Tryz.f5 [NIL, I k] = lawV 1 0 (sk3 (fun _ => 0)) (mk1 (fun _ => 0)) (rayOfS (fun _ => 0)) (pickS k 6) := by kernel_rfl
  obtain ⟨p0, p6⟩ := pick_range ik (show (0 : Int) < 6 by decide)
  have pl : Plain 1 0 (mk1 (fun _ => 0)) (rayOfS (fun _ => 0)) := plain1 (q := fun _ => 0) (fun _ => ⟨by decide, by decide⟩) (ray_plain (q := fun _ => 0) (fun _ => ⟨by decide, by decide⟩))
  rw [h, law_true pl (show skOk (sk3 fun _ => 0) = true from sk_ok (q := fun _ => 0) (fun _ => ⟨by decide, by decide⟩)) p0 p6]
theorem lawB10 [Tok]   (k : Int) (ik : I64 k) (hk : pickS ((fun _ => 0) 0) 6 = 1) : FSpec Tryz.prog 5 [] [NIL, I k] (B true) := by
  have hL : ∀ e, e ∈ LLB (shV 1 0 (fun _ => 0)) (fun _ => 0) → EOkH Tryz.prog [] e := allH_cons (eShB_ok (shB10 hk)) <| allH_cons (eRyB_ok rayOB) fun e he => (LW_ok e he).over _
  refine spH3 hL (KW_ok st20) Tryz.func5 (by kernel_rfl) rfl ?_
  have h : ev3 Tryz.prog [] (LLB (shV 1 0 (fun _ => 0)) (fun _ => 0)) [] (KW 2 0) Tryz.f5 [NIL, I k] = lawV 2 0 (sk3 (fun _ => 0)) (mk2 (fun _ => 0)) (rayOfS (fun _ => 0)) (pickS k 6) := by kernel_rfl
  obtain ⟨p0, p6⟩ := pick_range ik (show (0 : Int) < 6 by decide)
  have pl : Plain 2 0 (mk2 (fun _ => 0)) (rayOfS (fun _ => 0)) := plain2 (q := fun _ => 0) (fun _ => ⟨by decide, by decide⟩) (ray_plain (q := fun _ => 0) (fun _ => ⟨by decide, by decide⟩))
  rw [h, law_true pl (show skOk (sk3 fun _ => 0) = true from sk_ok (q := fun _ => 0) (fun _ => ⟨by decide, by decide⟩)) p0 p6]
theorem lawB20 [Tok]   (k : Int) (ik : I64 k) (hk : pickS ((fun _ => 0) 0) 6 = 2) (hz : zS (rayOfS (fun _ => 0)) = 0) : FSpec Tryz.prog 5 [] [NIL, I k] (B true) := by
  have hL : ∀ e, e ∈ LLB (shV 2 0 (fun _ => 0)) (fun _ => 0) → EOkH Tryz.prog [] e := allH_cons (eShB_ok (shB20 hk)) <| allH_cons (eRyB_ok rayOB) fun e he => (LW_ok e he).over _
  refine spH3 hL (KW_ok st30) Tryz.func5 (by kernel_rfl) rfl ?_
  have h : ev3 Tryz.prog [] (LLB (shV 2 0 (fun _ => 0)) (fun _ => 0)) [] (KW 3 0) Tryz.f5 [NIL, I k] = lawV 3 0 (sk3 (fun _ => 0)) (mk3 (fun _ => 0)) (rayOfS (fun _ => 0)) (pickS k 6) := by kernel_rfl
  obtain ⟨p0, p6⟩ := pick_range ik (show (0 : Int) < 6 by decide)
  have pl : Plain 3 0 (mk3 (fun _ => 0)) (rayOfS (fun _ => 0)) := by have := plain3 (q := fun _ => 0) (fun _ => ⟨by decide, by decide⟩) (ray_plain (q := fun _ => 0) (fun _ => ⟨by decide, by decide⟩)); rw [hz] at this; exact this
  rw [h, law_true pl (show skOk (sk3 fun _ => 0) = true from sk_ok (q := fun _ => 0) (fun _ => ⟨by decide, by decide⟩)) p0 p6]
theorem lawB21 [Tok]   (k : Int) (ik : I64 k) (hk : pickS ((fun _ => 0) 0) 6 = 2) (hz : zS (rayOfS (fun _ => 0)) = 1) : FSpec Tryz.prog 5 [] [NIL, I k] (B true) := by
  have hL : ∀ e, e ∈ LLB (shV 2 0 (fun _ => 0)) (fun _ => 0) → EOkH Tryz.prog [] e := allH_cons (eShB_ok (shB20 hk)) <| allH_cons (eRyB_ok rayOB) fun e he => (LW_ok e he).over _
  refine spH3 hL (KW_ok st31) Tryz.func5 (by kernel_rfl) rfl ?_
  have h : ev3 Tryz.prog [] (LLB (shV 2 0 (fun _ => 0)) (fun _ => 0)) [] (KW 3 1) Tryz.f5 [NIL, I k] = lawV 3 1 (sk3 (fun _ => 0)) (mk3 (fun _ => 0)) (rayOfS (fun _ => 0)) (pickS k 6) := by kernel_rfl
  obtain ⟨p0, p6⟩ := pick_range ik (show (0 : Int) < 6 by decide)
  have pl : Plain 3 1 (mk3 (fun _ => 0)) (rayOfS (fun _ => 0)) := by have := plain3 (q := fun _ => 0) (fun _ => ⟨by decide, by decide⟩) (ray_plain (q := fun _ => 0) (fun _ => ⟨by decide, by decide⟩)); rw [hz] at this; exact this
  rw [h, law_true pl (show skOk (sk3 fun _ => 0) = true from sk_ok (q := fun _ => 0) (fun _ => ⟨by decide, by decide⟩)) p0 p6]
theorem lawB22 [Tok]   (k : Int) (ik : I64 k) (hk : pickS ((fun _ => 0) 0) 6 = 2) (hz : zS (rayOfS (fun _ => 0)) = 2) : FSpec Tryz.prog 5 [] [NIL, I k] (B true) := by
  have hL : ∀ e, e ∈ LLB (shV 2 0 (fun _ => 0)) (fun _ => 0) → EOkH Tryz.prog [] e := allH_cons (eShB_ok (shB20 hk)) <| allH_cons (eRyB_ok rayOB) fun e he => (LW_ok e he).over _
  refine spH3 hL (KW_ok st32) Tryz.func5 (by kernel_rfl) rfl ?_
  have h : ev3 Tryz.prog [] (LLB (shV 2 0 (fun _ => 0)) (fun _ => 0)) [] (KW 3 2) Tryz.f5 [NIL, I k] = lawV 3 2 (sk3 (fun _ => 0)) (mk3 (fun _ => 0)) (rayOfS (fun _ => 0)) (pickS k 6) := by kernel_rfl
  obtain ⟨p0, p6⟩ := pick_range ik (show (0 : Int) < 6 by decide)
  have pl : Plain 3 2 (mk3 (fun _ => 0)) (rayOfS (fun _ => 0)) := by have := plain3 (q := fun _ => 0) (fun _ => ⟨by decide, by decide⟩) (ray_plain (q := fun _ => 0) (fun _ => ⟨by decide, by decide⟩)); rw [hz] at this; exact this
  rw [h, law_true pl (show skOk (sk3 fun _ => 0) = true from sk_ok (q := fun _ => 0) (fun _ => ⟨by decide, by decide⟩)) p0 p6]
theorem lawB30 [Tok]   (k : Int) (ik : I64 k) (hk : pickS ((fun _ => 0) 0) 6 = 3) : FSpec Tryz.prog 5 [] [NIL, I k] (B true) := by
  have hL : ∀ e, e ∈ LLB (shV 3 0 (fun _ => 0)) (fun _ => 0) → EOkH Tryz.prog [] e := allH_cons (eShB_ok (shB30 hk)) <| allH_cons (eRyB_ok rayOB) fun e he => (LW_ok e he).over _
  refine spH3 hL (KW_ok st40) Tryz.func5 (by kernel_rfl) rfl ?_
  have h : ev3 Tryz.prog [] (LLB (shV 3 0 (fun _ => 0)) (fun _ => 0)) [] (KW 4 0) Tryz.f5 [NIL, I k] = lawV 4 0 (sk3 (fun _ => 0)) (mk4 (fun _ => 0)) (rayOfS (fun _ => 0)) (pickS k 6) := by kernel_rfl
  obtain ⟨p0, p6⟩ := pick_range ik (show (0 : Int) < 6 by decide)
  have pl : Plain 4 0 (mk4 (fun _ => 0)) (rayOfS (fun _ => 0)) := plain4 (q := fun _ => 0) (fun _ => ⟨by decide, by decide⟩) (ray_plain (q := fun _ => 0) (fun _ => ⟨by decide, by decide⟩))
  rw [h, law_true pl (show skOk (sk3 fun _ => 0) = true from sk_ok (q := fun _ => 0) (fun _ => ⟨by decide, by decide⟩)) p0 p6]
theorem lawB40 [Tok]   (k : Int) (ik : I64 k) (hk : pickS ((fun _ => 0) 0) 6 = 4) (hz : pickS ((fun _ => 0) 6) 3 = 0) : FSpec Tryz.prog 5 [] [NIL, I k] (B true) := by
  have hL : ∀ e, e ∈ LLB (shV 4 0 (fun _ => 0)) (fun _ => 0) → EOkH Tryz.prog [] e := allH_cons (eShB_ok (shB40 hk hz)) <| allH_cons (eRyB_ok rayOB) fun e he => (LW_ok e he).over _
  refine spH3 hL (KW_ok st50) Tryz.func5 (by kernel_rfl) rfl ?_
  have h : ev3 Tryz.prog [] (LLB (shV 4 0 (fun _ => 0)) (fun _ => 0)) [] (KW 5 0) Tryz.f5 [NIL, I k] = lawV 5 0 (sk3 (fun _ => 0)) (mk5 0 (fun _ => 0)) (rayOfS (fun _ => 0)) (pickS k 6) := by kernel_rfl
  obtain ⟨p0, p6⟩ := pick_range ik (show (0 : Int) < 6 by decide)
  have pl : Plain 5 0 (mk5 0 (fun _ => 0)) (rayOfS (fun _ => 0)) := plain5 (q := fun _ => 0) (fun _ => ⟨by decide, by decide⟩) (ray_plain (q := fun _ => 0) (fun _ => ⟨by decide, by decide⟩)) (show 0 < 3 by decide)
  rw [h, law_true pl (show skOk (sk3 fun _ => 0) = true from sk_ok (q := fun _ => 0) (fun _ => ⟨by decide, by decide⟩)) p0 p6]
theorem lawB41 [Tok]   (k : Int) (ik : I64 k) (hk : pickS ((fun _ => 0) 0) 6 = 4) (hz : pickS ((fun _ => 0) 6) 3 = 1) : FSpec Tryz.prog 5 [] [NIL, I k] (B true) := by
  have hL : ∀ e, e ∈ LLB (shV 4 1 (fun _ => 0)) (fun _ => 0) → EOkH Tryz.prog [] e := allH_cons (eShB_ok (shB41 hk hz)) <| allH_cons (eRyB_ok rayOB) fun e he => (LW_ok e he).over _
  refine spH3 hL (KW_ok st51) Tryz.func5 (by kernel_rfl) rfl ?_
  have h : ev3 Tryz.prog [] (LLB (shV 4 1 (fun _ => 0)) (fun _ => 0)) [] (KW 5 1) Tryz.f5 [NIL, I k] = lawV 5 1 (sk3 (fun _ => 0)) (mk5 1 (fun _ => 0)) (rayOfS (fun _ => 0)) (pickS k 6) := by kernel_rfl
  obtain ⟨p0, p6⟩ := pick_range ik (show (0 : Int) < 6 by decide)
  have pl : Plain 5 1 (mk5 1 (fun _ => 0)) (rayOfS (fun _ => 0)) := plain5 (q := fun _ => 0) (fun _ => ⟨by decide, by decide⟩) (ray_plain (q := fun _ => 0) (fun _ => ⟨by decide, by decide⟩)) (show 1 < 3 by decide)
  rw [h, law_true pl (show skOk (sk3 fun _ => 0) = true from sk_ok (q := fun _ => 0) (fun _ => ⟨by decide, by decide⟩)) p0 p6]
theorem lawB42 [Tok]   (k : Int) (ik : I64 k) (hk : pickS ((fun _ => 0) 0) 6 = 4) (hz : pickS ((fun _ => 0) 6) 3 = 2) : FSpec Tryz.prog 5 [] [NIL, I k] (B true) := by
  have hL : ∀ e, e ∈ LLB (shV 4 2 (fun _ => 0)) (fun _ => 0) → EOkH Tryz.prog [] e := allH_cons (eShB_ok (shB42 hk hz)) <| allH_cons (eRyB_ok rayOB) fun e he => (LW_ok e he).over _
  refine spH3 hL (KW_ok st52) Tryz.func5 (by kernel_rfl) rfl ?_
  have h : ev3 Tryz.prog [] (LLB (shV 4 2 (fun _ => 0)) (fun _ => 0)) [] (KW 5 2) Tryz.f5 [NIL, I k] = lawV 5 2 (sk3 (fun _ => 0)) (mk5 2 (fun _ => 0)) (rayOfS (fun _ => 0)) (pickS k 6) := by kernel_rfl
  obtain ⟨p0, p6⟩ := pick_range ik (show (0 : Int) < 6 by decide)
  have pl : Plain 5 2 (mk5 2 (fun _ => 0)) (rayOfS (fun _ => 0)) := plain5 (q := fun _ => 0) (fun _ => ⟨by decide, by decide⟩) (ray_plain (q := fun _ => 0) (fun _ => ⟨by decide, by decide⟩)) (show 2 < 3 by decide)
  rw [h, law_true pl (show skOk (sk3 fun _ => 0) = true from sk_ok (q := fun _ => 0) (fun _ => ⟨by decide, by decide⟩)) p0 p6]
theorem lawB50 [Tok]   (k : Int) (ik : I64 k) (hk : pickS ((fun _ => 0) 0) 6 = 5) (hz : pickS ((fun _ => 0) 6) 3 = 0) : FSpec Tryz.prog 5 [] [NIL, I k] (B true) := by
  have hL : ∀ e, e ∈ LLB (shV 5 0 (fun _ => 0)) (fun _ => 0) → EOkH Tryz.prog [] e := allH_cons (eShB_ok (shB50 hk hz)) <| allH_cons (eRyB_ok rayOB) fun e he => (LW_ok e he).over _
  refine spH3 hL (KW_ok st50) Tryz.func5 (by kernel_rfl) rfl ?_
  have h : ev3 Tryz.prog [] (LLB (shV 5 0 (fun _ => 0)) (fun _ => 0)) [] (KW 5 0) Tryz.f5 [NIL, I k] = lawV 5 0 (sk3 (fun _ => 0)) (mk5 0 (fun _ => 0)) (rayOfS (fun _ => 0)) (pickS k 6) := by kernel_rfl
  obtain ⟨p0, p6⟩ := pick_range ik (show (0 : Int) < 6 by decide)
  have pl : Plain 5 0 (mk5 0 (fun _ => 0)) (rayOfS (fun _ => 0)) := plain5 (q := fun _ => 0) (fun _ => ⟨by decide, by decide⟩) (ray_plain (q := fun _ => 0) (fun _ => ⟨by decide, by decide⟩)) (show 0 < 3 by decide)
  rw [h, law_true pl (show skOk (sk3 fun _ => 0) = true from sk_ok (q := fun _ => 0) (fun _ => ⟨by decide, by decide⟩)) p0 p6]
theorem lawB51 [Tok]   (k : Int) (ik : I64 k) (hk : pickS ((fun _ => 0) 0) 6 = 5) (hz : pickS ((fun _ => 0) 6) 3 = 1) : FSpec Tryz.prog 5 [] [NIL, I k] (B true) := by
  have hL : ∀ e, e ∈ LLB (shV 5 1 (fun _ => 0)) (fun _ => 0) → EOkH Tryz.prog [] e := allH_cons (eShB_ok (shB51 hk hz)) <| allH_cons (eRyB_ok rayOB) fun e he => (LW_ok e he).over _
  refine spH3 hL (KW_ok st51) Tryz.func5 (by kernel_rfl) rfl ?_
  have h : ev3 Tryz.prog [] (LLB (shV 5 1 (fun _ => 0)) (fun _ => 0)) [] (KW 5 1) Tryz.f5 [NIL, I k] = lawV 5 1 (sk3 (fun _ => 0)) (mk5 1 (fun _ => 0)) (rayOfS (fun _ => 0)) (pickS k 6) := by kernel_rfl
  obtain ⟨p0, p6⟩ := pick_range ik (show (0 : Int) < 6 by decide)
  have pl : Plain 5 1 (mk5 1 (fun _ => 0)) (rayOfS (fun _ => 0)) := plain5 (q := fun _ => 0) (fun _ => ⟨by decide, by decide⟩) (ray_plain (q := fun _ => 0) (fun _ => ⟨by decide, by decide⟩)) (show 1 < 3 by decide)
  rw [h, law_true pl (show skOk (sk3 fun _ => 0) = true from sk_ok (q := fun _ => 0) (fun _ => ⟨by decide, by decide⟩)) p0 p6]
theorem lawB52 [Tok]   (k : Int) (ik : I64 k) (hk : pickS ((fun _ => 0) 0) 6 = 5) (hz : pickS ((fun _ => 0) 6) 3 = 2) : FSpec Tryz.prog 5 [] [NIL, I k] (B true) := by
  have hL : ∀ e, e ∈ LLB (shV 5 2 (fun _ => 0)) (fun _ => 0) → EOkH Tryz.prog [] e := allH_cons (eShB_ok (shB52 hk hz)) <| allH_cons (eRyB_ok rayOB) fun e he => (LW_ok e he).over _
  refine spH3 hL (KW_ok st52) Tryz.func5 (by kernel_rfl) rfl ?_
  have h : ev3 Tryz.prog [] (LLB (shV 5 2 (fun _ => 0)) (fun _ => 0)) [] (KW 5 2) Tryz.f5 [NIL, I k] = lawV 5 2 (sk3 (fun _ => 0)) (mk5 2 (fun _ => 0)) (rayOfS (fun _ => 0)) (pickS k 6) := by kernel_rfl
  obtain ⟨p0, p6⟩ := pick_range ik (show (0 : Int) < 6 by decide)
  have pl : Plain 5 2 (mk5 2 (fun _ => 0)) (rayOfS (fun _ => 0)) := plain5 (q := fun _ => 0) (fun _ => ⟨by decide, by decide⟩) (ray_plain (q := fun _ => 0) (fun _ => ⟨by decide, by decide⟩)) (show 2 < 3 by decide)
  rw [h, law_true pl (show skOk (sk3 fun _ => 0) = true from sk_ok (q := fun _ => 0) (fun _ => ⟨by decide, by decide⟩)) p0 p6]
/-- Whatever the first raw number speaks of. -/
theorem scaledB [Tok]   (k : Int) (ik : I64 k) : FSpec Tryz.prog 5 [] [NIL, I k] (B true) := by
  have i0 : I64 ((fun _ => 0) 0) := ⟨by decide, by decide⟩
  have i6 : I64 ((fun _ => 0) 6) := ⟨by decide, by decide⟩
  obtain ⟨p0, p6⟩ := pick_range i0 (show (0 : Int) < 6 by decide)
  obtain ⟨z0, z3⟩ := pick_range i6 (show (0 : Int) < 3 by decide)
  have hk : pickS ((fun _ => 0) 0) 6 = 0 ∨ pickS ((fun _ => 0) 0) 6 = 1 ∨ pickS ((fun _ => 0) 0) 6 = 2 ∨ pickS ((fun _ => 0) 0) 6 = 3 ∨ pickS ((fun _ => 0) 0) 6 = 4 ∨ pickS ((fun _ => 0) 0) 6 = 5 := by omega
  have hz : pickS ((fun _ => 0) 6) 3 = 0 ∨ pickS ((fun _ => 0) 6) 3 = 1 ∨ pickS ((fun _ => 0) 6) 3 = 2 := by omega
  have hy : zS (rayOfS (fun _ => 0)) = 0 ∨ zS (rayOfS (fun _ => 0)) = 1 ∨ zS (rayOfS (fun _ => 0)) = 2 := by unfold zS; cases is2 (rayOfS (fun _ => 0)) <;> cases is1 (rayOfS (fun _ => 0)) <;> simp
  rcases hk with hk | hk | hk | hk | hk | hk
  · exact lawB00  k ik hk
  · exact lawB10  k ik hk
  · rcases hy with h | h | h
    · exact lawB20  k ik hk h
    · exact lawB21  k ik hk h
    · exact lawB22  k ik hk h
  · exact lawB30  k ik hk
  · rcases hz with h | h | h
    · exact lawB40  k ik hk h
    · exact lawB41  k ik hk h
    · exact lawB42  k ik hk h
  · rcases hz with h | h | h
    · exact lawB50  k ik hk h
    · exact lawB51  k ik hk h
    · exact lawB52  k ik hk h
end Go.Proofs.YtfdfnnmgpjamdaiGreat
