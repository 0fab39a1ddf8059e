/-
  The contracts of the quarters: package turn's and the document's answer's, for every axis and every count.
-/
import Derived.Test.YtnlfeocapnefeaaTurn
import Derived.Test.YtnlfeocapnefeaaEv9
namespace Go.Proofs.Ytnlfeocapnefeaa
open Go.Ev

def cosN : Nat → Nat := ls [one, 0, minusOne, 0]
def sinN : Nat → Nat := ls [0, one, 0, minusOne]
def msinN : Nat → Nat := ls [0, minusOne, 0, one]
/-- The turn about an axis by so many quarters. -/
def qt (ax r : Nat) : Nat → Nat :=
  match ax with
  | 0 => ls [one, 0, 0, 0, cosN r, msinN r, 0, sinN r, cosN r, 0, 0, 0]
  | 1 => ls [cosN r, 0, sinN r, 0, one, 0, msinN r, 0, cosN r, 0, 0, 0]
  | _ => ls [cosN r, msinN r, 0, sinN r, cosN r, 0, 0, 0, one, 0, 0, 0]
def axOk (ax : Int) : Bool := !cond (decide (ax < 0)) true (decide (ax > 2))
def qS (ax t : Int) (i : Nat) : Nat := cond (axOk ax) (qt ax.toNat (t.emod 4).toNat i) 0
def qE (ax : Int) : Int := cond (axOk ax) 0 3
def quarterV (ax t : Int) : Value := .tuple #[TT (qS ax t), I (qE ax)]

/-- The last two bits, as the model has them. -/
def andX (t : Int) : Int := IntKind.wrap .i64 ((BitVec.ofInt 64 t &&& BitVec.ofInt 64 3).toNat : Nat)
theorem andX_eq (t : Int) : andX t = t.emod 4 := by
  unfold andX
  have h1 : (BitVec.ofInt 64 t &&& BitVec.ofInt 64 3).toNat = (t.emod (2 ^ 64)).toNat % 4 := by
    have h3 : (BitVec.ofInt 64 3).toNat = 2 ^ 2 - 1 := by decide
    rw [BitVec.toNat_and, h3, Nat.and_two_pow_sub_one_eq_mod, BitVec.toNat_ofInt]
    rfl
  rw [h1]
  have h2 : (((t.emod (2 ^ 64)).toNat % 4 : Nat) : Int) = t.emod 4 := by
    show (((t % 18446744073709551616).toNat % 4 : Nat) : Int) = t % 4
    omega
  rw [h2]
  have h3 : 0 ≤ t.emod 4 := Int.emod_nonneg _ (by decide)
  have h4 : t.emod 4 < 4 := Int.emod_lt_of_pos _ (by decide)
  generalize t.emod 4 = r at h3 h4
  have : r = 0 ∨ r = 1 ∨ r = 2 ∨ r = 3 := by omega
  rcases this with rfl | rfl | rfl | rfl <;> decide

theorem emod4 (t : Int) : t.emod 4 = 0 ∨ t.emod 4 = 1 ∨ t.emod 4 = 2 ∨ t.emod 4 = 3 := by
  have h3 : 0 ≤ t.emod 4 := Int.emod_nonneg _ (by decide)
  have h4 : t.emod 4 < 4 := Int.emod_lt_of_pos _ (by decide)
  omega

def okV (ax r : Nat) : Value := .tuple #[TT (qt ax r), I 0]

theorem quarterV_in {ax : Nat} (h : ax ≤ 2) (t : Int) : quarterV ax t = okV ax (t.emod 4).toNat := by
  have ho : axOk ax = true := by
    have : ax = 0 ∨ ax = 1 ∨ ax = 2 := by omega
    rcases this with rfl | rfl | rfl <;> rfl
  unfold quarterV qS qE okV
  simp only [ho, cond_true, Int.toNat_natCast]
theorem quarterV_out {ax : Int} (h : axOk ax = false) (t : Int) : quarterV ax t = .tuple #[TT (fun _ => 0), I 3] := by
  unfold quarterV qS qE
  simp only [h, cond_false]

theorem out_test {ax : Int} (h : axOk ax = false) : cond (decide (ax < 0)) true (decide (ax > 2)) = true := by
  unfold axOk at h
  cases hc : cond (decide (ax < 0)) true (decide (ax > 2))
  · rw [hc] at h; cases h
  · rfl

/-! ### Package turn's -/
theorem q54_00 (t : Int) : stage Try.prog L7 Try.f54 6 (inject [(8, I 0)]) [I 0, I t] = some (okV 0 0) := by kernel_rfl
theorem q54_01 (t : Int) : stage Try.prog L7 Try.f54 6 (inject [(8, I 1)]) [I 0, I t] = some (okV 0 1) := by kernel_rfl
theorem q54_02 (t : Int) : stage Try.prog L7 Try.f54 6 (inject [(8, I 2)]) [I 0, I t] = some (okV 0 2) := by kernel_rfl
theorem q54_03 (t : Int) : stage Try.prog L7 Try.f54 6 (inject [(8, I 3)]) [I 0, I t] = some (okV 0 3) := by kernel_rfl
theorem q54_0 (t : Int) : ev Try.prog L7 Try.f54 [I 0, I t] = some (okV 0 (t.emod 4).toNat) := by
  have h : stage Try.prog L7 Try.f54 6 id [I 0, I t] = stage Try.prog L7 Try.f54 6 (inject [(8, I (andX t))]) [I 0, I t] := by kernel_rfl
  rw [ev_stage _ _ _ 6, h, andX_eq]
  rcases emod4 t with e | e | e | e <;> rw [e]
  · exact q54_00 t
  · exact q54_01 t
  · exact q54_02 t
  · exact q54_03 t
theorem q54_10 (t : Int) : stage Try.prog L7 Try.f54 6 (inject [(8, I 0)]) [I 1, I t] = some (okV 1 0) := by kernel_rfl
theorem q54_11 (t : Int) : stage Try.prog L7 Try.f54 6 (inject [(8, I 1)]) [I 1, I t] = some (okV 1 1) := by kernel_rfl
theorem q54_12 (t : Int) : stage Try.prog L7 Try.f54 6 (inject [(8, I 2)]) [I 1, I t] = some (okV 1 2) := by kernel_rfl
theorem q54_13 (t : Int) : stage Try.prog L7 Try.f54 6 (inject [(8, I 3)]) [I 1, I t] = some (okV 1 3) := by kernel_rfl
theorem q54_1 (t : Int) : ev Try.prog L7 Try.f54 [I 1, I t] = some (okV 1 (t.emod 4).toNat) := by
  have h : stage Try.prog L7 Try.f54 6 id [I 1, I t] = stage Try.prog L7 Try.f54 6 (inject [(8, I (andX t))]) [I 1, I t] := by kernel_rfl
  rw [ev_stage _ _ _ 6, h, andX_eq]
  rcases emod4 t with e | e | e | e <;> rw [e]
  · exact q54_10 t
  · exact q54_11 t
  · exact q54_12 t
  · exact q54_13 t
theorem q54_20 (t : Int) : stage Try.prog L7 Try.f54 6 (inject [(8, I 0)]) [I 2, I t] = some (okV 2 0) := by kernel_rfl
theorem q54_21 (t : Int) : stage Try.prog L7 Try.f54 6 (inject [(8, I 1)]) [I 2, I t] = some (okV 2 1) := by kernel_rfl
theorem q54_22 (t : Int) : stage Try.prog L7 Try.f54 6 (inject [(8, I 2)]) [I 2, I t] = some (okV 2 2) := by kernel_rfl
theorem q54_23 (t : Int) : stage Try.prog L7 Try.f54 6 (inject [(8, I 3)]) [I 2, I t] = some (okV 2 3) := by kernel_rfl
theorem q54_2 (t : Int) : ev Try.prog L7 Try.f54 [I 2, I t] = some (okV 2 (t.emod 4).toNat) := by
  have h : stage Try.prog L7 Try.f54 6 id [I 2, I t] = stage Try.prog L7 Try.f54 6 (inject [(8, I (andX t))]) [I 2, I t] := by kernel_rfl
  rw [ev_stage _ _ _ 6, h, andX_eq]
  rcases emod4 t with e | e | e | e <;> rw [e]
  · exact q54_20 t
  · exact q54_21 t
  · exact q54_22 t
  · exact q54_23 t
theorem q54_out (ax t : Int) (h : axOk ax = false) : ev Try.prog L7 Try.f54 [I ax, I t] = some (.tuple #[TT (fun _ => 0), I 3]) := by
  have h1 : stage Try.prog L7 Try.f54 2 id [I ax, I t] = stage Try.prog L7 Try.f54 2 (inject [(20, B (cond (decide (ax < 0)) true (decide (ax > 2))))]) [I ax, I t] := by kernel_rfl
  have h2 : cond (decide (ax < 0)) true (decide (ax > 2)) = true := out_test h
  have h3 : stage Try.prog L7 Try.f54 2 (inject [(20, B true)]) [I ax, I t] = some (.tuple #[TT (fun _ => 0), I 3]) := by kernel_rfl
  rw [ev_stage _ _ _ 2, h1, h2]
  exact h3

theorem ax_cases {ax : Int} (h : axOk ax = true) : ax = 0 ∨ ax = 1 ∨ ax = 2 := by
  unfold axOk at h
  by_cases h1 : ax < 0
  · simp [h1] at h
  · by_cases h2 : ax > 2
    · simp [h2] at h
    · omega

theorem quarter54 (ax t : Int) : FSpec Try.prog 54 [] [I ax, I t] (quarterV ax t) := by
  refine sp L7_ok Try.func54 (by kernel_rfl) rfl ?_
  cases h : axOk ax
  · rw [quarterV_out h]; exact q54_out ax t h
  · rcases ax_cases h with rfl | rfl | rfl
    · rw [q54_0]; exact congrArg some (quarterV_in (ax := 0) (by decide) t).symm
    · rw [q54_1]; exact congrArg some (quarterV_in (ax := 1) (by decide) t).symm
    · rw [q54_2]; exact congrArg some (quarterV_in (ax := 2) (by decide) t).symm


/-! ### The answer's -/
def eII0 (g : Int → Int → Value) : List Value → Option Value
  | [.int .i64 a, .int .i64 b] => some (g a b)
  | _ => none
theorem eII_ok {P : Program} {f : Nat} {g : Int → Int → Value} (h : ∀ a b, FSpec P f [] [I a, I b] (g a b)) : EOk P (f, pe (eII0 g)) := by
  refine pe_ok fun args r hr => ?_
  unfold eII0 at hr
  split at hr
  · cases hr; exact Or.inl (h _ _)
  · cases hr
def L8 (P : Program) (fn : Func) : List Entry := (54, pe (eII0 quarterV)) :: (67, inl P L7 fn) :: L7
theorem L8_ok : ∀ e, e ∈ L8 Try.prog Try.f67 → EOk Try.prog e := all_cons (eII_ok quarter54) <| all_cons (inl_ok (by kernel_rfl) L7_ok Try.func67 (by kernel_rfl)) L7_ok

theorem tmod4 (t : Int) : (t.tmod 4 = 0 ∧ t.emod 4 = 0) ∨ (t.tmod 4 = 1 ∧ t.emod 4 = 1) ∨ (t.tmod 4 = 2 ∧ t.emod 4 = 2) ∨ (t.tmod 4 = 3 ∧ t.emod 4 = 3) ∨ (t.tmod 4 = -1 ∧ t.emod 4 = 3) ∨ (t.tmod 4 = -2 ∧ t.emod 4 = 2) ∨ (t.tmod 4 = -3 ∧ t.emod 4 = 1) := by
  show (t.tmod 4 = 0 ∧ t % 4 = 0) ∨ (t.tmod 4 = 1 ∧ t % 4 = 1) ∨ (t.tmod 4 = 2 ∧ t % 4 = 2) ∨ (t.tmod 4 = 3 ∧ t % 4 = 3) ∨ (t.tmod 4 = -1 ∧ t % 4 = 3) ∨ (t.tmod 4 = -2 ∧ t % 4 = 2) ∨ (t.tmod 4 = -3 ∧ t % 4 = 1)
  by_cases h : 0 ≤ t
  · have e := Int.tmod_eq_emod_of_nonneg (b := 4) h
    omega
  · have e := Int.tmod_eq_emod_of_nonneg (a := -t) (b := 4) (by omega)
    rw [Int.neg_tmod] at e
    omega
theorem q55_00 (t : Int) : stage Try.prog (L8 Try.prog Try.f67) Try.f55 4 (inject [(6, I (0))]) [I 0, I t] = some (okV 0 0) := by kernel_rfl
theorem q55_01 (t : Int) : stage Try.prog (L8 Try.prog Try.f67) Try.f55 4 (inject [(6, I (1))]) [I 0, I t] = some (okV 0 1) := by kernel_rfl
theorem q55_02 (t : Int) : stage Try.prog (L8 Try.prog Try.f67) Try.f55 4 (inject [(6, I (2))]) [I 0, I t] = some (okV 0 2) := by kernel_rfl
theorem q55_03 (t : Int) : stage Try.prog (L8 Try.prog Try.f67) Try.f55 4 (inject [(6, I (3))]) [I 0, I t] = some (okV 0 3) := by kernel_rfl
theorem q55_0m1 (t : Int) : stage Try.prog (L8 Try.prog Try.f67) Try.f55 4 (inject [(6, I (-1))]) [I 0, I t] = some (okV 0 3) := by kernel_rfl
theorem q55_0m2 (t : Int) : stage Try.prog (L8 Try.prog Try.f67) Try.f55 4 (inject [(6, I (-2))]) [I 0, I t] = some (okV 0 2) := by kernel_rfl
theorem q55_0m3 (t : Int) : stage Try.prog (L8 Try.prog Try.f67) Try.f55 4 (inject [(6, I (-3))]) [I 0, I t] = some (okV 0 1) := by kernel_rfl
theorem q55_0 (t : Int) : ev Try.prog (L8 Try.prog Try.f67) Try.f55 [I 0, I t] = some (okV 0 (t.emod 4).toNat) := by
  have h : stage Try.prog (L8 Try.prog Try.f67) Try.f55 4 id [I 0, I t] = stage Try.prog (L8 Try.prog Try.f67) Try.f55 4 (inject [(6, I (t.tmod 4))]) [I 0, I t] := by kernel_rfl
  rw [ev_stage _ _ _ 4, h]
  rcases tmod4 t with ⟨e, f⟩ | ⟨e, f⟩ | ⟨e, f⟩ | ⟨e, f⟩ | ⟨e, f⟩ | ⟨e, f⟩ | ⟨e, f⟩ <;> rw [e, f]
  · exact q55_00 t
  · exact q55_01 t
  · exact q55_02 t
  · exact q55_03 t
  · exact q55_0m1 t
  · exact q55_0m2 t
  · exact q55_0m3 t
theorem q55_10 (t : Int) : stage Try.prog (L8 Try.prog Try.f67) Try.f55 4 (inject [(6, I (0))]) [I 1, I t] = some (okV 1 0) := by kernel_rfl
theorem q55_11 (t : Int) : stage Try.prog (L8 Try.prog Try.f67) Try.f55 4 (inject [(6, I (1))]) [I 1, I t] = some (okV 1 1) := by kernel_rfl
theorem q55_12 (t : Int) : stage Try.prog (L8 Try.prog Try.f67) Try.f55 4 (inject [(6, I (2))]) [I 1, I t] = some (okV 1 2) := by kernel_rfl
theorem q55_13 (t : Int) : stage Try.prog (L8 Try.prog Try.f67) Try.f55 4 (inject [(6, I (3))]) [I 1, I t] = some (okV 1 3) := by kernel_rfl
theorem q55_1m1 (t : Int) : stage Try.prog (L8 Try.prog Try.f67) Try.f55 4 (inject [(6, I (-1))]) [I 1, I t] = some (okV 1 3) := by kernel_rfl
theorem q55_1m2 (t : Int) : stage Try.prog (L8 Try.prog Try.f67) Try.f55 4 (inject [(6, I (-2))]) [I 1, I t] = some (okV 1 2) := by kernel_rfl
theorem q55_1m3 (t : Int) : stage Try.prog (L8 Try.prog Try.f67) Try.f55 4 (inject [(6, I (-3))]) [I 1, I t] = some (okV 1 1) := by kernel_rfl
theorem q55_1 (t : Int) : ev Try.prog (L8 Try.prog Try.f67) Try.f55 [I 1, I t] = some (okV 1 (t.emod 4).toNat) := by
  have h : stage Try.prog (L8 Try.prog Try.f67) Try.f55 4 id [I 1, I t] = stage Try.prog (L8 Try.prog Try.f67) Try.f55 4 (inject [(6, I (t.tmod 4))]) [I 1, I t] := by kernel_rfl
  rw [ev_stage _ _ _ 4, h]
  rcases tmod4 t with ⟨e, f⟩ | ⟨e, f⟩ | ⟨e, f⟩ | ⟨e, f⟩ | ⟨e, f⟩ | ⟨e, f⟩ | ⟨e, f⟩ <;> rw [e, f]
  · exact q55_10 t
  · exact q55_11 t
  · exact q55_12 t
  · exact q55_13 t
  · exact q55_1m1 t
  · exact q55_1m2 t
  · exact q55_1m3 t
theorem q55_20 (t : Int) : stage Try.prog (L8 Try.prog Try.f67) Try.f55 4 (inject [(6, I (0))]) [I 2, I t] = some (okV 2 0) := by kernel_rfl
theorem q55_21 (t : Int) : stage Try.prog (L8 Try.prog Try.f67) Try.f55 4 (inject [(6, I (1))]) [I 2, I t] = some (okV 2 1) := by kernel_rfl
theorem q55_22 (t : Int) : stage Try.prog (L8 Try.prog Try.f67) Try.f55 4 (inject [(6, I (2))]) [I 2, I t] = some (okV 2 2) := by kernel_rfl
theorem q55_23 (t : Int) : stage Try.prog (L8 Try.prog Try.f67) Try.f55 4 (inject [(6, I (3))]) [I 2, I t] = some (okV 2 3) := by kernel_rfl
theorem q55_2m1 (t : Int) : stage Try.prog (L8 Try.prog Try.f67) Try.f55 4 (inject [(6, I (-1))]) [I 2, I t] = some (okV 2 3) := by kernel_rfl
theorem q55_2m2 (t : Int) : stage Try.prog (L8 Try.prog Try.f67) Try.f55 4 (inject [(6, I (-2))]) [I 2, I t] = some (okV 2 2) := by kernel_rfl
theorem q55_2m3 (t : Int) : stage Try.prog (L8 Try.prog Try.f67) Try.f55 4 (inject [(6, I (-3))]) [I 2, I t] = some (okV 2 1) := by kernel_rfl
theorem q55_2 (t : Int) : ev Try.prog (L8 Try.prog Try.f67) Try.f55 [I 2, I t] = some (okV 2 (t.emod 4).toNat) := by
  have h : stage Try.prog (L8 Try.prog Try.f67) Try.f55 4 id [I 2, I t] = stage Try.prog (L8 Try.prog Try.f67) Try.f55 4 (inject [(6, I (t.tmod 4))]) [I 2, I t] := by kernel_rfl
  rw [ev_stage _ _ _ 4, h]
  rcases tmod4 t with ⟨e, f⟩ | ⟨e, f⟩ | ⟨e, f⟩ | ⟨e, f⟩ | ⟨e, f⟩ | ⟨e, f⟩ | ⟨e, f⟩ <;> rw [e, f]
  · exact q55_20 t
  · exact q55_21 t
  · exact q55_22 t
  · exact q55_23 t
  · exact q55_2m1 t
  · exact q55_2m2 t
  · exact q55_2m3 t
theorem q55_out (ax t : Int) (h : axOk ax = false) : ev Try.prog (L8 Try.prog Try.f67) Try.f55 [I ax, I t] = some (.tuple #[TT (fun _ => 0), I 3]) := by
  have h1 : stage Try.prog (L8 Try.prog Try.f67) Try.f55 2 id [I ax, I t] = stage Try.prog (L8 Try.prog Try.f67) Try.f55 2 (inject [(20, B (cond (decide (ax < 0)) true (decide (ax > 2))))]) [I ax, I t] := by kernel_rfl
  have h2 : cond (decide (ax < 0)) true (decide (ax > 2)) = true := out_test h
  have h3 : stage Try.prog (L8 Try.prog Try.f67) Try.f55 2 (inject [(20, B true)]) [I ax, I t] = some (.tuple #[TT (fun _ => 0), I 3]) := by kernel_rfl
  rw [ev_stage _ _ _ 2, h1, h2]
  exact h3
theorem quarter55 (ax t : Int) : FSpec Try.prog 55 [] [I ax, I t] (quarterV ax t) := by
  refine sp L8_ok Try.func55 (by kernel_rfl) rfl ?_
  cases h : axOk ax
  · rw [quarterV_out h]; exact q55_out ax t h
  · rcases ax_cases h with rfl | rfl | rfl
    · rw [q55_0]; exact congrArg some (quarterV_in (ax := 0) (by decide) t).symm
    · rw [q55_1]; exact congrArg some (quarterV_in (ax := 1) (by decide) t).symm
    · rw [q55_2]; exact congrArg some (quarterV_in (ax := 2) (by decide) t).symm
def L9 (P : Program) (fn : Func) : List Entry := (55, pe (eII0 quarterV)) :: L8 P fn
theorem L9_ok : ∀ e, e ∈ L9 Try.prog Try.f67 → EOk Try.prog e := all_cons (eII_ok quarter55) L8_ok

end Go.Proofs.Ytnlfeocapnefeaa
