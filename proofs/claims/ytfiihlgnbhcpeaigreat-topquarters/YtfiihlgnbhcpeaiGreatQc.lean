/-
  The contracts of package turn that the law on quarters asks for: quarters, points, directions, boxes.
-/
import Derived.Test.YtfiihlgnbhcpeaiGreatStk
import Derived.Test.YtfiihlgnbhcpeaiGreatQuad3
import Derived.Test.YtfiihlgnbhcpeaiGreatEv9
namespace Go.Proofs.YtfiihlgnbhcpeaiGreat
open Go.Ev

def T1 [Tok] : List Entry := (6, pe (eN0 (B true))) :: A1
theorem T1_ok [Tok] : ∀ e, e ∈ T1 → EOk Tryz.prog e := all_cons (eN_ok strikes_ok) A1_ok
theorem tdir [Tok] (t : Nat → Nat) (a b c : Nat) : FSpec Tryz.prog 22 [] [TT t, V a b c] (dirV t a b c) := sp T1_ok Tryz.func22 (by kernel_rfl) rfl (by kernel_rfl)
theorem tleast [Tok] (a b c d e f : Nat) : FSpec Tryz.prog 43 [] [V a b c, V d e f] (lowV a b c d e f) := by
  refine sp T1_ok Tryz.func43 (by kernel_rfl) rfl ?_
  have h : ev Tryz.prog T1 Tryz.f43 [V a b c, V d e f] = cond (flt d a)
      (cond (flt e b) (cond (flt f c) (some (V d e f)) (some (V d e c))) (cond (flt f c) (some (V d b f)) (some (V d b c))))
      (cond (flt e b) (cond (flt f c) (some (V a e f)) (some (V a e c))) (cond (flt f c) (some (V a b f)) (some (V a b c)))) := by kernel_rfl
  rw [h]; unfold lowV lessS; cases flt d a <;> cases flt e b <;> cases flt f c <;> rfl
theorem tmost [Tok] (a b c d e f : Nat) : FSpec Tryz.prog 44 [] [V a b c, V d e f] (highV a b c d e f) := by
  refine sp T1_ok Tryz.func44 (by kernel_rfl) rfl ?_
  have h : ev Tryz.prog T1 Tryz.f44 [V a b c, V d e f] = cond (fgt d a)
      (cond (fgt e b) (cond (fgt f c) (some (V d e f)) (some (V d e c))) (cond (fgt f c) (some (V d b f)) (some (V d b c))))
      (cond (fgt e b) (cond (fgt f c) (some (V a e f)) (some (V a e c))) (cond (fgt f c) (some (V a b f)) (some (V a b c)))) := by kernel_rfl
  rw [h]; unfold highV moreS; cases fgt d a <;> cases fgt e b <;> cases fgt f c <;> rfl
def T2 [Tok] : List Entry := (22, pe (eTV0 dirV)) :: (43, eVV lowV) :: (44, eVV highV) :: T1
theorem T2_ok [Tok] : ∀ e, e ∈ T2 → EOk Tryz.prog e := all_cons (eTV_ok tdir) <| all_cons (eVV_ok tleast) <| all_cons (eVV_ok tmost) T1_ok
theorem tpoint [Tok] (t : Nat → Nat) (a b c : Nat) : FSpec Tryz.prog 21 [] [TT t, V a b c] (pointV t a b c) := sp T2_ok Tryz.func21 (by kernel_rfl) rfl (by kernel_rfl)
def T3 [Tok] (P : Program) (f42 : Func) : List Entry := (21, pe (eTV0 pointV)) :: (42, inl P T2 f42) :: T2
theorem T3_ok [Tok] : ∀ e, e ∈ T3 Tryz.prog Tryz.f42 → EOk Tryz.prog e := all_cons (eTV_ok tpoint) <| all_cons (inl_ok (by kernel_rfl) T2_ok Tryz.func42 (by kernel_rfl)) T2_ok
theorem tbox20 [Tok] (t b : Nat → Nat) : FSpec Tryz.prog 20 [] [TT t, BX b] (BX (boxS' t b)) := sp T3_ok Tryz.func20 (by kernel_rfl) rfl (by kernel_rfl)

/-! ### Quarters -/
def axOk (ax : Int) : Bool := !cond (decide (ax < 0)) true (decide (ax > 2))
def qS (ax t : Int) (i : Nat) : Nat := cond (axOk ax) (qt ax.toNat (t.emod 4).toNat i) 0
def qE (ax : Int) : Int := cond (axOk ax) 0 3
def quarterV (ax t : Int) : Value := .tuple #[TT (qS ax t), I (qE ax)]
/-- The last two bits, as the model has them. -/
def andX (t : Int) : Int := IntKind.wrap .i64 ((BitVec.ofInt 64 t &&& BitVec.ofInt 64 3).toNat : Nat)
theorem andX_eq (t : Int) : andX t = t.emod 4 := by
  unfold andX
  have h1 : (BitVec.ofInt 64 t &&& BitVec.ofInt 64 3).toNat = (t.emod (2 ^ 64)).toNat % 4 := by
    have h3 : (BitVec.ofInt 64 3).toNat = 2 ^ 2 - 1 := by decide
    rw [BitVec.toNat_and, h3, Nat.and_two_pow_sub_one_eq_mod, BitVec.toNat_ofInt]
    rfl
  rw [h1]
  have h2 : (((t.emod (2 ^ 64)).toNat % 4 : Nat) : Int) = t.emod 4 := by
    show (((t % 18446744073709551616).toNat % 4 : Nat) : Int) = t % 4
    omega
  rw [h2]
  have h3 : 0 ≤ t.emod 4 := Int.emod_nonneg _ (by decide)
  have h4 : t.emod 4 < 4 := Int.emod_lt_of_pos _ (by decide)
  generalize t.emod 4 = r at h3 h4
  have : r = 0 ∨ r = 1 ∨ r = 2 ∨ r = 3 := by omega
  rcases this with rfl | rfl | rfl | rfl <;> decide
theorem emod4 (t : Int) : t.emod 4 = 0 ∨ t.emod 4 = 1 ∨ t.emod 4 = 2 ∨ t.emod 4 = 3 := by
  have h3 : 0 ≤ t.emod 4 := Int.emod_nonneg _ (by decide)
  have h4 : t.emod 4 < 4 := Int.emod_lt_of_pos _ (by decide)
  omega
def okV (ax r : Nat) : Value := .tuple #[TT (qt ax r), I 0]
theorem quarterV_in {ax : Nat} (h : ax ≤ 2) (t : Int) : quarterV ax t = okV ax (t.emod 4).toNat := by
  have ho : axOk ax = true := by
    have : ax = 0 ∨ ax = 1 ∨ ax = 2 := by omega
    rcases this with rfl | rfl | rfl <;> rfl
  unfold quarterV qS qE okV
  simp only [ho, cond_true, Int.toNat_natCast]
theorem quarterV_out {ax : Int} (h : axOk ax = false) (t : Int) : quarterV ax t = .tuple #[TT (fun _ => 0), I 3] := by
  unfold quarterV qS qE
  simp only [h, cond_false]
theorem out_test {ax : Int} (h : axOk ax = false) : cond (decide (ax < 0)) true (decide (ax > 2)) = true := by
  unfold axOk at h
  cases hc : cond (decide (ax < 0)) true (decide (ax > 2))
  · rw [hc] at h; cases h
  · rfl
theorem ax_cases {ax : Int} (h : axOk ax = true) : ax = 0 ∨ ax = 1 ∨ ax = 2 := by
  unfold axOk at h
  by_cases h1 : ax < 0
  · simp [h1] at h
  · by_cases h2 : ax > 2
    · simp [h2] at h
    · omega
theorem q15_00 [Tok] (t : Int) : from_ Tryz.prog T2 Tryz.f15 6 (inject [(8, I 0)] (atCut Tryz.prog T2 Tryz.f15 6 [I 0, I t])) = some (okV 0 0) := by kernel_rfl
theorem q15_01 [Tok] (t : Int) : from_ Tryz.prog T2 Tryz.f15 6 (inject [(8, I 1)] (atCut Tryz.prog T2 Tryz.f15 6 [I 0, I t])) = some (okV 0 1) := by kernel_rfl
theorem q15_02 [Tok] (t : Int) : from_ Tryz.prog T2 Tryz.f15 6 (inject [(8, I 2)] (atCut Tryz.prog T2 Tryz.f15 6 [I 0, I t])) = some (okV 0 2) := by kernel_rfl
theorem q15_03 [Tok] (t : Int) : from_ Tryz.prog T2 Tryz.f15 6 (inject [(8, I 3)] (atCut Tryz.prog T2 Tryz.f15 6 [I 0, I t])) = some (okV 0 3) := by kernel_rfl
theorem q15_0 [Tok] (t : Int) : ev Tryz.prog T2 Tryz.f15 [I 0, I t] = some (okV 0 (t.emod 4).toNat) := by
  have h : ∀ k : Kont, upto Tryz.prog T2 Tryz.f15 6 [I 0, I t] k = k .normal (inject [(8, I (andX t))] (atCut Tryz.prog T2 Tryz.f15 6 [I 0, I t])) := fun k => by kernel_rfl
  rw [ev_cut 6 h, andX_eq]
  rcases emod4 t with e | e | e | e <;> rw [e]
  · exact q15_00 t
  · exact q15_01 t
  · exact q15_02 t
  · exact q15_03 t
theorem q15_10 [Tok] (t : Int) : from_ Tryz.prog T2 Tryz.f15 6 (inject [(8, I 0)] (atCut Tryz.prog T2 Tryz.f15 6 [I 1, I t])) = some (okV 1 0) := by kernel_rfl
theorem q15_11 [Tok] (t : Int) : from_ Tryz.prog T2 Tryz.f15 6 (inject [(8, I 1)] (atCut Tryz.prog T2 Tryz.f15 6 [I 1, I t])) = some (okV 1 1) := by kernel_rfl
theorem q15_12 [Tok] (t : Int) : from_ Tryz.prog T2 Tryz.f15 6 (inject [(8, I 2)] (atCut Tryz.prog T2 Tryz.f15 6 [I 1, I t])) = some (okV 1 2) := by kernel_rfl
theorem q15_13 [Tok] (t : Int) : from_ Tryz.prog T2 Tryz.f15 6 (inject [(8, I 3)] (atCut Tryz.prog T2 Tryz.f15 6 [I 1, I t])) = some (okV 1 3) := by kernel_rfl
theorem q15_1 [Tok] (t : Int) : ev Tryz.prog T2 Tryz.f15 [I 1, I t] = some (okV 1 (t.emod 4).toNat) := by
  have h : ∀ k : Kont, upto Tryz.prog T2 Tryz.f15 6 [I 1, I t] k = k .normal (inject [(8, I (andX t))] (atCut Tryz.prog T2 Tryz.f15 6 [I 1, I t])) := fun k => by kernel_rfl
  rw [ev_cut 6 h, andX_eq]
  rcases emod4 t with e | e | e | e <;> rw [e]
  · exact q15_10 t
  · exact q15_11 t
  · exact q15_12 t
  · exact q15_13 t
theorem q15_20 [Tok] (t : Int) : from_ Tryz.prog T2 Tryz.f15 6 (inject [(8, I 0)] (atCut Tryz.prog T2 Tryz.f15 6 [I 2, I t])) = some (okV 2 0) := by kernel_rfl
theorem q15_21 [Tok] (t : Int) : from_ Tryz.prog T2 Tryz.f15 6 (inject [(8, I 1)] (atCut Tryz.prog T2 Tryz.f15 6 [I 2, I t])) = some (okV 2 1) := by kernel_rfl
theorem q15_22 [Tok] (t : Int) : from_ Tryz.prog T2 Tryz.f15 6 (inject [(8, I 2)] (atCut Tryz.prog T2 Tryz.f15 6 [I 2, I t])) = some (okV 2 2) := by kernel_rfl
theorem q15_23 [Tok] (t : Int) : from_ Tryz.prog T2 Tryz.f15 6 (inject [(8, I 3)] (atCut Tryz.prog T2 Tryz.f15 6 [I 2, I t])) = some (okV 2 3) := by kernel_rfl
theorem q15_2 [Tok] (t : Int) : ev Tryz.prog T2 Tryz.f15 [I 2, I t] = some (okV 2 (t.emod 4).toNat) := by
  have h : ∀ k : Kont, upto Tryz.prog T2 Tryz.f15 6 [I 2, I t] k = k .normal (inject [(8, I (andX t))] (atCut Tryz.prog T2 Tryz.f15 6 [I 2, I t])) := fun k => by kernel_rfl
  rw [ev_cut 6 h, andX_eq]
  rcases emod4 t with e | e | e | e <;> rw [e]
  · exact q15_20 t
  · exact q15_21 t
  · exact q15_22 t
  · exact q15_23 t
theorem q15_out [Tok] (ax t : Int) (h : axOk ax = false) : ev Tryz.prog T2 Tryz.f15 [I ax, I t] = some (.tuple #[TT (fun _ => 0), I 3]) := by
  have h1 : ∀ k : Kont, upto Tryz.prog T2 Tryz.f15 2 [I ax, I t] k = k .normal (inject [(20, B (cond (decide (ax < 0)) true (decide (ax > 2))))] (atCut Tryz.prog T2 Tryz.f15 2 [I ax, I t])) := fun k => by kernel_rfl
  have h2 : cond (decide (ax < 0)) true (decide (ax > 2)) = true := out_test h
  have h3 : from_ Tryz.prog T2 Tryz.f15 2 (inject [(20, B true)] (atCut Tryz.prog T2 Tryz.f15 2 [I ax, I t])) = some (.tuple #[TT (fun _ => 0), I 3]) := by kernel_rfl
  rw [ev_cut 2 h1, h2]
  exact h3
theorem quarter15 [Tok] (ax t : Int) : FSpec Tryz.prog 15 [] [I ax, I t] (quarterV ax t) := by
  refine sp T2_ok Tryz.func15 (by kernel_rfl) rfl ?_
  cases h : axOk ax
  · rw [quarterV_out h]; exact q15_out ax t h
  · rcases ax_cases h with rfl | rfl | rfl
    · rw [q15_0]; exact congrArg some (quarterV_in (ax := 0) (by decide) t).symm
    · rw [q15_1]; exact congrArg some (quarterV_in (ax := 1) (by decide) t).symm
    · rw [q15_2]; exact congrArg some (quarterV_in (ax := 2) (by decide) t).symm
def eII0 (g : Int → Int → Value) : List Value → Option Value
  | [.int .i64 a, .int .i64 b] => some (g a b)
  | _ => none
theorem eII_ok [Tok] {P : Program} {f : Nat} {g : Int → Int → Value} (h : ∀ a b, FSpec P f [] [I a, I b] (g a b)) : EOk P (f, pe (eII0 g)) := by
  refine pe_ok fun args r hr => ?_
  unfold eII0 at hr
  split at hr
  · cases hr; exact Or.inl (h _ _)
  · cases hr
def T4 [Tok] : List Entry := (15, pe (eII0 quarterV)) :: (20, pe (eTB0 fun t b => BX (boxS' t b))) :: (21, pe (eTV0 pointV)) :: T2
theorem T4_ok [Tok] : ∀ e, e ∈ T4 → EOk Tryz.prog e := all_cons (eII_ok quarter15) <| all_cons (eTB_ok tbox20) <| all_cons (eTV_ok tpoint) T2_ok
end Go.Proofs.YtfiihlgnbhcpeaiGreat
