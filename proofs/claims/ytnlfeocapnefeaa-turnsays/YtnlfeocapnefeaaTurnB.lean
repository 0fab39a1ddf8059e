/-
  The other contracts of package turn and of the document's answer: boxes, and what the answer says of turns.
-/
import Derived.Test.YtnlfeocapnefeaaTurn
import Derived.Test.YtnlfeocapnefeaaFl
namespace Go.Proofs.Ytnlfeocapnefeaa
open Go.Ev

/-- A box: two corners, six floats. -/
abbrev BX (m : Nat → Nat) : Value := .agg #[F (m 0), F (m 1), F (m 2), F (m 3), F (m 4), F (m 5)]
def asB : Value → Option (Nat → Nat)
  | .agg ⟨[.float .f64 a0, .float .f64 a1, .float .f64 a2, .float .f64 a3, .float .f64 a4, .float .f64 a5]⟩ => some (ls [a0, a1, a2, a3, a4, a5])
  | _ => none
theorem asB_some {v : Value} {m : Nat → Nat} (h : asB v = some m) : v = BX m := by
  unfold asB at h; split at h
  · cases h; rfl
  · cases h
def eB0 (g : (Nat → Nat) → Value) : List Value → Option Value
  | [x] => match asB x with
    | some a => some (g a)
    | _ => none
  | _ => none
def eBB0 (g : (Nat → Nat) → (Nat → Nat) → Value) : List Value → Option Value
  | [x, y] => match asB x, asB y with
    | some a, some b => some (g a b)
    | _, _ => none
  | _ => none
def eTB0 (g : (Nat → Nat) → (Nat → Nat) → Value) : List Value → Option Value
  | [x, y] => match asT x, asB y with
    | some a, some b => some (g a b)
    | _, _ => none
  | _ => none
def eN0 (g : Value) : List Value → Option Value
  | [] => some g
  | _ => none
theorem eN_ok {P : Program} {f : Nat} {g : Value} (h : FSpec P f [] [] g) : EOk P (f, pe (eN0 g)) := by
  refine pe_ok fun args r hr => ?_
  unfold eN0 at hr
  split at hr
  · cases hr; exact Or.inl h
  · cases hr
theorem eB_ok {P : Program} {f : Nat} {g : (Nat → Nat) → Value} (h : ∀ a, FSpec P f [] [BX a] (g a)) : EOk P (f, pe (eB0 g)) := by
  refine pe_ok fun args r hr => ?_
  simp only [eB0] at hr
  split at hr
  · split at hr
    · rename_i a ha; cases hr; rw [asB_some ha]; exact Or.inl (h a)
    · cases hr
  · cases hr
theorem eBB_ok {P : Program} {f : Nat} {g : (Nat → Nat) → (Nat → Nat) → Value} (h : ∀ a b, FSpec P f [] [BX a, BX b] (g a b)) : EOk P (f, pe (eBB0 g)) := by
  refine pe_ok fun args r hr => ?_
  simp only [eBB0] at hr
  split at hr
  · split at hr
    · rename_i a b ha hb; cases hr; rw [asB_some ha, asB_some hb]; exact Or.inl (h a b)
    · cases hr
  · cases hr
theorem eTB_ok {P : Program} {f : Nat} {g : (Nat → Nat) → (Nat → Nat) → Value} (h : ∀ a b, FSpec P f [] [TT a, BX b] (g a b)) : EOk P (f, pe (eTB0 g)) := by
  refine pe_ok fun args r hr => ?_
  simp only [eTB0] at hr
  split at hr
  · split at hr
    · rename_i a b ha hb; cases hr; rw [asT_some ha, asB_some hb]; exact Or.inl (h a b)
    · cases hr
  · cases hr

/-! ### The plain functions -/
def shiftS (a b c : Nat) : Nat → Nat := ls [one, 0, 0, 0, one, 0, 0, 0, one, a, b, c]
def lessS (a b : Nat) : Nat := cond (flt b a) b a
def moreS (a b : Nat) : Nat := cond (fgt b a) b a
def lowV (a b c d e f : Nat) : Value := V (lessS a d) (lessS b e) (lessS c f)
def highV (a b c d e f : Nat) : Value := V (moreS a d) (moreS b e) (moreS c f)
/-- Where the k-th corner goes. -/
def cornS (t b : Nat → Nat) (k i : Nat) : Nat := pointS t i (cond (Nat.testBit k 0) (b 3) (b 0)) (cond (Nat.testBit k 1) (b 4) (b 1)) (cond (Nat.testBit k 2) (b 5) (b 2))
def loS (g : Nat → Nat) : Nat := lessS (lessS (lessS (lessS (lessS (lessS (lessS (g 0) (g 1)) (g 2)) (g 3)) (g 4)) (g 5)) (g 6)) (g 7)
def hiS (g : Nat → Nat) : Nat := moreS (moreS (moreS (moreS (moreS (moreS (moreS (g 0) (g 1)) (g 2)) (g 3)) (g 4)) (g 5)) (g 6)) (g 7)
def loS' (g : Nat → Nat) : Nat := lessS (lessS (lessS (lessS (lessS (lessS (lessS (lessS (g 0) (g 0)) (g 1)) (g 2)) (g 3)) (g 4)) (g 5)) (g 6)) (g 7)
def hiS' (g : Nat → Nat) : Nat := moreS (moreS (moreS (moreS (moreS (moreS (moreS (moreS (g 0) (g 0)) (g 1)) (g 2)) (g 3)) (g 4)) (g 5)) (g 6)) (g 7)
def boxS (t b : Nat → Nat) : Nat → Nat := ls [loS fun k => cornS t b k 0, loS fun k => cornS t b k 1, loS fun k => cornS t b k 2, hiS fun k => cornS t b k 0, hiS fun k => cornS t b k 1, hiS fun k => cornS t b k 2]
def boxS' (t b : Nat → Nat) : Nat → Nat := ls [loS' fun k => cornS t b k 0, loS' fun k => cornS t b k 1, loS' fun k => cornS t b k 2, hiS' fun k => cornS t b k 0, hiS' fun k => cornS t b k 1, hiS' fun k => cornS t b k 2]
def sameB (s t : Nat → Nat) : Bool := cond (sameVS (s 0) (s 1) (s 2) (t 0) (t 1) (t 2)) (sameVS (s 3) (s 4) (s 5) (t 3) (t 4) (t 5)) false

/-! ### The contracts -/
theorem fine37 (t : Nat → Nat) : FSpec Try.prog 37 [] [TT t] (B (fineT t)) := sp L4_ok Try.func37 (by kernel_rfl) rfl (by kernel_rfl)
theorem shift40 (a b c : Nat) : FSpec Try.prog 40 [] [V a b c] (TT (shiftS a b c)) := sp L4_ok Try.func40 (by kernel_rfl) rfl (by kernel_rfl)
theorem shift41 (a b c : Nat) : FSpec Try.prog 41 [] [V a b c] (TT (shiftS a b c)) := sp L4_ok Try.func41 (by kernel_rfl) rfl (by kernel_rfl)
theorem dir43 (t : Nat → Nat) (a b c : Nat) : FSpec Try.prog 43 [] [TT t, V a b c] (dirV t a b c) := sp L4_ok Try.func43 (by kernel_rfl) rfl (by kernel_rfl)
theorem sameB49 (s t : Nat → Nat) : FSpec Try.prog 49 [] [BX s, BX t] (B (sameB s t)) := sp L4_ok Try.func49 (by kernel_rfl) rfl (by kernel_rfl)
def mayS (b : Nat → Nat) : Int := cond (cond (!fineS (b 0) (b 1) (b 2)) true (!fineS (b 3) (b 4) (b 5))) 1 (cond (cond (cond (fgt (b 0) (b 3)) true (fgt (b 1) (b 4))) true (fgt (b 2) (b 5))) 6 0)
theorem may48 (b : Nat → Nat) : FSpec Try.prog 48 [] [BX b] (I (mayS b)) := by
  refine sp L4_ok Try.func48 (by kernel_rfl) rfl ?_
  have h : ev Try.prog L4 Try.f48 [BX b] = cond (cond (!fineS (b 0) (b 1) (b 2)) true (!fineS (b 3) (b 4) (b 5))) (some (I 1)) (cond (cond (cond (fgt (b 0) (b 3)) true (fgt (b 1) (b 4))) true (fgt (b 2) (b 5))) (some (I 6)) (some (I 0))) := by kernel_rfl
  rw [h, cond_some', cond_some', cond_I, cond_I]; rfl
theorem less70 (a b : Nat) : FSpec Try.prog 70 [] [F a, F b] (F (lessS a b)) := by
  refine sp L4_ok Try.func70 (by kernel_rfl) rfl ?_
  have h : ev Try.prog L4 Try.f70 [F a, F b] = cond (flt b a) (some (F b)) (some (F a)) := by kernel_rfl
  rw [h]; unfold lessS; cases flt b a <;> rfl
theorem more71 (a b : Nat) : FSpec Try.prog 71 [] [F a, F b] (F (moreS a b)) := by
  refine sp L4_ok Try.func71 (by kernel_rfl) rfl ?_
  have h : ev Try.prog L4 Try.f71 [F a, F b] = cond (fgt b a) (some (F b)) (some (F a)) := by kernel_rfl
  rw [h]; unfold moreS; cases fgt b a <;> rfl
theorem least63 (a b c d e f : Nat) : FSpec Try.prog 63 [] [V a b c, V d e f] (lowV a b c d e f) := by
  refine sp L4_ok Try.func63 (by kernel_rfl) rfl ?_
  have h : ev Try.prog L4 Try.f63 [V a b c, V d e f] = cond (flt d a)
      (cond (flt e b) (cond (flt f c) (some (V d e f)) (some (V d e c))) (cond (flt f c) (some (V d b f)) (some (V d b c))))
      (cond (flt e b) (cond (flt f c) (some (V a e f)) (some (V a e c))) (cond (flt f c) (some (V a b f)) (some (V a b c)))) := by kernel_rfl
  rw [h]; unfold lowV lessS; cases flt d a <;> cases flt e b <;> cases flt f c <;> rfl
theorem most64 (a b c d e f : Nat) : FSpec Try.prog 64 [] [V a b c, V d e f] (highV a b c d e f) := by
  refine sp L4_ok Try.func64 (by kernel_rfl) rfl ?_
  have h : ev Try.prog L4 Try.f64 [V a b c, V d e f] = cond (fgt d a)
      (cond (fgt e b) (cond (fgt f c) (some (V d e f)) (some (V d e c))) (cond (fgt f c) (some (V d b f)) (some (V d b c))))
      (cond (fgt e b) (cond (fgt f c) (some (V a e f)) (some (V a e c))) (cond (fgt f c) (some (V a b f)) (some (V a b c)))) := by kernel_rfl
  rw [h]; unfold highV moreS; cases fgt d a <;> cases fgt e b <;> cases fgt f c <;> rfl

def L10 : List Entry := (37, pe (eT0 fun t => B (fineT t))) :: (40, eV fun a b c => TT (shiftS a b c)) :: (41, eV fun a b c => TT (shiftS a b c)) :: (43, pe (eTV0 dirV)) ::
  (49, pe (eBB0 fun s t => B (sameB s t))) :: (48, pe (eB0 fun b => I (mayS b))) :: (70, eFF fun a b => F (lessS a b)) :: (71, eFF fun a b => F (moreS a b)) :: (63, eVV lowV) :: (64, eVV highV) :: L7
theorem L10_ok : ∀ e, e ∈ L10 → EOk Try.prog e := all_cons (eT_ok fine37) <| all_cons (eV_ok shift40) <| all_cons (eV_ok shift41) <| all_cons (eTV_ok dir43) <|
  all_cons (eBB_ok sameB49) <| all_cons (eB_ok may48) <| all_cons (eFF_ok less70) <| all_cons (eFF_ok more71) <| all_cons (eVV_ok least63) <| all_cons (eVV_ok most64) L7_ok

theorem same39 : FSpec Try.prog 39 [] [] (TT (shiftS 0 0 0)) := sp L10_ok Try.func39 (by kernel_rfl) rfl (by kernel_rfl)
theorem point45 (t : Nat → Nat) (a b c : Nat) : FSpec Try.prog 45 [] [TT t, V a b c] (pointV t a b c) := sp L10_ok Try.func45 (by kernel_rfl) rfl (by kernel_rfl)
theorem low65 (a b c d e f : Nat) : FSpec Try.prog 65 [] [V a b c, V d e f] (lowV a b c d e f) := sp L10_ok Try.func65 (by kernel_rfl) rfl (by kernel_rfl)
theorem high66 (a b c d e f : Nat) : FSpec Try.prog 66 [] [V a b c, V d e f] (highV a b c d e f) := sp L10_ok Try.func66 (by kernel_rfl) rfl (by kernel_rfl)
theorem back53 (t : Nat → Nat) : FSpec Try.prog 53 [] [TT t] (backV t) := by
  refine sp L10_ok Try.func53 (by kernel_rfl) rfl ?_
  have h : ev Try.prog L10 Try.f53 [TT t] = cond (!fineT t) (some (.tuple #[TT (fun _ => 0), I 1])) (cond (backZ t) (some (.tuple #[TT (fun _ => 0), I 2])) (some (.tuple #[TT (bringS t), I 0]))) := by kernel_rfl
  rw [h]
  unfold backV backS backE
  cases fineT t <;> cases backZ t <;> rfl

/-- With the texts that are gone through at each call: Axis, column, corner. -/
def L11 (P : Program) (f69 f62 : Func) : List Entry := (39, pe (eN0 (TT (shiftS 0 0 0)))) :: (45, pe (eTV0 pointV)) :: (65, eVV lowV) :: (66, eVV highV) :: (53, pe (eT0 backV)) :: (69, inl P L10 f69) :: (62, inl P L10 f62) :: L10
theorem L11_ok : ∀ e, e ∈ L11 Try.prog Try.f69 Try.f62 → EOk Try.prog e := all_cons (eN_ok same39) <| all_cons (eTV_ok point45) <| all_cons (eVV_ok low65) <| all_cons (eVV_ok high66) <| all_cons (eT_ok back53) <|
  all_cons (inl_ok (by kernel_rfl) L10_ok Try.func69 (by kernel_rfl)) <| all_cons (inl_ok (by kernel_rfl) L10_ok Try.func62 (by kernel_rfl)) L10_ok
def L12 (P : Program) (f69 f62 f61 : Func) : List Entry := (61, inl P (L11 P f69 f62) f61) :: L11 P f69 f62
theorem L12_ok : ∀ e, e ∈ L12 Try.prog Try.f69 Try.f62 Try.f61 → EOk Try.prog e := all_cons (inl_ok (by kernel_rfl) L11_ok Try.func61 (by kernel_rfl)) L11_ok

theorem then47 (a b : Nat → Nat) : FSpec Try.prog 47 [] [TT a, TT b] (TT (thenS a b)) := sp L12_ok Try.func47 (by kernel_rfl) rfl (by kernel_rfl)
theorem box50 (t b : Nat → Nat) : FSpec Try.prog 50 [] [TT t, BX b] (BX (boxS' t b)) := sp L12_ok Try.func50 (by kernel_rfl) rfl (by kernel_rfl)
theorem box51 (t b : Nat → Nat) : FSpec Try.prog 51 [] [TT t, BX b] (BX (boxS t b)) := sp L12_ok Try.func51 (by kernel_rfl) rfl (by kernel_rfl)
end Go.Proofs.Ytnlfeocapnefeaa
