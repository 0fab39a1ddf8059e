/-
  The contracts of package turn, but for its quarters: each as a plain function of the floats that go in.
-/
import Derived.Test.YtnlfeocapnefeaaVecB
namespace Go.Proofs.Ytnlfeocapnefeaa
open Go.Ev

/-- A turn: three rows and where it moves, twelve floats. -/
abbrev TT (m : Nat → Nat) : Value := .agg #[F (m 0), F (m 1), F (m 2), F (m 3), F (m 4), F (m 5), F (m 6), F (m 7), F (m 8), F (m 9), F (m 10), F (m 11)]
/-- Its three rows alone. -/
abbrev RR (m : Nat → Nat) : Value := .agg #[F (m 0), F (m 1), F (m 2), F (m 3), F (m 4), F (m 5), F (m 6), F (m 7), F (m 8)]
def ls (l : List Nat) : Nat → Nat := fun i => l.getD i 0
def asT : Value → Option (Nat → Nat)
  | .agg ⟨[.float .f64 a0, .float .f64 a1, .float .f64 a2, .float .f64 a3, .float .f64 a4, .float .f64 a5, .float .f64 a6, .float .f64 a7, .float .f64 a8, .float .f64 a9, .float .f64 a10, .float .f64 a11]⟩ => some (ls [a0, a1, a2, a3, a4, a5, a6, a7, a8, a9, a10, a11])
  | _ => none
theorem asT_some {v : Value} {m : Nat → Nat} (h : asT v = some m) : v = TT m := by
  unfold asT at h; split at h
  · cases h; rfl
  · cases h
def asR : Value → Option (Nat → Nat)
  | .agg ⟨[.float .f64 a0, .float .f64 a1, .float .f64 a2, .float .f64 a3, .float .f64 a4, .float .f64 a5, .float .f64 a6, .float .f64 a7, .float .f64 a8]⟩ => some (ls [a0, a1, a2, a3, a4, a5, a6, a7, a8])
  | _ => none
theorem asR_some {v : Value} {m : Nat → Nat} (h : asR v = some m) : v = RR m := by
  unfold asR at h; split at h
  · cases h; rfl
  · cases h

def eT0 (g : (Nat → Nat) → Value) : List Value → Option Value
  | [x] => match asT x with
    | some a => some (g a)
    | _ => none
  | _ => none
def eR0 (g : (Nat → Nat) → Value) : List Value → Option Value
  | [x] => match asR x with
    | some a => some (g a)
    | _ => none
  | _ => none
def eTT0 (g : (Nat → Nat) → (Nat → Nat) → Value) : List Value → Option Value
  | [x, y] => match asT x, asT y with
    | some a, some b => some (g a b)
    | _, _ => none
  | _ => none
def eTV0 (g : (Nat → Nat) → Nat → Nat → Nat → Value) : List Value → Option Value
  | [x, y] => match asT x, asV y with
    | some t, some (a, b, c) => some (g t a b c)
    | _, _ => none
  | _ => none
theorem eT_ok {P : Program} {f : Nat} {g : (Nat → Nat) → Value} (h : ∀ a, FSpec P f [] [TT a] (g a)) : EOk P (f, pe (eT0 g)) := by
  refine pe_ok fun args r hr => ?_
  simp only [eT0] at hr
  split at hr
  · split at hr
    · rename_i a ha; cases hr; rw [asT_some ha]; exact Or.inl (h a)
    · cases hr
  · cases hr
theorem eR_ok {P : Program} {f : Nat} {g : (Nat → Nat) → Value} (h : ∀ a, FSpec P f [] [RR a] (g a)) : EOk P (f, pe (eR0 g)) := by
  refine pe_ok fun args r hr => ?_
  simp only [eR0] at hr
  split at hr
  · split at hr
    · rename_i a ha; cases hr; rw [asR_some ha]; exact Or.inl (h a)
    · cases hr
  · cases hr
theorem eTT_ok {P : Program} {f : Nat} {g : (Nat → Nat) → (Nat → Nat) → Value} (h : ∀ a b, FSpec P f [] [TT a, TT b] (g a b)) : EOk P (f, pe (eTT0 g)) := by
  refine pe_ok fun args r hr => ?_
  simp only [eTT0] at hr
  split at hr
  · split at hr
    · rename_i a b ha hb; cases hr; rw [asT_some ha, asT_some hb]; exact Or.inl (h a b)
    · cases hr
  · cases hr
theorem eTV_ok {P : Program} {f : Nat} {g : (Nat → Nat) → Nat → Nat → Nat → Value} (h : ∀ t a b c, FSpec P f [] [TT t, V a b c] (g t a b c)) : EOk P (f, pe (eTV0 g)) := by
  refine pe_ok fun args r hr => ?_
  simp only [eTV0] at hr
  split at hr
  · split at hr
    · rename_i t a b c ha hb; cases hr; rw [asT_some ha, asV_some hb]; exact Or.inl (h t a b c)
    · cases hr
  · cases hr

/-! ### The plain functions -/
def fineT (t : Nat → Nat) : Bool := cond (cond (cond (fineS (t 0) (t 1) (t 2)) (fineS (t 3) (t 4) (t 5)) false) (fineS (t 6) (t 7) (t 8)) false) (fineS (t 9) (t 10) (t 11)) false
def sameT (s t : Nat → Nat) : Bool := cond (cond (cond (sameVS (s 0) (s 1) (s 2) (t 0) (t 1) (t 2)) (sameVS (s 3) (s 4) (s 5) (t 3) (t 4) (t 5)) false) (sameVS (s 6) (s 7) (s 8) (t 6) (t 7) (t 8)) false) (sameVS (s 9) (s 10) (s 11) (t 9) (t 10) (t 11)) false
def dirS (t : Nat → Nat) (k a b c : Nat) : Nat := dotS (t (3 * k)) (t (3 * k + 1)) (t (3 * k + 2)) a b c
def dirV (t : Nat → Nat) (a b c : Nat) : Value := V (dirS t 0 a b c) (dirS t 1 a b c) (dirS t 2 a b c)
def pointS (t : Nat → Nat) (k a b c : Nat) : Nat := fadd (dirS t k a b c) (t (9 + k))
def pointV (t : Nat → Nat) (a b c : Nat) : Value := V (pointS t 0 a b c) (pointS t 1 a b c) (pointS t 2 a b c)
def rowCol (b a : Nat → Nat) (i k : Nat) : Nat := dotS (b (3 * i)) (b (3 * i + 1)) (b (3 * i + 2)) (a k) (a (3 + k)) (a (6 + k))
def thenS (a b : Nat → Nat) : Nat → Nat := ls [rowCol b a 0 0, rowCol b a 0 1, rowCol b a 0 2, rowCol b a 1 0, rowCol b a 1 1, rowCol b a 1 2, rowCol b a 2 0, rowCol b a 2 1, rowCol b a 2 2,
  pointS b 0 (a 9) (a 10) (a 11), pointS b 1 (a 9) (a 10) (a 11), pointS b 2 (a 9) (a 10) (a 11)]
def acrossS (m : Nat → Nat) : Nat → Nat := ls [m 0, m 3, m 6, m 1, m 4, m 7, m 2, m 5, m 8]
/-- The k-th number of the product square to rows i and j. -/
def crS (t : Nat → Nat) (i j k : Nat) : Nat := fsub (fmul (t (3 * i + (k + 1) % 3)) (t (3 * j + (k + 2) % 3))) (fmul (t (3 * i + (k + 2) % 3)) (t (3 * j + (k + 1) % 3)))
def detS (t : Nat → Nat) : Nat := dotS (t 0) (t 1) (t 2) (crS t 1 2 0) (crS t 1 2 1) (crS t 1 2 2)
def invS (t : Nat → Nat) : Nat → Nat := ls [fdiv (crS t 1 2 0) (detS t), fdiv (crS t 2 0 0) (detS t), fdiv (crS t 0 1 0) (detS t), fdiv (crS t 1 2 1) (detS t), fdiv (crS t 2 0 1) (detS t), fdiv (crS t 0 1 1) (detS t),
  fdiv (crS t 1 2 2) (detS t), fdiv (crS t 2 0 2) (detS t), fdiv (crS t 0 1 2) (detS t)]
def minusOne : Nat := 13830554455654793216
def bringS (t : Nat → Nat) : Nat → Nat := ls [invS t 0, invS t 1, invS t 2, invS t 3, invS t 4, invS t 5, invS t 6, invS t 7, invS t 8,
  fmul (dirS (invS t) 0 (t 9) (t 10) (t 11)) minusOne, fmul (dirS (invS t) 1 (t 9) (t 10) (t 11)) minusOne, fmul (dirS (invS t) 2 (t 9) (t 10) (t 11)) minusOne]
def backZ (t : Nat → Nat) : Bool := feq (detS t) 0
def backS (t : Nat → Nat) (i : Nat) : Nat := cond (fineT t) (cond (backZ t) 0 (bringS t i)) 0
def backE (t : Nat → Nat) : Int := cond (fineT t) (cond (backZ t) 2 0) 1
def backV (t : Nat → Nat) : Value := .tuple #[TT (backS t), I (backE t)]

/-! ### The contracts -/
theorem fine36 (t : Nat → Nat) : FSpec Try.prog 36 [] [TT t] (B (fineT t)) := sp L4_ok Try.func36 (by kernel_rfl) rfl (by kernel_rfl)
theorem same38 (s t : Nat → Nat) : FSpec Try.prog 38 [] [TT s, TT t] (B (sameT s t)) := sp L4_ok Try.func38 (by kernel_rfl) rfl (by kernel_rfl)
theorem dir42 (t : Nat → Nat) (a b c : Nat) : FSpec Try.prog 42 [] [TT t, V a b c] (dirV t a b c) := sp L4_ok Try.func42 (by kernel_rfl) rfl (by kernel_rfl)
theorem across60 (m : Nat → Nat) : FSpec Try.prog 60 [] [RR m] (RR (acrossS m)) := sp L4_ok Try.func60 (by kernel_rfl) rfl (by kernel_rfl)
def L5 : List Entry := (36, pe (eT0 fun t => B (fineT t))) :: (38, pe (eTT0 fun s t => B (sameT s t))) :: (42, pe (eTV0 dirV)) :: (60, pe (eR0 fun m => RR (acrossS m))) :: L4
theorem L5_ok : ∀ e, e ∈ L5 → EOk Try.prog e := all_cons (eT_ok fine36) <| all_cons (eTT_ok same38) <| all_cons (eTV_ok dir42) <| all_cons (eR_ok across60) L4_ok

theorem point44 (t : Nat → Nat) (a b c : Nat) : FSpec Try.prog 44 [] [TT t, V a b c] (pointV t a b c) := sp L5_ok Try.func44 (by kernel_rfl) rfl (by kernel_rfl)
def L6 : List Entry := (44, pe (eTV0 pointV)) :: L5
theorem L6_ok : ∀ e, e ∈ L6 → EOk Try.prog e := all_cons (eTV_ok point44) L5_ok

theorem then46 (a b : Nat → Nat) : FSpec Try.prog 46 [] [TT a, TT b] (TT (thenS a b)) := sp L6_ok Try.func46 (by kernel_rfl) rfl (by kernel_rfl)
theorem back52 (t : Nat → Nat) : FSpec Try.prog 52 [] [TT t] (backV t) := by
  refine sp L6_ok Try.func52 (by kernel_rfl) rfl ?_
  have h : ev Try.prog L6 Try.f52 [TT t] = cond (!fineT t) (some (.tuple #[TT (fun _ => 0), I 1])) (cond (backZ t) (some (.tuple #[TT (fun _ => 0), I 2])) (some (.tuple #[TT (bringS t), I 0]))) := by kernel_rfl
  rw [h]
  unfold backV backS backE
  cases fineT t <;> cases backZ t <;> rfl
def L7 : List Entry := (46, pe (eTT0 fun a b => TT (thenS a b))) :: (52, pe (eT0 backV)) :: L6
theorem L7_ok : ∀ e, e ∈ L7 → EOk Try.prog e := all_cons (eTT_ok then46) <| all_cons (eT_ok back52) L6_ok

end Go.Proofs.Ytnlfeocapnefeaa
