/-
  Which axis a ray goes along most, where a point is for it, and on which side of an edge it goes by: plain functions, and entries of tables for them; of no particular program.
-/
import Derived.Test.YtenaeijehjnfeaaSh
import Derived.Test.YtenaeijehjnfeaaEvA
namespace Go.Proofs.Ytenaeijehjnfeaa
open Go.Ev

/-! ### The axis that a ray goes along most -/
def gt12 (r : Nat → Nat) : Bool := fgt (fabs (r 4)) (fabs (r 3))
def is2 (r : Nat → Nat) : Bool := cond (gt12 r) (fgt (fabs (r 5)) (fabs (r 4))) (fgt (fabs (r 5)) (fabs (r 3)))
def is1 (r : Nat → Nat) : Bool := gt12 r
def zS (r : Nat → Nat) : Nat := cond (is2 r) 2 (cond (is1 r) 1 0)
/-- How a ray sees points. -/
abbrev LK (r : Nat → Nat) (z : Nat) : Value := .agg #[F (r 0), F (r 1), F (r 2), F (r 3), F (r 4), F (r 5), I ((((z + 1) % 3 : Nat)) : Int), I ((((z + 2) % 3 : Nat)) : Int), I ((z : Nat) : Int)]
/-- The same three ways, one of which is the case. -/
def by3 (r : Nat → Nat) (k : Nat → Option Value) : Option Value := cond (is2 r) (k 2) (cond (is1 r) (k 1) (k 0))
theorem by3_eq (r : Nat → Nat) (k : Nat → Option Value) : by3 r k = k (zS r) := by
  unfold by3 zS; cases is2 r <;> cases is1 r <;> rfl

/-- A ray's look, by cases. -/
def kLook : List (List Value) → List Value → (Value → Option Value) → Option Value := fun _ args k => cond (noPtrs args) (match args with
  | [x] => match asY x with
    | some r => by3 r fun z => k (LK r z)
    | none => none
  | _ => none) none
/-- An entry by cases out of a plain one. -/
theorem kOf [Tok] {P : Program} {f : Nat} {g : List (List Value) → List Value → (Value → Option Value) → Option Value} {W : List (List Value) → List Value → Option Value} (h2 : EOk P (f, W))
    (h1 : ∀ mem args k, g mem args k = match W mem args with | some v => k v | none => none) : KOk P (f, g) := by
  constructor
  · intro mem args k r h
    simp only [h1] at h ⊢
    cases hw : W mem args with
    | none => rw [hw] at h; cases h
    | some v => rw [hw] at h; exact ⟨v, h, fun _ => rfl⟩
  · intro hd mem args v _ h
    have h3 := h some
    simp only [h1] at h3
    cases hw : W mem args with
    | none => rw [hw] at h3; cases h3
    | some u => rw [hw] at h3; cases h3; exact h2 mem args v hw
theorem kLook_ok [Tok] {P : Program} {f : Nat} (h : ∀ r, FSpec P f [] [RY r] (LK r (zS r))) : KOk P (f, kLook) := by
  refine kOf (eY_ok h) fun mem args k => ?_
  unfold kLook pe
  cases noPtrs args
  · rfl
  · simp only [cond_true]
    match args with
    | [] => rfl
    | [x] =>
      simp only [eY0]
      cases hx : asY x with
      | none => rfl
      | some m => exact by3_eq m _
    | _ :: _ :: _ => rfl
/-- The axis alone, of a direction, by cases. -/
def dirR (a b c : Nat) : Nat → Nat := ls [0, 0, 0, a, b, c, 0]
def kDeep : List (List Value) → List Value → (Value → Option Value) → Option Value := fun _ args k => cond (noPtrs args) (match args with
  | [x] => match asV x with
    | some (a, b, c) => by3 (dirR a b c) fun z => k (I ((z : Nat) : Int))
    | none => none
  | _ => none) none
theorem kDeep_ok [Tok] {P : Program} {f : Nat} (h : ∀ a b c, FSpec P f [] [V a b c] (I ((zS (dirR a b c) : Nat) : Int))) : KOk P (f, kDeep) := by
  refine kOf (eV_ok h) fun mem args k => ?_
  unfold kDeep eV pe
  cases noPtrs args
  · rfl
  · simp only [cond_true]
    match args with
    | [] => rfl
    | [x] =>
      simp only [eV0]
      cases hx : asV x with
      | none => rfl
      | some m => exact by3_eq _ _
    | _ :: _ :: _ => rfl

/-! ### Where a point is -/
def df (g r : Nat → Nat) (i : Nat) : Nat := fsub (g i) (r i)
def pX (z : Nat) (r g : Nat → Nat) : Nat := fsub (df g r ((z + 1) % 3)) (fmul (fdiv (r (3 + (z + 1) % 3)) (r (3 + z))) (df g r z))
def pY (z : Nat) (r g : Nat → Nat) : Nat := fsub (df g r ((z + 2) % 3)) (fmul (fdiv (r (3 + (z + 2) % 3)) (r (3 + z))) (df g r z))
def pZ (z : Nat) (r g : Nat → Nat) : Nat := fmul (fdiv one (r (3 + z))) (df g r z)
def plV (z : Nat) (r g : Nat → Nat) : Value := V (pX z r g) (pY z r g) (pZ z r g)
def v3 (a b c : Nat) : Nat → Nat := ls [a, b, c]
def asL : Value → Option ((Nat → Nat) × Nat)
  | .agg ⟨[.float .f64 a0, .float .f64 a1, .float .f64 a2, .float .f64 a3, .float .f64 a4, .float .f64 a5, .int .i64 x, .int .i64 y, .int .i64 z]⟩ =>
    cond (z == 2 && (x == 0 && y == 1)) (some (ls [a0, a1, a2, a3, a4, a5, 0], 2)) (cond (z == 1 && (x == 2 && y == 0)) (some (ls [a0, a1, a2, a3, a4, a5, 0], 1)) (cond (z == 0 && (x == 1 && y == 2)) (some (ls [a0, a1, a2, a3, a4, a5, 0], 0)) none))
  | _ => none
theorem asL_some {v : Value} {m : Nat → Nat} {z : Nat} (h : asL v = some (m, z)) : v = LK m z ∧ (z = 2 ∨ z = 1 ∨ z = 0) := by
  unfold asL at h
  split at h
  · rename_i a0 a1 a2 a3 a4 a5 x y z'
    cases h2 : (z' == 2 && (x == 0 && y == 1))
    · rw [h2] at h
      simp only [cond_false] at h
      cases h1 : (z' == 1 && (x == 2 && y == 0))
      · rw [h1] at h
        simp only [cond_false] at h
        cases h0 : (z' == 0 && (x == 1 && y == 2))
        · rw [h0] at h; cases h
        · rw [h0] at h
          cases h
          simp only [Bool.and_eq_true, beq_iff_eq] at h0
          obtain ⟨rfl, rfl, rfl⟩ := h0
          exact ⟨rfl, Or.inr (Or.inr rfl)⟩
      · rw [h1] at h
        cases h
        simp only [Bool.and_eq_true, beq_iff_eq] at h1
        obtain ⟨rfl, rfl, rfl⟩ := h1
        exact ⟨rfl, Or.inr (Or.inl rfl)⟩
    · rw [h2] at h
      cases h
      simp only [Bool.and_eq_true, beq_iff_eq] at h2
      obtain ⟨rfl, rfl, rfl⟩ := h2
      exact ⟨rfl, Or.inl rfl⟩
  · cases h
def eLV0 : List Value → Option Value
  | [x, y] => match asL x, asV y with
    | some (m, z), some (a, b, c) => some (plV z m (v3 a b c))
    | _, _ => none
  | _ => none
theorem eLV_ok [Tok] {P : Program} {f : Nat} (h2 : ∀ r a b c, FSpec P f [] [LK r 2, V a b c] (plV 2 r (v3 a b c))) (h1 : ∀ r a b c, FSpec P f [] [LK r 1, V a b c] (plV 1 r (v3 a b c))) (h0 : ∀ r a b c, FSpec P f [] [LK r 0, V a b c] (plV 0 r (v3 a b c))) : EOk P (f, pe eLV0) := by
  refine pe_ok fun args r hr => ?_
  simp only [eLV0] at hr
  split at hr
  · split at hr
    · rename_i m z a b c hm hv
      cases hr
      obtain ⟨rfl, hz⟩ := asL_some hm
      rw [asV_some hv]
      rcases hz with rfl | rfl | rfl
      · exact Or.inl (h2 m a b c)
      · exact Or.inl (h1 m a b c)
      · exact Or.inl (h0 m a b c)
    · cases hr
  · cases hr

/-! ### Sides of edges -/
def sd (z : Nat) (r p q : Nat → Nat) : Nat := fsub (fmul (pX z r p) (pY z r q)) (fmul (pY z r p) (pX z r q))
def sdS (r p q : Nat → Nat) : Nat := cond (is2 r) (sd 2 r p q) (cond (is1 r) (sd 1 r p q) (sd 0 r p q))
def qX (r g : Nat → Nat) : Nat := cond (is2 r) (pX 2 r g) (cond (is1 r) (pX 1 r g) (pX 0 r g))
def qY (r g : Nat → Nat) : Nat := cond (is2 r) (pY 2 r g) (cond (is1 r) (pY 1 r g) (pY 0 r g))
def qZ (r g : Nat → Nat) : Nat := cond (is2 r) (pZ 2 r g) (cond (is1 r) (pZ 1 r g) (pZ 0 r g))
theorem sdS_z (r p q : Nat → Nat) : sd (zS r) r p q = sdS r p q := by unfold zS sdS; cases is2 r <;> cases is1 r <;> rfl
theorem sdS_q (r p q : Nat → Nat) : fsub (fmul (qX r p) (qY r q)) (fmul (qY r p) (qX r q)) = sdS r p q := by unfold qX qY sdS; cases is2 r <;> cases is1 r <;> rfl
theorem plV_q (r g : Nat → Nat) : plV (zS r) r g = V (qX r g) (qY r g) (qZ r g) := by unfold plV zS qX qY qZ; cases is2 r <;> cases is1 r <;> rfl
def below3 (u v w : Nat) : Bool := cond (cond (flt u 0) true (flt v 0)) true (flt w 0)
def above3 (u v w : Nat) : Bool := cond (cond (fgt u 0) true (fgt v 0)) true (fgt w 0)
def thr (u v w : Nat) : Bool := cond (!(cond (below3 u v w) (above3 u v w) false)) (!feq (fadd (fadd u v) w) 0) false
def fineP (p : Nat → Nat) : Bool := fineS (p 0) (p 1) (p 2)
/-- What is said of a ray and two points, three points. -/
def pass2 (r p q : Nat → Nat) : Int := cond (!(rayS r == 0)) (rayS r) (cond (!fineP p) 1 (cond (!fineP q) 1 0))
def pass3 (r p q s : Nat → Nat) : Int := cond (!(rayS r == 0)) (rayS r) (cond (!fineP p) 1 (cond (!fineP q) 1 (cond (!fineP s) 1 0)))
def edgeF (r p q : Nat → Nat) : Nat := cond (!(pass2 r p q == 0)) 0 (sdS r p q)
def edgeV (r p q : Nat → Nat) : Value := .tuple #[F (edgeF r p q), I (pass2 r p q)]
def thruB (r a b c : Nat → Nat) : Bool := cond (!(pass3 r a b c == 0)) false (thr (sdS r b c) (sdS r c a) (sdS r a b))
def thruV (r a b c : Nat → Nat) : Value := .tuple #[B (thruB r a b c), I (pass3 r a b c)]
def eYVV0 (g : (Nat → Nat) → (Nat → Nat) → (Nat → Nat) → Value) : List Value → Option Value
  | [x, y, z] => match asY x, asV y, asV z with
    | some r, some (a, b, c), some (d, e, f) => some (g r (v3 a b c) (v3 d e f))
    | _, _, _ => none
  | _ => none
theorem eYVV_ok [Tok] {P : Program} {f : Nat} {g : (Nat → Nat) → (Nat → Nat) → (Nat → Nat) → Value} (h : ∀ r a b c d e k, FSpec P f [] [RY r, V a b c, V d e k] (g r (v3 a b c) (v3 d e k))) : EOk P (f, pe (eYVV0 g)) := by
  refine pe_ok fun args r hr => ?_
  simp only [eYVV0] at hr
  split at hr
  · split at hr
    · rename_i m a b c d e k hm hv hu
      cases hr; rw [asY_some hm, asV_some hv, asV_some hu]; exact Or.inl (h m a b c d e k)
    · cases hr
  · cases hr
def eYVVV0 (g : (Nat → Nat) → (Nat → Nat) → (Nat → Nat) → (Nat → Nat) → Value) : List Value → Option Value
  | [x, y, z, t] => match asY x, asV y, asV z, asV t with
    | some r, some (a, b, c), some (d, e, f), some (i, j, k) => some (g r (v3 a b c) (v3 d e f) (v3 i j k))
    | _, _, _, _ => none
  | _ => none
theorem eYVVV_ok [Tok] {P : Program} {f : Nat} {g : (Nat → Nat) → (Nat → Nat) → (Nat → Nat) → (Nat → Nat) → Value} (h : ∀ r a b c d e k x y z, FSpec P f [] [RY r, V a b c, V d e k, V x y z] (g r (v3 a b c) (v3 d e k) (v3 x y z))) : EOk P (f, pe (eYVVV0 g)) := by
  refine pe_ok fun args r hr => ?_
  simp only [eYVVV0] at hr
  split at hr
  · split at hr
    · rename_i m a b c d e k x y z hm hv hu hw
      cases hr; rw [asY_some hm, asV_some hv, asV_some hu, asV_some hw]; exact Or.inl (h m a b c d e k x y z)
    · cases hr
  · cases hr
def eVVV0 (g : (Nat → Nat) → (Nat → Nat) → (Nat → Nat) → Value) : List Value → Option Value
  | [x, y, z] => match asV x, asV y, asV z with
    | some (i, j, k), some (a, b, c), some (d, e, f) => some (g (v3 i j k) (v3 a b c) (v3 d e f))
    | _, _, _ => none
  | _ => none
theorem eVVV_ok [Tok] {P : Program} {f : Nat} {g : (Nat → Nat) → (Nat → Nat) → (Nat → Nat) → Value} (h : ∀ i j k a b c d e f', FSpec P f [] [V i j k, V a b c, V d e f'] (g (v3 i j k) (v3 a b c) (v3 d e f'))) : EOk P (f, pe (eVVV0 g)) := by
  refine pe_ok fun args r hr => ?_
  simp only [eVVV0] at hr
  split at hr
  · split at hr
    · rename_i i j k a b c d e f' hm hv hu
      cases hr; rw [asV_some hm, asV_some hv, asV_some hu]; exact Or.inl (h i j k a b c d e f')
    · cases hr
  · cases hr
end Go.Proofs.Ytenaeijehjnfeaa
