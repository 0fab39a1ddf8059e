/-
  The contracts of package vec, the third layer, and what the laws on it give.
-/
import Derived.Test.YtnlfeocapnefeaaVec
namespace Go.Proofs.Ytnlfeocapnefeaa
open Go.Ev

theorem cond_V (b : Bool) (x y z p q r : Nat) : cond b (V x y z) (V p q r) = V (cond b x p) (cond b y q) (cond b z r) := by cases b <;> rfl
theorem cond_I (b : Bool) (x y : Int) : cond b (I x) (I y) = I (cond b x y) := by cases b <;> rfl
theorem cond_T (b : Bool) (x y p q : Value) : cond b (Value.tuple #[x, y]) (Value.tuple #[p, q]) = Value.tuple #[cond b x p, cond b y q] := by cases b <;> rfl

theorem length26 (a b c : Nat) : FSpec Try.prog 26 [] [V a b c] (F (lengthS a b c)) := sp L2_ok Try.func26 (by kernel_rfl) rfl (by kernel_rfl)
theorem length27 (a b c : Nat) : FSpec Try.prog 27 [] [V a b c] (F (lengthS a b c)) := sp L2_ok Try.func27 (by kernel_rfl) rfl (by kernel_rfl)
def mirS (d n k : Nat) : Nat := fsub d (fmul n (fmul 4611686018427387904 k))
theorem mirror34 (a b c d e f : Nat) : FSpec Try.prog 34 [] [V a b c, V d e f] (V (mirS a d (dotS a b c d e f)) (mirS b e (dotS a b c d e f)) (mirS c f (dotS a b c d e f))) := sp L2_ok Try.func34 (by kernel_rfl) rfl (by kernel_rfl)
theorem mirror35 (a b c d e f : Nat) : FSpec Try.prog 35 [] [V a b c, V d e f] (V (mirS a d (dotS a b c d e f)) (mirS b e (dotS a b c d e f)) (mirS c f (dotS a b c d e f))) := sp L2_ok Try.func35 (by kernel_rfl) rfl (by kernel_rfl)

/-- How a bend goes: its test, and the two factors. -/
def bendK (a b c d e f k : Nat) : Nat := fsub one (fmul (fmul k k) (fsub one (fmul (fneg (dotS a b c d e f)) (fneg (dotS a b c d e f)))))
def bendG (a b c d e f k : Nat) : Nat := fsub (fmul k (fneg (dotS a b c d e f))) (fsqrt (bendK a b c d e f k))
def bendOk (a b c d e f k : Nat) : Bool := fge (bendK a b c d e f k) 0
def bendS (a b c d e f k x y : Nat) : Nat := cond (bendOk a b c d e f k) (fadd (fmul x k) (fmul y (bendG a b c d e f k))) 0
def bendV (a b c d e f k : Nat) : Value := .tuple #[V (bendS a b c d e f k a d) (bendS a b c d e f k b e) (bendS a b c d e f k c f), B (bendOk a b c d e f k)]

theorem bend32 (a b c d e f k : Nat) : FSpec Try.prog 32 [] [V a b c, V d e f, F k] (bendV a b c d e f k) := by
  refine sp L2_ok Try.func32 (by kernel_rfl) rfl ?_
  have h : ev Try.prog L2 Try.f32 [V a b c, V d e f, F k] = cond (!bendOk a b c d e f k) (some (.tuple #[V 0 0 0, B false]))
      (some (.tuple #[V (fadd (fmul a k) (fmul d (bendG a b c d e f k))) (fadd (fmul b k) (fmul e (bendG a b c d e f k))) (fadd (fmul c k) (fmul f (bendG a b c d e f k))), B true])) := by kernel_rfl
  rw [h]
  unfold bendV bendS
  cases bendOk a b c d e f k <;> rfl
theorem bend33 (a b c d e f k : Nat) : FSpec Try.prog 33 [] [V a b c, V d e f, F k] (bendV a b c d e f k) := by
  refine sp L2_ok Try.func33 (by kernel_rfl) rfl ?_
  have h : ev Try.prog L2 Try.f33 [V a b c, V d e f, F k] = cond (bendOk a b c d e f k) 
      (some (.tuple #[V (fadd (fmul a k) (fmul d (bendG a b c d e f k))) (fadd (fmul b k) (fmul e (bendG a b c d e f k))) (fadd (fmul c k) (fmul f (bendG a b c d e f k))), B true])) (some (.tuple #[V 0 0 0, B false])) := by kernel_rfl
  rw [h]
  unfold bendV bendS
  cases bendOk a b c d e f k <;> rfl

def unitOk (a b c : Nat) : Bool := fineS a b c
def unitZ (a b c : Nat) : Bool := feq (lengthS a b c) 0
def unitS (a b c x : Nat) : Nat := cond (unitOk a b c) (cond (unitZ a b c) 0 (fdiv x (lengthS a b c))) 0
def unitE (a b c : Nat) : Int := cond (unitOk a b c) (cond (unitZ a b c) 2 0) 1
def unitV (a b c : Nat) : Value := .tuple #[V (unitS a b c a) (unitS a b c b) (unitS a b c c), I (unitE a b c)]

def L3 : List Entry := (26, eV fun a b c => F (lengthS a b c)) :: (27, eV fun a b c => F (lengthS a b c)) ::
  (34, eVV fun a b c d e f => V (mirS a d (dotS a b c d e f)) (mirS b e (dotS a b c d e f)) (mirS c f (dotS a b c d e f))) :: (35, eVV fun a b c d e f => V (mirS a d (dotS a b c d e f)) (mirS b e (dotS a b c d e f)) (mirS c f (dotS a b c d e f))) ::
  (32, eVVF bendV) :: (33, eVVF bendV) :: L2
theorem L3_ok : ∀ e, e ∈ L3 → EOk Try.prog e :=
  all_cons (eV_ok length26) <| all_cons (eV_ok length27) <| all_cons (eVV_ok mirror34) <| all_cons (eVV_ok mirror35) <| all_cons (eVVF_ok bend32) <| all_cons (eVVF_ok bend33) L2_ok

theorem unit30 (a b c : Nat) : FSpec Try.prog 30 [] [V a b c] (unitV a b c) := by
  refine sp L3_ok Try.func30 (by kernel_rfl) rfl ?_
  have h : ev Try.prog L3 Try.f30 [V a b c] = cond (!unitOk a b c) (some (.tuple #[V 0 0 0, I 1])) (cond (unitZ a b c) (some (.tuple #[V 0 0 0, I 2]))
      (some (.tuple #[V (fdiv a (lengthS a b c)) (fdiv b (lengthS a b c)) (fdiv c (lengthS a b c)), I 0]))) := by kernel_rfl
  rw [h]
  unfold unitV unitS unitE
  cases unitOk a b c <;> cases unitZ a b c <;> rfl
theorem unit31 (a b c : Nat) : FSpec Try.prog 31 [] [V a b c] (unitV a b c) := by
  refine sp L3_ok Try.func31 (by kernel_rfl) rfl ?_
  have h : ev Try.prog L3 Try.f31 [V a b c] = cond (!unitOk a b c) (some (.tuple #[V 0 0 0, I 1])) (cond (unitZ a b c) (some (.tuple #[V 0 0 0, I 2]))
      (some (.tuple #[V (fdiv a (lengthS a b c)) (fdiv b (lengthS a b c)) (fdiv c (lengthS a b c)), I 0]))) := by kernel_rfl
  rw [h]
  unfold unitV unitS unitE
  cases unitOk a b c <;> cases unitZ a b c <;> rfl
def L4 : List Entry := (30, eV unitV) :: (31, eV unitV) :: L3
theorem L4_ok : ∀ e, e ∈ L4 → EOk Try.prog e := all_cons (eV_ok unit30) <| all_cons (eV_ok unit31) L3_ok

end Go.Proofs.Ytnlfeocapnefeaa
