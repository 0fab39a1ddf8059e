/-
  The contracts of package vec and of slab.Fine, and of the document's answer to them, for the rays of an eye: plain functions of floats.
-/
import Derived.Test.YtenaeijehjnfeaaMono
import Derived.Test.YtenaeijehjnfeaaRows
import Derived.KernelRfl
namespace Go.Proofs.Ytenaeijehjnfeaa
open Go.Ev

theorem sp [Tok] {L : List Entry} (hL : ∀ e, e ∈ L → EOk Try.prog e) {f : Nat} {fn : Func} (hf : Try.prog.funcs[f]? = some fn) (hnm : (fn.name == "runtime.NumGoroutine") = false) {args : List Value} (hlen : Nat.ble args.length fn.ntmps = true) {r : Value}
    (h : ev Try.prog L fn args = some r) : FSpec Try.prog f [] args r := spec_of_ev (by kernel_rfl) hL hf hnm hlen h

/-! ### The functions that call no other -/
theorem vnear [Tok] (x : Nat) : FSpec Try.prog 31 [] [F x] (B (nearS x)) := sp all_nil Try.func31 (by kernel_rfl) rfl (by kernel_rfl)
theorem rnear [Tok] (x : Nat) : FSpec Try.prog 18 [] [F x] (B (nearS x)) := sp all_nil Try.func18 (by kernel_rfl) rfl (by kernel_rfl)
theorem vadd [Tok] (a b c d e f : Nat) : FSpec Try.prog 13 [] [V a b c, V d e f] (V (fadd a d) (fadd b e) (fadd c f)) := sp all_nil Try.func13 (by kernel_rfl) rfl (by kernel_rfl)
theorem radd [Tok] (a b c d e f : Nat) : FSpec Try.prog 25 [] [V a b c, V d e f] (V (fadd a d) (fadd b e) (fadd c f)) := sp all_nil Try.func25 (by kernel_rfl) rfl (by kernel_rfl)
theorem vsub [Tok] (a b c d e f : Nat) : FSpec Try.prog 9 [] [V a b c, V d e f] (V (fsub a d) (fsub b e) (fsub c f)) := sp all_nil Try.func9 (by kernel_rfl) rfl (by kernel_rfl)
theorem rsub [Tok] (a b c d e f : Nat) : FSpec Try.prog 20 [] [V a b c, V d e f] (V (fsub a d) (fsub b e) (fsub c f)) := sp all_nil Try.func20 (by kernel_rfl) rfl (by kernel_rfl)
theorem vscale [Tok] (a b c k : Nat) : FSpec Try.prog 14 [] [V a b c, F k] (V (fmul a k) (fmul b k) (fmul c k)) := sp all_nil Try.func14 (by kernel_rfl) rfl (by kernel_rfl)
theorem rscale [Tok] (a b c k : Nat) : FSpec Try.prog 26 [] [V a b c, F k] (V (fmul a k) (fmul b k) (fmul c k)) := sp all_nil Try.func26 (by kernel_rfl) rfl (by kernel_rfl)
theorem vover [Tok] (a b c k : Nat) : FSpec Try.prog 11 [] [V a b c, F k] (V (fdiv a k) (fdiv b k) (fdiv c k)) := sp all_nil Try.func11 (by kernel_rfl) rfl (by kernel_rfl)
theorem rover [Tok] (a b c k : Nat) : FSpec Try.prog 22 [] [V a b c, F k] (V (fdiv a k) (fdiv b k) (fdiv c k)) := sp all_nil Try.func22 (by kernel_rfl) rfl (by kernel_rfl)
theorem vdot [Tok] (a b c d e f : Nat) : FSpec Try.prog 35 [] [V a b c, V d e f] (F (dotS a b c d e f)) := sp all_nil Try.func35 (by kernel_rfl) rfl (by kernel_rfl)
theorem rtimes [Tok] (a b : Nat) : FSpec Try.prog 24 [] [F a, F b] (F (fmul a b)) := sp all_nil Try.func24 (by kernel_rfl) rfl (by kernel_rfl)
theorem vcross [Tok] (a b c d e f : Nat) : FSpec Try.prog 10 [] [V a b c, V d e f] (V (crossX a b c d e f) (crossX b c a e f d) (crossX c a b f d e)) := sp all_nil Try.func10 (by kernel_rfl) rfl (by kernel_rfl)
theorem vcleanN [Tok] (x : Nat) : FSpec Try.prog 36 [] [F x] (F (cleanS x)) := by
  refine sp all_nil Try.func36 (by kernel_rfl) rfl ?_
  have h : ev Try.prog [] Try.f36 [F x] = cond (cond (fgt x 13740701229962882445) (flt x 4517329193108106637) false) (some (F 0)) (some (F x)) := by kernel_rfl
  rw [h, cond_some', cond_F]
  rfl
theorem rcleanN [Tok] (x : Nat) : FSpec Try.prog 39 [] [F x] (F (cleanS x)) := by
  refine sp all_nil Try.func39 (by kernel_rfl) rfl ?_
  have h : ev Try.prog [] Try.f39 [F x] = cond (cond (fgt x 13740701229962882445) (flt x 4517329193108106637) false) (some (F 0)) (some (F x)) := by kernel_rfl
  rw [h, cond_some', cond_F]
  rfl
theorem rsame [Tok] (a b : Nat) : FSpec Try.prog 29 [] [F a, F b] (B (sameS a b)) := by
  refine sp all_nil Try.func29 (by kernel_rfl) rfl ?_
  have h : ev Try.prog [] Try.f29 [F a, F b] = cond (cond (!feq a a) true (!feq b b)) (some (B (cond (!feq a a) (!feq b b) false))) (some (B (cond (feq a b) (cond (!feq a 0) true (feq (fdiv one a) (fdiv one b))) false))) := by kernel_rfl
  rw [h, cond_some', cond_B]
  rfl
def addE : Nat → Nat → Nat → Nat → Nat → Nat → Value := fun a b c d e f => V (fadd a d) (fadd b e) (fadd c f)
def subE : Nat → Nat → Nat → Nat → Nat → Nat → Value := fun a b c d e f => V (fsub a d) (fsub b e) (fsub c f)
def crossE : Nat → Nat → Nat → Nat → Nat → Nat → Value := fun a b c d e f => V (crossX a b c d e f) (crossX b c a e f d) (crossX c a b f d e)
def dotE : Nat → Nat → Nat → Nat → Nat → Nat → Value := fun a b c d e f => F (dotS a b c d e f)
def scaleE : Nat → Nat → Nat → Nat → Value := fun a b c k => V (fmul a k) (fmul b k) (fmul c k)
def overE : Nat → Nat → Nat → Nat → Value := fun a b c k => V (fdiv a k) (fdiv b k) (fdiv c k)
def cleanE : Nat → Nat → Nat → Value := fun a b c => V (cleanS a) (cleanS b) (cleanS c)
def L1 [Tok] (P : Program) (fx : Func) : List Entry := (31, eF fun x => B (nearS x)) :: (18, eF fun x => B (nearS x)) :: (13, eVV addE) :: (25, eVV addE) :: (9, eVV subE) :: (20, eVV subE) ::
  (14, eVF scaleE) :: (26, eVF scaleE) :: (11, eVF overE) :: (22, eVF overE) :: (35, eVV dotE) :: (24, eFF fun a b => F (fmul a b)) :: (10, eVV crossE) ::
  (36, eF fun x => F (cleanS x)) :: (39, eF fun x => F (cleanS x)) :: (29, eFF fun a b => B (sameS a b)) :: (41, eF fun x => F (fsqrt x)) :: (40, inl P [] fx) :: []
theorem L1_ok [Tok] : ∀ e, e ∈ L1 Try.prog Try.f40 → EOk Try.prog e :=
  all_cons (eF_ok vnear) <| all_cons (eF_ok rnear) <| all_cons (eVV_ok vadd) <| all_cons (eVV_ok radd) <| all_cons (eVV_ok vsub) <| all_cons (eVV_ok rsub) <|
  all_cons (eVF_ok vscale) <| all_cons (eVF_ok rscale) <| all_cons (eVF_ok vover) <| all_cons (eVF_ok rover) <| all_cons (eVV_ok vdot) <| all_cons (eFF_ok rtimes) <| all_cons (eVV_ok vcross) <|
  all_cons (eF_ok vcleanN) <| all_cons (eF_ok rcleanN) <| all_cons (eFF_ok rsame) <| all_cons (sqrt_ok Try.func41 (by kernel_rfl) rfl (by kernel_rfl) (by kernel_rfl)) <|
  all_cons (inl_ok (by kernel_rfl) all_nil Try.func40 (by kernel_rfl)) all_nil

/-! ### The second layer -/
theorem vfine [Tok] (a b c : Nat) : FSpec Try.prog 33 [] [V a b c] (B (fineS a b c)) := sp L1_ok Try.func33 (by kernel_rfl) rfl (by kernel_rfl)
theorem rfine [Tok] (a b c : Nat) : FSpec Try.prog 37 [] [V a b c] (B (fineS a b c)) := sp L1_ok Try.func37 (by kernel_rfl) rfl (by kernel_rfl)
theorem rsameV [Tok] (a b c d e f : Nat) : FSpec Try.prog 6 [] [V a b c, V d e f] (B (sameVS a b c d e f)) := sp L1_ok Try.func6 (by kernel_rfl) rfl (by kernel_rfl)
theorem rdot [Tok] (a b c d e f : Nat) : FSpec Try.prog 38 [] [V a b c, V d e f] (F (dotS a b c d e f)) := sp L1_ok Try.func38 (by kernel_rfl) rfl (by kernel_rfl)
theorem rcross [Tok] (a b c d e f : Nat) : FSpec Try.prog 21 [] [V a b c, V d e f] (crossE a b c d e f) := sp L1_ok Try.func21 (by kernel_rfl) rfl (by kernel_rfl)
theorem vclean [Tok] (a b c : Nat) : FSpec Try.prog 15 [] [V a b c] (cleanE a b c) := sp L1_ok Try.func15 (by kernel_rfl) rfl (by kernel_rfl)
theorem rclean [Tok] (a b c : Nat) : FSpec Try.prog 27 [] [V a b c] (cleanE a b c) := sp L1_ok Try.func27 (by kernel_rfl) rfl (by kernel_rfl)
theorem msqrt [Tok] (x : Nat) : FSpec Try.prog 34 [] [F x] (F (fsqrt x)) := sp L1_ok Try.func34 (by kernel_rfl) rfl (by kernel_rfl)
def L2 [Tok] (P : Program) (fx : Func) : List Entry := (33, eV fun a b c => B (fineS a b c)) :: (37, eV fun a b c => B (fineS a b c)) :: (6, eVV fun a b c d e f => B (sameVS a b c d e f)) :: (38, eVV dotE) ::
  (21, eVV crossE) :: (15, eV cleanE) :: (27, eV cleanE) :: (34, eF fun x => F (fsqrt x)) :: L1 P fx
theorem L2_ok [Tok] : ∀ e, e ∈ L2 Try.prog Try.f40 → EOk Try.prog e :=
  all_cons (eV_ok vfine) <| all_cons (eV_ok rfine) <| all_cons (eVV_ok rsameV) <| all_cons (eVV_ok rdot) <| all_cons (eVV_ok rcross) <| all_cons (eV_ok vclean) <| all_cons (eV_ok rclean) <| all_cons (eF_ok msqrt) L1_ok

theorem vlength [Tok] (a b c : Nat) : FSpec Try.prog 12 [] [V a b c] (F (lengthS a b c)) := sp L2_ok Try.func12 (by kernel_rfl) rfl (by kernel_rfl)
theorem rlength [Tok] (a b c : Nat) : FSpec Try.prog 23 [] [V a b c] (F (lengthS a b c)) := sp L2_ok Try.func23 (by kernel_rfl) rfl (by kernel_rfl)
theorem sfine [Tok] (r : Nat → Nat) : FSpec Try.prog 16 [] [RY r] (I (rayS r)) := by
  refine sp L2_ok Try.func16 (by kernel_rfl) rfl ?_
  have h : ev Try.prog (L2 Try.prog Try.f40) Try.f16 [RY r] = cond (rayF r) (some (I 1)) (cond (rayZ r) (some (I 2)) (cond (!rayC r) (some (I 1)) (cond (flt (r 6) 0) (some (I 6)) (some (I 0))))) := by kernel_rfl
  rw [h, cond_some', cond_some', cond_some', cond_some', cond_I, cond_I, cond_I, cond_I]; rfl
theorem rrfine [Tok] (r : Nat → Nat) : FSpec Try.prog 28 [] [RY r] (I (rayS r)) := by
  refine sp L2_ok Try.func28 (by kernel_rfl) rfl ?_
  have h : ev Try.prog (L2 Try.prog Try.f40) Try.f28 [RY r] = cond (rayF r) (some (I 1)) (cond (cond (cond (feq (r 3) 0) (feq (r 4) 0) false) (feq (r 5) 0) false) (some (I 2))
    (cond (!feq (r 3) (cleanS (r 3))) (some (I 1)) (cond (!feq (r 4) (cleanS (r 4))) (some (I 1)) (cond (!feq (r 5) (cleanS (r 5))) (some (I 1)) (cond (flt (r 6) 0) (some (I 6)) (some (I 0))))))) := by kernel_rfl
  rw [h]
  unfold rayS rayZ rayC
  cases rayF r <;> cases feq (r 3) 0 <;> cases feq (r 4) 0 <;> cases feq (r 5) 0 <;> cases feq (r 3) (cleanS (r 3)) <;> cases feq (r 4) (cleanS (r 4)) <;> cases feq (r 5) (cleanS (r 5)) <;> cases flt (r 6) 0 <;> rfl
def L3 [Tok] (P : Program) (fx : Func) : List Entry := (12, eV fun a b c => F (lengthS a b c)) :: (23, eV fun a b c => F (lengthS a b c)) :: (16, pe (eY0 fun r => I (rayS r))) :: (28, pe (eY0 fun r => I (rayS r))) :: L2 P fx
theorem L3_ok [Tok] : ∀ e, e ∈ L3 Try.prog Try.f40 → EOk Try.prog e := all_cons (eV_ok vlength) <| all_cons (eV_ok rlength) <| all_cons (eY_ok sfine) <| all_cons (eY_ok rrfine) L2_ok

def unitOk (a b c : Nat) : Bool := fineS a b c
def unitZ (a b c : Nat) : Bool := feq (lengthS a b c) 0
def unitS (a b c x : Nat) : Nat := cond (unitOk a b c) (cond (unitZ a b c) 0 (fdiv x (lengthS a b c))) 0
def unitE (a b c : Nat) : Int := cond (unitOk a b c) (cond (unitZ a b c) 2 0) 1
def unitV (a b c : Nat) : Value := .tuple #[V (unitS a b c a) (unitS a b c b) (unitS a b c c), I (unitE a b c)]
theorem vunit [Tok] (a b c : Nat) : FSpec Try.prog 8 [] [V a b c] (unitV a b c) := by
  refine sp L3_ok Try.func8 (by kernel_rfl) rfl ?_
  have h : ev Try.prog (L3 Try.prog Try.f40) Try.f8 [V a b c] = cond (!unitOk a b c) (some (.tuple #[V 0 0 0, I 1])) (cond (unitZ a b c) (some (.tuple #[V 0 0 0, I 2]))
      (some (.tuple #[V (fdiv a (lengthS a b c)) (fdiv b (lengthS a b c)) (fdiv c (lengthS a b c)), I 0]))) := by kernel_rfl
  rw [h]
  unfold unitV unitS unitE
  cases unitOk a b c <;> cases unitZ a b c <;> rfl
theorem runit [Tok] (a b c : Nat) : FSpec Try.prog 19 [] [V a b c] (unitV a b c) := by
  refine sp L3_ok Try.func19 (by kernel_rfl) rfl ?_
  have h : ev Try.prog (L3 Try.prog Try.f40) Try.f19 [V a b c] = cond (!unitOk a b c) (some (.tuple #[V 0 0 0, I 1])) (cond (unitZ a b c) (some (.tuple #[V 0 0 0, I 2]))
      (some (.tuple #[V (fdiv a (lengthS a b c)) (fdiv b (lengthS a b c)) (fdiv c (lengthS a b c)), I 0]))) := by kernel_rfl
  rw [h]
  unfold unitV unitS unitE
  cases unitOk a b c <;> cases unitZ a b c <;> rfl
def L4 [Tok] (P : Program) (fx : Func) : List Entry := (8, eV unitV) :: (19, eV unitV) :: L3 P fx
theorem L4_ok [Tok] : ∀ e, e ∈ L4 Try.prog Try.f40 → EOk Try.prog e := all_cons (eV_ok vunit) <| all_cons (eV_ok runit) L3_ok

end Go.Proofs.Ytenaeijehjnfeaa
