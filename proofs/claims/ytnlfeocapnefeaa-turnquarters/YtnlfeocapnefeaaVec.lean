/-
  The contracts of package vec and of the document's answer to it: what each function hands back, as a plain function of the floats that go in.
-/
import Derived.Test.YtnlfeocapnefeaaEv7
import Derived.Test.YtnlfeocapnefeaaRows
import Derived.KernelRfl
namespace Go.Proofs.Ytnlfeocapnefeaa
open Go.Ev

theorem sp {L : List Entry} (hL : ∀ e, e ∈ L → EOk Try.prog e) {f : Nat} {fn : Func} (hf : Try.prog.funcs[f]? = some fn) (hnm : (fn.name == "runtime.NumGoroutine") = false) {args : List Value} (hlen : Nat.ble args.length fn.ntmps = true) {r : Value}
    (h : ev Try.prog L fn args = some r) : FSpec Try.prog f [] args r := spec_of_ev (by kernel_rfl) hL hf hnm hlen h

/-! ### The plain functions -/
def one : Nat := 4607182418800017408
def nearS (x : Nat) : Bool := cond (fge x 13920209183539462144) (fle x 4696837146684686336) false
def fineS (a b c : Nat) : Bool := cond (cond (nearS a) (nearS b) false) (nearS c) false
def sameS (a b : Nat) : Bool := cond (cond (!feq a a) true (!feq b b)) (cond (!feq a a) (!feq b b) false) (cond (feq a b) (cond (!feq a 0) true (feq (fdiv one a) (fdiv one b))) false)
def sameVS (a b c d e f : Nat) : Bool := cond (cond (sameS a d) (sameS b e) false) (sameS c f) false
def dotS (a b c d e f : Nat) : Nat := fadd (fadd (fmul a d) (fmul b e)) (fmul c f)
def cleanS (x : Nat) : Nat := cond (cond (fgt x 13740701229962882445) (flt x 4517329193108106637) false) 0 x
def crossX (_a b c _d e f : Nat) : Nat := fsub (fmul b f) (fmul c e)
def lengthS (a b c : Nat) : Nat := fsqrt (dotS a b c a b c)

/-! ### The functions that call no other -/
theorem near8 (x : Nat) : FSpec Try.prog 8 [] [F x] (B (nearS x)) := sp all_nil Try.func8 (by kernel_rfl) rfl (by kernel_rfl)
theorem near9 (x : Nat) : FSpec Try.prog 9 [] [F x] (B (nearS x)) := sp all_nil Try.func9 (by kernel_rfl) rfl (by kernel_rfl)
theorem add13 (a b c d e f : Nat) : FSpec Try.prog 13 [] [V a b c, V d e f] (V (fadd a d) (fadd b e) (fadd c f)) := sp all_nil Try.func13 (by kernel_rfl) rfl (by kernel_rfl)
theorem add14 (a b c d e f : Nat) : FSpec Try.prog 14 [] [V a b c, V d e f] (V (fadd a d) (fadd b e) (fadd c f)) := sp all_nil Try.func14 (by kernel_rfl) rfl (by kernel_rfl)
theorem sub15 (a b c d e f : Nat) : FSpec Try.prog 15 [] [V a b c, V d e f] (V (fsub a d) (fsub b e) (fsub c f)) := sp all_nil Try.func15 (by kernel_rfl) rfl (by kernel_rfl)
theorem sub16 (a b c d e f : Nat) : FSpec Try.prog 16 [] [V a b c, V d e f] (V (fsub a d) (fsub b e) (fsub c f)) := sp all_nil Try.func16 (by kernel_rfl) rfl (by kernel_rfl)
theorem scale17 (a b c k : Nat) : FSpec Try.prog 17 [] [V a b c, F k] (V (fmul a k) (fmul b k) (fmul c k)) := sp all_nil Try.func17 (by kernel_rfl) rfl (by kernel_rfl)
theorem scale18 (a b c k : Nat) : FSpec Try.prog 18 [] [V a b c, F k] (V (fmul a k) (fmul b k) (fmul c k)) := sp all_nil Try.func18 (by kernel_rfl) rfl (by kernel_rfl)
theorem over19 (a b c k : Nat) : FSpec Try.prog 19 [] [V a b c, F k] (V (fdiv a k) (fdiv b k) (fdiv c k)) := sp all_nil Try.func19 (by kernel_rfl) rfl (by kernel_rfl)
theorem over20 (a b c k : Nat) : FSpec Try.prog 20 [] [V a b c, F k] (V (fdiv a k) (fdiv b k) (fdiv c k)) := sp all_nil Try.func20 (by kernel_rfl) rfl (by kernel_rfl)
theorem cond_some' {α : Type} (b : Bool) (x y : α) : cond b (some x) (some y) = some (cond b x y) := by cases b <;> rfl
theorem cond_B (b x y : Bool) : cond b (B x) (B y) = B (cond b x y) := by cases b <;> rfl
theorem cond_F (b : Bool) (x y : Nat) : cond b (F x) (F y) = F (cond b x y) := by cases b <;> rfl
theorem same21 (a b : Nat) : FSpec Try.prog 21 [] [F a, F b] (B (sameS a b)) := by
  refine sp all_nil Try.func21 (by kernel_rfl) rfl ?_
  have h : ev Try.prog [] Try.f21 [F a, F b] = cond (cond (!feq a a) true (!feq b b)) (some (B (cond (!feq a a) (!feq b b) false))) (some (B (cond (feq a b) (cond (!feq a 0) true (feq (fdiv one a) (fdiv one b))) false))) := by kernel_rfl
  rw [h, cond_some', cond_B]
  rfl
theorem dot22 (a b c d e f : Nat) : FSpec Try.prog 22 [] [V a b c, V d e f] (F (dotS a b c d e f)) := sp all_nil Try.func22 (by kernel_rfl) rfl (by kernel_rfl)
theorem cross24 (a b c d e f : Nat) : FSpec Try.prog 24 [] [V a b c, V d e f] (V (fsub (fmul b f) (fmul c e)) (fsub (fmul c d) (fmul a f)) (fsub (fmul a e) (fmul b d))) := sp all_nil Try.func24 (by kernel_rfl) rfl (by kernel_rfl)
theorem times56 (a b : Nat) : FSpec Try.prog 56 [] [F a, F b] (F (fmul a b)) := sp all_nil Try.func56 (by kernel_rfl) rfl (by kernel_rfl)
theorem clean58 (x : Nat) : FSpec Try.prog 58 [] [F x] (F (cleanS x)) := by
  refine sp all_nil Try.func58 (by kernel_rfl) rfl ?_
  have h : ev Try.prog [] Try.f58 [F x] = cond (cond (fgt x 13740701229962882445) (flt x 4517329193108106637) false) (some (F 0)) (some (F x)) := by kernel_rfl
  rw [h, cond_some', cond_F]
  rfl
theorem clean59 (x : Nat) : FSpec Try.prog 59 [] [F x] (F (cleanS x)) := by
  refine sp all_nil Try.func59 (by kernel_rfl) rfl ?_
  have h : ev Try.prog [] Try.f59 [F x] = cond (cond (fgt x 13740701229962882445) (flt x 4517329193108106637) false) (some (F 0)) (some (F x)) := by kernel_rfl
  rw [h, cond_some', cond_F]
  rfl

def L1 : List Entry := [
  (8, eF fun x => B (nearS x)), (9, eF fun x => B (nearS x)),
  (13, eVV fun a b c d e f => V (fadd a d) (fadd b e) (fadd c f)), (14, eVV fun a b c d e f => V (fadd a d) (fadd b e) (fadd c f)),
  (15, eVV fun a b c d e f => V (fsub a d) (fsub b e) (fsub c f)), (16, eVV fun a b c d e f => V (fsub a d) (fsub b e) (fsub c f)),
  (17, eVF fun a b c k => V (fmul a k) (fmul b k) (fmul c k)), (18, eVF fun a b c k => V (fmul a k) (fmul b k) (fmul c k)),
  (19, eVF fun a b c k => V (fdiv a k) (fdiv b k) (fdiv c k)), (20, eVF fun a b c k => V (fdiv a k) (fdiv b k) (fdiv c k)),
  (21, eFF fun a b => B (sameS a b)), (22, eVV fun a b c d e f => F (dotS a b c d e f)),
  (24, eVV fun a b c d e f => V (fsub (fmul b f) (fmul c e)) (fsub (fmul c d) (fmul a f)) (fsub (fmul a e) (fmul b d))),
  (56, eFF fun a b => F (fmul a b)), (58, eF fun x => F (cleanS x)), (59, eF fun x => F (cleanS x)), (68, eF fun x => F (fsqrt x))]

theorem L1_ok : ∀ e, e ∈ L1 → EOk Try.prog e :=
  all_cons (eF_ok near8) <| all_cons (eF_ok near9) <| all_cons (eVV_ok add13) <| all_cons (eVV_ok add14) <| all_cons (eVV_ok sub15) <| all_cons (eVV_ok sub16) <|
  all_cons (eVF_ok scale17) <| all_cons (eVF_ok scale18) <| all_cons (eVF_ok over19) <| all_cons (eVF_ok over20) <| all_cons (eFF_ok same21) <| all_cons (eVV_ok dot22) <|
  all_cons (eVV_ok cross24) <| all_cons (eFF_ok times56) <| all_cons (eF_ok clean58) <| all_cons (eF_ok clean59) <|
  all_cons (sqrt_ok Try.func68 (by kernel_rfl) rfl (by kernel_rfl) (by kernel_rfl)) all_nil

/-! ### The second layer -/
theorem fine10 (a b c : Nat) : FSpec Try.prog 10 [] [V a b c] (B (fineS a b c)) := sp L1_ok Try.func10 (by kernel_rfl) rfl (by kernel_rfl)
theorem fine11 (a b c : Nat) : FSpec Try.prog 11 [] [V a b c] (B (fineS a b c)) := sp L1_ok Try.func11 (by kernel_rfl) rfl (by kernel_rfl)
theorem sameV12 (a b c d e f : Nat) : FSpec Try.prog 12 [] [V a b c, V d e f] (B (sameVS a b c d e f)) := sp L1_ok Try.func12 (by kernel_rfl) rfl (by kernel_rfl)
theorem dot23 (a b c d e f : Nat) : FSpec Try.prog 23 [] [V a b c, V d e f] (F (dotS a b c d e f)) := sp L1_ok Try.func23 (by kernel_rfl) rfl (by kernel_rfl)
theorem cross25 (a b c d e f : Nat) : FSpec Try.prog 25 [] [V a b c, V d e f] (V (fsub (fmul b f) (fmul c e)) (fsub (fmul c d) (fmul a f)) (fsub (fmul a e) (fmul b d))) := sp L1_ok Try.func25 (by kernel_rfl) rfl (by kernel_rfl)
theorem cleanV28 (a b c : Nat) : FSpec Try.prog 28 [] [V a b c] (V (cleanS a) (cleanS b) (cleanS c)) := sp L1_ok Try.func28 (by kernel_rfl) rfl (by kernel_rfl)
theorem cleanV29 (a b c : Nat) : FSpec Try.prog 29 [] [V a b c] (V (cleanS a) (cleanS b) (cleanS c)) := sp L1_ok Try.func29 (by kernel_rfl) rfl (by kernel_rfl)
theorem sqrt57 (x : Nat) : FSpec Try.prog 57 [] [F x] (F (fsqrt x)) := sp L1_ok Try.func57 (by kernel_rfl) rfl (by kernel_rfl)

def L2 : List Entry := (10, eV fun a b c => B (fineS a b c)) :: (11, eV fun a b c => B (fineS a b c)) :: (12, eVV fun a b c d e f => B (sameVS a b c d e f)) :: (23, eVV fun a b c d e f => F (dotS a b c d e f)) ::
  (25, eVV fun a b c d e f => V (fsub (fmul b f) (fmul c e)) (fsub (fmul c d) (fmul a f)) (fsub (fmul a e) (fmul b d))) :: (28, eV fun a b c => V (cleanS a) (cleanS b) (cleanS c)) :: (29, eV fun a b c => V (cleanS a) (cleanS b) (cleanS c)) ::
  (57, eF fun x => F (fsqrt x)) :: L1
theorem L2_ok : ∀ e, e ∈ L2 → EOk Try.prog e :=
  all_cons (eV_ok fine10) <| all_cons (eV_ok fine11) <| all_cons (eVV_ok sameV12) <| all_cons (eVV_ok dot23) <| all_cons (eVV_ok cross25) <| all_cons (eV_ok cleanV28) <| all_cons (eV_ok cleanV29) <| all_cons (eF_ok sqrt57) L1_ok

end Go.Proofs.Ytnlfeocapnefeaa
