/-
  The document's answer on edges; and what the law ShapeEdges gives.
-/
import Derived.Test.YtfiihlgnbhcpeabEdg
namespace Go.Proofs.Ytfiihlgnbhcpeab
open Go.Ev

theorem rnear [Tok] (x : Nat) : FSpec Try.prog 70 [] [F x] (B (nearS x)) := sp all_nil Try.func70 (by kernel_rfl) rfl (by kernel_rfl)
theorem rcleanN [Tok] (x : Nat) : FSpec Try.prog 71 [] [F x] (F (cleanS x)) := by
  refine sp all_nil Try.func71 (by kernel_rfl) rfl ?_
  have h : ev Try.prog [] Try.f71 [F x] = cond (cond (fgt x 13740701229962882445) (flt x 4517329193108106637) false) (some (F 0)) (some (F x)) := by kernel_rfl
  rw [h, cond_some', cond_F]
  rfl
theorem rtimes [Tok] (a b : Nat) : FSpec Try.prog 79 [] [F a, F b] (F (fmul a b)) := sp all_nil Try.func79 (by kernel_rfl) rfl (by kernel_rfl)
theorem rsub [Tok] (a b c d e f : Nat) : FSpec Try.prog 105 [] [V a b c, V d e f] (V (fsub a d) (fsub b e) (fsub c f)) := sp all_nil Try.func105 (by kernel_rfl) rfl (by kernel_rfl)
theorem rsame [Tok] (a b : Nat) : FSpec Try.prog 15 [] [F a, F b] (B (sameS a b)) := by
  refine sp all_nil Try.func15 (by kernel_rfl) rfl ?_
  have h : ev Try.prog [] Try.f15 [F a, F b] = cond (cond (!feq a a) true (!feq b b)) (some (B (cond (!feq a a) (!feq b b) false))) (some (B (cond (feq a b) (cond (!feq a 0) true (feq (fdiv one a) (fdiv one b))) false))) := by kernel_rfl
  rw [h, cond_some', cond_B]
  rfl
def R1 [Tok] (P : Program) (f66 : Func) : List Entry := (70, eF fun x => B (nearS x)) :: (71, eF fun x => F (cleanS x)) :: (79, eFF fun a b => F (fmul a b)) :: (105, eVV fun a b c d e f => V (fsub a d) (fsub b e) (fsub c f)) :: (15, eFF fun a b => B (sameS a b)) :: (66, inl P [] f66) :: E3
theorem R1_ok [Tok] : ∀ e, e ∈ R1 Try.prog Try.f66 → EOk Try.prog e := all_cons (eF_ok rnear) <| all_cons (eF_ok rcleanN) <| all_cons (eFF_ok rtimes) <| all_cons (eVV_ok rsub) <| all_cons (eFF_ok rsame) <|
  all_cons (inl_ok (by kernel_rfl) all_nil Try.func66 (by kernel_rfl)) E3_ok
theorem rfineV [Tok] (a b c : Nat) : FSpec Try.prog 44 [] [V a b c] (B (fineS a b c)) := sp R1_ok Try.func44 (by kernel_rfl) rfl (by kernel_rfl)
theorem rdeep [Tok] (a b c : Nat) : FSpec Try.prog 104 [] [V a b c] (I ((zS (dirR a b c) : Nat) : Int)) := by
  refine sp R1_ok Try.func104 (by kernel_rfl) rfl ?_
  have h : ev Try.prog (R1 Try.prog Try.f66) Try.f104 [V a b c] = (cond (fgt (fabs b) (fabs a)) (cond (fgt (fabs c) (fabs b)) (some (I 2)) (some (I 1))) (cond (fgt (fabs c) (fabs a)) (some (I 2)) (some (I 0)))) := by kernel_rfl
  rw [h]
  show cond (gt12 (dirR a b c)) _ _ = _
  unfold zS is2 is1
  cases gt12 (dirR a b c) <;> simp only [cond_true, cond_false]
  · show cond (fgt (fabs c) (fabs a)) _ _ = some (I ((cond (fgt (fabs c) (fabs a)) 2 0 : Nat) : Int))
    cases fgt (fabs c) (fabs a) <;> rfl
  · show cond (fgt (fabs c) (fabs b)) _ _ = some (I ((cond (fgt (fabs c) (fabs b)) 2 1 : Nat) : Int))
    cases fgt (fabs c) (fabs b) <;> rfl
def R2 [Tok] (P : Program) (f66 : Func) : List Entry := (44, eV fun a b c => B (fineS a b c)) :: R1 P f66
theorem R2_ok [Tok] : ∀ e, e ∈ R2 Try.prog Try.f66 → EOk Try.prog e := all_cons (eV_ok rfineV) R1_ok
theorem rrfine [Tok] (r : Nat → Nat) : FSpec Try.prog 30 [] [RY r] (I (rayS r)) := by
  refine sp R2_ok Try.func30 (by kernel_rfl) rfl ?_
  have h : ev Try.prog (R2 Try.prog Try.f66) Try.f30 [RY r] = cond (rayF r) (some (I 1)) (cond (cond (cond (feq (r 3) 0) (feq (r 4) 0) false) (feq (r 5) 0) false) (some (I 2))
    (cond (!feq (r 3) (cleanS (r 3))) (some (I 1)) (cond (!feq (r 4) (cleanS (r 4))) (some (I 1)) (cond (!feq (r 5) (cleanS (r 5))) (some (I 1)) (cond (flt (r 6) 0) (some (I 6)) (some (I 0))))))) := by kernel_rfl
  rw [h]
  unfold rayS rayZ rayC
  cases rayF r <;> cases feq (r 3) 0 <;> cases feq (r 4) 0 <;> cases feq (r 5) 0 <;> cases feq (r 3) (cleanS (r 3)) <;> cases feq (r 4) (cleanS (r 4)) <;> cases feq (r 5) (cleanS (r 5)) <;> cases flt (r 6) 0 <;> rfl
def K2 [Tok] : List KEntry := (104, kDeep) :: []
theorem K2_ok [Tok] : ∀ e, e ∈ K2 → KOk Try.prog e := kall_cons (kDeep_ok rdeep) kall_nil
theorem zS_dir (r : Nat → Nat) : zS (dirR (r 3) (r 4) (r 5)) = zS r := rfl
theorem rplace [Tok] (r : Nat → Nat) (a b c : Nat) : FSpec Try.prog 78 [] [RY r, V a b c] (V (qX r (v3 a b c)) (qY r (v3 a b c)) (qZ r (v3 a b c))) := by
  refine sp3 R2_ok mall_nil K2_ok Try.func78 (by kernel_rfl) rfl ?_
  have h : ev3 Try.prog [] (R2 Try.prog Try.f66) [] K2 Try.f78 [RY r, V a b c] = by3 (dirR (r 3) (r 4) (r 5)) fun z => some (plV z r (v3 a b c)) := by kernel_rfl
  rw [h, by3_eq, zS_dir, plV_q]
def eYV0 (g : (Nat → Nat) → (Nat → Nat) → Value) : List Value → Option Value
  | [x, y] => match asY x, asV y with
    | some r, some (a, b, c) => some (g r (v3 a b c))
    | _, _ => none
  | _ => none
theorem eYV_ok [Tok] {P : Program} {f : Nat} {g : (Nat → Nat) → (Nat → Nat) → Value} (h : ∀ r a b c, FSpec P f [] [RY r, V a b c] (g r (v3 a b c))) : EOk P (f, pe (eYV0 g)) := by
  refine pe_ok fun args r hr => ?_
  simp only [eYV0] at hr
  split at hr
  · split at hr
    · rename_i m a b c hm hv
      cases hr; rw [asY_some hm, asV_some hv]; exact Or.inl (h m a b c)
    · cases hr
  · cases hr
def R3 [Tok] (P : Program) (f66 : Func) : List Entry := (30, pe (eY0 fun r => I (rayS r))) :: (78, pe (eYV0 fun r g => V (qX r g) (qY r g) (qZ r g))) :: R2 P f66
theorem R3_ok [Tok] : ∀ e, e ∈ R3 Try.prog Try.f66 → EOk Try.prog e := all_cons (eY_ok rrfine) <| all_cons (eYV_ok rplace) R2_ok
theorem rside [Tok] (r : Nat → Nat) (a b c d e f : Nat) : FSpec Try.prog 45 [] [RY r, V a b c, V d e f] (F (sdS r (v3 a b c) (v3 d e f))) := by
  rw [← sdS_q]
  exact sp R3_ok Try.func45 (by kernel_rfl) rfl (by kernel_rfl)
def R4 [Tok] (P : Program) (f66 : Func) : List Entry := (45, pe (eYVV0 fun r p q => F (sdS r p q))) :: R3 P f66
theorem R4_ok [Tok] : ∀ e, e ∈ R4 Try.prog Try.f66 → EOk Try.prog e := all_cons (eYVV_ok rside) R3_ok
theorem rEdge [Tok] (r : Nat → Nat) (a b c d e f : Nat) : FSpec Try.prog 14 [] [RY r, V a b c, V d e f] (edgeV r (v3 a b c) (v3 d e f)) := by
  refine sp R4_ok Try.func14 (by kernel_rfl) rfl ?_
  have h : ev Try.prog (R4 Try.prog Try.f66) Try.f14 [RY r, V a b c, V d e f] =
      cond (!(rayS r == 0)) (some (.tuple #[F 0, I (rayS r)])) (cond (cond (!fineP (v3 a b c)) true (!fineP (v3 d e f))) (some (.tuple #[F 0, I 1])) (some (.tuple #[F (sdS r (v3 a b c) (v3 d e f)), I 0]))) := by kernel_rfl
  rw [h]
  unfold edgeV edgeF pass2
  cases hr : rayS r == 0
  · simp only [Bool.not_false, cond_true, hr]
  · cases fineP (v3 a b c)
    · rfl
    · cases fineP (v3 d e f) <;> rfl
def R5 [Tok] (P : Program) (f66 : Func) : List Entry := (14, pe (eYVV0 edgeV)) :: R4 P f66
theorem R5_ok [Tok] : ∀ e, e ∈ R5 Try.prog Try.f66 → EOk Try.prog e := all_cons (eYVV_ok rEdge) R4_ok
theorem rThrough [Tok] (r : Nat → Nat) (a b c d e f x y z : Nat) : FSpec Try.prog 17 [] [RY r, V a b c, V d e f, V x y z] (thruV r (v3 a b c) (v3 d e f) (v3 x y z)) := by
  refine sp R5_ok Try.func17 (by kernel_rfl) rfl ?_
  have h : ev Try.prog (R5 Try.prog Try.f66) Try.f17 [RY r, V a b c, V d e f, V x y z] =
      cond (!(pass2 r (v3 a b c) (v3 d e f) == 0)) (some (.tuple #[B false, I (pass2 r (v3 a b c) (v3 d e f))])) (cond (!fineP (v3 x y z)) (some (.tuple #[B false, I 1]))
        (some (.tuple #[B (thr (sdS r (v3 d e f) (v3 x y z)) (sdS r (v3 x y z) (v3 a b c)) (sdS r (v3 a b c) (v3 d e f))), I 0]))) := by kernel_rfl
  rw [h]
  unfold thruV thruB pass3 pass2
  cases hr : rayS r == 0
  · simp only [Bool.not_false, cond_true, hr]
  · cases fineP (v3 a b c)
    · rfl
    · cases fineP (v3 d e f)
      · rfl
      · cases fineP (v3 x y z) <;> rfl
def R6 [Tok] (P : Program) (f66 : Func) : List Entry := (17, pe (eYVVV0 thruV)) :: R5 P f66
theorem R6_ok [Tok] : ∀ e, e ∈ R6 Try.prog Try.f66 → EOk Try.prog e := all_cons (eYVVV_ok rThrough) R5_ok
theorem edges_law [Tok] (r : Nat → Nat) (a b c d e f x y z : Nat) : FSpec Try.prog 4 [] [RY r, V a b c, V d e f, V x y z] (B true) := by
  refine sp R6_ok Try.func4 (by kernel_rfl) rfl ?_
  have h : ev Try.prog (R6 Try.prog Try.f66) Try.f4 [RY r, V a b c, V d e f, V x y z] =
      cond (cond (!(pass2 r (v3 a b c) (v3 d e f) == pass2 r (v3 a b c) (v3 d e f))) true (!sameS (edgeF r (v3 a b c) (v3 d e f)) (edgeF r (v3 a b c) (v3 d e f)))) (some (B false))
        (some (B (cond (thruB r (v3 a b c) (v3 d e f) (v3 x y z) == thruB r (v3 a b c) (v3 d e f) (v3 x y z)) (pass3 r (v3 a b c) (v3 d e f) (v3 x y z) == pass3 r (v3 a b c) (v3 d e f) (v3 x y z)) false))) := by kernel_rfl
  rw [h, sameS_self]
  simp

end Go.Proofs.Ytfiihlgnbhcpeab
