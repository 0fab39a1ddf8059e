/-
  The contracts of package shape on edges: where a point is for a ray, on which side of an edge it goes by, whether its edges say that it goes through a triangle.
-/
import Derived.Test.YtiagpcjonaahlaaGreatShE
import Derived.Test.YtiagpcjonaahlaaGreatSlab
namespace Go.Proofs.YtiagpcjonaahlaaGreat
open Go.Ev

theorem sp3 [Tok] {L : List Entry} {M : List MEntry} {K : List KEntry} (hL : ∀ e, e ∈ L → EOk Tryz.prog e) (hM : ∀ e, e ∈ M → MOk Tryz.prog e) (hK : ∀ e, e ∈ K → KOk Tryz.prog e) {f : Nat} {fn : Func} (hf : Tryz.prog.funcs[f]? = some fn) (hnm : (fn.name == "runtime.NumGoroutine") = false) {args : List Value} (hlen : Nat.ble args.length fn.ntmps = true) {r : Value}
    (h : ev3 Tryz.prog [] L M K fn args = some r) : FSpec Tryz.prog f [] args r := spec_of_ev3 (by kernel_rfl) (fun e he => (hL e he).over []) hM hK hf hnm hlen h

theorem eabs [Tok] (a : Nat) : FSpec Tryz.prog 102 [] [F a] (F (fabs a)) :=
  abs_spec Tryz.func102 (by kernel_rfl) Tryz.func115 (by kernel_rfl) (by kernel_rfl) (by kernel_rfl) (by kernel_rfl) Tryz.func114 (by kernel_rfl) (by kernel_rfl) (by kernel_rfl) (by kernel_rfl) rfl rfl rfl rfl rfl rfl rfl rfl rfl rfl rfl rfl rfl rfl rfl rfl rfl rfl rfl rfl rfl a
theorem vsub [Tok] (a b c d e f : Nat) : FSpec Tryz.prog 147 [] [V a b c, V d e f] (V (fsub a d) (fsub b e) (fsub c f)) := sp all_nil Tryz.func147 (by kernel_rfl) rfl (by kernel_rfl)
theorem enumbers [Tok] (a b c : Nat) : FSpec Tryz.prog 164 [] [V a b c] (V a b c) := sp all_nil Tryz.func164 (by kernel_rfl) rfl (by kernel_rfl)
theorem eedge [Tok] (a b c d e f : Nat) : FSpec Tryz.prog 165 [] [V a b c, V d e f] (F (fsub (fmul a e) (fmul b d))) := sp all_nil Tryz.func165 (by kernel_rfl) rfl (by kernel_rfl)
theorem esum [Tok] (a b c : Nat) : FSpec Tryz.prog 163 [] [V a b c] (F (fadd (fadd a b) c)) := sp all_nil Tryz.func163 (by kernel_rfl) rfl (by kernel_rfl)
def E1 [Tok] : List Entry := (102, eF fun a => F (fabs a)) :: (147, eVV fun a b c d e f => V (fsub a d) (fsub b e) (fsub c f)) :: (164, eV fun a b c => V a b c) :: (165, eVV fun a b _ d e _ => F (fsub (fmul a e) (fmul b d))) :: (163, eV fun a b c => F (fadd (fadd a b) c)) :: S3
theorem E1_ok [Tok] : ∀ e, e ∈ E1 → EOk Tryz.prog e := all_cons (eF_ok eabs) <| all_cons (eVV_ok vsub) <| all_cons (eV_ok enumbers) <| all_cons (eVV_ok eedge) <| all_cons (eV_ok esum) S3_ok

theorem ethrough [Tok] (u v w : Nat) : FSpec Tryz.prog 162 [] [V u v w] (B (thr u v w)) := sp E1_ok Tryz.func162 (by kernel_rfl) rfl (by kernel_rfl)
theorem eedges [Tok] (i j k a b c d e f : Nat) : FSpec Tryz.prog 161 [] [V i j k, V a b c, V d e f] (V (fsub (fmul a e) (fmul b d)) (fsub (fmul d j) (fmul e i)) (fsub (fmul i b) (fmul j a))) := sp E1_ok Tryz.func161 (by kernel_rfl) rfl (by kernel_rfl)
theorem elook [Tok] (r : Nat → Nat) : FSpec Tryz.prog 159 [] [RY r] (LK r (zS r)) := by
  refine sp E1_ok Tryz.func159 (by kernel_rfl) rfl ?_
  have h : ev Tryz.prog E1 Tryz.f159 [RY r] = cond (fgt (fabs (r 3)) (fabs (r 3))) (cond (fgt (fabs (r 4)) (fabs (r 3))) (cond (fgt (fabs (r 5)) (fabs (r 4))) (some (LK r 2)) (some (LK r 1))) (cond (fgt (fabs (r 5)) (fabs (r 3))) (some (LK r 2)) (some (LK r 0))))
      (cond (fgt (fabs (r 4)) (fabs (r 3))) (cond (fgt (fabs (r 5)) (fabs (r 4))) (some (LK r 2)) (some (LK r 1))) (cond (fgt (fabs (r 5)) (fabs (r 3))) (some (LK r 2)) (some (LK r 0)))) := by kernel_rfl
  rw [h]
  unfold zS is2 is1 gt12
  cases fgt (fabs (r 3)) (fabs (r 3)) <;> cases fgt (fabs (r 4)) (fabs (r 3)) <;> simp only [cond_true, cond_false]
  · cases fgt (fabs (r 5)) (fabs (r 3)) <;> rfl
  · cases fgt (fabs (r 5)) (fabs (r 4)) <;> rfl
  · cases fgt (fabs (r 5)) (fabs (r 3)) <;> rfl
  · cases fgt (fabs (r 5)) (fabs (r 4)) <;> rfl
theorem eplace2 [Tok] (r : Nat → Nat) (a b c : Nat) : FSpec Tryz.prog 160 [] [LK r 2, V a b c] (plV 2 r (v3 a b c)) := sp E1_ok Tryz.func160 (by kernel_rfl) rfl (by kernel_rfl)
theorem eplace1 [Tok] (r : Nat → Nat) (a b c : Nat) : FSpec Tryz.prog 160 [] [LK r 1, V a b c] (plV 1 r (v3 a b c)) := sp E1_ok Tryz.func160 (by kernel_rfl) rfl (by kernel_rfl)
theorem eplace0 [Tok] (r : Nat → Nat) (a b c : Nat) : FSpec Tryz.prog 160 [] [LK r 0, V a b c] (plV 0 r (v3 a b c)) := sp E1_ok Tryz.func160 (by kernel_rfl) rfl (by kernel_rfl)
def E2 [Tok] : List Entry := (162, eV fun u v w => B (thr u v w)) :: (161, pe (eVVV0 fun p q s => V (fsub (fmul (q 0) (s 1)) (fmul (q 1) (s 0))) (fsub (fmul (s 0) (p 1)) (fmul (s 1) (p 0))) (fsub (fmul (p 0) (q 1)) (fmul (p 1) (q 0))))) :: (160, pe eLV0) :: E1
theorem E2_ok [Tok] : ∀ e, e ∈ E2 → EOk Tryz.prog e := all_cons (eV_ok ethrough) <| all_cons (eVVV_ok eedges) <| all_cons (eLV_ok eplace2 eplace1 eplace0) E1_ok
end Go.Proofs.YtiagpcjonaahlaaGreat
