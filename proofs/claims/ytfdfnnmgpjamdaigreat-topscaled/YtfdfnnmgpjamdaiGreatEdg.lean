/-
  The contracts of package shape on edges: where a point is for a ray, on which side of an edge it goes by, whether it goes through a triangle.
-/
import Derived.Test.YtfdfnnmgpjamdaiGreatShE
import Derived.Test.YtfdfnnmgpjamdaiGreatSlab
namespace Go.Proofs.YtfdfnnmgpjamdaiGreat
open Go.Ev

theorem sp3 [Tok] {L : List Entry} {M : List MEntry} {K : List KEntry} (hL : ∀ e, e ∈ L → EOk Tryz.prog e) (hM : ∀ e, e ∈ M → MOk Tryz.prog e) (hK : ∀ e, e ∈ K → KOk Tryz.prog e) {f : Nat} {fn : Func} (hf : Tryz.prog.funcs[f]? = some fn) (hnm : (fn.name == "runtime.NumGoroutine") = false) {args : List Value} (hlen : Nat.ble args.length fn.ntmps = true) {r : Value}
    (h : ev3 Tryz.prog [] L M K fn args = some r) : FSpec Tryz.prog f [] args r := spec_of_ev3 (by kernel_rfl) (fun e he => (hL e he).over []) hM hK hf hnm hlen h

theorem eabs [Tok] (a : Nat) : FSpec Tryz.prog 63 [] [F a] (F (fabs a)) :=
  abs_spec Tryz.func63 (by kernel_rfl) Tryz.func81 (by kernel_rfl) (by kernel_rfl) (by kernel_rfl) (by kernel_rfl) Tryz.func80 (by kernel_rfl) (by kernel_rfl) (by kernel_rfl) (by kernel_rfl) rfl rfl rfl rfl rfl rfl rfl rfl rfl rfl rfl rfl rfl rfl rfl rfl rfl rfl rfl rfl rfl a
theorem vsub [Tok] (a b c d e f : Nat) : FSpec Tryz.prog 64 [] [V a b c, V d e f] (V (fsub a d) (fsub b e) (fsub c f)) := sp all_nil Tryz.func64 (by kernel_rfl) rfl (by kernel_rfl)
theorem enumbers [Tok] (a b c : Nat) : FSpec Tryz.prog 62 [] [V a b c] (V a b c) := sp all_nil Tryz.func62 (by kernel_rfl) rfl (by kernel_rfl)
theorem eedge [Tok] (a b c d e f : Nat) : FSpec Tryz.prog 35 [] [V a b c, V d e f] (F (fsub (fmul a e) (fmul b d))) := sp all_nil Tryz.func35 (by kernel_rfl) rfl (by kernel_rfl)
theorem esum [Tok] (a b c : Nat) : FSpec Tryz.prog 65 [] [V a b c] (F (fadd (fadd a b) c)) := sp all_nil Tryz.func65 (by kernel_rfl) rfl (by kernel_rfl)
def E1 [Tok] : List Entry := (63, eF fun a => F (fabs a)) :: (64, eVV fun a b c d e f => V (fsub a d) (fsub b e) (fsub c f)) :: (62, eV fun a b c => V a b c) :: (35, eVV fun a b _ d e _ => F (fsub (fmul a e) (fmul b d))) :: (65, eV fun a b c => F (fadd (fadd a b) c)) :: S3
theorem E1_ok [Tok] : ∀ e, e ∈ E1 → EOk Tryz.prog e := all_cons (eF_ok eabs) <| all_cons (eVV_ok vsub) <| all_cons (eV_ok enumbers) <| all_cons (eVV_ok eedge) <| all_cons (eV_ok esum) S3_ok

theorem ethrough [Tok] (u v w : Nat) : FSpec Tryz.prog 38 [] [V u v w] (B (thr u v w)) := sp E1_ok Tryz.func38 (by kernel_rfl) rfl (by kernel_rfl)
theorem eedges [Tok] (i j k a b c d e f : Nat) : FSpec Tryz.prog 37 [] [V i j k, V a b c, V d e f] (V (fsub (fmul a e) (fmul b d)) (fsub (fmul d j) (fmul e i)) (fsub (fmul i b) (fmul j a))) := sp E1_ok Tryz.func37 (by kernel_rfl) rfl (by kernel_rfl)
theorem elook [Tok] (r : Nat → Nat) : FSpec Tryz.prog 34 [] [RY r] (LK r (zS r)) := by
  refine sp E1_ok Tryz.func34 (by kernel_rfl) rfl ?_
  have h : ev Tryz.prog E1 Tryz.f34 [RY r] = cond (fgt (fabs (r 3)) (fabs (r 3))) (cond (fgt (fabs (r 4)) (fabs (r 3))) (cond (fgt (fabs (r 5)) (fabs (r 4))) (some (LK r 2)) (some (LK r 1))) (cond (fgt (fabs (r 5)) (fabs (r 3))) (some (LK r 2)) (some (LK r 0))))
      (cond (fgt (fabs (r 4)) (fabs (r 3))) (cond (fgt (fabs (r 5)) (fabs (r 4))) (some (LK r 2)) (some (LK r 1))) (cond (fgt (fabs (r 5)) (fabs (r 3))) (some (LK r 2)) (some (LK r 0)))) := by kernel_rfl
  rw [h]
  unfold zS is2 is1 gt12
  cases fgt (fabs (r 3)) (fabs (r 3)) <;> cases fgt (fabs (r 4)) (fabs (r 3)) <;> simp only [cond_true, cond_false]
  · cases fgt (fabs (r 5)) (fabs (r 3)) <;> rfl
  · cases fgt (fabs (r 5)) (fabs (r 4)) <;> rfl
  · cases fgt (fabs (r 5)) (fabs (r 3)) <;> rfl
  · cases fgt (fabs (r 5)) (fabs (r 4)) <;> rfl
theorem eplace2 [Tok] (r : Nat → Nat) (a b c : Nat) : FSpec Tryz.prog 36 [] [LK r 2, V a b c] (plV 2 r (v3 a b c)) := sp E1_ok Tryz.func36 (by kernel_rfl) rfl (by kernel_rfl)
theorem eplace1 [Tok] (r : Nat → Nat) (a b c : Nat) : FSpec Tryz.prog 36 [] [LK r 1, V a b c] (plV 1 r (v3 a b c)) := sp E1_ok Tryz.func36 (by kernel_rfl) rfl (by kernel_rfl)
theorem eplace0 [Tok] (r : Nat → Nat) (a b c : Nat) : FSpec Tryz.prog 36 [] [LK r 0, V a b c] (plV 0 r (v3 a b c)) := sp E1_ok Tryz.func36 (by kernel_rfl) rfl (by kernel_rfl)
def E2 [Tok] : List Entry := (38, eV fun u v w => B (thr u v w)) :: (37, pe (eVVV0 fun p q s => V (fsub (fmul (q 0) (s 1)) (fmul (q 1) (s 0))) (fsub (fmul (s 0) (p 1)) (fmul (s 1) (p 0))) (fsub (fmul (p 0) (q 1)) (fmul (p 1) (q 0))))) :: (36, pe eLV0) :: E1
theorem E2_ok [Tok] : ∀ e, e ∈ E2 → EOk Tryz.prog e := all_cons (eV_ok ethrough) <| all_cons (eVVV_ok eedges) <| all_cons (eLV_ok eplace2 eplace1 eplace0) E1_ok
def K1 [Tok] (P : Program) (f23 : Func) : List KEntry := (34, kLook) :: (33, inlK P E1 [] [] f23) :: []
theorem K1_ok [Tok] : ∀ e, e ∈ K1 Tryz.prog Tryz.f33 → KOk Tryz.prog e := kall_cons (kLook_ok elook) <| kall_cons (inlK_ok (by kernel_rfl) E1_ok mall_nil kall_nil Tryz.func33 (by kernel_rfl)) kall_nil

theorem eEdge [Tok] (r : Nat → Nat) (a b c d e f : Nat) : FSpec Tryz.prog 13 [] [RY r, V a b c, V d e f] (edgeV r (v3 a b c) (v3 d e f)) := by
  refine sp3 E2_ok mall_nil K1_ok Tryz.func13 (by kernel_rfl) rfl ?_
  have h : ev3 Tryz.prog [] E2 [] (K1 Tryz.prog Tryz.f33) Tryz.f13 [RY r, V a b c, V d e f] =
      cond (!(rayS r == 0)) (cond (!(rayS r == 0)) (some (.tuple #[F 0, I (rayS r)])) (by3 r fun z => some (.tuple #[F (sd z r (v3 a b c) (v3 d e f)), I 0])))
      (cond (!fineS a b c) (some (.tuple #[F 0, I 1])) (cond (!fineS d e f) (some (.tuple #[F 0, I 1])) (by3 r fun z => some (.tuple #[F (sd z r (v3 a b c) (v3 d e f)), I 0])))) := by kernel_rfl
  rw [h, by3_eq]
  simp only [sdS_z]
  unfold edgeV edgeF pass2
  cases hr : rayS r == 0
  · simp only [Bool.not_false, cond_true, hr]
  · show cond (!fineP (v3 a b c)) _ (cond (!fineP (v3 d e f)) _ _) = _
    cases fineP (v3 a b c)
    · rfl
    · cases fineP (v3 d e f) <;> rfl
theorem eThrough [Tok] (r : Nat → Nat) (a b c d e f x y z : Nat) : FSpec Tryz.prog 14 [] [RY r, V a b c, V d e f, V x y z] (thruV r (v3 a b c) (v3 d e f) (v3 x y z)) := by
  refine sp3 E2_ok mall_nil K1_ok Tryz.func14 (by kernel_rfl) rfl ?_
  have h : ev3 Tryz.prog [] E2 [] (K1 Tryz.prog Tryz.f33) Tryz.f14 [RY r, V a b c, V d e f, V x y z] =
      cond (!(rayS r == 0)) (cond (!(rayS r == 0)) (some (.tuple #[B false, I (rayS r)])) (by3 r fun k => some (.tuple #[B (thr (sd k r (v3 d e f) (v3 x y z)) (sd k r (v3 x y z) (v3 a b c)) (sd k r (v3 a b c) (v3 d e f))), I 0])))
      (cond (!fineS a b c) (some (.tuple #[B false, I 1])) (cond (!fineS d e f) (some (.tuple #[B false, I 1])) (cond (!fineS x y z) (some (.tuple #[B false, I 1]))
        (by3 r fun k => some (.tuple #[B (thr (sd k r (v3 d e f) (v3 x y z)) (sd k r (v3 x y z) (v3 a b c)) (sd k r (v3 a b c) (v3 d e f))), I 0]))))) := by kernel_rfl
  rw [h, by3_eq]
  simp only [sdS_z]
  unfold thruV thruB pass3
  cases hr : rayS r == 0
  · simp only [Bool.not_false, cond_true, hr]
  · show cond (!fineP (v3 a b c)) _ (cond (!fineP (v3 d e f)) _ (cond (!fineP (v3 x y z)) _ _)) = _
    cases fineP (v3 a b c)
    · rfl
    · cases fineP (v3 d e f)
      · rfl
      · cases fineP (v3 x y z) <;> rfl
def E3 [Tok] : List Entry := (13, pe (eYVV0 edgeV)) :: (14, pe (eYVVV0 thruV)) :: E2
theorem E3_ok [Tok] : ∀ e, e ∈ E3 → EOk Tryz.prog e := all_cons (eYVV_ok eEdge) <| all_cons (eYVVV_ok eThrough) E2_ok

end Go.Proofs.YtfdfnnmgpjamdaiGreat
