/-
  The closed fact 'strikes': a ray that goes right at a ball, a box and a triangle strikes them.
-/
import Derived.Test.YtfiihlgnbhcpeaiGreatEdg
import Derived.Test.YtfiihlgnbhcpeaiGreatMeet
namespace Go.Proofs.YtfiihlgnbhcpeaiGreat
open Go.Ev

theorem vadd [Tok] (a b c d e f : Nat) : FSpec Tryz.prog 45 [] [V a b c, V d e f] (V (fadd a d) (fadd b e) (fadd c f)) := sp all_nil Tryz.func45 (by kernel_rfl) rfl (by kernel_rfl)
theorem vdot [Tok] (a b c d e f : Nat) : FSpec Tryz.prog 46 [] [V a b c, V d e f] (F (dotS a b c d e f)) := sp all_nil Tryz.func46 (by kernel_rfl) rfl (by kernel_rfl)
def A0 : List Entry := [(83, eF fun x => F (fsqrt x))]
theorem A0_ok [Tok] : ∀ e, e ∈ A0 → EOk Tryz.prog e := all_cons (sqrt_ok Tryz.func83 (by kernel_rfl) rfl (by kernel_rfl) (by kernel_rfl)) all_nil
theorem msqrt [Tok] (x : Nat) : FSpec Tryz.prog 82 [] [F x] (F (fsqrt x)) := sp A0_ok Tryz.func82 (by kernel_rfl) rfl (by kernel_rfl)
def A1 [Tok] : List Entry := (45, eVV fun a b c d e f => V (fadd a d) (fadd b e) (fadd c f)) :: (46, eVV fun a b c d e f => F (dotS a b c d e f)) :: (82, eF fun x => F (fsqrt x)) :: (19, pe (eBY0 meetV)) :: E3
theorem A1_ok [Tok] : ∀ e, e ∈ A1 → EOk Tryz.prog e := all_cons (eVV_ok vadd) <| all_cons (eVV_ok vdot) <| all_cons (eF_ok msqrt) <| all_cons (eBY_ok smeets) E3_ok

def A2 [Tok] (P : Program) (f79 f58 : Func) : List Entry := (79, inl P A1 f79) :: (58, inl P A1 f58) :: A1
theorem A2_ok [Tok] : ∀ e, e ∈ A2 Tryz.prog Tryz.f79 Tryz.f58 → EOk Tryz.prog e := all_cons (inl_ok (by kernel_rfl) A1_ok Tryz.func79 (by kernel_rfl)) <| all_cons (inl_ok (by kernel_rfl) A1_ok Tryz.func58 (by kernel_rfl)) A1_ok
def A3 [Tok] (P : Program) (f79 f58 f75 : Func) : List Entry := (75, inl P (A2 P f79 f58) f75) :: A2 P f79 f58
theorem A3_ok [Tok] : ∀ e, e ∈ A3 Tryz.prog Tryz.f79 Tryz.f58 Tryz.f75 → EOk Tryz.prog e := all_cons (inl_ok (by kernel_rfl) A2_ok Tryz.func75 (by kernel_rfl)) A2_ok

def C0 [Tok] (P : Program) (L : List Entry) (f81 f76 : Func) : List KEntry := (81, inlK P L [] [] f81) :: (76, inlK P L [] [] f76) :: []
def C1 [Tok] (P : Program) (L : List Entry) (f81 f76 f80 : Func) : List KEntry := (80, inlK P L [] (C0 P L f81 f76) f80) :: C0 P L f81 f76
def C2 [Tok] (P : Program) (L : List Entry) (f81 f76 f80 f78 f53 : Func) : List KEntry := (78, inlK P L [] (C1 P L f81 f76 f80) f78) :: (53, inlK P L [] (C1 P L f81 f76 f80) f53) :: C1 P L f81 f76 f80
def C3 [Tok] (P : Program) (L : List Entry) (f81 f76 f80 f78 f53 f34 f35 : Func) : List KEntry := (34, inlK P L [] (C2 P L f81 f76 f80 f78 f53) f34) :: (35, inlK P L [] (C2 P L f81 f76 f80 f78 f53) f35) :: C2 P L f81 f76 f80 f78 f53
def C4 [Tok] (P : Program) (L : List Entry) (f81 f76 f80 f78 f53 f34 f35 f13 : Func) : List KEntry := (13, inlK P L [] (C3 P L f81 f76 f80 f78 f53 f34 f35) f13) :: C3 P L f81 f76 f80 f78 f53 f34 f35
section
variable [Tok] {L : List Entry} (hL : ∀ e, e ∈ L → EOk Tryz.prog e)
include hL
theorem C0_ok : ∀ e, e ∈ C0 Tryz.prog L Tryz.f81 Tryz.f76 → KOk Tryz.prog e := kall_cons (inlK_ok (by kernel_rfl) hL mall_nil kall_nil Tryz.func81 (by kernel_rfl)) <| kall_cons (inlK_ok (by kernel_rfl) hL mall_nil kall_nil Tryz.func76 (by kernel_rfl)) kall_nil
theorem C1_ok : ∀ e, e ∈ C1 Tryz.prog L Tryz.f81 Tryz.f76 Tryz.f80 → KOk Tryz.prog e := kall_cons (inlK_ok (by kernel_rfl) hL mall_nil (C0_ok hL) Tryz.func80 (by kernel_rfl)) (C0_ok hL)
theorem C2_ok : ∀ e, e ∈ C2 Tryz.prog L Tryz.f81 Tryz.f76 Tryz.f80 Tryz.f78 Tryz.f53 → KOk Tryz.prog e := kall_cons (inlK_ok (by kernel_rfl) hL mall_nil (C1_ok hL) Tryz.func78 (by kernel_rfl)) <| kall_cons (inlK_ok (by kernel_rfl) hL mall_nil (C1_ok hL) Tryz.func53 (by kernel_rfl)) (C1_ok hL)
theorem C3_ok : ∀ e, e ∈ C3 Tryz.prog L Tryz.f81 Tryz.f76 Tryz.f80 Tryz.f78 Tryz.f53 Tryz.f34 Tryz.f35 → KOk Tryz.prog e := kall_cons (inlK_ok (by kernel_rfl) hL mall_nil (C2_ok hL) Tryz.func34 (by kernel_rfl)) <| kall_cons (inlK_ok (by kernel_rfl) hL mall_nil (C2_ok hL) Tryz.func35 (by kernel_rfl)) (C2_ok hL)
theorem C4_ok : ∀ e, e ∈ C4 Tryz.prog L Tryz.f81 Tryz.f76 Tryz.f80 Tryz.f78 Tryz.f53 Tryz.f34 Tryz.f35 Tryz.f13 → KOk Tryz.prog e := kall_cons (inlK_ok (by kernel_rfl) hL mall_nil (C3_ok hL) Tryz.func13 (by kernel_rfl)) (C3_ok hL)
end
theorem strikes_ok [Tok] : FSpec Tryz.prog 6 [] [] (B true) := by
  refine sp3 A3_ok mall_nil (C4_ok A3_ok) Tryz.func6 (by kernel_rfl) rfl ?_
  have h : ev3 Tryz.prog [] (A3 Tryz.prog Tryz.f79 Tryz.f58 Tryz.f75) [] (C4 Tryz.prog (A3 Tryz.prog Tryz.f79 Tryz.f58 Tryz.f75) Tryz.f81 Tryz.f76 Tryz.f80 Tryz.f78 Tryz.f53 Tryz.f34 Tryz.f35 Tryz.f13) Tryz.f6 [] = some (B true) := by kernel_rfl
  exact h
end Go.Proofs.YtfiihlgnbhcpeaiGreat
