/-
  What Strike gives, of a shape of each kind but a ring that may be, and a ray that may be: a plain function of their floats.
-/
import Derived.Test.YtfdfnnmgpjamdaiGreatEdg
import Derived.Test.YtfdfnnmgpjamdaiGreatMeet
import Derived.Test.YtfdfnnmgpjamdaiGreatScl4
namespace Go.Proofs.YtfdfnnmgpjamdaiGreat
open Go.Ev

/-! ### Small contracts -/
theorem vadd [Tok] (a b c d e f : Nat) : FSpec Tryz.prog 52 [] [V a b c, V d e f] (V (fadd a d) (fadd b e) (fadd c f)) := sp all_nil Tryz.func52 (by kernel_rfl) rfl (by kernel_rfl)
theorem vdot [Tok] (a b c d e f : Nat) : FSpec Tryz.prog 53 [] [V a b c, V d e f] (F (dotS a b c d e f)) := sp all_nil Tryz.func53 (by kernel_rfl) rfl (by kernel_rfl)
theorem vscale [Tok] (a b c k : Nat) : FSpec Tryz.prog 16 [] [V a b c, F k] (V (fmul a k) (fmul b k) (fmul c k)) := sp all_nil Tryz.func16 (by kernel_rfl) rfl (by kernel_rfl)
theorem vover [Tok] (a b c k : Nat) : FSpec Tryz.prog 139 [] [V a b c, F k] (V (fdiv a k) (fdiv b k) (fdiv c k)) := sp all_nil Tryz.func139 (by kernel_rfl) rfl (by kernel_rfl)
def A0 : List Entry := [(120, eF fun x => F (fsqrt x))]
theorem A0_ok [Tok] : ∀ e, e ∈ A0 → EOk Tryz.prog e := all_cons (sqrt_ok Tryz.func120 (by kernel_rfl) rfl (by kernel_rfl) (by kernel_rfl)) all_nil
theorem msqrt [Tok] (x : Nat) : FSpec Tryz.prog 119 [] [F x] (F (fsqrt x)) := sp A0_ok Tryz.func119 (by kernel_rfl) rfl (by kernel_rfl)
def A1 [Tok] : List Entry := (52, eVV fun a b c d e f => V (fadd a d) (fadd b e) (fadd c f)) :: (53, eVV fun a b c d e f => F (dotS a b c d e f)) :: (16, eVF fun a b c k => V (fmul a k) (fmul b k) (fmul c k)) :: (139, eVF fun a b c k => V (fdiv a k) (fdiv b k) (fdiv c k)) ::
  (119, eF fun x => F (fsqrt x)) :: (23, pe (eBY0 meetV)) :: E3
theorem A1_ok [Tok] : ∀ e, e ∈ A1 → EOk Tryz.prog e := all_cons (eVV_ok vadd) <| all_cons (eVV_ok vdot) <| all_cons (eVF_ok vscale) <| all_cons (eVF_ok vover) <| all_cons (eF_ok msqrt) <| all_cons (eBY_ok smeets) E3_ok
theorem vlength [Tok] (a b c : Nat) : FSpec Tryz.prog 138 [] [V a b c] (F (lengthS a b c)) := sp A1_ok Tryz.func138 (by kernel_rfl) rfl (by kernel_rfl)
def cubeV (a b c R : Nat) : Value := BX (ls [fsub a R, fsub b R, fsub c R, fadd a R, fadd b R, fadd c R])
def aroundV (a b c d e f : Nat) : Value := BX (joinS (ls [a, b, c, a, b, c]) (ls [d, e, f, d, e, f]))
theorem scube [Tok] (a b c R : Nat) : FSpec Tryz.prog 117 [] [V a b c, F R] (cubeV a b c R) := sp A1_ok Tryz.func117 (by kernel_rfl) rfl (by kernel_rfl)
theorem saround [Tok] (a b c d e f : Nat) : FSpec Tryz.prog 130 [] [V a b c, V d e f] (aroundV a b c d e f) := sp A1_ok Tryz.func130 (by kernel_rfl) rfl (by kernel_rfl)
theorem svecOf [Tok] (a b c : Nat) : FSpec Tryz.prog 149 [] [V a b c] (V a b c) := sp A1_ok Tryz.func149 (by kernel_rfl) rfl (by kernel_rfl)
def A2 [Tok] : List Entry := (138, eV fun a b c => F (lengthS a b c)) :: (117, eVF cubeV) :: (130, eVV aroundV) :: (149, eV fun a b c => V a b c) :: A1
theorem A2_ok [Tok] : ∀ e, e ∈ A2 → EOk Tryz.prog e := all_cons (eV_ok vlength) <| all_cons (eVF_ok scube) <| all_cons (eVV_ok saround) <| all_cons (eV_ok svecOf) A1_ok
theorem sflat0 [Tok] (a b c : Nat) : FSpec Tryz.prog 146 [] [V a b c, I 0] (V 0 b c) := sp A2_ok Tryz.func146 (by kernel_rfl) rfl (by kernel_rfl)
theorem sflat1 [Tok] (a b c : Nat) : FSpec Tryz.prog 146 [] [V a b c, I 1] (V a 0 c) := sp A2_ok Tryz.func146 (by kernel_rfl) rfl (by kernel_rfl)
theorem sflat2 [Tok] (a b c : Nat) : FSpec Tryz.prog 146 [] [V a b c, I 2] (V a b 0) := sp A2_ok Tryz.func146 (by kernel_rfl) rfl (by kernel_rfl)
def eFlat0 : List Value → Option Value
  | [x, .int .i64 z] => match asV x with
    | some (a, b, c) => cond (z == 0) (some (V 0 b c)) (cond (z == 1) (some (V a 0 c)) (cond (z == 2) (some (V a b 0)) none))
    | none => none
  | _ => none
theorem eFlat_ok [Tok] : EOk Tryz.prog (146, pe eFlat0) := by
  refine pe_ok fun args r hr => ?_
  simp only [eFlat0] at hr
  split at hr
  · rename_i x z
    split at hr
    · rename_i a b c ha
      rw [asV_some ha]
      cases h0 : z == 0
      · rw [h0] at hr
        cases h1 : z == 1
        · rw [h1] at hr
          cases h2 : z == 2
          · rw [h2] at hr; cases hr
          · rw [h2] at hr; cases hr; rw [eq_of_beq h2]; exact Or.inl (sflat2 a b c)
        · rw [h1] at hr; cases hr; rw [eq_of_beq h1]; exact Or.inl (sflat1 a b c)
      · rw [h0] at hr; cases hr; rw [eq_of_beq h0]; exact Or.inl (sflat0 a b c)
    · cases hr
  · cases hr
def A3 [Tok] : List Entry := (146, pe eFlat0) :: A2
theorem A3_ok [Tok] : ∀ e, e ∈ A3 → EOk Tryz.prog e := all_cons eFlat_ok A2_ok

/-! ### Entries that ask for one case -/
def axV (z : Nat) : Value := .tuple #[I ((z : Nat) : Int), B true]
def eAxis0 (z : Nat) : List Value → Option Value
  | [x] => match asV x with
    | some (a, b, c) => cond (onlyAt z (v3 a b c)) (some (axV z)) none
    | none => none
  | _ => none
def kAxis (z : Nat) : List (List Value) → List Value → (Value → Option Value) → Option Value := fun _ args k => cond (noPtrs args) (match args with
  | [x] => match asV x with
    | some (a, b, c) => cond (onlyAt z (v3 a b c)) (k (axV z)) none
    | none => none
  | _ => none) none
def axisT (a b c : Nat) : Option Value := cond (neZ a) (cond (neZ b) (cond (neZ c) (some (.tuple #[I 2, B false])) (some (.tuple #[I 1, B false]))) (cond (neZ c) (some (.tuple #[I 2, B false])) (some (.tuple #[I 0, B true]))))
  (cond (neZ b) (cond (neZ c) (some (.tuple #[I 2, B false])) (some (.tuple #[I 1, B true]))) (cond (neZ c) (some (.tuple #[I 2, B true])) (some (.tuple #[I 0, B false]))))
theorem saxis [Tok] {z : Nat} (hz : z < 3) {a b c : Nat} (h : onlyAt z (v3 a b c) = true) : FSpec Tryz.prog 147 [] [V a b c] (axV z) := by
  refine sp A2_ok Tryz.func147 (by kernel_rfl) rfl ?_
  have e : ev Tryz.prog A2 Tryz.f147 [V a b c] = axisT a b c := by kernel_rfl
  rw [e]
  unfold axisT
  have h : ((neZ a == (z == 0)) && ((neZ b == (z == 1)) && (neZ c == (z == 2)))) = true := h
  have h3 : z = 0 ∨ z = 1 ∨ z = 2 := by omega
  revert h
  rcases h3 with rfl | rfl | rfl <;> cases neZ a <;> cases neZ b <;> cases neZ c <;> intro h <;> first | rfl | (cases h)
theorem kAxis_ok [Tok] {z : Nat} (hz : z < 3) : KOk Tryz.prog (147, kAxis z) := by
  have h2 : EOk Tryz.prog (147, pe (eAxis0 z)) := by
    refine pe_ok fun args r hr => ?_
    simp only [eAxis0] at hr
    split at hr
    · split at hr
      · rename_i a b c ha
        cases hc : onlyAt z (v3 a b c)
        · rw [hc] at hr; cases hr
        · rw [hc] at hr; cases hr; rw [asV_some ha]; exact Or.inl (saxis hz hc)
      · cases hr
    · cases hr
  refine kOf h2 fun mem args k => ?_
  unfold kAxis pe
  cases noPtrs args
  · rfl
  · simp only [cond_true]
    match args with
    | [] => rfl
    | [x] =>
      simp only [eAxis0]
      cases hx : asV x with
      | none => rfl
      | some m => simp only; cases onlyAt z (v3 m.1 m.2.1 m.2.2) <;> rfl
    | _ :: _ :: _ => rfl
def unV (p : Nat → Nat) : Value := .tuple #[V (unP p 0) (unP p 1) (unP p 2), I 0]
def eUnit0 : List Value → Option Value
  | [x] => match asV x with
    | some (a, b, c) => cond (unOk (v3 a b c)) (some (unV (v3 a b c))) none
    | none => none
  | _ => none
def kUnit : List (List Value) → List Value → (Value → Option Value) → Option Value := fun _ args k => cond (noPtrs args) (match args with
  | [x] => match asV x with
    | some (a, b, c) => cond (unOk (v3 a b c)) (k (unV (v3 a b c))) none
    | none => none
  | _ => none) none
theorem sunit [Tok] {a b c : Nat} (h : unOk (v3 a b c) = true) : FSpec Tryz.prog 137 [] [V a b c] (unV (v3 a b c)) := by
  refine sp A2_ok Tryz.func137 (by kernel_rfl) rfl ?_
  have e : ev Tryz.prog A2 Tryz.f137 [V a b c] = cond (!fineS a b c) (some (.tuple #[V 0 0 0, I 1])) (cond (feq (lengthS a b c) 0) (some (.tuple #[V 0 0 0, I 2])) (some (.tuple #[V (fdiv a (lengthS a b c)) (fdiv b (lengthS a b c)) (fdiv c (lengthS a b c)), I 0]))) := by kernel_rfl
  have h : (fineS a b c && !feq (lengthS a b c) 0) = true := h
  rw [e]
  cases h1 : fineS a b c
  · rw [h1] at h; cases h
  · rw [h1] at h
    cases h2 : feq (lengthS a b c) 0
    · rfl
    · rw [h2] at h; cases h
theorem kUnit_ok [Tok] : KOk Tryz.prog (137, kUnit) := by
  have h2 : EOk Tryz.prog (137, pe eUnit0) := by
    refine pe_ok fun args r hr => ?_
    simp only [eUnit0] at hr
    split at hr
    · split at hr
      · rename_i a b c ha
        cases hc : unOk (v3 a b c)
        · rw [hc] at hr; cases hr
        · rw [hc] at hr; cases hr; rw [asV_some ha]; exact Or.inl (sunit hc)
      · cases hr
    · cases hr
  refine kOf h2 fun mem args k => ?_
  unfold kUnit pe
  cases noPtrs args
  · rfl
  · simp only [cond_true]
    match args with
    | [] => rfl
    | [x] =>
      simp only [eUnit0]
      cases hx : asV x with
      | none => rfl
      | some m => simp only; cases unOk (v3 m.1 m.2.1 m.2.2) <;> rfl
    | _ :: _ :: _ => rfl
def eLook0 (z : Nat) : List Value → Option Value
  | [x] => match asY x with
    | some r => cond (zS r == z) (some (LK r z)) none
    | none => none
  | _ => none
def kLookZ (z : Nat) : List (List Value) → List Value → (Value → Option Value) → Option Value := fun _ args k => cond (noPtrs args) (match args with
  | [x] => match asY x with
    | some r => cond (zS r == z) (k (LK r z)) none
    | none => none
  | _ => none) none
theorem kLookZ_ok [Tok] (z : Nat) : KOk Tryz.prog (34, kLookZ z) := by
  have h2 : EOk Tryz.prog (34, pe (eLook0 z)) := by
    refine pe_ok fun args r hr => ?_
    simp only [eLook0] at hr
    split at hr
    · split at hr
      · rename_i y ha
        cases hc : zS y == z
        · rw [hc] at hr; cases hr
        · rw [hc] at hr; cases hr; rw [asY_some ha, ← eq_of_beq hc]; exact Or.inl (elook y)
      · cases hr
    · cases hr
  refine kOf h2 fun mem args k => ?_
  unfold kLookZ pe
  cases noPtrs args
  · rfl
  · simp only [cond_true]
    match args with
    | [] => rfl
    | [x] =>
      simp only [eLook0]
      cases hx : asY x with
      | none => rfl
      | some m => simp only; cases zS m == z <;> rfl
    | _ :: _ :: _ => rfl

/-! ### What is worked out in place -/
def KB0 [Tok] (z : Nat) : List KEntry := (147, kAxis z) :: (34, kLookZ z) :: (137, kUnit) :: []
theorem KB0_ok [Tok] {z : Nat} (hz : z < 3) : ∀ e, e ∈ KB0 z → KOk Tryz.prog e := kall_cons (kAxis_ok hz) <| kall_cons (kLookZ_ok z) <| kall_cons kUnit_ok kall_nil
def KB1 [Tok] (P : Program) (z : Nat) (g00 g01 g02 : Func) : List KEntry := (118, inlK P A3 [] (KB0 z) g00) :: (140, inlK P A3 [] (KB0 z) g01) :: (148, inlK P A3 [] (KB0 z) g02) :: KB0 z
theorem KB1_ok [Tok] {z : Nat} (hz : z < 3) : ∀ e, e ∈ KB1 Tryz.prog z Tryz.f118 Tryz.f140 Tryz.f148 → KOk Tryz.prog e := kall_cons (inlK_ok (by kernel_rfl) A3_ok mall_nil (KB0_ok hz) Tryz.func118 (by kernel_rfl)) <| kall_cons (inlK_ok (by kernel_rfl) A3_ok mall_nil (KB0_ok hz) Tryz.func140 (by kernel_rfl)) <| kall_cons (inlK_ok (by kernel_rfl) A3_ok mall_nil (KB0_ok hz) Tryz.func148 (by kernel_rfl)) <| (KB0_ok hz)
def KB2 [Tok] (P : Program) (z : Nat) (g00 g01 g02 g10 g11 g12 g13 g14 g15 g16 g17 g18 g19 g110 g111 g112 g113 g114 : Func) : List KEntry := (113, inlK P A3 [] (KB1 P z g00 g01 g02) g10) :: (142, inlK P A3 [] (KB1 P z g00 g01 g02) g11) :: (114, inlK P A3 [] (KB1 P z g00 g01 g02) g12) :: (123, inlK P A3 [] (KB1 P z g00 g01 g02) g13) :: (134, inlK P A3 [] (KB1 P z g00 g01 g02) g14) :: (143, inlK P A3 [] (KB1 P z g00 g01 g02) g15) :: (112, inlK P A3 [] (KB1 P z g00 g01 g02) g16) :: (121, inlK P A3 [] (KB1 P z g00 g01 g02) g17) :: (126, inlK P A3 [] (KB1 P z g00 g01 g02) g18) :: (133, inlK P A3 [] (KB1 P z g00 g01 g02) g19) :: (141, inlK P A3 [] (KB1 P z g00 g01 g02) g110) :: (125, inlK P A3 [] (KB1 P z g00 g01 g02) g111) :: (128, inlK P A3 [] (KB1 P z g00 g01 g02) g112) :: (136, inlK P A3 [] (KB1 P z g00 g01 g02) g113) :: (82, inlK P A3 [] (KB1 P z g00 g01 g02) g114) :: KB1 P z g00 g01 g02
theorem KB2_ok [Tok] {z : Nat} (hz : z < 3) : ∀ e, e ∈ KB2 Tryz.prog z Tryz.f118 Tryz.f140 Tryz.f148 Tryz.f113 Tryz.f142 Tryz.f114 Tryz.f123 Tryz.f134 Tryz.f143 Tryz.f112 Tryz.f121 Tryz.f126 Tryz.f133 Tryz.f141 Tryz.f125 Tryz.f128 Tryz.f136 Tryz.f82 → KOk Tryz.prog e := kall_cons (inlK_ok (by kernel_rfl) A3_ok mall_nil (KB1_ok hz) Tryz.func113 (by kernel_rfl)) <| kall_cons (inlK_ok (by kernel_rfl) A3_ok mall_nil (KB1_ok hz) Tryz.func142 (by kernel_rfl)) <| kall_cons (inlK_ok (by kernel_rfl) A3_ok mall_nil (KB1_ok hz) Tryz.func114 (by kernel_rfl)) <| kall_cons (inlK_ok (by kernel_rfl) A3_ok mall_nil (KB1_ok hz) Tryz.func123 (by kernel_rfl)) <| kall_cons (inlK_ok (by kernel_rfl) A3_ok mall_nil (KB1_ok hz) Tryz.func134 (by kernel_rfl)) <| kall_cons (inlK_ok (by kernel_rfl) A3_ok mall_nil (KB1_ok hz) Tryz.func143 (by kernel_rfl)) <| kall_cons (inlK_ok (by kernel_rfl) A3_ok mall_nil (KB1_ok hz) Tryz.func112 (by kernel_rfl)) <| kall_cons (inlK_ok (by kernel_rfl) A3_ok mall_nil (KB1_ok hz) Tryz.func121 (by kernel_rfl)) <| kall_cons (inlK_ok (by kernel_rfl) A3_ok mall_nil (KB1_ok hz) Tryz.func126 (by kernel_rfl)) <| kall_cons (inlK_ok (by kernel_rfl) A3_ok mall_nil (KB1_ok hz) Tryz.func133 (by kernel_rfl)) <| kall_cons (inlK_ok (by kernel_rfl) A3_ok mall_nil (KB1_ok hz) Tryz.func141 (by kernel_rfl)) <| kall_cons (inlK_ok (by kernel_rfl) A3_ok mall_nil (KB1_ok hz) Tryz.func125 (by kernel_rfl)) <| kall_cons (inlK_ok (by kernel_rfl) A3_ok mall_nil (KB1_ok hz) Tryz.func128 (by kernel_rfl)) <| kall_cons (inlK_ok (by kernel_rfl) A3_ok mall_nil (KB1_ok hz) Tryz.func136 (by kernel_rfl)) <| kall_cons (inlK_ok (by kernel_rfl) A3_ok mall_nil (KB1_ok hz) Tryz.func82 (by kernel_rfl)) <| (KB1_ok hz)
def KB3 [Tok] (P : Program) (z : Nat) (g00 g01 g02 g10 g11 g12 g13 g14 g15 g16 g17 g18 g19 g110 g111 g112 g113 g114 g20 g21 g22 : Func) : List KEntry := (116, inlK P A3 [] (KB2 P z g00 g01 g02 g10 g11 g12 g13 g14 g15 g16 g17 g18 g19 g110 g111 g112 g113 g114) g20) :: (145, inlK P A3 [] (KB2 P z g00 g01 g02 g10 g11 g12 g13 g14 g15 g16 g17 g18 g19 g110 g111 g112 g113 g114) g21) :: (67, inlK P A3 [] (KB2 P z g00 g01 g02 g10 g11 g12 g13 g14 g15 g16 g17 g18 g19 g110 g111 g112 g113 g114) g22) :: KB2 P z g00 g01 g02 g10 g11 g12 g13 g14 g15 g16 g17 g18 g19 g110 g111 g112 g113 g114
theorem KB3_ok [Tok] {z : Nat} (hz : z < 3) : ∀ e, e ∈ KB3 Tryz.prog z Tryz.f118 Tryz.f140 Tryz.f148 Tryz.f113 Tryz.f142 Tryz.f114 Tryz.f123 Tryz.f134 Tryz.f143 Tryz.f112 Tryz.f121 Tryz.f126 Tryz.f133 Tryz.f141 Tryz.f125 Tryz.f128 Tryz.f136 Tryz.f82 Tryz.f116 Tryz.f145 Tryz.f67 → KOk Tryz.prog e := kall_cons (inlK_ok (by kernel_rfl) A3_ok mall_nil (KB2_ok hz) Tryz.func116 (by kernel_rfl)) <| kall_cons (inlK_ok (by kernel_rfl) A3_ok mall_nil (KB2_ok hz) Tryz.func145 (by kernel_rfl)) <| kall_cons (inlK_ok (by kernel_rfl) A3_ok mall_nil (KB2_ok hz) Tryz.func67 (by kernel_rfl)) <| (KB2_ok hz)
def KB4 [Tok] (P : Program) (z : Nat) (g00 g01 g02 g10 g11 g12 g13 g14 g15 g16 g17 g18 g19 g110 g111 g112 g113 g114 g20 g21 g22 g30 g31 : Func) : List KEntry := (41, inlK P A3 [] (KB3 P z g00 g01 g02 g10 g11 g12 g13 g14 g15 g16 g17 g18 g19 g110 g111 g112 g113 g114 g20 g21 g22) g30) :: (42, inlK P A3 [] (KB3 P z g00 g01 g02 g10 g11 g12 g13 g14 g15 g16 g17 g18 g19 g110 g111 g112 g113 g114 g20 g21 g22) g31) :: KB3 P z g00 g01 g02 g10 g11 g12 g13 g14 g15 g16 g17 g18 g19 g110 g111 g112 g113 g114 g20 g21 g22
theorem KB4_ok [Tok] {z : Nat} (hz : z < 3) : ∀ e, e ∈ KB4 Tryz.prog z Tryz.f118 Tryz.f140 Tryz.f148 Tryz.f113 Tryz.f142 Tryz.f114 Tryz.f123 Tryz.f134 Tryz.f143 Tryz.f112 Tryz.f121 Tryz.f126 Tryz.f133 Tryz.f141 Tryz.f125 Tryz.f128 Tryz.f136 Tryz.f82 Tryz.f116 Tryz.f145 Tryz.f67 Tryz.f41 Tryz.f42 → KOk Tryz.prog e := kall_cons (inlK_ok (by kernel_rfl) A3_ok mall_nil (KB3_ok hz) Tryz.func41 (by kernel_rfl)) <| kall_cons (inlK_ok (by kernel_rfl) A3_ok mall_nil (KB3_ok hz) Tryz.func42 (by kernel_rfl)) <| (KB3_ok hz)

/-! ### Strike -/
abbrev SH (k : Int) (s : Nat → Nat) (sk : Int) : Value := .agg #[I k, F (s 0), F (s 1), F (s 2), F (s 3), F (s 4), F (s 5), F (s 6), F (s 7), F (s 8), F (s 9), F (s 10), I sk]
def erV (e : Int) : Option Value := some (.tuple #[F 0, B false, I e])
def missV : Option Value := some (.tuple #[F 0, B false, I 0])
def finO (ok : Bool) (t n f l : Nat) : Option Value := cond (cond (!ok) true (!fge t l)) missV (cond (flt t n) (some (.tuple #[F n, B true, I 0])) (cond (fgt t f) (some (.tuple #[F f, B true, I 0])) (some (.tuple #[F t, B true, I 0]))))
def finV (t n f l : Nat) : Option Value := cond (!fge t l) missV (cond (flt t n) (some (.tuple #[F n, B true, I 0])) (cond (fgt t f) (some (.tuple #[F f, B true, I 0])) (some (.tuple #[F t, B true, I 0]))))
def pre1 (sk : Int) (s : Nat → Nat) (X : Option Value) : Option Value := cond (cond (decide (sk < 0)) true (decide (sk ≥ 16))) (erV 4)
  (cond (cond (cond (cond (cond (!fineS (s 0) (s 1) (s 2)) true (!fineS (s 3) (s 4) (s 5))) true (!fineS (s 6) (s 7) (s 8))) true (!nearS (s 9))) true (!nearS (s 10))) (erV 1) X)
def pre2 (b r : Nat → Nat) (X : Option Value) : Option Value := cond (!(mayS b == 0)) (erV 1) (cond (!(rayS r == 0)) (cond (!(rayS r == 0)) (some (.tuple #[F 0, B false, I (rayS r)])) none) X)
def pre3 (b r : Nat → Nat) (X : Nat → Nat → Option Value) : Option Value := cond (!meetK b r) missV (X (meetN b r) (meetF b r))
theorem fin_res (t n f l : Nat) : finV t n f l = some (resV true n f l true t) := by
  unfold finV resV missV; cases fge t l <;> cases flt t n <;> cases fgt t f <;> rfl
theorem finO_res (ok : Bool) (t n f l : Nat) : finO ok t n f l = some (resV true n f l ok t) := by
  unfold finO resV missV; cases ok <;> cases fge t l <;> cases flt t n <;> cases fgt t f <;> rfl
theorem pre1_ok {sk : Int} {s : Nat → Nat} {X : Option Value} (h1 : skOk sk = true) (h2 : fineP (vA s) = true) (h3 : fineP (vB s) = true) (h4 : fineP (vC s) = true) (h5 : nearS (s 9) = true) (h6 : nearS (s 10) = true) : pre1 sk s X = X := by
  unfold pre1
  have h1 : cond (decide (sk < 0)) true (decide (sk ≥ 16)) = false := by
    unfold skOk at h1
    cases h : cond (decide (sk < 0)) true (decide (sk ≥ 16))
    · rfl
    · rw [h] at h1; cases h1
  have h2 : fineS (s 0) (s 1) (s 2) = true := h2
  have h3 : fineS (s 3) (s 4) (s 5) = true := h3
  have h4 : fineS (s 6) (s 7) (s 8) = true := h4
  rw [h1, h2, h3, h4, h5, h6]; rfl
theorem pre2_ok {b r : Nat → Nat} {X : Option Value} (h1 : (mayS b == 0) = true) (h2 : (rayS r == 0) = true) : pre2 b r X = X := by unfold pre2; rw [h1, h2]; rfl
theorem pre3_ok {b r : Nat → Nat} {X : Nat → Nat → Option Value} {ok : Bool} {t : Nat} (h : X (meetN b r) (meetF b r) = some (resV true (meetN b r) (meetF b r) (r 6) ok t)) : pre3 b r X = some (resV (meetK b r) (meetN b r) (meetF b r) (r 6) ok t) := by
  unfold pre3
  cases meetK b r
  · rfl
  · exact h
structure OkS (k z : Nat) (sk : Int) (s r : Nat → Nat) : Prop where
  sk : skOk sk = true
  a : fineP (vA s) = true
  b : fineP (vB s) = true
  c : fineP (vC s) = true
  R : nearS (s 9) = true
  Q : nearS (s 10) = true
  may : mayK k z s = true
  box : (mayS (boxK k z s) == 0) = true
  ray : (rayS r == 0) = true
  z : (!(k == 3) || zS r == z) = true
theorem okS_of {k z : Nat} {sk : Int} {s r : Nat → Nat} (h : okS k z sk s r = true) : OkS k z sk s r := by
  unfold okS at h
  simp only [Bool.and_eq_true] at h
  obtain ⟨h1, h2, h3, h4, h5, h6, h7, h8, h9, h10⟩ := h
  exact ⟨h1, h2, h3, h4, h5, h6, h7, h8, h9, h10⟩
end Go.Proofs.YtfdfnnmgpjamdaiGreat
