/-
  What Strike gives, of a triangle and a ray: a plain function of their floats.
-/
import Derived.Test.YtiagpcjonaahlaaGreatEdgT
import Derived.Test.YtiagpcjonaahlaaGreatMeet
namespace Go.Proofs.YtiagpcjonaahlaaGreat
open Go.Ev

def vA (s : Nat → Nat) : Nat → Nat := fun i => s i
def vB (s : Nat → Nat) : Nat → Nat := fun i => s (3 + i)
def vC (s : Nat → Nat) : Nat → Nat := fun i => s (6 + i)
def triOk (z : Nat) (s r : Nat → Nat) : Bool := thr (sd z r (vB s) (vC s)) (sd z r (vC s) (vA s)) (sd z r (vA s) (vB s))
def triT (z : Nat) (s r : Nat → Nat) : Nat := fdiv (fadd (fadd (fmul (sd z r (vB s) (vC s)) (pZ z r (vA s))) (fmul (sd z r (vC s) (vA s)) (pZ z r (vB s)))) (fmul (sd z r (vA s) (vB s)) (pZ z r (vC s)))) (fadd (fadd (sd z r (vB s) (vC s)) (sd z r (vC s) (vA s))) (sd z r (vA s) (vB s)))
def box3 (s : Nat → Nat) : Nat → Nat := joinS (joinS (ls [s 0, s 1, s 2, s 0, s 1, s 2]) (ls [s 3, s 4, s 5, s 3, s 4, s 5])) (ls [s 6, s 7, s 8, s 6, s 7, s 8])
abbrev SH (k : Int) (s : Nat → Nat) (sk : Int) : Value := .agg #[I k, F (s 0), F (s 1), F (s 2), F (s 3), F (s 4), F (s 5), F (s 6), F (s 7), F (s 8), F (s 9), F (s 10), I sk]
def skBad (sk : Int) : Bool := cond (decide (sk < 0)) true (decide (sk ≥ 16))
def shFar (s : Nat → Nat) : Bool := cond (cond (cond (cond (!fineS (s 0) (s 1) (s 2)) true (!fineS (s 3) (s 4) (s 5))) true (!fineS (s 6) (s 7) (s 8))) true (!nearS (s 9))) true (!nearS (s 10))
def triE (sk : Int) (s r : Nat → Nat) : Int := cond (skBad sk) 4 (cond (shFar s) 1 (cond (!(mayS (box3 s) == 0)) 1 (rayS r)))
def triM (sk : Int) (s r : Nat → Nat) : Bool := cond (triE sk s r == 0) (meetK (box3 s) r) false
def triK (sk : Int) (s r : Nat → Nat) : Bool := cond (triM sk s r) (cond (triOk (zS r) s r) (fge (triT (zS r) s r) (r 6)) false) false
def triF (sk : Int) (s r : Nat → Nat) : Nat := cond (triK sk s r) (cond (flt (triT (zS r) s r) (meetN (box3 s) r)) (meetN (box3 s) r) (cond (fgt (triT (zS r) s r) (meetF (box3 s) r)) (meetF (box3 s) r) (triT (zS r) s r))) 0
def triV (sk : Int) (s r : Nat → Nat) : Value := .tuple #[F (triF sk s r), B (triK sk s r), I (triE sk s r)]

def aroundV (a b c d e f : Nat) : Value := BX (joinS (ls [a, b, c, a, b, c]) (ls [d, e, f, d, e, f]))
def X0 [Tok] : List Entry := (27, pe (eBY0 meetV)) :: E2
theorem X0_ok [Tok] : ∀ e, e ∈ X0 → EOk Tryz.prog e := all_cons (eBY_ok smeets) E2_ok
theorem saround [Tok] (a b c d e f : Nat) : FSpec Tryz.prog 158 [] [V a b c, V d e f] (aroundV a b c d e f) := sp X0_ok Tryz.func158 (by kernel_rfl) rfl (by kernel_rfl)
def X1 [Tok] : List Entry := (158, eVV aroundV) :: X0
theorem X1_ok [Tok] : ∀ e, e ∈ X1 → EOk Tryz.prog e := all_cons (eVV_ok saround) X0_ok
def XK0 [Tok] : List KEntry := (159, kLook) :: []
theorem XK0_ok [Tok] : ∀ e, e ∈ XK0 → KOk Tryz.prog e := kall_cons (kLook_ok elook) kall_nil
def XK1 [Tok] (P : Program) (g0 g1 g2 : Func) : List KEntry := (155, inlK P X1 [] XK0 g0) :: (157, inlK P X1 [] XK0 g1) :: (86, inlK P X1 [] XK0 g2) :: XK0
theorem XK1_ok [Tok] : ∀ e, e ∈ XK1 Tryz.prog Tryz.f155 Tryz.f157 Tryz.f86 → KOk Tryz.prog e := kall_cons (inlK_ok (by kernel_rfl) X1_ok mall_nil XK0_ok Tryz.func155 (by kernel_rfl)) <|
  kall_cons (inlK_ok (by kernel_rfl) X1_ok mall_nil XK0_ok Tryz.func157 (by kernel_rfl)) <| kall_cons (inlK_ok (by kernel_rfl) X1_ok mall_nil XK0_ok Tryz.func86 (by kernel_rfl)) XK0_ok
def XK2 [Tok] (P : Program) (g0 g1 g2 g3 : Func) : List KEntry := (76, inlK P X1 [] (XK1 P g0 g1 g2) g3) :: XK1 P g0 g1 g2
theorem XK2_ok [Tok] : ∀ e, e ∈ XK2 Tryz.prog Tryz.f155 Tryz.f157 Tryz.f86 Tryz.f76 → KOk Tryz.prog e := kall_cons (inlK_ok (by kernel_rfl) X1_ok mall_nil XK1_ok Tryz.func76 (by kernel_rfl)) XK1_ok
def XK3 [Tok] (P : Program) (g0 g1 g2 g3 g4 g5 : Func) : List KEntry := (59, inlK P X1 [] (XK2 P g0 g1 g2 g3) g4) :: (60, inlK P X1 [] (XK2 P g0 g1 g2 g3) g5) :: XK2 P g0 g1 g2 g3
theorem XK3_ok [Tok] : ∀ e, e ∈ XK3 Tryz.prog Tryz.f155 Tryz.f157 Tryz.f86 Tryz.f76 Tryz.f59 Tryz.f60 → KOk Tryz.prog e := kall_cons (inlK_ok (by kernel_rfl) X1_ok mall_nil XK2_ok Tryz.func59 (by kernel_rfl)) <|
  kall_cons (inlK_ok (by kernel_rfl) X1_ok mall_nil XK2_ok Tryz.func60 (by kernel_rfl)) XK2_ok

def erV (e : Int) : Option Value := some (.tuple #[F 0, B false, I e])
def missV : Option Value := some (.tuple #[F 0, B false, I 0])
def finV (t n f l : Nat) : Option Value := cond (!fge t l) missV (cond (flt t n) (some (.tuple #[F n, B true, I 0])) (cond (fgt t f) (some (.tuple #[F f, B true, I 0])) (some (.tuple #[F t, B true, I 0]))))
def triTree (sk : Int) (s r : Nat → Nat) : Option Value := cond (skBad sk) (erV 4) (cond (shFar s) (erV 1) (cond (!(mayS (box3 s) == 0)) (erV 1) (cond (!(rayS r == 0)) (cond (!(rayS r == 0)) (some (.tuple #[F 0, B false, I (rayS r)])) none)
  (cond (!meetK (box3 s) r) missV (by3 r fun z => cond (!triOk z s r) missV (finV (triT z s r) (meetN (box3 s) r) (meetF (box3 s) r) (r 6)))))))
theorem tri_tree (sk : Int) (s r : Nat → Nat) : triTree sk s r = some (triV sk s r) := by
  unfold triTree triV triF triK triM triE finV erV missV
  rw [by3_eq]
  cases skBad sk
  · cases shFar s
    · cases hm : mayS (box3 s) == 0
      · rfl
      · cases hr : rayS r == 0
        · simp only [cond_true, cond_false, Bool.not_true, Bool.not_false, hr]
        · have e0 : rayS r = 0 := by simpa using hr
          simp only [cond_false, Bool.not_true, e0]
          cases meetK (box3 s) r
          · rfl
          · cases triOk (zS r) s r
            · rfl
            · cases fge (triT (zS r) s r) (r 6)
              · rfl
              · cases flt (triT (zS r) s r) (meetN (box3 s) r)
                · cases fgt (triT (zS r) s r) (meetF (box3 s) r) <;> rfl
                · rfl
    · rfl
  · rfl
theorem strike3 [Tok] (sk : Int) (s r : Nat → Nat) : FSpec Tryz.prog 47 [] [SH 3 s sk, RY r] (triV sk s r) := by
  refine sp3 X1_ok mall_nil XK3_ok Tryz.func47 (by kernel_rfl) rfl ?_
  have e : ev3 Tryz.prog [] X1 [] (XK3 Tryz.prog Tryz.f155 Tryz.f157 Tryz.f86 Tryz.f76 Tryz.f59 Tryz.f60) Tryz.f47 [SH 3 s sk, RY r] = triTree sk s r := by kernel_rfl
  rw [e]; exact tri_tree sk s r
end Go.Proofs.YtiagpcjonaahlaaGreat
