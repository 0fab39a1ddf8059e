/-
  Eyes, and the rays of an eye, of code and answer.
-/
import Derived.Test.YtenaeijehjnfeaaBra1
namespace Go.Proofs.Ytenaeijehjnfeaa
open Go.Ev

/-- An eye: three vectors and how wide it sees. -/
abbrev EY (m : Nat → Nat) : Value := .agg #[F (m 0), F (m 1), F (m 2), F (m 3), F (m 4), F (m 5), F (m 6), F (m 7), F (m 8), F (m 9)]
def asE : Value → Option (Nat → Nat)
  | .agg ⟨[.float .f64 a0, .float .f64 a1, .float .f64 a2, .float .f64 a3, .float .f64 a4, .float .f64 a5, .float .f64 a6, .float .f64 a7, .float .f64 a8, .float .f64 a9]⟩ => some (ls [a0, a1, a2, a3, a4, a5, a6, a7, a8, a9])
  | _ => none
/-- The same ten floats, told one by one. -/
abbrev M10 (m : Nat → Nat) : Nat → Nat := ls [m 0, m 1, m 2, m 3, m 4, m 5, m 6, m 7, m 8, m 9]
theorem asE_some {v : Value} {m : Nat → Nat} (h : asE v = some m) : v = EY m ∧ M10 m = m := by
  unfold asE at h; split at h
  · cases h; exact ⟨rfl, rfl⟩
  · cases h
def eE0 (g : (Nat → Nat) → Value) : List Value → Option Value
  | [x] => match asE x with
    | some a => some (g a)
    | _ => none
  | _ => none
theorem eE_ok [Tok] {P : Program} {f : Nat} {g : (Nat → Nat) → Value} (h : ∀ a, FSpec P f [] [EY a] (g (M10 a))) : EOk P (f, pe (eE0 g)) := by
  refine pe_ok fun args r hr => ?_
  simp only [eE0] at hr
  split at hr
  · split at hr
    · rename_i a ha; cases hr; have h2 := h a; rw [(asE_some ha).2] at h2; rw [(asE_some ha).1]; exact Or.inl h2
    · cases hr
  · cases hr

/-! ### Whether an eye may be -/
def toA (e : Nat → Nat) : Nat := fsub (e 3) (e 0)
def toB (e : Nat → Nat) : Nat := fsub (e 4) (e 1)
def toC (e : Nat → Nat) : Nat := fsub (e 5) (e 2)
def ahE (e : Nat → Nat) : Int := unitE (toA e) (toB e) (toC e)
def ahA (e : Nat → Nat) : Nat := unitS (toA e) (toB e) (toC e) (toA e)
def ahB (e : Nat → Nat) : Nat := unitS (toA e) (toB e) (toC e) (toB e)
def ahC (e : Nat → Nat) : Nat := unitS (toA e) (toB e) (toC e) (toC e)
def sqA (e : Nat → Nat) : Nat := crossX (ahA e) (ahB e) (ahC e) (e 6) (e 7) (e 8)
def sqB (e : Nat → Nat) : Nat := crossX (ahB e) (ahC e) (ahA e) (e 7) (e 8) (e 6)
def sqC (e : Nat → Nat) : Nat := crossX (ahC e) (ahA e) (ahB e) (e 8) (e 6) (e 7)
def sqL (e : Nat → Nat) : Nat := lengthS (sqA e) (sqB e) (sqC e)
def eyeF (e : Nat → Nat) : Bool := cond (cond (cond (!fineS (e 0) (e 1) (e 2)) true (!fineS (e 3) (e 4) (e 5))) true (!fineS (e 6) (e 7) (e 8))) true (!nearS (e 9))
def eyeS (e : Nat → Nat) : Int := cond (eyeF e) 1 (cond (!fgt (e 9) 0) 6 (cond (!(ahE e == 0)) (ahE e) (cond (feq (sqL e) 0) 2 0)))

theorem near_pos {x : Nat} (h : nearS x = true) : fle x 0 = !fgt x 0 := by
  have h1 := (nr_of h).nan
  rw [fle_key h1 (by decide +kernel), fgt_key h1 (by decide +kernel)]
  by_cases g : key 0 < key x
  · have : ¬ key x ≤ key 0 := by omega
    simp [g, this]
  · have : key x ≤ key 0 := by omega
    simp [g, this]
theorem eyeF_near {e : Nat → Nat} (h : eyeF e = false) : nearS (e 9) = true := by
  unfold eyeF at h
  revert h
  cases fineS (e 0) (e 1) (e 2) <;> cases fineS (e 3) (e 4) (e 5) <;> cases fineS (e 6) (e 7) (e 8) <;> cases nearS (e 9) <;> simp

theorem smayEye [Tok] (e : Nat → Nat) : FSpec Try.prog 30 [] [EY e] (I (eyeS (M10 e))) := by
  refine sp L4_ok Try.func30 (by kernel_rfl) rfl ?_
  have h : ev Try.prog (L4 Try.prog Try.f40) Try.f30 [EY e] = cond (eyeF (M10 e)) (some (I 1)) (cond (!fgt (M10 e 9) 0) (some (I 6)) (cond (!(ahE (M10 e) == 0)) (some (I (ahE (M10 e)))) (cond (feq (sqL (M10 e)) 0) (some (I 2)) (some (I 0))))) := by kernel_rfl
  rw [h, cond_some', cond_some', cond_some', cond_some', cond_I, cond_I, cond_I, cond_I]; rfl
theorem reyeMay [Tok] (e : Nat → Nat) : FSpec Try.prog 17 [] [EY e] (I (eyeS (M10 e))) := by
  refine sp L4_ok Try.func17 (by kernel_rfl) rfl ?_
  have h : ev Try.prog (L4 Try.prog Try.f40) Try.f17 [EY e] = cond (eyeF (M10 e)) (some (I 1)) (cond (fle (M10 e 9) 0) (some (I 6)) (cond (!(ahE (M10 e) == 0)) (some (I (ahE (M10 e)))) (cond (feq (sqL (M10 e)) 0) (some (I 2)) (some (I 0))))) := by kernel_rfl
  rw [h, cond_some', cond_some', cond_some', cond_some', cond_I, cond_I, cond_I, cond_I]
  unfold eyeS
  cases g : eyeF (M10 e)
  · rw [near_pos (eyeF_near g)]
  · rfl
def L5 [Tok] (P : Program) (fx : Func) : List Entry := (30, pe (eE0 fun e => I (eyeS e))) :: (17, pe (eE0 fun e => I (eyeS e))) :: L4 P fx
theorem L5_ok [Tok] : ∀ e, e ∈ L5 Try.prog Try.f40 → EOk Try.prog e := all_cons (eE_ok smayEye) <| all_cons (eE_ok reyeMay) L4_ok

/-! ### Whether it may look through a place -/
def partS (u : Int) : Bool := cond (decide (0 ≤ u)) (decide (u ≤ 65536)) false
theorem bpart [Tok] (u : Int) : FSpec Try.prog 32 [] [I u] (B (partS u)) := by
  refine sp all_nil Try.func32 (by kernel_rfl) rfl ?_
  have h : ev Try.prog [] Try.f32 [I u] = some (B (cond (decide (u ≥ 0)) (decide (u ≤ 65536)) false)) := by kernel_rfl
  rw [h]; rfl
def eI0 (g : Int → Value) : List Value → Option Value
  | [.int .i64 n] => some (g n)
  | _ => none
theorem eI_ok [Tok] {P : Program} {f : Nat} {g : Int → Value} (h : ∀ n, FSpec P f [] [I n] (g n)) : EOk P (f, pe (eI0 g)) := by
  refine pe_ok fun args r hr => ?_
  simp only [eI0] at hr
  split at hr
  · cases hr; exact Or.inl (h _)
  · cases hr
def L6 [Tok] (P : Program) (fx : Func) : List Entry := (32, pe (eI0 fun n => B (partS n))) :: L5 P fx
theorem L6_ok [Tok] : ∀ e, e ∈ L6 Try.prog Try.f40 → EOk Try.prog e := all_cons (eI_ok bpart) L5_ok
def tallS (t : Nat) : Bool := cond (!nearS t) true (fle t 0)
def lookS (e : Nat → Nat) (u v : Int) (t : Nat) : Int := cond (!(eyeS e == 0)) (eyeS e) (cond (tallS t) 1 (cond (cond (!partS u) true (!partS v)) 6 0))
theorem blook [Tok] (e : Nat → Nat) (u v : Int) (t : Nat) : FSpec Try.prog 7 [] [EY e, I u, I v, F t] (I (lookS (M10 e) u v t)) := by
  refine sp L6_ok Try.func7 (by kernel_rfl) rfl ?_
  have h : ev Try.prog (L6 Try.prog Try.f40) Try.f7 [EY e, I u, I v, F t] = cond (!(eyeS (M10 e) == 0)) (some (I (eyeS (M10 e)))) (cond (tallS t) (some (I 1)) (cond (cond (!partS u) true (!partS v)) (some (I 6)) (some (I 0)))) := by kernel_rfl
  rw [h, cond_some', cond_some', cond_some', cond_I, cond_I, cond_I]; rfl
def eLook0 (g : (Nat → Nat) → Int → Int → Nat → Value) : List Value → Option Value
  | [x, .int .i64 u, .int .i64 v, y] => match asE x, asF y with
    | some e, some t => some (g e u v t)
    | _, _ => none
  | _ => none
theorem eLook_ok [Tok] {P : Program} {f : Nat} {g : (Nat → Nat) → Int → Int → Nat → Value} (h : ∀ e u v t, FSpec P f [] [EY e, I u, I v, F t] (g (M10 e) u v t)) : EOk P (f, pe (eLook0 g)) := by
  refine pe_ok fun args r hr => ?_
  simp only [eLook0] at hr
  split at hr
  · rename_i x u v y
    split at hr
    · rename_i e t h1 h2; cases hr; have h3 := h e u v t; rw [(asE_some h1).2] at h3; rw [(asE_some h1).1, asF_some h2]; exact Or.inl h3
    · cases hr
  · cases hr
def L7 [Tok] (P : Program) (fx : Func) : List Entry := (7, pe (eLook0 fun e u v t => I (lookS e u v t))) :: L6 P fx
theorem L7_ok [Tok] : ∀ e, e ∈ L7 Try.prog Try.f40 → EOk Try.prog e := all_cons (eLook_ok blook) L6_ok

end Go.Proofs.Ytenaeijehjnfeaa
