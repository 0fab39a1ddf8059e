/-
  The law VecSays returns true for all floats, the numbers that are none among them, and leaves its arguments as they were.
-/
import Derived.Test.YtnlfeocapnefeaaBends
namespace Go.Proofs.Ytnlfeocapnefeaa
open Go.Ev Go.RowKit Go.ChangeShapes Go.WideShapes Go.ChangeAt

theorem says_ev (a b c d e f k : Nat) : ev Try.prog L4 Try.f3 [V a b c, V d e f, F k] = some (B true) := by
  have h : ev Try.prog L4 Try.f3 [V a b c, V d e f, F k] =
      cond (cond (cond (cond (cond (cond (!(nearS k == nearS k)) true (!(fineS a b c == fineS a b c))) true
        (!sameVS (fadd a d) (fadd b e) (fadd c f) (fadd a d) (fadd b e) (fadd c f))) true
        (!sameVS (fsub a d) (fsub b e) (fsub c f) (fsub a d) (fsub b e) (fsub c f))) true
        (!sameVS (fmul a k) (fmul b k) (fmul c k) (fmul a k) (fmul b k) (fmul c k))) true
        (!sameVS (fdiv a k) (fdiv b k) (fdiv c k) (fdiv a k) (fdiv b k) (fdiv c k))) (some (B false))
      (cond (cond (cond (cond (!sameS (dotS a b c d e f) (dotS a b c d e f)) true
        (!sameVS (fsub (fmul b f) (fmul c e)) (fsub (fmul c d) (fmul a f)) (fsub (fmul a e) (fmul b d)) (fsub (fmul b f) (fmul c e)) (fsub (fmul c d) (fmul a f)) (fsub (fmul a e) (fmul b d)))) true
        (!sameS (lengthS a b c) (lengthS a b c))) true
        (!sameVS (cleanS a) (cleanS b) (cleanS c) (cleanS a) (cleanS b) (cleanS c))) (some (B false))
      (some (B (cond (unitE a b c == unitE a b c) (sameVS (unitS a b c a) (unitS a b c b) (unitS a b c c) (unitS a b c a) (unitS a b c b) (unitS a b c c)) false)))) := by kernel_rfl
  rw [h]
  simp only [sameVS_self, sameS_self, beq_self_eq_true]
  rfl
theorem says3 (a b c d e f k : Nat) : FSpec Try.prog 3 [] [V a b c, V d e f, F k] (B true) := sp L4_ok Try.func3 (by kernel_rfl) rfl (says_ev a b c d e f k)

set_option maxRecDepth 100000 in
theorem says_lifted (os : Os) (started : os.Started) (H : Type) (enc : TypeId × Value → H) :
    ReturnsInHanded {} Try.checked os 3 .any (Rows.vecSaysSpec.pre6 enc Try.prog Try.f3 Rows.vecSaysRow.domain false) (Rows.vecSaysSpec.post enc Try.prog Try.f3 false true false false) := by
  refine returnsInHanded_of_change (C := Try.checked) Try.own started (by kernel_rfl) Try.func3
    (ChangeSpec.witness6 (enc := enc) (C := Try.checked) false ⟨#[], #[.agg #[.float .f64 0, .float .f64 0, .float .f64 0], .agg #[.float .f64 0, .float .f64 0, .float .f64 0], .float .f64 0], []⟩ 8 (by kernel_rfl) (by kernel_rfl) (by kernel_rfl) (by kernel_rfl)) ?_
  intro W base args ds gs before hval0 hW hcnd _
  have hval : ∀ (j : Nat) t v, Try.f3.params[j]? = some t → args[j]? = some v → Value.okWide Try.prog W .any base t v := hval0
  have hW' := hW
  obtain ⟨p, q, hA0, hV, rfl, hfz, hnd⟩ := hW
  have hA : DataW.TrodAll enc Try.prog W 0 (fun _ => true) true Try.f3.params.toList args.toList ds p := hA0
  rw [Try.params3] at hA hval
  obtain ⟨v0, v1, v2, d0, d1, d2, p0, p1, p2, rfl, rfl, rfl, h0, h1, h2⟩ := trodAll_three hA
  obtain ⟨rfl, rfl⟩ := trodVars_none hV
  obtain ⟨a, b, c, rfl⟩ := vec_arg (hval 0 24 v0 rfl rfl) h0
  obtain ⟨d, e, f, rfl⟩ := vec_arg (hval 1 24 v1 rfl rfl) h1
  obtain ⟨k, rfl, rfl, rfl, _⟩ := open_float Try.underlying22 (hval 2 22 v2 rfl rfl) h2
  refine ((says3 (cn a) (cn b) (cn c) (cn d) (cn e) (cn f) (cn k)).2 [] W #[.agg #[.float .f64 a, .float .f64 b, .float .f64 c], .agg #[.float .f64 d, .float .f64 e, .float .f64 f], .float .f64 k] ⟨rfl, fun i b cells hb => by simp at hb⟩ ⟨vec_rel _ a b c, vec_rel _ d e f, ⟨k, rfl, rfl⟩, trivial⟩).mono ?_
  rintro e' W' ⟨v, rfl, hv, hb⟩
  have hvt : v = .bool true := vrel_bool hv
  subst hvt
  exact ⟨_, rfl, law_post Try.laidOut (by kernel_rfl) rfl (by kernel_rfl) Try.underlying4 rfl hW' hb⟩

/-- THE STATEMENT. -/
theorem vecSays_holds : Rows.VecSaysSaid :=
  OpenClaim.holds_of_wide 3 Try.f3 rfl rfl rfl rfl rfl rfl rfl ⟨rfl, rfl, rfl, rfl, rfl⟩ rfl rfl rfl rfl rfl (by kernel_rfl) Try.func3 (by kernel_rfl)
    (of_decide_eq_true (by kernel_rfl)) (by unfold Func.isWrapper; first | (rw [if_pos (by decide +kernel)]; kernel_rfl) | (rw [if_neg (by decide +kernel)]; exact ⟨rfl, rfl⟩))
    (fun os started H enc _ => says_lifted os started H enc)
#print axioms vecSays_holds
end Go.Proofs.Ytnlfeocapnefeaa
