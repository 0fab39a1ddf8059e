/-
  The law VecBends returns true for all floats, the numbers that are none among them, and leaves its arguments as they were.
-/
import Derived.Test.YtnlfeocapnefeaaVecB
import Derived.Test.YtnlfeocapnefeaaFl
import Derived.Test.YtnlfeocapnefeaaEv8
namespace Go.Proofs.Ytnlfeocapnefeaa
open Go.Ev Go.RowKit Go.ChangeShapes Go.WideShapes Go.ChangeAt

theorem sameS_self (x : Nat) : sameS x x = true := by
  unfold sameS one
  rw [feq_self]
  cases h : isNan x
  · rw [feq_self, isNan_fdiv_one h]
    cases feq x 0 <;> rfl
  · rfl
theorem sameVS_self (a b c : Nat) : sameVS a b c a b c = true := by
  unfold sameVS; rw [sameS_self, sameS_self, sameS_self]; rfl

theorem bends_ev (a b c d e f k : Nat) : ev Try.prog L4 Try.f4 [V a b c, V d e f, F k] = some (B true) := by
  have h : ev Try.prog L4 Try.f4 [V a b c, V d e f, F k] = some (B (cond (cond (bendOk a b c d e f k == bendOk a b c d e f k)
      (sameVS (bendS a b c d e f k a d) (bendS a b c d e f k b e) (bendS a b c d e f k c f) (bendS a b c d e f k a d) (bendS a b c d e f k b e) (bendS a b c d e f k c f)) false)
      (sameVS (mirS a d (dotS a b c d e f)) (mirS b e (dotS a b c d e f)) (mirS c f (dotS a b c d e f)) (mirS a d (dotS a b c d e f)) (mirS b e (dotS a b c d e f)) (mirS c f (dotS a b c d e f))) false)) := by kernel_rfl
  rw [h, sameVS_self, sameVS_self]
  simp
theorem bends4 (a b c d e f k : Nat) : FSpec Try.prog 4 [] [V a b c, V d e f, F k] (B true) := sp L4_ok Try.func4 (by kernel_rfl) rfl (bends_ev a b c d e f k)

theorem Try.own : ownKnob Try.prog.godebug = none := by kernel_rfl
theorem Try.laidOut : laidOutB Try.prog = true := by kernel_rfl
theorem Try.flat24 : flatKinds Try.prog 6 24 = some [.float .f64 0, .float .f64 0, .float .f64 0] := by kernel_rfl

/-- A vector that comes in: three floats. -/
theorem vec_arg {H : Type} {enc : TypeId × Value → H} {W : World} {r : Reach} {b0 : Nat} {v : Value} {d : DataW H} {p : List MemPlace} (hv : Value.okWide Try.prog W r b0 24 v) (h : DataW.Trod enc Try.prog W 0 (fun _ => true) true 24 v d p) :
    ∃ a b c, v = .agg #[.float .f64 a, .float .f64 b, .float .f64 c] := by
  obtain ⟨cs, rfl, hf⟩ := flat_arg Try.underlying24 rfl Try.flat24 hv h
  match cs, hf with
  | [_, _, _], ⟨⟨a, ha, _⟩, ⟨b, hb, _⟩, ⟨c, hc, _⟩, _⟩ => exact ⟨a, b, c, by rw [ha, hb, hc]⟩
theorem vec_rel (bs : List Nat) (a b c : Nat) : vrel bs (V (cn a) (cn b) (cn c)) (.agg #[.float .f64 a, .float .f64 b, .float .f64 c]) :=
  ⟨_, rfl, ⟨a, rfl, rfl⟩, ⟨b, rfl, rfl⟩, ⟨c, rfl, rfl⟩, trivial⟩

set_option maxRecDepth 100000 in
theorem bends_lifted (os : Os) (started : os.Started) (H : Type) (enc : TypeId × Value → H) :
    ReturnsInHanded {} Try.checked os 4 .any (Rows.vecBendsSpec.pre6 enc Try.prog Try.f4 Rows.vecBendsRow.domain false) (Rows.vecBendsSpec.post enc Try.prog Try.f4 false true false false) := by
  refine returnsInHanded_of_change (C := Try.checked) Try.own started (by kernel_rfl) Try.func4
    (ChangeSpec.witness6 (enc := enc) (C := Try.checked) false ⟨#[], #[.agg #[.float .f64 0, .float .f64 0, .float .f64 0], .agg #[.float .f64 0, .float .f64 0, .float .f64 0], .float .f64 0], []⟩ 8 (by kernel_rfl) (by kernel_rfl) (by kernel_rfl) (by kernel_rfl)) ?_
  intro W base args ds gs before hval0 hW hcnd _
  have hval : ∀ (j : Nat) t v, Try.f4.params[j]? = some t → args[j]? = some v → Value.okWide Try.prog W .any base t v := hval0
  have hW' := hW
  obtain ⟨p, q, hA0, hV, rfl, hfz, hnd⟩ := hW
  have hA : DataW.TrodAll enc Try.prog W 0 (fun _ => true) true Try.f4.params.toList args.toList ds p := hA0
  rw [Try.params4] at hA hval
  obtain ⟨v0, v1, v2, d0, d1, d2, p0, p1, p2, rfl, rfl, rfl, h0, h1, h2⟩ := trodAll_three hA
  obtain ⟨rfl, rfl⟩ := trodVars_none hV
  obtain ⟨a, b, c, rfl⟩ := vec_arg (hval 0 24 v0 rfl rfl) h0
  obtain ⟨d, e, f, rfl⟩ := vec_arg (hval 1 24 v1 rfl rfl) h1
  obtain ⟨k, rfl, rfl, rfl, _⟩ := open_float Try.underlying22 (hval 2 22 v2 rfl rfl) h2
  refine ((bends4 (cn a) (cn b) (cn c) (cn d) (cn e) (cn f) (cn k)).2 [] W #[.agg #[.float .f64 a, .float .f64 b, .float .f64 c], .agg #[.float .f64 d, .float .f64 e, .float .f64 f], .float .f64 k] ⟨rfl, fun i b cells hb => by simp at hb⟩ ⟨vec_rel _ a b c, vec_rel _ d e f, ⟨k, rfl, rfl⟩, trivial⟩).mono ?_
  rintro e' W' ⟨v, rfl, hv, hb⟩
  have hvt : v = .bool true := vrel_bool hv
  subst hvt
  exact ⟨_, rfl, law_post Try.laidOut (by kernel_rfl) rfl (by kernel_rfl) Try.underlying4 rfl hW' hb⟩

/-- THE STATEMENT. -/
theorem vecBends_holds : Rows.VecBendsSaid :=
  OpenClaim.holds_of_wide 4 Try.f4 rfl rfl rfl rfl rfl rfl rfl ⟨rfl, rfl, rfl, rfl, rfl⟩ rfl rfl rfl rfl rfl (by kernel_rfl) Try.func4 (by kernel_rfl)
    (of_decide_eq_true (by kernel_rfl)) (by unfold Func.isWrapper; first | (rw [if_pos (by decide +kernel)]; kernel_rfl) | (rw [if_neg (by decide +kernel)]; exact ⟨rfl, rfl⟩))
    (fun os started H enc _ => bends_lifted os started H enc)
#print axioms vecBends_holds
end Go.Proofs.Ytnlfeocapnefeaa
