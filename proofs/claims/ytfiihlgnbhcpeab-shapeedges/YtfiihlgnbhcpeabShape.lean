/-
  The law ShapeEdges returns true for all rays and points, of any floats, the numbers that are none among them, and leaves its arguments as they were.
-/
import Derived.Test.YtfiihlgnbhcpeabRefE
import Derived.Test.YtfiihlgnbhcpeabEv8
import Derived.Carry
namespace Go.Proofs.Ytfiihlgnbhcpeab
open Go.Ev Go.RowKit Go.ChangeShapes Go.WideShapes Go.ChangeAt

theorem Try.own : ownKnob Try.prog.godebug = none := by kernel_rfl
theorem Try.laidOut : laidOutB Try.prog = true := by kernel_rfl
theorem Try.flat25 : flatKinds Try.prog 6 25 = some [.float .f64 0, .float .f64 0, .float .f64 0] := by kernel_rfl
theorem Try.flat32 : flatKinds Try.prog 6 32 = some [.float .f64 0, .float .f64 0, .float .f64 0, .float .f64 0, .float .f64 0, .float .f64 0, .float .f64 0] := by kernel_rfl

set_option maxRecDepth 100000 in
theorem vec_arg {H : Type} {enc : TypeId × Value → H} {W : World} {r : Reach} {b0 : Nat} {v : Value} {d : DataW H} {p : List MemPlace} (hv : Value.okWide Try.prog W r b0 25 v) (h : DataW.Trod enc Try.prog W 0 (fun _ => true) true 25 v d p) :
    ∃ a b c, v = V a b c := by
  obtain ⟨cs, rfl, hf⟩ := flat_arg Try.underlying25 rfl Try.flat25 hv h
  match cs, hf with
  | [_, _, _], ⟨⟨a, ha, _⟩, ⟨b, hb, _⟩, ⟨c, hc, _⟩, _⟩ => exact ⟨a, b, c, by rw [ha, hb, hc]⟩
set_option maxRecDepth 100000 in
theorem ray_arg {H : Type} {enc : TypeId × Value → H} {W : World} {r : Reach} {b0 : Nat} {v : Value} {d : DataW H} {p : List MemPlace} (hv : Value.okWide Try.prog W r b0 32 v) (h : DataW.Trod enc Try.prog W 0 (fun _ => true) true 32 v d p) :
    ∃ m : Nat → Nat, v = RY m := by
  obtain ⟨cs, rfl, hf⟩ := flat_arg Try.underlying32 rfl Try.flat32 hv h
  match cs, hf with
  | [_, _, _, _, _, _, _], ⟨⟨a0, h0, _⟩, ⟨a1, h1, _⟩, ⟨a2, h2, _⟩, ⟨a3, h3, _⟩, ⟨a4, h4, _⟩, ⟨a5, h5, _⟩, ⟨a6, h6, _⟩, _⟩ =>
    exact ⟨ls [a0, a1, a2, a3, a4, a5, a6], by rw [h0, h1, h2, h3, h4, h5, h6]; rfl⟩
theorem vec_rel [Tok] (bs : List Nat) (a b c : Nat) : vrel bs (V (cn a) (cn b) (cn c)) (V a b c) :=
  ⟨_, rfl, ⟨a, rfl, rfl⟩, ⟨b, rfl, rfl⟩, ⟨c, rfl, rfl⟩, trivial⟩
theorem ray_rel [Tok] (bs : List Nat) (m : Nat → Nat) : vrel bs (RY fun i => cn (m i)) (RY m) :=
  ⟨_, rfl, ⟨_, rfl, rfl⟩, ⟨_, rfl, rfl⟩, ⟨_, rfl, rfl⟩, ⟨_, rfl, rfl⟩, ⟨_, rfl, rfl⟩, ⟨_, rfl, rfl⟩, ⟨_, rfl, rfl⟩, trivial⟩

set_option maxRecDepth 100000 in
theorem edges_lifted (os : Os) (started : os.Started) (H : Type) (enc : TypeId × Value → H) :
    ReturnsInHanded {} Try.checked os 4 .any (Rows.shapeEdgesSpec.pre6 enc Try.prog Try.f4 Rows.shapeEdgesRow.domain false) (Rows.shapeEdgesSpec.post enc Try.prog Try.f4 false true false false) := by
  letI : Tok := ⟨fun _ => 0, fun _ => 0⟩
  refine returnsInHanded_of_change (C := Try.checked) Try.own started (by kernel_rfl) Try.func4
    (ChangeSpec.witness6 (enc := enc) (C := Try.checked) false ⟨#[], #[RY (fun _ => 0), V 0 0 0, V 0 0 0, V 0 0 0], []⟩ 8 (by kernel_rfl) (by kernel_rfl) (by kernel_rfl) (by kernel_rfl)) ?_
  intro W base args ds gs before hval0 hW hcnd _
  have hval : ∀ (j : Nat) t v, Try.f4.params[j]? = some t → args[j]? = some v → Value.okWide Try.prog W .any base t v := hval0
  have hW' := hW
  obtain ⟨p, q, hA0, hV, rfl, hfz, hnd⟩ := hW
  have hA : DataW.TrodAll enc Try.prog W 0 (fun _ => true) true Try.f4.params.toList args.toList ds p := hA0
  rw [Try.params4] at hA hval
  obtain ⟨v0, v1, v2, v3, d0, d1, d2, d3, p0, p1, p2, p3, rfl, rfl, rfl, h0, h1, h2, h3⟩ := trodAll_four hA
  obtain ⟨rfl, rfl⟩ := trodVars_none hV
  obtain ⟨m, rfl⟩ := ray_arg (hval 0 32 v0 rfl rfl) h0
  obtain ⟨a1, a2, a3, rfl⟩ := vec_arg (hval 1 25 v1 rfl rfl) h1
  obtain ⟨b1, b2, b3, rfl⟩ := vec_arg (hval 2 25 v2 rfl rfl) h2
  obtain ⟨c1, c2, c3, rfl⟩ := vec_arg (hval 3 25 v3 rfl rfl) h3
  refine ((edges_law (fun i => cn (m i)) (cn a1) (cn a2) (cn a3) (cn b1) (cn b2) (cn b3) (cn c1) (cn c2) (cn c3)).2 [] W #[RY m, V a1 a2 a3, V b1 b2 b3, V c1 c2 c3] ⟨rfl, fun i b cells hb => by simp at hb⟩ ⟨ray_rel _ m, vec_rel _ a1 a2 a3, vec_rel _ b1 b2 b3, vec_rel _ c1 c2 c3, trivial⟩).mono ?_
  rintro e' W' ⟨v, rfl, hv, hb⟩
  have hvt : v = .bool true := vrel_bool hv
  subst hvt
  exact ⟨_, rfl, law_post Try.laidOut (by kernel_rfl) rfl (by kernel_rfl) Try.underlying4 rfl hW' hb⟩

/-- THE STATEMENT. -/
theorem shapeEdges_holds : Rows.ShapeEdgesSaid :=
  OpenClaim.holds_of_wide 4 Try.f4 rfl rfl rfl rfl rfl rfl rfl ⟨rfl, rfl, rfl, rfl, rfl⟩ rfl rfl rfl rfl rfl (by kernel_rfl) Try.func4 (by kernel_rfl)
    (of_decide_eq_true (by kernel_rfl)) (by unfold Func.isWrapper; first | (rw [if_pos (by decide +kernel)]; kernel_rfl) | (rw [if_neg (by decide +kernel)]; exact ⟨rfl, rfl⟩))
    (fun os started H enc _ => edges_lifted os started H enc)
#print axioms shapeEdges_holds
end Go.Proofs.Ytfiihlgnbhcpeab
