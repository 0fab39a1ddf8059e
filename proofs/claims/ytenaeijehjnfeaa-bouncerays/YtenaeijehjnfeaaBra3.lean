/-
  The law BounceRays returns true for every eye, place and height, the floats that are no numbers among them, and leaves its arguments as they were.
-/
import Derived.Test.YtenaeijehjnfeaaBra2b
import Derived.Test.YtenaeijehjnfeaaEv8
import Derived.Carry
namespace Go.Proofs.Ytenaeijehjnfeaa
open Go.Gv Go.RowKit Go.ChangeShapes Go.WideShapes Go.ChangeAt
open Go.Ev (cn feq law_post flatKinds flat_arg)

theorem rays_ev (e : Nat → Nat) (u v : Int) (t : Nat) : ev Try.prog D2 [] noL Try.f3 [.agg (eC e), iA u, iA v, .f t] ret = some (Out.of (bA true)) := by
  have h : ev Try.prog D2 [] noL Try.f3 [.agg (eC e), iA u, iA v, .f t] ret = some (Out.of (bA (cond (cond (cond (sEr (M10 e) u v t == sEr (M10 e) u v t)
      (sameVS (sAt (M10 e) u v t 0) (sAt (M10 e) u v t 1) (sAt (M10 e) u v t 2) (sAt (M10 e) u v t 0) (sAt (M10 e) u v t 1) (sAt (M10 e) u v t 2)) false)
      (sameVS (sAt (M10 e) u v t 3) (sAt (M10 e) u v t 4) (sAt (M10 e) u v t 5) (sAt (M10 e) u v t 3) (sAt (M10 e) u v t 4) (sAt (M10 e) u v t 5)) false) (feq (sAt (M10 e) u v t 6) (sAt (M10 e) u v t 6)) false))) := by kernel_rfl
  have h6 : sAt (M10 e) u v t 6 = 0 := by unfold sAt; cases sOk (M10 e) u v t <;> rfl
  rw [h, sameVS_self, sameVS_self, h6]
  have h0 : feq 0 0 = true := by decide +kernel
  simp [h0]
theorem rays_spec (e : Nat → Nat) (u v : Int) (t : Nat) : FSpec Try.prog 3 [.agg (eC e), iA u, iA v, .f t] (bA true) := gspec D2_ok k_nil Try.func3 (by kernel_rfl) (by kernel_rfl) noL_ok rfl (rays_ev e u v t)

theorem Try.own : ownKnob Try.prog.godebug = none := by kernel_rfl
theorem Try.laidOut : laidOutB Try.prog = true := by kernel_rfl
theorem Try.flatEye : flatKinds Try.prog 6 26 = some [.float .f64 0, .float .f64 0, .float .f64 0, .float .f64 0, .float .f64 0, .float .f64 0, .float .f64 0, .float .f64 0, .float .f64 0, .float .f64 0] := by kernel_rfl

/-- An eye that comes in: ten floats. -/
theorem eye_arg {H : Type} {enc : TypeId × Value → H} {W : World} {r : Reach} {b0 : Nat} {v : Value} {d : DataW H} {p : List MemPlace} (hv : Value.okWide Try.prog W r b0 26 v) (h : DataW.Trod enc Try.prog W 0 (fun _ => true) true 26 v d p) :
    ∃ m : Nat → Nat, v = EY m := by
  obtain ⟨cs, rfl, hf⟩ := flat_arg Try.underlying26 rfl Try.flatEye hv h
  match cs, hf with
  | [_, _, _, _, _, _, _, _, _, _], ⟨⟨a0, h0, _⟩, ⟨a1, h1, _⟩, ⟨a2, h2, _⟩, ⟨a3, h3, _⟩, ⟨a4, h4, _⟩, ⟨a5, h5, _⟩, ⟨a6, h6, _⟩, ⟨a7, h7, _⟩, ⟨a8, h8, _⟩, ⟨a9, h9, _⟩, _⟩ =>
    exact ⟨ls [a0, a1, a2, a3, a4, a5, a6, a7, a8, a9], by rw [h0, h1, h2, h3, h4, h5, h6, h7, h8, h9]; rfl⟩
theorem eye_rel (E : Env) (m : Nat → Nat) : rel E (.agg (eC fun i => cn (m i))) (EY m) := by
  show relA _ _ _
  unfold relA
  refine ⟨_, rfl, ?_⟩
  show rels E _ _
  have one : ∀ x, rel E (.f (cn x)) (.float .f64 x) := fun x => by show relA _ _ _; unfold relA; exact ⟨x, rfl, rfl⟩
  exact rels_cons.2 ⟨_, _, rfl, one _, rels_cons.2 ⟨_, _, rfl, one _, rels_cons.2 ⟨_, _, rfl, one _, rels_cons.2 ⟨_, _, rfl, one _, rels_cons.2 ⟨_, _, rfl, one _, rels_cons.2 ⟨_, _, rfl, one _, rels_cons.2 ⟨_, _, rfl, one _, rels_cons.2 ⟨_, _, rfl, one _, rels_cons.2 ⟨_, _, rfl, one _, rels_cons.2 ⟨_, _, rfl, one _, rels_nil.2 rfl⟩⟩⟩⟩⟩⟩⟩⟩⟩⟩

set_option maxRecDepth 100000 in
theorem rays_lifted (os : Os) (started : os.Started) (H : Type) (enc : TypeId × Value → H) :
    ReturnsInHanded {} Try.checked os 3 .any (Rows.bounceRaysSpec.pre6 enc Try.prog Try.f3 Rows.bounceRaysRow.domain false) (Rows.bounceRaysSpec.post enc Try.prog Try.f3 false true false false) := by
  refine returnsInHanded_of_change (C := Try.checked) Try.own started (by kernel_rfl) Try.func3
    (ChangeSpec.witness6 (enc := enc) (C := Try.checked) false ⟨#[], #[EY (fun _ => 0), .int .i64 0, .int .i64 0, .float .f64 0], []⟩ 8 (by kernel_rfl) (by kernel_rfl) (by kernel_rfl) (by kernel_rfl)) ?_
  intro W base args ds gs before hval0 hW hcnd _
  have hval : ∀ (j : Nat) t v, Try.f3.params[j]? = some t → args[j]? = some v → Value.okWide Try.prog W .any base t v := hval0
  have hW' := hW
  obtain ⟨p, q, hA0, hV, rfl, hfz, hnd⟩ := hW
  have hA : DataW.TrodAll enc Try.prog W 0 (fun _ => true) true Try.f3.params.toList args.toList ds p := hA0
  rw [Try.params3] at hA hval
  obtain ⟨v0, v1, v2, v3, d0, d1, d2, d3, p0, p1, p2, p3, rfl, rfl, rfl, h0, h1, h2, h3⟩ := trodAll_four hA
  obtain ⟨rfl, rfl⟩ := trodVars_none hV
  obtain ⟨m, rfl⟩ := eye_arg (hval 0 26 v0 rfl rfl) h0
  obtain ⟨a, rfl, rfl, rfl, _⟩ := open_int Try.underlying3 (hval 1 3 v1 rfl rfl) h1
  obtain ⟨b, rfl, rfl, rfl, _⟩ := open_int Try.underlying3 (hval 2 3 v2 rfl rfl) h2
  obtain ⟨k, rfl, rfl, rfl, _⟩ := open_float Try.underlying22 (hval 3 22 v3 rfl rfl) h3
  have i1 : rel (Env.all W) (iA a) (.int .i64 a) := rel_x.2 rfl
  have i2 : rel (Env.all W) (iA b) (.int .i64 b) := rel_x.2 rfl
  have i3 : rel (Env.all W) (.f (cn k)) (.float .f64 k) := by show relA _ _ _; unfold relA; exact ⟨k, rfl, rfl⟩
  refine ((rays_spec (fun i => cn (m i)) a b (cn k)).2 (fun _ => False) W #[EY m, .int .i64 a, .int .i64 b, .float .f64 k] (fun _ h => h.elim) (rels_cons.2 ⟨_, _, rfl, eye_rel _ m, rels_cons.2 ⟨_, _, rfl, i1, rels_cons.2 ⟨_, _, rfl, i2, rels_cons.2 ⟨_, _, rfl, i3, rels_nil.2 rfl⟩⟩⟩⟩) (glob_none fun _ => rfl)).mono ?_
  rintro e' W' ⟨v, rfl, hv, hb⟩
  have hvt : v = .bool true := rel_x.1 hv
  subst hvt
  exact ⟨_, rfl, law_post Try.laidOut (by kernel_rfl) rfl (by kernel_rfl) Try.underlying4 rfl hW' hb⟩

/-- THE STATEMENT. -/
theorem bounceRays_holds : Rows.BounceRaysSaid :=
  OpenClaim.holds_of_wide 3 Try.f3 rfl rfl rfl rfl rfl rfl rfl ⟨rfl, rfl, rfl, rfl, rfl⟩ rfl rfl rfl rfl rfl (by kernel_rfl) Try.func3 (by kernel_rfl)
    (of_decide_eq_true (by kernel_rfl)) (by unfold Func.isWrapper; first | (rw [if_pos (by decide +kernel)]; kernel_rfl) | (rw [if_neg (by decide +kernel)]; exact ⟨rfl, rfl⟩))
    (fun os started H enc _ => rays_lifted os started H enc)
#print axioms bounceRays_holds
end Go.Proofs.Ytenaeijehjnfeaa
