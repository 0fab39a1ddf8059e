/-
  The law FieldSays returns true for every field and every ray, whatever their numbers and however many heights, and leaves them as they were.
-/
import Derived.Test.YtiagpcjonaahlaaGreatGr6
import Derived.Carry
import Derived.ChangeSlices
namespace Go.Proofs.YtiagpcjonaahlaaGreat
open Go.Gv Go.RowKit Go.ChangeShapes Go.WideShapes Go.ChangeAt
open Go.Ev (cn law_post)

theorem Tryz.own : ownKnob Tryz.prog.godebug = none := by kernel_rfl
theorem Tryz.laidOut : laidOutB Tryz.prog = true := by kernel_rfl
theorem law_ev0 (F : Fd) (r : Nat → Nat) : ev Tryz.prog D2 [] noL Tryz.f3 [.agg F.c, .agg (rC r)] ret = cond (decide ((F.n : Int) > 80)) (some (Out.of (bA true))) none := by kernel_rfl
/-- However many heights there are. -/
theorem law_all (F : Fd) (r : Nat → Nat) : FSpec Tryz.prog 3 [.agg F.c, .agg (rC r)] (bA true) := by
  by_cases h : (F.n : Int) > 80
  · refine gspec D2_ok k_nil Tryz.func3 (by kernel_rfl) (by kernel_rfl) noL_ok rfl ?_
    rw [law_ev0, decide_eq_true h]
    rfl
  · exact law_spec F r (by omega)
def hsOf (el : Nat → List AV) (i : Nat) : Int := match el i with
  | [.x (.int .i64 h)] => h
  | _ => 0
theorem sl_congr {E : Env} {sz n : Nat} {el el' : Nat → List AV} {v : Value} (h : rel E (.sl sz n el) v) (he : ∀ i, i < n → el' i = el i) : rel E (.sl sz n el') v := by
  have h : relA _ _ _ := h
  show relA _ _ _
  rw [relA] at h ⊢
  obtain ⟨a, c, h1, h2, h3⟩ := h
  refine ⟨a, c, h1, h2, ?_⟩
  rcases h3 with h3 | ⟨b, o, cs, e, fz, h4, h5, h6, h7⟩
  · exact Or.inl h3
  · exact Or.inr ⟨b, o, cs, e, fz, h4, h5, h6, fun i hi => by rw [he i hi]; exact h7 i hi⟩
theorem fitL_one {k : Kd} {zs : List AV} (h : fitL [k] zs) : ∃ a, zs = [a] ∧ fitA k a := by
  match zs, h with
  | [a], h => exact ⟨a, rfl, (fitL_cons.1 h).1⟩
  | [], h => have := fitL_length h; simp at this
  | _ :: _ :: _, h => have := fitL_length h; simp at this
theorem fit_f {a : AV} (h : fitA .f a) : ∃ n, a = .f n := by rw [fitA] at h; obtain ⟨n, h1, _⟩ := h; exact ⟨_, h1⟩
theorem fit_i {a : AV} {k : IntKind} (h : fitA (.i k) a) : ∃ n, a = .x (.int k n) := by rw [fitA] at h; obtain ⟨n, h1, _⟩ := h; exact ⟨_, h1⟩
/-- A field that came in. -/
theorem field_arg {E : Env} {zs : List AV} {v : Value} (h : fitL [.i .i64, .i .i64, .f, .f, .f, .f, .l 1 [.i .i64], .i .i64] zs) (hr : rel E (.agg zs) v) : ∃ F : Fd, rel E (.agg F.c) v := by
  match zs, h with
  | [a0, a1, a2, a3, a4, a5, a6, a7], h =>
    simp only [fitL_cons] at h
    obtain ⟨h0, h1, h2, h3, h4, h5, h6, h7, _⟩ := h
    obtain ⟨W, rfl⟩ := fit_i h0
    obtain ⟨H, rfl⟩ := fit_i h1
    obtain ⟨x, rfl⟩ := fit_f h2
    obtain ⟨y, rfl⟩ := fit_f h3
    obtain ⟨z, rfl⟩ := fit_f h4
    obtain ⟨s, rfl⟩ := fit_f h5
    obtain ⟨k, rfl⟩ := fit_i h7
    rw [fitA] at h6
    obtain ⟨n, el, rfl, _, hel⟩ := h6
    refine ⟨⟨W, H, ls [x, y, z], s, n, hsOf el, k⟩, ?_⟩
    have hr : relA _ _ _ := hr
    show relA _ _ _
    rw [relA] at hr ⊢
    obtain ⟨vs, e, hr⟩ := hr
    refine ⟨vs, e, ?_⟩
    have hr : rels E _ _ := hr
    show rels E _ _
    obtain ⟨v0, t0, e0, r0, hr⟩ := rels_cons.1 hr
    obtain ⟨v1, t1, e1, r1, hr⟩ := rels_cons.1 hr
    obtain ⟨v2, t2, e2, r2, hr⟩ := rels_cons.1 hr
    obtain ⟨v3, t3, e3, r3, hr⟩ := rels_cons.1 hr
    obtain ⟨v4, t4, e4, r4, hr⟩ := rels_cons.1 hr
    obtain ⟨v5, t5, e5, r5, hr⟩ := rels_cons.1 hr
    obtain ⟨v6, t6, e6, r6, hr⟩ := rels_cons.1 hr
    refine rels_cons.2 ⟨v0, t0, e0, r0, rels_cons.2 ⟨v1, t1, e1, r1, rels_cons.2 ⟨v2, t2, e2, r2, rels_cons.2 ⟨v3, t3, e3, r3, rels_cons.2 ⟨v4, t4, e4, r4, rels_cons.2 ⟨v5, t5, e5, r5, rels_cons.2 ⟨v6, t6, e6, ?_, hr⟩⟩⟩⟩⟩⟩⟩
    refine sl_congr r6 fun i hi => ?_
    obtain ⟨a, ha, hf⟩ := fitL_one (hel i hi)
    obtain ⟨m, rfl⟩ := fit_i hf
    show [iA (hsOf el i)] = el i
    unfold hsOf
    rw [ha]
    rfl
  | [], h => have := fitL_length h; simp at this
  | [_], h => have := fitL_length h; simp at this
  | [_, _], h => have := fitL_length h; simp at this
  | [_, _, _], h => have := fitL_length h; simp at this
  | [_, _, _, _], h => have := fitL_length h; simp at this
  | [_, _, _, _, _], h => have := fitL_length h; simp at this
  | [_, _, _, _, _, _], h => have := fitL_length h; simp at this
  | [_, _, _, _, _, _, _], h => have := fitL_length h; simp at this
  | _ :: _ :: _ :: _ :: _ :: _ :: _ :: _ :: _ :: _, h => have := fitL_length h; simp at this
theorem ray_arg {E : Env} {zs : List AV} {v : Value} (h : fitL [.f, .f, .f, .f, .f, .f, .f] zs) (hr : rel E (.agg zs) v) : ∃ r : Nat → Nat, rel E (.agg (rC r)) v := by
  match zs, h with
  | [a0, a1, a2, a3, a4, a5, a6], h =>
    simp only [fitL_cons] at h
    obtain ⟨h0, h1, h2, h3, h4, h5, h6, _⟩ := h
    obtain ⟨x0, rfl⟩ := fit_f h0
    obtain ⟨x1, rfl⟩ := fit_f h1
    obtain ⟨x2, rfl⟩ := fit_f h2
    obtain ⟨x3, rfl⟩ := fit_f h3
    obtain ⟨x4, rfl⟩ := fit_f h4
    obtain ⟨x5, rfl⟩ := fit_f h5
    obtain ⟨x6, rfl⟩ := fit_f h6
    exact ⟨ls [x0, x1, x2, x3, x4, x5, x6], hr⟩
  | [], h => have := fitL_length h; simp at this
  | [_], h => have := fitL_length h; simp at this
  | [_, _], h => have := fitL_length h; simp at this
  | [_, _, _], h => have := fitL_length h; simp at this
  | [_, _, _, _], h => have := fitL_length h; simp at this
  | [_, _, _, _, _], h => have := fitL_length h; simp at this
  | [_, _, _, _, _, _], h => have := fitL_length h; simp at this
  | _ :: _ :: _ :: _ :: _ :: _ :: _ :: _ :: _, h => have := fitL_length h; simp at this

set_option maxRecDepth 100000 in
theorem field_lifted (os : Os) (started : os.Started) (H : Type) (enc : TypeId × Value → H) :
    ReturnsInHanded {} Tryz.checked os 3 .any (Rows.fieldSaysSpec.pre6 enc Tryz.prog Tryz.f3 Rows.fieldSaysRow.domain false) (Rows.fieldSaysSpec.post enc Tryz.prog Tryz.f3 false true false false) := by
  refine returnsInHanded_of_change (C := Tryz.checked) Tryz.own started (by kernel_rfl) Tryz.func3
    (ChangeSpec.witness6 (enc := enc) (C := Tryz.checked) false ⟨#[], #[.agg #[.int .i64 0, .int .i64 0, .float .f64 0, .float .f64 0, .float .f64 0, .float .f64 0, .slice none 0 0, .int .i64 0], RY (fun _ => 0)], []⟩ 8 (by kernel_rfl) (by kernel_rfl) (by kernel_rfl) (by kernel_rfl)) ?_
  intro W base args ds gs before hval0 hW hcnd _
  have hval : ∀ (j : Nat) t v, Tryz.f3.params[j]? = some t → args[j]? = some v → Value.okWide Tryz.prog W .any base t v := hval0
  have hW' := hW
  obtain ⟨p, q, hA0, hV, rfl, hfz, hnd⟩ := hW
  have hA : DataW.TrodAll enc Tryz.prog W 0 (fun _ => true) true Tryz.f3.params.toList args.toList ds p := hA0
  rw [Tryz.params3] at hA hval
  obtain ⟨v0, v1, d0, d1, p0, p1, rfl, rfl, rfl, h0, h1⟩ := trodAll_two hA
  obtain ⟨rfl, rfl⟩ := trodVars_none hV
  obtain ⟨zs, f0, r0⟩ := open_agg (n := 6) (ks := [.i .i64, .i .i64, .f, .f, .f, .f, .l 1 [.i .i64], .i .i64]) Tryz.underlying27 rfl (by kernel_rfl) (hval 0 27 v0 rfl rfl) h0
  obtain ⟨F, rF⟩ := field_arg f0 r0
  obtain ⟨bs, f1, r1⟩ := open_agg (n := 6) (ks := [.f, .f, .f, .f, .f, .f, .f]) Tryz.underlying29 rfl (by kernel_rfl) (hval 1 29 v1 rfl rfl) h1
  obtain ⟨r, rR⟩ := ray_arg f1 r1
  refine ((law_all F r).2 (fun _ => False) W #[v0, v1] (fun _ h => h.elim) (rels_cons.2 ⟨v0, [v1], rfl, rF, rels_cons.2 ⟨v1, [], rfl, rR, rels_nil.2 rfl⟩⟩)).mono ?_
  rintro e' W' ⟨v, rfl, hv, hb⟩
  have hvt : v = .bool true := rel_x.1 hv
  subst hvt
  exact ⟨_, rfl, law_post Tryz.laidOut (by kernel_rfl) rfl (by kernel_rfl) Tryz.underlying4 rfl hW' hb⟩

/-- THE STATEMENT. -/
theorem fieldSays_holds : Rows.FieldSaysSaid :=
  OpenClaim.holds_of_wide 3 Tryz.f3 rfl rfl rfl rfl rfl rfl rfl ⟨rfl, rfl, rfl, rfl, rfl⟩ rfl rfl rfl rfl rfl (by kernel_rfl) Tryz.func3 (by kernel_rfl)
    (of_decide_eq_true (by kernel_rfl)) (by unfold Func.isWrapper; first | (rw [if_pos (by decide +kernel)]; kernel_rfl) | (rw [if_neg (by decide +kernel)]; exact ⟨rfl, rfl⟩))
    (fun os started H enc _ => field_lifted os started H enc)
#print axioms fieldSays_holds
end Go.Proofs.YtiagpcjonaahlaaGreat
