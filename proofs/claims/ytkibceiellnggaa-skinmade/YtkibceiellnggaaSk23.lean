/-
  The law SkinSays returns true for every picture, whatever its sides and however many bytes, and every three numbers, and leaves them as they were.
-/
import Derived.Test.YtkibceiellnggaaSk22
import Derived.Carry
import Derived.ChangeSlices
namespace Go.Proofs.Ytkibceiellnggaa
open Go.Gv Go.RowKit Go.ChangeShapes Go.WideShapes Go.ChangeAt
open Go.Ev (cn law_post)

def pxOf (el : Nat → List AV) (i : Nat) : Int := match el i with
  | [.x (.int .u8 h)] => h
  | _ => 0
theorem sl_congr {E : Env} {sz n : Nat} {el el' : Nat → List AV} {v : Value} (h : rel E (.sl sz n el) v) (he : ∀ i, i < n → el' i = el i) : rel E (.sl sz n el') v := by
  have h : relA _ _ _ := h
  show relA _ _ _
  rw [relA] at h ⊢
  obtain ⟨a, c, h1, h2, h3⟩ := h
  refine ⟨a, c, h1, h2, ?_⟩
  rcases h3 with h3 | ⟨b, o, cs, e, fz, h4, h5, h6, h7⟩
  · exact Or.inl h3
  · exact Or.inr ⟨b, o, cs, e, fz, h4, h5, h6, fun i hi => by rw [he i hi]; exact h7 i hi⟩
theorem fitL_one {k : Kd} {zs : List AV} (h : fitL [k] zs) : ∃ a, zs = [a] ∧ fitA k a := by
  match zs, h with
  | [a], h => exact ⟨a, rfl, (fitL_cons.1 h).1⟩
  | [], h => have := fitL_length h; simp at this
  | _ :: _ :: _, h => have := fitL_length h; simp at this
theorem fit_iw {a : AV} {k : IntKind} (h : fitA (.i k) a) : ∃ n, a = .x (.int k n) ∧ (Lit.int k n).wf = true := by rw [fitA] at h; exact h
theorem u8_wf {n : Int} (h : (Lit.int .u8 n).wf = true) : 0 ≤ n ∧ n ≤ 255 := by
  simp [Lit.wf, IntKind.min, IntKind.max, IntKind.signed, IntKind.bits] at h
  omega
/-- A picture that came in. -/
theorem pic_arg {E : Env} {zs : List AV} {v : Value} (h : fitL [.i .i64, .i .i64, .l 1 [.i .u8]] zs) (hr : rel E (.agg zs) v) : ∃ p : Pic, (∀ i, i < p.n → 0 ≤ p.px i ∧ p.px i ≤ 255) ∧ rel E (.agg p.c) v := by
  match zs, h with
  | [a0, a1, a2], h =>
    simp only [fitL_cons] at h
    obtain ⟨h0, h1, h6, _⟩ := h
    obtain ⟨W, rfl, _⟩ := fit_iw h0
    obtain ⟨H, rfl, _⟩ := fit_iw h1
    rw [fitA] at h6
    obtain ⟨n, el, rfl, _, hel⟩ := h6
    refine ⟨⟨W, H, n, pxOf el⟩, fun i hi => ?_, ?_⟩
    · obtain ⟨a, ha, hf⟩ := fitL_one (hel i hi)
      obtain ⟨m, rfl, hm⟩ := fit_iw hf
      show 0 ≤ pxOf el i ∧ pxOf el i ≤ 255
      unfold pxOf
      rw [ha]
      exact u8_wf hm
    · have hr : relA _ _ _ := hr
      show relA _ _ _
      rw [relA] at hr ⊢
      obtain ⟨vs, e, hr⟩ := hr
      refine ⟨vs, e, ?_⟩
      have hr : rels E _ _ := hr
      show rels E _ _
      obtain ⟨v0, t0, e0, r0, hr⟩ := rels_cons.1 hr
      obtain ⟨v1, t1, e1, r1, hr⟩ := rels_cons.1 hr
      obtain ⟨v6, t6, e6, r6, hr⟩ := rels_cons.1 hr
      refine rels_cons.2 ⟨v0, t0, e0, r0, rels_cons.2 ⟨v1, t1, e1, r1, rels_cons.2 ⟨v6, t6, e6, ?_, hr⟩⟩⟩
      refine sl_congr r6 fun i hi => ?_
      obtain ⟨a, ha, hf⟩ := fitL_one (hel i hi)
      obtain ⟨m, rfl, _⟩ := fit_iw hf
      show [yA (pxOf el i)] = el i
      unfold pxOf
      rw [ha]
      rfl
  | [], h => have := fitL_length h; simp at this
  | [_], h => have := fitL_length h; simp at this
  | [_, _], h => have := fitL_length h; simp at this
  | _ :: _ :: _ :: _ :: _, h => have := fitL_length h; simp at this

set_option maxRecDepth 100000 in
theorem skin_lifted (os : Os) (started : os.Started) (H : Type) (enc : TypeId × Value → H) :
    ReturnsInHanded {} Try.checked os 3 .any (Rows.skinSaysSpec.pre6 enc Try.prog Try.f3 Rows.skinSaysRow.domain false) (Rows.skinSaysSpec.post enc Try.prog Try.f3 false true false false) := by
  refine returnsInHanded_of_change (C := Try.checked) Try.own started (by kernel_rfl) Try.func3
    (ChangeSpec.witness6 (enc := enc) (C := Try.checked) false ⟨#[], #[.agg #[.int .i64 0, .int .i64 0, .slice none 0 0], .int .i64 0, .int .i64 0, .int .i64 0], []⟩ 8 (by kernel_rfl) (by kernel_rfl) (by kernel_rfl) (by kernel_rfl)) ?_
  intro W base args ds gs before hval0 hW hcnd _
  have hval : ∀ (j : Nat) t v, Try.f3.params[j]? = some t → args[j]? = some v → Value.okWide Try.prog W .any base t v := hval0
  have hW' := hW
  obtain ⟨p, q, hA0, hV, rfl, hfz, hnd⟩ := hW
  have hA : DataW.TrodAll enc Try.prog W 0 (fun _ => true) true Try.f3.params.toList args.toList ds p := hA0
  rw [Try.params3] at hA hval
  obtain ⟨v0, t0, d0, s0, p0, q0, hargs, rfl, rfl, h0, hA⟩ := trodAll_cons hA
  obtain ⟨v1, t1, d1, s1, p1, q1, rfl, rfl, rfl, h1, hA⟩ := trodAll_cons hA
  obtain ⟨v2, t2, d2, s2, p2, q2, rfl, rfl, rfl, h2, hA⟩ := trodAll_cons hA
  obtain ⟨v3, t3, d3, s3, p3, q3, rfl, rfl, rfl, h3, hA⟩ := trodAll_cons hA
  obtain ⟨rfl, rfl, rfl⟩ := trodAll_nil hA
  obtain rfl : args = #[v0, v1, v2, v3] := by rw [← Array.toList_inj, hargs]
  obtain ⟨rfl, rfl⟩ := trodVars_none hV
  obtain ⟨zs, f0, r0⟩ := open_agg (n := 6) (ks := [.i .i64, .i .i64, .l 1 [.i .u8]]) Try.underlying24 rfl (by kernel_rfl) (hval 0 24 v0 rfl rfl) h0
  obtain ⟨pc, hpx, rP⟩ := pic_arg f0 r0
  obtain ⟨x1, r1, _⟩ := open_int Try.underlying3 (by kernel_rfl) (hval 1 3 v1 rfl rfl) h1
  obtain ⟨x2, r2, _⟩ := open_int Try.underlying3 (by kernel_rfl) (hval 2 3 v2 rfl rfl) h2
  obtain ⟨x3, r3, _⟩ := open_int Try.underlying3 (by kernel_rfl) (hval 3 3 v3 rfl rfl) h3
  refine ((law_spec hpx x1 x2 x3).2 (fun _ => False) W #[v0, v1, v2, v3] (fun _ h => h.elim) (rels_cons.2 ⟨v0, _, rfl, rP, rels_cons.2 ⟨v1, _, rfl, r1, rels_cons.2 ⟨v2, _, rfl, r2, rels_cons.2 ⟨v3, [], rfl, r3, rels_nil.2 rfl⟩⟩⟩⟩) (glob_none fun _ => rfl)).mono ?_
  rintro e' W' ⟨v, rfl, hv, hb⟩
  have hvt : v = .bool true := rel_x.1 hv
  subst hvt
  exact ⟨_, rfl, law_post Try.laidOut (by kernel_rfl) rfl (by kernel_rfl) Try.underlying4 rfl hW' hb⟩

/-- THE STATEMENT. -/
theorem skinSays_holds : Rows.SkinSaysSaid :=
  OpenClaim.holds_of_wide 3 Try.f3 rfl rfl rfl rfl rfl rfl rfl ⟨rfl, rfl, rfl, rfl, rfl⟩ rfl rfl rfl rfl rfl (by kernel_rfl) Try.func3 (by kernel_rfl)
    (of_decide_eq_true (by kernel_rfl)) (by unfold Func.isWrapper; first | (rw [if_pos (by decide +kernel)]; kernel_rfl) | (rw [if_neg (by decide +kernel)]; exact ⟨rfl, rfl⟩))
    (fun os started H enc _ => skin_lifted os started H enc)
#print axioms skinSays_holds
end Go.Proofs.Ytkibceiellnggaa
