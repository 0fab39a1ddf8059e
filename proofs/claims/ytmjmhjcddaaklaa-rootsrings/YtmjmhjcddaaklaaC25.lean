/-
  The law RootsRings returns true for every value of its arguments, and leaves them as they were.
-/
import Derived.Test.YtmjmhjcddaaklaaC24
import Derived.Test.YtmjmhjcddaaklaaRows
import Derived.Carry
import Derived.ChangeSlices
namespace Go.Proofs.Ytmjmhjcddaaklaa
open Go.Gv Go.RowKit Go.ChangeShapes Go.WideShapes Go.ChangeAt
open Go.Ev (cn law_post)

set_option maxRecDepth 100000 in
theorem rootsRings_lifted (os : Os) (started : os.Started) (H : Type) (enc : TypeId × Value → H) :
    ReturnsInHanded {} Try.checked os 4 .any (Rows.rootsRingsSpec.pre6 enc Try.prog Try.f4 Rows.rootsRingsRow.domain false) (Rows.rootsRingsSpec.post enc Try.prog Try.f4 false true false false) := by
  refine returnsInHanded_of_change (C := Try.checked) Try.own started (by kernel_rfl) Try.func4
    (ChangeSpec.witness6 (enc := enc) (C := Try.checked) false ⟨#[], #[.agg #[.int .i64 0, .int .i64 0, .int .i64 0], .agg #[.int .i64 0, .int .i64 0, .int .i64 0], .int .i64 0, .int .i64 0, .int .i64 0, .int .i64 0, .int .i64 0], []⟩ 8 (by kernel_rfl) (by kernel_rfl) (by kernel_rfl) (by kernel_rfl)) ?_
  intro W base args ds gs before hval0 hW hcnd _
  have hval : ∀ (j : Nat) t v, Try.f4.params[j]? = some t → args[j]? = some v → Value.okWide Try.prog W .any base t v := hval0
  have hW' := hW
  obtain ⟨p, q, hA0, hV, rfl, hfz, hnd⟩ := hW
  have hA : DataW.TrodAll enc Try.prog W 0 (fun _ => true) true Try.f4.params.toList args.toList ds p := hA0
  rw [Try.params4] at hA hval
  obtain ⟨v0, t0, d0, s0, p0, q0, hargs, rfl, rfl, h0, hA⟩ := trodAll_cons hA
  obtain ⟨v1, t1, d1, s1, p1, q1, rfl, rfl, rfl, h1, hA⟩ := trodAll_cons hA
  obtain ⟨v2, t2, d2, s2, p2, q2, rfl, rfl, rfl, h2, hA⟩ := trodAll_cons hA
  obtain ⟨v3, t3, d3, s3, p3, q3, rfl, rfl, rfl, h3, hA⟩ := trodAll_cons hA
  obtain ⟨v4, t4, d4, s4, p4, q4, rfl, rfl, rfl, h4, hA⟩ := trodAll_cons hA
  obtain ⟨v5, t5, d5, s5, p5, q5, rfl, rfl, rfl, h5, hA⟩ := trodAll_cons hA
  obtain ⟨v6, t6, d6, s6, p6, q6, rfl, rfl, rfl, h6, hA⟩ := trodAll_cons hA
  obtain ⟨rfl, rfl, rfl⟩ := trodAll_nil hA
  obtain rfl : args = #[v0, v1, v2, v3, v4, v5, v6] := by rw [← Array.toList_inj, hargs]
  obtain ⟨rfl, rfl⟩ := trodVars_none hV
  obtain ⟨z0, k0, y0⟩ := open_agg (n := 6) (ks := [.i .i64, .i .i64, .i .i64]) Try.underlying28 rfl (by kernel_rfl) (hval 0 28 v0 rfl rfl) h0
  obtain ⟨l0, b0, r0⟩ := three_arg k0 y0
  obtain ⟨z1, k1, y1⟩ := open_agg (n := 6) (ks := [.i .i64, .i .i64, .i .i64]) Try.underlying28 rfl (by kernel_rfl) (hval 1 28 v1 rfl rfl) h1
  obtain ⟨l1, b1, r1⟩ := three_arg k1 y1
  obtain ⟨x2, r2, b2⟩ := open_int Try.underlying3 (by kernel_rfl) (hval 2 3 v2 rfl rfl) h2
  obtain ⟨x3, r3, b3⟩ := open_int Try.underlying3 (by kernel_rfl) (hval 3 3 v3 rfl rfl) h3
  obtain ⟨x4, r4, b4⟩ := open_int Try.underlying3 (by kernel_rfl) (hval 4 3 v4 rfl rfl) h4
  obtain ⟨x5, r5, b5⟩ := open_int Try.underlying3 (by kernel_rfl) (hval 5 3 v5 rfl rfl) h5
  obtain ⟨x6, r6, b6⟩ := open_int Try.underlying3 (by kernel_rfl) (hval 6 3 v6 rfl rfl) h6
  refine ((rootsRings_law ringOk (l0 0) (l0 1) (l0 2) (l1 0) (l1 1) (l1 2) x2 x3 x4 x5 x6).2 (fun _ => False) W #[v0, v1, v2, v3, v4, v5, v6] (fun _ h => h.elim) (rels_cons.2 ⟨v0, _, rfl, r0, rels_cons.2 ⟨v1, _, rfl, r1, rels_cons.2 ⟨v2, _, rfl, r2, rels_cons.2 ⟨v3, _, rfl, r3, rels_cons.2 ⟨v4, _, rfl, r4, rels_cons.2 ⟨v5, _, rfl, r5, rels_cons.2 ⟨v6, _, rfl, r6, rels_nil.2 rfl⟩⟩⟩⟩⟩⟩⟩) (glob_none fun _ => rfl)).mono ?_
  rintro e' W' ⟨v, rfl, hv, hb⟩
  have hvt : v = .bool true := rel_x.1 hv
  subst hvt
  exact ⟨_, rfl, law_post Try.laidOut (by kernel_rfl) rfl (by kernel_rfl) Try.underlying4 rfl hW' hb⟩

/-- THE STATEMENT. -/
theorem rootsRings_holds : Rows.RootsRingsSaid :=
  OpenClaim.holds_of_wide 4 Try.f4 rfl rfl rfl rfl rfl rfl rfl ⟨rfl, rfl, rfl, rfl, rfl⟩ rfl rfl rfl rfl rfl (by kernel_rfl) Try.func4 (by kernel_rfl)
    (of_decide_eq_true (by kernel_rfl)) (by unfold Func.isWrapper; first | (rw [if_pos (by decide +kernel)]; kernel_rfl) | (rw [if_neg (by decide +kernel)]; exact ⟨rfl, rfl⟩))
    (fun os started H enc _ => rootsRings_lifted os started H enc)
#print axioms rootsRings_holds
end Go.Proofs.Ytmjmhjcddaaklaa
