/-
  The law ReelApart returns true for every value of its arguments, and leaves them as they were.
-/
import Derived.Test.YtbmggfmifopddaaM2
import Derived.Carry
import Derived.ChangeSlices
namespace Go.Proofs.Ytbmggfmifopddaa
open Go.Gv Go.RowKit Go.ChangeShapes Go.WideShapes Go.ChangeAt
open Go.Ev (cn law_post)

set_option maxRecDepth 100000 in
theorem reelApart_lifted (os : Os) (started : os.Started) (H : Type) (enc : TypeId × Value → H) :
    ReturnsInHanded {} Try.checked os 3 .any (Rows.reelApartSpec.pre6 enc Try.prog Try.f3 Rows.reelApartRow.domain false) (Rows.reelApartSpec.post enc Try.prog Try.f3 false true false false) := by
  refine returnsInHanded_of_change (C := Try.checked) Try.own started (by kernel_rfl) Try.func3
    (ChangeSpec.witness6 (enc := enc) (C := Try.checked) false ⟨#[], #[.agg #[.int .i64 0, .int .i64 0, .slice none 0 0], .agg #[.int .i64 0, .int .i64 0, .slice none 0 0]], []⟩ 8 (by kernel_rfl) (by kernel_rfl) (by kernel_rfl) (by kernel_rfl)) ?_
  intro W base args ds gs before hval0 hW hcnd _
  have hval : ∀ (j : Nat) t v, Try.f3.params[j]? = some t → args[j]? = some v → Value.okWide Try.prog W .any base t v := hval0
  have hW' := hW
  obtain ⟨p, q, hA0, hV, rfl, hfz, hnd⟩ := hW
  have hA : DataW.TrodAll enc Try.prog W 0 (fun _ => true) true Try.f3.params.toList args.toList ds p := hA0
  rw [Try.params3] at hA hval
  obtain ⟨v0, t0, d0, s0, p0, q0, hargs, rfl, rfl, h0, hA⟩ := trodAll_cons hA
  obtain ⟨v1, t1, d1, s1, p1, q1, rfl, rfl, rfl, h1, hA⟩ := trodAll_cons hA
  obtain ⟨rfl, rfl, rfl⟩ := trodAll_nil hA
  obtain rfl : args = #[v0, v1] := by rw [← Array.toList_inj, hargs]
  obtain ⟨rfl, rfl⟩ := trodVars_none hV
  obtain ⟨z0, k0, y0⟩ := open_agg (n := 6) (ks := [.i .i64, .i .i64, .l 1 [.i .u8]]) Try.underlying24 rfl (by kernel_rfl) (hval 0 24 v0 rfl rfl) h0
  obtain ⟨f0, b0, r0⟩ := pic_arg k0 y0
  obtain ⟨z1, k1, y1⟩ := open_agg (n := 6) (ks := [.i .i64, .i .i64, .l 1 [.i .u8]]) Try.underlying24 rfl (by kernel_rfl) (hval 1 24 v1 rfl rfl) h1
  obtain ⟨f1, b1, r1⟩ := pic_arg k1 y1
  refine ((apart_law aok b0.2 b1.2).2 (fun _ => False) W #[v0, v1] (fun _ h => h.elim) (rels_cons.2 ⟨v0, _, rfl, r0, rels_cons.2 ⟨v1, _, rfl, r1, rels_nil.2 rfl⟩⟩) (glob_none fun _ => rfl)).mono ?_
  rintro e' W' ⟨v, rfl, hv, hb⟩
  have hvt : v = .bool true := rel_x.1 hv
  subst hvt
  exact ⟨_, rfl, law_post Try.laidOut (by kernel_rfl) rfl (by kernel_rfl) Try.underlying4 rfl hW' hb⟩

/-- THE STATEMENT. -/
theorem reelApart_holds : Rows.ReelApartSaid :=
  OpenClaim.holds_of_wide 3 Try.f3 rfl rfl rfl rfl rfl rfl rfl ⟨rfl, rfl, rfl, rfl, rfl⟩ rfl rfl rfl rfl rfl (by kernel_rfl) Try.func3 (by kernel_rfl)
    (of_decide_eq_true (by kernel_rfl)) (by unfold Func.isWrapper; first | (rw [if_pos (by decide +kernel)]; kernel_rfl) | (rw [if_neg (by decide +kernel)]; exact ⟨rfl, rfl⟩))
    (fun os started H enc _ => reelApart_lifted os started H enc)
#print axioms reelApart_holds
end Go.Proofs.Ytbmggfmifopddaa
