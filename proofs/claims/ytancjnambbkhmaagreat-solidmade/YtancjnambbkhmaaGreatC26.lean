/-
  The law SolidMade returns true for every value of its arguments, and leaves them as they were.
-/
import Derived.Test.YtancjnambbkhmaaGreatC25
import Derived.Test.YtancjnambbkhmaaGreatRows
import Derived.Carry
import Derived.ChangeSlices
namespace Go.Proofs.YtancjnambbkhmaaGreat
open Go.Gv Go.RowKit Go.ChangeShapes Go.WideShapes Go.ChangeAt
open Go.Ev (cn law_post)

set_option maxRecDepth 100000 in
theorem solidMade_lifted (os : Os) (started : os.Started) (H : Type) (enc : TypeId × Value → H) :
    ReturnsInHanded {} Tryz.checked os 6 .any (Rows.solidMadeSpec.pre6 enc Tryz.prog Tryz.f6 Rows.solidMadeRow.domain false) (Rows.solidMadeSpec.post enc Tryz.prog Tryz.f6 false true false false) := by
  refine returnsInHanded_of_change (C := Tryz.checked) Tryz.own started (by kernel_rfl) Tryz.func6
    (ChangeSpec.witness6 (enc := enc) (C := Tryz.checked) false ⟨#[], #[.slice none 0 0, .int .i64 0], []⟩ 8 (by kernel_rfl) (by kernel_rfl) (by kernel_rfl) (by kernel_rfl)) ?_
  intro W base args ds gs before hval0 hW hcnd _
  have hval : ∀ (j : Nat) t v, Tryz.f6.params[j]? = some t → args[j]? = some v → Value.okWide Tryz.prog W .any base t v := hval0
  have hW' := hW
  obtain ⟨p, q, hA0, hV, rfl, hfz, hnd⟩ := hW
  have hA : DataW.TrodAll enc Tryz.prog W 0 (fun _ => true) true Tryz.f6.params.toList args.toList ds p := hA0
  rw [Tryz.params6] at hA hval
  obtain ⟨v0, t0, d0, s0, p0, q0, hargs, rfl, rfl, h0, hA⟩ := trodAll_cons hA
  obtain ⟨v1, t1, d1, s1, p1, q1, rfl, rfl, rfl, h1, hA⟩ := trodAll_cons hA
  obtain ⟨rfl, rfl, rfl⟩ := trodAll_nil hA
  obtain rfl : args = #[v0, v1] := by rw [← Array.toList_inj, hargs]
  obtain ⟨rfl, rfl⟩ := trodVars_none hV
  obtain ⟨n0, hs0, r0, b0⟩ := open_raw Tryz.underlying45 (by kernel_rfl) (hval 0 45 v0 rfl rfl) h0
  obtain ⟨n1, r1, b1⟩ := open_num Tryz.underlying3 (by kernel_rfl) (hval 1 3 v1 rfl rfl) h1
  refine ((Hs.So.solidMade_law (fun i hi => Hs.So.wf64 (b0 i hi)) n1).2 (fun _ => False) W #[v0, v1] (fun _ h => h.elim) (rels_cons.2 ⟨v0, _, rfl, r0, rels_cons.2 ⟨v1, _, rfl, r1, rels_nil.2 rfl⟩⟩) (glob_none fun _ => rfl)).mono ?_
  rintro e' W' ⟨v, rfl, hv, hb⟩
  have hvt : v = .bool true := rel_x.1 hv
  subst hvt
  exact ⟨_, rfl, law_post Tryz.laidOut (by kernel_rfl) rfl (by kernel_rfl) Tryz.underlying4 rfl hW' hb⟩

/-- THE STATEMENT. -/
theorem solidMade_holds : Rows.SolidMadeSaid :=
  OpenClaim.holds_of_wide 6 Tryz.f6 rfl rfl rfl rfl rfl rfl rfl ⟨rfl, rfl, rfl, rfl, rfl⟩ rfl rfl rfl rfl rfl (by kernel_rfl) Tryz.func6 (by kernel_rfl)
    (of_decide_eq_true (by kernel_rfl)) (by unfold Func.isWrapper; first | (rw [if_pos (by decide +kernel)]; kernel_rfl) | (rw [if_neg (by decide +kernel)]; exact ⟨rfl, rfl⟩))
    (fun os started H enc _ => solidMade_lifted os started H enc)
#print axioms solidMade_holds
end Go.Proofs.YtancjnambbkhmaaGreat
