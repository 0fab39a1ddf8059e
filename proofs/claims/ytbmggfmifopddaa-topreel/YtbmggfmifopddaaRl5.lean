/-
  The law TopReel returns true for every value of its arguments, and leaves them as they were.
-/
import Derived.Test.YtbmggfmifopddaaM3
import Derived.Carry
import Derived.ChangeSlices
namespace Go.Proofs.Ytbmggfmifopddaa
open Go.Gv Go.RowKit Go.ChangeShapes Go.WideShapes Go.ChangeAt
open Go.Ev (cn law_post)

set_option maxRecDepth 100000 in
theorem topReel_lifted (os : Os) (started : os.Started) (H : Type) (enc : TypeId × Value → H) :
    ReturnsInHanded {} Try.checked os 4 .any (Rows.topReelSpec.pre6 enc Try.prog Try.f4 Rows.topReelRow.domain false) (Rows.topReelSpec.post enc Try.prog Try.f4 false true false false) := by
  refine returnsInHanded_of_change (C := Try.checked) Try.own started (by kernel_rfl) Try.func4
    (ChangeSpec.witness6 (enc := enc) (C := Try.checked) false ⟨#[], #[.slice none 0 0, .int .i64 0, .agg #[.int .i64 0, .int .i64 0, .int .i64 0]], []⟩ 8 (by kernel_rfl) (by kernel_rfl) (by kernel_rfl) (by kernel_rfl)) ?_
  intro W base args ds gs before hval0 hW hcnd _
  have hval : ∀ (j : Nat) t v, Try.f4.params[j]? = some t → args[j]? = some v → Value.okWide Try.prog W .any base t v := hval0
  have hW' := hW
  obtain ⟨p, q, hA0, hV, rfl, hfz, hnd⟩ := hW
  have hA : DataW.TrodAll enc Try.prog W 0 (fun _ => true) true Try.f4.params.toList args.toList ds p := hA0
  rw [Try.params4] at hA hval
  obtain ⟨v0, t0, d0, s0, p0, q0, hargs, rfl, rfl, h0, hA⟩ := trodAll_cons hA
  obtain ⟨v1, t1, d1, s1, p1, q1, rfl, rfl, rfl, h1, hA⟩ := trodAll_cons hA
  obtain ⟨v2, t2, d2, s2, p2, q2, rfl, rfl, rfl, h2, hA⟩ := trodAll_cons hA
  obtain ⟨rfl, rfl, rfl⟩ := trodAll_nil hA
  obtain rfl : args = #[v0, v1, v2] := by rw [← Array.toList_inj, hargs]
  obtain ⟨rfl, rfl⟩ := trodVars_none hV
  obtain ⟨n0, T0, X0, b0, r0⟩ := open_keys Try.underlying32 (by kernel_rfl) (hval 0 32 v0 rfl rfl) h0
  obtain ⟨x1, r1, b1⟩ := open_int Try.underlying3 (by kernel_rfl) (hval 1 3 v1 rfl rfl) h1
  obtain ⟨z2, k2, y2⟩ := open_agg (n := 6) (ks := [.i .i64, .i .i64, .i .i64]) Try.underlying33 rfl (by kernel_rfl) (hval 2 33 v2 rfl rfl) h2
  obtain ⟨l2, b2, r2⟩ := three_arg k2 y2
  refine ((reel_law rok n0 T0 X0 x1 l2).2 (fun _ => False) W #[v0, v1, v2] (fun _ h => h.elim) (rels_cons.2 ⟨v0, _, rfl, r0, rels_cons.2 ⟨v1, _, rfl, r1, rels_cons.2 ⟨v2, _, rfl, r2, rels_nil.2 rfl⟩⟩⟩) (glob_none fun _ => rfl)).mono ?_
  rintro e' W' ⟨v, rfl, hv, hb⟩
  have hvt : v = .bool true := rel_x.1 hv
  subst hvt
  exact ⟨_, rfl, law_post Try.laidOut (by kernel_rfl) rfl (by kernel_rfl) Try.underlying4 rfl hW' hb⟩

/-- THE STATEMENT. -/
theorem topReel_holds : Rows.TopReelSaid :=
  OpenClaim.holds_of_wide 4 Try.f4 rfl rfl rfl rfl rfl rfl rfl ⟨rfl, rfl, rfl, rfl, rfl⟩ rfl rfl rfl rfl rfl (by kernel_rfl) Try.func4 (by kernel_rfl)
    (of_decide_eq_true (by kernel_rfl)) (by unfold Func.isWrapper; first | (rw [if_pos (by decide +kernel)]; kernel_rfl) | (rw [if_neg (by decide +kernel)]; exact ⟨rfl, rfl⟩))
    (fun os started H enc _ => topReel_lifted os started H enc)
#print axioms topReel_holds
end Go.Proofs.Ytbmggfmifopddaa
