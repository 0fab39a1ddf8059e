/-
  The law TopSpans returns true for every value of its arguments, and leaves them as they were.
-/
import Derived.Test.YtancjnambbkhmaaGreatC24
import Derived.Test.YtancjnambbkhmaaGreatRows
import Derived.Carry
import Derived.ChangeSlices
import Derived.SizedLaws
namespace Go.Proofs.YtancjnambbkhmaaGreat
open Go.Gv Go.RowKit Go.ChangeShapes Go.WideShapes Go.ChangeAt
open Go.Ev (cn law_post)

namespace Hs.So
theorem wf64 {n : Int} (h : (Lit.int .i64 n).wf = true) : -9223372036854775808 ≤ n ∧ n ≤ 9223372036854775807 := by
  have h1 : IntKind.i64.min ≤ n ∧ n ≤ IntKind.i64.max := by simpa [Lit.wf] using h
  rw [show IntKind.i64.min = -9223372036854775808 by decide, show IntKind.i64.max = 9223372036854775807 by decide] at h1
  exact h1
end Hs.So
/-- A row of whole numbers that came in is no longer than what a machine reaches. -/
theorem raw_len {H : Type} {enc : TypeId × Value → H} {P : Program} {w : World} {t e : TypeId} {v : Value} {d : DataW H} {p : List MemPlace} {ts : List TypeId} {ds : List (DataW H)} (hu : P.underlying t = some (.slice e)) (h8 : P.bytesOf e = 8)
    (h : DataW.Trod enc P w 0 (fun _ => true) true t v d p) (hz : (DataW.weightsEach P ts ds).all (· ≤ reachBytes) = true) {j : Nat} (ht : ts[j]? = some t) (hd : ds[j]? = some d) {E : Env} {n : Nat} {hs : Nat → Int} (hr : rel E (rsl n hs) v) : n ≤ 2305843009213693952 := by
  obtain ⟨fuel, hf⟩ := h
  obtain ⟨a, c, rfl, _⟩ := rel_sl.1 hr
  have hf : DataW.trod enc P w 0 (fun _ => true) true fuel t [.slice a n c] = some (d, p) := hf
  rcases DataW.trod_slice hu hf with ⟨h0, _⟩ | ⟨a', len, cap, elems, rest, m, _, h1, h2, _, _, _, hl, _⟩
  · injection h0 with h0
    injection h0 with _ h0 _
    omega
  · injection h1 with h1
    injection h1 with _ h1 _
    injection h2 with h2 _
    subst h2
    have := sized_slice hz ht hd hu
    rw [h8, List.length_map] at this
    have hR : reachBytes ≤ 140737488355328 := by decide
    omega
set_option maxRecDepth 100000 in
theorem topSpans_lifted (os : Os) (started : os.Started) (H : Type) (enc : TypeId × Value → H) :
    ReturnsInHanded {} Tryz.checked os 7 .any (Rows.topSpansSpec.pre6 enc Tryz.prog Tryz.f7 Rows.topSpansRow.domain false) (Rows.topSpansSpec.post enc Tryz.prog Tryz.f7 false true false false) := by
  refine returnsInHanded_of_change_sized (C := Tryz.checked) Tryz.own started (by kernel_rfl) Tryz.func7
    (ChangeSpec.witness6 (enc := enc) (C := Tryz.checked) false ⟨#[], #[.slice none 0 0, .slice none 0 0, .int .i64 0, .int .i64 0, .int .i64 0], []⟩ 8 (by kernel_rfl) (by kernel_rfl) (by kernel_rfl) (by kernel_rfl)) ?_
  intro W base args ds gs before hval0 hW hcnd hz0 _
  have hval : ∀ (j : Nat) t v, Tryz.f7.params[j]? = some t → args[j]? = some v → Value.okWide Tryz.prog W .any base t v := hval0
  have hW' := hW
  obtain ⟨p, q, hA0, hV, rfl, hfz, hnd⟩ := hW
  have hA : DataW.TrodAll enc Tryz.prog W 0 (fun _ => true) true Tryz.f7.params.toList args.toList ds p := hA0
  have hz : (DataW.weightsEach Tryz.prog Tryz.f7.params.toList (ds ++ gs)).all (· ≤ reachBytes) = true := hz0
  rw [Tryz.params7] at hA hval hz
  obtain ⟨v0, t0, d0, s0, p0, q0, hargs, rfl, rfl, h0, hA⟩ := trodAll_cons hA
  obtain ⟨v1, t1, d1, s1, p1, q1, rfl, rfl, rfl, h1, hA⟩ := trodAll_cons hA
  obtain ⟨v2, t2, d2, s2, p2, q2, rfl, rfl, rfl, h2, hA⟩ := trodAll_cons hA
  obtain ⟨v3, t3, d3, s3, p3, q3, rfl, rfl, rfl, h3, hA⟩ := trodAll_cons hA
  obtain ⟨v4, t4, d4, s4, p4, q4, rfl, rfl, rfl, h4, hA⟩ := trodAll_cons hA
  obtain ⟨rfl, rfl, rfl⟩ := trodAll_nil hA
  obtain rfl : args = #[v0, v1, v2, v3, v4] := by rw [← Array.toList_inj, hargs]
  obtain ⟨rfl, rfl⟩ := trodVars_none hV
  obtain ⟨n0, hs0, r0, b0⟩ := open_raw Tryz.underlying45 (by kernel_rfl) (hval 0 45 v0 rfl rfl) h0
  obtain ⟨n1, hs1, r1, b1⟩ := open_raw Tryz.underlying45 (by kernel_rfl) (hval 1 45 v1 rfl rfl) h1
  obtain ⟨n2, r2, b2⟩ := open_num Tryz.underlying3 (by kernel_rfl) (hval 2 3 v2 rfl rfl) h2
  obtain ⟨n3, r3, b3⟩ := open_num Tryz.underlying3 (by kernel_rfl) (hval 3 3 v3 rfl rfl) h3
  obtain ⟨n4, r4, b4⟩ := open_num Tryz.underlying3 (by kernel_rfl) (hval 4 3 v4 rfl rfl) h4
  have m0 := raw_len Tryz.underlying45 (by kernel_rfl) h0 hz (j := 0) rfl rfl r0
  have m1 := raw_len Tryz.underlying45 (by kernel_rfl) h1 hz (j := 1) rfl rfl r1
  refine ((Hs.So.topSpans_law (fun i hi => Hs.So.wf64 (b0 i hi)) (fun i hi => Hs.So.wf64 (b1 i hi)) m0 m1 (Hs.So.wf64 b2) (Hs.So.wf64 b3) (Hs.So.wf64 b4)).2 (fun _ => False) W #[v0, v1, v2, v3, v4] (fun _ h => h.elim) (rels_cons.2 ⟨v0, _, rfl, r0, rels_cons.2 ⟨v1, _, rfl, r1, rels_cons.2 ⟨v2, _, rfl, r2, rels_cons.2 ⟨v3, _, rfl, r3, rels_cons.2 ⟨v4, _, rfl, r4, rels_nil.2 rfl⟩⟩⟩⟩⟩) (glob_none fun _ => rfl)).mono ?_
  rintro e' W' ⟨v, rfl, hv, hb⟩
  have hvt : v = .bool true := rel_x.1 hv
  subst hvt
  exact ⟨_, rfl, law_post Tryz.laidOut (by kernel_rfl) rfl (by kernel_rfl) Tryz.underlying4 rfl hW' hb⟩

/-- THE STATEMENT. -/
theorem topSpans_holds : Rows.TopSpansSaid :=
  OpenClaim.holds_of_wide 7 Tryz.f7 rfl rfl rfl rfl rfl rfl rfl ⟨rfl, rfl, rfl, rfl, rfl⟩ rfl rfl rfl rfl rfl (by kernel_rfl) Tryz.func7 (by kernel_rfl)
    (of_decide_eq_true (by kernel_rfl)) (by unfold Func.isWrapper; first | (rw [if_pos (by decide +kernel)]; kernel_rfl) | (rw [if_neg (by decide +kernel)]; exact ⟨rfl, rfl⟩))
    (fun os started H enc _ => topSpans_lifted os started H enc)
#print axioms topSpans_holds
end Go.Proofs.YtancjnambbkhmaaGreat
