/-
  The law SkinMade returns true for every row of numbers and every five numbers more, and leaves the row as it was.
-/
import Derived.Test.YtkibceiellnggaaPico2
import Derived.Test.YtkibceiellnggaaSk23
namespace Go.Proofs.Ytkibceiellnggaa
open Go.Gv Go.RowKit Go.ChangeShapes Go.WideShapes Go.ChangeAt
open Go.Ev (cn law_post)

noncomputable def sdK (pf : Int → Int → Int) (n : Nat) (hs : Nat → Int) (p : Pic) (W' H' w u v : Int) : List KEntry := [kPick pf, kfix 15 [rsl n hs, iA W', iA H', bA false] (.agg p.c), kfix 3 [.agg p.c, iA w, iA u, iA v] (bA true)]
theorem sd_ev (pf : Int → Int → Int) (n : Nat) (hs : Nat → Int) (p : Pic) (W' H' w h way w' u v : Int) : ev Try.prog [] (sdK pf n hs p W' H' w' u v) noL Try.f4 [rsl n hs, iA w, iA h, iA way, iA u, iA v] ret =
    cond (decide ((n : Int) > 512)) (some (Out.of (bA true))) (gate ([rsl n hs, iA (w64 (1 + pf w 7)), iA (w64 (1 + pf h 7)), bA false] = [rsl n hs, iA W', iA H', bA false]) (gate ([AV.agg p.c, iA (pf way 3), iA u, iA v] = [AV.agg p.c, iA w', iA u, iA v]) (some (Out.of (bA true))))) := by kernel_rfl
theorem made_spec (n : Nat) (hs : Nat → Int) {w h : Int} (hw : (Lit.int .i64 w).wf = true) (hh : (Lit.int .i64 h).wf = true) (way u v : Int) : FSpec Try.prog 4 [rsl n hs, iA w, iA h, iA way, iA u, iA v] (bA true) := by
  obtain ⟨a, ea, ha⟩ := pk_nat (n := 7) hw (by omega)
  obtain ⟨b, eb, hb⟩ := pk_nat (n := 7) hh (by omega)
  refine gspec e_nil (k_cons kPick_ok (k_cons (kfix_ok (mpic_spec n hs (wd := 1 + a) (ht := 1 + b) (by omega) (by omega))) (k_cons (kfix_ok (law_spec (mpic_px n hs (1 + a) (1 + b)) (pk way 3) u v)) k_nil))) Try.func4 (by kernel_rfl) (by kernel_rfl) noL_ok rfl ((sd_ev pk n hs _ _ _ w h way (pk way 3) u v).trans ?_)
  have e1 : w64 (1 + pk w 7) = ((1 + a : Nat) : Int) := by
    have ea' : pk w 7 = (a : Int) := ea
    rw [ea', w64_id (by omega) (by omega)]; omega
  have e2 : w64 (1 + pk h 7) = ((1 + b : Nat) : Int) := by
    have eb' : pk h 7 = (b : Int) := eb
    rw [eb', w64_id (by omega) (by omega)]; omega
  rw [e1, e2, gate_pos rfl, gate_pos rfl]
  cases decide ((n : Int) > 512) <;> rfl

set_option maxRecDepth 100000 in
theorem made_lifted (os : Os) (started : os.Started) (H : Type) (enc : TypeId × Value → H) :
    ReturnsInHanded {} Try.checked os 4 .any (Rows.skinMadeSpec.pre6 enc Try.prog Try.f4 Rows.skinMadeRow.domain false) (Rows.skinMadeSpec.post enc Try.prog Try.f4 false true false false) := by
  refine returnsInHanded_of_change (C := Try.checked) Try.own started (by kernel_rfl) Try.func4
    (ChangeSpec.witness6 (enc := enc) (C := Try.checked) false ⟨#[], #[.slice none 0 0, .int .i64 0, .int .i64 0, .int .i64 0, .int .i64 0, .int .i64 0], []⟩ 8 (by kernel_rfl) (by kernel_rfl) (by kernel_rfl) (by kernel_rfl)) ?_
  intro W base args ds gs before hval0 hW hcnd _
  have hval : ∀ (j : Nat) t v, Try.f4.params[j]? = some t → args[j]? = some v → Value.okWide Try.prog W .any base t v := hval0
  have hW' := hW
  obtain ⟨p, q, hA0, hV, rfl, hfz, hnd⟩ := hW
  have hA : DataW.TrodAll enc Try.prog W 0 (fun _ => true) true Try.f4.params.toList args.toList ds p := hA0
  rw [Try.params4] at hA hval
  obtain ⟨v0, t0, d0, s0, p0, q0, hargs, rfl, rfl, h0, hA⟩ := trodAll_cons hA
  obtain ⟨v1, t1, d1, s1, p1, q1, rfl, rfl, rfl, h1, hA⟩ := trodAll_cons hA
  obtain ⟨v2, t2, d2, s2, p2, q2, rfl, rfl, rfl, h2, hA⟩ := trodAll_cons hA
  obtain ⟨v3, t3, d3, s3, p3, q3, rfl, rfl, rfl, h3, hA⟩ := trodAll_cons hA
  obtain ⟨v4, t4, d4, s4, p4, q4, rfl, rfl, rfl, h4, hA⟩ := trodAll_cons hA
  obtain ⟨v5, t5, d5, s5, p5, q5, rfl, rfl, rfl, h5, hA⟩ := trodAll_cons hA
  obtain ⟨rfl, rfl, rfl⟩ := trodAll_nil hA
  obtain rfl : args = #[v0, v1, v2, v3, v4, v5] := by rw [← Array.toList_inj, hargs]
  obtain ⟨rfl, rfl⟩ := trodVars_none hV
  obtain ⟨n, hs, r0, _⟩ := open_raw Try.underlying40 (by kernel_rfl) (hval 0 40 v0 rfl rfl) h0
  obtain ⟨x1, r1, w1⟩ := open_int Try.underlying3 (by kernel_rfl) (hval 1 3 v1 rfl rfl) h1
  obtain ⟨x2, r2, w2⟩ := open_int Try.underlying3 (by kernel_rfl) (hval 2 3 v2 rfl rfl) h2
  obtain ⟨x3, r3, _⟩ := open_int Try.underlying3 (by kernel_rfl) (hval 3 3 v3 rfl rfl) h3
  obtain ⟨x4, r4, _⟩ := open_int Try.underlying3 (by kernel_rfl) (hval 4 3 v4 rfl rfl) h4
  obtain ⟨x5, r5, _⟩ := open_int Try.underlying3 (by kernel_rfl) (hval 5 3 v5 rfl rfl) h5
  refine ((made_spec n hs w1 w2 x3 x4 x5).2 (fun _ => False) W #[v0, v1, v2, v3, v4, v5] (fun _ h => h.elim) (rels_cons.2 ⟨v0, _, rfl, r0, rels_cons.2 ⟨v1, _, rfl, r1, rels_cons.2 ⟨v2, _, rfl, r2, rels_cons.2 ⟨v3, _, rfl, r3, rels_cons.2 ⟨v4, _, rfl, r4, rels_cons.2 ⟨v5, [], rfl, r5, rels_nil.2 rfl⟩⟩⟩⟩⟩⟩) (glob_none fun _ => rfl)).mono ?_
  rintro e' W' ⟨v, rfl, hv, hb⟩
  have hvt : v = .bool true := rel_x.1 hv
  subst hvt
  exact ⟨_, rfl, law_post Try.laidOut (by kernel_rfl) rfl (by kernel_rfl) Try.underlying4 rfl hW' hb⟩

/-- THE STATEMENT. -/
theorem skinMade_holds : Rows.SkinMadeSaid :=
  OpenClaim.holds_of_wide 4 Try.f4 rfl rfl rfl rfl rfl rfl rfl ⟨rfl, rfl, rfl, rfl, rfl⟩ rfl rfl rfl rfl rfl (by kernel_rfl) Try.func4 (by kernel_rfl)
    (of_decide_eq_true (by kernel_rfl)) (by unfold Func.isWrapper; first | (rw [if_pos (by decide +kernel)]; kernel_rfl) | (rw [if_neg (by decide +kernel)]; exact ⟨rfl, rfl⟩))
    (fun os started H enc _ => made_lifted os started H enc)
#print axioms skinMade_holds
end Go.Proofs.Ytkibceiellnggaa
