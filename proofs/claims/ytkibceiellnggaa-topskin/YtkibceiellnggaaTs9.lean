/-
  The law TopSkin returns true for every row of numbers and every five numbers more, and leaves the row as it was.
-/
import Derived.Test.YtkibceiellnggaaTs8
import Derived.Carry
import Derived.ChangeSlices
namespace Go.Proofs.Ytkibceiellnggaa
open Go.Gv Go.RowKit Go.ChangeShapes Go.WideShapes Go.ChangeAt
open Go.Ev (cn law_post)

theorem tkE_eq {p : Pic} {wd ht : Nat} (hg : PG p wd ht) (w8 : wd ≤ 8) {X Y : Nat} (hX : X < wd) (hY : Y < ht) {T : Int} (t0 : -500 ≤ T) (t1 : T ≤ 500) {K : Nat} (hK : K ≤ 6) (hend : hwk wd K = 1 ∧ hwk ht K = 1)
    (hq : PG (qP (wd : Nat) (ht : Nat) (4 * (wd * ht)) (cpx (strF 4 (pixS p wd X Y)))) wd ht) :
    tkE pk atS (wd : Nat) (ht : Nat) (X : Nat) T (strF 4 (pixS p wd X Y)) (4 * (wd * ht)) (K + 1) (cpx (strF 4 (pixS p wd X Y))) (hp (qP (wd : Nat) (ht : Nat) (4 * (wd * ht)) (cpx (strF 4 (pixS p wd X Y)))) wd ht) = some (Out.of (bA true)) := by
  have hc : ∀ i, i < (qP (wd : Nat) (ht : Nat) (4 * (wd * ht)) (cpx (strF 4 (pixS p wd X Y)))).n → (qP (wd : Nat) (ht : Nat) (4 * (wd * ht)) (cpx (strF 4 (pixS p wd X Y)))).px i = pixS p wd X Y (i % 4) := fun i _ => by
    show byAt (strF 4 (pixS p wd X Y)) (i % 4) = _
    exact str4_at (by omega) (hg.px _ (hg.at_lt hX hY (by omega)))
  have hwT : (Lit.int .i64 T).wf = true := by
    simp [Lit.wf, IntKind.min, IntKind.max, IntKind.signed, IntKind.bits]
    omega
  obtain ⟨r, er, hr⟩ := pk_nat (n := 3) hwT (by omega)
  have er : pk T 3 = (r : Int) := er
  have e37 : w64 (37 * T) = 37 * T := w64_id (by omega) (by omega)
  have e91 : w64 (91 * ((X : Nat) : Int)) = 91 * ((X : Nat) : Int) := w64_id (by omega) (by omega)
  have hs := at_same hq (w := (r : Int)) (u := 37 * T) (v := 91 * ((X : Nat) : Int)) hc
  have hlast : lastI (K + 1) = K := by
    unfold lastI
    rw [w64_id (by omega) (by omega)]
    omega
  have hpk := hp_pg hq K
  have hsK := hp_same hq hc K
  have eW : ((hp (qP (wd : Nat) (ht : Nat) (4 * (wd * ht)) (cpx (strF 4 (pixS p wd X Y)))) wd ht K).W == 1) = true := by rw [hpk.W, hend.1]; rfl
  have eH : ((hp (qP (wd : Nat) (ht : Nat) (4 * (wd * ht)) (cpx (strF 4 (pixS p wd X Y)))) wd ht K).H == 1) = true := by rw [hpk.H, hend.2]; rfl
  have en : (hp (qP (wd : Nat) (ht : Nat) (4 * (wd * ht)) (cpx (strF 4 (pixS p wd X Y)))) wd ht K).n = 4 := by rw [hpk.n, hend.1, hend.2]
  have es : strF (hp (qP (wd : Nat) (ht : Nat) (4 * (wd * ht)) (cpx (strF 4 (pixS p wd X Y)))) wd ht K).n (hp (qP (wd : Nat) (ht : Nat) (4 * (wd * ht)) (cpx (strF 4 (pixS p wd X Y)))) wd ht K).px = strF 4 (pixS p wd X Y) := by
    rw [en]
    refine strF_congr fun i hi => ?_
    rw [hsK i (by rw [en]; exact hi), Nat.mod_eq_of_lt hi]
  have eM : (((K + 1 : Nat) : Int) == 0) = false := beq_false_of_ne (by omega)
  have ei : w64 (((K + 1 : Nat) : Int) - 1) = (K : Int) := by rw [w64_id (by omega) (by omega)]; omega
  unfold tkE gAt
  rw [hlast, er, e37, e91, gate_pos rfl, gate_pos (at_ask hq (by omega) (by omega) (by omega)), nS_same hs, eM, ei, dec_nonneg, dec_lt (show K < K + 1 by omega), eW, eH, es, allB_true fun _ _ => rfl, BEq.rfl]
  rfl
theorem top_spec (n : Nat) (hs : Nat → Int) {w0 h0 x0 y0 t0 : Int} (hw : (Lit.int .i64 w0).wf = true) (hh : (Lit.int .i64 h0).wf = true) (hx : (Lit.int .i64 x0).wf = true) (hy : (Lit.int .i64 y0).wf = true) (ht : (Lit.int .i64 t0).wf = true) : FSpec Try.prog 5 (b6 n hs w0 h0 x0 y0 t0) (bA true) := by
  obtain ⟨a, ea, ha⟩ := pk_nat (n := 8) hw (by omega)
  obtain ⟨b, eb, hb⟩ := pk_nat (n := 8) hh (by omega)
  obtain ⟨X, eX, hX⟩ := pk_nat (n := 1 + a) hx (by omega)
  obtain ⟨Y, eY, hY⟩ := pk_nat (n := 1 + b) hy (by omega)
  obtain ⟨tn, et, htn⟩ := pk_nat (n := 1000) ht (by omega)
  have e1 : kpW pk w0 = ((1 + a : Nat) : Int) := by
    have ea' : pk w0 8 = (a : Int) := ea
    unfold kpW
    rw [ea', w64_id (by omega) (by omega)]; omega
  have e2 : kpW pk h0 = ((1 + b : Nat) : Int) := by
    have eb' : pk h0 8 = (b : Int) := eb
    unfold kpW
    rw [eb', w64_id (by omega) (by omega)]; omega
  have e3 : w64 (pk t0 1000 - 500) = (tn : Int) - 500 := by
    have et' : pk t0 1000 = (tn : Int) := et
    rw [et', w64_id (by omega) (by omega)]
  have hg := mpic_pg n hs (wd := 1 + a) (ht := 1 + b) (by omega) (by omega) (by omega) (by omega)
  generalize hwd : 1 + a = wd at *
  generalize hht : 1 + b = ht at *
  have hlt := hg.at_lt hX hY (show 3 < 4 by omega)
  have hn := hg.n_le
  have hm : Y * wd ≤ 8 * 8 := Nat.mul_le_mul (by omega) (by omega)
  have el : loP (wd : Nat) (X : Nat) (Y : Nat) = (((Y * wd + X) * 4 : Nat) : Int) := by
    unfold loP
    rw [← Int.natCast_mul, w64_id (n := ((Y * wd : Nat) : Int)) (by omega) (by omega), w64_id (n := ((Y * wd : Nat) : Int) + _) (by omega) (by omega), w64_id (by omega) (by omega)]
    omega
  have el4 : w64 (loP (wd : Nat) (X : Nat) (Y : Nat) + 4) = loP (wd : Nat) (X : Nat) (Y : Nat) + 4 := by rw [el]; exact w64_id (by omega) (by omega)
  obtain ⟨q1, q2, q3⟩ := cut4 el el4 hlt
  have q3 : cutP (mpic n hs wd ht) (loP (wd : Nat) (X : Nat) (Y : Nat)) (w64 (loP (wd : Nat) (X : Nat) (Y : Nat) + 4)) = strF 4 (pixS (mpic n hs wd ht) wd X Y) := q3
  have hq : PG (qP (wd : Nat) (ht : Nat) (4 * (wd * ht)) (cpx (strF 4 (pixS (mpic n hs wd ht) wd X Y)))) wd ht :=
    ⟨rfl, rfl, hg.w1, hg.w64, hg.h1, hg.h64, by show 4 * (wd * ht) = wd * ht * 4; omega, fun i _ => by
      show 0 ≤ byAt (strF 4 (pixS (mpic n hs wd ht) wd X Y)) (i % 4) ∧ byAt (strF 4 (pixS (mpic n hs wd ht) wd X Y)) (i % 4) ≤ 255
      have hr := hg.px _ (hg.at_lt hX hY (show i % 4 < 4 by omega))
      rw [str4_at (g := pixS (mpic n hs wd ht) wd X Y) (by omega) hr]
      exact hr⟩
  obtain ⟨K, hK, hend, hbe⟩ := hK_ex hg.w1 hg.w64 hg.h1 hg.h64
  have hL : LOk Try.prog (tkL (wd : Nat) (ht : Nat) (X : Nat) (Y : Nat) ((tn : Int) - 500) (mpic n hs wd ht) (strF 4 (pixS (mpic n hs wd ht) wd X Y)) (wd * ht : Nat) (4 * (wd * ht)) (cpx (strF 4 (pixS (mpic n hs wd ht) wd X Y)))) (bodyOf Try.f5) := by
    refine lok_all 2 (by kernel_rfl) fun j hj i g hi hgl => ?_
    have h1 := toldF_sound (keep := keepL1) (τ := [some 0]) (l1_leads hg (by omega) (by omega) hX hY ((tn : Int) - 500))
    have h2 := toldC_sound (keep := keepTo) (r0 := 4) (nils := [(2, 1, 1)]) (nr := .a 5 1 0 fun q => [yA (cpx (strF 4 (pixS (mpic n hs wd ht) wd X Y)) q)]) (τ := [some 4, none]) (to_leads (wd := wd) (ht := ht) (by omega) (by omega) (X : Nat) ((tn : Int) - 500) (str4_size (pixS (mpic n hs wd ht) wd X Y)))
    match j, hj with
    | 0, _ =>
      have hi' : some 11 = some i := hi
      cases hi'
      have hgl : some _ = some g := hgl
      cases hgl
      exact h1
    | 1, _ =>
      have hi' : some 24 = some i := hi
      cases hi'
      have hgl : some _ = some g := hgl
      cases hgl
      exact h2
  refine gspec e_nil (k_cons kPick_ok (k_cons (kfix_ok (mpic_spec n hs (wd := wd) (ht := ht) (by omega) (by omega))) (k_cons kS_ok (k_cons (kfix_ok (halves_good hq hK hend hbe)) k_nil)))) Try.func5 (by kernel_rfl) (by kernel_rfl) hL rfl ((tk_ev pk atS n hs (mpic n hs wd ht) (wd : Nat) (ht : Nat) (X : Nat) (Y : Nat) ((tn : Int) - 500) (strF 4 (pixS (mpic n hs wd ht) wd X Y)) (wd * ht : Nat) (4 * (wd * ht)) (K + 1) (cpx (strF 4 (pixS (mpic n hs wd ht) wd X Y))) (hp (qP (wd : Nat) (ht : Nat) (4 * (wd * ht)) (cpx (strF 4 (pixS (mpic n hs wd ht) wd X Y)))) wd ht) w0 h0 x0 y0 t0).trans ?_)
  have z1 : (!(((wd : Nat) : Int) == 0)) = true := by rw [beq_false_of_ne (by omega)]; rfl
  have z2 : (!(((ht : Nat) : Int) == 0)) = true := by rw [beq_false_of_ne (by omega)]; rfl
  rw [e1, e2, eX, eY, e3, z1, z2, gate_pos rfl, q1, q2, q3, gate_pos (Sub.refl _), tkB_eq hg (by omega) (by omega) hX hY (by omega) (by omega), gate_pos (Sub.refl _), tkE_eq hg (by omega) hX hY (by omega) (by omega) hK hend hq]
  cases decide ((n : Int) > 512) <;> rfl

set_option maxRecDepth 100000 in
theorem top_lifted (os : Os) (started : os.Started) (H : Type) (enc : TypeId × Value → H) :
    ReturnsInHanded {} Try.checked os 5 .any (Rows.topSkinSpec.pre6 enc Try.prog Try.f5 Rows.topSkinRow.domain false) (Rows.topSkinSpec.post enc Try.prog Try.f5 false true false false) := by
  refine returnsInHanded_of_change (C := Try.checked) Try.own started (by kernel_rfl) Try.func5
    (ChangeSpec.witness6 (enc := enc) (C := Try.checked) false ⟨#[], #[.slice none 0 0, .int .i64 0, .int .i64 0, .int .i64 0, .int .i64 0, .int .i64 0], []⟩ 8 (by kernel_rfl) (by kernel_rfl) (by kernel_rfl) (by kernel_rfl)) ?_
  intro W base args ds gs before hval0 hW hcnd _
  have hval : ∀ (j : Nat) t v, Try.f5.params[j]? = some t → args[j]? = some v → Value.okWide Try.prog W .any base t v := hval0
  have hW' := hW
  obtain ⟨p, q, hA0, hV, rfl, hfz, hnd⟩ := hW
  have hA : DataW.TrodAll enc Try.prog W 0 (fun _ => true) true Try.f5.params.toList args.toList ds p := hA0
  rw [Try.params5] at hA hval
  obtain ⟨v0, t0, d0, s0, p0, q0, hargs, rfl, rfl, h0, hA⟩ := trodAll_cons hA
  obtain ⟨v1, t1, d1, s1, p1, q1, rfl, rfl, rfl, h1, hA⟩ := trodAll_cons hA
  obtain ⟨v2, t2, d2, s2, p2, q2, rfl, rfl, rfl, h2, hA⟩ := trodAll_cons hA
  obtain ⟨v3, t3, d3, s3, p3, q3, rfl, rfl, rfl, h3, hA⟩ := trodAll_cons hA
  obtain ⟨v4, t4, d4, s4, p4, q4, rfl, rfl, rfl, h4, hA⟩ := trodAll_cons hA
  obtain ⟨v5, t5, d5, s5, p5, q5, rfl, rfl, rfl, h5, hA⟩ := trodAll_cons hA
  obtain ⟨rfl, rfl, rfl⟩ := trodAll_nil hA
  obtain rfl : args = #[v0, v1, v2, v3, v4, v5] := by rw [← Array.toList_inj, hargs]
  obtain ⟨rfl, rfl⟩ := trodVars_none hV
  obtain ⟨n, hs, r0, _⟩ := open_raw Try.underlying40 (by kernel_rfl) (hval 0 40 v0 rfl rfl) h0
  obtain ⟨x1, r1, w1⟩ := open_int Try.underlying3 (by kernel_rfl) (hval 1 3 v1 rfl rfl) h1
  obtain ⟨x2, r2, w2⟩ := open_int Try.underlying3 (by kernel_rfl) (hval 2 3 v2 rfl rfl) h2
  obtain ⟨x3, r3, w3⟩ := open_int Try.underlying3 (by kernel_rfl) (hval 3 3 v3 rfl rfl) h3
  obtain ⟨x4, r4, w4⟩ := open_int Try.underlying3 (by kernel_rfl) (hval 4 3 v4 rfl rfl) h4
  obtain ⟨x5, r5, w5⟩ := open_int Try.underlying3 (by kernel_rfl) (hval 5 3 v5 rfl rfl) h5
  refine ((top_spec n hs w1 w2 w3 w4 w5).2 (fun _ => False) W #[v0, v1, v2, v3, v4, v5] (fun _ h => h.elim) (rels_cons.2 ⟨v0, _, rfl, r0, rels_cons.2 ⟨v1, _, rfl, r1, rels_cons.2 ⟨v2, _, rfl, r2, rels_cons.2 ⟨v3, _, rfl, r3, rels_cons.2 ⟨v4, _, rfl, r4, rels_cons.2 ⟨v5, [], rfl, r5, rels_nil.2 rfl⟩⟩⟩⟩⟩⟩) (glob_none fun _ => rfl)).mono ?_
  rintro e' W' ⟨v, rfl, hv, hb⟩
  have hvt : v = .bool true := rel_x.1 hv
  subst hvt
  exact ⟨_, rfl, law_post Try.laidOut (by kernel_rfl) rfl (by kernel_rfl) Try.underlying4 rfl hW' hb⟩

/-- THE STATEMENT. -/
theorem topSkin_holds : Rows.TopSkinSaid :=
  OpenClaim.holds_of_wide 5 Try.f5 rfl rfl rfl rfl rfl rfl rfl ⟨rfl, rfl, rfl, rfl, rfl⟩ rfl rfl rfl rfl rfl (by kernel_rfl) Try.func5 (by kernel_rfl)
    (of_decide_eq_true (by kernel_rfl)) (by unfold Func.isWrapper; first | (rw [if_pos (by decide +kernel)]; kernel_rfl) | (rw [if_neg (by decide +kernel)]; exact ⟨rfl, rfl⟩))
    (fun os started H enc _ => top_lifted os started H enc)
#print axioms topSkin_holds
end Go.Proofs.Ytkibceiellnggaa
