/-
  The law ChanceSays returns true for every nine numbers: package chance answers as the document's answer does. The variables that stir hold what the program's text lays.
-/
import Derived.Test.YthdobfifpkpbnaaDoorChan
namespace Go.Proofs.YthdobfifpkpbnaaDoor
open Go.Gv Go.RowKit Go.ChangeShapes Go.WideShapes Go.ChangeAt
open Go.Ev (law_post)

theorem g0 : Tryd.prog.globalNamed "rayhouse/chance.stirsApart" = some 0 := by kernel_rfl
theorem g0t : (Tryd.prog.globals[0]?).map (·.type) = some 33 := by kernel_rfl
theorem g1 : Tryd.prog.globalNamed "rayhouse/chance.stirsTogether" = some 1 := by kernel_rfl
theorem g1t : (Tryd.prog.globals[1]?).map (·.type) = some 34 := by kernel_rfl
theorem tabs {W : World} (h : laidMet Tryd.prog Rows.chanceSaysRow.laid W) : Lib.TabIs Tryd.prog W "rayhouse/chance.stirsApart" .u32 [2654435761, 2246822519, 3266489917] ∧ Lib.TabIs Tryd.prog W "rayhouse/chance.stirsTogether" .u32 [2246822507, 3266489909] := by
  obtain ⟨ps, ⟨g, t, cs, fuel, p, q, hg, ht, hvar, hd, ⟨g', t', cs', fuel', p', q', hg', ht', hvar', hd', _, _⟩, _⟩, _⟩ := h
  obtain rfl := Option.some.inj (g0.symm.trans hg)
  obtain rfl := Option.some.inj (g0t.symm.trans ht)
  obtain rfl := Option.some.inj (g1.symm.trans hg')
  obtain rfl := Option.some.inj (g1t.symm.trans ht')
  constructor
  · unfold Lib.TabIs
    rw [hvar, ← Lib.cells_of_tab (zs := [2654435761, 2246822519, 3266489917]) Tryd.underlying33 Tryd.underlying22 (by kernel_rfl) (by kernel_rfl) hd]
  · unfold Lib.TabIs
    rw [hvar', ← Lib.cells_of_tab (zs := [2246822507, 3266489909]) Tryd.underlying34 Tryd.underlying22 (by kernel_rfl) (by kernel_rfl) hd']
theorem tab_ref {W : World} {name : String} {g : Nat} {zs : List Int} (hg : Tryd.prog.globalNamed name = some g) (h : Lib.TabIs Tryd.prog W name .u32 zs) (l : List AV) (hl : ∀ E : Env, pre E l (zs.map fun z => Value.int .u32 z)) : rel ⟨W, fun _ => False, fun _ => none⟩ (.ref l 0) (.pointer (some ⟨g, 0, none⟩)) := by
  unfold Lib.TabIs World.var? at h
  rw [hg] at h
  simp only [Option.bind_some] at h
  split at h
  · rename_i cs e fz hh
    simp only [Option.some.injEq] at h
    show relA _ _ _
    rw [relA]
    refine ⟨g, 0, cs, e, fz, rfl, fun hf => hf, hh, ?_⟩
    rw [h]
    show pre _ _ _
    simpa using hl _
  · cases h
theorem glob_ok {W : World} (h : laidMet Tryd.prog Rows.chanceSaysRow.laid W) : glob ⟨W, fun _ => False, fun _ => none⟩ := by
  obtain ⟨h0, h1⟩ := tabs h
  intro g l hl
  unfold known at hl
  cases e0 : Nat.beq g 0
  · rw [e0] at hl
    cases e1 : Nat.beq g 1
    · rw [e1] at hl; cases hl
    · rw [e1] at hl
      simp only [cond_true, cond_false, Option.some.injEq] at hl
      obtain rfl := Nat.eq_of_beq_eq_true e1
      refine tab_ref g1 h1 l fun E => ?_
      subst hl
      exact pre_cons.2 ⟨_, _, rfl, rel_x.2 rfl, pre_cons.2 ⟨_, _, rfl, rel_x.2 rfl, pre_nil⟩⟩
  · rw [e0] at hl
    simp only [cond_true, Option.some.injEq] at hl
    obtain rfl := Nat.eq_of_beq_eq_true e0
    refine tab_ref g0 h0 l fun E => ?_
    subst hl
    exact pre_cons.2 ⟨_, _, rfl, rel_x.2 rfl, pre_cons.2 ⟨_, _, rfl, rel_x.2 rfl, pre_cons.2 ⟨_, _, rfl, rel_x.2 rfl, pre_nil⟩⟩⟩
/-- WHAT THE LAW GIVES, FOR ALL ARGUMENTS AND EVERY WORLD THAT HOLDS THE VARIABLES. -/
theorem contract (H : Type) (enc : TypeId × Value → H) (W : World) (base : Nat) (args : Array Value) (ds gs : List (DataW H)) (before : List MemPlace)
    (hval : ∀ (j : Nat) t v, Tryd.f3.params[j]? = some t → args[j]? = some v → Value.okWide Tryd.prog W .any base t v)
    (hW : DataW.Whole enc Tryd.prog Tryd.f3.params.toList Rows.chanceSaysSpec.vars false W args.toList ds gs before) (hL : laidMetH Tryd.prog Rows.chanceSaysRow.laid W) :
    Calls Tryd.prog 3 args W fun e W' => ∃ v, e = .returned v ∧ Rows.chanceSaysSpec.post enc Tryd.prog Tryd.f3 false true false false W args v W' := by
  have hL' : laidMet Tryd.prog Rows.chanceSaysRow.laid W := hL
  have hW' := hW
  obtain ⟨p, q, hA0, hV, rfl, hfz, hnd⟩ := hW
  have hA : DataW.TrodAll enc Tryd.prog W 0 (fun _ => true) true Tryd.f3.params.toList args.toList ds p := hA0
  rw [Tryd.params3] at hA hval
  obtain ⟨v0, t0, d0, s0, p0, q0, hargs, rfl, rfl, h0, hA⟩ := trodAll_cons hA
  obtain ⟨v1, t1, d1, s1, p1, q1, rfl, rfl, rfl, h1, hA⟩ := trodAll_cons hA
  obtain ⟨v2, t2, d2, s2, p2, q2, rfl, rfl, rfl, h2, hA⟩ := trodAll_cons hA
  obtain ⟨v3, t3, d3, s3, p3, q3, rfl, rfl, rfl, h3, hA⟩ := trodAll_cons hA
  obtain ⟨v4, t4, d4, s4, p4, q4, rfl, rfl, rfl, h4, hA⟩ := trodAll_cons hA
  obtain ⟨v5, t5, d5, s5, p5, q5, rfl, rfl, rfl, h5, hA⟩ := trodAll_cons hA
  obtain ⟨v6, t6, d6, s6, p6, q6, rfl, rfl, rfl, h6, hA⟩ := trodAll_cons hA
  obtain ⟨v7, t7, d7, s7, p7, q7, rfl, rfl, rfl, h7, hA⟩ := trodAll_cons hA
  obtain ⟨v8, t8, d8, s8, p8, q8, rfl, rfl, rfl, h8, hA⟩ := trodAll_cons hA
  obtain ⟨rfl, rfl, rfl⟩ := trodAll_nil hA
  obtain rfl : args = #[v0, v1, v2, v3, v4, v5, v6, v7, v8] := by rw [← Array.toList_inj, hargs]
  obtain ⟨rfl, rfl⟩ := trodVars_none hV
  obtain ⟨a, r0, _⟩ := open_int Tryd.underlying22 (by kernel_rfl) (hval 0 22 v0 rfl rfl) h0
  obtain ⟨b, r1, _⟩ := open_int Tryd.underlying22 (by kernel_rfl) (hval 1 22 v1 rfl rfl) h1
  obtain ⟨c, r2, _⟩ := open_int Tryd.underlying22 (by kernel_rfl) (hval 2 22 v2 rfl rfl) h2
  obtain ⟨x3, r3, _⟩ := open_int Tryd.underlying3 (by kernel_rfl) (hval 3 3 v3 rfl rfl) h3
  obtain ⟨x4, r4, _⟩ := open_int Tryd.underlying3 (by kernel_rfl) (hval 4 3 v4 rfl rfl) h4
  obtain ⟨x5, r5, _⟩ := open_int Tryd.underlying3 (by kernel_rfl) (hval 5 3 v5 rfl rfl) h5
  obtain ⟨x6, r6, _⟩ := open_int Tryd.underlying3 (by kernel_rfl) (hval 6 3 v6 rfl rfl) h6
  obtain ⟨x7, r7, _⟩ := open_int Tryd.underlying3 (by kernel_rfl) (hval 7 3 v7 rfl rfl) h7
  obtain ⟨x8, r8, _⟩ := open_int Tryd.underlying3 (by kernel_rfl) (hval 8 3 v8 rfl rfl) h8
  refine ((law_all a b c x3 x4 x5 x6 x7 x8).2 (fun _ => False) W #[v0, v1, v2, v3, v4, v5, v6, v7, v8] (fun _ h => h.elim)
    (rels_cons.2 ⟨v0, _, rfl, r0, rels_cons.2 ⟨v1, _, rfl, r1, rels_cons.2 ⟨v2, _, rfl, r2, rels_cons.2 ⟨v3, _, rfl, r3, rels_cons.2 ⟨v4, _, rfl, r4, rels_cons.2 ⟨v5, _, rfl, r5, rels_cons.2 ⟨v6, _, rfl, r6, rels_cons.2 ⟨v7, _, rfl, r7, rels_cons.2 ⟨v8, [], rfl, r8, rels_nil.2 rfl⟩⟩⟩⟩⟩⟩⟩⟩⟩) (glob_ok hL')).mono ?_
  rintro e' W' ⟨v, rfl, hv, hb⟩
  have hvt : v = .bool true := rel_x.1 hv
  subst hvt
  exact ⟨_, rfl, law_post Tryd.laidOut (by kernel_rfl) rfl (by kernel_rfl) Tryd.underlying4 rfl hW' hb⟩
/-- A WORLD FOR THE WITNESS. -/
noncomputable def laidWorld (os : Os) : World :=
  let w0 := World.holding Tryd.prog os ⟨#[], #[], []⟩
  { w0 with heap := (w0.heap.modify 0 fun
      | .cells _ t frozen => .cells #[.int .u32 2654435761, .int .u32 2246822519, .int .u32 3266489917] t frozen
      | o => o).modify 1 fun
      | .cells _ t frozen => .cells #[.int .u32 2246822507, .int .u32 3266489909] t frozen
      | o => o }
abbrev wArgs : Array Value := #[.int .u32 0, .int .u32 0, .int .u32 0, .int .i64 0, .int .i64 0, .int .i64 0, .int .i64 0, .int .i64 0, .int .i64 0]
abbrev wDs {H : Type} : List (DataW H) := [.lit (.int .u32 0), .lit (.int .u32 0), .lit (.int .u32 0), .lit (.int .i64 0), .lit (.int .i64 0), .lit (.int .i64 0), .lit (.int .i64 0), .lit (.int .i64 0), .lit (.int .i64 0)]
theorem laid_met (os : Os) : laidMet Tryd.prog Rows.chanceSaysRow.laid ((laidWorld os).forCall (fun _ _ => 0) ⟨#[], wArgs, []⟩).memory :=
  laidMet_of_run' 8 (by kernel_rfl) (by kernel_rfl)
theorem reads (os : Os) {H : Type} (enc : TypeId × Value → H) : ∃ places, DataW.whole enc Tryd.prog ((laidWorld os).forCall (fun _ _ => 0) ⟨#[], wArgs, []⟩).memory Tryd.f3.params.toList Rows.chanceSaysSpec.vars false wArgs.toList 8 = some (wDs, [], places) :=
  ⟨[], by kernel_rfl⟩
set_option maxRecDepth 100000 in
theorem lifted (os : Os) (started : os.Started) (H : Type) (enc : TypeId × Value → H) (F : Stop.Interp) :
    ReturnsInHanded {} Tryd.checked os 3 .any ((OpenSpec.ofChange Rows.chanceSaysSpec).preRow enc Tryd.prog Tryd.f3 Rows.chanceSaysRow.domain false Rows.chanceSaysRow.laid) (((OpenSpec.ofChange Rows.chanceSaysSpec).at F).post enc Tryd.prog Tryd.f3 false true false false) := by
  obtain ⟨places, hx⟩ := reads os enc
  refine returnsInHanded_of_row (C := Tryd.checked) (s := OpenSpec.ofChange Rows.chanceSaysSpec) Tryd.own started (by kernel_rfl) Tryd.func3
    (witness_row_at (enc := enc) (C := Tryd.checked) false (laidWorld os) wArgs rfl (by kernel_rfl) (by kernel_rfl) (by kernel_rfl)
      (OpenSpec.preRow_of_cond 8 hx (by kernel_rfl) (fun k hk => by cases hk) (by kernel_rfl) (laid_met os))) ?_
  intro W base args ds gs before hval hW _ _ _ hL _ _
  exact contract H enc W base args ds gs before hval hW hL
theorem said : Rows.ChanceSaysSaid :=
  OpenClaim.holds_of_cond 3 Tryd.f3 rfl rfl rfl rfl rfl rfl rfl ⟨rfl, rfl, rfl, rfl, rfl⟩ rfl rfl rfl rfl rfl (by kernel_rfl) Tryd.func3 (by kernel_rfl)
    (of_decide_eq_true (by kernel_rfl)) (by unfold Func.isWrapper; first | (rw [if_pos (by decide +kernel)]; kernel_rfl) | (rw [if_neg (by decide +kernel)]; exact ⟨rfl, rfl⟩))
    (fun os started H enc _ F => by rw [OpenClaim.pre_eq_preRow]; exact lifted os started H enc F)
/-- No parameter wants a stand-in; the program's own looks are off. -/
theorem plain (f : FuncId) (fn : Func) (hf : Tryd.pinned.checked.prog.funcNamed "rayhouse/rayhouselaw.ChanceSays" = some f) (hfn : Tryd.pinned.checked.prog.funcs[f]? = some fn) :
    false = Tryd.pinned.checked.prog.looks [] ∧ ∀ (j : Nat) t, fn.params[j]? = some t → Tryd.pinned.checked.prog.wantsStandIn t = false := by
  obtain rfl : f = 3 := Option.some.inj ((show Tryd.prog.funcNamed "rayhouse/rayhouselaw.ChanceSays" = some 3 by kernel_rfl).symm.trans hf) |>.symm
  obtain rfl : fn = Tryd.f3 := (Option.some.inj (Tryd.func3.symm.trans hfn)).symm
  refine ⟨by kernel_rfl, fun j t ht => ?_⟩
  rw [Tryd.params3] at ht
  have hm := Array.mem_of_getElem? ht
  have : t = 22 ∨ t = 3 := by
    simp at hm
    omega
  rcases this with rfl | rfl
  · exact (show Tryd.prog.wantsStandIn 22 = false by kernel_rfl)
  · exact (show Tryd.prog.wantsStandIn 3 = false by kernel_rfl)
/-- THE STATEMENT. -/
theorem chanceSays_holds : Rows.ChanceSaysCardSaid :=
  Claim7.holds_tied_plain_at .later [] _ _ _ _ said (fun _ h => by cases h) (by kernel_rfl) (fun _ h => by cases h) chanceSays_row_tie rfl ⟨rfl, rfl⟩ (by kernel_rfl) rfl plain (by kernel_rfl)
#print axioms chanceSays_holds
end Go.Proofs.YthdobfifpkpbnaaDoor
