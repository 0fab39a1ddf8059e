/-
  The law TopTold returns true for all numbers: a text with repeat is read as the text without. The table holds what the program's text lays.
-/
import Derived.Test.YtefphimaggjihaaGreatDoorC24
import Derived.Test.YtefphimaggjihaaGreatDoorRows
import Derived.Test.YtefphimaggjihaaGreatDoorTie
import Derived.Test.YtefphimaggjihaaGreatDoorCards
import Derived.Carry
import Derived.ChangeSlices
import Derived.SizedLaws
import Derived.Deep.DeepHandedRow
import Derived.ProofKit
import Derived.OpenShut
import Derived.Lib.LaidTab
namespace Go.Proofs.YtefphimaggjihaaGreatDoor.Pi
open Go.Gv Go.RowKit Go.ChangeShapes Go.WideShapes Go.ChangeAt
open Go.Ev (law_post)
theorem gn1 : Tryz.prog.globalNamed "rayhouse/scene.opWords" = some 1 := by kernel_rfl
theorem gt1 : (Tryz.prog.globals[1]?).map (·.type) = some 184 := by kernel_rfl
theorem pre_xs (E : Env) : ∀ vs : List Value, pre E (vs.map .x) vs
  | [] => pre_nil
  | v :: vs => pre_cons.2 ⟨v, vs, rfl, rel_x.2 rfl, pre_xs E vs⟩
/-- An array of strings that reads as these holds these, cell for cell. -/
theorem cells_of_strs {H : Type} {enc : TypeId × Value → H} {P : Program} {w : World} {base : Nat} {sp : Nat → Bool} {held : Bool} {fuel : Nat} {t e : TypeId} {n : Nat} {cs : List Value} {zs : List (List UInt8)} {p : List MemPlace}
    (ht : P.underlying t = some (.array n e)) (he : P.underlying e = some .string) (hce : P.cellsOf e = 1) (hct : P.cellsOf t = n)
    (h : DataW.trod enc P w base sp held fuel t cs = some (.agg (zs.map fun z => .lit (.string z)), p)) : cs = zs.map fun z => Value.string ⟨z.toArray⟩ := by
  cases fuel with
  | zero => simp [DataW.trod] at h
  | succ fuel =>
    simp only [DataW.trod, ht, hce, hct, Nat.mul_one] at h
    split at h
    · rename_i hl
      obtain ⟨xs, hm, hx⟩ := Option.map_eq_some_iff.1 h
      have hxs : xs.map (·.1) = zs.map fun z => (DataW.lit (.string z) : DataW H) := by
        have := congrArg Prod.fst hx
        simpa using this
      have hxl : xs.length = n := by simpa using Lib.mapM_length hm
      have hzl : zs.length = n := by
        have := congrArg List.length hxs
        simp at this
        omega
      apply List.ext_getElem?
      intro i
      by_cases hi : i < n
      · obtain ⟨b, hb, hf⟩ := Lib.mapM_at hm i i (by simp [hi])
        obtain ⟨z, hc, rfl, _⟩ := DataW.trod_string he hf
        have h1 : cs[i]? = some (.string z) := by
          have := congrArg (·[0]?) hc
          simpa [List.getElem?_take, List.getElem?_drop] using this
        have h2 : (xs.map (·.1))[i]? = some (DataW.lit (.string z.data.toList) : DataW H) := by simp [hb]
        rw [hxs] at h2
        simp only [List.getElem?_map, Option.map_eq_some_iff, DataW.lit.injEq, Lit.string.injEq] at h2
        obtain ⟨z', hz', e'⟩ := h2
        rw [h1, List.getElem?_map, hz', e']
        rfl
      · rw [List.getElem?_eq_none (by omega), List.getElem?_eq_none (by simp; omega)]
    · cases h
def opS : List (List UInt8) := [[], [98, 111, 116, 104], [101, 105, 116, 104, 101, 114], [108, 101, 115, 115]]
theorem tabs {W : World} (h : laidMet Tryz.prog Rows.topToldRow.laid W) : W.var? Tryz.prog "rayhouse/scene.opWords" = some (opS.map fun z => Value.string ⟨z.toArray⟩).toArray := by
  obtain ⟨ps, ⟨g', t', cs', fuel', p', q', hg', ht', hvar', hd', _⟩, _⟩ := h
  obtain rfl := Option.some.inj (gn1.symm.trans hg')
  obtain rfl := Option.some.inj (gt1.symm.trans ht')
  rw [hvar', ← cells_of_strs (zs := opS) Tryz.underlying184 Tryz.underlying9 (by kernel_rfl) (by kernel_rfl) hd']
theorem glob_ok {W : World} (h : laidMet Tryz.prog Rows.topToldRow.laid W) : glob ⟨W, fun _ => False, fun _ => none⟩ := by
  have h1 := tabs h
  have k1 : known 1 = some ((opS.map fun z => Value.string ⟨z.toArray⟩).map .x) := by kernel_rfl
  unfold World.var? at h1
  rw [gn1] at h1
  simp only [Option.bind_some] at h1
  intro g l hl
  have hg : g = 1 := by
    unfold known at hl
    cases e1 : Nat.beq g 1
    · rw [e1] at hl; cases hl
    · exact Nat.eq_of_beq_eq_true e1
  subst hg
  obtain rfl := Option.some.inj (k1.symm.trans hl)
  split at h1
  · rename_i cs e fz hh
    simp only [Option.some.injEq] at h1
    constructor
    · show relA _ _ _
      rw [relA]
      refine ⟨1, 0, cs, e, fz, rfl, fun hf => hf, hh, ?_⟩
      rw [h1]
      show pre _ _ _
      simpa using pre_xs (Env.fz ⟨W, fun _ => False, fun _ => none⟩) (opS.map fun z => Value.string ⟨z.toArray⟩)
    · intro cs' e' fz' hh'
      have := hh.symm.trans hh'
      simp only [Option.some.injEq, Obj.cells.injEq] at this
      rw [← this.1, h1]
      simp
  · cases h1
/-- The cells of a datum. -/
def cell1 {H : Type} : DataW H → List Value
  | .lit (.int k n) => [.int k n]
  | .lit (.string s) => [.string ⟨s.toArray⟩]
  | _ => []
def cell2 {H : Type} : DataW H → List Value
  | .agg ds => ds.flatMap cell1
  | d => cell1 d
def cellsOf {H : Type} : DataW H → List Value
  | .agg ds => ds.flatMap cell2
  | d => cell2 d
/-- A WORLD FOR THE WITNESS. -/
def lay (cs : List Value) : Obj → Obj
  | .cells _ t frozen => .cells cs.toArray t frozen
  | o => o
noncomputable def laidWorld (os : Os) : World :=
  let w0 := World.holding Tryz.prog os ⟨#[], #[], []⟩
  { w0 with heap := w0.heap.modify 1 (lay (cellsOf Rows.laid_rayhouse_scene_opWords (H := Unit))) }
theorem wf64' {n : Int} (h : (Lit.int .i64 n).wf = true) : -9223372036854775808 ≤ n ∧ n ≤ 9223372036854775807 := by
  have h1 : IntKind.i64.min ≤ n ∧ n ≤ IntKind.i64.max := by simpa [Lit.wf] using h
  rw [show IntKind.i64.min = -9223372036854775808 by decide, show IntKind.i64.max = 9223372036854775807 by decide] at h1
  exact h1
set_option maxRecDepth 100000 in
/-- WHAT THE LAW GIVES, FOR ALL ARGUMENTS AND EVERY WORLD THAT HOLDS THE TABLES. -/
theorem contractTopTold (H : Type) (enc : TypeId × Value → H) (W : World) (base : Nat) (args : Array Value) (ds gs : List (DataW H)) (before : List MemPlace)
    (hval : ∀ (j : Nat) t v, Tryz.f7.params[j]? = some t → args[j]? = some v → Value.okWide Tryz.prog W .any base t v)
    (hW : DataW.Whole enc Tryz.prog Tryz.f7.params.toList Rows.topToldSpec.vars false W args.toList ds gs before) (hL : laidMetH Tryz.prog Rows.topToldRow.laid W) :
    Calls Tryz.prog 7 args W fun e W' => ∃ v, e = .returned v ∧ Rows.topToldSpec.post enc Tryz.prog Tryz.f7 false true false false W args v W' := by
  have hL' : laidMet Tryz.prog Rows.topToldRow.laid W := hL
  have hW' := hW
  obtain ⟨p, q, hA0, hV, rfl, hfz, hnd⟩ := hW
  have hA : DataW.TrodAll enc Tryz.prog W 0 (fun _ => true) true Tryz.f7.params.toList args.toList ds p := hA0
  rw [Tryz.params7] at hA hval
  obtain ⟨v0, t0, d0, s0, p0, q0, hargs, rfl, rfl, h0, hA⟩ := trodAll_cons hA
  obtain ⟨v1, t1, d1, s1, p1, q1, rfl, rfl, rfl, h1, hA⟩ := trodAll_cons hA
  obtain ⟨v2, t2, d2, s2, p2, q2, rfl, rfl, rfl, h2, hA⟩ := trodAll_cons hA
  obtain ⟨rfl, rfl, rfl⟩ := trodAll_nil hA
  obtain rfl : args = #[v0, v1, v2] := by rw [← Array.toList_inj, hargs]
  obtain ⟨rfl, rfl⟩ := trodVars_none hV
  obtain ⟨n0, r0, b0⟩ := open_num Tryz.underlying3 (by kernel_rfl) (hval 0 3 v0 rfl rfl) h0
  obtain ⟨n, hs, r1, b1⟩ := open_raw Tryz.underlying48 (by kernel_rfl) (hval 1 48 v1 rfl rfl) h1
  obtain ⟨n2, r2, b2⟩ := open_num Tryz.underlying3 (by kernel_rfl) (hval 2 3 v2 rfl rfl) h2
  refine ((Rd.topTold_law (fun i hi => wf64' (b1 i hi)) (wf64' b0) (wf64' b2)).2 (fun _ => False) W #[v0, v1, v2] (fun _ h => h.elim)
    (rels_cons.2 ⟨v0, _, rfl, r0, rels_cons.2 ⟨v1, _, rfl, r1, rels_cons.2 ⟨v2, _, rfl, r2, rels_nil.2 rfl⟩⟩⟩) (glob_ok hL')).mono ?_
  rintro e' W' ⟨v, rfl, hv, hb⟩
  have hvt : v = .bool true := rel_x.1 hv
  subst hvt
  exact ⟨_, rfl, law_post Tryz.laidOut (by kernel_rfl) rfl (by kernel_rfl) Tryz.underlying4 rfl hW' hb⟩
abbrev wArgsTopTold : Array Value := #[.int .i64 0, .slice none 0 0, .int .i64 0]
theorem laid_metTopTold (os : Os) : laidMet Tryz.prog Rows.topToldRow.laid ((laidWorld os).forCall (fun _ _ => 0) ⟨#[], wArgsTopTold, []⟩).memory :=
  laidMet_of_run' 300 (by kernel_rfl) (by kernel_rfl)
theorem readsTopTold (os : Os) {H : Type} (enc : TypeId × Value → H) : ∃ ds places, DataW.whole enc Tryz.prog ((laidWorld os).forCall (fun _ _ => 0) ⟨#[], wArgsTopTold, []⟩).memory Tryz.f7.params.toList Rows.topToldSpec.vars false wArgsTopTold.toList 8 = some (ds, [], places) :=
  ⟨[.lit (.int .i64 0), .nil, .lit (.int .i64 0)], [], by kernel_rfl⟩
set_option maxRecDepth 100000 in
theorem liftedTopTold (os : Os) (started : os.Started) (H : Type) (enc : TypeId × Value → H) (F : Stop.Interp) :
    ReturnsInHanded {} Tryz.checked os 7 .any ((OpenSpec.ofChange Rows.topToldSpec).preRow enc Tryz.prog Tryz.f7 Rows.topToldRow.domain false Rows.topToldRow.laid) (((OpenSpec.ofChange Rows.topToldSpec).at F).post enc Tryz.prog Tryz.f7 false true false false) := by
  obtain ⟨ds, places, hx⟩ := readsTopTold os enc
  refine returnsInHanded_of_row (C := Tryz.checked) (s := OpenSpec.ofChange Rows.topToldSpec) Tryz.own started (by kernel_rfl) Tryz.func7
    (witness_row_at (enc := enc) (C := Tryz.checked) false (laidWorld os) wArgsTopTold rfl (by kernel_rfl) (by kernel_rfl) (by kernel_rfl)
      (OpenSpec.preRow_of_cond 8 hx (by kernel_rfl) (fun k hk => by cases hk) (by kernel_rfl) (laid_metTopTold os))) ?_
  intro W base args ds gs before hval hW _ _ _ hL _ _
  exact contractTopTold H enc W base args ds gs before hval hW hL
theorem saidTopTold : Rows.TopToldSaid :=
  OpenClaim.holds_of_cond 7 Tryz.f7 rfl rfl rfl rfl rfl rfl rfl ⟨rfl, rfl, rfl, rfl, rfl⟩ rfl rfl rfl rfl rfl (by kernel_rfl) Tryz.func7 (by kernel_rfl)
    (of_decide_eq_true (by kernel_rfl)) (by unfold Func.isWrapper; first | (rw [if_pos (by decide +kernel)]; kernel_rfl) | (rw [if_neg (by decide +kernel)]; exact ⟨rfl, rfl⟩))
    (fun os started H enc _ F => by rw [OpenClaim.pre_eq_preRow]; exact liftedTopTold os started H enc F)
/-- No parameter wants a stand-in; the program's own looks are off. -/
theorem plainTopTold (f : FuncId) (fn : Func) (hf : Tryz.pinned.checked.prog.funcNamed "rayhouse/rayhousetop.TopTold" = some f) (hfn : Tryz.pinned.checked.prog.funcs[f]? = some fn) :
    true = Tryz.pinned.checked.prog.looks [] ∧ ∀ (j : Nat) t, fn.params[j]? = some t → Tryz.pinned.checked.prog.wantsStandIn t = false := by
  obtain rfl : f = 7 := Option.some.inj ((show Tryz.prog.funcNamed "rayhouse/rayhousetop.TopTold" = some 7 by kernel_rfl).symm.trans hf) |>.symm
  obtain rfl : fn = Tryz.f7 := (Option.some.inj (Tryz.func7.symm.trans hfn)).symm
  refine ⟨by kernel_rfl, fun j t ht => ?_⟩
  rw [Tryz.params7] at ht
  match j, ht with
  | 0, ht =>
    obtain rfl := Option.some.inj (show some 3 = some t from ht)
    exact (show Tryz.prog.wantsStandIn 3 = false by kernel_rfl)
  | 1, ht =>
    obtain rfl := Option.some.inj (show some 48 = some t from ht)
    exact (show Tryz.prog.wantsStandIn 48 = false by kernel_rfl)
  | 2, ht =>
    obtain rfl := Option.some.inj (show some 3 = some t from ht)
    exact (show Tryz.prog.wantsStandIn 3 = false by kernel_rfl)
  | j + 3, ht => exact absurd ht (by simp)
end Go.Proofs.YtefphimaggjihaaGreatDoor.Pi
namespace Go.Proofs.YtefphimaggjihaaGreatDoor
/-- THE STATEMENT. -/
theorem topTold_holds : Rows.TopToldCardSaid :=
  Claim7.holds_tied_plain_at .later [] _ _ _ _ Pi.saidTopTold (fun _ h => by cases h) (by kernel_rfl) (fun _ h => by cases h) topTold_row_tie rfl ⟨rfl, rfl⟩ (by kernel_rfl) rfl Pi.plainTopTold (by kernel_rfl)
#print axioms topTold_holds
end Go.Proofs.YtefphimaggjihaaGreatDoor
