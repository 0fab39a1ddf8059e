/-
  The law PictReads returns true for every row of bytes and every text: Unpack and Read of package pict answer as the document's answer does. The library's tables hold what the program's text lays.
-/
import Derived.Test.YtcdhdnfkcmjnpaaDoorC24
import Derived.Test.YtcdhdnfkcmjnpaaDoorTie
import Derived.Test.YtcdhdnfkcmjnpaaDoorCards
import Derived.Carry
import Derived.ChangeSlices
import Derived.SizedLaws
import Derived.Deep.DeepHandedRow
import Derived.ProofKit
import Derived.OpenShut
import Derived.Lib.LaidTab
namespace Go.Proofs.YtcdhdnfkcmjnpaaDoor.Pi
open Go.Gv Go.RowKit Go.ChangeShapes Go.WideShapes Go.ChangeAt
open Go.Ev (law_post)

/-- A text that came in. -/
theorem open_str {H : Type} {enc : TypeId × Value → H} {P : Program} {w : World} {r : Reach} {b0 : Nat} {t : TypeId} {v : Value} {d : DataW H} {p : List MemPlace} (hu : P.underlying t = some .string) (hk : kds P 1 t = some [.s]) (hv : Value.okWide P w r b0 t v)
    (h : DataW.Trod enc P w 0 (fun _ => true) true t v d p) : ∃ s : ByteArray, s.size ≤ maxLen ∧ rel (Env.all w) (zA s) v := by
  have hone : v.cells = #[v] := by
    obtain ⟨s, rfl⟩ := okWide_string hu hv
    rfl
  obtain ⟨fuel, hf⟩ := h
  obtain ⟨a, h1, h2⟩ := open_arg hf hk hone
  rw [fitA] at h1
  obtain ⟨s, rfl, hs⟩ := h1
  exact ⟨s, hs, h2⟩
/-- Bytes that came in are no more than what a machine reaches. -/
theorem bytes_len {H : Type} {enc : TypeId × Value → H} {P : Program} {w : World} {t e : TypeId} {v : Value} {d : DataW H} {p : List MemPlace} {ts : List TypeId} {ds : List (DataW H)} (hu : P.underlying t = some (.slice e)) (h8 : P.bytesOf e = 1)
    (h : DataW.Trod enc P w 0 (fun _ => true) true t v d p) (hz : (DataW.weightsEach P ts ds).all (· ≤ reachBytes) = true) {j : Nat} (ht : ts[j]? = some t) (hd : ds[j]? = some d) {E : Env} {n : Nat} {g : Nat → Int} (hr : rel E (sB n g) v) : n ≤ 140737488355328 := by
  obtain ⟨fuel, hf⟩ := h
  obtain ⟨a, c, rfl, _⟩ := rel_sl.1 hr
  have hf : DataW.trod enc P w 0 (fun _ => true) true fuel t [.slice a n c] = some (d, p) := hf
  rcases DataW.trod_slice hu hf with ⟨h0, _⟩ | ⟨a', len, cap, elems, rest, m, _, h1, h2, _, _, _, hl, _⟩
  · injection h0 with h0
    injection h0 with _ h0 _
    omega
  · injection h1 with h1
    injection h1 with _ h1 _
    injection h2 with h2 _
    subst h2
    have := sized_slice hz ht hd hu
    rw [h8, List.length_map] at this
    have hR : reachBytes ≤ 140737488355328 := by decide
    omega
theorem str_len {H : Type} {enc : TypeId × Value → H} {P : Program} {w : World} {t : TypeId} {v : Value} {d : DataW H} {p : List MemPlace} {ts : List TypeId} {ds : List (DataW H)} (hu : P.underlying t = some .string)
    (h : DataW.Trod enc P w 0 (fun _ => true) true t v d p) (hz : (DataW.weightsEach P ts ds).all (· ≤ reachBytes) = true) {j : Nat} (ht : ts[j]? = some t) (hd : ds[j]? = some d) {E : Env} {s : ByteArray} (hr : rel E (zA s) v) : s.size ≤ 140737488355328 := by
  obtain ⟨fuel, hf⟩ := h
  have hv := rel_x.1 hr
  subst hv
  have hf : DataW.trod enc P w 0 (fun _ => true) true fuel t [.string s] = some (d, p) := hf
  obtain ⟨s', e1, e2, _⟩ := DataW.trod_string hu hf
  injection e1 with e1
  injection e1 with e1
  subst e1
  injection e2 with e2 _
  subst e2
  have := sized_string hz ht hd
  have hR : reachBytes ≤ 140737488355328 := by decide
  have hs : s.size = s.data.toList.length := Lib.size_eq s
  omega
set_option maxRecDepth 100000 in
/-- WHAT THE LAW GIVES, FOR ALL ARGUMENTS AND EVERY WORLD. -/
theorem contract (H : Type) (enc : TypeId × Value → H) (W : World) (base : Nat) (args : Array Value) (ds gs : List (DataW H)) (before : List MemPlace)
    (hval : ∀ (j : Nat) t v, Tryd.f5.params[j]? = some t → args[j]? = some v → Value.okWide Tryd.prog W .any base t v)
    (hW : DataW.Whole enc Tryd.prog Tryd.f5.params.toList Rows.pictReadsSpec.vars false W args.toList ds gs before) (hz0 : (DataW.weightsEach Tryd.prog (Tryd.f5.params.toList ++ (OpenSpec.ofChange Rows.pictReadsSpec).bare.plain.varTypes Tryd.prog) (ds ++ gs)).all (· ≤ reachBytes) = true) :
    Calls Tryd.prog 5 args W fun e W' => ∃ v, e = .returned v ∧ Rows.pictReadsSpec.post enc Tryd.prog Tryd.f5 false true false false W args v W' := by
  have hW' := hW
  obtain ⟨p, q, hA0, hV, rfl, hfz, hnd⟩ := hW
  have hA : DataW.TrodAll enc Tryd.prog W 0 (fun _ => true) true Tryd.f5.params.toList args.toList ds p := hA0
  have hz : (DataW.weightsEach Tryd.prog Tryd.f5.params.toList (ds ++ gs)).all (· ≤ reachBytes) = true := hz0
  rw [Tryd.params5] at hA hval hz
  obtain ⟨v0, t0, d0, s0, p0, q0, hargs, rfl, rfl, h0, hA⟩ := trodAll_cons hA
  obtain ⟨v1, t1, d1, s1, p1, q1, rfl, rfl, rfl, h1, hA⟩ := trodAll_cons hA
  obtain ⟨rfl, rfl, rfl⟩ := trodAll_nil hA
  obtain rfl : args = #[v0, v1] := by rw [← Array.toList_inj, hargs]
  obtain ⟨rfl, rfl⟩ := trodVars_none hV
  obtain ⟨n, g, hn, hg, r0⟩ := open_bytes Tryd.underlying22 (by kernel_rfl) (hval 0 22 v0 rfl rfl) h0
  obtain ⟨s, hs, r1⟩ := open_str Tryd.underlying9 (by kernel_rfl) (hval 1 9 v1 rfl rfl) h1
  have m0 := bytes_len Tryd.underlying22 (by kernel_rfl) h0 hz (j := 0) rfl rfl r0
  have m1 := str_len Tryd.underlying9 h1 hz (j := 1) rfl rfl r1
  refine ((pictReads_law (by omega) (by omega) hg).2 (fun _ => False) W #[v0, v1] (fun _ h => h.elim)
    (rels_cons.2 ⟨v0, _, rfl, r0, rels_cons.2 ⟨v1, [], rfl, r1, rels_nil.2 rfl⟩⟩) (glob_none fun _ => rfl)).mono ?_
  rintro e' W' ⟨v, rfl, hv, hb⟩
  have hvt : v = .bool true := rel_x.1 hv
  subst hvt
  exact ⟨_, rfl, law_post Tryd.laidOut (by kernel_rfl) rfl (by kernel_rfl) Tryd.underlying4 rfl hW' hb⟩
/-- The cells of a datum. -/
def cell1 {H : Type} : DataW H → List Value
  | .lit (.int k n) => [.int k n]
  | _ => []
def cell2 {H : Type} : DataW H → List Value
  | .agg ds => ds.flatMap cell1
  | d => cell1 d
def cellsOf {H : Type} : DataW H → List Value
  | .agg ds => ds.flatMap cell2
  | d => cell2 d
/-- A WORLD FOR THE WITNESS. -/
noncomputable def laidWorld (os : Os) : World :=
  let w0 := World.holding Tryd.prog os ⟨#[], #[], []⟩
  { w0 with heap := (w0.heap.modify 3 fun
      | .cells _ t frozen => .cells (cellsOf Rows.laid_unicode_utf8_acceptRanges (H := Unit)).toArray t frozen
      | o => o).modify 2 fun
      | .cells _ t frozen => .cells (cellsOf Rows.laid_unicode_utf8_first).toArray t frozen
      | o => o }
abbrev wArgs : Array Value := #[.slice none 0 0, .string ⟨#[]⟩]
theorem laid_met (os : Os) : laidMet Tryd.prog Rows.pictReadsRow.laid ((laidWorld os).forCall (fun _ _ => 0) ⟨#[], wArgs, []⟩).memory :=
  laidMet_of_run' 300 (by kernel_rfl) (by kernel_rfl)
theorem reads (os : Os) {H : Type} (enc : TypeId × Value → H) : ∃ ds places, DataW.whole enc Tryd.prog ((laidWorld os).forCall (fun _ _ => 0) ⟨#[], wArgs, []⟩).memory Tryd.f5.params.toList Rows.pictReadsSpec.vars false wArgs.toList 8 = some (ds, [], places) :=
  ⟨[.nil, .lit (.string [])], [], by kernel_rfl⟩
set_option maxRecDepth 100000 in
theorem lifted (os : Os) (started : os.Started) (H : Type) (enc : TypeId × Value → H) (F : Stop.Interp) :
    ReturnsInHanded {} Tryd.checked os 5 .any ((OpenSpec.ofChange Rows.pictReadsSpec).preRow enc Tryd.prog Tryd.f5 Rows.pictReadsRow.domain false Rows.pictReadsRow.laid) (((OpenSpec.ofChange Rows.pictReadsSpec).at F).post enc Tryd.prog Tryd.f5 false true false false) := by
  obtain ⟨ds, places, hx⟩ := reads os enc
  refine returnsInHanded_of_row (C := Tryd.checked) (s := OpenSpec.ofChange Rows.pictReadsSpec) Tryd.own started (by kernel_rfl) Tryd.func5
    (witness_row_at (enc := enc) (C := Tryd.checked) false (laidWorld os) wArgs rfl (by kernel_rfl) (by kernel_rfl) (by kernel_rfl)
      (OpenSpec.preRow_of_cond 8 hx (by kernel_rfl) (fun k hk => by cases hk) (by kernel_rfl) (laid_met os))) ?_
  intro W base args ds gs before hval hW _ _ hz _ _ _
  exact contract H enc W base args ds gs before hval hW hz
theorem said : Rows.PictReadsSaid :=
  OpenClaim.holds_of_cond 5 Tryd.f5 rfl rfl rfl rfl rfl rfl rfl ⟨rfl, rfl, rfl, rfl, rfl⟩ rfl rfl rfl rfl rfl (by kernel_rfl) Tryd.func5 (by kernel_rfl)
    (of_decide_eq_true (by kernel_rfl)) (by unfold Func.isWrapper; first | (rw [if_pos (by decide +kernel)]; kernel_rfl) | (rw [if_neg (by decide +kernel)]; exact ⟨rfl, rfl⟩))
    (fun os started H enc _ F => by rw [OpenClaim.pre_eq_preRow]; exact lifted os started H enc F)
/-- No parameter wants a stand-in; the program's own looks are off. -/
theorem plain (f : FuncId) (fn : Func) (hf : Tryd.pinned.checked.prog.funcNamed "rayhouse/rayhouselaw.PictReads" = some f) (hfn : Tryd.pinned.checked.prog.funcs[f]? = some fn) :
    false = Tryd.pinned.checked.prog.looks [] ∧ ∀ (j : Nat) t, fn.params[j]? = some t → Tryd.pinned.checked.prog.wantsStandIn t = false := by
  obtain rfl : f = 5 := Option.some.inj ((show Tryd.prog.funcNamed "rayhouse/rayhouselaw.PictReads" = some 5 by kernel_rfl).symm.trans hf) |>.symm
  obtain rfl : fn = Tryd.f5 := (Option.some.inj (Tryd.func5.symm.trans hfn)).symm
  refine ⟨by kernel_rfl, fun j t ht => ?_⟩
  rw [Tryd.params5] at ht
  have hm := Array.mem_of_getElem? ht
  have : t = 22 ∨ t = 9 := by
    simp at hm
    omega
  rcases this with rfl | rfl
  · exact (show Tryd.prog.wantsStandIn 22 = false by kernel_rfl)
  · exact (show Tryd.prog.wantsStandIn 9 = false by kernel_rfl)
end Go.Proofs.YtcdhdnfkcmjnpaaDoor.Pi
namespace Go.Proofs.YtcdhdnfkcmjnpaaDoor
/-- THE STATEMENT. -/
theorem pictReads_holds : Rows.PictReadsCardSaid :=
  Claim7.holds_tied_plain_at .later [] _ _ _ _ Pi.said (fun _ h => by cases h) (by kernel_rfl) (fun _ h => by cases h) pictReads_row_tie rfl ⟨rfl, rfl⟩ (by kernel_rfl) rfl Pi.plain (by kernel_rfl)
#print axioms pictReads_holds
end Go.Proofs.YtcdhdnfkcmjnpaaDoor
