/-
  The law TopScaled returns true for every slice of raw numbers, whatever its length, and every k, and leaves its arguments as they were.
-/
import Derived.Test.YtfdfnnmgpjamdaiGreatSlaw2
import Derived.Test.YtfdfnnmgpjamdaiGreatEv8
import Derived.Carry
import Derived.ChangeSlices
namespace Go.Proofs.YtfdfnnmgpjamdaiGreat
open Go.Ev Go.RowKit Go.ChangeShapes Go.WideShapes Go.ChangeAt

theorem Tryz.own : ownKnob Tryz.prog.godebug = none := by kernel_rfl
theorem Tryz.laidOut : laidOutB Tryz.prog = true := by kernel_rfl

theorem rowpre_holes [Tok] {bs : List Nat} {xs : List Value} : ∀ (o : Nat) {vs : List Value}, o ≤ vs.length → rowpre bs xs (vs.drop o) → rowpre bs (List.replicate o (.map none) ++ xs) vs
  | 0, vs, _, h => by simpa using h
  | o + 1, [], h, _ => by simp at h
  | o + 1, v :: vs, h, hr => by
    simp only [List.replicate_succ, List.cons_append]
    exact ⟨trivial, rowpre_holes o (by simpa using h) (by simpa using hr)⟩
theorem rowpre_ints [Tok] {bs : List Nat} : ∀ (l : List Int) {vs : List Value}, (∀ i, i < l.length → vs[i]? = some (I (l.getD i 0))) → rowpre bs (l.map fun n => I n) vs
  | [], _, _ => trivial
  | n :: l, [], h => by have := h 0 (by simp); simp at this
  | n :: l, v :: vs, h => by
    have h0 := h 0 (by simp)
    simp at h0
    refine ⟨h0, rowpre_ints l fun i hi => ?_⟩
    have := h (i + 1) (by simpa using hi)
    simpa using this

/-- A slice of numbers that came in, in its block. -/
theorem memrel_ints {W : World} {b o len : Nat} {zs : List Int} (hpos : 0 < len) (hle : len ≤ zs.length) (hc : ∀ i, i < zs.length → W.cell? ((⟨b, o, none⟩ : Addr).add i) = some (.int .i64 (zs.getD i 0))) :
    @MemRel ⟨fun _ => o, fun _ => len⟩ [b] [@RW ⟨fun _ => o, fun _ => len⟩ (zs.take len)] W := by
  letI : Tok := ⟨fun _ => o, fun _ => len⟩
  have hadd : ∀ i, (⟨b, o, none⟩ : Addr).add i = ⟨b, o + i, none⟩ := fun i => by unfold Addr.add; split <;> simp_all
  have h0 := hc 0 (by omega)
  rw [hadd] at h0
  unfold World.cell? at h0
  split at h0
  · rename_i cs e fz hh
    refine ⟨rfl, fun i b' cells h1 h2 => ?_⟩
    match i, h1, h2 with
    | 0, h1, h2 =>
      simp at h1 h2
      subst h1 h2
      refine ⟨(Array.getElem?_eq_some_iff.1 hh).1, cs, e, fz, hh, ?_⟩
      have hcell : ∀ i, i < zs.length → cs.toList[o + i]? = some (I (zs.getD i 0)) := fun i hi => by
        have := hc i hi
        rw [hadd] at this
        simp only [World.cell?, hh, Option.isSome_none, Bool.false_eq_true, if_false] at this
        simpa using this
      have hlo : o ≤ cs.toList.length := by
        have := (List.getElem?_eq_some_iff.1 (hcell 0 (by omega))).1
        omega
      refine rowpre_holes o hlo (rowpre_ints _ fun i hi => ?_)
      simp only [List.length_take] at hi
      rw [List.getElem?_drop, hcell i (by omega)]
      have : (zs.take len).getD i 0 = zs.getD i 0 := by
        simp only [List.getD_eq_getElem?_getD, List.getElem?_take]
        rw [if_pos (by omega)]
      rw [this]
    | i + 1, h1, _ => simp at h1
  · cases h0
theorem wf_i64 {n : Int} (h : (Lit.int .i64 n).wf = true) : I64 n := by
  unfold Lit.wf at h
  simp only [Bool.and_eq_true, decide_eq_true_eq] at h
  have e1 : IntKind.i64.min = -9223372036854775808 := by decide
  have e2 : IntKind.i64.max = 9223372036854775807 := by decide
  rw [e1, e2] at h
  exact ⟨h.1, by omega⟩

set_option maxRecDepth 100000 in
theorem tscal_lifted (os : Os) (started : os.Started) (H : Type) (enc : TypeId × Value → H) :
    ReturnsInHanded {} Tryz.checked os 5 .any (Rows.topScaledSpec.pre6 enc Tryz.prog Tryz.f5 Rows.topScaledRow.domain false) (Rows.topScaledSpec.post enc Tryz.prog Tryz.f5 false true false false) := by
  refine returnsInHanded_of_change (C := Tryz.checked) Tryz.own started (by kernel_rfl) Tryz.func5
    (ChangeSpec.witness6 (enc := enc) (C := Tryz.checked) false ⟨#[], #[.slice none 0 0, I 0], []⟩ 8 (by kernel_rfl) (by kernel_rfl) (by kernel_rfl) (by kernel_rfl)) ?_
  intro W base args ds gs before hval0 hW hcnd _
  have hval : ∀ (j : Nat) t v, Tryz.f5.params[j]? = some t → args[j]? = some v → Value.okWide Tryz.prog W .any base t v := hval0
  have hW' := hW
  obtain ⟨p, q, hA0, hV, rfl, hfz, hnd⟩ := hW
  have hA : DataW.TrodAll enc Tryz.prog W 0 (fun _ => true) true Tryz.f5.params.toList args.toList ds p := hA0
  rw [Tryz.params5] at hA hval
  obtain ⟨v0, v1, d0, d1, p0, p1, rfl, rfl, rfl, h0, h1⟩ := trodAll_two hA
  obtain ⟨rfl, rfl⟩ := trodVars_none hV
  obtain ⟨k, rfl, _, _, wk⟩ := open_int Tryz.underlying3 (hval 1 3 v1 rfl rfl) h1
  have fin : ∀ {e' : Ending} {W' : World} [Tok], (∃ v, e' = .returned v ∧ vrel [] (B true) v ∧ Below W.heap.size W W') → ∃ v, e' = .returned v ∧ Rows.topScaledSpec.post enc Tryz.prog Tryz.f5 false true false false W #[v0, I k] v W' := by
    rintro e' W' _ ⟨v, rfl, hv, hb⟩
    have hvt : v = .bool true := vrel_bool hv
    subst hvt
    exact ⟨_, rfl, law_post Tryz.laidOut (by kernel_rfl) rfl (by kernel_rfl) Tryz.underlying4 rfl hW' hb⟩
  have empty : ∀ (_ : (∃ a c, v0 = .slice a 0 c)), Calls Tryz.prog 5 #[v0, I k] W fun e W' => ∃ v, e = .returned v ∧ Rows.topScaledSpec.post enc Tryz.prog Tryz.f5 false true false false W #[v0, I k] v W' := by
    intro hv0
    letI : Tok := ⟨fun _ => 0, fun _ => 0⟩
    exact ((scaledB k (wf_i64 wk)).2 [] W #[v0, I k] ⟨rfl, fun i b cells hb => by simp at hb⟩ ⟨Or.inr ⟨rfl, hv0⟩, rfl, trivial⟩).mono fun e' W' h => fin h
  obtain ⟨a0, len0, cap0, rfl⟩ := Go.WideShapes.okWide_slice Tryz.underlying22 (hval 0 22 _ rfl rfl)
  obtain ⟨fuel, hf⟩ := h0
  have hc1 : Tryz.prog.cellsOf 3 = 1 := by kernel_rfl
  rcases Go.ChangeShapes.open_ints Tryz.underlying22 Tryz.underlying3 hc1 hf with ⟨hcs, hx⟩ | ⟨a, len, cap, zs, hcs, _, hle, hmax, hall, hx, hcell, hwf⟩
  · simp [Value.cells] at hcs
    obtain ⟨rfl, rfl, rfl⟩ := hcs
    exact empty ⟨_, _, rfl⟩
  · simp [Value.cells] at hcs
    obtain ⟨rfl, rfl, rfl⟩ := hcs
    by_cases hz : len0 = 0
    · subst hz; exact empty ⟨_, _, rfl⟩
    · simp only [if_true] at hall
      obtain ⟨b, o, sp⟩ := a
      have hsp : sp = none := by
        have h1 := hcell 0 (by omega)
        cases sp with
        | none => rfl
        | some k =>
          simp only [Addr.add, if_true, World.cell?] at h1
          split at h1
          · simp at h1
          · cases h1
      subst hsp
      letI : Tok := ⟨fun _ => o, fun _ => len0⟩
      have hl : (zs.take len0).length = len0 := by simp; omega
      have hq : ∀ n, I64 (rawS (zs.take len0) n) := fun n => by
        unfold rawS
        rw [List.getD_eq_getElem?_getD]
        cases hx : (zs.take len0)[(Int.tmod n (zs.take len0).length).toNat]? with
        | none => exact ⟨by decide, by decide⟩
        | some z => exact wf_i64 (hwf z (List.mem_of_mem_take (List.mem_of_getElem? hx)))
      refine ((scaledA (x := 0) (y := 0) (a := 0) (b := 0) (zs.take len0) hl.symm (fun e => by rw [e] at hl; simp at hl; omega) hq k (wf_i64 wk)).2 [b] W #[_, I k] (memrel_ints (by omega) (by omega) hcell) ⟨⟨b, cap0, rfl, hle, rfl⟩, rfl, trivial⟩).mono fun e' W' h => ?_
      obtain ⟨v, he, hv, hb⟩ := h
      exact fin ⟨v, he, hv, hb⟩

/-- THE STATEMENT. -/
theorem topScaled_holds : Rows.TopScaledSaid :=
  OpenClaim.holds_of_wide 5 Tryz.f5 rfl rfl rfl rfl rfl rfl rfl ⟨rfl, rfl, rfl, rfl, rfl⟩ rfl rfl rfl rfl rfl (by kernel_rfl) Tryz.func5 (by kernel_rfl)
    (of_decide_eq_true (by kernel_rfl)) (by unfold Func.isWrapper; first | (rw [if_pos (by decide +kernel)]; kernel_rfl) | (rw [if_neg (by decide +kernel)]; exact ⟨rfl, rfl⟩))
    (fun os started H enc _ => tscal_lifted os started H enc)
#print axioms topScaled_holds
end Go.Proofs.YtfdfnnmgpjamdaiGreat
