/-
  Regions that draw their order, with one variable or several: what they give, and that they give it.
-/
import Derived.Test.YtbmggfmifopddaaEv6c
namespace Go.Ev
open Go.RowKit

section
variable {P : Program} {T : Tab} {base : Bs} {w0 : World} {bs : List Nat} {ops : Array Oper}

theorem all_listed2 [Tok] {s0 s1 : St} {S : Nat → St} (hx : Lex2 P T ops.toList s0 s1 S) {listed : Array Bool} (hsz : listed.size = ops.size) (hr : Region.ready .any ops listed = []) : ∀ i, i < ops.size → listed.getD i false = true := by
  intro i
  induction i using Nat.strongRecOn with
  | _ i ih =>
    intro hi
    cases h : listed.getD i false
    · have : i ∈ Region.ready .any ops listed := mem_ready.2 ⟨by rw [getD_of_size (by omega)]; exact h, ops[i], Array.getElem?_eq_getElem hi, fun e he hb => by
        have hlt := (drawOk2_spec hx.ok (j := i) (oj := ops[i]) (by simp [hi])).2.1 e he hb
        exact ih e.on hlt (by omega)⟩
      rw [hr] at this; cases this
    · rfl
theorem J2_any [Tok] {s0 s1 : St} {S : Nat → St} {Q : Exit → Act → World → Prop} {r : List (Value × Chain) × List (List Value)} (hT : TOk P T base.hd) (hx : Lex2 P T ops.toList s0 s1 S) (hfin : finishL P ops.toList s1 ops.toList s1.slots s1.mem = some r)
    (hQ : ∀ listed a w, (∀ i, i < ops.size → listed.getD i false = true) → J2Inv P base w0 bs ops s0 s1 listed a w → Q .normal a w) :
    ∀ (fuel : Nat) (listed : Array Bool) (a : Act) (w : World), J2Inv P base w0 bs ops s0 s1 listed a w → (List.range ops.size).countP (fun i => !listed.getD i false) ≤ fuel → wpAny P .any ops Q fuel listed a w := by
  intro fuel
  induction fuel with
  | zero =>
    intro listed a w hJ hc
    have hall : ∀ i, i < ops.size → listed.getD i false = true := fun i hi => by
      have := List.countP_eq_zero.1 (Nat.le_zero.1 hc) i (List.mem_range.2 hi)
      simpa using this
    refine ⟨?_, hQ listed a w hall hJ⟩
    cases hr : Region.ready .any ops listed with
    | nil => rfl
    | cons i l =>
      obtain ⟨hun, o, ho, _⟩ := mem_ready.1 (show i ∈ Region.ready .any ops listed by rw [hr]; simp)
      have hi : i < ops.size := (Array.getElem?_eq_some_iff.1 ho).1
      rw [getD_of_size (by rw [hJ.size]; exact hi), hall i hi] at hun
      cases hun
  | succ fuel ih =>
    intro listed a w hJ hc
    refine ⟨fun hr => hQ listed a w (all_listed2 hx hJ.size hr) hJ, fun i hr => J2_step hT hx hfin hJ hr fun a' w' hJ' => ih _ a' w' hJ' ?_⟩
    obtain ⟨hun, o, ho, _⟩ := mem_ready.1 hr
    have hi : i < ops.size := (Array.getElem?_eq_some_iff.1 ho).1
    have hil : i < listed.size := by rw [hJ.size]; exact hi
    have hlt := countP_lt (p := fun j => !listed.getD j false) (q := fun j => !(listed.setIfInBounds i true).getD j false) (l := List.range ops.size) (x := i)
      (fun y _ hy => by
        rw [listed_set hil] at hy
        simp only [Bool.not_eq_true', Bool.or_eq_false_iff] at hy ⊢
        exact hy.2) (List.mem_range.2 hi) (by rw [← getD_of_size hil, hun]; rfl) (by rw [listed_set hil]; simp)
    omega

/-- What is known while the variables are counted up. -/
structure Cnt [Tok] (base : Bs) (bs es : List Nat) (L : List Oper) (s0 s1 : St) (tmps : Array Value) (w : World) (k : Nat) (sl : List (Value × Chain)) (m : List (List Value)) : Prop where
  frame : frel (bs ++ es) s1.slots sl tmps
  mem : MemRel (bs ++ es) m w
  own : ∀ i b, s0.ro ≤ i → (bs ++ es)[i]? = some b → base.owns b ∧ (∃ cs e, w.heap[b]? = some (.cells cs e (0, 0))) ∧ ∀ j, (bs ++ es)[j]? = some b → j = i
  old : ∀ b, b ∈ es → ∃ (q : Nat) (o : Oper) (t : TypeId) (d : Nat), L[q]? = some o ∧ o.op = .alloc t ∧ o.dst = some d ∧ q < k ∧ tmps.getD d undef = .pointer (some ⟨b, 0, none⟩)
  pre : Pre base.hd m
  le : s0.mem.length ≤ m.length
theorem isInit_op {d : Nat} {o : Oper} (h : isInit d o = true) : ∃ t x, o.op = .store t (.tmp d) x := by
  unfold isInit at h
  cases hop : o.op <;> rw [hop] at h <;> first | (cases h; done) | skip
  rename_i t p x
  cases p <;> simp only at h <;> first | (cases h; done) | skip
  simp only [Bool.and_eq_true, beq_iff_eq] at h
  rw [h.1]
  exact ⟨_, _, rfl⟩
theorem fin_cnt [Tok] {s0 s1 : St} {S : Nat → St} (hx : Lex2 P T ops.toList s0 s1 S) {listed : Array Bool} {a : Act} {w : World} (hall : ∀ i, i < ops.size → listed.getD i false = true) (hJ : J2Inv P base w0 bs ops s0 s1 listed a w) :
    ∀ (l : List Oper) (k : Nat) (es : List Nat) (sl : List (Value × Chain)) (m : List (List Value)) (slf : List (Value × Chain)) (mf : List (List Value)), (∀ i, l[i]? = ops.toList[k + i]?) → Cnt base bs es ops.toList s0 s1 a.tmps w k sl m →
      finishL P ops.toList s1 l sl m = some (slf, mf) → ∃ es', Cnt base bs es' ops.toList s0 s1 a.tmps w (k + l.length) slf mf
  | [], k, es, sl, m, slf, mf, _, hc, h => by
    simp only [finishL, Option.some.injEq, Prod.mk.injEq] at h
    obtain ⟨rfl, rfl⟩ := h
    exact ⟨es, hc⟩
  | o :: l, k, es, sl, m, slf, mf, hl, hc, h => by
    have ho : ops.toList[k]? = some o := by have := hl 0; simpa using this.symm
    have hl' : ∀ i, l[i]? = ops.toList[k + 1 + i]? := fun i => by
      have := hl (i + 1)
      rw [List.getElem?_cons_succ] at this
      rw [this]
      congr 1
      omega
    have skip : ∀ (_ : finishL P ops.toList s1 l sl m = some (slf, mf)), ∃ es', Cnt base bs es' ops.toList s0 s1 a.tmps w (k + (o :: l).length) slf mf := fun h => by
      have hc' : Cnt base bs es ops.toList s0 s1 a.tmps w (k + 1) sl m := ⟨hc.frame, hc.mem, hc.own, (fun b hb => by
        obtain ⟨q, oq, t, d, h1, h2, h3, h4, h5⟩ := hc.old b hb
        exact ⟨q, oq, t, d, h1, h2, h3, by omega, h5⟩), hc.pre, hc.le⟩
      obtain ⟨es', h2⟩ := fin_cnt hx hall hJ l (k + 1) es sl m slf mf hl' hc' h
      exact ⟨es', by rw [show k + (o :: l).length = k + 1 + l.length by simp; omega]; exact h2⟩
    unfold finishL at h
    cases hop : o.op <;> rw [hop] at h <;> simp only at h
    case alloc t =>
      cases hz : pureOf P (zeroValue t) with
      | none => rw [hz] at h; cases h
      | some z =>
        cases hi : P.info? t with
        | none => rw [hz, hi] at h; cases h
        | some inf =>
          cases hd : o.dst with
          | none => rw [hz, hi, hd] at h; cases h
          | some d =>
            rw [hz, hi, hd] at h
            simp only at h
            cases hcd : (z.cells.toList.all (·.oneCell') && (inf.size == z.cells.size))
            · rw [hcd] at h; cases h
            · rw [hcd] at h
              simp only [cond_true] at h
              simp only [Bool.and_eq_true] at hcd
              cases hr : rowOf ops.toList s1 z d with
              | none => rw [hr] at h; cases h
              | some row =>
                rw [hr] at h
                simp only at h
                have hk : k < ops.size := by have := (List.getElem?_eq_some_iff.1 ho).1; simpa using this
                obtain ⟨b, cs, g1, g2, g3, g4, g5, g6⟩ := hJ.news k o t d z ho hop hd hz (hall k hk)
                have hrow : rowrel bs row cs.toList := by
                  unfold rowOf at hr
                  cases hf : ops.toList.find? (isInit d) with
                  | none =>
                    rw [hf] at hr
                    simp only [Option.some.injEq] at hr
                    subst hr
                    rw [g5 fun m om hm him => absurd him (by have := List.find?_eq_none.1 hf om (List.mem_of_getElem? hm); simpa using this)]
                    exact rowrel_canS hcd.1
                  | some om =>
                    rw [hf] at hr
                    simp only at hr
                    obtain ⟨tt, x, hom⟩ := isInit_op (List.find?_some hf)
                    rw [hom] at hr
                    simp only at hr
                    obtain ⟨_, hr⟩ := cond_some hr
                    subst hr
                    obtain ⟨mi, hm⟩ := List.mem_iff_getElem?.1 (List.mem_of_find?_eq_some hf)
                    exact g6 mi om tt x hm hom (hall mi (by have := (List.getElem?_eq_some_iff.1 hm).1; simpa using this))
                have hbe : b ∉ es := fun hb => by
                  obtain ⟨q, oq, tq, dq, h1, h2, h3, h4, h5⟩ := hc.old b hb
                  have hq : q < ops.size := by have := (List.getElem?_eq_some_iff.1 h1).1; simpa using this
                  have := hJ.inj q k oq o tq t dq d h1 ho h2 hop h3 hd (hall q hq) (hall k hk) (by omega)
                  rw [h5, g1] at this
                  exact this rfl
                have hbn : ∀ j : Nat, (bs ++ es)[j]? ≠ some b := fun j hj => by
                  rw [List.getElem?_append] at hj
                  split at hj
                  · exact g3 j hj
                  · exact hbe (List.mem_of_getElem? hj)
                have hbl : (bs ++ es).length = m.length := hc.mem.1
                have happ : bs ++ (es ++ [b]) = (bs ++ es) ++ [b] := (List.append_assoc _ _ _).symm
                have hlast : ((bs ++ es) ++ [b])[m.length]? = some b := by rw [← hbl]; simp
                have hds : d < sl.length := by
                  rw [← hc.frame.1, hJ.frame.1]
                  simp only [mixS, List.length_map, List.length_range]
                  exact ((drawOk2_spec hx.ok ho).2.2.1 d hd).1
                have hcnt : Cnt base bs (es ++ [b]) ops.toList s0 s1 a.tmps w (k + 1) (sl.set d (.pointer (some ⟨m.length, 0, none⟩), [])) (m ++ [row]) := by
                  refine ⟨?_, ?_, ?_, ?_, hc.pre.append _, by have := hc.le; simp; omega⟩
                  · rw [happ]
                    have hf := frel_more [b] hc.frame
                    refine ⟨by simp [hf.1], fun t' => ?_⟩
                    rw [getD_set]
                    by_cases ht : d = t'
                    · subst ht
                      rw [if_pos ⟨rfl, hds⟩]
                      exact ⟨fun _ => ⟨b, hlast, g1⟩, fun h => by cases h⟩
                    · rw [if_neg (fun e => ht e.1)]
                      exact hf.2 t'
                  · rw [happ]
                    refine ⟨by rw [List.length_append, hbl, List.length_append]; rfl, fun i c cl h1 h2 => ?_⟩
                    rw [List.getElem?_append] at h1 h2
                    by_cases hib : i < (bs ++ es).length
                    · rw [if_pos hib] at h1
                      rw [if_pos (by omega)] at h2
                      obtain ⟨h3, cs', e', fz, h4, h5⟩ := hc.mem.2 i c cl h1 h2
                      exact ⟨h3, cs', e', fz, h4, rowpre_more _ h5⟩
                    · rw [if_neg hib] at h1
                      rw [if_neg (by omega)] at h2
                      have hz0 : i - (bs ++ es).length = 0 := by
                        rcases Nat.eq_zero_or_pos (i - (bs ++ es).length) with h | h
                        · exact h
                        · rw [List.getElem?_eq_none (by simp at h ⊢; omega)] at h1; cases h1
                      rw [hz0] at h1
                      rw [show i - m.length = 0 by omega] at h2
                      simp at h1 h2
                      subst h1 h2
                      refine ⟨(Array.getElem?_eq_some_iff.1 g4).1, cs, t, (0, 0), g4, ?_⟩
                      have := rowpre_more (es ++ [b]) (rowpre_of_rowrel hrow)
                      rw [happ] at this
                      exact this
                  · rw [happ]
                    intro i c hi hci
                    rw [List.getElem?_append] at hci
                    by_cases hib : i < (bs ++ es).length
                    · rw [if_pos hib] at hci
                      obtain ⟨h3, h4, h5⟩ := hc.own i c hi hci
                      refine ⟨h3, h4, fun j hj => ?_⟩
                      rw [List.getElem?_append] at hj
                      split at hj
                      · exact h5 j hj
                      · have hcb : b = c := by
                          cases hz : j - (bs ++ es).length with
                          | zero => rw [hz] at hj; simpa using hj
                          | succ k => rw [hz] at hj; simp at hj
                        rw [← hcb] at hci
                        exact (hbn i hci).elim
                    · rw [if_neg hib] at hci
                      have hz0 : i - (bs ++ es).length = 0 := by
                        rcases Nat.eq_zero_or_pos (i - (bs ++ es).length) with h | h
                        · exact h
                        · rw [List.getElem?_eq_none (by simp at h ⊢; omega)] at hci; cases hci
                      rw [hz0] at hci
                      simp at hci
                      subst hci
                      refine ⟨Or.inl g2, ⟨cs, t, g4⟩, fun j hj => ?_⟩
                      rw [List.getElem?_append] at hj
                      split at hj
                      · exact (hbn j hj).elim
                      · cases hz : j - (bs ++ es).length with
                        | zero => omega
                        | succ k => rw [hz] at hj; simp at hj
                  · intro c hcm
                    rcases List.mem_append.1 hcm with hcm | hcm
                    · obtain ⟨q, oq, tq, dq, h1, h2, h3, h4, h5⟩ := hc.old c hcm
                      exact ⟨q, oq, tq, dq, h1, h2, h3, by omega, h5⟩
                    · simp at hcm
                      subst hcm
                      exact ⟨k, o, t, d, ho, hop, hd, by omega, g1⟩
                obtain ⟨es', h2⟩ := fin_cnt hx hall hJ l (k + 1) _ _ _ slf mf hl' hcnt h
                exact ⟨es', by rw [show k + (o :: l).length = k + 1 + l.length by simp; omega]; exact h2⟩
    all_goals exact skip h

/-- **A REGION THAT DRAWS ITS ORDER AND MAKES SEVERAL VARIABLES.** -/
theorem drawn2_ok0 [Tok] {hd : List (List Value)} (hT : TOk P T hd) (hm : P.follows .mixedOrders = true) : DOk0 P (drawn2 P T) hd := by
  intro base hbase w0 bs s sf a w id ops Q hI hD hQ
  subst hbase
  unfold drawn2 at hD
  cases hk : (drawOk2 ops.toList s.slots.length && s.slots.all (fun q => q.2.isEmpty))
  · rw [hk] at hD; cases hD
  · rw [hk] at hD
    simp only [cond_true] at hD
    simp only [Bool.and_eq_true] at hk
    cases hX : dopsX P T ops.toList s.mem ops.toList s with
    | none => rw [hX] at hD; cases hD
    | some s1 =>
      rw [hX] at hD
      simp only [finish] at hD
      cases hF : finishL P ops.toList s1 ops.toList s1.slots s1.mem with
      | none => rw [hF] at hD; cases hD
      | some r =>
        obtain ⟨slf, mf⟩ := r
        rw [hF] at hD
        simp only [Option.some.injEq] at hD
        subst hD
        obtain ⟨S, h0, hn, hst⟩ := dopsX_states hX
        have hclear : ∀ t, (s.slots.getD t dflt).2 = [] := fun t => by
          rw [List.getD_eq_getElem?_getD]
          cases hq : s.slots[t]? with
          | none => rfl
          | some q =>
            have := (List.all_eq_true.1 hk.2) q (List.mem_of_getElem? hq)
            simpa using this
        have hx : Lex2 P T ops.toList s s1 S := ⟨hk.1, h0, hn, hst, hclear⟩
        have hno : ∀ i, (Array.replicate ops.size false).getD i false = false := fun i => by
          simp only [Array.getD_eq_getD_getElem?, Array.getElem?_replicate]; split <;> rfl
        have hw0 : ∀ t, wrB ops.toList (Array.replicate ops.size false) t = false := fun t => by
          cases h : wrB ops.toList (Array.replicate ops.size false) t
          · rfl
          · obtain ⟨i, o, _, _, hl⟩ := wrB_iff.1 h
            rw [hno] at hl; cases hl
        obtain ⟨_, hm1, hr1⟩ := hx.length ops.toList.length (Nat.le_refl _)
        rw [hx.last] at hm1 hr1
        refine wp_region_any hm (J2_any (base := base) (w0 := w0) (bs := bs) hT hx hF ?_ ops.size _ a _ ?_ ?_)
        · intro listed a' w' hall hJ
          have hc0 : Cnt base bs [] ops.toList s s1 a'.tmps w' 0 s1.slots s1.mem := by
            refine ⟨?_, by rw [List.append_nil, hm1]; exact hJ.mem0, by rw [List.append_nil]; exact hJ.own, (fun b hb => by cases hb), by rw [hm1]; exact hJ.pre0, by rw [hm1]; exact Nat.le_refl _⟩
            rw [List.append_nil]
            refine ⟨by rw [hJ.frame.1]; simp [mixS, hx.sfLength], fun t => ?_⟩
            have := hJ.frame.2 t
            rw [mix_getD hx.sfLength] at this
            cases h : wrB ops.toList listed t
            · rw [h, cond_false, ← hx.never fun i o hi => ?_] at this
              · exact this
              · cases h' : writes o t
                · rfl
                · have hi2 : i < ops.size := by have := (List.getElem?_eq_some_iff.1 hi).1; simpa using this
                  have := wrB_iff.2 ⟨i, o, hi, h', hall i hi2⟩
                  rw [h] at this; cases this
            · rw [h, cond_true] at this; exact this
          obtain ⟨es, hc⟩ := fin_cnt hx hall hJ ops.toList 0 [] s1.slots s1.mem slf mf (fun i => by rw [Nat.zero_add]) hc0 hF
          refine hQ es a' w' {
            defers := hJ.defers
            frame := frel_clear hc.frame _
            mem := hc.mem
            own := fun i b hi hb => hc.own i b (by rw [← hr1]; exact hi) hb
            ro_le := by show s1.ro ≤ mf.length; rw [hr1]; exact Nat.le_trans hI.ro_le hc.le
            below := hJ.below
            base_le := hJ.base_le
            pre := hc.pre
            pre_ro := by show base.hd.length ≤ s1.ro; rw [hr1]; exact hI.pre_ro }
        · exact {
            defers := hI.defers
            frame := by
              refine ⟨by rw [hI.frame.1]; simp [mixS], fun t => ?_⟩
              rw [mix_getD hx.sfLength, hw0, cond_false]
              have := hI.frame.2 t
              rw [hclear t] at this ⊢
              exact this
            mem0 := hI.mem
            own := hI.own
            below := hI.below.drew
            base_le := hI.base_le
            pre0 := hI.pre
            pre_ro := hI.pre_ro
            size := by simp
            shut := fun i o _ hl => by rw [hno] at hl; cases hl
            news := fun p o t d z _ _ _ _ hl => by rw [hno] at hl; cases hl
            inj := fun p q o o' t t' d d' _ _ _ _ _ _ hl => by rw [hno] at hl; cases hl }
        · exact Nat.le_trans List.countP_le_length (by simp)
end

/-! ### By cases -/
def dopsXK [Tok] (P : Program) (T : Tab) (ops : List Oper) (mem0 : List (List Value)) : List Oper → St → (St → Option Value) → Option Value
  | [], s, k => k s
  | o :: rest, s, k => match aopC P T { s with mem := mem0 } o with
    | some g => cond (o.guard.isNone && (o.op.operands.toList.all (opdOk s.slots []) && dstOk s.slots [] o.dst)) (g fun v => dopsXK P T ops mem0 rest { s with slots := putS s.slots o.dst (v, []) } k) none
    | none => match dopX P T.flat ops mem0 s o with
      | some s' => dopsXK P T ops mem0 rest s' k
      | none => none
theorem dopsXK_some [Tok] {P : Program} {T : Tab} {ops : List Oper} {mem0 : List (List Value)} {r : Value} (hT : TPar T) : ∀ {l : List Oper} {s : St} {k : St → Option Value}, dopsXK P T ops mem0 l s k = some r → ∃ s', dopsX P T.flat ops mem0 l s = some s' ∧ k s' = some r ∧ ∀ k', dopsXK P T ops mem0 l s k' = k' s'
  | [], s, k, h => ⟨s, rfl, h, fun _ => rfl⟩
  | o :: rest, s, k, h => by
    simp only [dopsXK] at h
    cases hC : aopC P T { s with mem := mem0 } o with
    | none =>
      rw [hC] at h
      simp only at h
      cases hd : dopX P T.flat ops mem0 s o with
      | none => rw [hd] at h; cases h
      | some s1 =>
        rw [hd] at h
        obtain ⟨s2, h1, h2, h3⟩ := dopsXK_some hT h
        exact ⟨s2, by simp only [dopsX, hd]; exact h1, h2, fun k' => by simp only [dopsXK, hC, hd]; exact h3 k'⟩
    | some g =>
      rw [hC] at h
      simp only at h
      cases hc : (o.guard.isNone && (o.op.operands.toList.all (opdOk s.slots []) && dstOk s.slots [] o.dst))
      · rw [hc] at h; cases h
      · rw [hc] at h
        simp only [cond_true] at h
        have hC' := hC
        unfold aopC at hC
        split at hC
        · rename_i c hop
          split at hC
          · rename_i f args hcal
            split at hC
            · rename_i g' hg
              cases hC
              obtain ⟨v, h1, h2⟩ := hT f g' hg mem0 args _ r h
              obtain ⟨s2, h4, h5, h6⟩ := dopsXK_some hT h1
              have hc0 := hc
              simp only [Bool.and_eq_true] at hc
              obtain ⟨hgd, hops, hd⟩ := hc
              refine ⟨s2, ?_, h5, fun k' => ?_⟩
              · have hch : opChain ops s.slots o = some [] := by
                  unfold opChain
                  cases hgd' : o.guard with
                  | none => rfl
                  | some g => rw [hgd'] at hgd; cases hgd
                have hTf : T.flat.f f mem0 args = some v := by
                  simp only [Tab.flat, hg]
                  exact h2 some
                have hval : aval P T.flat { s with mem := mem0 } o = some v := by
                  unfold aval
                  rw [hop]
                  simp only
                  unfold acallee at hcal
                  split at hcal
                  · rename_i f' hc'
                    cases hcal
                    rw [hc']
                    exact hTf
                  · rename_i rc name hc'
                    rw [hc']
                    simp only
                    split at hcal
                    · rename_i t y hrc
                      split at hcal
                      · rename_i f' hm
                        cases hcal
                        rw [hrc]
                        simp only [hm]
                        exact hTf
                      · cases hcal
                    · cases hcal
                  · cases hcal
                have hcalc : acalc P T.flat ops { s with mem := mem0 } o = some ([], v) := by
                  unfold acalc
                  simp only [hch]
                  split
                  · rename_i g x y hop'; rw [hop] at hop'; cases hop'
                  · rw [hops, hval]; rfl
                have hdop : dopX P T.flat ops mem0 s o = some { s with slots := putS s.slots o.dst (v, []) } := by
                  unfold dopX
                  have e1 : isStore o.op = false := by rw [hop]; rfl
                  have e2 : isAlloc o.op = false := by rw [hop]; rfl
                  rw [e1, e2]
                  simp only [cond_false, hcalc]
                  rw [hd]
                  rfl
                simp only [dopsX, hdop]
                exact h4
              · simp only [dopsXK, hC']
                rw [hc0]
                simp only [cond_true]
                rw [h2]
                exact h6 k'
            · cases hC
          · cases hC
        · cases hC
def drawn2K [Tok] (P : Program) (T : Tab) (ops : List Oper) (s : St) (k : St → Option Value) : Option Value :=
  cond (drawOk2 ops s.slots.length && s.slots.all (fun q => q.2.isEmpty)) (dopsXK P T ops s.mem ops s fun s1 => match finish P ops s1 with
    | some sf => k sf
    | none => none) none
theorem drawn2K_some [Tok] {P : Program} {T : Tab} {ops : List Oper} {s : St} {k : St → Option Value} {r : Value} (hT : TPar T) (h : drawn2K P T ops s k = some r) : ∃ s', drawn2 P T.flat ops s = some s' ∧ k s' = some r ∧ ∀ k', drawn2K P T ops s k' = k' s' := by
  unfold drawn2K at h
  cases hc : (drawOk2 ops s.slots.length && s.slots.all (fun q => q.2.isEmpty))
  · rw [hc] at h; cases h
  · rw [hc] at h
    simp only [cond_true] at h
    obtain ⟨s1, h1, h2, h3⟩ := dopsXK_some hT h
    cases hf : finish P ops s1 with
    | none => rw [hf] at h2; cases h2
    | some sf =>
      rw [hf] at h2
      refine ⟨sf, ?_, h2, fun k' => ?_⟩
      · unfold drawn2; rw [hc]; simp only [cond_true]; rw [h1]; exact hf
      · unfold drawn2K; rw [hc]; simp only [cond_true]; rw [h3, hf]
/-- One variable, or several. -/
def drawnM [Tok] (P : Program) (T : Tab) (ops : List Oper) (s : St) (k : St → Option Value) : Option Value :=
  cond (drawOk ops s.slots.length) (drawnK P T ops s k) (drawn2K P T ops s k)
open Classical in
theorem drawnM_ok [Tok] {P : Program} {T : Tab} {hd : List (List Value)} (hT : TOk P T hd) (hm : P.follows .mixedOrders = true) : DOk P (drawnM P T) hd := by
  have h1 := drawn_ok hT hm
  constructor
  · intro ops s k r h
    unfold drawnM at h ⊢
    cases hc : drawOk ops s.slots.length
    · rw [hc] at h
      simp only [cond_false] at h ⊢
      obtain ⟨s', _, h2, h3⟩ := drawn2K_some hT.par h
      exact ⟨s', h2, h3⟩
    · rw [hc] at h
      simp only [cond_true] at h ⊢
      exact h1.1 ops s k r h
  · intro base hb w0 bs s s' a w id ops Q hI h hQ
    unfold drawnM at h
    cases hc : drawOk ops.toList s.slots.length
    · rw [hc] at h
      simp only [cond_false] at h
      obtain ⟨s2, h4, _, h3⟩ := drawn2K_some (r := junk) (k := fun _ => some junk) hT.par (h _)
      have e : s2 = s' := by
        have h5 := h3 fun x => if x = s' then some junk else none
        rw [h] at h5
        simp only [if_true] at h5
        by_cases e : s2 = s'
        · exact e
        · rw [if_neg e] at h5; cases h5
      subst e
      exact drawn2_ok0 hT.flat hm base hb w0 bs s s2 a w id ops Q hI h4 hQ
    · rw [hc] at h
      simp only [cond_true] at h
      exact h1.2 base hb w0 bs s s' a w id ops Q hI h hQ
end Go.Ev
