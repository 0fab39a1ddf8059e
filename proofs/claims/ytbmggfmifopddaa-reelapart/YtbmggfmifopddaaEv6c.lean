/-
  A region that draws its order and makes several variables: any order.
-/
import Derived.Test.YtbmggfmifopddaaEv6b
namespace Go.Ev
open Go.RowKit

section
variable {P : Program} {T : Tab} {base : Bs} {w0 : World} {bs : List Nat} {ops : Array Oper}

/-- What 'finish' has asked of each variable. -/
theorem fin_spec {L : List Oper} {s1 : St} : ∀ {l : List Oper} {sl : List (Value × Chain)} {m : List (List Value)} {r : List (Value × Chain) × List (List Value)}, finishL P L s1 l sl m = some r →
    ∀ o, o ∈ l → ∀ t, o.op = .alloc t → ∃ z inf d row, pureOf P (zeroValue t) = some z ∧ P.info? t = some inf ∧ o.dst = some d ∧ (z.cells.toList.all (·.oneCell')) = true ∧ inf.size = z.cells.size ∧ rowOf L s1 z d = some row
  | [], _, _, _, _, o, ho, _, _ => by cases ho
  | o' :: l, sl, m, r, h, o, ho, t, hop => by
    unfold finishL at h
    cases hop' : o'.op <;> rw [hop'] at h <;> simp only at h
    case alloc t' =>
      cases hz : pureOf P (zeroValue t') with
      | none => rw [hz] at h; cases h
      | some z =>
        cases hi : P.info? t' with
        | none => rw [hz, hi] at h; cases h
        | some inf =>
          cases hd : o'.dst with
          | none => rw [hz, hi, hd] at h; cases h
          | some d =>
            rw [hz, hi, hd] at h
            simp only at h
            cases hc : (z.cells.toList.all (·.oneCell') && (inf.size == z.cells.size))
            · rw [hc] at h; cases h
            · rw [hc] at h
              simp only [cond_true] at h
              cases hr : rowOf L s1 z d with
              | none => rw [hr] at h; cases h
              | some row =>
                rw [hr] at h
                rcases List.mem_cons.1 ho with rfl | ho
                · rw [hop] at hop'
                  cases hop'
                  simp only [Bool.and_eq_true, beq_iff_eq] at hc
                  exact ⟨z, inf, d, row, hz, hi, hd, hc.1, hc.2, hr⟩
                · exact fin_spec h o ho t hop
    all_goals
      rcases List.mem_cons.1 ho with rfl | ho
      · rw [hop] at hop'; cases hop'
      · exact fin_spec h o ho t hop

structure J2Inv [Tok] (P : Program) (base : Bs) (w0 : World) (bs : List Nat) (ops : Array Oper) (s0 s1 : St) (listed : Array Bool) (a : Act) (w : World) : Prop where
  defers : a.defers = []
  frame : frel bs s1.slots (mixS ops.toList s0 s1 [] listed).slots a.tmps
  mem0 : MemRel bs s0.mem w
  own : ∀ i b, s0.ro ≤ i → bs[i]? = some b → base.owns b ∧ (∃ cs e, w.heap[b]? = some (.cells cs e (0, 0))) ∧ ∀ j, bs[j]? = some b → j = i
  below : BelowB base w0 w
  base_le : base.n ≤ w.heap.size
  pre0 : Pre base.hd s0.mem
  pre_ro : base.hd.length ≤ s0.ro
  size : listed.size = ops.size
  shut : ∀ i o, ops[i]? = some o → listed.getD i false = true → ∀ e, e ∈ o.after → Region.binds .any e = true → listed.getD e.on false = true
  news : ∀ (p : Nat) (o : Oper) (t : TypeId) (d : Nat) (z : Value), ops.toList[p]? = some o → o.op = .alloc t → o.dst = some d → pureOf P (zeroValue t) = some z → listed.getD p false = true →
    ∃ b cs, a.tmps.getD d undef = .pointer (some ⟨b, 0, none⟩) ∧ base.n ≤ b ∧ (∀ j : Nat, bs[j]? ≠ some b) ∧ w.heap[b]? = some (.cells cs t (0, 0)) ∧
      ((∀ (m : Nat) (om : Oper), ops.toList[m]? = some om → isInit d om = true → listed.getD m false = false) → cs = z.cells) ∧
      ∀ (m : Nat) (om : Oper) (tt : TypeId) (x : Operand), ops.toList[m]? = some om → om.op = .store tt (.tmp d) x → listed.getD m false = true → rowrel bs (aeval s1 x).cells.toList cs.toList
  inj : ∀ (p q : Nat) (o o' : Oper) (t t' : TypeId) (d d' : Nat), ops.toList[p]? = some o → ops.toList[q]? = some o' → o.op = .alloc t → o'.op = .alloc t' → o.dst = some d → o'.dst = some d' → listed.getD p false = true → listed.getD q false = true → p ≠ q → a.tmps.getD d undef ≠ a.tmps.getD d' undef

theorem put_same {a : Act} {dst : Option Nat} {u : Value} {d : Nat} (h : dst ≠ some d) : (a.put dst u).tmps.getD d undef = a.tmps.getD d undef := by
  cases dst with
  | none => rfl
  | some e =>
    simp only [Act.put]
    rw [tmps_set, if_neg]
    rintro ⟨e', _⟩
    exact h (by rw [e'])
theorem put_here {a : Act} {u : Value} {d : Nat} (h : d < a.tmps.size) : (a.put (some d) u).tmps.getD d undef = u := by
  simp only [Act.put]
  rw [tmps_set, if_pos ⟨rfl, h⟩]
theorem isAlloc_op {o : Oper} (h : isAlloc o.op = true) : ∃ t, o.op = .alloc t := by
  cases hop : o.op <;> rw [hop] at h <;> first | (cases h; done) | exact ⟨_, rfl⟩

/-- One operation that is ready. -/
theorem J2_step [Tok] {s0 s1 : St} {S : Nat → St} {Q : Exit → Act → World → Prop} {r : List (Value × Chain) × List (List Value)} (hT : TOk P T base.hd) (hx : Lex2 P T ops.toList s0 s1 S) (hfin : finishL P ops.toList s1 ops.toList s1.slots s1.mem = some r) {listed : Array Bool} {a : Act} {w : World}
    (hJ : J2Inv P base w0 bs ops s0 s1 listed a w) {i : Nat} (hr : i ∈ Region.ready .any ops listed)
    {K : Act → World → Prop} (hK : ∀ a' w', J2Inv P base w0 bs ops s0 s1 (listed.setIfInBounds i true) a' w' → K a' w') : wpOp P ops Q i K a w := by
  obtain ⟨hun, o, ho, hready⟩ := mem_ready.1 hr
  have hil : i < ops.size := (Array.getElem?_eq_some_iff.1 ho).1
  have hi : i < listed.size := by rw [hJ.size]; exact hil
  have hun' : listed.getD i false = false := by rw [← getD_of_size hi]; exact hun
  have ho' : ops.toList[i]? = some o := by simpa using ho
  have hll : i < ops.toList.length := by simpa using hil
  have hshut' : ∀ (j : Nat) (oj : Oper), ops.toList[j]? = some oj → listed.getD j false = true → ∀ e, e ∈ oj.after → Region.binds .any e = true → listed.getD e.on false = true :=
    fun j oj hj => hJ.shut j oj (by simpa using hj)
  have hag := hx.agree (mA := []) ho' hun' hready hshut'
  have hat := hx.agreeTests (mA := []) (listed := listed) ho' hready
  have hwant : o.guard.isNone = true → Region.wanted o (yielded ops a.tmps) = true := fun hg => by
    unfold Region.wanted; cases hgd : o.guard with
    | none => rfl
    | some g => rw [hgd] at hg; cases hg
  have lset : ∀ p, (listed.setIfInBounds i true).getD p false = true → p = i ∨ listed.getD p false = true := fun p hp => by
    rw [listed_set hi] at hp
    by_cases e : i = p
    · exact Or.inl e.symm
    · exact Or.inr (by simpa [e] using hp)
  have lun : ∀ p, (listed.setIfInBounds i true).getD p false = false → p ≠ i ∧ listed.getD p false = false := fun p hp => by
    rw [listed_set hi] at hp
    simp only [Bool.or_eq_false_iff, decide_eq_false_iff_not] at hp
    exact ⟨fun e => hp.1 e.symm, hp.2⟩
  unfold wpOp
  rw [ho]
  simp only
  rcases hx.cases ho' with ⟨hs, hst⟩ | ⟨hal, hst⟩ | ⟨hns, hna, c, v, hc, hst⟩
  · -- what is laid
    obtain ⟨t, p, x, hop, hg, hdn, hin, ⟨ia, oa, hia, hoa, hda, hlt⟩, hxw⟩ := store_spec hx.ok ho' hs
    have hlook : p ∈ looks ops.toList o := List.mem_append_left _ (mem_tmpsOf (y := .tmp p) (by rw [hop]; simp [Op.operands]) rfl)
    have hla : listed.getD ia false = true := by
      rcases (drawOk2_spec hx.ok ho').2.2.2.1 p hlook ia oa hia (by simp [writes, hda]) with ⟨_, he⟩ | ⟨h2, _⟩
      · exact hasEdge_listed he hready
      · omega
    obtain ⟨z, inf, d, row, hz, hinf, hd, hone, hsz, hrow⟩ := fin_spec hfin oa (List.mem_of_getElem? hia) t hoa
    rw [hda] at hd
    cases hd
    have huniq : ∀ (m : Nat) (om : Oper), ops.toList[m]? = some om → isInit p om = true → m = i := by
      obtain ⟨_, d', hd', hsp⟩ := alloc_spec hx.ok hia (by rw [hoa]; rfl)
      rw [hda] at hd'
      cases hd'
      intro m om hm him
      exact (hsp i o ho' hlook).2 m om hm him
    have hfind : ops.toList.find? (isInit p) = some o := by
      cases hf : ops.toList.find? (isInit p) with
      | none => exact absurd hin (by have := List.find?_eq_none.1 hf o (List.mem_of_getElem? ho'); simpa using this)
      | some om =>
        obtain ⟨m, hm⟩ := List.mem_iff_getElem?.1 (List.mem_of_find?_eq_some hf)
        have := huniq m om hm (List.find?_some hf)
        subst this
        rw [ho'] at hm; exact hm.symm
    have hrow' := hrow
    unfold rowOf at hrow'
    rw [hfind] at hrow'
    simp only [hop] at hrow'
    obtain ⟨hk, _⟩ := cond_some hrow'
    simp only [Bool.and_eq_true, beq_iff_eq] at hk
    obtain ⟨hxo, hpx, hxs⟩ := hk
    obtain ⟨b, cs, hpt, hbn, hnb, hcs, hz0, _⟩ := hJ.news ia oa t p z hia hoa hda hz hla
    have hcz : cs = z.cells := hz0 fun m om hm him => by rw [huniq m om hm him]; exact hun'
    subst hcz
    -- the slot that is laid is as it is in the end
    have hslot : ∀ u, x = .tmp u → (mixS ops.toList s0 s1 [] listed).slots.getD u dflt = s1.slots.getD u dflt := fun u hu => by
      rw [hag u (List.mem_append_left _ (mem_tmpsOf (y := x) (by rw [hop]; simp [Op.operands]) hu))]
      by_cases hw : ∃ (j : Nat) (oj : Oper), ops.toList[j]? = some oj ∧ writes oj u = true
      · obtain ⟨j, oj, hj, hwj⟩ := hw
        exact hx.behind (Nat.le_of_lt hll) hj hwj (hxw u hu j oj hj hwj)
      · have hn : ∀ (j : Nat) (oj : Oper), ops.toList[j]? = some oj → writes oj u = false := fun j oj hj => by
          cases h : writes oj u
          · rfl
          · exact (hw ⟨j, oj, hj, h⟩).elim
        rw [hx.never hn, hx.before (Nat.le_of_lt hll) fun j oj hj _ => hn j oj hj]
    have hxe : aeval (mixS ops.toList s0 s1 [] listed) x = aeval s1 x := aeval_congr hslot
    have hxo' : opdOk (mixS ops.toList s0 s1 [] listed).slots [] x = true := by rw [opdOk_congr hslot]; exact hxo
    have hv := frel_opd hJ.frame (c := []) rfl x hxo'
    rw [hxe] at hv
    have hpre : rowpre bs (z.cells.toList.map canS) z.cells.toList := rowpre_of_rowrel (rowrel_canS hone)
    have hrun := store_run (P := P) (t := t) (off := 0) hinf hcs hpx hv (by rw [hxs, hsz]) (by rw [hsz]; simp) hpre
    rw [if_pos (hwant hg)]
    refine Or.inl ?_
    unfold Oper.wp execOp
    have hpe : a.eval (.tmp p) = .pointer (some ⟨b, 0, none⟩) := hpt
    simp only [hop, hpe, Sem.run_bind, hrun, Result.andThen_ok, Sem.run_pure, Oper.upon_skip, hdn, Act.put]
    have hcr := cells_rel hv hpx
    have hcl := rowrel_length hcr
    have hnew : (z.cells.toList.take 0 ++ (a.eval x).cells.toList ++ z.cells.toList.drop (0 + (a.eval x).cells.toList.length)) = (a.eval x).cells.toList := by
      simp only [List.take_zero, List.nil_append, Nat.zero_add]
      rw [List.drop_eq_nil_of_le, List.append_nil]
      simp at hcl ⊢
      omega
    rw [hnew]
    have hsame : (mixS ops.toList s0 s1 [] (listed.setIfInBounds i true)).slots = (mixS ops.toList s0 s1 [] listed).slots := by
      simp only [mixS]
      refine List.map_congr_left fun t _ => ?_
      rw [wrB_set hi ho']
      simp [writes, hdn]
    have hbd : b < w.heap.size := (Array.getElem?_eq_some_iff.1 hcs).1
    refine hK _ _ {
      defers := hJ.defers
      frame := by rw [hsame]; exact hJ.frame
      mem0 := by
        refine ⟨hJ.mem0.1, fun j c cl h1 h2 => ?_⟩
        obtain ⟨h3, cs', e', fz, h4, h5⟩ := hJ.mem0.2 j c cl h1 h2
        have hne : c ≠ b := fun e => hnb j (by rw [← e]; exact h1)
        exact ⟨by simpa [World.setRow] using h3, cs', e', fz, by rw [setRow_other w b c _ hne]; exact h4, h5⟩
      own := fun j c hj hc => by
        obtain ⟨h3, ⟨cs2, e2, h4⟩, h5⟩ := hJ.own j c hj hc
        have hne : c ≠ b := fun e => hnb j (by rw [← e]; exact hc)
        exact ⟨h3, ⟨cs2, e2, by rw [setRow_other w b c _ hne]; exact h4⟩, h5⟩
      below := BelowB.setRow' hJ.below (Or.inl hbn) _
      base_le := by simpa [World.setRow] using hJ.base_le
      pre0 := hJ.pre0
      pre_ro := hJ.pre_ro
      size := by simp [hJ.size]
      shut := shut_set hi ho hready hJ.shut
      news := fun q oq tq dq zq hq hoq hdq hzq hlq => by
        have hqi : q ≠ i := fun e => by subst e; rw [ho'] at hq; cases hq; rw [hop] at hoq; cases hoq
        have hlq' : listed.getD q false = true := (lset q hlq).resolve_left hqi
        obtain ⟨b', cs', g1, g2, g3, g4, g5, g6⟩ := hJ.news q oq tq dq zq hq hoq hdq hzq hlq'
        by_cases hqa : q = ia
        · subst hqa
          rw [hia] at hq; cases hq
          rw [hoa] at hoq; cases hoq
          rw [hda] at hdq; cases hdq
          rw [hpt] at g1
          cases g1
          rw [hcs] at g4
          cases g4
          refine ⟨b, (a.eval x).cells.toList.toArray, hpt, hbn, hnb, setRow_heap w b _ _ t (0, 0) hcs, fun hno => ?_, fun m om tt y hm hom hlm => ?_⟩
          · have := hno i o ho' hin
            rw [listed_set hi] at this
            simp at this
          · have him : isInit p om = true := by
              rcases (alloc_spec hx.ok hia (by rw [hoa]; rfl)) with ⟨_, d', hd', hsp⟩
              rw [hda] at hd'
              cases hd'
              exact (hsp m om hm (List.mem_append_left _ (mem_tmpsOf (y := .tmp p) (by rw [hom]; simp [Op.operands]) rfl))).1
            have := huniq m om hm him
            subst this
            rw [ho'] at hm; cases hm
            rw [hop] at hom; cases hom
            simpa using hcr
        · have hne : b' ≠ b := fun e => by
            have := hJ.inj q ia oq oa tq t dq p hq hia hoq hoa hdq hda hlq' hla hqa
            rw [g1, hpt, e] at this
            exact this rfl
          refine ⟨b', cs', g1, g2, g3, by rw [setRow_other w b b' _ hne]; exact g4, fun hno => g5 fun m om hm him => (lun m (hno m om hm him)).2, fun m om tt y hm hom hlm => ?_⟩
          rcases lset m hlm with e | e
          · subst e
            rw [ho'] at hm; cases hm
            rw [hop] at hom; cases hom
            exact (hqa (hx.uniq (t := p) hq hia (by simp [writes, hdq]) (by simp [writes, hda]))).elim
          · exact g6 m om tt y hm hom e
      inj := fun q q' oq oq' tq tq' dq dq' hq hq' hoq hoq' hdq hdq' hlq hlq' hne => by
        have h1 : q ≠ i := fun e => by subst e; rw [ho'] at hq; cases hq; rw [hop] at hoq; cases hoq
        have h2 : q' ≠ i := fun e => by subst e; rw [ho'] at hq'; cases hq'; rw [hop] at hoq'; cases hoq'
        exact hJ.inj q q' oq oq' tq tq' dq dq' hq hq' hoq hoq' hdq hdq' ((lset q hlq).resolve_left h1) ((lset q' hlq').resolve_left h2) hne }
  · -- a new variable
    obtain ⟨t, hop⟩ := isAlloc_op hal
    obtain ⟨hg, d, hd, hsp⟩ := alloc_spec hx.ok ho' hal
    obtain ⟨z, inf, d', row, hz, hinf, hd', hone, hsz, hrow⟩ := fin_spec hfin o (List.mem_of_getElem? ho') t hop
    rw [hd] at hd'
    cases hd'
    rw [if_pos (hwant hg)]
    refine Or.inl ?_
    have hzr := run_of_pureOf w hz
    unfold Oper.wp execOp
    simp only [hop, Instr.alloc, newVar, newRow, Sem.run_bind, hzr, run_newObj, Result.andThen_ok, Sem.run_pure, Oper.upon_value]
    have hbl : Below w.heap.size w (w.alloc (.cells z.cells t)) := (Below.refl _ _).alloc (Nat.le_refl _) _
    have hlt : ∀ j c, bs[j]? = some c → c < w.heap.size := fun j c hj => by
      have hj' : j < s0.mem.length := by rw [← hJ.mem0.1]; exact (List.getElem?_eq_some_iff.1 hj).1
      exact (hJ.mem0.2 j c _ hj (List.getElem?_eq_getElem hj')).1
    have hdl := ((drawOk2_spec hx.ok ho').2.2.1 d hd).1
    have hds : d < a.tmps.size := by rw [hJ.frame.1]; simp only [mixS, List.length_map, List.length_range]; exact hdl
    have other : ∀ (q : Nat) (oq : Oper) (dq : Nat), ops.toList[q]? = some oq → oq.dst = some dq → q ≠ i → o.dst ≠ some dq := fun q oq dq hq hdq hne e => hne (hx.uniq (t := dq) hq ho' (by simp [writes, hdq]) (by simp [writes, e]))
    exact hK _ _ {
      defers := by rw [put_defers]; exact hJ.defers
      frame := frel_mix2 hx hi ho' (show (S (i + 1)).slots = putS (S i).slots o.dst (junk, []) by rw [hst]) hJ.frame (fun _ => trivial) (fun h => by cases h)
      mem0 := hJ.mem0.below hbl
      own := fun j b hj hbj => by
        obtain ⟨h3, ⟨cs, e, h4⟩, h5⟩ := hJ.own j b hj hbj
        exact ⟨h3, ⟨cs, e, (hbl.block b (Array.getElem?_eq_some_iff.1 h4).1).trans h4⟩, h5⟩
      below := hJ.below.alloc hJ.base_le _
      base_le := by have := hJ.base_le; simp; omega
      pre0 := hJ.pre0
      pre_ro := hJ.pre_ro
      size := by simp [hJ.size]
      shut := shut_set hi ho hready hJ.shut
      news := fun q oq tq dq zq hq hoq hdq hzq hlq => by
        by_cases hqi : q = i
        · subst hqi
          rw [ho'] at hq; cases hq
          rw [hop] at hoq; cases hoq
          rw [hd] at hdq; cases hdq
          rw [hz] at hzq; cases hzq
          refine ⟨w.heap.size, z.cells, by rw [hd]; exact put_here hds, hJ.base_le, fun j hj => by have := hlt j _ hj; omega, by show (w.heap.push _)[w.heap.size]? = _; simp, fun _ => rfl, fun m om tt x hm hom hlm => ?_⟩
          -- what lays it comes behind it
          have hlook : d ∈ looks ops.toList om := List.mem_append_left _ (mem_tmpsOf (y := .tmp d) (by rw [hom]; simp [Op.operands]) rfl)
          obtain ⟨_, p', x', hom', _, _, _, ⟨ia, oa, hia, hoa, hda, hlt'⟩, _⟩ := store_spec hx.ok hm (by rw [hom]; rfl)
          rw [hom] at hom'
          cases hom'
          have e := hx.uniq (t := d) hia ho' (by simp [writes, hda]) (by simp [writes, hd])
          subst e
          have hml : listed.getD m false = true := by
            rcases lset m hlm with e | e
            · subst e; omega
            · exact e
          rcases (drawOk2_spec hx.ok hm).2.2.2.1 d hlook ia o ho' (by simp [writes, hd]) with ⟨_, he⟩ | ⟨h2, _⟩
          · have := hasEdge_listed he (hshut' m om hm hml)
            rw [hun'] at this; cases this
          · omega
        · have hlq' : listed.getD q false = true := (lset q hlq).resolve_left hqi
          obtain ⟨b', cs', g1, g2, g3, g4, g5, g6⟩ := hJ.news q oq tq dq zq hq hoq hdq hzq hlq'
          refine ⟨b', cs', by rw [put_same (other q oq dq hq hdq hqi)]; exact g1, g2, g3, (hbl.block b' (Array.getElem?_eq_some_iff.1 g4).1).trans g4, fun hno => g5 fun m om hm him => (lun m (hno m om hm him)).2, fun m om tt y hm hom hlm => ?_⟩
          rcases lset m hlm with e | e
          · subst e; rw [ho'] at hm; cases hm; rw [hop] at hom; cases hom
          · exact g6 m om tt y hm hom e
      inj := fun q q' oq oq' tq tq' dq dq' hq hq' hoq hoq' hdq hdq' hlq hlq' hne => by
        have blk : ∀ (q : Nat) (oq : Oper) (tq : TypeId) (dq : Nat), ops.toList[q]? = some oq → oq.op = .alloc tq → oq.dst = some dq → listed.getD q false = true → ∃ b', a.tmps.getD dq undef = .pointer (some ⟨b', 0, none⟩) ∧ b' < w.heap.size := fun q oq tq dq hq hoq hdq hl => by
          obtain ⟨zq, _, _, _, hzq, _⟩ := fin_spec hfin oq (List.mem_of_getElem? hq) tq hoq
          obtain ⟨b', cs', g1, _, _, g4, _⟩ := hJ.news q oq tq dq zq hq hoq hdq hzq hl
          exact ⟨b', g1, (Array.getElem?_eq_some_iff.1 g4).1⟩
        by_cases h1 : q = i
        · subst h1
          have h2 : q' ≠ q := fun e => hne e.symm
          obtain ⟨b', e', hb'⟩ := blk q' oq' tq' dq' hq' hoq' hdq' ((lset q' hlq').resolve_left h2)
          rw [ho'] at hq; cases hq
          rw [hd] at hdq; cases hdq
          rw [hd, put_here hds, put_same (by rw [← hd]; exact other q' oq' dq' hq' hdq' h2), e']
          intro e
          cases e
          omega
        · by_cases h2 : q' = i
          · subst h2
            obtain ⟨b', e', hb'⟩ := blk q oq tq dq hq hoq hdq ((lset q hlq).resolve_left h1)
            rw [ho'] at hq'; cases hq'
            rw [hd] at hdq'; cases hdq'
            rw [hd, put_here hds, put_same (by rw [← hd]; exact other q oq dq hq hdq h1), e']
            intro e
            cases e
            omega
          · rw [put_same (other q oq dq hq hdq h1), put_same (other q' oq' dq' hq' hdq' h2)]
            exact hJ.inj q q' oq oq' tq tq' dq dq' hq hq' hoq hoq' hdq hdq' ((lset q hlq).resolve_left h1) ((lset q' hlq').resolve_left h2) hne }
  · -- any other
    have hslots : (S (i + 1)).slots = putS (S i).slots o.dst (v, c) := by rw [hst]
    have other : ∀ (q : Nat) (oq : Oper) (tq : TypeId) (dq : Nat), ops.toList[q]? = some oq → oq.op = .alloc tq → oq.dst = some dq → o.dst ≠ some dq := fun q oq tq dq hq hoq hdq e => by
      have := hx.uniq (t := dq) hq ho' (by simp [writes, hdq]) (by simp [writes, e])
      subst this
      rw [ho'] at hq; cases hq
      rw [hoq] at hna; cases hna
    have notst : ∀ (m : Nat) (om : Oper) (tt : TypeId) (p x : Operand), ops.toList[m]? = some om → om.op = .store tt p x → m ≠ i := fun m om tt p x hm hom e => by
      subst e; rw [ho'] at hm; cases hm; rw [hom] at hns; cases hns
    have next : ∀ u w', (tru s1.slots c = true → vrel bs v u) → (tru s1.slots c = false → u = undef) → Below w.heap.size w w' → K (a.put o.dst u) w' := fun u w' g1 g2 hb =>
      hK _ _ {
        defers := by rw [put_defers]; exact hJ.defers
        frame := frel_mix2 hx hi ho' hslots hJ.frame g1 g2
        mem0 := hJ.mem0.below hb
        own := fun j b hj hbj => by
          obtain ⟨h3, ⟨cs, e, h4⟩, h5⟩ := hJ.own j b hj hbj
          exact ⟨h3, ⟨cs, e, by rw [hb.block b (Array.getElem?_eq_some_iff.1 h4).1]; exact h4⟩, h5⟩
        below := hJ.below.on hb hJ.base_le
        base_le := Nat.le_trans hJ.base_le hb.size
        pre0 := hJ.pre0
        pre_ro := hJ.pre_ro
        size := by simp [hJ.size]
        shut := shut_set hi ho hready hJ.shut
        news := fun q oq tq dq zq hq hoq hdq hzq hlq => by
          have hqi : q ≠ i := fun e => by subst e; rw [ho'] at hq; cases hq; rw [hoq] at hna; cases hna
          obtain ⟨b', cs', g1, g2, g3, g4, g5, g6⟩ := hJ.news q oq tq dq zq hq hoq hdq hzq ((lset q hlq).resolve_left hqi)
          refine ⟨b', cs', by rw [put_same (other q oq tq dq hq hoq hdq)]; exact g1, g2, g3, by rw [hb.block b' (Array.getElem?_eq_some_iff.1 g4).1]; exact g4, fun hno => g5 fun m om hm him => (lun m (hno m om hm him)).2, fun m om tt y hm hom hlm => ?_⟩
          exact g6 m om tt y hm hom ((lset m hlm).resolve_left (notst m om tt _ _ hm hom))
        inj := fun q q' oq oq' tq tq' dq dq' hq hq' hoq hoq' hdq hdq' hlq hlq' hne => by
          have h1 : q ≠ i := fun e => by subst e; rw [ho'] at hq; cases hq; rw [hoq] at hna; cases hna
          have h2 : q' ≠ i := fun e => by subst e; rw [ho'] at hq'; cases hq'; rw [hoq'] at hna; cases hna
          rw [put_same (other q oq tq dq hq hoq hdq), put_same (other q' oq' tq' dq' hq' hoq' hdq')]
          exact hJ.inj q q' oq oq' tq tq' dq dq' hq hq' hoq hoq' hdq hdq' ((lset q hlq).resolve_left h1) ((lset q' hlq').resolve_left h2) hne }
    have core : Region.wanted o (yielded ops a.tmps) = tru s1.slots c ∧ (tru s1.slots c = true → Good P bs w v ((execOp a.eval o).run P w)) := by
      have hcm : acalc P T ops.toList { mixS ops.toList s0 s1 [] listed with mem := s0.mem } o = some (c, v) :=
        (acalc_congr (s1 := { mixS ops.toList s0 s1 [] listed with mem := s0.mem }) (s2 := { S i with mem := s0.mem }) hag (Or.inl rfl)).trans hc
      exact acalc_core (s := { mixS ops.toList s0 s1 [] listed with mem := s0.mem }) hT hJ.pre0 hJ.frame hJ.mem0 (List.append_nil _).symm (Or.inl rfl) hat hcm
    obtain ⟨h1, h2⟩ := core
    rw [h1]
    cases ht : tru s1.slots c
    · rw [if_neg (by simp)]
      exact next undef w (fun h => by rw [ht] at h; cases h) (fun _ => rfl) (Below.refl _ _)
    · rw [if_pos rfl]
      exact Or.inl (good_wp (h2 ht) fun u w' hu hb => next u w' (fun _ => hu) (fun h => by rw [ht] at h; cases h) hb)
end
end Go.Ev
