/-
  A frame read plainly; one operation in its place, under its tests; a region in the order of the text.
-/
import Derived.Test.YtnlfeocapnefeaaEv3
namespace Go.Ev
open Go.RowKit

def trp (F : List (Value × Chain)) (p : Nat × Bool) : Bool :=
  match (F.getD p.1 dflt).1 with
  | .bool b => b == p.2
  | _ => false
/-- Do the tests hold? -/
def tru (F : List (Value × Chain)) (c : Chain) : Bool := c.all (trp F)

/-- The slots that are known, and what the frame holds: a slot whose tests do not hold was passed over. -/
def frel (bs : List Nat) (F s : List (Value × Chain)) (tmps : Array Value) : Prop :=
  tmps.size = s.length ∧ ∀ t, (tru F (s.getD t dflt).2 = true → vrel bs (s.getD t dflt).1 (tmps.getD t undef)) ∧ (tru F (s.getD t dflt).2 = false → tmps.getD t undef = undef)

def opChain (ops : List Oper) (slots : List (Value × Chain)) (o : Oper) : Option Chain :=
  match o.guard with
  | none => some []
  | some (j, want) => match ops[j]? with
    | some oj => match oj.dst with
      | some d => match (slots.getD d dflt).1 with
        | .bool _ => some ((d, want) :: (slots.getD d dflt).2)
        | _ => none
      | none => none
    | none => none

def opdOk (slots : List (Value × Chain)) (c : Chain) : Operand → Bool
  | .tmp t => (slots.getD t dflt).2.all (fun p => c.contains p)
  | _ => true

def acalc (P : Program) (T : Tab) (ops : List Oper) (s : St) (o : Oper) : Option (Chain × Value) :=
  match opChain ops s.slots o with
  | none => none
  | some c => match o.op with
    | .pick (.tmp g) x y =>
      cond (opdOk s.slots c (.tmp g) && (opdOk s.slots ((g, true) :: c) x && opdOk s.slots ((g, false) :: c) y))
        (match aeval s (.tmp g), aeval s x, aeval s y with
        | .bool b, .bool p, .bool q => some (c, .bool (cond b p q))
        | _, _, _ => none) none
    | _ => cond (o.op.operands.toList.all (opdOk s.slots c)) ((aval P T s o).map fun v => (c, v)) none

/-- The slots of tests that an operation looks at: its guard's, and what a 'pick' parts on. -/
def testsOf (ops : List Oper) (o : Oper) : List Nat :=
  (match o.guard with
  | none => []
  | some (j, _) => match ops[j]? with
    | some oj => oj.dst.toList
    | none => []) ++
  (match o.op with
  | .pick (.tmp g) _ _ => [g]
  | _ => [])

theorem tru_nil (F : List (Value × Chain)) : tru F [] = true := rfl
theorem tru_cons (F : List (Value × Chain)) (p : Nat × Bool) (c : Chain) : tru F (p :: c) = (trp F p && tru F c) := by simp [tru]

theorem tru_sub {F : List (Value × Chain)} {c d : Chain} (h : (c.all fun p => d.contains p) = true) (hd : tru F d = true) : tru F c = true := by
  unfold tru at *
  rw [List.all_eq_true] at *
  intro p hp
  exact hd p (by have := h p hp; simpa using this)

theorem frel_opd {bs : List Nat} {F : List (Value × Chain)} {s : St} {a : Act} {c : Chain} (hfr : frel bs F s.slots a.tmps) (hc : tru F c = true) (y : Operand) (hy : opdOk s.slots c y = true) : vrel bs (aeval s y) (a.eval y) := by
  cases y with
  | tmp t => exact (hfr.2 t).1 (tru_sub hy hc)
  | const v => exact vrel_canS bs v
  | global g => exact trivial
  | func f => exact rfl

theorem tmps_bool {tmps : Array Value} {d : Nat} {b : Bool} (h : tmps.getD d undef = .bool b) : tmps[d]? = some (.bool b) := by
  rw [Array.getD_eq_getD_getElem?] at h
  cases hx : tmps[d]? with
  | none => rw [hx] at h; simp [undef] at h
  | some v => rw [hx] at h; simp at h; rw [h]

theorem tmps_undef {tmps : Array Value} {d : Nat} (h : tmps.getD d undef = undef) : tmps[d]? = none ∨ tmps[d]? = some undef := by
  rw [Array.getD_eq_getD_getElem?] at h
  cases hx : tmps[d]? with
  | none => exact Or.inl rfl
  | some v => rw [hx] at h; simp at h; rw [h]; exact Or.inr rfl

theorem opChain_wanted {bs : List Nat} {F s : List (Value × Chain)} {a : Act} {ops : Array Oper} {o : Oper} {c : Chain} (hfr : frel bs F s a.tmps)
    (hag : ∀ t, t ∈ testsOf ops.toList o → (F.getD t dflt).1 = (s.getD t dflt).1) (h : opChain ops.toList s o = some c) : Region.wanted o (yielded ops a.tmps) = tru F c := by
  unfold opChain at h
  unfold Region.wanted
  cases hg : o.guard with
  | none => simp only [hg, Option.some.injEq] at h; subst h; rfl
  | some gw =>
    obtain ⟨j, want⟩ := gw
    simp only [hg] at h ⊢
    cases hj : ops.toList[j]? with
    | none => simp [hj] at h
    | some oj =>
      simp only [hj] at h
      cases hd : oj.dst with
      | none => simp [hd] at h
      | some d =>
        simp only [hd] at h
        have hj' : ops[j]? = some oj := by simpa using hj
        have hag' := hag d (by simp [testsOf, hg, hj', hd])
        split at h
        · rename_i b hb
          simp only [Option.some.injEq] at h
          subst h
          rw [tru_cons]
          have hy : yielded ops a.tmps j = match a.tmps[d]? with | some (.bool b) => some b | _ => none := by
            unfold yielded; simp [hj', hd]; rfl
          rw [hy]
          cases ht : tru F (s.getD d dflt).2
          · have := (hfr.2 d).2 ht
            rcases tmps_undef this with e | e <;> rw [e] <;> simp [undef]
          · have := (hfr.2 d).1 ht
            rw [hb] at this
            rw [tmps_bool (vrel_bool this)]
            have htr : trp F (d, want) = (b == want) := by unfold trp; simp only [hag', hb]
            rw [htr]
            cases b <;> cases want <;> rfl
        · cases h

theorem acalc_core {P : Program} {T : Tab} {bs bs0 es : List Nat} {F : List (Value × Chain)} {s : St} {a : Act} {w : World} {ops : Array Oper} {o : Oper} {c : Chain} {v : Value} (hT : TOk P T)
    (hfr : frel bs F s.slots a.tmps) (hm : MemRel bs0 s.mem w) (hbs : bs = bs0 ++ es) (hcb : es = [] ∨ callBelow bs0.length s o = true) (hag : ∀ t, t ∈ testsOf ops.toList o → (F.getD t dflt).1 = (s.slots.getD t dflt).1)
    (h : acalc P T ops.toList s o = some (c, v)) :
    Region.wanted o (yielded ops a.tmps) = tru F c ∧ (tru F c = true → Good P bs w v ((execOp a.eval o).run P w)) := by
  unfold acalc at h
  split at h
  · cases h
  · rename_i c' hc
    have main : ∀ c'', c'' = c' → c'' = c → (tru F c = true → Good P bs w v ((execOp a.eval o).run P w)) → Region.wanted o (yielded ops a.tmps) = tru F c ∧ (tru F c = true → Good P bs w v ((execOp a.eval o).run P w)) :=
      fun c'' e1 e2 h3 => ⟨by rw [← e2, e1]; exact opChain_wanted hfr hag hc, h3⟩
    split at h
    · rename_i g x y hop
      cases hk : (opdOk s.slots c' (.tmp g) && (opdOk s.slots ((g, true) :: c') x && opdOk s.slots ((g, false) :: c') y))
      · rw [hk] at h; cases h
      · rw [hk] at h
        simp only [cond_true] at h
        simp only [Bool.and_eq_true] at hk
        split at h
        · rename_i b p q hb hp hq
          simp only [Option.some.injEq, Prod.mk.injEq] at h
          obtain ⟨e1, e2⟩ := h
          refine main c' rfl e1 fun ht => ?_
          subst e1 e2
          have hgv := frel_opd hfr ht (.tmp g) hk.1
          rw [hb] at hgv
          have hgv' : a.eval (.tmp g) = .bool b := vrel_bool hgv
          have hagg : (F.getD g dflt).1 = .bool b := by
            rw [hag g (by simp [testsOf, hop])]; exact hb
          have hrun : (execOp a.eval o).run P w = .ok (.value (if b then a.eval x else a.eval y)) w := by
            unfold execOp
            simp only [hop, hgv', asBool, Sem.run_bind, Sem.run_pure, Result.andThen_ok]
          rw [hrun]
          refine ⟨?_, Or.inl rfl⟩
          cases b
          · have hy := frel_opd hfr (c := (g, false) :: c') (by rw [tru_cons, ht]; simp only [trp, hagg]; rfl) y hk.2.2
            rw [hq] at hy
            exact hy
          · have hx := frel_opd hfr (c := (g, true) :: c') (by rw [tru_cons, ht]; simp only [trp, hagg]; rfl) x hk.2.1
            rw [hp] at hx
            exact hx
        · cases h
    · cases hk : (o.op.operands.toList.all (opdOk s.slots c'))
      · rw [hk] at h; cases h
      · rw [hk] at h
        simp only [cond_true] at h
        cases hv : aval P T s o with
        | none => simp [hv] at h
        | some u =>
          simp only [hv, Option.map_some, Option.some.injEq, Prod.mk.injEq] at h
          obtain ⟨e1, e2⟩ := h
          refine main c' rfl e1 fun ht => ?_
          subst e1 e2
          rw [List.all_eq_true] at hk
          exact aval_good hT hm hbs hcb (fun f => rfl) (fun y hy => frel_opd hfr ht y (hk y hy)) hv

/-- From an outcome that fits to the walk's own word. -/
theorem good_wp {P : Program} {bs : List Nat} {o : Oper} {a : Act} {w : World} {v : Value} {K : Act → World → Prop} {Q : Exit → Act → World → Prop} (hg : Good P bs w v ((execOp a.eval o).run P w))
    (hK : ∀ u w', vrel bs v u → Below w.heap.size w w' → K (a.put o.dst u) w') : o.wp P a w K Q := by
  unfold Oper.wp
  generalize (execOp a.eval o).run P w = r at hg
  cases r with
  | ok n w' =>
    cases n <;> simp only [Good] at hg <;> first | exact hg.elim | skip
    case value u =>
      refine hK u w' hg.1 ?_
      rcases hg.2 with rfl | rfl
      · exact Below.refl _ _
      · exact (Below.refl _ _).drew
    case enter f args =>
      obtain ⟨rfl, hc⟩ := hg
      exact hc.mono fun e w'' ⟨u, he, hu, hb⟩ => by subst he; exact hK u w'' hu hb
  | halt x w' => exact hg.elim

/-! ### Putting -/
def putS (slots : List (Value × Chain)) (dst : Option Nat) (p : Value × Chain) : List (Value × Chain) :=
  match dst with
  | some d => slots.set d p
  | none => slots

def dstOk (slots : List (Value × Chain)) (c : Chain) : Option Nat → Bool
  | some d => c.all (fun p => p.1 != d) && slots.all (fun q => q.2.all (fun p => p.1 != d))
  | none => true

theorem getD_set (l : List (Value × Chain)) (d t : Nat) (p : Value × Chain) : (l.set d p).getD t dflt = if d = t ∧ d < l.length then p else l.getD t dflt := by
  simp only [List.getD_eq_getElem?_getD, List.getElem?_set]
  by_cases h : d = t
  · subst h
    by_cases h2 : d < l.length
    · simp [h2]
    · simp [h2]
  · simp [h]

theorem tmps_set (l : Array Value) (d t : Nat) (v : Value) : (l.setIfInBounds d v).getD t undef = if d = t ∧ d < l.size then v else l.getD t undef := by
  simp only [Array.getD_eq_getD_getElem?, Array.getElem?_setIfInBounds]
  by_cases h : d = t
  · subst h
    by_cases h2 : d < l.size
    · simp [h2]
    · simp [h2]
  · simp [h]

theorem trp_other {F : List (Value × Chain)} {d : Nat} {p : Nat × Bool} (v : Value × Chain) (h : p.1 ≠ d) : trp (F.set d v) p = trp F p := by
  unfold trp
  rw [getD_set, if_neg (fun e => h e.1.symm)]

theorem tru_other {F : List (Value × Chain)} {d : Nat} {c : Chain} (v : Value × Chain) (h : (c.all fun p => p.1 != d) = true) : tru (F.set d v) c = tru F c := by
  unfold tru
  induction c with
  | nil => rfl
  | cons p c ih =>
    simp only [List.all_cons, Bool.and_eq_true] at h ⊢
    rw [trp_other v (by simpa using h.1), ih h.2]

theorem frel_put {bs : List Nat} {s : List (Value × Chain)} {a : Act} {c : Chain} {dst : Option Nat} {v u : Value} (hfr : frel bs s s a.tmps) (hd : dstOk s c dst = true)
    (h1 : tru s c = true → vrel bs v u) (h2 : tru s c = false → u = undef) : frel bs (putS s dst (v, c)) (putS s dst (v, c)) (a.put dst u).tmps := by
  cases dst with
  | none => exact hfr
  | some d =>
    simp only [dstOk, Bool.and_eq_true] at hd
    obtain ⟨hd1, hd2⟩ := hd
    rw [List.all_eq_true] at hd2
    refine ⟨by simp [putS, Act.put, hfr.1], fun t => ?_⟩
    have hch : ((s.getD t dflt).2.all fun p => p.1 != d) = true := by
      simp only [List.getD_eq_getElem?_getD]
      cases hx : s[t]? with
      | none => rfl
      | some q => exact hd2 q (List.mem_of_getElem? hx)
    simp only [putS, Act.put]
    rw [getD_set, tmps_set, hfr.1]
    by_cases h : d = t ∧ d < s.length
    · rw [if_pos h, if_pos h]
      simp only [tru_other _ hd1]
      exact ⟨h1, h2⟩
    · rw [if_neg h, if_neg h, tru_other _ hch]
      exact hfr.2 t

/-! ### One operation, in the order of the text -/
def aop (P : Program) (T : Tab) (ops : List Oper) (s : St) (o : Oper) : Option St :=
  match o.op with
  | .box _ x => cond (o.guard.isNone && (opdOk s.slots [] x && (dstOk s.slots [] o.dst && okPart (aeval s x))))
      (some { s with slots := putS s.slots o.dst (.pointer (some ⟨s.mem.length, 0, none⟩), []), mem := s.mem ++ [(aeval s x).cells.toList] }) none
  | .alloc t => match pureOf P (zeroValue t) with
    | some z => cond (o.guard.isNone && (dstOk s.slots [] o.dst && z.cells.toList.all (·.oneCell')))
        (some { s with slots := putS s.slots o.dst (.pointer (some ⟨s.mem.length, 0, none⟩), []), mem := s.mem ++ [z.cells.toList.map canS] }) none
    | none => none
  | .buildSlice t len ps => match P.underlying t with
    | some (.slice elem) => match pureOf P (sizeOf elem), pureOf P (zeroValue elem) with
      | some size, some z =>
        cond (o.guard.isNone && (ps.toList.all (fun p => opdOk s.slots [] p.2) && (dstOk s.slots [] o.dst && ((ps.toList.map fun p => (p.1, aeval s p.2)).all (fun p => okPart p.2) &&
            (Nat.blt 0 (len * size) && (Nat.ble (len * size) 16777216 && ((Array.range (len * size)).map (z.cells[· % z.cells.size]!)).toList.all (·.oneCell')))))))
          (match Instr.fill (fun i => some (i * size, size)) (((Array.range (len * size)).map (z.cells[· % z.cells.size]!)).map canS) (ps.toList.map fun p => (p.1, aeval s p.2)) with
          | some cells => some { s with slots := putS s.slots o.dst (.slice (some ⟨s.mem.length, 0, none⟩) len len, []), mem := s.mem ++ [cells.toList] }
          | none => none) none
      | _, _ => none
    | _ => none
  | .store t p x => match aeval s p with
    | .pointer (some ⟨i, off, none⟩) => match s.mem[i]?, P.info? t with
      | some cells, some inf =>
        cond (o.guard.isNone && (o.dst.isNone && (opdOk s.slots [] p && (opdOk s.slots [] x && (okPart (aeval s x) && (Nat.ble s.ro i && (((aeval s x).cells.size == inf.size) && Nat.ble (off + inf.size) cells.length)))))))
          (some { s with mem := s.mem.set i (cells.take off ++ ((aeval s x).cells.toList ++ cells.drop (off + inf.size))) }) none
      | _, _ => none
    | _ => none
  | _ => match acalc P T ops s o with
    | some (c, v) => cond (dstOk s.slots c o.dst) (some { s with slots := putS s.slots o.dst (v, c) }) none
    | none => none

/-- What is known of a frame and of the world, from the call's beginning on. -/
structure Inv (base : Nat) (w0 : World) (bs : List Nat) (s : St) (a : Act) (w : World) : Prop where
  defers : a.defers = []
  frame : frel bs s.slots s.slots a.tmps
  mem : MemRel bs s.mem w
  own : ∀ i b, s.ro ≤ i → bs[i]? = some b → base ≤ b ∧ (∃ cs e, w.heap[b]? = some (.cells cs e (0, 0))) ∧ ∀ j, bs[j]? = some b → j = i
  ro_le : s.ro ≤ s.mem.length
  below : Below base w0 w
  base_le : base ≤ w.heap.size

theorem frel_more {bs : List Nat} (es : List Nat) {F s : List (Value × Chain)} {tmps : Array Value} (h : frel bs F s tmps) : frel (bs ++ es) F s tmps :=
  ⟨h.1, fun t => ⟨fun ht => vrel_more es ((h.2 t).1 ht), (h.2 t).2⟩⟩

theorem put_defers (a : Act) (dst : Option Nat) (v : Value) : (a.put dst v).defers = a.defers := by cases dst <;> rfl

theorem Inv.step {base : Nat} {w0 : World} {bs : List Nat} {s : St} {a : Act} {w w' : World} (hI : Inv base w0 bs s a w) {c : Chain} {dst : Option Nat} {v u : Value} (hd : dstOk s.slots c dst = true)
    (h1 : tru s.slots c = true → vrel bs v u) (h2 : tru s.slots c = false → u = undef) (hb : Below w.heap.size w w') :
    Inv base w0 bs { s with slots := putS s.slots dst (v, c) } (a.put dst u) w' where
  defers := by rw [put_defers]; exact hI.defers
  frame := frel_put hI.frame hd h1 h2
  mem := hI.mem.below hb
  own := fun i b hi hbi => by
    obtain ⟨h3, ⟨cs, e, h4⟩, h5⟩ := hI.own i b hi hbi
    exact ⟨h3, ⟨cs, e, by rw [hb.block b (Array.getElem?_eq_some_iff.1 h4).1]; exact h4⟩, h5⟩
  ro_le := hI.ro_le
  below := hI.below.trans (hb.mono hI.base_le)
  base_le := Nat.le_trans hI.base_le hb.size

/-- A new block. -/
theorem Inv.allocV {base : Nat} {w0 : World} {bs : List Nat} {s : St} {a : Act} {w : World} (hI : Inv base w0 bs s a w) {dst : Option Nat} (hd : dstOk s.slots [] dst = true) {cells : List Value} {cs : Array Value} (e : TypeId)
    (hr : rowrel bs cells cs.toList) {x u : Value} (hxu : vrel (bs ++ [w.heap.size]) x u) :
    Inv base w0 (bs ++ [w.heap.size]) { s with slots := putS s.slots dst (x, []), mem := s.mem ++ [cells] } (a.put dst u) (w.alloc (.cells cs e)) where
  defers := by rw [put_defers]; exact hI.defers
  frame := frel_put (frel_more _ hI.frame) hd (fun _ => hxu) (fun h => by cases h)
  mem := by
    have hl := hI.mem.1
    refine ⟨by simp [hl], fun i b cells' h1 h2 => ?_⟩
    rw [List.getElem?_append] at h1 h2
    by_cases hi : i < bs.length
    · rw [if_pos hi] at h1
      rw [if_pos (by omega)] at h2
      obtain ⟨h3, cs', e', fz, h4, h5⟩ := hI.mem.2 i b cells' h1 h2
      exact ⟨by simp; omega, cs', e', fz, by rw [Below.heap_alloc _ _ _ h3]; exact h4, rowpre_more _ h5⟩
    · rw [if_neg hi] at h1
      rw [if_neg (by omega)] at h2
      have hz : i - bs.length = 0 := by
        rcases Nat.eq_zero_or_pos (i - bs.length) with h | h
        · exact h
        · rw [List.getElem?_eq_none (by simp; omega)] at h1; cases h1
      rw [hz] at h1
      rw [show i - s.mem.length = 0 by omega] at h2
      simp at h1 h2
      subst h1 h2
      refine ⟨by simp, cs, e, (0, 0), ?_, rowpre_more _ (rowpre_of_rowrel hr)⟩
      show (w.heap.push _)[w.heap.size]? = _
      simp
  own := fun i b hi hbi => by
    have hl := hI.mem.1
    have hlt : ∀ j c, bs[j]? = some c → c < w.heap.size := fun j c hj => by
      have hj' : j < s.mem.length := by rw [← hl]; exact (List.getElem?_eq_some_iff.1 hj).1
      exact (hI.mem.2 j c _ hj (List.getElem?_eq_getElem hj')).1
    rw [List.getElem?_append] at hbi
    by_cases hib : i < bs.length
    · rw [if_pos hib] at hbi
      obtain ⟨h3, ⟨cs', e', h4⟩, h5⟩ := hI.own i b hi hbi
      refine ⟨h3, ⟨cs', e', by rw [Below.heap_alloc _ _ _ (hlt i b hbi)]; exact h4⟩, fun j hj => ?_⟩
      rw [List.getElem?_append] at hj
      by_cases hjb : j < bs.length
      · rw [if_pos hjb] at hj; exact h5 j hj
      · rw [if_neg hjb] at hj
        have := hlt i b hbi
        cases hz : j - bs.length with
        | zero => rw [hz] at hj; simp at hj; omega
        | succ k => rw [hz] at hj; simp at hj
    · rw [if_neg hib] at hbi
      have hz : i - bs.length = 0 := by
        rcases Nat.eq_zero_or_pos (i - bs.length) with h | h
        · exact h
        · rw [List.getElem?_eq_none (by simp; omega)] at hbi; cases hbi
      rw [hz] at hbi
      simp at hbi
      subst hbi
      refine ⟨hI.base_le, ⟨cs, e, ?_⟩, fun j hj => ?_⟩
      · show (w.heap.push _)[w.heap.size]? = _
        simp
      · rw [List.getElem?_append] at hj
        by_cases hjb : j < bs.length
        · rw [if_pos hjb] at hj; have := hlt j _ hj; omega
        · rw [if_neg hjb] at hj
          cases hz' : j - bs.length with
          | zero => omega
          | succ k => rw [hz'] at hj; simp at hj
  ro_le := by have := hI.ro_le; simp; omega
  below := hI.below.alloc hI.base_le _
  base_le := by have := hI.base_le; simp; omega

theorem Inv.alloc {base : Nat} {w0 : World} {bs : List Nat} {s : St} {a : Act} {w : World} (hI : Inv base w0 bs s a w) {dst : Option Nat} (hd : dstOk s.slots [] dst = true) {cells : List Value} {cs : Array Value} (e : TypeId)
    (hr : rowrel bs cells cs.toList) :
    Inv base w0 (bs ++ [w.heap.size]) { s with slots := putS s.slots dst (.pointer (some ⟨s.mem.length, 0, none⟩), []), mem := s.mem ++ [cells] } (a.put dst (.pointer (some ⟨w.heap.size, 0, none⟩))) (w.alloc (.cells cs e)) :=
  hI.allocV hd e hr ⟨w.heap.size, by rw [← hI.mem.1]; simp, rfl⟩

theorem rowpre_store {bs : List Nat} : ∀ {xs vs : List Value} (o : Nat) {ys us : List Value}, rowpre bs xs vs → rowrel bs ys us → o + ys.length ≤ xs.length →
    rowpre bs (xs.take o ++ (ys ++ xs.drop (o + ys.length))) (vs.take o ++ us ++ vs.drop (o + us.length))
  | xs, vs, 0, [], [], h, _, _ => by simpa using h
  | x :: xs, v :: vs, 0, y :: ys, u :: us, h, hr, hl => by
    have := rowpre_store 0 h.2 hr.2 (by simp at hl ⊢; omega)
    simp only [List.take_zero, List.nil_append, List.cons_append, List.length_cons, Nat.zero_add, List.drop_succ_cons] at this ⊢
    exact ⟨hr.1, this⟩
  | [], _, 0, _ :: _, _, _, _, hl => by simp at hl
  | _ :: _, [], 0, _ :: _, _, h, _, _ => h.elim
  | _, _, 0, [], _ :: _, _, hr, _ => hr.elim
  | _, _, 0, _ :: _, [], _, hr, _ => hr.elim
  | x :: xs, v :: vs, o + 1, ys, us, h, hr, hl => by
    have := rowpre_store o h.2 hr (by simp at hl ⊢; omega)
    simp only [List.take_succ_cons, List.cons_append]
    rw [show o + 1 + ys.length = (o + ys.length) + 1 by omega, show o + 1 + us.length = (o + us.length) + 1 by omega]
    simp only [List.drop_succ_cons]
    exact ⟨h.1, this⟩
  | [], _, o + 1, ys, _, _, _, hl => by simp at hl
  | _ :: _, [], o + 1, _, _, h, _, _ => h.elim

/-- A store into a block of ours. -/
theorem MemRel.store {bs : List Nat} {mem : List (List Value)} {w : World} (h : MemRel bs mem w) {i b : Nat} {cells cells' : List Value} {cs' : Array Value} (hb : bs[i]? = some b) (hm : mem[i]? = some cells)
    (hu : ∀ j, bs[j]? = some b → j = i) (hr : rowpre bs cells' cs'.toList) : MemRel bs (mem.set i cells') (w.setRow b cs') := by
  refine ⟨by simp [h.1], fun j c cl h1 h2 => ?_⟩
  rw [List.getElem?_set] at h2
  have hsz : (w.setRow b cs').heap.size = w.heap.size := by simp [World.setRow]
  rw [hsz]
  by_cases hji : i = j
  · subst hji
    rw [hb] at h1; cases h1
    obtain ⟨h3, cs, e, fz, h4, h5⟩ := h.2 i b cells hb hm
    simp only [if_true, (List.getElem?_eq_some_iff.1 hm).1] at h2
    cases h2
    exact ⟨h3, cs', e, fz, setRow_heap w b cs cs' e fz h4, hr⟩
  · rw [if_neg hji] at h2
    obtain ⟨h3, cs, e, fz, h4, h5⟩ := h.2 j c cl h1 h2
    have hne : c ≠ b := fun e => hji (hu j (by rw [← e]; exact h1)).symm
    exact ⟨h3, cs, e, fz, by rw [setRow_other w b c cs' hne]; exact h4, h5⟩

theorem Below.setRow' {B : Nat} {a w : World} (h : Below B a w) {g : Nat} (hg : B ≤ g) (cs : Array Value) : Below B a (w.setRow g cs) :=
  h.trans ⟨rfl, rfl, rfl, by simp [World.setRow], fun k hk => setRow_other w g k cs (by omega)⟩

theorem store_run {P : Program} {bs : List Nat} {w : World} {t : TypeId} {inf : TypeInfo} {b off : Nat} {cs : Array Value} {e : TypeId} {x v : Value} {xs : List Value} (hi : P.info? t = some inf) (hh : w.heap[b]? = some (.cells cs e (0, 0)))
    (hx : okPart x = true) (hv : vrel bs x v) (hn : x.cells.size = inf.size) (hle : off + inf.size ≤ xs.length) (hp : rowpre bs xs cs.toList) :
    (Instr.storeAt t (.pointer (some ⟨b, off, none⟩)) v).run P w = .ok () (w.setRow b (cs.toList.take off ++ v.cells.toList ++ cs.toList.drop (off + v.cells.toList.length)).toArray) := by
  have hc := cells_rel hv hx
  have hl := rowrel_length hc
  have hpl := rowpre_length hp
  simp at hl hpl
  have hone : ∀ u ∈ v.cells.toList, u.oneCell' = true := by
    have : ∀ {xs vs : List Value}, rowrel bs xs vs → ∀ u ∈ vs, u.oneCell' = true := by
      intro xs
      induction xs with
      | nil => intro vs h u hu; cases vs with | nil => cases hu | cons _ _ => exact h.elim
      | cons y ys ih =>
        intro vs h u hu
        cases vs with
        | nil => cases hu
        | cons z zs =>
          rcases List.mem_cons.1 hu with rfl | hu
          · exact srel_oneCell h.1
          · exact ih h.2 u hu
    exact this hc
  have hst := run_storeCells_at (P := P) b off e v.cells.toList 0 cs w hh (by simp; omega) hone
  have hsz : v.cells.size = inf.size := by omega
  simp only [Nat.add_zero] at hst
  simp [Instr.storeAt, Instr.sureAddr, storeVar, sizeOf, typeInfo, hi, hsz] at hst ⊢
  simpa using hst

theorem aop_step {P : Program} {T : Tab} {base : Nat} {w0 : World} {bs : List Nat} {s s' : St} {a : Act} {w : World} {ops : Array Oper} {o : Oper} {Q : Exit → Act → World → Prop} (hT : TOk P T) (hI : Inv base w0 bs s a w)
    (h : aop P T ops.toList s o = some s') (K : Act → World → Prop) (hK : ∀ es a' w', Inv base w0 (bs ++ es) s' a' w' → K a' w') :
    if Region.wanted o (yielded ops a.tmps) then o.wp P a w K Q else K (a.put o.dst undef) w := by
  have calc1 : ∀ (_ : (match acalc P T ops.toList s o with | some (c, v) => cond (dstOk s.slots c o.dst) (some { s with slots := putS s.slots o.dst (v, c) }) none | none => none) = some s'),
      if Region.wanted o (yielded ops a.tmps) then o.wp P a w K Q else K (a.put o.dst undef) w := by
    intro h
    split at h
    · rename_i c v hc
      cases hd : dstOk s.slots c o.dst
      · rw [hd] at h; cases h
      · rw [hd] at h
        simp only [cond_true, Option.some.injEq] at h
        subst h
        obtain ⟨h1, h2⟩ := acalc_core hT hI.frame hI.mem (List.append_nil bs).symm (Or.inl rfl) (fun _ _ => rfl) hc
        rw [h1]
        cases ht : tru s.slots c
        · rw [if_neg (by simp)]
          have := hI.step (w' := w) hd (v := v) (u := undef) (fun h => by rw [ht] at h; cases h) (fun _ => rfl) (Below.refl _ _)
          exact hK [] _ _ (by simpa using this)
        · rw [if_pos rfl]
          refine good_wp (h2 ht) fun u w' hu hb => ?_
          have := hI.step (w' := w') hd (v := v) (u := u) (fun _ => hu) (fun h => by rw [ht] at h; cases h) hb
          exact hK [] _ _ (by simpa using this)
    · cases h
  have hwant : o.guard.isNone = true → Region.wanted o (yielded ops a.tmps) = true := fun hg => by
    unfold Region.wanted; cases hgd : o.guard with
    | none => rfl
    | some g => rw [hgd] at hg; cases hg
  unfold aop at h
  split at h
  · rename_i t x hop
    cases hk : (o.guard.isNone && (opdOk s.slots [] x && (dstOk s.slots [] o.dst && okPart (aeval s x))))
    · rw [hk] at h; cases h
    · rw [hk] at h
      simp only [cond_true, Option.some.injEq] at h
      subst h
      simp only [Bool.and_eq_true] at hk
      obtain ⟨hg, hx, hd, hp⟩ := hk
      rw [if_pos (hwant hg)]
      have hv := frel_opd hI.frame (c := []) rfl x hx
      unfold Oper.wp execOp
      simp only [hop, Instr.box, newVar, newRow, Sem.run_bind, run_newObj, Result.andThen_ok, Sem.run_pure, Oper.upon_value]
      exact hK [w.heap.size] _ _ (hI.alloc hd t (cells_rel hv hp))
  · rename_i t hop
    split at h
    · rename_i z hz
      cases hk : (o.guard.isNone && (dstOk s.slots [] o.dst && z.cells.toList.all (·.oneCell')))
      · rw [hk] at h; cases h
      · rw [hk] at h
        simp only [cond_true, Option.some.injEq] at h
        subst h
        simp only [Bool.and_eq_true] at hk
        obtain ⟨hg, hd, hp⟩ := hk
        rw [if_pos (hwant hg)]
        have hzr := run_of_pureOf w hz
        unfold Oper.wp execOp
        simp only [hop, Instr.alloc, newVar, newRow, Sem.run_bind, hzr, run_newObj, Result.andThen_ok, Sem.run_pure, Oper.upon_value]
        exact hK [w.heap.size] _ _ (hI.alloc hd t (rowrel_canS hp))
    · cases h
  · rename_i t len ps hop
    split at h
    · rename_i elem hun
      split at h
      · rename_i size z hsz hz
        cases hk : (o.guard.isNone && (ps.toList.all (fun p => opdOk s.slots [] p.2) && (dstOk s.slots [] o.dst && ((ps.toList.map fun p => (p.1, aeval s p.2)).all (fun p => okPart p.2) &&
            (Nat.blt 0 (len * size) && (Nat.ble (len * size) 16777216 && ((Array.range (len * size)).map (z.cells[· % z.cells.size]!)).toList.all (·.oneCell')))))))
        · rw [hk] at h; cases h
        · rw [hk] at h
          simp only [cond_true] at h
          simp only [Bool.and_eq_true] at hk
          obtain ⟨hg, hpo, hd, hpp, hpos, hbig, hone⟩ := hk
          split at h
          · rename_i cells hfill
            simp only [Option.some.injEq] at h
            subst h
            rw [if_pos (hwant hg)]
            rw [List.all_eq_true] at hpo
            have hpr : prel bs (ps.toList.map fun p => (p.1, aeval s p.2)) (ps.toList.map fun p => (p.1, a.eval p.2)) := prel_of (fun y hy => by
              obtain ⟨q, hq, rfl⟩ := List.mem_map.1 hy
              exact frel_opd hI.frame (c := []) rfl q.2 (hpo q hq)) hpp
            have hps : (ps.map fun (i, y) => (i, a.eval y)).toList = ps.toList.map fun p => (p.1, a.eval p.2) := by simp
            have hzr : rowrel bs (((Array.range (len * size)).map (z.cells[· % z.cells.size]!)).map canS).toList ((Array.range (len * size)).map (z.cells[· % z.cells.size]!)).toList := by
              rw [Array.toList_map]; exact rowrel_canS hone
            obtain ⟨rs', h1, h2⟩ := fill_rel _ hpr hzr hfill
            have hszr := run_of_pureOf w hsz
            have hzr' := run_of_pureOf w hz
            have hpos' : ¬ len * size = 0 := by have : 0 < len * size := Nat.le_of_ble_eq_true hpos; omega
            have hbig' : ¬ len * size > 2 ^ 24 := by have : len * size ≤ 16777216 := Nat.le_of_ble_eq_true hbig; omega
            have hrun : (Instr.buildSlice t len (ps.map fun (i, y) => (i, a.eval y))).run P w = .ok (.slice (some ⟨w.heap.size, 0, none⟩) len len) (w.alloc (.cells rs' elem)) := by
              simp only [Instr.buildSlice, Sem.run_bind, run_underlying hun, Result.andThen_ok, hszr, Sem.run_ite, hbig', hpos', if_false, hzr', Sem.run_pure, hps, h1, newRow, run_newObj]
              rfl
            unfold Oper.wp execOp
            simp only [hop, Sem.run_bind, hrun, Result.andThen_ok, Sem.run_pure, Oper.upon_value]
            exact hK [w.heap.size] _ _ (hI.allocV hd elem h2 ⟨w.heap.size, len, by rw [← hI.mem.1]; simp, Nat.le_refl _, rfl⟩)
          · cases h
      · cases h
    · cases h
  · rename_i t p x hop
    split at h
    · rename_i i off hpt
      split at h
      · rename_i cells inf hmi hinf
        cases hk : (o.guard.isNone && (o.dst.isNone && (opdOk s.slots [] p && (opdOk s.slots [] x && (okPart (aeval s x) && (Nat.ble s.ro i && (((aeval s x).cells.size == inf.size) && Nat.ble (off + inf.size) cells.length)))))))
        · rw [hk] at h; cases h
        · rw [hk] at h
          simp only [cond_true, Option.some.injEq] at h
          subst h
          simp only [Bool.and_eq_true] at hk
          obtain ⟨hg, hdn, hp, hx, hpx, hro, hsz, hle⟩ := hk
          have hdn' : o.dst = none := by cases hd : o.dst with | none => rfl | some d => rw [hd] at hdn; cases hdn
          have hro' : s.ro ≤ i := Nat.le_of_ble_eq_true hro
          have hle' : off + inf.size ≤ cells.length := Nat.le_of_ble_eq_true hle
          have hsz' : (aeval s x).cells.size = inf.size := by simpa using hsz
          rw [if_pos (hwant hg)]
          have hv := frel_opd hI.frame (c := []) rfl x hx
          have hpv := frel_opd hI.frame (c := []) rfl p hp
          rw [hpt] at hpv
          obtain ⟨b, hb, hpe⟩ := vrel_pointer hpv
          obtain ⟨hbb, ⟨cs, e, hcs⟩, huni⟩ := hI.own i b hro' hb
          obtain ⟨_, cs', e', fz, hcs', hpre⟩ := hI.mem.2 i b cells hb hmi
          rw [hcs] at hcs'
          cases hcs'
          have hrun := store_run (P := P) (t := t) hinf hcs hpx hv hsz' hle' hpre
          unfold Oper.wp execOp
          simp only [hop, hpe, Sem.run_bind, hrun, Result.andThen_ok, Sem.run_pure, Oper.upon_skip, hdn', Act.put]
          have hc := cells_rel hv hpx
          have hlc := rowrel_length hc
          refine hK [] _ _ ?_
          rw [List.append_nil]
          have hpre' := rowpre_store off hpre hc (by simp; omega)
          rw [show (aeval s x).cells.toList.length = inf.size by simpa using hsz'] at hpre'
          exact {
            defers := hI.defers
            frame := hI.frame
            mem := hI.mem.store hb hmi huni (by simpa using hpre')
            own := fun j c hj hc => by
              obtain ⟨h3, ⟨cs2, e2, h4⟩, h5⟩ := hI.own j c hj hc
              refine ⟨h3, ?_, h5⟩
              by_cases hcb : c = b
              · subst hcb; exact ⟨_, _, setRow_heap w c cs _ e (0, 0) hcs⟩
              · exact ⟨cs2, e2, by rw [setRow_other w b c _ hcb]; exact h4⟩
            ro_le := by simpa using hI.ro_le
            below := Below.setRow' hI.below hbb _
            base_le := by simpa [World.setRow] using hI.base_le }
      · cases h
    · cases h
  · exact calc1 h

def aops (P : Program) (T : Tab) (ops : List Oper) : List Oper → St → Option St
  | [], s => some s
  | o :: rest, s => match aop P T ops s o with
    | some s' => aops P T ops rest s'
    | none => none

theorem aops_wp {P : Program} {T : Tab} {base : Nat} {w0 : World} {ops : Array Oper} {Q : Exit → Act → World → Prop} (hT : TOk P T) : ∀ (l : List Oper) {bs : List Nat} {s s' : St} {a : Act} {w : World}, Inv base w0 bs s a w →
    aops P T ops.toList l s = some s' → (∀ es a' w', Inv base w0 (bs ++ es) s' a' w' → Q .normal a' w') → wpList P ops Q l a w
  | [], bs, s, s', a, w, hI, h, hQ => by
    simp only [aops, Option.some.injEq] at h; subst h
    exact hQ [] a w (by simpa using hI)
  | o :: rest, bs, s, s', a, w, hI, h, hQ => by
    simp only [aops] at h
    split at h
    · rename_i s1 h1
      refine wpList_step fun K hK => aop_step hT hI h1 K fun es a' w' hI' => hK _ _ ?_
      exact aops_wp hT rest hI' h fun es' a'' w'' hI'' => hQ (es ++ es') a'' w'' (by rw [← List.append_assoc]; exact hI'')
    · cases h

/-- Behind a region: what was written under tests is no longer known. -/
def clearS (slots : List (Value × Chain)) : List (Value × Chain) := slots.map fun q => (match q.2 with | [] => q.1 | _ :: _ => junk, [])

theorem frel_clear {bs : List Nat} {F s : List (Value × Chain)} {tmps : Array Value} (h : frel bs F s tmps) (F' : List (Value × Chain)) : frel bs F' (clearS s) tmps := by
  refine ⟨by simp [clearS, h.1], fun t => ?_⟩
  have hg : (clearS s).getD t dflt = (match (s.getD t dflt).2 with | [] => (s.getD t dflt).1 | _ :: _ => junk, []) := by
    simp only [clearS, List.getD_eq_getElem?_getD, List.getElem?_map]
    cases s[t]? <;> rfl
  rw [hg]
  refine ⟨fun _ => ?_, fun h' => by cases h'⟩
  have h2 := (h.2 t).1
  revert h2
  generalize s.getD t dflt = q
  obtain ⟨v, c⟩ := q
  cases c with
  | nil => exact fun h2 => h2 rfl
  | cons p c => exact fun _ => trivial

theorem Inv.clear {base : Nat} {w0 : World} {bs : List Nat} {s : St} {a : Act} {w : World} (hI : Inv base w0 bs s a w) : Inv base w0 bs { s with slots := clearS s.slots } a w :=
  { hI with frame := frel_clear hI.frame _ }

end Go.Ev
