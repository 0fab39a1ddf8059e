/-
  A frame read plainly; one operation in its place, under its tests; a region in the order of the text.
-/
import Derived.Test.YtbmggfmifopddaaEv3
namespace Go.Ev
open Go.RowKit

def noPtr1 : Value → Bool
  | .pointer (some _) => false
  | .slice (some _) _ _ => false
  | _ => true
/-- No address of ours goes out. -/
def noPtr : Value → Bool
  | .agg vs => vs.toList.all noPtr1
  | .iface _ (.agg vs) => vs.toList.all noPtr1
  | .iface _ v => noPtr1 v
  | v => noPtr1 v

theorem srel_noPtr [Tok] {bs bs' : List Nat} {x v : Value} (hn : noPtr1 x = true) (h : srel bs x v) : srel bs' x v := by
  cases x with
  | pointer a => cases a with | none => exact h | some a => simp [noPtr1] at hn
  | slice a l c => cases a with | none => exact h | some a => simp [noPtr1] at hn
  | float k b => cases k <;> exact h
  | map r => cases r <;> exact h
  | _ => exact h
theorem rowrel_noPtr [Tok] {bs bs' : List Nat} : ∀ {xs vs : List Value}, xs.all noPtr1 = true → rowrel bs xs vs → rowrel bs' xs vs
  | [], [], _, _ => trivial
  | x :: xs, _ :: _, hn, h => by
    simp only [List.all_cons, Bool.and_eq_true] at hn
    exact ⟨srel_noPtr hn.1 h.1, rowrel_noPtr hn.2 h.2⟩
  | [], _ :: _, _, h => h.elim
  | _ :: _, [], _, h => h.elim
theorem arel_noPtr [Tok] {bs bs' : List Nat} {x v : Value} (hn : noPtr x = true) (ho : okArg x = true) (h : vrel bs x v) : arel bs' x v := by
  cases x with
  | iface t y =>
    obtain ⟨u, e, hr⟩ := vrel_iface h
    refine ⟨u, e, ?_⟩
    cases y with
    | agg xs => obtain ⟨vs, e, hr⟩ := hr; exact ⟨vs, e, rowrel_noPtr hn hr⟩
    | tuple vs => exact hr.elim
    | iface t y => exact hr.elim
    | map r => cases r <;> exact hr
    | pointer a => cases a with | none => exact hr | some a => simp [noPtr, noPtr1] at hn
    | slice a l c => cases a with | none => exact hr | some a => simp [noPtr, noPtr1] at hn
    | float k b => cases k <;> exact hr
    | _ => exact hr
  | agg xs => obtain ⟨vs, e, hr⟩ := vrel_agg h; exact ⟨vs, e, rowrel_noPtr hn hr⟩
  | tuple vs => simp [okArg, okPart] at ho
  | map r => exact trivial
  | pointer a => cases a with | none => exact h | some a => simp [noPtr, noPtr1] at hn
  | slice a l c => cases a with | none => exact h | some a => simp [noPtr, noPtr1] at hn
  | float k b => cases k <;> exact h
  | _ => exact h

theorem rowpre_noPtr [Tok] {bs bs' : List Nat} : ∀ {xs vs : List Value}, xs.all noPtr1 = true → rowpre bs xs vs → rowpre bs' xs vs
  | [], _, _, _ => trivial
  | x :: xs, _ :: _, hn, h => by
    simp only [List.all_cons, Bool.and_eq_true] at hn
    exact ⟨srel_noPtr hn.1 h.1, rowpre_noPtr hn.2 h.2⟩
  | _ :: _, [], _, h => h.elim

def trp (F : List (Value × Chain)) (p : Nat × Bool) : Bool :=
  match (F.getD p.1 dflt).1 with
  | .bool b => b == p.2
  | _ => false
/-- Do the tests hold? -/
def tru (F : List (Value × Chain)) (c : Chain) : Bool := c.all (trp F)

/-- The slots that are known, and what the frame holds: a slot whose tests do not hold was passed over. -/
def frel [Tok] (bs : List Nat) (F s : List (Value × Chain)) (tmps : Array Value) : Prop :=
  tmps.size = s.length ∧ ∀ t, (tru F (s.getD t dflt).2 = true → vrel bs (s.getD t dflt).1 (tmps.getD t undef)) ∧ (tru F (s.getD t dflt).2 = false → tmps.getD t undef = undef)

def opChain (ops : List Oper) (slots : List (Value × Chain)) (o : Oper) : Option Chain :=
  match o.guard with
  | none => some []
  | some (j, want) => match ops[j]? with
    | some oj => match oj.dst with
      | some d => match (slots.getD d dflt).1 with
        | .bool _ => some ((d, want) :: (slots.getD d dflt).2)
        | _ => none
      | none => none
    | none => none

def opdOk (slots : List (Value × Chain)) (c : Chain) : Operand → Bool
  | .tmp t => (slots.getD t dflt).2.all (fun p => c.contains p)
  | _ => true

def acalc [Tok] (P : Program) (T : Tab) (ops : List Oper) (s : St) (o : Oper) : Option (Chain × Value) :=
  match opChain ops s.slots o with
  | none => none
  | some c => match o.op with
    | .pick (.tmp g) x y =>
      cond (opdOk s.slots c (.tmp g) && (opdOk s.slots ((g, true) :: c) x && opdOk s.slots ((g, false) :: c) y))
        (match aeval s (.tmp g), aeval s x, aeval s y with
        | .bool b, .bool p, .bool q => some (c, .bool (cond b p q))
        | _, _, _ => none) none
    | _ => cond (o.op.operands.toList.all (opdOk s.slots c)) ((aval P T s o).map fun v => (c, v)) none

/-- The slots of tests that an operation looks at: its guard's, and what a 'pick' parts on. -/
def testsOf (ops : List Oper) (o : Oper) : List Nat :=
  (match o.guard with
  | none => []
  | some (j, _) => match ops[j]? with
    | some oj => oj.dst.toList
    | none => []) ++
  (match o.op with
  | .pick (.tmp g) _ _ => [g]
  | _ => [])

theorem tru_nil (F : List (Value × Chain)) : tru F [] = true := rfl
theorem tru_cons (F : List (Value × Chain)) (p : Nat × Bool) (c : Chain) : tru F (p :: c) = (trp F p && tru F c) := by simp [tru]

theorem tru_sub {F : List (Value × Chain)} {c d : Chain} (h : (c.all fun p => d.contains p) = true) (hd : tru F d = true) : tru F c = true := by
  unfold tru at *
  rw [List.all_eq_true] at *
  intro p hp
  exact hd p (by have := h p hp; simpa using this)

theorem frel_opd [Tok] {bs : List Nat} {F : List (Value × Chain)} {s : St} {a : Act} {c : Chain} (hfr : frel bs F s.slots a.tmps) (hc : tru F c = true) (y : Operand) (hy : opdOk s.slots c y = true) : vrel bs (aeval s y) (a.eval y) := by
  cases y with
  | tmp t => exact (hfr.2 t).1 (tru_sub hy hc)
  | const v => exact vrel_canS bs v
  | global g => exact trivial
  | func f => exact rfl

theorem tmps_bool {tmps : Array Value} {d : Nat} {b : Bool} (h : tmps.getD d undef = .bool b) : tmps[d]? = some (.bool b) := by
  rw [Array.getD_eq_getD_getElem?] at h
  cases hx : tmps[d]? with
  | none => rw [hx] at h; simp [undef] at h
  | some v => rw [hx] at h; simp at h; rw [h]

theorem tmps_undef {tmps : Array Value} {d : Nat} (h : tmps.getD d undef = undef) : tmps[d]? = none ∨ tmps[d]? = some undef := by
  rw [Array.getD_eq_getD_getElem?] at h
  cases hx : tmps[d]? with
  | none => exact Or.inl rfl
  | some v => rw [hx] at h; simp at h; rw [h]; exact Or.inr rfl

theorem opChain_wanted [Tok] {bs : List Nat} {F s : List (Value × Chain)} {a : Act} {ops : Array Oper} {o : Oper} {c : Chain} (hfr : frel bs F s a.tmps)
    (hag : ∀ t, t ∈ testsOf ops.toList o → (F.getD t dflt).1 = (s.getD t dflt).1) (h : opChain ops.toList s o = some c) : Region.wanted o (yielded ops a.tmps) = tru F c := by
  unfold opChain at h
  unfold Region.wanted
  cases hg : o.guard with
  | none => simp only [hg, Option.some.injEq] at h; subst h; rfl
  | some gw =>
    obtain ⟨j, want⟩ := gw
    simp only [hg] at h ⊢
    cases hj : ops.toList[j]? with
    | none => simp [hj] at h
    | some oj =>
      simp only [hj] at h
      cases hd : oj.dst with
      | none => simp [hd] at h
      | some d =>
        simp only [hd] at h
        have hj' : ops[j]? = some oj := by simpa using hj
        have hag' := hag d (by simp [testsOf, hg, hj', hd])
        split at h
        · rename_i b hb
          simp only [Option.some.injEq] at h
          subst h
          rw [tru_cons]
          have hy : yielded ops a.tmps j = match a.tmps[d]? with | some (.bool b) => some b | _ => none := by
            unfold yielded; simp [hj', hd]; rfl
          rw [hy]
          cases ht : tru F (s.getD d dflt).2
          · have := (hfr.2 d).2 ht
            rcases tmps_undef this with e | e <;> rw [e] <;> simp [undef]
          · have := (hfr.2 d).1 ht
            rw [hb] at this
            rw [tmps_bool (vrel_bool this)]
            have htr : trp F (d, want) = (b == want) := by unfold trp; simp only [hag', hb]
            rw [htr]
            cases b <;> cases want <;> rfl
        · cases h

theorem acalc_core [Tok] {P : Program} {T : Tab} {bs bs0 es : List Nat} {F : List (Value × Chain)} {s : St} {a : Act} {w : World} {ops : Array Oper} {o : Oper} {c : Chain} {v : Value} {hd : List (List Value)} (hT : TOk P T hd) (hpre : Pre hd s.mem)
    (hfr : frel bs F s.slots a.tmps) (hm : MemRel bs0 s.mem w) (hbs : bs = bs0 ++ es) (hcb : es = [] ∨ callBelow bs0.length s o = true) (hag : ∀ t, t ∈ testsOf ops.toList o → (F.getD t dflt).1 = (s.slots.getD t dflt).1)
    (h : acalc P T ops.toList s o = some (c, v)) :
    Region.wanted o (yielded ops a.tmps) = tru F c ∧ (tru F c = true → Good P bs w v ((execOp a.eval o).run P w)) := by
  unfold acalc at h
  split at h
  · cases h
  · rename_i c' hc
    have main : ∀ c'', c'' = c' → c'' = c → (tru F c = true → Good P bs w v ((execOp a.eval o).run P w)) → Region.wanted o (yielded ops a.tmps) = tru F c ∧ (tru F c = true → Good P bs w v ((execOp a.eval o).run P w)) :=
      fun c'' e1 e2 h3 => ⟨by rw [← e2, e1]; exact opChain_wanted hfr hag hc, h3⟩
    split at h
    · rename_i g x y hop
      cases hk : (opdOk s.slots c' (.tmp g) && (opdOk s.slots ((g, true) :: c') x && opdOk s.slots ((g, false) :: c') y))
      · rw [hk] at h; cases h
      · rw [hk] at h
        simp only [cond_true] at h
        simp only [Bool.and_eq_true] at hk
        split at h
        · rename_i b p q hb hp hq
          simp only [Option.some.injEq, Prod.mk.injEq] at h
          obtain ⟨e1, e2⟩ := h
          refine main c' rfl e1 fun ht => ?_
          subst e1 e2
          have hgv := frel_opd hfr ht (.tmp g) hk.1
          rw [hb] at hgv
          have hgv' : a.eval (.tmp g) = .bool b := vrel_bool hgv
          have hagg : (F.getD g dflt).1 = .bool b := by
            rw [hag g (by simp [testsOf, hop])]; exact hb
          have hrun : (execOp a.eval o).run P w = .ok (.value (if b then a.eval x else a.eval y)) w := by
            unfold execOp
            simp only [hop, hgv', asBool, Sem.run_bind, Sem.run_pure, Result.andThen_ok]
          rw [hrun]
          refine ⟨?_, Or.inl rfl⟩
          cases b
          · have hy := frel_opd hfr (c := (g, false) :: c') (by rw [tru_cons, ht]; simp only [trp, hagg]; rfl) y hk.2.2
            rw [hq] at hy
            exact hy
          · have hx := frel_opd hfr (c := (g, true) :: c') (by rw [tru_cons, ht]; simp only [trp, hagg]; rfl) x hk.2.1
            rw [hp] at hx
            exact hx
        · cases h
    · cases hk : (o.op.operands.toList.all (opdOk s.slots c'))
      · rw [hk] at h; cases h
      · rw [hk] at h
        simp only [cond_true] at h
        cases hv : aval P T s o with
        | none => simp [hv] at h
        | some u =>
          simp only [hv, Option.map_some, Option.some.injEq, Prod.mk.injEq] at h
          obtain ⟨e1, e2⟩ := h
          refine main c' rfl e1 fun ht => ?_
          subst e1 e2
          rw [List.all_eq_true] at hk
          exact aval_good hT hpre hm hbs hcb (fun f => rfl) (fun y hy => frel_opd hfr ht y (hk y hy)) hv

/-- From an outcome that fits to the walk's own word. -/
theorem good_wp [Tok] {P : Program} {bs : List Nat} {o : Oper} {a : Act} {w : World} {v : Value} {K : Act → World → Prop} {Q : Exit → Act → World → Prop} (hg : Good P bs w v ((execOp a.eval o).run P w))
    (hK : ∀ u w', vrel bs v u → Below w.heap.size w w' → K (a.put o.dst u) w') : o.wp P a w K Q := by
  unfold Oper.wp
  generalize (execOp a.eval o).run P w = r at hg
  cases r with
  | ok n w' =>
    cases n <;> simp only [Good] at hg <;> first | exact hg.elim | skip
    case value u =>
      refine hK u w' hg.1 ?_
      rcases hg.2 with rfl | rfl
      · exact Below.refl _ _
      · exact (Below.refl _ _).drew
    case enter f args =>
      obtain ⟨rfl, hc⟩ := hg
      exact hc.mono fun e w'' ⟨u, he, hu, hb⟩ => by subst he; exact hK u w'' hu hb
  | halt x w' => exact hg.elim

/-! ### Putting -/
def putS (slots : List (Value × Chain)) (dst : Option Nat) (p : Value × Chain) : List (Value × Chain) :=
  match dst with
  | some d => slots.set d p
  | none => slots

def dstOk (slots : List (Value × Chain)) (c : Chain) : Option Nat → Bool
  | some d => c.all (fun p => p.1 != d) && slots.all (fun q => q.2.all (fun p => p.1 != d))
  | none => true

theorem getD_set (l : List (Value × Chain)) (d t : Nat) (p : Value × Chain) : (l.set d p).getD t dflt = if d = t ∧ d < l.length then p else l.getD t dflt := by
  simp only [List.getD_eq_getElem?_getD, List.getElem?_set]
  by_cases h : d = t
  · subst h
    by_cases h2 : d < l.length
    · simp [h2]
    · simp [h2]
  · simp [h]

theorem tmps_set (l : Array Value) (d t : Nat) (v : Value) : (l.setIfInBounds d v).getD t undef = if d = t ∧ d < l.size then v else l.getD t undef := by
  simp only [Array.getD_eq_getD_getElem?, Array.getElem?_setIfInBounds]
  by_cases h : d = t
  · subst h
    by_cases h2 : d < l.size
    · simp [h2]
    · simp [h2]
  · simp [h]

theorem trp_other [Tok] {F : List (Value × Chain)} {d : Nat} {p : Nat × Bool} (v : Value × Chain) (h : p.1 ≠ d) : trp (F.set d v) p = trp F p := by
  unfold trp
  rw [getD_set, if_neg (fun e => h e.1.symm)]

theorem tru_other [Tok] {F : List (Value × Chain)} {d : Nat} {c : Chain} (v : Value × Chain) (h : (c.all fun p => p.1 != d) = true) : tru (F.set d v) c = tru F c := by
  unfold tru
  induction c with
  | nil => rfl
  | cons p c ih =>
    simp only [List.all_cons, Bool.and_eq_true] at h ⊢
    rw [trp_other v (by simpa using h.1), ih h.2]

theorem frel_put [Tok] {bs : List Nat} {s : List (Value × Chain)} {a : Act} {c : Chain} {dst : Option Nat} {v u : Value} (hfr : frel bs s s a.tmps) (hd : dstOk s c dst = true)
    (h1 : tru s c = true → vrel bs v u) (h2 : tru s c = false → u = undef) : frel bs (putS s dst (v, c)) (putS s dst (v, c)) (a.put dst u).tmps := by
  cases dst with
  | none => exact hfr
  | some d =>
    simp only [dstOk, Bool.and_eq_true] at hd
    obtain ⟨hd1, hd2⟩ := hd
    rw [List.all_eq_true] at hd2
    refine ⟨by simp [putS, Act.put, hfr.1], fun t => ?_⟩
    have hch : ((s.getD t dflt).2.all fun p => p.1 != d) = true := by
      simp only [List.getD_eq_getElem?_getD]
      cases hx : s[t]? with
      | none => rfl
      | some q => exact hd2 q (List.mem_of_getElem? hx)
    simp only [putS, Act.put]
    rw [getD_set, tmps_set, hfr.1]
    by_cases h : d = t ∧ d < s.length
    · rw [if_pos h, if_pos h]
      simp only [tru_other _ hd1]
      exact ⟨h1, h2⟩
    · rw [if_neg h, if_neg h, tru_other _ hch]
      exact hfr.2 t

/-! ### A call that writes one block of ours -/
/-- Of two rows of plain cells the one or the other. -/
def mergeC (b : Bool) : List Value → List Value → Option (List Value)
  | [], [] => some []
  | .float .f64 p :: xs, .float .f64 q :: ys => match mergeC b xs ys with
    | some zs => some (.float .f64 (cond b p q) :: zs)
    | none => none
  | .int .i64 p :: xs, .int .i64 q :: ys => match mergeC b xs ys with
    | some zs => some (.int .i64 (cond b p q) :: zs)
    | none => none
  | .bool p :: xs, .bool q :: ys => match mergeC b xs ys with
    | some zs => some (.bool (cond b p q) :: zs)
    | none => none
  | _, _ => none
theorem mergeC_eq {b : Bool} : ∀ {xs ys zs : List Value}, mergeC b xs ys = some zs → zs = cond b xs ys := by
  intro xs
  induction xs with
  | nil => intro ys zs h; cases ys with
    | nil => simp [mergeC] at h; subst h; cases b <;> rfl
    | cons y ys => simp [mergeC] at h
  | cons x xs ih =>
    intro ys zs h
    unfold mergeC at h
    split at h
    · cases b <;> simp_all
    all_goals first
      | (split at h
         · rename_i e1 e2 zs' hz
           cases e1; cases h
           have := ih hz
           cases b <;> simp_all
         · cases h)
      | cases h
/-- Whether a call under these tests is carried out. -/
def bitOf (slots : List (Value × Chain)) : Chain → Option Bool
  | [] => some true
  | [(t, want)] => match (slots.getD t dflt).1 with
    | .bool b => some (cond want b (!b))
    | _ => none
  | _ => none
theorem bitOf_eq [Tok] {slots : List (Value × Chain)} {c : Chain} {b : Bool} (h : bitOf slots c = some b) : tru slots c = b := by
  cases c with
  | nil => simp only [bitOf, Option.some.injEq] at h; subst h; rfl
  | cons p c =>
    cases c with
    | nil =>
      obtain ⟨t, want⟩ := p
      simp only [bitOf] at h
      split at h
      · rename_i b' hb
        simp only [Option.some.injEq] at h
        subst h
        rw [tru_cons, tru_nil, Bool.and_true]
        unfold trp
        simp only [hb]
        cases want <;> cases b' <;> rfl
      · cases h
    | cons q c => simp [bitOf] at h
def acallM (T : Tab) (ops : List Oper) (s : St) (o : Oper) (c : Call) : Option St :=
  match c.callee with
  | .value (.func f) => match opChain ops s.slots o with
    | some ch => match c.args.toList.map (aeval s) with
      | .pointer (some ⟨i, 0, none⟩) :: rest => match s.mem[i]? with
        | some cells => cond (o.op.operands.toList.all (opdOk s.slots ch) && (Nat.ble s.ro i && (cells.all noPtr1 && (rest.all (fun v => noPtr v && okArg v) && dstOk s.slots ch o.dst))))
            (match T.m f cells (.pointer (some ⟨0, 0, none⟩) :: rest) with
            | some (.tuple ⟨[u, .agg cl]⟩) => match bitOf s.slots ch with
              | some b => match mergeC b cl.toList cells with
                | some cells' => some { s with slots := putS s.slots o.dst (u, ch), mem := s.mem.set i cells' }
                | none => none
              | none => none
            | _ => none) none
        | none => none
      | _ => none
    | none => none
  | _ => none

/-! ### One operation, in the order of the text -/
def aop [Tok] (P : Program) (T : Tab) (ops : List Oper) (s : St) (o : Oper) : Option St :=
  match o.op with
  | .box _ x => cond (o.guard.isNone && (opdOk s.slots [] x && (dstOk s.slots [] o.dst && okPart (aeval s x))))
      (some { s with slots := putS s.slots o.dst (.pointer (some ⟨s.mem.length, 0, none⟩), []), mem := s.mem ++ [(aeval s x).cells.toList] }) none
  | .alloc t => match pureOf P (zeroValue t) with
    | some z => cond (o.guard.isNone && (dstOk s.slots [] o.dst && z.cells.toList.all (·.oneCell')))
        (some { s with slots := putS s.slots o.dst (.pointer (some ⟨s.mem.length, 0, none⟩), []), mem := s.mem ++ [z.cells.toList.map canS] }) none
    | none => none
  | .buildSlice t len ps => match P.underlying t with
    | some (.slice elem) => match pureOf P (sizeOf elem), pureOf P (zeroValue elem) with
      | some size, some z =>
        cond (o.guard.isNone && (ps.toList.all (fun p => opdOk s.slots [] p.2) && (dstOk s.slots [] o.dst && ((ps.toList.map fun p => (p.1, aeval s p.2)).all (fun p => okPart p.2) &&
            (Nat.blt 0 (len * size) && (Nat.ble (len * size) 16777216 && ((Array.range (len * size)).map (z.cells[· % z.cells.size]!)).toList.all (·.oneCell')))))))
          (match Instr.fill (fun i => some (i * size, size)) (((Array.range (len * size)).map (z.cells[· % z.cells.size]!)).map canS) (ps.toList.map fun p => (p.1, aeval s p.2)) with
          | some cells => some { s with slots := putS s.slots o.dst (.slice (some ⟨s.mem.length, 0, none⟩) len len, []), mem := s.mem ++ [cells.toList] }
          | none => none) none
      | _, _ => none
    | _ => none
  | .store t p x => match aeval s p with
    | .pointer (some ⟨i, off, none⟩) => match s.mem[i]?, P.info? t with
      | some cells, some inf =>
        cond (o.guard.isNone && (o.dst.isNone && (opdOk s.slots [] p && (opdOk s.slots [] x && (okPart (aeval s x) && (Nat.ble s.ro i && (((aeval s x).cells.size == inf.size) && Nat.ble (off + inf.size) cells.length)))))))
          (some { s with mem := s.mem.set i (cells.take off ++ ((aeval s x).cells.toList ++ cells.drop (off + inf.size))) }) none
      | _, _ => none
    | _ => none
  | .call c => match acalc P T ops s o with
    | some (c, v) => cond (dstOk s.slots c o.dst) (some { s with slots := putS s.slots o.dst (v, c) }) none
    | none => acallM T ops s o c
  | _ => match acalc P T ops s o with
    | some (c, v) => cond (dstOk s.slots c o.dst) (some { s with slots := putS s.slots o.dst (v, c) }) none
    | none => none

/-- What is known of a frame and of the world, from the call's beginning on. -/
structure Inv [Tok] (base : Bs) (w0 : World) (bs : List Nat) (s : St) (a : Act) (w : World) : Prop where
  defers : a.defers = []
  frame : frel bs s.slots s.slots a.tmps
  mem : MemRel bs s.mem w
  own : ∀ i b, s.ro ≤ i → bs[i]? = some b → base.owns b ∧ (∃ cs e, w.heap[b]? = some (.cells cs e (0, 0))) ∧ ∀ j, bs[j]? = some b → j = i
  ro_le : s.ro ≤ s.mem.length
  below : BelowB base w0 w
  base_le : base.n ≤ w.heap.size
  pre : Pre base.hd s.mem
  pre_ro : base.hd.length ≤ s.ro

theorem frel_more [Tok] {bs : List Nat} (es : List Nat) {F s : List (Value × Chain)} {tmps : Array Value} (h : frel bs F s tmps) : frel (bs ++ es) F s tmps :=
  ⟨h.1, fun t => ⟨fun ht => vrel_more es ((h.2 t).1 ht), (h.2 t).2⟩⟩

theorem put_defers (a : Act) (dst : Option Nat) (v : Value) : (a.put dst v).defers = a.defers := by cases dst <;> rfl

theorem Inv.step [Tok] {base : Bs} {w0 : World} {bs : List Nat} {s : St} {a : Act} {w w' : World} (hI : Inv base w0 bs s a w) {c : Chain} {dst : Option Nat} {v u : Value} (hd : dstOk s.slots c dst = true)
    (h1 : tru s.slots c = true → vrel bs v u) (h2 : tru s.slots c = false → u = undef) (hb : Below w.heap.size w w') :
    Inv base w0 bs { s with slots := putS s.slots dst (v, c) } (a.put dst u) w' where
  defers := by rw [put_defers]; exact hI.defers
  frame := frel_put hI.frame hd h1 h2
  mem := hI.mem.below hb
  own := fun i b hi hbi => by
    obtain ⟨h3, ⟨cs, e, h4⟩, h5⟩ := hI.own i b hi hbi
    exact ⟨h3, ⟨cs, e, by rw [hb.block b (Array.getElem?_eq_some_iff.1 h4).1]; exact h4⟩, h5⟩
  ro_le := hI.ro_le
  below := hI.below.on hb hI.base_le
  base_le := Nat.le_trans hI.base_le hb.size
  pre := hI.pre
  pre_ro := hI.pre_ro

/-- A new block. -/
theorem Inv.allocV [Tok] {base : Bs} {w0 : World} {bs : List Nat} {s : St} {a : Act} {w : World} (hI : Inv base w0 bs s a w) {dst : Option Nat} (hd : dstOk s.slots [] dst = true) {cells : List Value} {cs : Array Value} (e : TypeId)
    (hr : rowrel bs cells cs.toList) {x u : Value} (hxu : vrel (bs ++ [w.heap.size]) x u) :
    Inv base w0 (bs ++ [w.heap.size]) { s with slots := putS s.slots dst (x, []), mem := s.mem ++ [cells] } (a.put dst u) (w.alloc (.cells cs e)) where
  defers := by rw [put_defers]; exact hI.defers
  frame := frel_put (frel_more _ hI.frame) hd (fun _ => hxu) (fun h => by cases h)
  mem := by
    have hl := hI.mem.1
    refine ⟨by simp [hl], fun i b cells' h1 h2 => ?_⟩
    rw [List.getElem?_append] at h1 h2
    by_cases hi : i < bs.length
    · rw [if_pos hi] at h1
      rw [if_pos (by omega)] at h2
      obtain ⟨h3, cs', e', fz, h4, h5⟩ := hI.mem.2 i b cells' h1 h2
      exact ⟨by simp; omega, cs', e', fz, by rw [Below.heap_alloc _ _ _ h3]; exact h4, rowpre_more _ h5⟩
    · rw [if_neg hi] at h1
      rw [if_neg (by omega)] at h2
      have hz : i - bs.length = 0 := by
        rcases Nat.eq_zero_or_pos (i - bs.length) with h | h
        · exact h
        · rw [List.getElem?_eq_none (by simp; omega)] at h1; cases h1
      rw [hz] at h1
      rw [show i - s.mem.length = 0 by omega] at h2
      simp at h1 h2
      subst h1 h2
      refine ⟨by simp, cs, e, (0, 0), ?_, rowpre_more _ (rowpre_of_rowrel hr)⟩
      show (w.heap.push _)[w.heap.size]? = _
      simp
  own := fun i b hi hbi => by
    have hl := hI.mem.1
    have hlt : ∀ j c, bs[j]? = some c → c < w.heap.size := fun j c hj => by
      have hj' : j < s.mem.length := by rw [← hl]; exact (List.getElem?_eq_some_iff.1 hj).1
      exact (hI.mem.2 j c _ hj (List.getElem?_eq_getElem hj')).1
    rw [List.getElem?_append] at hbi
    by_cases hib : i < bs.length
    · rw [if_pos hib] at hbi
      obtain ⟨h3, ⟨cs', e', h4⟩, h5⟩ := hI.own i b hi hbi
      refine ⟨h3, ⟨cs', e', by rw [Below.heap_alloc _ _ _ (hlt i b hbi)]; exact h4⟩, fun j hj => ?_⟩
      rw [List.getElem?_append] at hj
      by_cases hjb : j < bs.length
      · rw [if_pos hjb] at hj; exact h5 j hj
      · rw [if_neg hjb] at hj
        have := hlt i b hbi
        cases hz : j - bs.length with
        | zero => rw [hz] at hj; simp at hj; omega
        | succ k => rw [hz] at hj; simp at hj
    · rw [if_neg hib] at hbi
      have hz : i - bs.length = 0 := by
        rcases Nat.eq_zero_or_pos (i - bs.length) with h | h
        · exact h
        · rw [List.getElem?_eq_none (by simp; omega)] at hbi; cases hbi
      rw [hz] at hbi
      simp at hbi
      subst hbi
      refine ⟨Or.inl hI.base_le, ⟨cs, e, ?_⟩, fun j hj => ?_⟩
      · show (w.heap.push _)[w.heap.size]? = _
        simp
      · rw [List.getElem?_append] at hj
        by_cases hjb : j < bs.length
        · rw [if_pos hjb] at hj; have := hlt j _ hj; omega
        · rw [if_neg hjb] at hj
          cases hz' : j - bs.length with
          | zero => omega
          | succ k => rw [hz'] at hj; simp at hj
  ro_le := by have := hI.ro_le; simp; omega
  below := hI.below.alloc hI.base_le _
  base_le := by have := hI.base_le; simp; omega
  pre := hI.pre.append _
  pre_ro := hI.pre_ro

theorem Inv.alloc [Tok] {base : Bs} {w0 : World} {bs : List Nat} {s : St} {a : Act} {w : World} (hI : Inv base w0 bs s a w) {dst : Option Nat} (hd : dstOk s.slots [] dst = true) {cells : List Value} {cs : Array Value} (e : TypeId)
    (hr : rowrel bs cells cs.toList) :
    Inv base w0 (bs ++ [w.heap.size]) { s with slots := putS s.slots dst (.pointer (some ⟨s.mem.length, 0, none⟩), []), mem := s.mem ++ [cells] } (a.put dst (.pointer (some ⟨w.heap.size, 0, none⟩))) (w.alloc (.cells cs e)) :=
  hI.allocV hd e hr ⟨w.heap.size, by rw [← hI.mem.1]; simp, rfl⟩

theorem rowpre_store [Tok] {bs : List Nat} : ∀ {xs vs : List Value} (o : Nat) {ys us : List Value}, rowpre bs xs vs → rowrel bs ys us → o + ys.length ≤ xs.length →
    rowpre bs (xs.take o ++ (ys ++ xs.drop (o + ys.length))) (vs.take o ++ us ++ vs.drop (o + us.length))
  | xs, vs, 0, [], [], h, _, _ => by simpa using h
  | x :: xs, v :: vs, 0, y :: ys, u :: us, h, hr, hl => by
    have := rowpre_store 0 h.2 hr.2 (by simp at hl ⊢; omega)
    simp only [List.take_zero, List.nil_append, List.cons_append, List.length_cons, Nat.zero_add, List.drop_succ_cons] at this ⊢
    exact ⟨hr.1, this⟩
  | [], _, 0, _ :: _, _, _, _, hl => by simp at hl
  | _ :: _, [], 0, _ :: _, _, h, _, _ => h.elim
  | _, _, 0, [], _ :: _, _, hr, _ => hr.elim
  | _, _, 0, _ :: _, [], _, hr, _ => hr.elim
  | x :: xs, v :: vs, o + 1, ys, us, h, hr, hl => by
    have := rowpre_store o h.2 hr (by simp at hl ⊢; omega)
    simp only [List.take_succ_cons, List.cons_append]
    rw [show o + 1 + ys.length = (o + ys.length) + 1 by omega, show o + 1 + us.length = (o + us.length) + 1 by omega]
    simp only [List.drop_succ_cons]
    exact ⟨h.1, this⟩
  | [], _, o + 1, ys, _, _, _, hl => by simp at hl
  | _ :: _, [], o + 1, _, _, h, _, _ => h.elim

/-- A store into a block of ours. -/
theorem MemRel.store [Tok] {bs : List Nat} {mem : List (List Value)} {w : World} (h : MemRel bs mem w) {i b : Nat} {cells cells' : List Value} {cs' : Array Value} (hb : bs[i]? = some b) (hm : mem[i]? = some cells)
    (hu : ∀ j, bs[j]? = some b → j = i) (hr : rowpre bs cells' cs'.toList) : MemRel bs (mem.set i cells') (w.setRow b cs') := by
  refine ⟨by simp [h.1], fun j c cl h1 h2 => ?_⟩
  rw [List.getElem?_set] at h2
  have hsz : (w.setRow b cs').heap.size = w.heap.size := by simp [World.setRow]
  rw [hsz]
  by_cases hji : i = j
  · subst hji
    rw [hb] at h1; cases h1
    obtain ⟨h3, cs, e, fz, h4, h5⟩ := h.2 i b cells hb hm
    simp only [if_true, (List.getElem?_eq_some_iff.1 hm).1] at h2
    cases h2
    exact ⟨h3, cs', e, fz, setRow_heap w b cs cs' e fz h4, hr⟩
  · rw [if_neg hji] at h2
    obtain ⟨h3, cs, e, fz, h4, h5⟩ := h.2 j c cl h1 h2
    have hne : c ≠ b := fun e => hji (hu j (by rw [← e]; exact h1)).symm
    exact ⟨h3, cs, e, fz, by rw [setRow_other w b c cs' hne]; exact h4, h5⟩

theorem BelowB.setRow' {B : Bs} {a w : World} (h : BelowB B a w) {g : Nat} (hg : B.owns g) (cs : Array Value) : BelowB B a (w.setRow g cs) :=
  ⟨h.os, h.tape, h.output, by simpa [World.setRow] using h.size, fun k hk => (setRow_other w g k cs (fun e => hk (e ▸ hg))).trans (h.block k hk)⟩

theorem store_run [Tok] {P : Program} {bs : List Nat} {w : World} {t : TypeId} {inf : TypeInfo} {b off : Nat} {cs : Array Value} {e : TypeId} {x v : Value} {xs : List Value} (hi : P.info? t = some inf) (hh : w.heap[b]? = some (.cells cs e (0, 0)))
    (hx : okPart x = true) (hv : vrel bs x v) (hn : x.cells.size = inf.size) (hle : off + inf.size ≤ xs.length) (hp : rowpre bs xs cs.toList) :
    (Instr.storeAt t (.pointer (some ⟨b, off, none⟩)) v).run P w = .ok () (w.setRow b (cs.toList.take off ++ v.cells.toList ++ cs.toList.drop (off + v.cells.toList.length)).toArray) := by
  have hc := cells_rel hv hx
  have hl := rowrel_length hc
  have hpl := rowpre_length hp
  simp at hl hpl
  have hone : ∀ u ∈ v.cells.toList, u.oneCell' = true := by
    have : ∀ {xs vs : List Value}, rowrel bs xs vs → (xs.all fun c => !isHole c) = true → ∀ u ∈ vs, u.oneCell' = true := by
      intro xs
      induction xs with
      | nil => intro vs h _ u hu; cases vs with | nil => cases hu | cons _ _ => exact h.elim
      | cons y ys ih =>
        intro vs h hh u hu
        simp only [List.all_cons, Bool.and_eq_true] at hh
        cases vs with
        | nil => cases hu
        | cons z zs =>
          rcases List.mem_cons.1 hu with rfl | hu
          · exact srel_oneCell h.1 (by simpa using hh.1)
          · exact ih h.2 hh.2 u hu
    refine this hc ?_
    cases x with
    | agg vs => exact hx
    | tuple vs => simp [okPart] at hx
    | map r => simp [okPart] at hx
    | _ => rfl
  have hst := run_storeCells_at (P := P) b off e v.cells.toList 0 cs w hh (by simp; omega) hone
  have hsz : v.cells.size = inf.size := by omega
  simp only [Nat.add_zero] at hst
  simp [Instr.storeAt, Instr.sureAddr, storeVar, sizeOf, typeInfo, hi, hsz] at hst ⊢
  simpa using hst

theorem vrows_noPtr1 [Tok] {bs bs' : List Nat} : ∀ {xs vs : List Value}, (xs.all fun v => noPtr v && okArg v) = true → vrows bs xs vs → vrows bs' xs vs
  | [], [], _, _ => trivial
  | x :: xs, v :: vs, hn, h => by
    simp only [List.all_cons, Bool.and_eq_true] at hn
    exact ⟨vrel_of_arel (arel_noPtr hn.1.1 hn.1.2 h.1), vrows_noPtr1 hn.2 h.2⟩
  | [], _ :: _, _, h => h.elim
  | _ :: _, [], _, h => h.elim

/-- Behind a call that has written one block. -/
theorem Inv.wrote [Tok] {base : Bs} {w0 : World} {bs : List Nat} {s : St} {a : Act} {w w' : World} (hI : Inv base w0 bs s a w) {c : Chain} {dst : Option Nat} {v u : Value} (hd : dstOk s.slots c dst = true)
    (h1 : tru s.slots c = true → vrel bs v u) (h2 : tru s.slots c = false → u = undef) {i b : Nat} {cells cells' : List Value} {cs' : Array Value} {e' : TypeId} (hro : s.ro ≤ i) (hb : bs[i]? = some b) (hm : s.mem[i]? = some cells) (hw : BelowB ⟨w.heap.size, b, []⟩ w w')
    (hh : w'.heap[b]? = some (.cells cs' e' (0, 0))) (hr : rowpre bs cells' cs'.toList) :
    Inv base w0 bs { s with slots := putS s.slots dst (v, c), mem := s.mem.set i cells' } (a.put dst u) w' where
  defers := by rw [put_defers]; exact hI.defers
  frame := frel_put hI.frame hd h1 h2
  mem := by
    obtain ⟨_, _, huni⟩ := hI.own i b hro hb
    refine ⟨by simp [hI.mem.1], fun j c cl h1 h2 => ?_⟩
    simp only [List.getElem?_set] at h2
    by_cases hji : i = j
    · subst hji
      rw [hb] at h1; cases h1
      simp only [if_true, (List.getElem?_eq_some_iff.1 hm).1] at h2
      cases h2
      have h3 := (hI.mem.2 i b cells hb hm).1
      exact ⟨Nat.lt_of_lt_of_le h3 hw.size, cs', e', (0, 0), hh, hr⟩
    · rw [if_neg hji] at h2
      obtain ⟨h3, cs, e, fz, h4, h5⟩ := hI.mem.2 j c cl h1 h2
      have hne : c ≠ b := fun e => hji (huni j (by rw [← e]; exact h1)).symm
      exact ⟨Nat.lt_of_lt_of_le h3 hw.size, cs, e, fz, by rw [hw.block c (fun o => o.elim (fun e => by simp only at e; omega) hne)]; exact h4, h5⟩
  own := fun j c hj hc => by
    obtain ⟨h3, ⟨cs2, e2, h4⟩, h5⟩ := hI.own j c hj hc
    refine ⟨h3, ?_, h5⟩
    by_cases hcb : c = b
    · subst hcb; exact ⟨cs', e', hh⟩
    · have := (Array.getElem?_eq_some_iff.1 h4).1
      exact ⟨cs2, e2, by rw [hw.block c (fun o => o.elim (fun e => by simp only at e; omega) hcb)]; exact h4⟩
  ro_le := by simpa using hI.ro_le
  below := hI.below.via hw hI.base_le (hI.own i b hro hb).1
  base_le := Nat.le_trans hI.base_le hw.size
  pre := hI.pre.set (Nat.le_trans hI.pre_ro hro) _
  pre_ro := hI.pre_ro

theorem acallM_step [Tok] {P : Program} {T : Tab} {base : Bs} {w0 : World} {bs : List Nat} {s s' : St} {a : Act} {w : World} {ops : Array Oper} {o : Oper} {c : Call} {Q : Exit → Act → World → Prop} (hT : TOk P T base.hd) (hI : Inv base w0 bs s a w)
    (hop : o.op = .call c) (h : acallM T ops.toList s o c = some s') (K : Act → World → Prop) (hK : ∀ a' w', Inv base w0 bs s' a' w' → K a' w') :
    if Region.wanted o (yielded ops a.tmps) then o.wp P a w K Q else K (a.put o.dst undef) w := by
  unfold acallM at h
  split at h
  · rename_i f hcal
    split at h
    · rename_i ch hch
      split at h
      · rename_i i rest hargs
        split at h
        · rename_i cells hmi
          cases hk : (o.op.operands.toList.all (opdOk s.slots ch) && (Nat.ble s.ro i && (cells.all noPtr1 && (rest.all (fun v => noPtr v && okArg v) && dstOk s.slots ch o.dst))))
          · rw [hk] at h; cases h
          · rw [hk] at h
            simp only [cond_true] at h
            simp only [Bool.and_eq_true] at hk
            obtain ⟨hopd, hro, hnp, hrest, hd⟩ := hk
            rw [List.all_eq_true] at hopd
            have hro' : s.ro ≤ i := Nat.le_of_ble_eq_true hro
            split at h
            · rename_i u cl hm
              split at h
              · rename_i bit hbit
                split at h
                · rename_i cells' hmerge
                  cases h
                  have hmg := mergeC_eq hmerge
                  have htr := bitOf_eq hbit
                  rw [opChain_wanted hI.frame (fun _ _ => rfl) hch]
                  have hbi : i < bs.length := by rw [hI.mem.1]; exact (List.getElem?_eq_some_iff.1 hmi).1
                  obtain ⟨b, hb⟩ : ∃ b, bs[i]? = some b := ⟨_, List.getElem?_eq_getElem hbi⟩
                  obtain ⟨hbo, ⟨cs, e, hcs⟩, huni⟩ := hI.own i b hro' hb
                  obtain ⟨_, cs2, e2, fz, hcs2, hpre⟩ := hI.mem.2 i b cells hb hmi
                  rw [hcs] at hcs2
                  cases hcs2
                  cases ht : tru s.slots ch
                  · rw [if_neg (by simp)]
                    have hbf : bit = false := by rw [← htr, ht]
                    subst hbf
                    refine hK _ _ (hI.wrote hd (fun h => by rw [ht] at h; cases h) (fun _ => rfl) hro' hb hmi (BelowB.refl _ _) hcs ?_)
                    rw [hmg]; exact hpre
                  · rw [if_pos rfl]
                    have hbf : bit = true := by rw [← htr, ht]
                    subst hbf
                    obtain ⟨⟨fn, g1, g2, g3⟩, hcall⟩ := hT.2.1 f _ _ _ hm
                    obtain ⟨callee, args, argTypes⟩ := c
                    simp only at hcal hargs
                    subst hcal
                    have hav : vrows bs (args.toList.map (aeval s)) (args.map a.eval).toList := by
                      have := vrows_of (bs := bs) (s := s) (ρ := a.eval) (ys := args.toList) (fun y hy => frel_opd hI.frame ht y (hopd y (by rw [hop]; simp [Op.operands, Call.operands]; exact Or.inr (by simpa using hy))))
                      simpa using this
                    rw [hargs] at hav
                    have hav' : vrows [b] (.pointer (some ⟨0, 0, none⟩) :: rest) (args.map a.eval).toList := by
                      revert hav
                      generalize (args.map a.eval).toList = vs
                      intro hav
                      match vs, hav with
                      | v :: vs, ⟨hv, hvs⟩ =>
                        obtain ⟨b', hb', hve⟩ := vrel_pointer hv
                        rw [hb] at hb'; cases hb'
                        exact ⟨⟨b, rfl, hve⟩, vrows_noPtr1 hrest hvs⟩
                    have hrun := hcall b w (args.map a.eval) cs e hcs (rowpre_noPtr hnp hpre) hav'
                    unfold Oper.wp
                    have hf : ∀ f, a.eval (.func f) = .func (.func f) #[] #[] := fun f => rfl
                    simp only [execOp, hop, resolve, hf, Deferred.ofValue, Sem.run_bind, Sem.run_pure, Result.andThen_ok, invoke, callFunc, run_program, g1, g2, g3, Array.append_empty, Array.empty_append, Bool.false_eq_true, if_false]
                    refine hrun.mono ?_
                    rintro ex w' ⟨v, cs', e', u', cl', hr, rfl, hv, hrow, hh, hw⟩
                    cases hr
                    refine hK _ _ (hI.wrote hd (fun _ => hv bs) (fun h => by rw [ht] at h; cases h) hro' hb hmi hw hh ?_)
                    rw [hmg]; exact hrow bs
                · cases h
              · cases h
            · cases h
        · cases h
      · cases h
    · cases h
  · cases h

theorem aop_step [Tok] {P : Program} {T : Tab} {base : Bs} {w0 : World} {bs : List Nat} {s s' : St} {a : Act} {w : World} {ops : Array Oper} {o : Oper} {Q : Exit → Act → World → Prop} (hT : TOk P T base.hd) (hI : Inv base w0 bs s a w)
    (h : aop P T ops.toList s o = some s') (K : Act → World → Prop) (hK : ∀ es a' w', Inv base w0 (bs ++ es) s' a' w' → K a' w') :
    if Region.wanted o (yielded ops a.tmps) then o.wp P a w K Q else K (a.put o.dst undef) w := by
  have calc1 : ∀ (_ : (match acalc P T ops.toList s o with | some (c, v) => cond (dstOk s.slots c o.dst) (some { s with slots := putS s.slots o.dst (v, c) }) none | none => none) = some s'),
      if Region.wanted o (yielded ops a.tmps) then o.wp P a w K Q else K (a.put o.dst undef) w := by
    intro h
    split at h
    · rename_i c v hc
      cases hd : dstOk s.slots c o.dst
      · rw [hd] at h; cases h
      · rw [hd] at h
        simp only [cond_true, Option.some.injEq] at h
        subst h
        obtain ⟨h1, h2⟩ := acalc_core hT hI.pre hI.frame hI.mem (List.append_nil bs).symm (Or.inl rfl) (fun _ _ => rfl) hc
        rw [h1]
        cases ht : tru s.slots c
        · rw [if_neg (by simp)]
          have := hI.step (w' := w) hd (v := v) (u := undef) (fun h => by rw [ht] at h; cases h) (fun _ => rfl) (Below.refl _ _)
          exact hK [] _ _ (by simpa using this)
        · rw [if_pos rfl]
          refine good_wp (h2 ht) fun u w' hu hb => ?_
          have := hI.step (w' := w') hd (v := v) (u := u) (fun _ => hu) (fun h => by rw [ht] at h; cases h) hb
          exact hK [] _ _ (by simpa using this)
    · cases h
  have hwant : o.guard.isNone = true → Region.wanted o (yielded ops a.tmps) = true := fun hg => by
    unfold Region.wanted; cases hgd : o.guard with
    | none => rfl
    | some g => rw [hgd] at hg; cases hg
  unfold aop at h
  split at h
  · rename_i t x hop
    cases hk : (o.guard.isNone && (opdOk s.slots [] x && (dstOk s.slots [] o.dst && okPart (aeval s x))))
    · rw [hk] at h; cases h
    · rw [hk] at h
      simp only [cond_true, Option.some.injEq] at h
      subst h
      simp only [Bool.and_eq_true] at hk
      obtain ⟨hg, hx, hd, hp⟩ := hk
      rw [if_pos (hwant hg)]
      have hv := frel_opd hI.frame (c := []) rfl x hx
      unfold Oper.wp execOp
      simp only [hop, Instr.box, newVar, newRow, Sem.run_bind, run_newObj, Result.andThen_ok, Sem.run_pure, Oper.upon_value]
      exact hK [w.heap.size] _ _ (hI.alloc hd t (cells_rel hv hp))
  · rename_i t hop
    split at h
    · rename_i z hz
      cases hk : (o.guard.isNone && (dstOk s.slots [] o.dst && z.cells.toList.all (·.oneCell')))
      · rw [hk] at h; cases h
      · rw [hk] at h
        simp only [cond_true, Option.some.injEq] at h
        subst h
        simp only [Bool.and_eq_true] at hk
        obtain ⟨hg, hd, hp⟩ := hk
        rw [if_pos (hwant hg)]
        have hzr := run_of_pureOf w hz
        unfold Oper.wp execOp
        simp only [hop, Instr.alloc, newVar, newRow, Sem.run_bind, hzr, run_newObj, Result.andThen_ok, Sem.run_pure, Oper.upon_value]
        exact hK [w.heap.size] _ _ (hI.alloc hd t (rowrel_canS hp))
    · cases h
  · rename_i t len ps hop
    split at h
    · rename_i elem hun
      split at h
      · rename_i size z hsz hz
        cases hk : (o.guard.isNone && (ps.toList.all (fun p => opdOk s.slots [] p.2) && (dstOk s.slots [] o.dst && ((ps.toList.map fun p => (p.1, aeval s p.2)).all (fun p => okPart p.2) &&
            (Nat.blt 0 (len * size) && (Nat.ble (len * size) 16777216 && ((Array.range (len * size)).map (z.cells[· % z.cells.size]!)).toList.all (·.oneCell')))))))
        · rw [hk] at h; cases h
        · rw [hk] at h
          simp only [cond_true] at h
          simp only [Bool.and_eq_true] at hk
          obtain ⟨hg, hpo, hd, hpp, hpos, hbig, hone⟩ := hk
          split at h
          · rename_i cells hfill
            simp only [Option.some.injEq] at h
            subst h
            rw [if_pos (hwant hg)]
            rw [List.all_eq_true] at hpo
            have hpr : prel bs (ps.toList.map fun p => (p.1, aeval s p.2)) (ps.toList.map fun p => (p.1, a.eval p.2)) := prel_of (fun y hy => by
              obtain ⟨q, hq, rfl⟩ := List.mem_map.1 hy
              exact frel_opd hI.frame (c := []) rfl q.2 (hpo q hq)) hpp
            have hps : (ps.map fun (i, y) => (i, a.eval y)).toList = ps.toList.map fun p => (p.1, a.eval p.2) := by simp
            have hzr : rowrel bs (((Array.range (len * size)).map (z.cells[· % z.cells.size]!)).map canS).toList ((Array.range (len * size)).map (z.cells[· % z.cells.size]!)).toList := by
              rw [Array.toList_map]; exact rowrel_canS hone
            obtain ⟨rs', h1, h2⟩ := fill_rel _ hpr hzr hfill
            have hszr := run_of_pureOf w hsz
            have hzr' := run_of_pureOf w hz
            have hpos' : ¬ len * size = 0 := by have : 0 < len * size := Nat.le_of_ble_eq_true hpos; omega
            have hbig' : ¬ len * size > 2 ^ 24 := by have : len * size ≤ 16777216 := Nat.le_of_ble_eq_true hbig; omega
            have hrun : (Instr.buildSlice t len (ps.map fun (i, y) => (i, a.eval y))).run P w = .ok (.slice (some ⟨w.heap.size, 0, none⟩) len len) (w.alloc (.cells rs' elem)) := by
              simp only [Instr.buildSlice, Sem.run_bind, run_underlying hun, Result.andThen_ok, hszr, Sem.run_ite, hbig', hpos', if_false, hzr', Sem.run_pure, hps, h1, newRow, run_newObj]
              rfl
            unfold Oper.wp execOp
            simp only [hop, Sem.run_bind, hrun, Result.andThen_ok, Sem.run_pure, Oper.upon_value]
            exact hK [w.heap.size] _ _ (hI.allocV hd elem h2 ⟨w.heap.size, len, by rw [← hI.mem.1]; simp, Nat.le_refl _, rfl⟩)
          · cases h
      · cases h
    · cases h
  · rename_i t p x hop
    split at h
    · rename_i i off hpt
      split at h
      · rename_i cells inf hmi hinf
        cases hk : (o.guard.isNone && (o.dst.isNone && (opdOk s.slots [] p && (opdOk s.slots [] x && (okPart (aeval s x) && (Nat.ble s.ro i && (((aeval s x).cells.size == inf.size) && Nat.ble (off + inf.size) cells.length)))))))
        · rw [hk] at h; cases h
        · rw [hk] at h
          simp only [cond_true, Option.some.injEq] at h
          subst h
          simp only [Bool.and_eq_true] at hk
          obtain ⟨hg, hdn, hp, hx, hpx, hro, hsz, hle⟩ := hk
          have hdn' : o.dst = none := by cases hd : o.dst with | none => rfl | some d => rw [hd] at hdn; cases hdn
          have hro' : s.ro ≤ i := Nat.le_of_ble_eq_true hro
          have hle' : off + inf.size ≤ cells.length := Nat.le_of_ble_eq_true hle
          have hsz' : (aeval s x).cells.size = inf.size := by simpa using hsz
          rw [if_pos (hwant hg)]
          have hv := frel_opd hI.frame (c := []) rfl x hx
          have hpv := frel_opd hI.frame (c := []) rfl p hp
          rw [hpt] at hpv
          obtain ⟨b, hb, hpe⟩ := vrel_pointer hpv
          obtain ⟨hbb, ⟨cs, e, hcs⟩, huni⟩ := hI.own i b hro' hb
          obtain ⟨_, cs', e', fz, hcs', hpre⟩ := hI.mem.2 i b cells hb hmi
          rw [hcs] at hcs'
          cases hcs'
          have hrun := store_run (P := P) (t := t) hinf hcs hpx hv hsz' hle' hpre
          unfold Oper.wp execOp
          simp only [hop, hpe, Sem.run_bind, hrun, Result.andThen_ok, Sem.run_pure, Oper.upon_skip, hdn', Act.put]
          have hc := cells_rel hv hpx
          have hlc := rowrel_length hc
          refine hK [] _ _ ?_
          rw [List.append_nil]
          have hpre' := rowpre_store off hpre hc (by simp; omega)
          rw [show (aeval s x).cells.toList.length = inf.size by simpa using hsz'] at hpre'
          exact {
            defers := hI.defers
            frame := hI.frame
            mem := hI.mem.store hb hmi huni (by simpa using hpre')
            own := fun j c hj hc => by
              obtain ⟨h3, ⟨cs2, e2, h4⟩, h5⟩ := hI.own j c hj hc
              refine ⟨h3, ?_, h5⟩
              by_cases hcb : c = b
              · subst hcb; exact ⟨_, _, setRow_heap w c cs _ e (0, 0) hcs⟩
              · exact ⟨cs2, e2, by rw [setRow_other w b c _ hcb]; exact h4⟩
            ro_le := by simpa using hI.ro_le
            below := BelowB.setRow' hI.below hbb _
            base_le := by simpa [World.setRow] using hI.base_le
            pre := hI.pre.set (Nat.le_trans hI.pre_ro hro') _
            pre_ro := hI.pre_ro }
      · cases h
    · cases h
  · rename_i c hop
    split at h
    · rename_i c' v hc
      exact calc1 (by rw [hc]; exact h)
    · exact acallM_step hT hI hop h K fun a' w' hI' => hK [] a' w' (by simpa using hI')
  · exact calc1 h

def aops [Tok] (P : Program) (T : Tab) (ops : List Oper) : List Oper → St → Option St
  | [], s => some s
  | o :: rest, s => match aop P T ops s o with
    | some s' => aops P T ops rest s'
    | none => none

theorem aops_wp [Tok] {P : Program} {T : Tab} {base : Bs} {w0 : World} {ops : Array Oper} {Q : Exit → Act → World → Prop} (hT : TOk P T base.hd) : ∀ (l : List Oper) {bs : List Nat} {s s' : St} {a : Act} {w : World}, Inv base w0 bs s a w →
    aops P T ops.toList l s = some s' → (∀ es a' w', Inv base w0 (bs ++ es) s' a' w' → Q .normal a' w') → wpList P ops Q l a w
  | [], bs, s, s', a, w, hI, h, hQ => by
    simp only [aops, Option.some.injEq] at h; subst h
    exact hQ [] a w (by simpa using hI)
  | o :: rest, bs, s, s', a, w, hI, h, hQ => by
    simp only [aops] at h
    split at h
    · rename_i s1 h1
      refine wpList_step fun K hK => aop_step hT hI h1 K fun es a' w' hI' => hK _ _ ?_
      exact aops_wp hT rest hI' h fun es' a'' w'' hI'' => hQ (es ++ es') a'' w'' (by rw [← List.append_assoc]; exact hI'')
    · cases h

/-! ### What holds under a condition: the condition is told, and the rest goes on -/
def aloadL (P : Program) (t : TypeId) (cells : List Value) (o : Nat) : Option (Bool × Value) :=
  match P.underlying t, P.info? t with
  | some d, some i => some (cond (isAggD d) (Nat.ble (o + i.size) cells.length) (Nat.blt o cells.length), cond (isAggD d) (.agg ((cells.drop o).take i.size).toArray) (cells.getD o junk))
  | _, _ => none
theorem aloadL_eq {P : Program} {t : TypeId} {cells : List Value} {o : Nat} {b : Bool} {v : Value} (h : aloadL P t cells o = some (b, v)) (hb : b = true) : aload P t cells o = some v := by
  unfold aloadL at h
  unfold aload
  split at h
  · rename_i d i hd hi
    simp only [hd, hi]
    simp only [Option.some.injEq, Prod.mk.injEq] at h
    obtain ⟨h1, h2⟩ := h
    rw [hb] at h1
    cases hda : isAggD d <;> rw [hda] at h1 h2 <;> simp only [cond_true, cond_false] at h1 h2 ⊢ <;> rw [h1, ← h2] <;> rfl
  · cases h
def aindexL (P : Program) (t : TypeId) (x ix : Value) : Option (Bool × Value) :=
  match ix with
  | .int _ k => match P.underlying t, x with
    | some (.array n e), .pointer (some ⟨i, o, none⟩) => match P.info? e with
      | some inf => some (decide (0 ≤ k) && decide (k < (n : Int)), .pointer (some ⟨i, o + k.toNat * inf.size, none⟩))
      | none => none
    | some (.slice e), .slice (some ⟨i, o, none⟩) len _ => match P.info? e with
      | some inf => some (decide (0 ≤ k) && decide (k < (len : Int)), .pointer (some ⟨i, o + k.toNat * inf.size, none⟩))
      | none => none
    | _, _ => none
  | _ => none
theorem aindexL_eq {P : Program} {t : TypeId} {x ix : Value} {b : Bool} {v : Value} (h : aindexL P t x ix = some (b, v)) (hb : b = true) : aindex P t x ix = some v := by
  unfold aindexL at h
  unfold aindex
  split at h
  · split at h
    · rename_i hu
      split at h
      · rename_i inf hinf
        simp only [Option.some.injEq, Prod.mk.injEq] at h
        simp only [hu, hinf]
        rw [h.1, hb, ← h.2]; rfl
      · cases h
    · rename_i hu
      split at h
      · rename_i inf hinf
        simp only [Option.some.injEq, Prod.mk.injEq] at h
        simp only [hu, hinf]
        rw [h.1, hb, ← h.2]; rfl
      · cases h
    · cases h
  · cases h
def adivL (op : BinOp) (x y : Value) : Option (Bool × Value) :=
  match x, y with
  | .int .i64 a, .int .i64 b => match op with
    | .rem => some (!(b == 0), .int .i64 (a.tmod b))
    | .quo => some (!(b == 0), .int .i64 (IntKind.i64.wrap (a.tdiv b)))
    | _ => none
  | _, _ => none
theorem adivL_eq {P : Program} {op : BinOp} {t : TypeId} {x y v : Value} {b : Bool} (h : adivL op x y = some (b, v)) (hb : b = true) : abin P op t x y = some v := by
  unfold adivL at h
  split at h
  · rename_i p q
    split at h
    all_goals first | (cases h; done) | skip
    all_goals
      simp only [Option.some.injEq, Prod.mk.injEq] at h
      obtain ⟨h1, h2⟩ := h
      subst h2
      rw [hb] at h1
      have hq : ¬ q = 0 := by simpa using h1
      simp [abin, isPlain, binOp, Op.intDiv, hq, canR]
      exact ⟨_, rfl, rfl⟩
  · cases h
theorem adivL_eqO {P : Program} {op : BinOp} {t : TypeId} {y z : Operand} {a b v : Value} {c : Bool} (h : adivL op a b = some (c, v)) (hb : c = true) : abinO P op t y z a b = some v := by
  have h2 := adivL_eq (P := P) (t := t) h hb
  unfold adivL at h
  split at h
  · exact h2
  · cases h
def aopL (P : Program) (s : St) (o : Oper) : Option (Bool × Value) :=
  match o.op with
  | .indexAddr t x ix => aindexL P t (aeval s x) (aeval s ix)
  | .load t x => match aeval s x with
    | .pointer (some ⟨i, off, none⟩) => match s.mem[i]? with
      | some cells => aloadL P t cells off
      | none => none
    | _ => none
  | .binOp op _ x y _ => adivL op (aeval s x) (aeval s y)
  | _ => none
/-- The function that a call enters, and what is handed to it. -/
def acallee (P : Program) (s : St) (c : Call) : Option (Nat × List Value) :=
  match c.callee with
  | .value (.func f) => some (f, c.args.toList.map (aeval s))
  | .invoke r name => match aeval s r with
    | .iface t v => match aMethod P t name with
      | some f => some (f, v :: c.args.toList.map (aeval s))
      | none => none
    | _ => none
  | _ => none
/-- A call that goes on by cases. -/
def aopC (P : Program) (T : Tab) (s : St) (o : Oper) : Option ((Value → Option Value) → Option Value) :=
  match o.op with
  | .call c => match acallee P s c with
    | some (f, args) => match T.k f with
      | some g => some (g s.mem args)
      | none => none
    | none => none
  | _ => none
def aopK0 [Tok] (P : Program) (T : Tab) (ops : List Oper) (s : St) (o : Oper) (k : St → Option Value) : Option Value :=
  match aopL P s o with
  | some (b, v) => cond (o.guard.isNone && (o.op.operands.toList.all (opdOk s.slots []) && dstOk s.slots [] o.dst)) (cond b (k { s with slots := putS s.slots o.dst (v, []) }) none)
    (match aop P T ops s o with
    | some s' => k s'
    | none => none)
  | none => match aop P T ops s o with
    | some s' => k s'
    | none => none
theorem aopK0_some [Tok] {P : Program} {T : Tab} {ops : List Oper} {s : St} {o : Oper} {k : St → Option Value} {r : Value} (h : aopK0 P T ops s o k = some r) : ∃ s', aop P T ops s o = some s' ∧ k s' = some r ∧ ∀ k', aopK0 P T ops s o k' = k' s' := by
  have fall : ∀ (_ : (match aop P T ops s o with | some s' => k s' | none => none) = some r) (_ : ∀ k', aopK0 P T ops s o k' = match aop P T ops s o with | some s' => k' s' | none => none), ∃ s', aop P T ops s o = some s' ∧ k s' = some r ∧ ∀ k', aopK0 P T ops s o k' = k' s' := fun h h2 => by
    cases ha : aop P T ops s o with
    | none => rw [ha] at h; cases h
    | some s' => rw [ha] at h; exact ⟨s', rfl, h, fun k' => by rw [h2 k', ha]⟩
  unfold aopK0 at h
  split at h
  · rename_i b v hL
    have hL0 := hL
    cases hc : (o.guard.isNone && (o.op.operands.toList.all (opdOk s.slots []) && dstOk s.slots [] o.dst))
    · rw [hc] at h; exact fall h fun k' => by unfold aopK0; rw [hL0]; simp only; rw [hc]; rfl
    · rw [hc] at h
      simp only [cond_true] at h
      cases hb : b
      · rw [hb] at h; cases h
      · rw [hb] at h
        simp only [cond_true] at h
        refine ⟨_, ?_, h, fun k' => by unfold aopK0; rw [hL0]; simp only; rw [hc, hb]; rfl⟩
        simp only [Bool.and_eq_true] at hc
        obtain ⟨hg, hops, hd⟩ := hc
        have hch : opChain ops s.slots o = some [] := by
          unfold opChain
          cases hgd : o.guard with
          | none => rfl
          | some g => rw [hgd] at hg; cases hg
        have hval : aval P T s o = some v ∧ (∀ a b c, o.op ≠ .pick a b c) ∧ (∀ t x, o.op ≠ .box t x) ∧ (∀ t, o.op ≠ .alloc t) ∧ (∀ t n p, o.op ≠ .buildSlice t n p) ∧ (∀ t p x, o.op ≠ .store t p x) ∧ (∀ c, o.op ≠ .call c) := by
          unfold aopL at hL
          split at hL
          · rename_i t x ix hop
            refine ⟨?_, by simp [hop], by simp [hop], by simp [hop], by simp [hop], by simp [hop], by simp [hop]⟩
            unfold aval; rw [hop]; exact aindexL_eq hL hb
          · rename_i t x hop
            refine ⟨?_, by simp [hop], by simp [hop], by simp [hop], by simp [hop], by simp [hop], by simp [hop]⟩
            unfold aval; rw [hop]
            simp only
            split at hL
            · rename_i i off hpt
              split at hL
              · rename_i cells hm
                rw [hpt]
                simp only [hm]
                exact aloadL_eq hL hb
              · cases hL
            · cases hL
          · rename_i op t x y t2 hop
            refine ⟨?_, by simp [hop], by simp [hop], by simp [hop], by simp [hop], by simp [hop], by simp [hop]⟩
            unfold aval; rw [hop]; exact adivL_eqO hL hb
          · cases hL
        obtain ⟨hv, h1, h2, h3, h4, h5, h6⟩ := hval
        have hcalc : acalc P T ops s o = some ([], v) := by
          unfold acalc
          rw [hch]
          simp only
          split
          · rename_i g x y hop; exact absurd hop (h1 _ _ _)
          · rw [hops, hv]; rfl
        unfold aop
        split
        · rename_i hop; exact absurd hop (h2 _ _)
        · rename_i hop; exact absurd hop (h3 _)
        · rename_i hop; exact absurd hop (h4 _ _ _)
        · rename_i hop; exact absurd hop (h5 _ _ _)
        · rename_i hop; exact absurd hop (h6 _)
        · rw [hcalc]
          simp only
          rw [hd]; rfl
  · rename_i hL0; exact fall h fun k' => by unfold aopK0; rw [hL0]
def aopK [Tok] (P : Program) (T : Tab) (ops : List Oper) (s : St) (o : Oper) (k : St → Option Value) : Option Value :=
  match aopC P T s o with
  | some g => cond (o.guard.isNone && (o.op.operands.toList.all (opdOk s.slots []) && dstOk s.slots [] o.dst)) (g fun v => k { s with slots := putS s.slots o.dst (v, []) }) none
  | none => aopK0 P T ops s o k
/-- One step: plainly, or by cases. -/
def AStep [Tok] (P : Program) (T : Tab) (ops : List Oper) (s : St) (o : Oper) (s' : St) : Prop :=
  aop P T ops s o = some s' ∨ ∃ c f args g v, o.op = .call c ∧ acallee P s c = some (f, args) ∧ T.k f = some g ∧ (∀ k', g s.mem args k' = k' v) ∧ o.guard.isNone = true ∧ o.op.operands.toList.all (opdOk s.slots []) = true ∧ dstOk s.slots [] o.dst = true ∧
    s' = { s with slots := putS s.slots o.dst (v, []) }
def TPar (T : Tab) : Prop := ∀ f g, T.k f = some g → KPar g
theorem TOk.par [Tok] {P : Program} {T : Tab} {hd : List (List Value)} (h : TOk P T hd) : TPar T := fun f g hg => (h.2.2 f g hg).1
theorem aopK_some [Tok] {P : Program} {T : Tab} {ops : List Oper} {s : St} {o : Oper} {k : St → Option Value} {r : Value} (hT : TPar T) (h : aopK P T ops s o k = some r) :
    ∃ s', AStep P T ops s o s' ∧ k s' = some r ∧ ∀ k', aopK P T ops s o k' = k' s' := by
  unfold aopK at h
  cases hC : aopC P T s o with
  | none =>
    rw [hC] at h
    obtain ⟨s', h1, h2, h3⟩ := aopK0_some h
    refine ⟨s', Or.inl h1, h2, fun k' => ?_⟩
    unfold aopK
    rw [hC]
    exact h3 k'
  | some g =>
    rw [hC] at h
    simp only at h
    cases hc : (o.guard.isNone && (o.op.operands.toList.all (opdOk s.slots []) && dstOk s.slots [] o.dst))
    · rw [hc] at h; cases h
    · rw [hc] at h
      simp only [cond_true] at h
      have hC' := hC
      unfold aopC at hC
      split at hC
      · rename_i c hop
        split at hC
        · rename_i f args hcal
          split at hC
          · rename_i g' hg
            cases hC
            obtain ⟨v, h1, h2⟩ := hT f g' hg s.mem args _ r h
            simp only [Bool.and_eq_true] at hc
            refine ⟨_, Or.inr ⟨c, f, args, g', v, hop, hcal, hg, h2, hc.1, hc.2.1, hc.2.2, rfl⟩, h1, fun k' => ?_⟩
            unfold aopK
            rw [hC']
            simp only
            rw [hc.1, hc.2.1, hc.2.2]
            simp only [Bool.and_self, cond_true]
            exact h2 _
          · cases hC
        · cases hC
      · cases hC
open Classical in
theorem astep_step [Tok] {P : Program} {T : Tab} {base : Bs} {w0 : World} {bs : List Nat} {s s' : St} {a : Act} {w : World} {ops : Array Oper} {o : Oper} {Q : Exit → Act → World → Prop} (hT : TOk P T base.hd) (hI : Inv base w0 bs s a w)
    (h : AStep P T ops.toList s o s') (K : Act → World → Prop) (hK : ∀ es a' w', Inv base w0 (bs ++ es) s' a' w' → K a' w') :
    if Region.wanted o (yielded ops a.tmps) then o.wp P a w K Q else K (a.put o.dst undef) w := by
  rcases h with h | ⟨c, f, args, g, v, hop, hcal, hg, hk, hgd, hops, hd, rfl⟩
  · exact aop_step hT hI h K hK
  · have hspec := (hT.2.2 f g hg).2 s.mem args v hI.pre hk
    let T' : Tab := { f := fun g' m a => if g' = f ∧ m = s.mem ∧ a = args then some v else none, m := fun _ _ _ => none, k := fun _ => none }
    have hT' : TOk P T' base.hd := by
      refine ⟨fun f' m a r _ hr => ?_, fun _ _ _ _ hr => (by cases hr), fun _ _ hr => (by cases hr)⟩
      simp only [T'] at hr
      split at hr
      · rename_i hh
        obtain ⟨rfl, rfl, rfl⟩ := hh
        cases hr
        exact hspec
      · cases hr
    refine aop_step hT' hI ?_ K hK
    have hch : opChain ops.toList s.slots o = some [] := by
      unfold opChain
      cases hgd' : o.guard with
      | none => rfl
      | some g => rw [hgd'] at hgd; cases hgd
    have hTf : T'.f f s.mem args = some v := by simp [T']
    have hval : aval P T' s o = some v := by
      unfold aval
      rw [hop]
      simp only
      unfold acallee at hcal
      split at hcal
      · rename_i f' hc'
        cases hcal
        rw [hc']
        exact hTf
      · rename_i rc name hc'
        rw [hc']
        simp only
        split at hcal
        · rename_i t y hrc
          split at hcal
          · rename_i f' hm
            cases hcal
            rw [hrc]
            simp only [hm]
            exact hTf
          · cases hcal
        · cases hcal
      · cases hcal
    have hcalc : acalc P T' ops.toList s o = some ([], v) := by
      unfold acalc
      rw [hch]
      simp only
      split
      · rename_i g x y hop'; rw [hop] at hop'; cases hop'
      · rw [hops, hval]; rfl
    unfold aop
    rw [hop]
    simp only [hcalc]
    rw [hd]; rfl
def ASteps [Tok] (P : Program) (T : Tab) (ops : List Oper) : List Oper → St → St → Prop
  | [], s, s' => s = s'
  | o :: rest, s, s' => ∃ s1, AStep P T ops s o s1 ∧ ASteps P T ops rest s1 s'
theorem asteps_wp [Tok] {P : Program} {T : Tab} {base : Bs} {w0 : World} {ops : Array Oper} {Q : Exit → Act → World → Prop} (hT : TOk P T base.hd) : ∀ (l : List Oper) {bs : List Nat} {s s' : St} {a : Act} {w : World}, Inv base w0 bs s a w →
    ASteps P T ops.toList l s s' → (∀ es a' w', Inv base w0 (bs ++ es) s' a' w' → Q .normal a' w') → wpList P ops Q l a w
  | [], bs, s, s', a, w, hI, h, hQ => by
    cases h
    exact hQ [] a w (by simpa using hI)
  | o :: rest, bs, s, s', a, w, hI, h, hQ => by
    obtain ⟨s1, h1, h2⟩ := h
    refine wpList_step fun K hK => astep_step hT hI h1 K fun es a' w' hI' => hK _ _ ?_
    exact asteps_wp hT rest hI' h2 fun es' a'' w'' hI'' => hQ (es ++ es') a'' w'' (by rw [← List.append_assoc]; exact hI'')
def aopsK [Tok] (P : Program) (T : Tab) (ops : List Oper) : List Oper → St → (St → Option Value) → Option Value
  | [], s, k => k s
  | o :: rest, s, k => aopK P T ops s o fun s' => aopsK P T ops rest s' k
theorem aopsK_some [Tok] {P : Program} {T : Tab} {ops : List Oper} {r : Value} (hT : TPar T) : ∀ {l : List Oper} {s : St} {k : St → Option Value}, aopsK P T ops l s k = some r → ∃ s', ASteps P T ops l s s' ∧ k s' = some r ∧ ∀ k', aopsK P T ops l s k' = k' s'
  | [], s, k, h => ⟨s, rfl, h, fun _ => rfl⟩
  | o :: rest, s, k, h => by
    obtain ⟨s1, h1, h2, h3⟩ := aopK_some hT h
    obtain ⟨s2, h4, h5, h6⟩ := aopsK_some hT h2
    exact ⟨s2, ⟨s1, h1, h4⟩, h5, fun k' => by simp only [aopsK]; rw [h3]; exact h6 k'⟩

/-- Behind a region: what was written under tests is no longer known. -/
def clearS (slots : List (Value × Chain)) : List (Value × Chain) := slots.map fun q => (match q.2 with | [] => q.1 | _ :: _ => junk, [])

theorem frel_clear [Tok] {bs : List Nat} {F s : List (Value × Chain)} {tmps : Array Value} (h : frel bs F s tmps) (F' : List (Value × Chain)) : frel bs F' (clearS s) tmps := by
  refine ⟨by simp [clearS, h.1], fun t => ?_⟩
  have hg : (clearS s).getD t dflt = (match (s.getD t dflt).2 with | [] => (s.getD t dflt).1 | _ :: _ => junk, []) := by
    simp only [clearS, List.getD_eq_getElem?_getD, List.getElem?_map]
    cases s[t]? <;> rfl
  rw [hg]
  refine ⟨fun _ => ?_, fun h' => by cases h'⟩
  have h2 := (h.2 t).1
  revert h2
  generalize s.getD t dflt = q
  obtain ⟨v, c⟩ := q
  cases c with
  | nil => exact fun h2 => h2 rfl
  | cons p c => exact fun _ => trivial

theorem Inv.clear [Tok] {base : Bs} {w0 : World} {bs : List Nat} {s : St} {a : Act} {w : World} (hI : Inv base w0 bs s a w) : Inv base w0 bs { s with slots := clearS s.slots } a w :=
  { hI with frame := frel_clear hI.frame _ }

end Go.Ev
