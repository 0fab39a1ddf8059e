/-
  The second evaluator, part Gc.
-/
import Derived.Test.YtefphimaggjihaaGreatDoorC5
import Derived.Laws.RangeString
namespace Go.Gv
open Go.RowKit Go.Ev
noncomputable section

theorem rel_bool {E : Env} {b : Bool} {v : Value} (h : rel E (.x (.bool b)) v) : v = .bool b := rel_x.1 h
def trp (F : List (AV × Chain)) (p : Nat × Bool) : Bool :=
  match (F.getD p.1 dflt).1 with
  | .x (.bool b) => b == p.2
  | _ => false
/-- Do the tests hold? -/
def tru (F : List (AV × Chain)) (c : Chain) : Bool := c.all (trp F)

/-- The slots that are known, and what the frame holds: a slot whose tests do not hold was passed over. -/
def frel (E : Env) (F s : List (AV × Chain)) (tmps : Array Value) : Prop :=
  (tmps.size = s.length ∧ glob E) ∧ ∀ t, (tru F (s.getD t dflt).2 = true → rel E (s.getD t dflt).1 (tmps.getD t undef)) ∧ (tru F (s.getD t dflt).2 = false → tmps.getD t undef = undef)

def opChain (ops : List Oper) (slots : List (AV × Chain)) (o : Oper) : Option Chain :=
  match o.guard with
  | none => some []
  | some (j, want) => match ops[j]? with
    | some oj => match oj.dst with
      | some d => match (slots.getD d dflt).1 with
        | .x (.bool _) => some ((d, want) :: (slots.getD d dflt).2)
        | _ => none
      | none => none
    | none => none

def opdOk (slots : List (AV × Chain)) (c : Chain) : Operand → Bool
  | .tmp t => (slots.getD t dflt).2.all (fun p => c.contains p)
  | _ => true

/-- What an operation gives: whether it goes through, under which tests, and what. -/
def acalc (P : Program) (T : Tab) (ops : List Oper) (s : St) (o : Oper) : Option (Bool × Chain × AV) :=
  match opChain ops s.slots o with
  | none => none
  | some c => match o.op with
    | .pick (.tmp g) x y =>
      cond (opdOk s.slots c (.tmp g) && (opdOk s.slots ((g, true) :: c) x && opdOk s.slots ((g, false) :: c) y))
        (match aeval s (.tmp g), aeval s x, aeval s y with
        | .x (.bool b), .x (.bool p), .x (.bool q) => some (true, c, .x (.bool (cond b p q)))
        | _, _, _ => none) none
    | _ => cond (o.op.operands.toList.all (opdOk s.slots c)) (match aval P T s o with
        | some (b, v) => some (b, c, v)
        | none => none) none

/-- The slots of tests that an operation looks at: its guard's, and what a 'pick' parts on. -/
def testsOf (ops : List Oper) (o : Oper) : List Nat :=
  (match o.guard with
  | none => []
  | some (j, _) => match ops[j]? with
    | some oj => oj.dst.toList
    | none => []) ++
  (match o.op with
  | .pick (.tmp g) _ _ => [g]
  | _ => [])

theorem tru_cons (F : List (AV × Chain)) (p : Nat × Bool) (c : Chain) : tru F (p :: c) = (trp F p && tru F c) := by simp [tru]

theorem tru_sub {F : List (AV × Chain)} {c d : Chain} (h : (c.all fun p => d.contains p) = true) (hd : tru F d = true) : tru F c = true := by
  unfold tru at *
  rw [List.all_eq_true] at *
  intro p hp
  exact hd p (by have := h p hp; simpa using this)

theorem frel_opd {E : Env} {F : List (AV × Chain)} {s : St} {a : Act} {c : Chain} (hfr : frel E F s.slots a.tmps) (hc : tru F c = true) (y : Operand) (hy : opdOk s.slots c y = true) : rel E (aeval s y) (a.eval y) := by
  cases y with
  | tmp t => exact (hfr.2 t).1 (tru_sub hy hc)
  | const v => exact rel_canA E v
  | global g =>
    show rel E (match known g with | some l => AV.ref l 0 | none => .any) _
    cases hl : known g with
    | none => exact rel_any
    | some l => exact (hfr.1.2 g l hl).1
  | func f => exact rel_fn.2 ⟨#[], #[], rfl, rels_nil.2 rfl, rels_nil.2 rfl⟩

theorem tmps_bool {tmps : Array Value} {d : Nat} {b : Bool} (h : tmps.getD d undef = .bool b) : tmps[d]? = some (.bool b) := by
  rw [Array.getD_eq_getD_getElem?] at h
  cases hx : tmps[d]? with
  | none => rw [hx] at h; simp [undef] at h
  | some v => rw [hx] at h; simp at h; rw [h]

theorem tmps_undef {tmps : Array Value} {d : Nat} (h : tmps.getD d undef = undef) : tmps[d]? = none ∨ tmps[d]? = some undef := by
  rw [Array.getD_eq_getD_getElem?] at h
  cases hx : tmps[d]? with
  | none => exact Or.inl rfl
  | some v => rw [hx] at h; simp at h; rw [h]; exact Or.inr rfl

theorem opChain_wanted {E : Env} {F s : List (AV × Chain)} {a : Act} {ops : Array Oper} {o : Oper} {c : Chain} (hfr : frel E F s a.tmps)
    (hag : ∀ t, t ∈ testsOf ops.toList o → (F.getD t dflt).1 = (s.getD t dflt).1) (h : opChain ops.toList s o = some c) : Region.wanted o (yielded ops a.tmps) = tru F c := by
  unfold opChain at h
  unfold Region.wanted
  cases hg : o.guard with
  | none => simp only [hg, Option.some.injEq] at h; subst h; rfl
  | some gw =>
    obtain ⟨j, want⟩ := gw
    simp only [hg] at h ⊢
    cases hj : ops.toList[j]? with
    | none => simp [hj] at h
    | some oj =>
      simp only [hj] at h
      cases hd : oj.dst with
      | none => simp [hd] at h
      | some d =>
        simp only [hd] at h
        have hj' : ops[j]? = some oj := by simpa using hj
        have hag' := hag d (by simp [testsOf, hg, hj', hd])
        split at h
        · rename_i b hb
          simp only [Option.some.injEq] at h
          subst h
          rw [tru_cons]
          have hy : yielded ops a.tmps j = match a.tmps[d]? with | some (.bool b) => some b | _ => none := by
            unfold yielded; simp [hj', hd]; rfl
          rw [hy]
          cases ht : tru F (s.getD d dflt).2
          · have := (hfr.2 d).2 ht
            rcases tmps_undef this with e | e <;> rw [e] <;> simp [undef]
          · have := (hfr.2 d).1 ht
            rw [hb] at this
            rw [tmps_bool (rel_bool this)]
            have htr : trp F (d, want) = (b == want) := by unfold trp; simp only [hag', hb]
            rw [htr]
            cases b <;> cases want <;> rfl
        · cases h

theorem acalc_core {P : Program} {T : Tab} {E : Env} {F : List (AV × Chain)} {s : St} {a : Act} {ops : Array Oper} {o : Oper} {c : Chain} {b : Bool} {v : AV} (hT : TOk0 P T)
    (hfr : frel E F s.slots a.tmps) (hm : MemRel E s.mem) (hA : ∀ b, E.A b → b < E.w.heap.size) (hag : ∀ t, t ∈ testsOf ops.toList o → (F.getD t dflt).1 = (s.slots.getD t dflt).1)
    (h : acalc P T ops.toList s o = some (b, c, v)) (hb : tru F c = true → b = true) :
    Region.wanted o (yielded ops a.tmps) = tru F c ∧ (tru F c = true → Good P E v ((execOp a.eval o).run P E.w)) := by
  unfold acalc at h
  split at h
  · cases h
  · rename_i c' hc
    have main : ∀ c'', c'' = c' → c'' = c → (tru F c = true → Good P E v ((execOp a.eval o).run P E.w)) → Region.wanted o (yielded ops a.tmps) = tru F c ∧ (tru F c = true → Good P E v ((execOp a.eval o).run P E.w)) :=
      fun c'' e1 e2 h3 => ⟨by rw [← e2, e1]; exact opChain_wanted hfr hag hc, h3⟩
    split at h
    · rename_i g x y hop
      cases hk : (opdOk s.slots c' (.tmp g) && (opdOk s.slots ((g, true) :: c') x && opdOk s.slots ((g, false) :: c') y))
      · rw [hk] at h; cases h
      · rw [hk] at h
        simp only [cond_true] at h
        simp only [Bool.and_eq_true] at hk
        split at h
        · rename_i bb p q hbb hp hq
          simp only [Option.some.injEq, Prod.mk.injEq] at h
          obtain ⟨_, e1, e2⟩ := h
          refine main c' rfl e1 fun ht => ?_
          subst e1 e2
          have hgv := frel_opd hfr ht (.tmp g) hk.1
          rw [hbb] at hgv
          have hgv' : a.eval (.tmp g) = .bool bb := rel_bool hgv
          have hagg : (F.getD g dflt).1 = .x (.bool bb) := by
            rw [hag g (by simp [testsOf, hop])]; exact hbb
          have hrun : (execOp a.eval o).run P E.w = .ok (.value (if bb then a.eval x else a.eval y)) E.w := by
            unfold execOp
            simp only [hop, hgv', asBool, Sem.run_bind, Sem.run_pure, Result.andThen_ok]
          rw [hrun]
          refine ⟨?_, Or.inl rfl⟩
          cases bb
          · have hy := frel_opd hfr (c := (g, false) :: c') (by rw [tru_cons, ht]; simp only [trp, hagg]; rfl) y hk.2.2
            rw [hq] at hy
            exact hy
          · have hx := frel_opd hfr (c := (g, true) :: c') (by rw [tru_cons, ht]; simp only [trp, hagg]; rfl) x hk.2.1
            rw [hp] at hx
            exact hx
        · cases h
    · cases hk : (o.op.operands.toList.all (opdOk s.slots c'))
      · rw [hk] at h; cases h
      · rw [hk] at h
        simp only [cond_true] at h
        split at h
        · rename_i bb u hv
          simp only [Option.some.injEq, Prod.mk.injEq] at h
          obtain ⟨e0, e1, e2⟩ := h
          refine main c' rfl e1 fun ht => ?_
          subst e0 e1 e2
          rw [hb ht] at hv
          rw [List.all_eq_true] at hk
          exact aval_good hT hm hA hfr.1.2 (fun f => rfl) (fun y hy => frel_opd hfr ht y (hk y hy)) hv
        · cases h

/-- From an outcome that fits to the walk's own word. -/
theorem good_wp {P : Program} {E : Env} {o : Oper} {a : Act} {v : AV} {K : Act → World → Prop} {Q : Exit → Act → World → Prop} (hg : Good P E v ((execOp a.eval o).run P E.w))
    (hK : ∀ u w', rel { E with w := w' } v u → Below E.w.heap.size E.w w' → K (a.put o.dst u) w') : o.wp P a E.w K Q := by
  unfold Oper.wp
  generalize (execOp a.eval o).run P E.w = r at hg
  cases r with
  | ok n w' =>
    cases n <;> simp only [Good] at hg <;> first | exact hg.elim | skip
    case value u =>
      rcases hg.2 with rfl | ⟨k, rfl⟩
      · exact hK u _ hg.1 (Below.refl _ _)
      · exact hK u _ (rel_le (E := E) (E' := { E with w := { E.w with drawn := E.w.drawn + k } }) ⟨fun b h1 ob h2 => ⟨h1, h2⟩, fun k b hb => hb⟩ hg.1) ⟨rfl, rfl, rfl, Nat.le_refl _, fun _ _ => rfl⟩
    case enter f args =>
      obtain ⟨he, hc⟩ := hg
      subst he
      exact hc.mono fun e w'' ⟨u, he, hu, hb⟩ => by subst he; exact hK u w'' hu hb
  | halt x w' => exact hg.elim

def putS (slots : List (AV × Chain)) (dst : Option Nat) (p : AV × Chain) : List (AV × Chain) :=
  match dst with
  | some d => slots.set d p
  | none => slots

def dstOk (slots : List (AV × Chain)) (c : Chain) : Option Nat → Bool
  | some d => c.all (fun p => p.1 != d) && slots.all (fun q => q.2.all (fun p => p.1 != d))
  | none => true

theorem getD_set (l : List (AV × Chain)) (d t : Nat) (p : AV × Chain) : (l.set d p).getD t dflt = if d = t ∧ d < l.length then p else l.getD t dflt := by
  simp only [List.getD_eq_getElem?_getD, List.getElem?_set]
  by_cases h : d = t
  · subst h
    by_cases h2 : d < l.length
    · simp [h2]
    · simp [h2]
  · simp [h]

theorem tmps_set (l : Array Value) (d t : Nat) (v : Value) : (l.setIfInBounds d v).getD t undef = if d = t ∧ d < l.size then v else l.getD t undef := by
  simp only [Array.getD_eq_getD_getElem?, Array.getElem?_setIfInBounds]
  by_cases h : d = t
  · subst h
    by_cases h2 : d < l.size
    · simp [h2]
    · simp [h2]
  · simp [h]

theorem trp_other {F : List (AV × Chain)} {d : Nat} {p : Nat × Bool} (v : AV × Chain) (h : p.1 ≠ d) : trp (F.set d v) p = trp F p := by
  unfold trp
  rw [getD_set, if_neg (fun e => h e.1.symm)]

theorem tru_other {F : List (AV × Chain)} {d : Nat} {c : Chain} (v : AV × Chain) (h : (c.all fun p => p.1 != d) = true) : tru (F.set d v) c = tru F c := by
  unfold tru
  induction c with
  | nil => rfl
  | cons p c ih =>
    simp only [List.all_cons, Bool.and_eq_true] at h ⊢
    rw [trp_other v (by simpa using h.1), ih h.2]

theorem frel_put {E : Env} {s : List (AV × Chain)} {a : Act} {c : Chain} {dst : Option Nat} {v : AV} {u : Value} (hfr : frel E s s a.tmps) (hd : dstOk s c dst = true)
    (h1 : tru s c = true → rel E v u) (h2 : tru s c = false → u = undef) : frel E (putS s dst (v, c)) (putS s dst (v, c)) (a.put dst u).tmps := by
  cases dst with
  | none => exact hfr
  | some d =>
    simp only [dstOk, Bool.and_eq_true] at hd
    obtain ⟨hd1, hd2⟩ := hd
    rw [List.all_eq_true] at hd2
    refine ⟨⟨by simp [putS, Act.put, hfr.1.1], hfr.1.2⟩, fun t => ?_⟩
    have hch : ((s.getD t dflt).2.all fun p => p.1 != d) = true := by
      simp only [List.getD_eq_getElem?_getD]
      cases hx : s[t]? with
      | none => rfl
      | some q => exact hd2 q (List.mem_of_getElem? hx)
    simp only [putS, Act.put]
    rw [getD_set, tmps_set, hfr.1.1]
    by_cases h : d = t ∧ d < s.length
    · rw [if_pos h, if_pos h]
      simp only [tru_other _ hd1]
      exact ⟨h1, h2⟩
    · rw [if_neg h, if_neg h, tru_other _ hch]
      exact hfr.2 t

end
end Go.Gv

namespace Go.Gv
open Go.RowKit Go.Ev
noncomputable section

mutual
def mixA (b : Bool) : AV → AV → AV
  | .f x, .f y => .f (cond b x y)
  | .cx x z, .cx y v => .cx (cond b x y) (cond b z v)
  | .x (.int k x), .x (.int k' y) => cond (decide (k = k')) (.x (.int k (cond b x y))) .any
  | .x (.bool x), .x (.bool y) => .x (.bool (cond b x y))
  | .x (.string x), .x (.string y) => .x (.string (cond b x y))
  | .sl sz n el, .sl sz' n' el' => cond (Nat.beq sz sz') (.sl sz (cond b n n') (fun i => mixL b (el i) (el' i))) .any
  | _, _ => .any
def mixL (b : Bool) : List AV → List AV → List AV
  | x :: xs, y :: ys => mixA b x y :: mixL b xs ys
  | [], [] => []
  | x :: xs, [] => cond b (x :: xs) []
  | [], y :: ys => cond b [] (y :: ys)
end
theorem mixL_len_t : ∀ (xs ys : List AV), (mixL true xs ys).length = xs.length
  | x :: xs, y :: ys => by rw [mixL]; simp [mixL_len_t xs ys]
  | [], [] => by rw [mixL]
  | x :: xs, [] => by rw [mixL]; rfl
  | [], y :: ys => by rw [mixL]; rfl
theorem mixL_len_f : ∀ (xs ys : List AV), (mixL false xs ys).length = ys.length
  | x :: xs, y :: ys => by rw [mixL]; simp [mixL_len_f xs ys]
  | [], [] => by rw [mixL]
  | x :: xs, [] => by rw [mixL]; rfl
  | [], y :: ys => by rw [mixL]; rfl
theorem relA_any {E : Env} {u : Value} : relA .any E u := rel_any
mutual
theorem mixA_t : ∀ (x y : AV) {E : Env} {u : Value}, relA x E u → relA (mixA true x y) E u
  | .f a, y, E, u, h => by cases y <;> simp only [mixA] <;> first | exact h | exact relA_any
  | .x v, y, E, u, h => by
    cases y <;> try (cases v <;> simp only [mixA] <;> exact relA_any)
    rename_i v'
    cases v <;> cases v' <;> simp only [mixA] <;> first | exact h | exact relA_any | skip
    rename_i k a k' b
    by_cases hk : k = k'
    · simp only [hk, decide_true, cond_true] at h ⊢; exact h
    · simp only [hk, decide_false, cond_false]; exact relA_any
  | .sl sz n el, y, E, u, h => by
    cases y <;> simp only [mixA] <;> first | exact relA_any | skip
    rename_i sz' n' el'
    cases hs : Nat.beq sz sz'
    · exact relA_any
    · simp only [cond_true]
      unfold relA at h ⊢
      obtain ⟨a, c, h1, h2, h3⟩ := h
      refine ⟨a, c, h1, h2, ?_⟩
      rcases h3 with h3 | ⟨b, o, cs, e, fz, h4, h5, h6, h7⟩
      · exact Or.inl h3
      · exact Or.inr ⟨b, o, cs, e, fz, h4, h5, h6, fun i hi => ⟨by rw [mixL_len_t]; exact (h7 i hi).1, mixL_t (el i) (el' i) (h7 i hi).2⟩⟩
  | .cx _ _, y, E, u, h => by cases y <;> simp only [mixA] <;> first | exact h | exact relA_any
  | .agg _, y, _, _, _ => by cases y <;> simp only [mixA] <;> exact relA_any
  | .tup _, y, _, _, _ => by cases y <;> simp only [mixA] <;> exact relA_any
  | .own _ _, y, _, _, _ => by cases y <;> simp only [mixA] <;> exact relA_any
  | .eown _ _ _ _, y, _, _, _ => by cases y <;> simp only [mixA] <;> exact relA_any
  | .osl _ _ _ _, y, _, _, _ => by cases y <;> simp only [mixA] <;> exact relA_any
  | .view _ _ _ _ _, y, _, _, _ => by cases y <;> simp only [mixA] <;> exact relA_any
  | .ref _ _, y, _, _, _ => by cases y <;> simp only [mixA] <;> exact relA_any
  | .ifc _ _, y, _, _, _ => by cases y <;> simp only [mixA] <;> exact relA_any
  | .fn _ _ _, y, _, _, _ => by cases y <;> simp only [mixA] <;> exact relA_any
  | .any, y, _, _, _ => by cases y <;> simp only [mixA] <;> exact relA_any
theorem mixL_t : ∀ (xs ys : List AV) {E : Env} {us : List Value}, preA xs E us → preA (mixL true xs ys) E us
  | x :: xs, y :: ys, E, u :: us, h => by
    unfold preA at h
    rw [mixL]
    unfold preA
    exact ⟨mixA_t x y h.1, mixL_t xs ys h.2⟩
  | x :: xs, y :: ys, E, [], h => by unfold preA at h; exact h.elim
  | [], [], E, us, h => by rw [mixL]; exact h
  | x :: xs, [], E, us, h => by rw [mixL]; exact h
  | [], y :: ys, E, us, h => by rw [mixL]; exact h
end
mutual
theorem mixA_f : ∀ (x y : AV) {E : Env} {u : Value}, relA y E u → relA (mixA false x y) E u
  | .f a, y, E, u, h => by cases y <;> simp only [mixA] <;> first | exact h | exact relA_any
  | .x v, y, E, u, h => by
    cases y <;> try (cases v <;> simp only [mixA] <;> exact relA_any)
    rename_i v'
    cases v <;> cases v' <;> simp only [mixA] <;> first | exact h | exact relA_any | skip
    rename_i k a k' b
    by_cases hk : k = k'
    · simp only [hk, decide_true, cond_true, cond_false] at h ⊢; exact h
    · simp only [hk, decide_false, cond_false]; exact relA_any
  | .sl sz n el, y, E, u, h => by
    cases y <;> simp only [mixA] <;> first | exact relA_any | skip
    rename_i sz' n' el'
    cases hs : Nat.beq sz sz'
    · exact relA_any
    · have e1 := Nat.eq_of_beq_eq_true hs
      subst e1
      simp only [cond_true, cond_false]
      unfold relA at h ⊢
      obtain ⟨a, c, h1, h2, h3⟩ := h
      refine ⟨a, c, h1, h2, ?_⟩
      rcases h3 with h3 | ⟨b, o, cs, e, fz, h4, h5, h6, h7⟩
      · exact Or.inl h3
      · exact Or.inr ⟨b, o, cs, e, fz, h4, h5, h6, fun i hi => ⟨by rw [mixL_len_f]; exact (h7 i hi).1, mixL_f (el i) (el' i) (h7 i hi).2⟩⟩
  | .cx _ _, y, E, u, h => by cases y <;> simp only [mixA] <;> first | exact h | exact relA_any
  | .agg _, y, _, _, _ => by cases y <;> simp only [mixA] <;> exact relA_any
  | .tup _, y, _, _, _ => by cases y <;> simp only [mixA] <;> exact relA_any
  | .own _ _, y, _, _, _ => by cases y <;> simp only [mixA] <;> exact relA_any
  | .eown _ _ _ _, y, _, _, _ => by cases y <;> simp only [mixA] <;> exact relA_any
  | .osl _ _ _ _, y, _, _, _ => by cases y <;> simp only [mixA] <;> exact relA_any
  | .view _ _ _ _ _, y, _, _, _ => by cases y <;> simp only [mixA] <;> exact relA_any
  | .ref _ _, y, _, _, _ => by cases y <;> simp only [mixA] <;> exact relA_any
  | .ifc _ _, y, _, _, _ => by cases y <;> simp only [mixA] <;> exact relA_any
  | .fn _ _ _, y, _, _, _ => by cases y <;> simp only [mixA] <;> exact relA_any
  | .any, y, _, _, _ => by cases y <;> simp only [mixA] <;> exact relA_any
theorem mixL_f : ∀ (xs ys : List AV) {E : Env} {us : List Value}, preA ys E us → preA (mixL false xs ys) E us
  | x :: xs, y :: ys, E, u :: us, h => by
    unfold preA at h
    rw [mixL]
    unfold preA
    exact ⟨mixA_f x y h.1, mixL_f xs ys h.2⟩
  | x :: xs, y :: ys, E, [], h => by unfold preA at h; exact h.elim
  | [], [], E, us, h => by rw [mixL]; exact h
  | x :: xs, [], E, us, h => by rw [mixL]; exact h
  | [], y :: ys, E, us, h => by rw [mixL]; exact h
end
/-- A choice of two rows of cells. -/
theorem mixL_pre {E : Env} {b : Bool} {xs ys : List AV} {us : List Value} (h1 : b = true → pre E xs us) (h2 : b = false → pre E ys us) : pre E (mixL b xs ys) us := by
  cases b
  · exact mixL_f xs ys (h2 rfl)
  · exact mixL_t xs ys (h1 rfl)
theorem mixL_len {b : Bool} {xs ys : List AV} {n : Nat} (h1 : b = true → xs.length = n) (h2 : b = false → ys.length = n) : (mixL b xs ys).length = n := by
  cases b
  · rw [mixL_len_f]; exact h2 rfl
  · rw [mixL_len_t]; exact h1 rfl

def Row.live : Row → Bool
  | .dead => false
  | _ => true
/-- The row is there, and may be looked at. -/
def liveAt (mem : List Row) (k : Nat) : Bool := match mem[k]? with
  | some r => r.live
  | none => false
/-- Nothing is changed but what may be written. -/
structure BelowR (R : Nat → Prop) (w w' : World) : Prop where
  os : w'.os = w.os
  tape : w'.tape = w.tape
  output : w'.output = w.output
  size : w.heap.size ≤ w'.heap.size
  block : ∀ k, k < w.heap.size → ¬ R k → w'.heap[k]? = w.heap[k]?
theorem BelowR.refl (R : Nat → Prop) (w : World) : BelowR R w w := ⟨rfl, rfl, rfl, Nat.le_refl _, fun _ _ _ => rfl⟩
theorem BelowR.grown {R : Nat → Prop} {w0 w w' : World} {b : Nat} (h : BelowR R w0 w) (hg : w.grownBy w' (some b)) (hb : R b ∨ w0.heap.size ≤ b) : BelowR R w0 w' :=
  ⟨hg.os.trans h.os, hg.tape.trans h.tape, hg.output.trans h.output, Nat.le_trans h.size hg.size, fun k hk hn => (hg.block k (Nat.lt_of_lt_of_le hk h.size) (fun e => by
    cases e
    rcases hb with hb | hb
    · exact hn hb
    · omega)).trans (h.block k hk hn)⟩
theorem BelowR.on {R : Nat → Prop} {w0 w w' : World} (h : BelowR R w0 w) (hb : Below w.heap.size w w') : BelowR R w0 w' :=
  ⟨hb.os.trans h.os, hb.tape.trans h.tape, hb.output.trans h.output, Nat.le_trans h.size hb.size, fun k hk hn => (hb.block k (Nat.lt_of_lt_of_le hk h.size)).trans (h.block k hk hn)⟩

structure Wd (A0 R : Nat → Prop) (w0 : Env) (E : Env) (mem : List Row) : Prop where
  rows : MemRel E mem
  small : ∀ b, E.A b → b < E.w.heap.size
  old : ∀ b, A0 b → E.A b
  own : ∀ k b c, E.O k = some (b, c) → liveAt mem k = true → E.A b ∧ (R b ∨ w0.w.heap.size ≤ b)
  one : ∀ k k' b c c', E.O k = some (b, c) → E.O k' = some (b, c') → liveAt mem k = true → liveAt mem k' = true → k = k'
  below : BelowR R w0.w E.w
  le0 : w0.le E

/-- What is known of a row stays, as long as its block does. -/
theorem rowRel_keep {E E' : Env} (hle : E.le E') {b : Nat} {c : Nat × Nat} {row : Row} (h : rowRel E b c row) (hb : row.live = true → E'.w.heap[b]? = E.w.heap[b]?) : rowRel E' b c row := by
  cases row with
  | c l =>
    obtain ⟨cs, e, h1, h2⟩ := h
    exact ⟨cs, e, by rw [hb rfl]; exact h1, pre_le hle h2⟩
  | a e sz n el =>
    obtain ⟨cs, h1, h2, h3, h4, h5, h6⟩ := h
    exact ⟨cs, by rw [hb rfl]; exact h1, h2, h3, h4, h5, fun i hi => ⟨(h6 i hi).1, pre_le hle.fz (h6 i hi).2⟩⟩
  | dead => trivial
  | i s p e => exact ⟨by rw [hb rfl]; exact h.1, h.2⟩
  | t e l =>
    obtain ⟨cs, h1, h2, h3⟩ := h
    exact ⟨cs, by rw [hb rfl]; exact h1, pre_le hle h2, h3⟩
  | z x e sz n el =>
    obtain ⟨cs, fz, h1, h2, hx, h3⟩ := h
    exact ⟨cs, fz, by rw [hb rfl]; exact h1, h2, hx, fun i hi => ⟨(h3 i hi).1, pre_le hle.fz (h3 i hi).2⟩⟩

/-- The same, with one row more, or changed. -/
def Env.row (E : Env) (w' : World) (k1 b1 : Nat) (c1 : Nat × Nat) : Env := ⟨w', fun b => E.A b ∨ b = b1, fun k => if k = k1 then some (b1, c1) else E.O k⟩

theorem Env.row_le {E : Env} {w' : World} {k1 b1 : Nat} {c1 : Nat × Nat} (hg : E.w.grownBy w' (some b1)) (hA : E.A b1 ∨ E.w.heap.size ≤ b1) (hO : E.O k1 = none ∨ E.O k1 = some (b1, c1)) : E.le (E.row w' k1 b1 c1) where
  keep := fun b hb ob hob => by
    have hlt := (Array.getElem?_eq_some_iff.1 hob).1
    have hne : b ≠ b1 := fun e => by
      subst e
      rcases hA with h | h
      · exact hb h
      · omega
    refine ⟨fun h => h.elim hb hne, ?_⟩
    show w'.heap[b]? = _
    rw [hg.block b hlt (fun e => hne (by cases e; rfl))]
    exact hob
  own := fun k b hb => by
    show (if k = k1 then some (b1, c1) else E.O k) = some b
    by_cases hk : k = k1
    · subst hk
      rw [if_pos rfl]
      rcases hO with h | h
      · rw [h] at hb; cases hb
      · rw [← h]; exact hb
    · rw [if_neg hk]; exact hb

theorem Wd.row {A0 R : Nat → Prop} {w0 : Env} {E : Env} {mem mem' : List Row} (h : Wd A0 R w0 E mem) {w' : World} {k1 b1 : Nat} {c1 : Nat × Nat} {row1 : Row} (hg : E.w.grownBy w' (some b1)) (hb1 : b1 < w'.heap.size)
    (hR : R b1 ∨ w0.w.heap.size ≤ b1) (hA : E.A b1 ∨ E.w.heap.size ≤ b1) (hO : E.O k1 = none ∨ E.O k1 = some (b1, c1)) (hm1 : mem'[k1]? = some row1)
    (hm : ∀ k, k ≠ k1 → ∀ b c, E.O k = some (b, c) → (mem'[k]? = mem[k]? ∧ (liveAt mem k = true → b ≠ b1)) ∨ mem'[k]? = some .dead)
    (hrow : rowRel (E.row w' k1 b1 c1) b1 c1 row1) : Wd A0 R w0 (E.row w' k1 b1 c1) mem' := by
  have hle : E.le (E.row w' k1 b1 c1) := Env.row_le hg hA hO
  have other : ∀ k, k ≠ k1 → ∀ b c, E.O k = some (b, c) → liveAt mem' k = true → liveAt mem k = true ∧ b ≠ b1 := fun k hk b c hb hl => by
    rcases hm k hk b c hb with ⟨h1, h2⟩ | h1
    · have : liveAt mem k = true := by unfold liveAt at hl ⊢; rw [← h1]; exact hl
      exact ⟨this, h2 this⟩
    · unfold liveAt at hl; rw [h1] at hl; cases hl
  refine ⟨?_, ?_, fun b hb => Or.inl (h.old b hb), ?_, ?_, h.below.grown hg hR, h.le0.trans hle⟩
  · intro k b c hb
    by_cases hk : k = k1
    · subst hk
      have hb' : (b1, c1) = (b, c) := by simpa [Env.row] using hb
      cases hb'
      exact ⟨row1, hm1, hrow⟩
    · have hb' : E.O k = some (b, c) := by simpa [Env.row, hk] using hb
      rcases hm k hk b c hb' with ⟨h1, h2⟩ | h1
      · obtain ⟨row, hr, hrr⟩ := h.rows k b c hb'
        refine ⟨row, by rw [h1]; exact hr, rowRel_keep hle hrr fun hl => ?_⟩
        have hlv : liveAt mem k = true := by unfold liveAt; rw [hr]; exact hl
        show w'.heap[b]? = _
        exact hg.block b (h.small b (h.own k b c hb' hlv).1) (fun e => h2 hlv (by cases e; rfl))
      · exact ⟨.dead, h1, trivial⟩
  · intro b hb
    rcases hb with hb | rfl
    · exact Nat.lt_of_lt_of_le (h.small b hb) hg.size
    · exact hb1
  · intro k b c hb hl
    by_cases hk : k = k1
    · subst hk
      have hb' : (b1, c1) = (b, c) := by simpa [Env.row] using hb
      cases hb'
      exact ⟨Or.inr rfl, hR⟩
    · have hb' : E.O k = some (b, c) := by simpa [Env.row, hk] using hb
      obtain ⟨h1, h2⟩ := h.own k b c hb' (other k hk b c hb' hl).1
      exact ⟨Or.inl h1, h2⟩
  · intro k k' b c c' hb hb' hl hl'
    by_cases hk : k = k1
    · subst hk
      have e1 : (b1, c1) = (b, c) := by simpa [Env.row] using hb
      cases e1
      by_cases hk' : k' = k
      · exact hk'.symm
      · have e2 : E.O k' = some (b1, c') := by simpa [Env.row, hk'] using hb'
        exact absurd rfl (other k' hk' b1 c' e2 hl').2
    · have e1 : E.O k = some (b, c) := by simpa [Env.row, hk] using hb
      obtain ⟨g1, g2⟩ := other k hk b c e1 hl
      by_cases hk' : k' = k1
      · subst hk'
        have e2 : (b1, c1) = (b, c') := by simpa [Env.row] using hb'
        cases e2
        exact absurd rfl g2
      · have e2 : E.O k' = some (b, c') := by simpa [Env.row, hk'] using hb'
        exact h.one k k' b c c' e1 e2 g1 (other k' hk' b c' e2 hl').1
/-- What was drawn, or made behind it, changes nothing of ours. -/
theorem Wd.on {A0 R : Nat → Prop} {w0 : Env} {E : Env} {mem : List Row} (h : Wd A0 R w0 E mem) {w' : World} (hb : Below E.w.heap.size E.w w') : Wd A0 R w0 { E with w := w' } mem ∧ E.le { E with w := w' } := by
  have hle : E.le { E with w := w' } := ⟨fun b hn ob hob => ⟨hn, by rw [← hob]; exact hb.block b (Array.getElem?_eq_some_iff.1 hob).1⟩, fun k b hk => hk⟩
  refine ⟨⟨?_, fun b hA => Nat.lt_of_lt_of_le (h.small b hA) hb.size, h.old, h.own, h.one, h.below.on hb, h.le0.trans hle⟩, hle⟩
  intro k b c hk
  obtain ⟨row, hr, hrr⟩ := h.rows k b c hk
  refine ⟨row, hr, rowRel_keep hle hrr fun hl => ?_⟩
  have hlv : liveAt mem k = true := by unfold liveAt; rw [hr]; exact hl
  exact hb.block b (h.small b (h.own k b c hk hlv).1)
end
end Go.Gv

namespace Go.Gv
open Go.RowKit Go.Ev
noncomputable section

theorem append_run {P : Program} {w : World} (t ty e : TypeId) (i : TypeInfo) (z : Value) (ht : P.underlying t = some (.slice e)) (hi : P.info? e = some i) (hz : i.zero = some z) (hzs : z.cells.size = i.size)
    (v : Value) (n : Nat) (xs : List Value) (hown : w.ownsRow 0 e i.size v n xs) (a : Addr) (m c : Nat) (news : List Value) (hl : news.length = m * i.size) (hnews : ∀ j u, news[j]? = some u → w.cell? (a.add j) = some u)
    (h1 : ∀ u ∈ news, u.oneCell' = true) (hm : 0 < m) (h63 : n + m ≤ maxLen) (hbytes : (n + m) * i.bytes ≤ 140737488355328) :
    ∃ g cap cur w', (Builtin.append_ #[t, t] ty #[v, .slice (some a) m c]).run P w = .ok (.slice (some ⟨g, 0, none⟩) (n + m) cap) w' ∧ (v.ownBlock = some g ∨ g = w.heap.size) ∧ w'.heap[g]? = some (.cells cur e (0, 0)) ∧
      cur.size = cap * i.size ∧ n + m ≤ cap ∧ cap ≤ maxLen ∧ cur.toList.take ((n + m) * i.size) = xs ++ news ∧ w.grownBy w' (some g) := by
  have hsmall : n + m ≤ 9223372036854775807 := by simp only [maxLen] at h63; omega
  have hlen : (xs ++ news).length = (n + m) * i.size := by rw [List.length_append, hown.1, hl, Nat.add_mul]
  have grown : ∀ (old : Nat), old < n + m → ∃ cur w', w' = (w.drew.alloc (.cells (xs.toArray ++ news.toArray ++ Builtin.zeroCells z.cells (grownCap w (n + m) old e - (n + m))) e)) ∧ w'.heap[w.heap.size]? = some (.cells cur e (0, 0)) ∧
      cur.size = grownCap w (n + m) old e * i.size ∧ n + m ≤ grownCap w (n + m) old e ∧ grownCap w (n + m) old e ≤ maxLen ∧ cur.toList.take ((n + m) * i.size) = xs ++ news ∧ w.grownBy w' (some w.heap.size) := by
    intro old ho
    have hge := grownCap_ge w (n + m) old e
    have hcm : grownCap w (n + m) old e ≤ maxLen := grownCap_le_maxLen w (n + m) old e h63
    refine ⟨_, _, rfl, heap_alloc_new w.drew _, ?_, hge, hcm, ?_, ⟨rfl, rfl, rfl, by simp, fun k hk _ => heap_alloc_old w.drew _ hk⟩⟩
    · simp only [Array.size_append, List.size_toArray, size_zeroCells, hzs, hown.1, hl, ← Nat.add_mul]
      congr 1
      omega
    · simp only [Array.toList_append, List.append_assoc]
      rw [← List.append_assoc, ← hlen]
      exact List.take_left
  rcases hown.2 with ⟨rfl, rfl⟩ | ⟨g, cap, cur, rfl, _, hg, hnc, hcm, hcs, htake⟩
  · have hx : xs = [] := List.eq_nil_of_length_eq_zero (by simpa using hown.1)
    subst hx
    have hr := run_append_nil (P := P) w t ty e i z ht hi hz a m c news hl hnews hm (by omega) (by have hb := hbytes; simp only [Nat.zero_add] at hb; omega)
    obtain ⟨cur, w', e1, h2, h3, h4, h5, h6, h7⟩ := grown 0 (by omega)
    simp only [Nat.zero_add, List.nil_append, Array.empty_append] at e1 h2 h3 h4 h5 h6 h7 ⊢
    exact ⟨w.heap.size, _, cur, w', by rw [hr, e1], Or.inr rfl, h2, h3, h4, h5, h6, h7⟩
  · by_cases hroom : n + m ≤ cap
    · have hfit : n * i.size + news.length ≤ cur.size := by rw [hl, hcs, ← Nat.add_mul]; exact Nat.mul_le_mul_right _ hroom
      have hr := run_append_room (P := P) w t ty e i ht hi g n cap cur hg a m c news hl hnews h1 hroom hfit
      refine ⟨g, cap, _, _, hr, Or.inl rfl, setRow_heap w g cur _ e _ hg, ?_, hroom, hcm, ?_, ⟨rfl, rfl, rfl, by simp, fun k _ hk => setRow_other w g k _ (fun e => hk (by rw [e]))⟩⟩
      · simp only [List.size_toArray, List.length_append, List.length_take, List.length_drop, Array.length_toList]
        omega
      · rw [htake, ← hlen]
        exact List.take_left
    · have holds : ∀ j u, xs[j]? = some u → w.cell? ((⟨g, 0, none⟩ : Addr).add j) = some u := hown.cells (g := g) rfl
      have hr := run_append_grow (P := P) w t ty e i z ht hi hz ⟨g, 0, none⟩ n cap xs hown.1 holds a m c news hl hnews (by omega) (by omega) (growslice_fits (by omega) hbytes)
      obtain ⟨cur', w', e1, h2, h3, h4, h5, h6, h7⟩ := grown cap (by omega)
      exact ⟨w.heap.size, _, cur', w', by rw [hr, e1], Or.inr rfl, h2, h3, h4, h5, h6, h7⟩

theorem extract_all (s : ByteArray) : (s.extract 0 s.size).data.map (fun b => Value.int .u8 b.toNat) = s.data.map (fun b => Value.int .u8 b.toNat) := by
  have hs : s.size = s.data.size := rfl
  simp only [ByteArray.data_extract, hs, Array.extract_size]
theorem run_firstCells_str {P : Program} (w : World) (size : Nat) (s : ByteArray) : (Builtin.firstCells size s.size (.string s)).run P w = .ok (s.data.map (fun b => Value.int .u8 b.toNat)) w := by
  simp only [Builtin.firstCells, Sem.run_pure, extract_all]
theorem append_runT {P : Program} {w : World} (t t' ty e : TypeId) (i : TypeInfo) (z : Value) (ht : P.underlying t = some (.slice e)) (ht' : P.underlying t' = some .string) (hi : P.info? e = some i) (hz : i.zero = some z) (hzs : z.cells.size = i.size) (hi1 : i.size = 1)
    (v : Value) (n : Nat) (xs : List Value) (hown : w.ownsRow 0 e i.size v n xs) (b : ByteArray) (news : List Value) (hnews : news = b.data.toList.map (fun b => Value.int .u8 b.toNat))
    (hm : 0 < b.size) (h63 : n + b.size ≤ maxLen) (hbytes : (n + b.size) * i.bytes ≤ 140737488355328) :
    ∃ g cap cur w', (Builtin.append_ #[t, t'] ty #[v, .string b]).run P w = .ok (.slice (some ⟨g, 0, none⟩) (n + b.size) cap) w' ∧ (v.ownBlock = some g ∨ g = w.heap.size) ∧ w'.heap[g]? = some (.cells cur e (0, 0)) ∧
      cur.size = cap * i.size ∧ n + b.size ≤ cap ∧ cap ≤ maxLen ∧ cur.toList.take ((n + b.size) * i.size) = xs ++ news ∧ w.grownBy w' (some g) := by
  have hl : news.length = b.size * i.size := by rw [hnews, hi1, List.length_map, Nat.mul_one]; rfl
  have hna : b.data.map (fun b => Value.int .u8 b.toNat) = news.toArray := by rw [hnews]; apply Array.ext'; simp
  have hsmall : n + b.size ≤ 9223372036854775807 := by simp only [maxLen] at h63; omega
  have hlen : (xs ++ news).length = (n + b.size) * i.size := by rw [List.length_append, hown.1, hl, Nat.add_mul]
  have grown : ∀ (old : Nat), old < n + b.size → ∃ cur w', w' = (w.drew.alloc (.cells (xs.toArray ++ news.toArray ++ Builtin.zeroCells z.cells (grownCap w (n + b.size) old e - (n + b.size))) e)) ∧ w'.heap[w.heap.size]? = some (.cells cur e (0, 0)) ∧
      cur.size = grownCap w (n + b.size) old e * i.size ∧ n + b.size ≤ grownCap w (n + b.size) old e ∧ grownCap w (n + b.size) old e ≤ maxLen ∧ cur.toList.take ((n + b.size) * i.size) = xs ++ news ∧ w.grownBy w' (some w.heap.size) := by
    intro old ho
    have hge := grownCap_ge w (n + b.size) old e
    have hcm : grownCap w (n + b.size) old e ≤ maxLen := grownCap_le_maxLen w (n + b.size) old e h63
    refine ⟨_, _, rfl, heap_alloc_new w.drew _, ?_, hge, hcm, ?_, ⟨rfl, rfl, rfl, by simp, fun k hk _ => heap_alloc_old w.drew _ hk⟩⟩
    · simp only [Array.size_append, List.size_toArray, size_zeroCells, hzs, hown.1, hl, ← Nat.add_mul]
      congr 1
      omega
    · simp only [Array.toList_append, List.append_assoc]
      rw [← List.append_assoc, ← hlen]
      exact List.take_left
  have hf : ∀ w', (Builtin.firstCells i.size b.size (.string b)).run P w' = .ok news.toArray w' := fun w' => by rw [run_firstCells_str, hna]
  rcases hown.2 with ⟨rfl, rfl⟩ | ⟨g, cap, cur, rfl, _, hg, hnc, hcm, hcs, htake⟩
  · have hx : xs = [] := List.eq_nil_of_length_eq_zero (by simpa using hown.1)
    subst hx
    have hr := run_append_nil_string (P := P) w t t' ty e i z ht ht' hi hz b hm (by omega) (by have hb := hbytes; simp only [Nat.zero_add] at hb; omega)
    rw [hna] at hr
    obtain ⟨cur, w', e1, h2, h3, h4, h5, h6, h7⟩ := grown 0 (by omega)
    simp only [Nat.zero_add, List.nil_append, Array.empty_append] at e1 h2 h3 h4 h5 h6 h7 ⊢
    exact ⟨w.heap.size, _, cur, w', by rw [hr, e1], Or.inr rfl, h2, h3, h4, h5, h6, h7⟩
  · by_cases hroom : n + b.size ≤ cap
    · have hfit : n * i.size + news.length ≤ cur.size := by rw [hl, hcs, ← Nat.add_mul]; exact Nat.mul_le_mul_right _ hroom
      have h1 : ∀ u ∈ news, u.oneCell' = true := fun u hu => by
        rw [hnews] at hu
        obtain ⟨c, _, rfl⟩ := List.mem_map.1 hu
        rfl
      have hst := run_storeCells_at P g (n * i.size) e news 0 cur w hg (by simpa using hfit) h1
      simp only [Nat.add_zero] at hst
      have hr : (Builtin.append_ #[t, t'] ty #[.slice (some ⟨g, 0, none⟩) n cap, .string b]).run P w =
          .ok (.slice (some ⟨g, 0, none⟩) (n + b.size) cap) (w.setRow g (cur.toList.take (n * i.size) ++ news ++ cur.toList.drop (n * i.size + news.length)).toArray) := by
        simp [Builtin.append_, run_underlying ht, run_underlying ht', sizeOf, typeInfo, hi, Builtin.lenOf, hroom, hf, Addr.add_lit, hst]
      refine ⟨g, cap, _, _, hr, Or.inl rfl, setRow_heap w g cur _ e _ hg, ?_, hroom, hcm, ?_, ⟨rfl, rfl, rfl, by simp, fun k _ hk => setRow_other w g k _ (fun e => hk (by rw [e]))⟩⟩
      · simp only [List.size_toArray, List.length_append, List.length_take, List.length_drop, Array.length_toList]
        omega
      · rw [htake, ← hlen]
        exact List.take_left
    · have holds : ∀ j u, xs[j]? = some u → w.cell? ((⟨g, 0, none⟩ : Addr).add j) = some u := hown.cells (g := g) rfl
      have hr : (Builtin.append_ #[t, t'] ty #[.slice (some ⟨g, 0, none⟩) n cap, .string b]).run P w =
          .ok (.slice (some ⟨w.heap.size, 0, none⟩) (n + b.size) (grownCap w (n + b.size) cap e)) (w.drew.alloc (.cells (xs.toArray ++ news.toArray ++ Builtin.zeroCells z.cells (grownCap w (n + b.size) cap e - (n + b.size))) e)) := by
        have hn : ¬ (n + b.size ≤ cap) := by omega
        have h63' : ¬ (9223372036854775807 < ((n : Int) + (b.size : Int))) := by omega
        have h48' : ¬ (281474976710656 < Builtin.nextslicecap (n + b.size) cap * i.bytes) := by have := growslice_fits (show cap < n + b.size by omega) hbytes; omega
        have hfo := run_firstCells_some (P := P) w.drew i.size n ⟨g, 0, none⟩ n cap xs hown.1 (by simpa using holds)
        simp [Builtin.append_, run_underlying ht, run_underlying ht', sizeOf, typeInfo, zeroValue, hi, hz, Builtin.lenOf, hn, h63', h48', Question.forced, hf, hfo, newRow, grownCap]
        congr 2
        apply Array.ext'
        simp [List.append_assoc]
      obtain ⟨cur', w', e1, h2, h3, h4, h5, h6, h7⟩ := grown cap (by omega)
      exact ⟨w.heap.size, _, cur', w', by rw [hr, e1], Or.inr rfl, h2, h3, h4, h5, h6, h7⟩

def storeL (cells : List AV) (off : Nat) (xs : List AV) : List AV := cells.take off ++ (xs ++ cells.drop (off + xs.length))
/-- What is appended to: its row, how long it is, what it holds. -/
def aHead (mem : List Row) (e : TypeId) (size : Nat) : AV → Option (Bool × Option Nat × Nat × (Nat → List AV))
  | .x (.slice none 0 0) => some (true, none, 0, fun _ => [])
  | .osl k sz 0 len => match mem[k]? with
    | some (.a e' sz' n el) => cond ((e == e') && ((sz == size) && (sz' == size))) (some (cond (cutE e) (Nat.ble len n) (len == n), some k, len, el)) none
    | _ => none
  | _ => none
/-- The elements that are appended: how many, and what they hold. -/
def aTail (mem : List Row) (size : Nat) : AV → Option (Nat × Nat × List (List AV))
  | .osl k sz 0 m => match mem[k]? with
    | some (.a _ sz' _ el) => cond ((sz == size) && ((sz' == size) && Nat.blt 0 m)) (some (k, m, (List.range m).map el)) none
    | _ => none
  | _ => none
/-- Element q of those from n on. -/
def spread (n : Nat) : List (List AV) → Nat → List AV
  | [], _ => []
  | [x], _ => x
  | x :: y :: xs, q => mixL (Nat.blt q (n + 1)) x (spread (n + 1) (y :: xs) q)
theorem spread_ok {q : Nat} (Q : List AV → Prop) (hmix : ∀ b xs ys, (b = true → Q xs) → (b = false → Q ys) → Q (mixL b xs ys)) : ∀ (ns : List (List AV)) (n : Nat), n ≤ q → q < n + ns.length → (∀ p new, ns[p]? = some new → q = n + p → Q new) → Q (spread n ns q)
  | [], n, h1, h2, _ => by simp at h2; omega
  | [x], n, h1, h2, h => by
    simp at h2
    rw [spread]
    exact h 0 x rfl (by omega)
  | x :: y :: xs, n, h1, h2, h => by
    rw [spread]
    refine hmix _ _ _ (fun hb => ?_) (fun hb => ?_)
    · have : q < n + 1 := Nat.le_of_ble_eq_true hb
      exact h 0 x rfl (by omega)
    · have hge : n + 1 ≤ q := Nat.le_of_not_lt fun hc => by
        have : Nat.blt q (n + 1) = true := Nat.ble_eq_true_of_le hc
        rw [this] at hb; cases hb
      refine spread_ok Q hmix (y :: xs) (n + 1) hge (by simp at h2 ⊢; omega) fun p new hp hq => ?_
      exact h (p + 1) new (by simpa using hp) (by omega)
def aappend (P : Program) (s : St) (nk : Nat) (t : TypeId) (x y : AV) : Option (Bool × Eff) :=
  match P.underlying t with
  | some (.slice e) => match P.info? e with
    | some i => match i.zero with
      | some z => match aHead s.mem e i.size x, aTail s.mem i.size y with
        | some (b, k, n, el), some (j, m, ns) => cond ((z.cells.size == i.size) && (Nat.blt 0 i.bytes && ((ns.all fun new => new.all isCell) && ((ns.all noOwns) && !(k == some j)))))
            (some (b && Nat.ble ((n + m) * i.bytes) 140737488355328, ⟨.osl nk i.size 0 (n + m), k.toList ++ [j], k.map (fun k => (k, Row.dead)), some (.a e i.size (n + m) (fun q => mixL (Nat.blt q n) (el q) (spread n ns q)))⟩)) none
        | _, _ => none
      | none => none
    | none => none
  | _ => none
/-- The elements that are appended lie in a slice that is not ours. -/
def aappendS (P : Program) (s : St) (nk : Nat) (t : TypeId) (x : AV) (sz m : Nat) (el2 : Nat → List AV) : Option (Bool × Eff) :=
  match P.underlying t with
  | some (.slice e) => match P.info? e with
    | some i => match i.zero with
      | some z => match aHead s.mem e i.size x with
        | some (b, k, n, el) => cond ((z.cells.size == i.size) && (Nat.blt 0 i.bytes && (sz == i.size)))
            (some (b && (Nat.blt 0 m && (allB m (fun q => (el2 q).all isCell) && Nat.ble ((n + m) * i.bytes) 140737488355328)), ⟨.osl nk i.size 0 (n + m), k.toList, k.map (fun k => (k, Row.dead)), some (.a e i.size (n + m) (fun q => mixL (Nat.blt q n) (el q) (el2 (q - n))))⟩)) none
        | none => none
      | none => none
    | none => none
  | _ => none
/-- Nothing is appended. -/
def aappend0 (P : Program) (t : TypeId) (x : AV) : Option (Bool × Eff) :=
  match P.underlying t with
  | some (.slice e) => match P.info? e with
    | some _ => match x with
      | .osl k sz st len => some (true, ⟨.osl k sz st len, [], none, none⟩)
      | .x (.slice none 0 0) => some (true, ⟨.x (.slice none 0 0), [], none, none⟩)
      | _ => none
    | none => none
  | _ => none
/-- A row without room that is appended to. -/
def zHead (mem : List Row) (e : TypeId) (size : Nat) : AV → Option (Nat × Nat × (Nat → List AV))
  | .osl k sz 0 len => match mem[k]? with
    | some (.z true e' sz' n el) => cond ((e == e') && ((sz == size) && ((sz' == size) && ((len == n) && Nat.blt 0 n)))) (some (k, n, el)) none
    | _ => none
  | _ => none
def isZ (mem : List Row) : AV → Bool
  | .osl k _ _ _ => match mem[k]? with
    | some (.z _ _ _ _ _) => true
    | _ => false
  | _ => false
def aappendZ (P : Program) (s : St) (nk : Nat) (t : TypeId) (x y : AV) : Option (Bool × Eff) :=
  match P.underlying t with
  | some (.slice e) => match P.info? e with
    | some i => match i.zero with
      | some z => match zHead s.mem e i.size x, aTail s.mem i.size y with
        | some (k, n, el), some (j, m, ns) => cond ((z.cells.size == i.size) && (Nat.blt 0 i.bytes && ((ns.all fun new => new.all isCell) && ((ns.all noOwns) && !(k == j)))))
            (some (Nat.ble ((n + m) * i.bytes) 140737488355328, ⟨.osl nk i.size 0 (n + m), [k, j], none, some (.a e i.size (n + m) (fun q => mixL (Nat.blt q n) (el q) (spread n ns q)))⟩)) none
        | _, _ => none
      | none => none
    | none => none
  | _ => none
def aappendX (P : Program) (s : St) (nk : Nat) (t : TypeId) (x y : AV) : Option (Bool × Eff) :=
  match y with
  | .x (.slice _ 0 _) => aappend0 P t x
  | .sl sz m el2 => aappendS P s nk t x sz m el2
  | y => cond (isZ s.mem x) (aappendZ P s nk t x y) (aappend P s nk t x y)
/-- A string's byte. -/
def byAt (b : ByteArray) (p : Nat) : Int := ((b.data.toList.getD p 0).toNat : Nat)
/-- What is appended is a string. -/
def aappendT (P : Program) (s : St) (nk : Nat) (t t' : TypeId) (x y : AV) : Option (Bool × Eff) :=
  match y with
  | .x (.string b) => match P.underlying t' with
    | some .string => match P.underlying t with
      | some (.slice e) => match P.info? e with
        | some i => match i.zero with
          | some z => match aHead s.mem e i.size x with
            | some (bb, k, n, el) => cond ((z.cells.size == i.size) && (Nat.blt 0 i.bytes && (i.size == 1)))
                (some (bb && (Nat.blt 0 b.size && Nat.ble ((n + b.size) * i.bytes) 140737488355328), ⟨.osl nk i.size 0 (n + b.size), k.toList, k.map (fun k => (k, Row.dead)), some (.a e i.size (n + b.size) (fun q => mixL (Nat.blt q n) (el q) [.x (.int .u8 (byAt b (q - n)))]))⟩)) none
            | none => none
          | none => none
        | none => none
      | _ => none
    | _ => none
  | _ => none
def aappA (P : Program) (s : St) (nk : Nat) (t t' : TypeId) (x y : AV) : Option (Bool × Eff) := cond (t == t') (aappendX P s nk t x y) (aappendT P s nk t t' x y)
def astore (P : Program) (s : St) (t : TypeId) (p x : AV) : Option (Bool × Eff) :=
  match P.info? t with
  | some inf => cond (okPart x && (x.cells.length == inf.size)) (match p with
    | .own k off => match s.mem[k]? with
      | some (.c l) => cond (Nat.ble (off + inf.size) l.length) (some (true, ⟨.any, [k], some (k, .c (storeL l off x.cells)), none⟩)) none
      | some (.t e l) => cond (Nat.ble (off + inf.size) l.length) (some (true, ⟨.any, [k], some (k, .t e (storeL l off x.cells)), none⟩)) none
      | _ => none
    | .eown k sz q sub => match s.mem[k]? with
      | some (.a e sz' n el) => cond ((sz == sz') && (noOwns x.cells && Nat.ble (sub + inf.size) (el q).length)) (some (Nat.blt q n, ⟨.any, [k], some (k, .a e sz n (fun j => mixL (j == q) (storeL (el q) sub x.cells) (el j))), none⟩)) none
      | _ => none
    | _ => none) none
  | none => none
def chunk (cells : List AV) (size i : Nat) : List AV := (cells.drop (i * size)).take size
/-- A row that was built: one that may be written, or one of which it is known that it has no room. -/
def mkRow (z : Bool) (e : TypeId) (sz n : Nat) (el : Nat → List AV) : Row := cond z (.z true e sz n el) (.a e sz n el)
def abuildSl (P : Program) (nk : Nat) (t : TypeId) (len : Nat) (ps : List (Nat × AV)) (zz : Bool) : Option (Bool × Eff) :=
  match P.underlying t with
  | some (.slice elem) => match pureOf P (sizeOf elem), pureOf P (zeroValue elem) with
    | some size, some z => cond (Nat.blt 0 (len * size) && Nat.ble (len * size) 16777216)
        (match fillA (fun i => some (i * size, size)) (((Array.range (len * size)).map (z.cells[· % z.cells.size]!)).toList.map canA) ps with
        | some cells => cond (noOwns cells) (some (true, ⟨.osl nk size 0 len, [], none, some (mkRow zz elem size len (chunk cells size))⟩)) none
        | none => none) none
    | _, _ => none
  | _ => none
/-- A slice of no elements, that is no nil. -/
def abuild0 (P : Program) (nk : Nat) (t : TypeId) : Option (Bool × Eff) :=
  match P.underlying t with
  | some (.slice elem) => match pureOf P (sizeOf elem) with
    | some size => some (true, ⟨.osl nk size 0 0, [], none, some (.a elem size 0 (fun _ => []))⟩)
    | none => none
  | _ => none
def abuildX (P : Program) (nk : Nat) (t : TypeId) (len : Nat) (ps : List (Nat × AV)) (zz : Bool) : Option (Bool × Eff) :=
  match len, ps with
  | 0, [] => abuild0 P nk t
  | len, ps => abuildSl P nk t len ps zz
/-- A slice that is never written: it is told as frozen as soon as it is built. -/
def abuildF (P : Program) (t : TypeId) (len : Nat) (ps : List (Nat × AV)) : Option (Bool × Eff) :=
  match P.underlying t with
  | some (.slice elem) => match pureOf P (sizeOf elem), pureOf P (zeroValue elem) with
    | some size, some z => cond (Nat.blt 0 (len * size) && Nat.ble (len * size) 16777216)
        (match fillA (fun i => some (i * size, size)) (((Array.range (len * size)).map (z.cells[· % z.cells.size]!)).toList.map canA) ps with
        | some cells => cond (noOwns cells) (some (true, ⟨.sl size len (chunk cells size), [], none, none⟩)) none
        | none => none) none
    | _, _ => none
  | _ => none
/-- The mark of a type whose built slices are told as frozen: an entry that serves no call. -/
def bornK (t : Nat) : Nat := 1000000 + t
/-- The mark of a type whose variables are told with it. -/
def typeK (t : Nat) : Nat := 3000000 + t
/-- The mark of a type and a length whose built slices are told as rows without room. -/
def fullK (t len : Nat) : Nat := 2000000 + 1000 * t + len
def amake (P : Program) (nk : Nat) (t : TypeId) (l c : AV) : Option (Bool × Eff) :=
  match l, c, P.underlying t with
  | .x (.int _ l), .x (.int _ c), some (.slice e) => match P.info? e with
    | some i => match i.zero with
      | some z => cond (((z.cells.size == i.size) && Nat.blt 0 i.bytes) && noOwns (z.cells.toList.map canA))
          (some (decide (0 ≤ l) && (decide (l ≤ c) && decide ((i.bytes : Int) * c ≤ 281474976710656)), ⟨.osl nk i.size 0 l.toNat, [], none, some (.a e i.size l.toNat (fun _ => z.cells.toList.map canA))⟩)) none
      | none => none
    | none => none
  | _, _, _ => none
/-- The elements of an array, one by one. -/
def csrc (l : List AV) (off sz n : Nat) : List (List AV) := (List.range n).map fun i => (l.drop (off + i * sz)).take sz
def acopy (P : Program) (s : St) (t : TypeId) (x y : AV) : Option (Bool × Eff) :=
  match P.underlying t with
  | some (.slice e) => match P.info? e with
    | some i => match x, y with
      | .view k sz st sub n, .view j sz2 st2 sub2 n2 => match s.mem[k]?, s.mem[j]? with
        | some (.a e' sz3 m el), some (.c l) => cond ((sz == i.size) && ((sz2 == i.size) && ((sz3 == i.size) && ((sub == 0) && (Nat.blt 0 n2 && (Nat.ble (st2 * sz2 + sub2 + n2 * i.size) l.length && (noOwns l && (l.all isCell && !(k == j)))))))))
            (some (Nat.ble n2 n && Nat.ble (st + n2) m, ⟨.x (.int .i64 n2), [k, j], some (k, .a e' sz3 m (fun q => mixL (Nat.blt q st) (el q) (mixL (Nat.blt q (st + n2)) (spread st (csrc l (st2 * sz2 + sub2) i.size n2) q) (el q)))), none⟩)) none
        | _, _ => none
      | _, _ => none
    | none => none
  | _ => none
theorem noOwns_part {l : List AV} (h : noOwns l = true) {a n : Nat} : noOwns ((l.drop a).take n) = true := by
  have all : ∀ (l : List AV), noOwns l = true ↔ ∀ x, x ∈ l → noOwn x = true := fun l => by
    induction l with
    | nil => simp [noOwns]
    | cons x xs ih => rw [noOwns]; simp [ih]
  exact (all _).2 fun x hx => (all l).1 h x (List.mem_of_mem_drop (List.mem_of_mem_take hx))
/-- Bytes that are told as bytes once more: they are only read any more. -/
def amark (P : Program) (s : St) (src dst : TypeId) (x : AV) : Option (Bool × Eff) :=
  match P.underlying src with
  | some (.slice e) => match P.underlying e with
    | some (.int .u8) => cond (src == dst) (match x with
      | .osl k sz st n => match s.mem[k]? with
        | some (.a e2 sz2 m el) => some (Nat.blt 0 n, ⟨.osl k sz st n, [k], some (k, .z false e2 sz2 m el), none⟩)
        | some (.z x e2 sz2 m el) => some (Nat.blt 0 n, ⟨.osl k sz st n, [k], some (k, .z x e2 sz2 m el), none⟩)
        | _ => none
      | _ => none) none
    | _ => none
  | _ => none
def acallM (T : Tab) (s : St) (nk f : Nat) (args : List AV) : Option (Bool × Eff) :=
  match T.m f with
  | some g => match g args ((rowsL args).map fun k => s.mem[k]?) nk with
    | some (b, eff) => cond (eff.rd == rowsL args) (some (b, eff)) none
    | none => none
  | none => none
/-- An operation that makes or writes. -/
def acallR (g : RFun) (s : St) (args : List AV) : Option (Bool × Eff) :=
  match g args fun k => s.mem[k]? with
  | some (b, v, rd) => cond (noOwn v) (some (b, ⟨v, rd, none, none⟩)) none
  | none => none
/-- The rune at a place of a string, and its bytes: not worked out. -/
def dcX (s : ByteArray) (p : Nat) : Nat × Nat := Classical.choose (⟨_, rfl⟩ : ∃ q, q = Utf8.decode s p)
theorem dcX_eq (s : ByteArray) (p : Nat) : dcX s p = Utf8.decode s p := Classical.choose_spec (⟨_, rfl⟩ : ∃ q, q = Utf8.decode s p)
def arange (P : Program) (nk : Nat) (t : TypeId) (x : AV) : Option (Bool × Eff) := match P.underlying t with
  | some .string => match x with
    | .x (.string st) => some (true, ⟨.own nk 0, [], none, some (.i st 0 (Nat.ble st.size 0))⟩)
    | _ => none
  | _ => none
def anext (s : St) (it : AV) : Option (Bool × Eff) := match it with
  | .own k 0 => match s.mem[k]? with
    | some (.i st p false) => some (true, ⟨.tup [.x (.bool true), .x (.int .i64 (p : Nat)), .x (.int .i32 ((dcX st p).1 : Nat))], [k], some (k, .i st (p + (dcX st p).2) (Nat.ble st.size (p + (dcX st p).2))), none⟩)
    | some (.i _ _ true) => some (true, ⟨.tup [.x (.bool false)], [k], none, none⟩)
    | _ => none
  | _ => none
def awr (P : Program) (T : Tab) (s : St) (nk : Nat) (o : Oper) : Option (Bool × Eff) :=
  match o.op with
  | .box _ x => cond (okPart (aeval s x)) (some (true, ⟨.own nk 0, [], none, some (.c (aeval s x).cells)⟩)) none
  | .alloc t => match pureOf P (zeroValue t) with
    | some z => match T.m (typeK t) with
      | some _ => some (true, ⟨.own nk 0, [], none, some (.t t (z.cells.toList.map canA))⟩)
      | none => some (true, ⟨.own nk 0, [], none, some (.c (z.cells.toList.map canA))⟩)
    | none => none
  | .buildSlice t len ps => match T.m (bornK t) with
    | some _ => abuildF P t len (ps.toList.map fun p => (p.1, aeval s p.2))
    | none => abuildX P nk t len (ps.toList.map fun p => (p.1, aeval s p.2)) (T.m (fullK t len)).isSome
  | .makeSlice t l c => amake P nk t (aeval s l) (aeval s c)
  | .store t p x => cond o.dst.isNone (astore P s t (aeval s p) (aeval s x)) none
  | .convert src dst x => amark P s src dst (aeval s x)
  | .range t x => arange P nk t (aeval s x)
  | .next it b => cond b (anext s (aeval s it)) none
  | .call c => match c.callee with
    | .builtin .append => match c.args.toList.map (aeval s), c.argTypes.toList with
      | [x, y], [t, t'] => aappA P s nk t t' x y
      | _, _ => none
    | .builtin .copy => match c.args.toList.map (aeval s), c.argTypes.toList with
      | [x, y], [t, t'] => cond (t == t') (acopy P s t x y) none
      | _, _ => none
    | .value (.func f) => match T.r f with
      | some g => acallR g s (c.args.toList.map (aeval s))
      | none => acallM T s nk f (c.args.toList.map (aeval s))
    | _ => none
  | _ => none
/-- Rows behind it. -/
def AppOk (E : Env) (mem mem' : List Row) (nk : Nat) (eff : Eff) : Prop :=
  (∀ k, k ≠ nk → ∀ b c, E.O k = some (b, c) → mem'[k]? = (match eff.wr with
    | some (k', row) => if k = k' then some row else mem[k]?
    | none => mem[k]?)) ∧ ∀ row, eff.nw = some row → mem'[nk]? = some row

/-- What a call that is handed rows of ours does. -/
def MSpec (P : Program) (f : Nat) (args : List AV) (mem : List Row) (nk : Nat) (eff : Eff) : Prop :=
  Entered P f ∧ ∀ (A0 R : Nat → Prop) (w0 E : Env) (mem' : List Row) (cargs : Array Value), Wd A0 R w0 E mem → E.O nk = none → glob E → rels E args cargs.toList → AppOk E mem mem' nk eff →
    Calls P f cargs E.w fun e w' => ∃ u E', e = .returned u ∧ E'.w = w' ∧ E.le E' ∧ (∀ k p, E'.O k = some p → E.O k = some p ∨ k = nk) ∧ Wd A0 R w0 E' mem' ∧ rel E' eff.v u
def MOk (P : Program) (f : Nat) (g : MFun) : Prop := (∀ args mem nk eff, g args ((rowsL args).map fun k => mem[k]?) nk = some (true, eff) → eff.rd = rowsL args → MSpec P f args mem nk eff) ∧
  ∀ args rows nk nk' b eff, g args rows nk = some (b, eff) → eff.nw = none → g args rows nk' = some (b, eff)
/-- Rows behind a call that makes several. -/
def NApp (E : Env) (mem mem' : List Row) (nk : Nat) (rows : List Row) : Prop := (∀ k, (k < nk ∨ nk + rows.length ≤ k) → ∀ b c, E.O k = some (b, c) → mem'[k]? = mem[k]?) ∧ ∀ (i : Nat) (row : Row), rows[i]? = some row → mem'[nk + i]? = some row
/-- A call that hands back new rows, numbered from so many on. -/
def NSpec (P : Program) (f : Nat) (args : List AV) (nk : Nat) (v : AV) (mem1 : List Row) : Prop :=
  Entered P f ∧ ∀ (A0 R : Nat → Prop) (w0 E : Env) (mem mem' : List Row) (cargs : Array Value), Wd A0 R w0 E mem → (∀ i, i < mem1.length → E.O (nk + i) = none) → glob E → rels E args cargs.toList → NApp E mem mem' nk mem1 →
    Calls P f cargs E.w fun e w' => ∃ u E', e = .returned u ∧ E'.w = w' ∧ E.le E' ∧ (∀ k p, E'.O k = some p → E.O k = some p ∨ (nk ≤ k ∧ k < nk + mem1.length)) ∧ Wd A0 R w0 E' mem' ∧ rel E' v u
def NOk (P : Program) (f : Nat) (g : NFun) : Prop := ∀ args nk v mem1, g args nk = some (true, v, mem1) → NSpec P f args nk v mem1
/-- A call that is handed all of our rows. -/
def WSpec (P : Program) (f : Nat) (args : List AV) (mem : List Row) (v : AV) (mem1 : List Row) : Prop :=
  Entered P f ∧ ∀ (A0 R : Nat → Prop) (w0 E : Env) (cargs : Array Value), Wd A0 R w0 E mem → glob E → rels E args cargs.toList →
    Calls P f cargs E.w fun e w' => ∃ u E', e = .returned u ∧ E'.w = w' ∧ E.le E' ∧ Wd A0 R w0 E' mem1 ∧ rel E' v u
def WOk (P : Program) (f : Nat) (g : WFun) : Prop := ∀ args mem v mem1, g args mem = some (true, v, mem1) → WSpec P f args mem v mem1
/-- A call that looks at rows of ours. -/
def RSpec (P : Program) (f : Nat) (args : List AV) (look : Nat → Option Row) (v : AV) (rd : List Nat) : Prop :=
  Entered P f ∧ ∀ (A0 R : Nat → Prop) (w0 E : Env) (mem : List Row) (cargs : Array Value), Wd A0 R w0 E mem → (∀ k, k ∈ rd → mem[k]? = look k) → glob E → rels E args cargs.toList →
    Calls P f cargs E.w fun e w' => ∃ u, e = .returned u ∧ rel { E with w := w' } v u ∧ Below E.w.heap.size E.w w'
def ROk (P : Program) (f : Nat) (g : RFun) : Prop := (∀ args look look' b v rd, g args look = some (b, v, rd) → (∀ k, k ∈ rd → look k = look' k) → g args look' = some (b, v, rd)) ∧ ∀ args look v rd, g args look = some (true, v, rd) → RSpec P f args look v rd
def TOk (P : Program) (T : Tab) : Prop := TOk0 P T ∧ (∀ f g, T.m f = some g → MOk P f g) ∧ (∀ f g, T.n f = some g → NOk P f g) ∧ (∀ f g, T.w f = some g → WOk P f g) ∧ ∀ f g, T.r f = some g → ROk P f g

section
variable {P : Program} {A0 R : Nat → Prop} {w0 : Env} {E : Env} {mem mem' : List Row} {nk : Nat}
/-- A block that is made. -/
theorem Wd.made (h : Wd A0 R w0 E mem) (hnk : E.O nk = none) {v : AV} {rd : List Nat} {row : Row} (happ : AppOk E mem mem' nk ⟨v, rd, none, some row⟩) (cs : Array Value) (e : TypeId) (c1 : Nat × Nat)
    (hrow : rowRel (E.row (E.w.alloc (.cells cs e)) nk E.w.heap.size c1) E.w.heap.size c1 row) :
    E.le (E.row (E.w.alloc (.cells cs e)) nk E.w.heap.size c1) ∧ Wd A0 R w0 (E.row (E.w.alloc (.cells cs e)) nk E.w.heap.size c1) mem' := by
  have hg : E.w.grownBy (E.w.alloc (.cells cs e)) (some E.w.heap.size) := World.grownBy_alloc _ _ _
  refine ⟨Env.row_le hg (Or.inr (Nat.le_refl _)) (Or.inl hnk), ?_⟩
  refine h.row hg (by simp) (Or.inr h.below.size) (Or.inr (Nat.le_refl _)) (Or.inl hnk) (happ.2 row rfl) ?_ hrow
  intro k hk b c hb
  refine Or.inl ⟨happ.1 k hk b c hb, fun hl => ?_⟩
  have := h.small b (h.own k b c hb hl).1
  omega
/-- A block of ours that is written. -/
theorem Wd.written (h : Wd A0 R w0 E mem) (hnk : E.O nk = none) {v : AV} {rd : List Nat} {k b : Nat} {c : Nat × Nat} {row row' : Row} (happ : AppOk E mem mem' nk ⟨v, rd, some (k, row'), none⟩) (hk : E.O k = some (b, c)) (hr : mem[k]? = some row) (hlv : row.live = true)
    (cs : Array Value) (hrow : rowRel (E.row (E.w.setRow b cs) k b c) b c row') :
    E.le (E.row (E.w.setRow b cs) k b c) ∧ Wd A0 R w0 (E.row (E.w.setRow b cs) k b c) mem' := by
  have hg : E.w.grownBy (E.w.setRow b cs) (some b) := ⟨rfl, rfl, rfl, by simp [World.setRow], fun j _ hj => setRow_other _ _ _ _ (fun e => hj (by rw [e]))⟩
  have hl : liveAt mem k = true := by unfold liveAt; rw [hr]; exact hlv
  obtain ⟨hA, hR⟩ := h.own k b c hk hl
  have hne : k ≠ nk := fun e => by rw [e, hnk] at hk; cases hk
  refine ⟨Env.row_le hg (Or.inl hA) (Or.inr hk), ?_⟩
  refine h.row hg (by simpa [World.setRow] using h.small b hA) hR (Or.inl hA) (Or.inr hk) (by rw [happ.1 k hne b c hk]; simp) ?_ hrow
  intro j hj b' c' hb'
  have hjn : j ≠ nk := fun e => by rw [e, hnk] at hb'; cases hb'
  refine Or.inl ⟨by rw [happ.1 j hjn b' c' hb']; simp [hj], fun hlj e => hj ?_⟩
  subst e
  exact h.one j k b' c' c hb' hk hlj hl
end
end
end Go.Gv

namespace Go.Gv
open Go.RowKit Go.Ev
noncomputable section

theorem pre_congr {E : Env} : ∀ {xs : List AV} {us us' : List Value}, pre E xs us → (∀ i, i < xs.length → us'[i]? = us[i]?) → pre E xs us'
  | [], _, _, _, _ => pre_nil
  | x :: xs, us, us', h, hc => by
    obtain ⟨u, us1, rfl, h1, h2⟩ := pre_cons.1 h
    have h0 := hc 0 (by simp)
    cases us' with
    | nil => simp at h0
    | cons u' us2 =>
      simp at h0
      subst h0
      exact pre_cons.2 ⟨u', us2, rfl, h1, pre_congr h2 fun i hi => by have := hc (i + 1) (by simpa using hi); simpa using this⟩
theorem splice_get (l us : List Value) (o : Nat) (h : o + us.length ≤ l.length) (i : Nat) : (l.take o ++ us ++ l.drop (o + us.length))[i]? = if i < o then l[i]? else if i < o + us.length then us[i - o]? else l[i]? := by
  have h1 : (l.take o).length = o := by simp; omega
  have h2 : (l.take o ++ us).length = o + us.length := by simp; omega
  by_cases hi : i < o
  · rw [if_pos hi, List.getElem?_append_left (by omega), List.getElem?_append_left (by omega), List.getElem?_take, if_pos hi]
  · rw [if_neg hi]
    by_cases hi2 : i < o + us.length
    · rw [if_pos hi2, List.getElem?_append_left (by omega), List.getElem?_append_right (by omega), h1]
    · rw [if_neg hi2, List.getElem?_append_right (by omega), h2, List.getElem?_drop]
      congr 1
      omega
theorem splice_drop (l us : List Value) (a o : Nat) (h : a + o + us.length ≤ l.length) : (l.take (a + o) ++ us ++ l.drop (a + o + us.length)).drop a = (l.drop a).take o ++ us ++ (l.drop a).drop (o + us.length) := by
  apply List.ext_getElem?
  intro i
  rw [List.getElem?_drop, splice_get l us (a + o) h, splice_get (l.drop a) us o (by simp; omega)]
  simp only [List.getElem?_drop]
  by_cases h1 : i < o
  · rw [if_pos h1, if_pos (by omega)]
  · rw [if_neg h1, if_neg (by omega)]
    by_cases h2 : i < o + us.length
    · rw [if_pos h2, if_pos (by omega)]; congr 1; omega
    · rw [if_neg h2, if_neg (by omega)]
theorem rels_fz {E : Env} {xs : List AV} {us : List Value} (h : rels E xs us) (hn : noOwns xs = true) : rels E.fz xs us := rels_noOwn h hn (fun _ h1 _ h2 => ⟨h1, h2⟩)

section
variable {P : Program} {A0 R : Nat → Prop} {w0 : Env} {E : Env} {s : St} {mem' : List Row} {nk : Nat} {a : Act} {o : Oper} {K : Act → World → Prop} {Q : Exit → Act → World → Prop}

theorem Env.row_O {E : Env} {w' : World} {k1 b1 : Nat} {c1 : Nat × Nat} : ∀ k p, (E.row w' k1 b1 c1).O k = some p → E.O k = some p ∨ k = k1 := fun k p h => by
  by_cases hk : k = k1
  · exact Or.inr hk
  · exact Or.inl (by simpa [Env.row, hk] using h)
theorem Env.row_same {E : Env} {w' : World} {k1 b1 nk : Nat} {c1 : Nat × Nat} (hb : E.O k1 = some (b1, c1)) : ∀ k p, (E.row w' k1 b1 c1).O k = some p → E.O k = some p ∨ k = nk := fun k p h => by
  by_cases hk : k = k1
  · subst hk
    exact Or.inl (by rw [hb]; simpa [Env.row] using h)
  · exact Or.inl (by simpa [Env.row, hk] using h)
theorem made_c (hW : Wd A0 R w0 E s.mem) (hnk : E.O nk = none) {rd : List Nat} {cells : List AV} (happ : AppOk E s.mem mem' nk ⟨.own nk 0, rd, none, some (.c cells)⟩) {cs : Array Value} (e : TypeId) (hr : rels E cells cs.toList) :
    ∃ E', E'.w = E.w.alloc (.cells cs e) ∧ E.le E' ∧ (∀ k p, E'.O k = some p → E.O k = some p ∨ k = nk) ∧ Wd A0 R w0 E' mem' ∧ rel E' (.own nk 0) (.pointer (some ⟨E.w.heap.size, 0, none⟩)) := by
  have hg : E.w.grownBy (E.w.alloc (.cells cs e)) (some E.w.heap.size) := World.grownBy_alloc _ _ _
  have hle : E.le (E.row (E.w.alloc (.cells cs e)) nk E.w.heap.size (0, 0)) := Env.row_le hg (Or.inr (Nat.le_refl _)) (Or.inl hnk)
  obtain ⟨h1, h2⟩ := hW.made hnk happ cs e (0, 0) ⟨cs, e, heap_alloc_new _ _, pre_of_rels (rels_le hle hr)⟩
  exact ⟨_, rfl, h1, Env.row_O, h2, rel_own.2 ⟨E.w.heap.size, (0, 0), by simp [Env.row], rfl⟩⟩

theorem made_t (hW : Wd A0 R w0 E s.mem) (hnk : E.O nk = none) {rd : List Nat} {cells : List AV} (e : TypeId) (happ : AppOk E s.mem mem' nk ⟨.own nk 0, rd, none, some (.t e cells)⟩) {cs : Array Value} (hr : rels E cells cs.toList) :
    ∃ E', E'.w = E.w.alloc (.cells cs e) ∧ E.le E' ∧ (∀ k p, E'.O k = some p → E.O k = some p ∨ k = nk) ∧ Wd A0 R w0 E' mem' ∧ rel E' (.own nk 0) (.pointer (some ⟨E.w.heap.size, 0, none⟩)) := by
  have hg : E.w.grownBy (E.w.alloc (.cells cs e)) (some E.w.heap.size) := World.grownBy_alloc _ _ _
  have hle : E.le (E.row (E.w.alloc (.cells cs e)) nk E.w.heap.size (0, 0)) := Env.row_le hg (Or.inr (Nat.le_refl _)) (Or.inl hnk)
  have hl := rels_length hr
  obtain ⟨h1, h2⟩ := hW.made hnk happ cs e (0, 0) ⟨cs, heap_alloc_new _ _, pre_of_rels (rels_le hle hr), by simp at hl; omega⟩
  exact ⟨_, rfl, h1, Env.row_O, h2, rel_own.2 ⟨E.w.heap.size, (0, 0), by simp [Env.row], rfl⟩⟩

theorem astore_wp {t : TypeId} {p x : Operand} {eff : Eff} (hW : Wd A0 R w0 E s.mem) (hnk : E.O nk = none) (hop : o.op = .store t p x) (hd : o.dst = none) (hp : rel E (aeval s p) (a.eval p)) (hx : rel E (aeval s x) (a.eval x))
    (h : astore P s t (aeval s p) (aeval s x) = some (true, eff)) (happ : AppOk E s.mem mem' nk eff) (hK : ∀ E' u, E.le E' → (∀ k p, E'.O k = some p → E.O k = some p ∨ k = nk) → Wd A0 R w0 E' mem' → rel E' eff.v u → K (a.put o.dst u) E'.w) : o.wp P a E.w K Q := by
  unfold astore at h
  split at h
  · rename_i inf hinf
    cases hk : (okPart (aeval s x) && ((aeval s x).cells.length == inf.size))
    · rw [hk] at h; cases h
    · rw [hk] at h
      simp only [cond_true] at h
      simp only [Bool.and_eq_true, beq_iff_eq] at hk
      obtain ⟨hpx, hsz⟩ := hk
      have hc := cells_rel hx hpx
      have hlc := rels_length hc
      have hone := cells_one hc (okPart_cells hpx)
      have run : ∀ (b off : Nat) (cs : Array Value) (e : TypeId), a.eval p = .pointer (some ⟨b, off, none⟩) → E.w.heap[b]? = some (.cells cs e (0, 0)) → off + inf.size ≤ cs.size →
          (∃ E' u, E'.w = E.w.setRow b (cs.toList.take off ++ (a.eval x).cells.toList ++ cs.toList.drop (off + (a.eval x).cells.toList.length)).toArray ∧ E.le E' ∧ (∀ k p, E'.O k = some p → E.O k = some p ∨ k = nk) ∧ Wd A0 R w0 E' mem' ∧ rel E' eff.v u) → o.wp P a E.w K Q := by
        intro b off cs e hpe hcs hle ⟨E', u, hw, h1, hO, h2, h3⟩
        have hsz' : (a.eval x).cells.size = inf.size := by simp at hlc; omega
        have hst := run_storeCells_at (P := P) b off e (a.eval x).cells.toList 0 cs E.w hcs (by simp; omega) hone
        have hrun : (Instr.storeAt t (.pointer (some ⟨b, off, none⟩)) (a.eval x)).run P E.w = .ok () (E.w.setRow b (cs.toList.take off ++ (a.eval x).cells.toList ++ cs.toList.drop (off + (a.eval x).cells.toList.length)).toArray) := by
          simp only [Nat.add_zero] at hst
          simp [Instr.storeAt, Instr.sureAddr, storeVar, sizeOf, typeInfo, hinf, hsz'] at hst ⊢
          exact hst
        unfold Oper.wp execOp
        simp only [hop, hpe, Sem.run_bind, hrun, Result.andThen_ok, Sem.run_pure, Oper.upon_skip, hd, Act.put]
        have := hK E' u h1 hO h2 h3
        rw [hw, hd] at this
        exact this
      split at h
      · rename_i k off hpt
        rw [hpt] at hp
        obtain ⟨b, c, hb, hpe⟩ := rel_own.1 hp
        split at h
        · rename_i l hmk
          cases hl : Nat.ble (off + inf.size) l.length
          · rw [hl] at h; cases h
          · rw [hl] at h
            simp only [cond_true, Option.some.injEq, Prod.mk.injEq, true_and] at h
            subst h
            have hl' := Nat.le_of_ble_eq_true hl
            obtain ⟨row, hr, hrr⟩ := hW.rows k b c hb
            rw [hmk] at hr
            cases hr
            obtain ⟨cs, e, hcs, hpre⟩ := hrr
            have hpl := pre_length hpre
            refine run b off cs e hpe hcs (by simp at hpl; omega) ?_
            have hle : E.le (E.row (E.w.setRow b (cs.toList.take off ++ (a.eval x).cells.toList ++ cs.toList.drop (off + (a.eval x).cells.toList.length)).toArray) k b c) := Env.row_le ⟨rfl, rfl, rfl, by simp [World.setRow], fun j _ hj => setRow_other _ _ _ _ (fun e => hj (by rw [e]))⟩
              (Or.inl (hW.own k b c hb (by unfold liveAt; rw [hmk]; rfl)).1) (Or.inr hb)
            obtain ⟨h1, h2⟩ := hW.written hnk happ hb hmk rfl (cs.toList.take off ++ (a.eval x).cells.toList ++ cs.toList.drop (off + (a.eval x).cells.toList.length)).toArray ⟨_, e, setRow_heap E.w b cs _ e (0, 0) hcs, by
              have := pre_store off (pre_le hle hpre) (rels_le hle hc) (by omega)
              simpa [storeL] using this⟩
            exact ⟨_, undef, rfl, h1, Env.row_same hb, h2, rel_any⟩
        · rename_i e l hmk
          cases hl : Nat.ble (off + inf.size) l.length
          · rw [hl] at h; cases h
          · rw [hl] at h
            simp only [cond_true, Option.some.injEq, Prod.mk.injEq, true_and] at h
            subst h
            have hl' := Nat.le_of_ble_eq_true hl
            obtain ⟨row, hr, hrr⟩ := hW.rows k b c hb
            rw [hmk] at hr
            cases hr
            obtain ⟨cs, hcs, hpre, hszt⟩ := hrr
            have hpl := pre_length hpre
            refine run b off cs e hpe hcs (by simp at hpl; omega) ?_
            have hle : E.le (E.row (E.w.setRow b (cs.toList.take off ++ (a.eval x).cells.toList ++ cs.toList.drop (off + (a.eval x).cells.toList.length)).toArray) k b c) := Env.row_le ⟨rfl, rfl, rfl, by simp [World.setRow], fun j _ hj => setRow_other _ _ _ _ (fun e => hj (by rw [e]))⟩
              (Or.inl (hW.own k b c hb (by unfold liveAt; rw [hmk]; rfl)).1) (Or.inr hb)
            obtain ⟨h1, h2⟩ := hW.written hnk happ hb hmk rfl (cs.toList.take off ++ (a.eval x).cells.toList ++ cs.toList.drop (off + (a.eval x).cells.toList.length)).toArray ⟨_, setRow_heap E.w b cs _ e (0, 0) hcs, by
              have := pre_store off (pre_le hle hpre) (rels_le hle hc) (by omega)
              simpa [storeL] using this, by
              have hcl := rels_length hc
              simp only [Array.length_toList] at hcl
              simp only [List.size_toArray, List.length_append, List.length_take, List.length_drop, Array.length_toList, storeL]
              omega⟩
            exact ⟨_, undef, rfl, h1, Env.row_same hb, h2, rel_any⟩
        · cases h
      · rename_i k sz q sub hpt
        rw [hpt] at hp
        obtain ⟨b, c, hb, hpe⟩ := rel_eown.1 hp
        split at h
        · rename_i e0 sz' n el hmk
          cases hl : ((sz == sz') && (noOwns (aeval s x).cells && Nat.ble (sub + inf.size) (el q).length))
          · rw [hl] at h; cases h
          · rw [hl] at h
            simp only [cond_true, Option.some.injEq, Prod.mk.injEq] at h
            obtain ⟨hq, h⟩ := h
            subst h
            simp only [Bool.and_eq_true, beq_iff_eq] at hl
            obtain ⟨e1, hno, hl⟩ := hl
            subst e1
            have hl' := Nat.le_of_ble_eq_true hl
            have hqn : q < n := Nat.le_of_ble_eq_true hq
            obtain ⟨row, hr, hrr⟩ := hW.rows k b c hb
            rw [hmk] at hr
            cases hr
            obtain ⟨cs, hcs, hsize, hn, hnc, hcm, hel⟩ := hrr
            obtain ⟨hlq, hpq⟩ := hel q hqn
            have hbig : q * sz + sz ≤ cs.size := by
              rw [hsize]
              have : (q + 1) * sz ≤ c.1 * sz := Nat.mul_le_mul_right _ (by omega)
              rw [Nat.add_mul] at this
              omega
            refine run b (q * sz + sub) cs e0 hpe hcs (by omega) ?_
            have hle : E.le (E.row (E.w.setRow b (cs.toList.take (q * sz + sub) ++ (a.eval x).cells.toList ++ cs.toList.drop (q * sz + sub + (a.eval x).cells.toList.length)).toArray) k b c) := Env.row_le ⟨rfl, rfl, rfl, by simp [World.setRow], fun j _ hj => setRow_other _ _ _ _ (fun e => hj (by rw [e]))⟩
              (Or.inl (hW.own k b c hb (by unfold liveAt; rw [hmk]; rfl)).1) (Or.inr hb)
            have hlen : (a.eval x).cells.toList.length = inf.size := by omega
            have hlen2 : q * sz + sub + (a.eval x).cells.toList.length ≤ cs.toList.length := by rw [hlen]; simp; omega
            obtain ⟨h1, h2⟩ := hW.written hnk happ hb hmk rfl (cs.toList.take (q * sz + sub) ++ (a.eval x).cells.toList ++ cs.toList.drop (q * sz + sub + (a.eval x).cells.toList.length)).toArray ⟨_, setRow_heap E.w b cs _ e0 (0, 0) hcs, by
                rw [← hsize]; simp only [List.size_toArray, List.length_append, List.length_take, List.length_drop]; simp at hlen2 ⊢; omega, hn, hnc, hcm, by
              intro j hj
              obtain ⟨hlj, hpj⟩ := hel j hj
              refine ⟨mixL_len (fun _ => by simp only [storeL, List.length_append, List.length_take, List.length_drop]; omega) (fun _ => hlj), mixL_pre (fun hjq => ?_) (fun hjq => ?_)⟩
              · have e2 := eq_of_beq hjq
                subst e2
                have := pre_store sub (pre_le hle.fz hpq) (rels_fz (rels_le hle hc) hno) (by omega)
                rw [splice_drop cs.toList _ (j * sz) sub hlen2]
                simpa [storeL] using this
              · refine pre_congr (pre_le hle.fz hpj) fun i hi => ?_
                rw [List.getElem?_drop, List.getElem?_drop, splice_get _ _ _ hlen2]
                have hne : j ≠ q := fun e => by simp [e] at hjq
                rw [hlj] at hi
                rcases Nat.lt_or_gt_of_ne hne with hlt | hgt
                · have : (j + 1) * sz ≤ q * sz := Nat.mul_le_mul_right _ hlt
                  rw [Nat.add_mul] at this
                  rw [if_pos (by omega)]
                · have : (q + 1) * sz ≤ j * sz := Nat.mul_le_mul_right _ hgt
                  rw [Nat.add_mul] at this
                  rw [if_neg (by omega), if_neg (by omega)]⟩
            exact ⟨_, undef, rfl, h1, Env.row_same hb, h2, rel_any⟩
        · cases h
      · cases h
  · cases h
end
end
end Go.Gv

namespace Go.Gv
open Go.RowKit Go.Ev
noncomputable section

theorem fold_set_len (off : Nat) : ∀ (l : List (AV × Nat)) (xs : List AV), (l.foldl (fun cs (p : AV × Nat) => cs.set (off + p.2) p.1) xs).length = xs.length
  | [], _ => rfl
  | p :: l, xs => by rw [List.foldl_cons, fold_set_len off l]; simp
theorem fillA_len {place : Nat → Option (Nat × Nat)} : ∀ {ps : List (Nat × AV)} {xs rs : List AV}, fillA place xs ps = some rs → rs.length = xs.length
  | [], xs, rs, h => by simp only [fillA, Option.some.injEq] at h; rw [h]
  | (i, x) :: ps, xs, rs, h => by
    unfold fillA at h
    split at h
    · rename_i off size hp
      cases hk : (okPart x && ((x.cells.length == size) && Nat.ble (off + size) xs.length))
      · rw [hk] at h; cases h
      · rw [hk] at h
        simp only [cond_true] at h
        rw [fillA_len h, fold_set_len]
    · cases h
theorem made_get (z : Array Value) (n q j : Nat) (hj : j < z.size) (hq : q * z.size + z.size ≤ n) : ((madeCells z n).toList.drop (q * z.size))[j]? = z.toList[j]? := by
  rw [List.getElem?_drop]
  have h1 : q * z.size + j < (madeCells z n).size := by rw [size_madeCells]; omega
  have hm : (q * z.size + j) % z.size = j := by rw [Nat.mul_comm, Nat.mul_add_mod]; exact Nat.mod_eq_of_lt hj
  rw [Array.getElem?_toList, Array.getElem?_toList, Array.getElem?_eq_getElem h1, Array.getElem?_eq_getElem hj]
  simp [madeCells, hm, hj]

section
variable {P : Program} {A0 R : Nat → Prop} {w0 : Env} {E : Env} {s : St} {mem' : List Row} {nk : Nat} {a : Act} {o : Oper} {K : Act → World → Prop} {Q : Exit → Act → World → Prop}

theorem made_a (hW : Wd A0 R w0 E s.mem) (hnk : E.O nk = none) {e : TypeId} {size n cap : Nat} {el : Nat → List AV} (happ : AppOk E s.mem mem' nk ⟨.osl nk size 0 n, [], none, some (.a e size n el)⟩) {cs : Array Value}
    (hs : cs.size = cap * size) (hn : n ≤ cap) (hc : cap ≤ maxLen) (hr : ∀ E', E.le E' → ∀ i, i < n → (el i).length = size ∧ pre E'.fz (el i) (cs.toList.drop (i * size))) :
    ∃ E', E'.w = E.w.alloc (.cells cs e) ∧ E.le E' ∧ (∀ k p, E'.O k = some p → E.O k = some p ∨ k = nk) ∧ Wd A0 R w0 E' mem' ∧ rel E' (.osl nk size 0 n) (.slice (some ⟨E.w.heap.size, 0, none⟩) n cap) := by
  have hg : E.w.grownBy (E.w.alloc (.cells cs e)) (some E.w.heap.size) := World.grownBy_alloc _ _ _
  have hle : E.le (E.row (E.w.alloc (.cells cs e)) nk E.w.heap.size (cap, n)) := Env.row_le hg (Or.inr (Nat.le_refl _)) (Or.inl hnk)
  obtain ⟨h1, h2⟩ := hW.made hnk happ cs e (cap, n) ⟨cs, heap_alloc_new _ _, hs, rfl, hn, hc, hr _ hle⟩
  exact ⟨_, rfl, h1, Env.row_O, h2, rel_osl.2 (Or.inr ⟨E.w.heap.size, cap, n, by simp [Env.row], by omega, hn, by simp⟩)⟩

theorem made_m (zz : Bool) (hW : Wd A0 R w0 E s.mem) (hnk : E.O nk = none) {e : TypeId} {size n : Nat} {el : Nat → List AV} (happ : AppOk E s.mem mem' nk ⟨.osl nk size 0 n, [], none, some (mkRow zz e size n el)⟩) {cs : Array Value}
    (hs : cs.size = n * size) (hc : n ≤ maxLen) (hr : ∀ E', E.le E' → ∀ i, i < n → (el i).length = size ∧ pre E'.fz (el i) (cs.toList.drop (i * size))) :
    ∃ E', E'.w = E.w.alloc (.cells cs e) ∧ E.le E' ∧ (∀ k p, E'.O k = some p → E.O k = some p ∨ k = nk) ∧ Wd A0 R w0 E' mem' ∧ rel E' (.osl nk size 0 n) (.slice (some ⟨E.w.heap.size, 0, none⟩) n n) := by
  cases zz with
  | false => exact made_a hW hnk happ hs (Nat.le_refl _) hc hr
  | true =>
    have hg : E.w.grownBy (E.w.alloc (.cells cs e)) (some E.w.heap.size) := World.grownBy_alloc _ _ _
    have hle : E.le (E.row (E.w.alloc (.cells cs e)) nk E.w.heap.size (n, n)) := Env.row_le hg (Or.inr (Nat.le_refl _)) (Or.inl hnk)
    obtain ⟨h1, h2⟩ := hW.made hnk happ cs e (n, n) ⟨cs, _, heap_alloc_new _ _, rfl, fun _ => ⟨rfl, hs⟩, hr _ hle⟩
    exact ⟨_, rfl, h1, Env.row_O, h2, rel_osl.2 (Or.inr ⟨E.w.heap.size, n, n, by simp [Env.row], by omega, Nat.le_refl _, by simp⟩)⟩

theorem abuildSl_wp {zz : Bool} {t : TypeId} {len : Nat} {ps : Array (Nat × Operand)} {eff : Eff} (hW : Wd A0 R w0 E s.mem) (hnk : E.O nk = none) (hop : o.op = .buildSlice t len ps) (hρ : ∀ y, y ∈ ps.toList.map (·.2) → rel E (aeval s y) (a.eval y))
    (h : abuildSl P nk t len (ps.toList.map fun p => (p.1, aeval s p.2)) zz = some (true, eff)) (happ : AppOk E s.mem mem' nk eff) (hK : ∀ E' u, E.le E' → (∀ k p, E'.O k = some p → E.O k = some p ∨ k = nk) → Wd A0 R w0 E' mem' → rel E' eff.v u → K (a.put o.dst u) E'.w) : o.wp P a E.w K Q := by
  unfold abuildSl at h
  split at h
  · rename_i elem hun
    split at h
    · rename_i size z hsz hz
      cases hk : (Nat.blt 0 (len * size) && Nat.ble (len * size) 16777216)
      · rw [hk] at h; cases h
      · rw [hk] at h
        simp only [cond_true] at h
        simp only [Bool.and_eq_true] at hk
        have hpos : 0 < len * size := Nat.le_of_ble_eq_true hk.1
        have hbig : len * size ≤ 16777216 := Nat.le_of_ble_eq_true hk.2
        split at h
        · rename_i cells hfill
          cases hno : noOwns cells
          · rw [hno] at h; cases h
          · rw [hno] at h
            simp only [cond_true, Option.some.injEq, Prod.mk.injEq, true_and] at h
            subst h
            have hpr : prel E (ps.toList.map fun p => (p.1, aeval s p.2)) (ps.toList.map fun p => (p.1, a.eval p.2)) := prel_of hρ
            have hps : (ps.map fun (i, y) => (i, a.eval y)).toList = ps.toList.map fun p => (p.1, a.eval p.2) := by simp
            obtain ⟨rs', h1, h2⟩ := fill_rel _ hpr (rels_canA E _) hfill
            have hlen : rs'.size = len * size := by
              have e1 := rels_length h2
              rw [fillA_len hfill] at e1
              simp at e1
              omega
            have hszr := run_of_pureOf E.w hsz
            have hzr' := run_of_pureOf E.w hz
            have hpos' : ¬ len * size = 0 := by omega
            have hbig' : ¬ len * size > 2 ^ 24 := by omega
            have hrun : (Instr.buildSlice t len (ps.map fun (i, y) => (i, a.eval y))).run P E.w = .ok (.slice (some ⟨E.w.heap.size, 0, none⟩) len len) (E.w.alloc (.cells rs' elem)) := by
              simp only [Instr.buildSlice, Sem.run_bind, run_underlying hun, Result.andThen_ok, hszr, Sem.run_ite, hbig', hpos', if_false, hzr', Sem.run_pure, hps, h1, newRow, run_newObj]
              rfl
            have hsp : 0 < size := Nat.pos_of_ne_zero fun e => by rw [e] at hpos; simp at hpos
            have hlm : len ≤ maxLen := by
              have : len * 1 ≤ len * size := Nat.mul_le_mul_left _ hsp
              simp only [maxLen]; omega
            have hcl : cells.length = len * size := by have := rels_length h2; simp at this; omega
            obtain ⟨E', e1, e2, eO, e3, e4⟩ := made_m zz hW hnk happ hlen hlm (fun E' hle i hi => by
              have hi2 : i * size + size ≤ len * size := by
                have : (i + 1) * size ≤ len * size := Nat.mul_le_mul_right _ hi
                rw [Nat.add_mul] at this; omega
              have hfz := rels_fz (rels_le hle h2) hno
              refine ⟨by simp only [chunk, List.length_take, List.length_drop]; omega, ?_⟩
              have hpp := pre_of_rels (pre_part (i * size) size (pre_of_rels hfz) (by omega))
              refine pre_congr hpp fun j hj => ?_
              have hj' : j < size := Nat.lt_of_lt_of_le hj (by simp only [chunk, List.length_take]; omega)
              rw [List.getElem?_take, if_pos hj'])
            unfold Oper.wp execOp
            simp only [hop, Sem.run_bind, hrun, Result.andThen_ok, Sem.run_pure, Oper.upon_value]
            have := hK E' _ e2 eO e3 e4
            rw [e1] at this
            exact this
        · cases h
    · cases h
  · cases h

theorem abuildF_wp {t : TypeId} {len : Nat} {ps : Array (Nat × Operand)} {eff : Eff} (hW : Wd A0 R w0 E s.mem) (hnk : E.O nk = none) (hop : o.op = .buildSlice t len ps) (hρ : ∀ y, y ∈ ps.toList.map (·.2) → rel E (aeval s y) (a.eval y))
    (h : abuildF P t len (ps.toList.map fun p => (p.1, aeval s p.2)) = some (true, eff)) (happ : AppOk E s.mem mem' nk eff) (hK : ∀ E' u, E.le E' → (∀ k p, E'.O k = some p → E.O k = some p ∨ k = nk) → Wd A0 R w0 E' mem' → rel E' eff.v u → K (a.put o.dst u) E'.w) : o.wp P a E.w K Q := by
  unfold abuildF at h
  split at h
  · rename_i elem hun
    split at h
    · rename_i size z hsz hz
      cases hk : (Nat.blt 0 (len * size) && Nat.ble (len * size) 16777216)
      · rw [hk] at h; cases h
      · rw [hk] at h
        simp only [cond_true] at h
        simp only [Bool.and_eq_true] at hk
        have hpos : 0 < len * size := Nat.le_of_ble_eq_true hk.1
        have hbig : len * size ≤ 16777216 := Nat.le_of_ble_eq_true hk.2
        split at h
        · rename_i cells hfill
          cases hno : noOwns cells
          · rw [hno] at h; cases h
          · rw [hno] at h
            simp only [cond_true, Option.some.injEq, Prod.mk.injEq, true_and] at h
            subst h
            have hpr : prel E (ps.toList.map fun p => (p.1, aeval s p.2)) (ps.toList.map fun p => (p.1, a.eval p.2)) := prel_of hρ
            have hps : (ps.map fun (i, y) => (i, a.eval y)).toList = ps.toList.map fun p => (p.1, a.eval p.2) := by simp
            obtain ⟨rs', h1, h2⟩ := fill_rel _ hpr (rels_canA E _) hfill
            have hlen : rs'.size = len * size := by
              have e1 := rels_length h2
              rw [fillA_len hfill] at e1
              simp at e1
              omega
            have hszr := run_of_pureOf E.w hsz
            have hzr' := run_of_pureOf E.w hz
            have hpos' : ¬ len * size = 0 := by omega
            have hbig' : ¬ len * size > 2 ^ 24 := by omega
            have hrun : (Instr.buildSlice t len (ps.map fun (i, y) => (i, a.eval y))).run P E.w = .ok (.slice (some ⟨E.w.heap.size, 0, none⟩) len len) (E.w.alloc (.cells rs' elem)) := by
              simp only [Instr.buildSlice, Sem.run_bind, run_underlying hun, Result.andThen_ok, hszr, Sem.run_ite, hbig', hpos', if_false, hzr', Sem.run_pure, hps, h1, newRow, run_newObj]
              rfl
            have hsp : 0 < size := Nat.pos_of_ne_zero fun e => by rw [e] at hpos; simp at hpos
            have hlm : len ≤ maxLen := by
              have : len * 1 ≤ len * size := Nat.mul_le_mul_left _ hsp
              simp only [maxLen]; omega
            have hcl : cells.length = len * size := by have := rels_length h2; simp at this; omega
            obtain ⟨hw1, hw2⟩ := hW.on (w' := E.w.alloc (.cells rs' elem)) ((Below.refl _ _).alloc (Nat.le_refl _) _)
            have same : ∀ k b c, E.O k = some (b, c) → mem'[k]? = s.mem[k]? := fun k b c hb => happ.1 k (fun e => by rw [e, hnk] at hb; cases hb) b c hb
            have live : ∀ k b c, E.O k = some (b, c) → liveAt mem' k = liveAt s.mem k := fun k b c hb => by unfold liveAt; rw [same k b c hb]
            have hrel : rel { E with w := E.w.alloc (.cells rs' elem) } (.sl size len (chunk cells size)) (.slice (some ⟨E.w.heap.size, 0, none⟩) len len) := by
              refine rel_sl.2 ⟨_, _, rfl, Nat.le_refl _, Or.inr ⟨E.w.heap.size, 0, rs', elem, _, rfl, fun hA => Nat.lt_irrefl _ (hW.small _ hA), heap_alloc_new _ _, fun i hi => ?_⟩⟩
              have hi2 : i * size + size ≤ len * size := by
                have : (i + 1) * size ≤ len * size := Nat.mul_le_mul_right _ hi
                rw [Nat.add_mul] at this; omega
              have hfz := rels_fz (rels_le hw2 h2) hno
              refine ⟨by simp only [chunk, List.length_take, List.length_drop]; omega, ?_⟩
              rw [Nat.zero_add]
              have hpp := pre_of_rels (pre_part (i * size) size (pre_of_rels hfz) (by omega))
              refine pre_congr hpp fun j hj => ?_
              have hj' : j < size := Nat.lt_of_lt_of_le hj (by simp only [chunk, List.length_take]; omega)
              rw [List.getElem?_take, if_pos hj']
            unfold Oper.wp execOp
            simp only [hop, Sem.run_bind, hrun, Result.andThen_ok, Sem.run_pure, Oper.upon_value]
            exact hK { E with w := E.w.alloc (.cells rs' elem) } _ hw2 (fun _ _ h => Or.inl h) ⟨fun k b c hb => by rw [same k b c hb]; exact hw1.rows k b c hb, hw1.small, hw1.old, fun k b c hb hl => hw1.own k b c hb (by rw [← live k b c hb]; exact hl), fun k k' b c c' hb hb' hl hl' => hw1.one k k' b c c' hb hb' (by rw [← live k b c hb]; exact hl) (by rw [← live k' b c' hb']; exact hl'), hw1.below, hw1.le0⟩ hrel
        · cases h
    · cases h
  · cases h

theorem abuildX_wp {zz : Bool} {t : TypeId} {len : Nat} {ps : Array (Nat × Operand)} {eff : Eff} (hW : Wd A0 R w0 E s.mem) (hnk : E.O nk = none) (hop : o.op = .buildSlice t len ps) (hρ : ∀ y, y ∈ ps.toList.map (·.2) → rel E (aeval s y) (a.eval y))
    (h : abuildX P nk t len (ps.toList.map fun p => (p.1, aeval s p.2)) zz = some (true, eff)) (happ : AppOk E s.mem mem' nk eff) (hK : ∀ E' u, E.le E' → (∀ k p, E'.O k = some p → E.O k = some p ∨ k = nk) → Wd A0 R w0 E' mem' → rel E' eff.v u → K (a.put o.dst u) E'.w) : o.wp P a E.w K Q := by
  unfold abuildX at h
  split at h
  · rename_i hps
    have hp0 : ps = #[] := by
      obtain ⟨l⟩ := ps
      simp only [List.map_eq_nil_iff] at hps
      rw [hps]
    subst hp0
    unfold abuild0 at h
    split at h
    · rename_i elem hun
      split at h
      · rename_i size hsz
        simp only [Option.some.injEq, Prod.mk.injEq, true_and] at h
        subst h
        have hrun : (Instr.buildSlice t 0 #[]).run P E.w = .ok (.slice (some ⟨E.w.heap.size, 0, none⟩) 0 0) (E.w.alloc (.cells #[] elem)) := by
          have hb : ¬ (0 : Nat) > 2 ^ 24 := by omega
          simp only [Instr.buildSlice, Sem.run_bind, run_underlying hun, Result.andThen_ok, run_of_pureOf E.w hsz, Nat.zero_mul, hb, if_false, if_true, newRow, run_newObj, Sem.run_pure, Instr.fill]
          simp [show Array.range 0 = #[] from rfl]
        obtain ⟨E', e1, e2, eO, e3, e4⟩ := made_a hW hnk happ (cs := #[]) (cap := 0) (by simp) (Nat.le_refl _) (by simp [maxLen]) (fun E' hle i hi => by omega)
        unfold Oper.wp execOp
        simp only [hop, List.map_toArray, List.map_nil, Sem.run_bind, hrun, Result.andThen_ok, Sem.run_pure, Oper.upon_value]
        have := hK E' _ e2 eO e3 e4
        rw [e1] at this
        exact this
      · cases h
    · cases h
  · exact abuildSl_wp hW hnk hop hρ h happ hK
theorem amake_wp {t : TypeId} {l c : Operand} {eff : Eff} (hW : Wd A0 R w0 E s.mem) (hnk : E.O nk = none) (hop : o.op = .makeSlice t l c) (hl : rel E (aeval s l) (a.eval l)) (hc : rel E (aeval s c) (a.eval c))
    (h : amake P nk t (aeval s l) (aeval s c) = some (true, eff)) (happ : AppOk E s.mem mem' nk eff) (hK : ∀ E' u, E.le E' → (∀ k p, E'.O k = some p → E.O k = some p ∨ k = nk) → Wd A0 R w0 E' mem' → rel E' eff.v u → K (a.put o.dst u) E'.w) : o.wp P a E.w K Q := by
  unfold amake at h
  split at h
  · rename_i kl l' kc c' e hle hce hun
    rw [hle] at hl
    rw [hce] at hc
    have hl := rel_x.1 hl
    have hc := rel_x.1 hc
    split at h
    · rename_i i hi
      split at h
      · rename_i z hz
        cases hk : (((z.cells.size == i.size) && Nat.blt 0 i.bytes) && noOwns (z.cells.toList.map canA))
        · rw [hk] at h; cases h
        · rw [hk] at h
          simp only [cond_true, Option.some.injEq, Prod.mk.injEq] at h
          obtain ⟨hb, rfl⟩ := h
          simp only [Bool.and_eq_true, beq_iff_eq] at hk
          simp only [Bool.and_eq_true, decide_eq_true_eq] at hb
          obtain ⟨⟨hzs, hby⟩, hno⟩ := hk
          obtain ⟨h0, hlc, hbc⟩ := hb
          have hby : 0 < i.bytes := Nat.le_of_ble_eq_true hby
          have hc48 : c' ≤ 281474976710656 := by
            have : (1 : Int) * c' ≤ (i.bytes : Int) * c' := Int.mul_le_mul_of_nonneg_right (by omega) (by omega)
            omega
          have hrun := run_make (P := P) E.w t e i z hun hi hz kl kc l' c' h0 hlc hbc (by omega)
          obtain ⟨E', e1, e2, eO, e3, e4⟩ := made_a hW hnk happ (cs := madeCells z.cells (c'.toNat * i.size)) (cap := c'.toNat) (by rw [size_madeCells]) (by omega) (by simp only [maxLen]; omega) (fun E' hle q hq => by
            refine ⟨by simp [hzs], ?_⟩
            refine pre_congr (pre_of_rels (rels_fz (E := E') (rels_canA E' z.cells.toList) hno)) fun j hj => ?_
            have hj' : j < z.cells.size := by simpa using hj
            rw [← hzs]
            refine made_get z.cells _ q j hj' ?_
            have : (q + 1) * z.cells.size ≤ c'.toNat * z.cells.size := Nat.mul_le_mul_right _ (by omega)
            rw [Nat.add_mul] at this
            omega)
          unfold Oper.wp execOp
          simp only [hop, hl, hc, Sem.run_bind, hrun, Result.andThen_ok, Sem.run_pure, Oper.upon_value]
          have := hK E' _ e2 eO e3 e4
          rw [e1] at this
          exact this
      · cases h
    · cases h
  · cases h
end
end
end Go.Gv

namespace Go.Gv
open Go.RowKit Go.Ev
noncomputable section

theorem acopy_wp {P : Program} {A0 R : Nat → Prop} {w0 : Env} {E : Env} {s : St} {mem' : List Row} {nk : Nat} {a : Act} {o : Oper} {K : Act → World → Prop} {Q : Exit → Act → World → Prop} {t : TypeId} {x y : Operand} {eff : Eff} (hW : Wd A0 R w0 E s.mem) (hnk : E.O nk = none)
    (hop : o.op = .call { callee := .builtin .copy, args := #[x, y], argTypes := #[t, t] }) (hx : rel E (aeval s x) (a.eval x)) (hy : rel E (aeval s y) (a.eval y))
    (h : acopy P s t (aeval s x) (aeval s y) = some (true, eff)) (happ : AppOk E s.mem mem' nk eff) (hK : ∀ E' u, E.le E' → (∀ k p, E'.O k = some p → E.O k = some p ∨ k = nk) → Wd A0 R w0 E' mem' → rel E' eff.v u → K (a.put o.dst u) E'.w) : o.wp P a E.w K Q := by
  unfold acopy at h
  split at h
  · rename_i e hun
    split at h
    · rename_i i hi
      split at h
      · rename_i k sz st sub nd j sz2 st2 sub2 n hxe hye
        split at h
        · rename_i e' sz3 m el l hmk hmj
          cases hk : ((sz == i.size) && ((sz2 == i.size) && ((sz3 == i.size) && ((sub == 0) && (Nat.blt 0 n && (Nat.ble (st2 * sz2 + sub2 + n * i.size) l.length && (noOwns l && (l.all isCell && !(k == j)))))))))
          · rw [hk] at h; cases h
          · rw [hk] at h
            simp only [cond_true, Option.some.injEq, Prod.mk.injEq] at h
            obtain ⟨hb, rfl⟩ := h
            simp only [Bool.and_eq_true, beq_iff_eq] at hk hb
            obtain ⟨h1, h2, h3, h4, h5, h6, h7, h8, _⟩ := hk
            subst h1
            subst h2
            subst h3
            subst h4
            obtain ⟨hn, hst⟩ := hb
            have hn := Nat.le_of_ble_eq_true hn
            have h5 : 0 < n := Nat.le_of_ble_eq_true h5
            have h6 := Nat.le_of_ble_eq_true h6
            have hst := Nat.le_of_ble_eq_true hst
            rw [hxe] at hx
            rw [hye] at hy
            obtain ⟨ax, cx, hxv, hxc, hx2⟩ := rel_view.1 hx
            obtain ⟨ay, cy, hyv, hyc, hy2⟩ := rel_view.1 hy
            obtain ⟨b, c, hO, rfl⟩ := hx2.resolve_left (by omega)
            obtain ⟨b2, c2, hO2, rfl⟩ := hy2.resolve_left (by omega)
            obtain ⟨row, hr, hrr⟩ := hW.rows k b c hO
            rw [hmk] at hr
            cases hr
            obtain ⟨cs, hcs, hsize, hcn, hnc, hcm, hel⟩ := hrr
            obtain ⟨row2, hr2, hrr2⟩ := hW.rows j b2 c2 hO2
            rw [hmj] at hr2
            cases hr2
            obtain ⟨cs2, e2, hcs2, hpre2⟩ := hrr2
            have hl2 := pre_length hpre2
            have hp2 := pre_part (st2 * i.size + sub2) (n * i.size) hpre2 h6
            have hnl : ((cs2.toList.drop (st2 * i.size + sub2)).take (n * i.size)).length = n * i.size := by simp at hl2 ⊢; omega
            have hone : ∀ u ∈ (cs2.toList.drop (st2 * i.size + sub2)).take (n * i.size), u.oneCell' = true := fun u hu => by
              obtain ⟨q, hq⟩ := List.mem_iff_getElem?.1 hu
              have hql := (List.getElem?_eq_some_iff.1 hq).1
              rw [hnl] at hql
              have hxq : ((l.drop (st2 * i.size + sub2)).take (n * i.size))[q]? = l[st2 * i.size + sub2 + q]? := by
                rw [List.getElem?_take, if_pos hql, List.getElem?_drop]
              have hlq : l[st2 * i.size + sub2 + q]? = some (l[st2 * i.size + sub2 + q]'(by omega)) := List.getElem?_eq_getElem (by omega)
              obtain ⟨v, g1, g2⟩ := pre_get (pre_of_rels hp2) (hxq.trans hlq)
              rw [hq] at g1
              cases g1
              exact rel_oneCell g2 (List.all_eq_true.1 h8 _ (List.getElem_mem _))
            have hbig : (st + n) * i.size ≤ cs.size := by rw [hsize]; exact Nat.mul_le_mul_right _ (by omega)
            rw [Nat.add_mul] at hbig
            have hlen2 : st * i.size + ((cs2.toList.drop (st2 * i.size + sub2)).take (n * i.size)).length ≤ cs.toList.length := by rw [hnl]; simpa using hbig
            have hst1 := run_storeCells_at (P := P) b (st * i.size + 0) e' ((cs2.toList.drop (st2 * i.size + sub2)).take (n * i.size)) 0 cs E.w hcs (by rw [hnl]; omega) hone
            have hfc := run_firstCells_some (P := P) E.w i.size n ⟨b2, st2 * i.size + sub2, none⟩ n cy ((cs2.toList.drop (st2 * i.size + sub2)).take (n * i.size)) hnl (fun q v hq => by
              rw [add_plain, cell_of_row E.w b2 _ cs2 e2 (0, 0) hcs2]
              have hql := (List.getElem?_eq_some_iff.1 hq).1
              rw [hnl] at hql
              rw [List.getElem?_take, if_pos hql, List.getElem?_drop] at hq
              simpa using hq)
            have hrun : (Builtin.copy_ #[t, t] o.type #[a.eval x, a.eval y]).run P E.w = .ok (goInt n) (E.w.setRow b (cs.toList.take (st * i.size) ++ (cs2.toList.drop (st2 * i.size + sub2)).take (n * i.size) ++ cs.toList.drop (st * i.size + ((cs2.toList.drop (st2 * i.size + sub2)).take (n * i.size)).length)).toArray) := by
              simp only [Nat.add_zero] at hst1
              simp only [Builtin.copy_, hxv, hyv, List.getElem?_toArray, List.getElem?_cons_zero, List.getElem?_cons_succ, Sem.run_bind, run_underlying hun, Result.andThen_ok, Builtin.lenOf, Sem.run_pure, sizeOf, typeInfo, run_program, hi, show Nat.min n nd = n from Nat.min_eq_left hn, hfc, Nat.add_zero, hst1]
            have hle : E.le (E.row (E.w.setRow b (cs.toList.take (st * i.size) ++ (cs2.toList.drop (st2 * i.size + sub2)).take (n * i.size) ++ cs.toList.drop (st * i.size + ((cs2.toList.drop (st2 * i.size + sub2)).take (n * i.size)).length)).toArray) k b c) := Env.row_le ⟨rfl, rfl, rfl, by simp [World.setRow], fun j _ hj => setRow_other _ _ _ _ (fun e => hj (by rw [e]))⟩
              (Or.inl (hW.own k b c hO (by unfold liveAt; rw [hmk]; rfl)).1) (Or.inr hO)
            obtain ⟨g1, g2⟩ := hW.written hnk happ hO hmk rfl (cs.toList.take (st * i.size) ++ (cs2.toList.drop (st2 * i.size + sub2)).take (n * i.size) ++ cs.toList.drop (st * i.size + ((cs2.toList.drop (st2 * i.size + sub2)).take (n * i.size)).length)).toArray ⟨_, setRow_heap E.w b cs _ e' (0, 0) hcs, by
                rw [← hsize]; simp only [List.size_toArray, List.length_append, List.length_take, List.length_drop]; simp at hl2 hlen2 ⊢; omega, hcn, hnc, hcm, by
              intro q hq
              obtain ⟨hlq, hpq⟩ := hel q hq
              have same : (q < st ∨ st + n ≤ q) → pre (E.row (E.w.setRow b (cs.toList.take (st * i.size) ++ (cs2.toList.drop (st2 * i.size + sub2)).take (n * i.size) ++ cs.toList.drop (st * i.size + ((cs2.toList.drop (st2 * i.size + sub2)).take (n * i.size)).length)).toArray) k b c).fz (el q) ((cs.toList.take (st * i.size) ++ (cs2.toList.drop (st2 * i.size + sub2)).take (n * i.size) ++ cs.toList.drop (st * i.size + ((cs2.toList.drop (st2 * i.size + sub2)).take (n * i.size)).length)).drop (q * i.size)) := by
                intro hor
                refine pre_congr (pre_le hle.fz hpq) fun r hr => ?_
                rw [List.getElem?_drop, List.getElem?_drop, splice_get _ _ _ hlen2, hnl]
                rw [hlq] at hr
                rcases hor with hlt | hge
                · have : (q + 1) * i.size ≤ st * i.size := Nat.mul_le_mul_right _ hlt
                  rw [Nat.add_mul] at this
                  rw [if_pos (by omega)]
                · have : (st + n) * i.size ≤ q * i.size := Nat.mul_le_mul_right _ hge
                  rw [Nat.add_mul] at this
                  rw [if_neg (by omega), if_neg (by omega)]
              have hnew : st ≤ q → q < st + n → (spread st (csrc l (st2 * i.size + sub2) i.size n) q).length = i.size ∧ pre (E.row (E.w.setRow b (cs.toList.take (st * i.size) ++ (cs2.toList.drop (st2 * i.size + sub2)).take (n * i.size) ++ cs.toList.drop (st * i.size + ((cs2.toList.drop (st2 * i.size + sub2)).take (n * i.size)).length)).toArray) k b c).fz (spread st (csrc l (st2 * i.size + sub2) i.size n) q) ((cs.toList.take (st * i.size) ++ (cs2.toList.drop (st2 * i.size + sub2)).take (n * i.size) ++ cs.toList.drop (st * i.size + ((cs2.toList.drop (st2 * i.size + sub2)).take (n * i.size)).length)).drop (q * i.size)) := by
                intro hge hlt
                refine spread_ok (fun z => z.length = i.size ∧ pre _ z _) (fun bb xs ys p1 p2 => ⟨mixL_len (fun hb => (p1 hb).1) (fun hb => (p2 hb).1), mixL_pre (fun hb => (p1 hb).2) (fun hb => (p2 hb).2)⟩) (csrc l (st2 * i.size + sub2) i.size n) st hge (by simp only [csrc, List.length_map, List.length_range]; exact hlt) fun p new hp hqp => ?_
                have hpn : p < n := by
                  have := (List.getElem?_eq_some_iff.1 hp).1
                  simpa [csrc] using this
                have hnw : new = (l.drop (st2 * i.size + sub2 + p * i.size)).take i.size := by
                  simp only [csrc, List.getElem?_map, List.getElem?_range hpn, Option.map_some, Option.some.injEq] at hp
                  exact hp.symm
                subst hnw
                have hpz : (p + 1) * i.size ≤ n * i.size := Nat.mul_le_mul_right _ hpn
                rw [Nat.add_mul] at hpz
                have hps := pre_part (st2 * i.size + sub2 + p * i.size) i.size hpre2 (by omega)
                refine ⟨by simp; omega, ?_⟩
                have hno : noOwns ((l.drop (st2 * i.size + sub2 + p * i.size)).take i.size) = true := noOwns_part h7
                refine pre_congr (pre_of_rels (rels_fz (rels_le hle hps) hno)) fun r hr => ?_
                have hr : r < i.size := by
                  have : ((l.drop (st2 * i.size + sub2 + p * i.size)).take i.size).length ≤ i.size := by simp; omega
                  omega
                subst hqp
                have e5 : (st + p) * i.size = st * i.size + p * i.size := Nat.add_mul _ _ _
                rw [List.getElem?_drop, splice_get _ _ _ hlen2, hnl, if_neg (by omega), if_pos (by omega), List.getElem?_take, if_pos (by omega), List.getElem?_drop, List.getElem?_take, if_pos hr, List.getElem?_drop]
                congr 1
                omega
              cases hq1 : Nat.blt q st
              · have hge : st ≤ q := Nat.le_of_not_lt fun hc => by
                  have : Nat.blt q st = true := Nat.ble_eq_true_of_le hc
                  rw [this] at hq1; cases hq1
                cases hq2 : Nat.blt q (st + n)
                · have hge2 : st + n ≤ q := Nat.le_of_not_lt fun hc => by
                    have : Nat.blt q (st + n) = true := Nat.ble_eq_true_of_le hc
                    rw [this] at hq2; cases hq2
                  exact ⟨mixL_len (fun h => (Bool.false_ne_true (hq1.symm.trans h)).elim) (fun _ => mixL_len (fun h => (Bool.false_ne_true (hq2.symm.trans h)).elim) fun _ => hlq), mixL_pre (fun h => (Bool.false_ne_true (hq1.symm.trans h)).elim) fun _ => mixL_pre (fun h => (Bool.false_ne_true (hq2.symm.trans h)).elim) fun _ => same (Or.inr hge2)⟩
                · have hlt2 : q < st + n := Nat.le_of_ble_eq_true hq2
                  exact ⟨mixL_len (fun h => (Bool.false_ne_true (hq1.symm.trans h)).elim) (fun _ => mixL_len (fun _ => (hnew hge hlt2).1) fun h => (Bool.false_ne_true (h.symm.trans hq2)).elim), mixL_pre (fun h => (Bool.false_ne_true (hq1.symm.trans h)).elim) fun _ => mixL_pre (fun _ => (hnew hge hlt2).2) fun h => (Bool.false_ne_true (h.symm.trans hq2)).elim⟩
              · have hlt : q < st := Nat.le_of_ble_eq_true hq1
                exact ⟨mixL_len (fun _ => hlq) (fun h => (Bool.false_ne_true (h.symm.trans hq1)).elim), mixL_pre (fun _ => same (Or.inl hlt)) fun h => (Bool.false_ne_true (h.symm.trans hq1)).elim⟩⟩
            unfold Oper.wp execOp
            simp only [hop, resolve, invoke, builtin, Sem.run_bind, Sem.run_pure, Result.andThen_ok, List.map_toArray, List.map_cons, List.map_nil, hrun]
            exact hK _ _ g1 (Env.row_same hO) g2 (rel_x.2 rfl)
        · cases h
      · cases h
    · cases h
  · cases h
theorem heap_freeze {w : World} {b n : Nat} {cs : Array Value} {e : TypeId} (h : w.heap[b]? = some (.cells cs e (0, 0))) : (w.freeze ⟨b, n, none⟩ 1).heap[b]? = some (.cells cs e (n, n + 1)) := by
  unfold World.freeze
  rw [if_neg (by decide)]
  simp [Array.getElem?_modify, h]
theorem heap_freezeZ {w : World} {b n : Nat} {cs : Array Value} {e : TypeId} {fz : Nat × Nat} (h : w.heap[b]? = some (.cells cs e fz)) : ∃ fz', (w.freeze ⟨b, n, none⟩ 1).heap[b]? = some (.cells cs e fz') := by
  unfold World.freeze
  rw [if_neg (by decide)]
  simp [Array.getElem?_modify, h]
theorem grown_freeze (w : World) (b n : Nat) : w.grownBy (w.freeze ⟨b, n, none⟩ 1) (some b) := by
  refine ⟨?_, ?_, ?_, ?_, fun j _ hj => ?_⟩
  · unfold World.freeze; rw [if_neg (by decide)]
  · unfold World.freeze; rw [if_neg (by decide)]
  · unfold World.freeze; rw [if_neg (by decide)]
  · unfold World.freeze; rw [if_neg (by decide)]; simp
  · unfold World.freeze
    rw [if_neg (by decide)]
    have hne : b ≠ j := fun e => hj (by rw [e])
    simp [Array.getElem?_modify, hne]
theorem amark_wp {P : Program} {A0 R : Nat → Prop} {w0 : Env} {E : Env} {s : St} {mem' : List Row} {nk : Nat} {a : Act} {o : Oper} {K : Act → World → Prop} {Q : Exit → Act → World → Prop} {src dst : TypeId} {x : Operand} {eff : Eff} (hW : Wd A0 R w0 E s.mem) (hnk : E.O nk = none)
    (hop : o.op = .convert src dst x) (hx : rel E (aeval s x) (a.eval x))
    (h : amark P s src dst (aeval s x) = some (true, eff)) (happ : AppOk E s.mem mem' nk eff) (hK : ∀ E' u, E.le E' → (∀ k p, E'.O k = some p → E.O k = some p ∨ k = nk) → Wd A0 R w0 E' mem' → rel E' eff.v u → K (a.put o.dst u) E'.w) : o.wp P a E.w K Q := by
  unfold amark at h
  split at h
  · rename_i e hun
    split at h
    · rename_i he
      cases hsd : src == dst
      · rw [hsd] at h; cases h
      · rw [hsd] at h
        simp only [cond_true] at h
        have e1 := eq_of_beq hsd
        subst e1
        split at h
        · rename_i k sz st n hxe
          split at h
          · rename_i e2 sz2 m el hmk
            simp only [Option.some.injEq, Prod.mk.injEq] at h
            obtain ⟨hn, rfl⟩ := h
            have hn : 0 < n := Nat.le_of_ble_eq_true hn
            rw [hxe] at hx
            rcases rel_osl.1 hx with ⟨_, h2, _⟩ | ⟨b, c, n0, hO, h1, h2, hv⟩
            · omega
            · obtain ⟨row, hr, hrr⟩ := hW.rows k b (c, n0) hO
              rw [hmk] at hr
              cases hr
              obtain ⟨cs, hcs, hsize, hcn, hnc, hcm, hel⟩ := hrr
              have hg := grown_freeze E.w b cs.size
              have hl : liveAt s.mem k = true := by unfold liveAt; rw [hmk]; rfl
              obtain ⟨hA, hR⟩ := hW.own k b (c, n0) hO hl
              have hne : k ≠ nk := fun e => by rw [e, hnk] at hO; cases hO
              have hle : E.le (E.row (E.w.freeze ⟨b, cs.size, none⟩ 1) k b (c, n0)) := Env.row_le hg (Or.inl hA) (Or.inr hO)
              have hWd : Wd A0 R w0 (E.row (E.w.freeze ⟨b, cs.size, none⟩ 1) k b (c, n0)) mem' := by
                refine hW.row hg (Nat.lt_of_lt_of_le (hW.small b hA) hg.size) hR (Or.inl hA) (Or.inr hO) (row1 := .z false e2 sz2 m el) (by rw [happ.1 k hne b (c, n0) hO]; simp) ?_ ⟨cs, _, heap_freeze hcs, hcn, fun h => (Bool.false_ne_true h).elim, fun i hi => ⟨(hel i hi).1, pre_le hle.fz (hel i hi).2⟩⟩
                intro j hj b' c' hb'
                have hjn : j ≠ nk := fun e => by rw [e, hnk] at hb'; cases hb'
                refine Or.inl ⟨by rw [happ.1 j hjn b' c' hb']; simp [hj], fun hlj e => hj ?_⟩
                subst e
                exact hW.one j k b' c' (c, n0) hb' hO hlj hl
              have hrun : (convert src src (a.eval x)).run P E.w = .ok (a.eval x) (E.w.freeze ⟨b, cs.size, none⟩ 1) := by
                rw [hv]
                simp [convert, run_underlying hun, run_underlying he, markStringish, World.shape?, hcs]
              unfold Oper.wp execOp
              simp only [hop, Sem.run_bind, hrun, Result.andThen_ok, Sem.run_pure]
              exact hK _ _ hle (Env.row_same hO) hWd (rel_le hle hx)
          · rename_i xx e2 sz2 m el hmk
            simp only [Option.some.injEq, Prod.mk.injEq] at h
            obtain ⟨hn, rfl⟩ := h
            have hn : 0 < n := Nat.le_of_ble_eq_true hn
            rw [hxe] at hx
            rcases rel_osl.1 hx with ⟨_, h2, _⟩ | ⟨b, c, n0, hO, h1, h2, hv⟩
            · omega
            · obtain ⟨row, hr, hrr⟩ := hW.rows k b (c, n0) hO
              rw [hmk] at hr
              cases hr
              obtain ⟨cs, fz0, hcs, hcn, hxx, hel⟩ := hrr
              have hg := grown_freeze E.w b cs.size
              have hl : liveAt s.mem k = true := by unfold liveAt; rw [hmk]; rfl
              obtain ⟨hA, hR⟩ := hW.own k b (c, n0) hO hl
              have hne : k ≠ nk := fun e => by rw [e, hnk] at hO; cases hO
              have hle : E.le (E.row (E.w.freeze ⟨b, cs.size, none⟩ 1) k b (c, n0)) := Env.row_le hg (Or.inl hA) (Or.inr hO)
              have hWd : Wd A0 R w0 (E.row (E.w.freeze ⟨b, cs.size, none⟩ 1) k b (c, n0)) mem' := by
                refine hW.row hg (Nat.lt_of_lt_of_le (hW.small b hA) hg.size) hR (Or.inl hA) (Or.inr hO) (row1 := .z xx e2 sz2 m el) (by rw [happ.1 k hne b (c, n0) hO]; simp) ?_ ⟨cs, _, (heap_freezeZ hcs).choose_spec, hcn, hxx, fun i hi => ⟨(hel i hi).1, pre_le hle.fz (hel i hi).2⟩⟩
                intro j hj b' c' hb'
                have hjn : j ≠ nk := fun e => by rw [e, hnk] at hb'; cases hb'
                refine Or.inl ⟨by rw [happ.1 j hjn b' c' hb']; simp [hj], fun hlj e => hj ?_⟩
                subst e
                exact hW.one j k b' c' (c, n0) hb' hO hlj hl
              have hrun : (convert src src (a.eval x)).run P E.w = .ok (a.eval x) (E.w.freeze ⟨b, cs.size, none⟩ 1) := by
                rw [hv]
                simp [convert, run_underlying hun, run_underlying he, markStringish, World.shape?, hcs]
              unfold Oper.wp execOp
              simp only [hop, Sem.run_bind, hrun, Result.andThen_ok, Sem.run_pure]
              exact hK _ _ hle (Env.row_same hO) hWd (rel_le hle hx)
          · cases h
        · cases h
    · cases h
  · cases h
end
end Go.Gv

namespace Go.Gv
open Go.RowKit Go.Ev
noncomputable section

section
variable {P : Program} {A0 R : Nat → Prop} {w0 : Env} {E : Env} {s : St} {mem' : List Row} {nk : Nat} {a : Act} {o : Oper} {K : Act → World → Prop} {Q : Exit → Act → World → Prop}

/-- The elements that are appended, as they lie there. -/
theorem aTail_good {size j m : Nat} {y : AV} {ns : List (List AV)} {v : Value} (hW : Wd A0 R w0 E s.mem) (hv : rel E y v) (h : aTail s.mem size y = some (j, m, ns)) (hall : (ns.all fun new => new.all isCell) = true) :
    ∃ (ad : Addr) (c : Nat) (news : List Value), v = .slice (some ad) m c ∧ news.length = m * size ∧ (∀ j u, news[j]? = some u → E.w.cell? (ad.add j) = some u) ∧ (∀ u ∈ news, u.oneCell' = true) ∧ 0 < m ∧ ns.length = m ∧ ∀ p new, ns[p]? = some new → new.length = size ∧ pre E.fz new (news.drop (p * size)) := by
  unfold aTail at h
  split at h
  · rename_i k sz m'
    split at h
    · rename_i e' sz' n el hmk
      cases hk : ((sz == size) && ((sz' == size) && Nat.blt 0 m'))
      · rw [hk] at h; cases h
      · rw [hk] at h
        simp only [cond_true, Option.some.injEq, Prod.mk.injEq] at h
        simp only [Bool.and_eq_true, beq_iff_eq] at hk
        obtain ⟨rfl, rfl, hm0⟩ := hk
        have hm0 : 0 < m' := Nat.le_of_ble_eq_true hm0
        obtain ⟨_, rfl, rfl⟩ := h
        obtain ⟨b, c, n', hb, h1, h2, rfl⟩ := (rel_osl.1 hv).resolve_left (fun hz => by have := hz.2.1; omega)
        obtain ⟨row, hr, hrr⟩ := hW.rows k b _ hb
        rw [hmk] at hr
        cases hr
        obtain ⟨cs, hcs, hsize, hn, hnc, hcm, hel⟩ := hrr
        simp only at hn hsize hnc
        have hbig : m' * sz' ≤ cs.size := by rw [hsize]; exact Nat.mul_le_mul_right _ (by omega)
        have part : ∀ p, p < m' → (el p).length = sz' ∧ pre E.fz (el p) ((cs.toList.take (m' * sz')).drop (p * sz')) := fun p hp => by
          obtain ⟨hl0, hp0⟩ := hel p (by omega)
          refine ⟨hl0, pre_congr hp0 fun i hi => ?_⟩
          rw [hl0] at hi
          have : (p + 1) * sz' ≤ m' * sz' := Nat.mul_le_mul_right _ hp
          rw [Nat.add_mul] at this
          rw [List.getElem?_drop, List.getElem?_drop, List.getElem?_take, if_pos (by omega)]
        refine ⟨_, _, cs.toList.take (m' * sz'), rfl, by simp; omega, fun i u hu => ?_, fun u hu => ?_, hm0, by simp, fun p new hp => ?_⟩
        · have hadd : (⟨b, 0 * sz', none⟩ : Addr).add i = ⟨b, i, none⟩ := by unfold Addr.add; split <;> simp_all
          rw [hadd, cell_of_row E.w b i cs _ (0, 0) hcs]
          rw [List.getElem?_take] at hu
          split at hu
          · simpa using hu
          · cases hu
        · obtain ⟨i, hi⟩ := List.mem_iff_getElem?.1 hu
          have hil : i < m' * sz' := by
            have h3 := (List.getElem?_eq_some_iff.1 hi).1
            rw [List.length_take] at h3
            omega
          have hsp : 0 < sz' := Nat.pos_of_ne_zero fun e => by rw [e] at hil; simp at hil
          have hpq : i / sz' < m' := (Nat.div_lt_iff_lt_mul hsp).2 hil
          obtain ⟨g1, g2⟩ := part (i / sz') hpq
          have hiq : i / sz' * sz' + i % sz' = i := by rw [Nat.mul_comm]; exact Nat.div_add_mod i sz'
          have hmod := Nat.mod_lt i hsp
          have hx : (el (i / sz'))[i % sz']? = some ((el (i / sz'))[i % sz']'(by omega)) := List.getElem?_eq_getElem (by omega)
          obtain ⟨v, hv1, hv2⟩ := pre_get g2 hx
          rw [List.getElem?_drop, hiq, hi] at hv1
          cases hv1
          refine rel_oneCell hv2 ?_
          have h5 := List.all_eq_true.1 hall (el (i / sz')) (List.mem_map.2 ⟨_, List.mem_range.2 hpq, rfl⟩)
          exact List.all_eq_true.1 h5 _ (List.getElem_mem _)
        · have hlt := (List.getElem?_eq_some_iff.1 hp).1
          simp at hlt
          simp [hlt] at hp
          rw [← hp]
          exact part p hlt
    · cases h
  · cases h

/-- What is appended is these cells: the new row. -/
theorem append_goal {t t' e : TypeId} {i : TypeInfo} {x y : Operand} {k : Option Nat} {n m : Nat} {el tl : Nat → List AV} {rd : List Nat} {news : List Value} (hW : Wd A0 R w0 E s.mem) (hnk : E.O nk = none) (hop : o.op = .call { callee := .builtin .append, args := #[x, y], argTypes := #[t, t'] })
    (htl : ∀ q, n ≤ q → q < n + m → (tl q).length = i.size ∧ pre E.fz (tl q) (news.drop ((q - n) * i.size)))
    (happ : AppOk E s.mem mem' nk ⟨.osl nk i.size 0 (n + m), rd, k.map (fun k => (k, Row.dead)), some (.a e i.size (n + m) (fun q => mixL (Nat.blt q n) (el q) (tl q)))⟩) (hK : ∀ E' u, E.le E' → (∀ k p, E'.O k = some p → E.O k = some p ∨ k = nk) → Wd A0 R w0 E' mem' → rel E' (.osl nk i.size 0 (n + m)) u → K (a.put o.dst u) E'.w)
    (xs : List Value) (hxl : xs.length = n * i.size) (hel : ∀ q, q < n → (el q).length = i.size ∧ ∀ E', E.le E' → pre E'.fz (el q) (xs.drop (q * i.size)))
    (hR1 : ∃ g cap cur w', (Builtin.append_ #[t, t'] o.type #[a.eval x, a.eval y]).run P E.w = .ok (.slice (some ⟨g, 0, none⟩) (n + m) cap) w' ∧ ((∃ k0 c0 row0, k = some k0 ∧ E.O k0 = some (g, c0) ∧ s.mem[k0]? = some row0 ∧ row0.live = true) ∨ g = E.w.heap.size) ∧ w'.heap[g]? = some (.cells cur e (0, 0)) ∧
      cur.size = cap * i.size ∧ n + m ≤ cap ∧ cap ≤ maxLen ∧ cur.toList.take ((n + m) * i.size) = xs ++ news ∧ E.w.grownBy w' (some g)) : o.wp P a E.w K Q := by
  obtain ⟨g, cap, cur, w', hrun, hg, hcur, hsize, hcap, hcm, htake, hgr⟩ := hR1
  have hA : E.A g ∨ E.w.heap.size ≤ g := by
    rcases hg with hg | hg
    · obtain ⟨k0, c0, row0, _, h2, h3, h4⟩ := hg
      exact Or.inl (hW.own k0 g c0 h2 (by unfold liveAt; rw [h3]; exact h4)).1
    · exact Or.inr (by omega)
  have hR : R g ∨ w0.w.heap.size ≤ g := by
    rcases hg with hg | hg
    · obtain ⟨k0, c0, row0, _, h2, h3, h4⟩ := hg
      exact (hW.own k0 g c0 h2 (by unfold liveAt; rw [h3]; exact h4)).2
    · have := hW.below.size; exact Or.inr (by omega)
  have hle : E.le (E.row w' nk g (cap, n + m)) := Env.row_le hgr hA (Or.inl hnk)
  have hrow : rowRel (E.row w' nk g (cap, n + m)) g (cap, n + m) (.a e i.size (n + m) (fun q => mixL (Nat.blt q n) (el q) (tl q))) := by
    refine ⟨cur, hcur, hsize, rfl, hcap, hcm, fun q hq => ?_⟩
    have hcurget : ∀ p, p < (n + m) * i.size → cur.toList[p]? = (xs ++ news)[p]? := fun p hp => by rw [← htake, List.getElem?_take, if_pos hp]
    have hq2 : q * i.size + i.size ≤ (n + m) * i.size := by
      have : (q + 1) * i.size ≤ (n + m) * i.size := Nat.mul_le_mul_right _ hq
      rw [Nat.add_mul] at this; omega
    have hnew : Nat.blt q n = false → (tl q).length = i.size ∧ pre (E.row w' nk g (cap, n + m)).fz (tl q) (cur.toList.drop (q * i.size)) := fun hqn => by
      have hqn' : n ≤ q := Nat.le_of_not_lt fun hc => by
        have : Nat.blt q n = true := Nat.ble_eq_true_of_le hc
        rw [this] at hqn; cases hqn
      obtain ⟨g1, g2⟩ := htl q hqn' hq
      refine ⟨g1, pre_congr (pre_le hle.fz g2) fun r hr => ?_⟩
      rw [g1] at hr
      have e5 : q * i.size = n * i.size + (q - n) * i.size := by rw [← Nat.add_mul]; congr 1; omega
      rw [List.getElem?_drop, List.getElem?_drop, hcurget _ (by omega), List.getElem?_append_right (by rw [hxl]; omega), hxl]
      congr 1
      omega
    refine ⟨mixL_len (fun hqn => (hel q (Nat.le_of_ble_eq_true hqn)).1) (fun hqn => (hnew hqn).1), mixL_pre (fun hqn => ?_) (fun hqn => (hnew hqn).2)⟩
    have hqn' : q < n := Nat.le_of_ble_eq_true hqn
    obtain ⟨hlq, hpq⟩ := hel q hqn'
    refine pre_congr (hpq _ hle) fun p hp => ?_
    rw [hlq] at hp
    rw [List.getElem?_drop, List.getElem?_drop, hcurget _ (by omega), List.getElem?_append_left]
    rw [hxl]
    have : (q + 1) * i.size ≤ n * i.size := Nat.mul_le_mul_right _ hqn'
    rw [Nat.add_mul] at this; omega
  have hWd : Wd A0 R w0 (E.row w' nk g (cap, n + m)) mem' := by
    refine hW.row hgr (Array.getElem?_eq_some_iff.1 hcur).1 hR hA (Or.inl hnk) (happ.2 _ rfl) ?_ hrow
    intro k' hk' b' c' hb'
    have e1 := happ.1 k' hk' b' c' hb'
    by_cases hdead : k = some k'
    · subst hdead
      simp only [Option.map_some, if_true] at e1
      exact Or.inr e1
    · have e2 : mem'[k']? = s.mem[k']? := by
        rw [e1]
        cases k with
        | none => rfl
        | some k0 =>
          simp only [Option.map_some]
          rw [if_neg (fun e => hdead (by rw [e]))]
      refine Or.inl ⟨e2, fun hlv e3 => ?_⟩
      subst e3
      rcases hg with hg | hg
      · obtain ⟨k0, c0, row0, e4, h2, h3, h4⟩ := hg
        have := hW.one k' k0 b' c' c0 hb' h2 hlv (by unfold liveAt; rw [h3]; exact h4)
        exact hdead (by rw [e4, this])
      · have := hW.small b' (hW.own k' b' c' hb' hlv).1
        omega
  have hrel : rel (E.row w' nk g (cap, n + m)) (.osl nk i.size 0 (n + m)) (.slice (some ⟨g, 0, none⟩) (n + m) cap) := rel_osl.2 (Or.inr ⟨g, cap, n + m, by simp [Env.row], by omega, hcap, by simp⟩)
  unfold Oper.wp execOp
  simp only [hop, resolve, invoke, builtin, Sem.run_bind, Sem.run_pure, Result.andThen_ok, List.map_toArray, List.map_cons, List.map_nil, hrun]
  exact hK _ _ hle Env.row_O hWd hrel
/-- What is appended is these cells. -/
theorem append_coreR {t t' e : TypeId} {i : TypeInfo} {x y : Operand} {k : Option Nat} {n m : Nat} {b : Bool} {el tl : Nat → List AV} {rd : List Nat} {news : List Value} (hW : Wd A0 R w0 E s.mem) (hnk : E.O nk = none) (hop : o.op = .call { callee := .builtin .append, args := #[x, y], argTypes := #[t, t'] }) (hx : rel E (aeval s x) (a.eval x))
    (hH : aHead s.mem e i.size (aeval s x) = some (b, k, n, el)) (hb : b = true)
    (hR0 : ∀ xs, E.w.ownsRow 0 e i.size (a.eval x) n xs → ∃ g cap cur w', (Builtin.append_ #[t, t'] o.type #[a.eval x, a.eval y]).run P E.w = .ok (.slice (some ⟨g, 0, none⟩) (n + m) cap) w' ∧ ((a.eval x).ownBlock = some g ∨ g = E.w.heap.size) ∧ w'.heap[g]? = some (.cells cur e (0, 0)) ∧
      cur.size = cap * i.size ∧ n + m ≤ cap ∧ cap ≤ maxLen ∧ cur.toList.take ((n + m) * i.size) = xs ++ news ∧ E.w.grownBy w' (some g))
    (htl : ∀ q, n ≤ q → q < n + m → (tl q).length = i.size ∧ pre E.fz (tl q) (news.drop ((q - n) * i.size)))
    (happ : AppOk E s.mem mem' nk ⟨.osl nk i.size 0 (n + m), rd, k.map (fun k => (k, Row.dead)), some (.a e i.size (n + m) (fun q => mixL (Nat.blt q n) (el q) (tl q)))⟩) (hK : ∀ E' u, E.le E' → (∀ k p, E'.O k = some p → E.O k = some p ∨ k = nk) → Wd A0 R w0 E' mem' → rel E' (.osl nk i.size 0 (n + m)) u → K (a.put o.dst u) E'.w) : o.wp P a E.w K Q := by
  have goal : ∀ (xs : List Value), E.w.ownsRow 0 e i.size (a.eval x) n xs → (∀ q, q < n → (el q).length = i.size ∧ ∀ E', E.le E' → pre E'.fz (el q) (xs.drop (q * i.size))) →
      (∀ g, (a.eval x).ownBlock = some g → ∃ k0 c0 row0, k = some k0 ∧ E.O k0 = some (g, c0) ∧ s.mem[k0]? = some row0 ∧ row0.live = true) → o.wp P a E.w K Q := by
    intro xs hown hel hblk
    obtain ⟨g, cap, cur, w', hrun, hg, hrest⟩ := hR0 xs hown
    exact append_goal hW hnk hop htl happ hK xs hown.1 hel ⟨g, cap, cur, w', hrun, hg.imp (hblk g) id, hrest⟩
  unfold aHead at hH
  split at hH
  · rename_i hxe
    simp only [Option.some.injEq, Prod.mk.injEq] at hH
    obtain ⟨_, rfl, rfl, rfl⟩ := hH
    rw [hxe] at hx
    have hxv := rel_x.1 hx
    refine goal [] (by rw [hxv]; exact World.ownsRow_nil _ _ _ _) (fun q hq => by omega) (fun g hg => by rw [hxv] at hg; cases hg)
  · rename_i k1 sz len hxe
    split at hH
    · rename_i e' sz' n' el' hmk
      cases hk2 : ((e == e') && ((sz == i.size) && (sz' == i.size)))
      · rw [hk2] at hH; cases hH
      · rw [hk2] at hH
        simp only [cond_true, Option.some.injEq, Prod.mk.injEq] at hH
        obtain ⟨hbn, rfl, rfl, rfl⟩ := hH
        simp only [Bool.and_eq_true, beq_iff_eq] at hk2
        obtain ⟨rfl, rfl, hs2⟩ := hk2
        subst hs2
        rw [hb] at hbn
        have hbn : len ≤ n' := by
          cases hcut : cutE e
          · rw [hcut, cond_false] at hbn; exact Nat.le_of_eq (eq_of_beq hbn)
          · rw [hcut, cond_true] at hbn; exact Nat.le_of_ble_eq_true hbn
        rw [hxe] at hx
        rcases rel_osl.1 hx with ⟨_, h0, hxv⟩ | ⟨b', c', n2, hb', hle1, hle2, hxv⟩
        · subst h0
          exact goal [] (by rw [hxv]; exact World.ownsRow_nil _ _ _ _) (fun q hq => by omega) (fun g hg => by rw [hxv] at hg; cases hg)
        · obtain ⟨row, hr, hrr⟩ := hW.rows k1 b' _ hb'
          rw [hmk] at hr
          cases hr
          obtain ⟨cs, hcs, hsize, hn, hnc, hcm, hel⟩ := hrr
          simp only at hn hsize hnc hcm
          subst hn
          refine goal (cs.toList.take (len * i.size)) (by
            rw [hxv]
            refine ⟨?_, Or.inr ⟨b', c', cs, by simp, Nat.zero_le _, hcs, by omega, hcm, hsize, rfl⟩⟩
            have : len * i.size ≤ c' * i.size := Nat.mul_le_mul_right _ (by omega)
            simp; omega) (fun q hq => ⟨(hel q (by omega)).1, fun E' hle => ?_⟩) (fun g hg => ?_)
          · refine pre_congr (pre_le hle.fz (hel q (by omega)).2) fun p hp => ?_
            rw [(hel q (by omega)).1] at hp
            have : (q + 1) * i.size ≤ len * i.size := Nat.mul_le_mul_right _ hq
            rw [Nat.add_mul] at this
            rw [List.getElem?_drop, List.getElem?_drop, List.getElem?_take, if_pos (by omega)]
          · rw [hxv] at hg
            simp only [Value.ownBlock, Option.some.injEq] at hg
            subst hg
            exact ⟨k1, _, _, rfl, hb', hmk, rfl⟩
    · cases hH
  · cases hH
/-- What is appended is these cells. -/
theorem append_core {t e : TypeId} {i : TypeInfo} {z : Value} {x y : Operand} {k : Option Nat} {n m c : Nat} {b : Bool} {el tl : Nat → List AV} {rd : List Nat} {ad : Addr} {news : List Value} (hW : Wd A0 R w0 E s.mem) (hnk : E.O nk = none) (hop : o.op = .call { callee := .builtin .append, args := #[x, y], argTypes := #[t, t] }) (hx : rel E (aeval s x) (a.eval x))
    (hun : P.underlying t = some (.slice e)) (hi : P.info? e = some i) (hz : i.zero = some z) (hzs : z.cells.size = i.size) (h63 : n + m ≤ maxLen) (hbytes : (n + m) * i.bytes ≤ 140737488355328) (hH : aHead s.mem e i.size (aeval s x) = some (b, k, n, el)) (hb : b = true)
    (hve : a.eval y = .slice (some ad) m c) (hnl : news.length = m * i.size) (hcell : ∀ j u, news[j]? = some u → E.w.cell? (ad.add j) = some u) (hone : ∀ u ∈ news, u.oneCell' = true) (hm0 : 0 < m) (htl : ∀ q, n ≤ q → q < n + m → (tl q).length = i.size ∧ pre E.fz (tl q) (news.drop ((q - n) * i.size)))
    (happ : AppOk E s.mem mem' nk ⟨.osl nk i.size 0 (n + m), rd, k.map (fun k => (k, Row.dead)), some (.a e i.size (n + m) (fun q => mixL (Nat.blt q n) (el q) (tl q)))⟩) (hK : ∀ E' u, E.le E' → (∀ k p, E'.O k = some p → E.O k = some p ∨ k = nk) → Wd A0 R w0 E' mem' → rel E' (.osl nk i.size 0 (n + m)) u → K (a.put o.dst u) E'.w) : o.wp P a E.w K Q :=
  append_coreR (t' := t) (news := news) hW hnk hop hx hH hb (fun xs hown => by rw [hve]; exact append_run (P := P) t o.type e i z hun hi hz hzs (a.eval x) n xs hown ad m c news hnl hcell hone hm0 h63 hbytes) htl happ hK
theorem aappend_wp {t : TypeId} {x y : Operand} {eff : Eff} (hW : Wd A0 R w0 E s.mem) (hnk : E.O nk = none) (hop : o.op = .call { callee := .builtin .append, args := #[x, y], argTypes := #[t, t] }) (hx : rel E (aeval s x) (a.eval x)) (hy : rel E (aeval s y) (a.eval y))
    (h : aappend P s nk t (aeval s x) (aeval s y) = some (true, eff)) (happ : AppOk E s.mem mem' nk eff) (hK : ∀ E' u, E.le E' → (∀ k p, E'.O k = some p → E.O k = some p ∨ k = nk) → Wd A0 R w0 E' mem' → rel E' eff.v u → K (a.put o.dst u) E'.w) : o.wp P a E.w K Q := by
  unfold aappend at h
  split at h
  · rename_i e hun
    split at h
    · rename_i i hi
      split at h
      · rename_i z hz
        split at h
        · rename_i b k n el j m ns hH hTl
          cases hk : ((z.cells.size == i.size) && (Nat.blt 0 i.bytes && ((ns.all fun new => new.all isCell) && ((ns.all noOwns) && !(k == some j)))))
          · rw [hk] at h; cases h
          · rw [hk] at h
            simp only [cond_true, Option.some.injEq, Prod.mk.injEq] at h
            obtain ⟨hb, rfl⟩ := h
            simp only [Bool.and_eq_true, beq_iff_eq] at hk hb
            obtain ⟨hzs, hby, hall, hno, hkj⟩ := hk
            obtain ⟨hb, hbytes⟩ := hb
            have hby : 0 < i.bytes := Nat.le_of_ble_eq_true hby
            have hbytes : (n + m) * i.bytes ≤ 140737488355328 := Nat.le_of_ble_eq_true hbytes
            have h63 : n + m ≤ maxLen := by
              have : (n + m) * 1 ≤ (n + m) * i.bytes := Nat.mul_le_mul_left _ hby
              simp only [maxLen]; omega
            obtain ⟨ad, c, news, hve, hnl, hcell, hone, hm0, hnsl, hrn⟩ := aTail_good hW hy hTl hall
            refine append_core hW hnk hop hx hun hi hz hzs h63 hbytes hH hb hve hnl hcell hone hm0 (fun q hq1 hq2 => ?_) happ hK
            refine spread_ok (fun l => l.length = i.size ∧ pre E.fz l (news.drop ((q - n) * i.size))) (fun bb xs ys g1 g2 => ⟨mixL_len (fun hb => (g1 hb).1) (fun hb => (g2 hb).1), mixL_pre (fun hb => (g1 hb).2) (fun hb => (g2 hb).2)⟩) ns n hq1 (by omega) fun p new hp hqp => ?_
            have e5 : q - n = p := by omega
            rw [e5]
            exact hrn p new hp
        · cases h
      · cases h
    · cases h
  · cases h

theorem aappendS_wp {t : TypeId} {x y : Operand} {eff : Eff} {sz m : Nat} {el2 : Nat → List AV} (hW : Wd A0 R w0 E s.mem) (hnk : E.O nk = none) (hop : o.op = .call { callee := .builtin .append, args := #[x, y], argTypes := #[t, t] }) (hx : rel E (aeval s x) (a.eval x)) (hy : rel E (.sl sz m el2) (a.eval y))
    (h : aappendS P s nk t (aeval s x) sz m el2 = some (true, eff)) (happ : AppOk E s.mem mem' nk eff) (hK : ∀ E' u, E.le E' → (∀ k p, E'.O k = some p → E.O k = some p ∨ k = nk) → Wd A0 R w0 E' mem' → rel E' eff.v u → K (a.put o.dst u) E'.w) : o.wp P a E.w K Q := by
  unfold aappendS at h
  split at h
  · rename_i e hun
    split at h
    · rename_i i hi
      split at h
      · rename_i z hz
        split at h
        · rename_i b k n el hH
          cases hk : ((z.cells.size == i.size) && (Nat.blt 0 i.bytes && (sz == i.size)))
          · rw [hk] at h; cases h
          · rw [hk] at h
            simp only [cond_true, Option.some.injEq, Prod.mk.injEq] at h
            obtain ⟨hb, rfl⟩ := h
            simp only [Bool.and_eq_true, beq_iff_eq] at hk hb
            obtain ⟨hzs, hby, rfl⟩ := hk
            obtain ⟨hb, hm0, hall, hbytes⟩ := hb
            have hby : 0 < i.bytes := Nat.le_of_ble_eq_true hby
            have hm0 : 0 < m := Nat.le_of_ble_eq_true hm0
            have hbytes : (n + m) * i.bytes ≤ 140737488355328 := Nat.le_of_ble_eq_true hbytes
            have h63 : n + m ≤ maxLen := by
              have : (n + m) * 1 ≤ (n + m) * i.bytes := Nat.mul_le_mul_left _ hby
              simp only [maxLen]; omega
            obtain ⟨ad0, c, hve, hnc, hcs⟩ := rel_sl.1 hy
            obtain ⟨bk, o0, cs, e0, fz0, rfl, hA, hcs, hel⟩ := hcs.resolve_left (by omega)
            have hsp : 0 < i.size ∨ i.size = 0 := by omega
            have hin : o0 + m * i.size ≤ cs.size ∨ i.size = 0 := by
              rcases hsp with hsp | hsp
              · refine Or.inl (Nat.le_of_not_lt fun hlt => ?_)
                obtain ⟨g1, g2⟩ := hel (m - 1) (by omega)
                have hl : (el2 (m - 1))[i.size - 1]? = some ((el2 (m - 1))[i.size - 1]'(by omega)) := List.getElem?_eq_getElem (by omega)
                obtain ⟨v, hv1, _⟩ := pre_get g2 hl
                rw [List.getElem?_drop] at hv1
                have h5 := (List.getElem?_eq_some_iff.1 hv1).1
                have e6 : (m - 1) * i.size + i.size = m * i.size := by rw [← Nat.succ_mul]; congr 1; omega
                simp at h5
                omega
              · exact Or.inr hsp
            have hnl : ((cs.toList.drop o0).take (m * i.size)).length = m * i.size := by
              rcases hin with h5 | h5
              · simp; omega
              · rw [h5]; simp
            refine append_core (news := (cs.toList.drop o0).take (m * i.size)) hW hnk hop hx hun hi hz hzs h63 hbytes hH hb hve hnl (fun j u hu => ?_) (fun u hu => ?_) hm0 (fun q hq1 hq2 => ?_) happ hK
            · have hadd : (⟨bk, o0, none⟩ : Addr).add j = ⟨bk, o0 + j, none⟩ := by unfold Addr.add; split <;> simp_all
              rw [hadd, cell_of_row E.w bk (o0 + j) cs _ _ hcs]
              rw [List.getElem?_take] at hu
              split at hu
              · rw [List.getElem?_drop] at hu
                simpa using hu
              · cases hu
            · obtain ⟨j, hj⟩ := List.mem_iff_getElem?.1 hu
              have hjl : j < m * i.size := by
                have h3 := (List.getElem?_eq_some_iff.1 hj).1
                rw [hnl] at h3
                exact h3
              have hsp : 0 < i.size := Nat.pos_of_ne_zero fun e => by rw [e] at hjl; simp at hjl
              have hpq : j / i.size < m := (Nat.div_lt_iff_lt_mul hsp).2 hjl
              obtain ⟨g1, g2⟩ := hel (j / i.size) hpq
              have hiq : j / i.size * i.size + j % i.size = j := by rw [Nat.mul_comm]; exact Nat.div_add_mod j i.size
              have hmod := Nat.mod_lt j hsp
              have hx2 : (el2 (j / i.size))[j % i.size]? = some ((el2 (j / i.size))[j % i.size]'(by omega)) := List.getElem?_eq_getElem (by omega)
              obtain ⟨v, hv1, hv2⟩ := pre_get g2 hx2
              rw [List.getElem?_take, if_pos hjl, List.getElem?_drop] at hj
              rw [List.getElem?_drop, Nat.add_assoc, hiq, hj] at hv1
              cases hv1
              refine rel_oneCell hv2 ?_
              exact List.all_eq_true.1 (allB_get hall _ hpq) _ (List.getElem_mem _)
            · obtain ⟨g1, g2⟩ := hel (q - n) (by omega)
              refine ⟨g1, pre_congr g2 fun r hr => ?_⟩
              rw [g1] at hr
              have : (q - n + 1) * i.size ≤ m * i.size := Nat.mul_le_mul_right _ (by omega)
              rw [Nat.add_mul] at this
              rw [List.getElem?_drop, List.getElem?_drop, List.getElem?_take, if_pos (by omega), List.getElem?_drop, Nat.add_assoc]
        · cases h
      · cases h
    · cases h
  · cases h
theorem run_append_nothing {P : Program} (w : World) (t ty e : TypeId) (i : TypeInfo) (ht : P.underlying t = some (.slice e)) (hi : P.info? e = some i) (base a : Option Addr) (l c c' : Nat) (hl : l ≤ c) :
    (Builtin.append_ #[t, t] ty #[.slice base l c, .slice a 0 c']).run P w = .ok (.slice base l c) w := by
  cases base <;> cases a <;> simp [Builtin.append_, run_underlying ht, sizeOf, typeInfo, hi, Builtin.lenOf, hl, Builtin.firstCells, storeCells, loadCells, loadCellsFrom, Sem.run_pure]
theorem aappend0_wp {t : TypeId} {x y : Operand} {ad : Option Addr} {c0 : Nat} {eff : Eff} (hW : Wd A0 R w0 E s.mem) (hnk : E.O nk = none) (hop : o.op = .call { callee := .builtin .append, args := #[x, y], argTypes := #[t, t] }) (hx : rel E (aeval s x) (a.eval x)) (hy : a.eval y = .slice ad 0 c0)
    (h : aappend0 P t (aeval s x) = some (true, eff)) (happ : AppOk E s.mem mem' nk eff) (hK : ∀ E' u, E.le E' → (∀ k p, E'.O k = some p → E.O k = some p ∨ k = nk) → Wd A0 R w0 E' mem' → rel E' eff.v u → K (a.put o.dst u) E'.w) : o.wp P a E.w K Q := by
  have fin : ∀ (e : TypeId) (i : TypeInfo) (base : Option Addr) (l c : Nat), P.underlying t = some (.slice e) → P.info? e = some i → a.eval x = .slice base l c → l ≤ c → eff = ⟨aeval s x, [], none, none⟩ → o.wp P a E.w K Q := by
    intro e i base l c ht hi hxe hlc heff
    have hWm : Wd A0 R w0 E mem' := by
      have same : ∀ k b c, E.O k = some (b, c) → mem'[k]? = s.mem[k]? := fun k b c hb => by
        have := happ.1 k (fun e => by rw [e, hnk] at hb; cases hb) b c hb
        rw [heff] at this
        exact this
      have live : ∀ k b c, E.O k = some (b, c) → liveAt mem' k = liveAt s.mem k := fun k b c hb => by unfold liveAt; rw [same k b c hb]
      exact ⟨fun k b c hb => by rw [same k b c hb]; exact hW.rows k b c hb, hW.small, hW.old, fun k b c hb hl => hW.own k b c hb (by rw [← live k b c hb]; exact hl), fun k k' b c c' hb hb' hl hl' => hW.one k k' b c c' hb hb' (by rw [← live k b c hb]; exact hl) (by rw [← live k' b c' hb']; exact hl'), hW.below, hW.le0⟩
    have hrun : (execOp a.eval o).run P E.w = .ok (.value (a.eval x)) E.w := by
      unfold execOp
      have hrn := run_append_nothing E.w t o.type e i ht hi base ad l c c0 hlc
      simp only [hop, resolve, invoke, builtin, Sem.run_bind, Sem.run_pure, Result.andThen_ok, List.map_toArray, List.map_cons, List.map_nil, hxe, hy, hrn]
    unfold Oper.wp
    rw [hrun]
    exact hK E _ (Env.le.refl _) (fun _ _ h => Or.inl h) hWm (by rw [heff]; exact hx)
  unfold aappend0 at h
  split at h
  · rename_i e ht
    split at h
    · rename_i i hi
      split at h
      · rename_i k sz st len hxe
        simp only [Option.some.injEq, Prod.mk.injEq, true_and] at h
        rw [hxe] at hx
        rcases rel_osl.1 hx with ⟨h1, h2, h3⟩ | ⟨b, c, n, h1, h2, h3, h4⟩
        · exact fin e i none 0 0 ht hi h3 (Nat.le_refl _) (by rw [← h, hxe])
        · exact fin e i _ len (c - st) ht hi h4 (by omega) (by rw [← h, hxe])
      · rename_i hxe
        simp only [Option.some.injEq, Prod.mk.injEq, true_and] at h
        rw [hxe] at hx
        exact fin e i none 0 0 ht hi (rel_x.1 hx) (Nat.le_refl _) (by rw [← h, hxe])
      · cases h
    · cases h
  · cases h
theorem aappendZ_wp {t : TypeId} {x y : Operand} {eff : Eff} (hW : Wd A0 R w0 E s.mem) (hnk : E.O nk = none) (hop : o.op = .call { callee := .builtin .append, args := #[x, y], argTypes := #[t, t] }) (hx : rel E (aeval s x) (a.eval x)) (hy : rel E (aeval s y) (a.eval y))
    (h : aappendZ P s nk t (aeval s x) (aeval s y) = some (true, eff)) (happ : AppOk E s.mem mem' nk eff) (hK : ∀ E' u, E.le E' → (∀ k p, E'.O k = some p → E.O k = some p ∨ k = nk) → Wd A0 R w0 E' mem' → rel E' eff.v u → K (a.put o.dst u) E'.w) : o.wp P a E.w K Q := by
  unfold aappendZ at h
  split at h
  · rename_i e hun
    split at h
    · rename_i i hi
      split at h
      · rename_i z hz
        split at h
        · rename_i k n el j m ns hH hTl
          cases hk : ((z.cells.size == i.size) && (Nat.blt 0 i.bytes && ((ns.all fun new => new.all isCell) && ((ns.all noOwns) && !(k == j)))))
          · rw [hk] at h; cases h
          · rw [hk] at h
            simp only [cond_true, Option.some.injEq, Prod.mk.injEq] at h
            obtain ⟨hbytes, rfl⟩ := h
            simp only [Bool.and_eq_true, beq_iff_eq] at hk
            obtain ⟨hzs, hby, hall, hno, hkj⟩ := hk
            have hby : 0 < i.bytes := Nat.le_of_ble_eq_true hby
            have hbytes : (n + m) * i.bytes ≤ 140737488355328 := Nat.le_of_ble_eq_true hbytes
            have h63 : n + m ≤ maxLen := by
              have : (n + m) * 1 ≤ (n + m) * i.bytes := Nat.mul_le_mul_left _ hby
              simp only [maxLen]; omega
            have hsmall : n + m ≤ 9223372036854775807 := by simp only [maxLen] at h63; omega
            obtain ⟨ad, c, news, hve, hnl, hcell, hone, hm0, hnsl, hrn⟩ := aTail_good hW hy hTl hall
            unfold zHead at hH
            split at hH
            · rename_i k1 sz len hxe
              split at hH
              · rename_i e' sz' n' el' hmk
                cases hk2 : ((e == e') && ((sz == i.size) && ((sz' == i.size) && ((len == n') && Nat.blt 0 n'))))
                · rw [hk2] at hH; cases hH
                · rw [hk2] at hH
                  simp only [cond_true, Option.some.injEq, Prod.mk.injEq] at hH
                  obtain ⟨rfl, rfl, rfl⟩ := hH
                  simp only [Bool.and_eq_true, beq_iff_eq] at hk2
                  obtain ⟨rfl, rfl, hs2, rfl, hn0⟩ := hk2
                  subst hs2
                  have hn0 : 0 < len := Nat.le_of_ble_eq_true hn0
                  rw [hxe] at hx
                  rcases rel_osl.1 hx with ⟨_, h0, hxv⟩ | ⟨b', c', n2, hb', hle1, hle2, hxv⟩
                  · omega
                  · obtain ⟨row, hr, hrr⟩ := hW.rows k1 b' _ hb'
                    rw [hmk] at hr
                    cases hr
                    obtain ⟨cs, fz, hcs, hn, hcap, hel⟩ := hrr
                    simp only at hn hcap
                    obtain ⟨hcap, hcz⟩ := hcap trivial
                    subst hn hcap
                    have hxl : (cs.toList.take (c' * i.size)).length = c' * i.size := by simp; omega
                    have holds : ∀ j u, (cs.toList.take (c' * i.size))[j]? = some u → E.w.cell? ((⟨b', 0, none⟩ : Addr).add j) = some u := fun j u hj => by
                      rw [add_plain, Nat.zero_add]
                      have hj2 : j < c' * i.size := by
                        have := (List.getElem?_eq_some_iff.1 hj).1
                        rw [hxl] at this
                        exact this
                      rw [List.getElem?_take, if_pos hj2] at hj
                      simp only [World.cell?, hcs]
                      simpa using hj
                    have hr := run_append_grow (P := P) E.w t o.type e i z hun hi hz ⟨b', 0, none⟩ c' c' (cs.toList.take (c' * i.size)) hxl holds ad m c news hnl hcell (by omega) (by omega) (growslice_fits (by omega) hbytes)
                    have hxv' : a.eval x = .slice (some ⟨b', 0, none⟩) c' c' := by rw [hxv]; simp
                    refine append_goal (k := none) (t' := t) (news := news) hW hnk hop (fun q hq1 hq2 => ?_) happ hK (cs.toList.take (c' * i.size)) hxl (fun q hq => ⟨(hel q hq).1, fun E' hle => ?_⟩) ?_
                    · refine spread_ok (fun l => l.length = i.size ∧ pre E.fz l (news.drop ((q - c') * i.size))) (fun bb xs ys g1 g2 => ⟨mixL_len (fun hb => (g1 hb).1) (fun hb => (g2 hb).1), mixL_pre (fun hb => (g1 hb).2) (fun hb => (g2 hb).2)⟩) ns c' hq1 (by omega) fun p new hp hqp => ?_
                      have e5 : q - c' = p := by omega
                      rw [e5]
                      exact hrn p new hp
                    · refine pre_congr (pre_le hle.fz (hel q hq).2) fun p hp => ?_
                      rw [(hel q hq).1] at hp
                      have : (q + 1) * i.size ≤ c' * i.size := Nat.mul_le_mul_right _ hq
                      rw [Nat.add_mul] at this
                      rw [List.getElem?_drop, List.getElem?_drop, List.getElem?_take, if_pos (by omega)]
                    · have hge := grownCap_ge E.w (c' + m) c' e
                      have hcm : grownCap E.w (c' + m) c' e ≤ maxLen := grownCap_le_maxLen E.w (c' + m) c' e h63
                      have hlen : (cs.toList.take (c' * i.size) ++ news).length = (c' + m) * i.size := by rw [List.length_append, hxl, hnl, Nat.add_mul]
                      rw [hxv', hve]
                      refine ⟨_, _, _, _, hr, Or.inr rfl, heap_alloc_new E.w.drew _, ?_, hge, hcm, ?_, ⟨rfl, rfl, rfl, by simp, fun k hk _ => heap_alloc_old E.w.drew _ hk⟩⟩
                      · simp only [Array.size_append, List.size_toArray, size_zeroCells, hzs, hxl, hnl, ← Nat.add_mul]
                        congr 1
                        omega
                      · simp only [Array.toList_append, List.append_assoc]
                        rw [← List.append_assoc, ← hlen]
                        exact List.take_left
              · cases hH
            · cases hH
        · cases h
      · cases h
    · cases h
  · cases h
theorem aappendX_wp {t : TypeId} {x y : Operand} {eff : Eff} (hW : Wd A0 R w0 E s.mem) (hnk : E.O nk = none) (hop : o.op = .call { callee := .builtin .append, args := #[x, y], argTypes := #[t, t] }) (hx : rel E (aeval s x) (a.eval x)) (hy : rel E (aeval s y) (a.eval y))
    (h : aappendX P s nk t (aeval s x) (aeval s y) = some (true, eff)) (happ : AppOk E s.mem mem' nk eff) (hK : ∀ E' u, E.le E' → (∀ k p, E'.O k = some p → E.O k = some p ∨ k = nk) → Wd A0 R w0 E' mem' → rel E' eff.v u → K (a.put o.dst u) E'.w) : o.wp P a E.w K Q := by
  unfold aappendX at h
  split at h
  · rename_i ad c0 hye
    rw [hye] at hy
    exact aappend0_wp hW hnk hop hx (rel_x.1 hy) h happ hK
  · rename_i sz m el2 hye
    rw [hye] at hy
    exact aappendS_wp hW hnk hop hx hy h happ hK
  · cases hz : isZ s.mem (aeval s x)
    · rw [hz] at h
      exact aappend_wp hW hnk hop hx hy h happ hK
    · rw [hz] at h
      exact aappendZ_wp hW hnk hop hx hy h happ hK

theorem aappendT_wp {t t' : TypeId} {x y : Operand} {eff : Eff} (hW : Wd A0 R w0 E s.mem) (hnk : E.O nk = none) (hop : o.op = .call { callee := .builtin .append, args := #[x, y], argTypes := #[t, t'] }) (hx : rel E (aeval s x) (a.eval x)) (hy : rel E (aeval s y) (a.eval y))
    (h : aappendT P s nk t t' (aeval s x) (aeval s y) = some (true, eff)) (happ : AppOk E s.mem mem' nk eff) (hK : ∀ E' u, E.le E' → (∀ k p, E'.O k = some p → E.O k = some p ∨ k = nk) → Wd A0 R w0 E' mem' → rel E' eff.v u → K (a.put o.dst u) E'.w) : o.wp P a E.w K Q := by
  unfold aappendT at h
  split at h
  · rename_i b hye
    rw [hye] at hy
    have hyv := rel_x.1 hy
    split at h
    · rename_i hun'
      split at h
      · rename_i e hun
        split at h
        · rename_i i hi
          split at h
          · rename_i z hz
            split at h
            · rename_i bb k n el hH
              cases hk : ((z.cells.size == i.size) && (Nat.blt 0 i.bytes && (i.size == 1)))
              · rw [hk] at h; cases h
              · rw [hk] at h
                simp only [cond_true, Option.some.injEq, Prod.mk.injEq] at h
                obtain ⟨hb, rfl⟩ := h
                simp only [Bool.and_eq_true, beq_iff_eq] at hk hb
                obtain ⟨hzs, hby, hi1⟩ := hk
                obtain ⟨hb, hm0, hbytes⟩ := hb
                have hby : 0 < i.bytes := Nat.le_of_ble_eq_true hby
                have hm0 : 0 < b.size := Nat.le_of_ble_eq_true hm0
                have hbytes : (n + b.size) * i.bytes ≤ 140737488355328 := Nat.le_of_ble_eq_true hbytes
                have h63 : n + b.size ≤ maxLen := by
                  have : (n + b.size) * 1 ≤ (n + b.size) * i.bytes := Nat.mul_le_mul_left _ hby
                  simp only [maxLen]; omega
                refine append_coreR (m := b.size) (tl := fun q => [.x (.int .u8 (byAt b (q - n)))]) (news := b.data.toList.map (fun b => Value.int .u8 b.toNat)) hW hnk hop hx hH hb (fun xs hown => by rw [hyv]; exact append_runT t t' o.type e i z hun hun' hi hz hzs hi1 (a.eval x) n xs hown b _ rfl hm0 h63 hbytes) (fun q hq1 hq2 => ⟨hi1.symm, ?_⟩) happ hK
                have hlt : q - n < b.data.toList.length := by
                  have : b.data.toList.length = b.size := rfl
                  omega
                rw [hi1, Nat.mul_one, List.drop_eq_getElem_cons (by simpa using hlt)]
                refine pre_cons.2 ⟨_, _, rfl, ?_, pre_nil⟩
                rw [List.getElem_map]
                refine rel_x.2 ?_
                unfold byAt
                rw [List.getD_eq_getElem?_getD, List.getElem?_eq_getElem hlt]
                rfl
            · cases h
          · cases h
        · cases h
      · cases h
    · cases h
  · cases h
theorem aappA_wp {t t' : TypeId} {x y : Operand} {eff : Eff} (hW : Wd A0 R w0 E s.mem) (hnk : E.O nk = none) (hop : o.op = .call { callee := .builtin .append, args := #[x, y], argTypes := #[t, t'] }) (hx : rel E (aeval s x) (a.eval x)) (hy : rel E (aeval s y) (a.eval y))
    (h : aappA P s nk t t' (aeval s x) (aeval s y) = some (true, eff)) (happ : AppOk E s.mem mem' nk eff) (hK : ∀ E' u, E.le E' → (∀ k p, E'.O k = some p → E.O k = some p ∨ k = nk) → Wd A0 R w0 E' mem' → rel E' eff.v u → K (a.put o.dst u) E'.w) : o.wp P a E.w K Q := by
  unfold aappA at h
  cases hk : t == t'
  · rw [hk] at h
    exact aappendT_wp hW hnk hop hx hy h happ hK
  · rw [hk] at h
    have e1 := eq_of_beq hk
    subst e1
    exact aappendX_wp hW hnk hop hx hy h happ hK

/-- An iterator is made. -/
theorem arange_wp {t : TypeId} {x : Operand} {eff : Eff} (hW : Wd A0 R w0 E s.mem) (hnk : E.O nk = none) (hop : o.op = .range t x) (hx : rel E (aeval s x) (a.eval x))
    (h : arange P nk t (aeval s x) = some (true, eff)) (happ : AppOk E s.mem mem' nk eff) (hK : ∀ E' u, E.le E' → (∀ k p, E'.O k = some p → E.O k = some p ∨ k = nk) → Wd A0 R w0 E' mem' → rel E' eff.v u → K (a.put o.dst u) E'.w) : o.wp P a E.w K Q := by
  unfold arange at h
  split at h
  · rename_i hu
    split at h
    · rename_i st hst
      simp only [Option.some.injEq, Prod.mk.injEq, true_and] at h
      subst h
      rw [hst] at hx
      have hv := rel_x.1 hx
      have hg : E.w.grownBy (E.w.iter st 0) (some E.w.heap.size) := World.grownBy_alloc _ _ _
      have hle : E.le (E.row (E.w.iter st 0) nk E.w.heap.size (0, 0)) := Env.row_le hg (Or.inr (Nat.le_refl _)) (Or.inl hnk)
      have hWd : Wd A0 R w0 (E.row (E.w.iter st 0) nk E.w.heap.size (0, 0)) mem' := by
        refine hW.row hg (by simp [World.iter]) (Or.inr hW.below.size) (Or.inr (Nat.le_refl _)) (Or.inl hnk) (happ.2 _ rfl) ?_ ⟨World.iter_heap E.w st 0, rfl⟩
        intro k hk b c hb
        refine Or.inl ⟨happ.1 k hk b c hb, fun hl => ?_⟩
        have := hW.small b (hW.own k b c hb hl).1
        omega
      have hrun := run_range_string (P := P) E.w t st hu
      unfold Oper.wp execOp
      simp only [hop, hv, Sem.run_bind, hrun, Result.andThen_ok, Sem.run_pure, Oper.upon_value]
      exact hK _ _ hle Env.row_O hWd (rel_own.2 ⟨E.w.heap.size, (0, 0), by simp [Env.row], rfl⟩)
    · cases h
  · cases h
theorem run_next_on {P : Program} {w : World} {b : Nat} {st : ByteArray} {p : Nat} (ty : TypeId) (hb : w.heap[b]? = some (.stringIter st p)) (hp : p < st.size) :
    (Instr.next (.pointer (some ⟨b, 0, none⟩)) true ty).run P w = .ok (.tuple #[.bool true, .int .i64 (p : Nat), .int .i32 ((Utf8.decode st p).1 : Nat)]) { w with heap := w.heap.setIfInBounds b (.stringIter st (p + (Utf8.decode st p).2)) } := by
  simp only [Instr.next, getObj, setObj, Sem.run_bind, Sem.run, hb, Result.andThen, hp, if_true]
  simp [goInt]
theorem run_next_out {P : Program} {w : World} {b : Nat} {st : ByteArray} {p : Nat} (ty : TypeId) (hb : w.heap[b]? = some (.stringIter st p)) (hp : ¬ p < st.size) :
    (Instr.next (.pointer (some ⟨b, 0, none⟩)) true ty).run P w = .ok (.tuple #[.bool false]) w := by
  simp [Instr.next, getObj, Sem.run, hb, hp]
/-- An iterator goes on. -/
theorem anext_wp {it : Operand} {eff : Eff} (hW : Wd A0 R w0 E s.mem) (hnk : E.O nk = none) (hop : o.op = .next it true) (hx : rel E (aeval s it) (a.eval it))
    (h : anext s (aeval s it) = some (true, eff)) (happ : AppOk E s.mem mem' nk eff) (hK : ∀ E' u, E.le E' → (∀ k p, E'.O k = some p → E.O k = some p ∨ k = nk) → Wd A0 R w0 E' mem' → rel E' eff.v u → K (a.put o.dst u) E'.w) : o.wp P a E.w K Q := by
  unfold anext at h
  split at h
  · rename_i k hit
    rw [hit] at hx
    obtain ⟨b, c, hO, hv⟩ := rel_own.1 hx
    obtain ⟨row, hr, hrr⟩ := hW.rows k b c hO
    have hne : k ≠ nk := fun e => by rw [e, hnk] at hO; cases hO
    split at h
    · rename_i st p hmk
      simp only [Option.some.injEq, Prod.mk.injEq, true_and] at h
      subst h
      rw [hmk] at hr
      cases hr
      obtain ⟨hb, he⟩ := hrr
      have hp : p < st.size := Nat.lt_of_not_le fun hc => by rw [Nat.ble_eq_true_of_le hc] at he; cases he
      have hl : liveAt s.mem k = true := by unfold liveAt; rw [hmk]; rfl
      obtain ⟨hA, hR⟩ := hW.own k b c hO hl
      have hlt := (Array.getElem?_eq_some_iff.1 hb).1
      let w1 : World := { E.w with heap := E.w.heap.setIfInBounds b (.stringIter st (p + (Utf8.decode st p).2)) }
      have hg : E.w.grownBy w1 (some b) := ⟨rfl, rfl, rfl, by simp [w1], fun j _ hj => by
        show (E.w.heap.setIfInBounds b _)[j]? = _
        rw [Array.getElem?_setIfInBounds_ne (fun e => hj (by rw [e]))]⟩
      have hle : E.le (E.row w1 k b c) := Env.row_le hg (Or.inl hA) (Or.inr hO)
      have hWd : Wd A0 R w0 (E.row w1 k b c) mem' := by
        refine hW.row hg (by simpa [w1] using hlt) hR (Or.inl hA) (Or.inr hO) (row1 := .i st (p + (dcX st p).2) (Nat.ble st.size (p + (dcX st p).2))) (by rw [happ.1 k hne b c hO]; simp) ?_ ⟨by
          show (E.w.heap.setIfInBounds b _)[b]? = _
          rw [Array.getElem?_setIfInBounds_self_of_lt hlt, dcX_eq], rfl⟩
        intro j hj b' c' hb'
        have hjn : j ≠ nk := fun e => by rw [e, hnk] at hb'; cases hb'
        refine Or.inl ⟨by rw [happ.1 j hjn b' c' hb']; simp [hj], fun hlj e => hj ?_⟩
        subst e
        exact hW.one j k b' c' c hb' hO hlj hl
      have hrun := run_next_on (P := P) o.type hb hp
      unfold Oper.wp execOp
      simp only [hop, hv, Sem.run_bind, hrun, Result.andThen_ok, Sem.run_pure, Oper.upon_value]
      refine hK _ _ hle (Env.row_same hO) hWd (rel_tup.2 ⟨_, rfl, ?_⟩)
      rw [dcX_eq]
      exact rels_cons.2 ⟨_, _, rfl, rel_x.2 rfl, rels_cons.2 ⟨_, _, rfl, rel_x.2 rfl, rels_cons.2 ⟨_, _, rfl, rel_x.2 rfl, rels_nil.2 rfl⟩⟩⟩
    · rename_i st p hmk
      simp only [Option.some.injEq, Prod.mk.injEq, true_and] at h
      subst h
      rw [hmk] at hr
      cases hr
      obtain ⟨hb, he⟩ := hrr
      have hp : ¬ p < st.size := Nat.not_lt.2 (Nat.le_of_ble_eq_true he.symm)
      have hWd : Wd A0 R w0 E mem' := by
        refine ⟨fun j b' c' hb' => ?_, hW.small, hW.old, fun j b' c' hb' hl => ?_, fun j j' b' c' c'' hb' hb'' hl hl' => ?_, hW.below, hW.le0⟩
        · obtain ⟨row, h1, h2⟩ := hW.rows j b' c' hb'
          exact ⟨row, by rw [happ.1 j (fun e => by rw [e, hnk] at hb'; cases hb') b' c' hb']; exact h1, h2⟩
        · refine hW.own j b' c' hb' ?_
          unfold liveAt at hl ⊢
          rw [happ.1 j (fun e => by rw [e, hnk] at hb'; cases hb') b' c' hb'] at hl
          exact hl
        · refine hW.one j j' b' c' c'' hb' hb'' ?_ ?_
          · unfold liveAt at hl ⊢
            rw [happ.1 j (fun e => by rw [e, hnk] at hb'; cases hb') b' c' hb'] at hl
            exact hl
          · unfold liveAt at hl' ⊢
            rw [happ.1 j' (fun e => by rw [e, hnk] at hb''; cases hb'') b' c'' hb''] at hl'
            exact hl'
      have hrun := run_next_out (P := P) o.type hb hp
      unfold Oper.wp execOp
      simp only [hop, hv, Sem.run_bind, hrun, Result.andThen_ok, Sem.run_pure, Oper.upon_value]
      exact hK _ _ (Env.le.refl _) (fun k p h => Or.inl h) hWd (rel_tup.2 ⟨_, rfl, rels_cons.2 ⟨_, _, rfl, rel_x.2 rfl, rels_nil.2 rfl⟩⟩)
    · cases h
  · cases h
/-- ONE OPERATION THAT MAKES OR WRITES. -/
theorem awr_wp {T : Tab} {eff : Eff} (hT : TOk P T) (hg : glob E) (hW : Wd A0 R w0 E s.mem) (hnk : E.O nk = none) (hρ : ∀ y, y ∈ o.op.operands → rel E (aeval s y) (a.eval y))
    (h : awr P T s nk o = some (true, eff)) (happ : AppOk E s.mem mem' nk eff) (hK : ∀ E' u, E.le E' → (∀ k p, E'.O k = some p → E.O k = some p ∨ k = nk) → Wd A0 R w0 E' mem' → rel E' eff.v u → K (a.put o.dst u) E'.w) : o.wp P a E.w K Q := by
  unfold awr at h
  split at h
  · rename_i t x hop
    cases hk : okPart (aeval s x)
    · rw [hk] at h; cases h
    · rw [hk] at h
      simp only [cond_true, Option.some.injEq, Prod.mk.injEq, true_and] at h
      subst h
      have hx := hρ x (by rw [hop]; simp [Op.operands])
      obtain ⟨E', e1, e2, eO, e3, e4⟩ := made_c hW hnk happ t (cells_rel hx hk)
      unfold Oper.wp execOp
      simp only [hop, Instr.box, newVar, newRow, Sem.run_bind, run_newObj, Result.andThen_ok, Sem.run_pure, Oper.upon_value]
      have := hK E' _ e2 eO e3 e4
      rw [e1] at this
      exact this
  · rename_i t hop
    split at h
    · rename_i z hz
      split at h
      · simp only [Option.some.injEq, Prod.mk.injEq, true_and] at h
        subst h
        obtain ⟨E', e1, e2, eO, e3, e4⟩ := made_t hW hnk t happ (rels_canA E z.cells.toList)
        have hzr := run_of_pureOf E.w hz
        unfold Oper.wp execOp
        simp only [hop, Instr.alloc, newVar, newRow, Sem.run_bind, hzr, run_newObj, Result.andThen_ok, Sem.run_pure, Oper.upon_value]
        have := hK E' _ e2 eO e3 e4
        rw [e1] at this
        exact this
      · simp only [Option.some.injEq, Prod.mk.injEq, true_and] at h
        subst h
        obtain ⟨E', e1, e2, eO, e3, e4⟩ := made_c hW hnk happ t (rels_canA E z.cells.toList)
        have hzr := run_of_pureOf E.w hz
        unfold Oper.wp execOp
        simp only [hop, Instr.alloc, newVar, newRow, Sem.run_bind, hzr, run_newObj, Result.andThen_ok, Sem.run_pure, Oper.upon_value]
        have := hK E' _ e2 eO e3 e4
        rw [e1] at this
        exact this
    · cases h
  · rename_i t len ps hop
    split at h
    · exact abuildF_wp hW hnk hop (fun y hy => hρ y (by rw [hop]; simpa [Op.operands] using hy)) h happ hK
    · exact abuildX_wp hW hnk hop (fun y hy => hρ y (by rw [hop]; simpa [Op.operands] using hy)) h happ hK
  · rename_i t l c hop
    exact amake_wp hW hnk hop (hρ l (by rw [hop]; simp [Op.operands])) (hρ c (by rw [hop]; simp [Op.operands])) h happ hK
  · rename_i t p x hop
    cases hd : o.dst with
    | some d => rw [hd] at h; cases h
    | none =>
      rw [hd] at h
      exact astore_wp hW hnk hop hd (hρ p (by rw [hop]; simp [Op.operands])) (hρ x (by rw [hop]; simp [Op.operands])) h happ hK
  · rename_i src dst x hop
    exact amark_wp hW hnk hop (hρ x (by rw [hop]; simp [Op.operands])) h happ hK
  · rename_i t x hop
    exact arange_wp hW hnk hop (hρ x (by rw [hop]; simp [Op.operands])) h happ hK
  · rename_i it bb hop
    cases bb with
    | false => cases h
    | true => exact anext_wp hW hnk hop (hρ it (by rw [hop]; simp [Op.operands])) h happ hK
  · rename_i c hop
    obtain ⟨callee, args, argTypes⟩ := c
    simp only at h
    split at h
    · split at h
      · rename_i x y t t' hargs hty
        have ha : ∃ x' y', args = #[x', y'] ∧ aeval s x' = x ∧ aeval s y' = y := by
          obtain ⟨l⟩ := args
          simp only at hargs
          match l, hargs with
          | [x', y'], hargs => simp at hargs; exact ⟨x', y', rfl, hargs.1, hargs.2⟩
        obtain ⟨x', y', rfl, rfl, rfl⟩ := ha
        have ht : argTypes = #[t, t'] := by cases argTypes; simpa using hty
        subst ht
        exact aappA_wp hW hnk hop (hρ x' (by rw [hop]; simp [Op.operands, Call.operands])) (hρ y' (by rw [hop]; simp [Op.operands, Call.operands])) h happ hK
      · cases h
    · split at h
      · rename_i x y t t' hargs hty
        cases hk : t == t'
        · rw [hk] at h; cases h
        · rw [hk] at h
          have e1 := eq_of_beq hk
          subst e1
          simp only [cond_true] at h
          have ha : ∃ x' y', args = #[x', y'] ∧ aeval s x' = x ∧ aeval s y' = y := by
            obtain ⟨l⟩ := args
            simp only at hargs
            match l, hargs with
            | [x', y'], hargs => simp at hargs; exact ⟨x', y', rfl, hargs.1, hargs.2⟩
          obtain ⟨x', y', rfl, rfl, rfl⟩ := ha
          have ht : argTypes = #[t, t] := by cases argTypes; simpa using hty
          subst ht
          exact acopy_wp hW hnk hop (hρ x' (by rw [hop]; simp [Op.operands, Call.operands])) (hρ y' (by rw [hop]; simp [Op.operands, Call.operands])) h happ hK
      · cases h
    · rename_i f
      cases hTr : T.r f with
      | some g =>
        simp only [hTr] at h
        unfold acallR at h
        split at h
        · rename_i b v rd hge
          cases hno : noOwn v
          · rw [hno] at h; cases h
          · rw [hno] at h
            simp only [cond_true, Option.some.injEq, Prod.mk.injEq] at h
            obtain ⟨rfl, rfl⟩ := h
            obtain ⟨⟨fn, h1, h2, h3⟩, hs⟩ := (hT.2.2.2.2 f g hTr).2 _ _ _ _ hge
            have hr : rels E (args.toList.map (aeval s)) (args.map a.eval).toList := by
              have := rels_of (E := E) (s := s) (ρ := a.eval) (ys := args.toList) (fun y hy => hρ y (by rw [hop]; simp [Op.operands, Call.operands]; exact Or.inr (by simpa using hy)))
              simpa using this
            have hc := hs A0 R w0 E s.mem (args.map a.eval) hW (fun _ _ => rfl) hg hr
            unfold Oper.wp
            have hf : a.eval (.func f) = .func (.func f) #[] #[] := rfl
            have hrun : (execOp a.eval o).run P E.w = .ok (.enter f (args.map a.eval)) E.w := by
              unfold execOp
              simp only [hop, resolve, hf, Deferred.ofValue, Sem.run_bind, Sem.run_pure, Result.andThen_ok, invoke, callFunc, run_program, h1, h2, h3, Array.append_empty, Array.empty_append, Bool.false_eq_true, if_false]
            rw [hrun]
            exact hc.mono fun e w'' ⟨u, he, hu, hbel⟩ => by
              subst he
              obtain ⟨hw1, hw2⟩ := hW.on hbel
              have same : ∀ k b c, E.O k = some (b, c) → mem'[k]? = s.mem[k]? := fun k b c hb => happ.1 k (fun e => by rw [e, hnk] at hb; cases hb) b c hb
              have live : ∀ k b c, E.O k = some (b, c) → liveAt mem' k = liveAt s.mem k := fun k b c hb => by unfold liveAt; rw [same k b c hb]
              exact hK { E with w := w'' } u hw2 (fun _ _ h => Or.inl h) ⟨fun k b c hb => by rw [same k b c hb]; exact hw1.rows k b c hb, hw1.small, hw1.old, fun k b c hb hl => hw1.own k b c hb (by rw [← live k b c hb]; exact hl), fun k k' b c c' hb hb' hl hl' => hw1.one k k' b c c' hb hb' (by rw [← live k b c hb]; exact hl) (by rw [← live k' b c' hb']; exact hl'), hw1.below, hw1.le0⟩ hu
        · cases h
      | none =>
      simp only [hTr] at h
      unfold acallM at h
      split at h
      · rename_i g hgm
        split at h
        · rename_i b eff' hge
          cases hrd : eff'.rd == rowsL (args.toList.map (aeval s))
          · rw [hrd] at h; cases h
          · rw [hrd] at h
            simp only [cond_true, Option.some.injEq, Prod.mk.injEq] at h
            obtain ⟨rfl, rfl⟩ := h
            obtain ⟨⟨fn, h1, h2, h3⟩, hs⟩ := (hT.2.1 f g hgm).1 _ _ _ _ hge (eq_of_beq hrd)
            have hr : rels E (args.toList.map (aeval s)) (args.map a.eval).toList := by
              have := rels_of (E := E) (s := s) (ρ := a.eval) (ys := args.toList) (fun y hy => hρ y (by rw [hop]; simp [Op.operands, Call.operands]; exact Or.inr (by simpa using hy)))
              simpa using this
            have hc := hs A0 R w0 E mem' (args.map a.eval) hW hnk hg hr happ
            unfold Oper.wp
            have hf : a.eval (.func f) = .func (.func f) #[] #[] := rfl
            have hrun : (execOp a.eval o).run P E.w = .ok (.enter f (args.map a.eval)) E.w := by
              unfold execOp
              simp only [hop, resolve, hf, Deferred.ofValue, Sem.run_bind, Sem.run_pure, Result.andThen_ok, invoke, callFunc, run_program, h1, h2, h3, Array.append_empty, Array.empty_append, Bool.false_eq_true, if_false]
            rw [hrun]
            exact hc.mono fun e w'' ⟨u, E', he, hw, hle, hO, hWd, hu⟩ => by
              subst he
              have := hK E' u hle hO hWd hu
              rw [hw] at this
              exact this
        · cases h
      · cases h
    · cases h
  · cases h
end
end
end Go.Gv

namespace Go.Gv
open Go.RowKit Go.Ev
noncomputable section

def elOf : Option Row → Nat → List AV
  | some (.a _ _ _ el) => el
  | some (.z _ _ _ _ el) => el
  | _ => fun _ => []
mutual
def lendA (mem : List Row) : AV → AV
  | .osl k sz st len => .sl sz len fun i => elOf mem[k]? (st + i)
  | .view k sz st sub len => match mem[k]? with
    | some (.c l) => .sl sz len fun i => (l.drop (st * sz + sub + i * sz)).take sz
    | r => .sl sz len fun i => elOf r (st + i)
  | .agg l => .agg (lendL mem l)
  | x => x
def lendL (mem : List Row) : List AV → List AV
  | [] => []
  | x :: xs => lendA mem x :: lendL mem xs
end
mutual
def lendB (mem : List Row) : AV → Bool
  | .osl k sz st len => match mem[k]? with
    | some (.a _ sz' n _) => Nat.beq sz sz' && Nat.ble (st + len) n
    | some (.z _ _ sz' n _) => Nat.beq sz sz' && Nat.ble (st + len) n
    | _ => false
  | .view k sz st sub len => match mem[k]? with
    | some (.a _ sz' n _) => Nat.beq sz sz' && (Nat.beq sub 0 && Nat.ble (st + len) n)
    | some (.c l) => noOwns l && Nat.ble (st * sz + sub + len * sz) l.length
    | _ => false
  | .agg l => lendBL mem l
  | .x _ => true
  | .f _ => true
  | .cx _ _ => true
  | .sl _ _ _ => true
  | .ref _ _ => true
  | .any => true
  | _ => false
def lendBL (mem : List Row) : List AV → Bool
  | [] => true
  | x :: xs => lendB mem x && lendBL mem xs
end
/-- The world, with nothing that may be written. -/
def Env.shut (E : Env) : Env := ⟨E.w, fun _ => False, fun _ => none⟩
theorem shut_fz (E : Env) : E.fz.le E.shut.fz := ⟨fun _ _ _ hob => ⟨id, hob⟩, fun _ _ h => by cases h⟩
theorem lend_row {E : Env} {mem : List Row} (hm : MemRel E mem) {k b : Nat} {c n : Nat} (hO : E.O k = some (b, c, n)) {e : TypeId} {sz n' : Nat} {el : Nat → List AV} (hk : mem[k]? = some (.a e sz n' el)) :
    ∃ cs, E.w.heap[b]? = some (.cells cs e (0, 0)) ∧ n = n' ∧ ∀ i, i < n' → (el i).length = sz ∧ pre E.shut.fz (el i) (cs.toList.drop (i * sz)) := by
  obtain ⟨row, g1, g2⟩ := hm k b (c, n) hO
  rw [hk] at g1
  cases g1
  obtain ⟨cs, h3, _, h5, _, _, h8⟩ := g2
  exact ⟨cs, h3, h5, fun i hi => ⟨(h8 i hi).1, preA_le (el i) (shut_fz E) _ (h8 i hi).2⟩⟩
mutual
theorem lend_rel : ∀ (x : AV) {E : Env} {mem : List Row} {u : Value}, MemRel E mem → lendB mem x = true → relA x E u → relA (lendA mem x) E.shut u
  | .osl k sz st len, E, mem, u, hm, hb, hr => by
    rw [lendB] at hb
    split at hb
    · rename_i e sz' n' el hk
      simp only [Bool.and_eq_true] at hb
      have hsz := Nat.eq_of_beq_eq_true hb.1
      have hle := Nat.le_of_ble_eq_true hb.2
      subst hsz
      have e1 : lendA mem (.osl k sz st len) = .sl sz len fun i => el (st + i) := by simp only [lendA, hk, elOf]
      rw [e1]
      rcases rel_osl.1 hr with ⟨_, h2, rfl⟩ | ⟨b, c, n, hO, h1, h2, rfl⟩
      · exact rel_sl.2 ⟨none, 0, by rw [h2], by omega, Or.inl h2⟩
      · obtain ⟨cs, h3, h4, h5⟩ := lend_row hm hO hk
        refine rel_sl.2 ⟨_, _, rfl, by omega, Or.inr ⟨b, st * sz, cs, e, (0, 0), rfl, id, h3, fun i hi => ?_⟩⟩
        obtain ⟨h6, h7⟩ := h5 (st + i) (by omega)
        refine ⟨h6, ?_⟩
        rw [← Nat.add_mul]
        exact h7
    · rename_i e sz' n' el hk
      simp only [Bool.and_eq_true] at hb
      have hsz := Nat.eq_of_beq_eq_true hb.1
      have hle := Nat.le_of_ble_eq_true hb.2
      subst hsz
      have e1 : lendA mem (.osl k sz st len) = .sl sz len fun i => el (st + i) := by simp only [lendA, hk, elOf]
      rw [e1]
      rcases rel_osl.1 hr with ⟨_, h2, rfl⟩ | ⟨b, c, n, hO, h1, h2, rfl⟩
      · exact rel_sl.2 ⟨none, 0, by rw [h2], by omega, Or.inl h2⟩
      · obtain ⟨row, g1, g2⟩ := hm k b (c, n) hO
        rw [hk] at g1
        cases g1
        obtain ⟨cs, fz, h3, h4, _, h5⟩ := g2
        refine rel_sl.2 ⟨_, _, rfl, by omega, Or.inr ⟨b, st * sz, cs, e, fz, rfl, id, h3, fun i hi => ?_⟩⟩
        obtain ⟨h6, h7⟩ := h5 (st + i) (by omega)
        refine ⟨h6, ?_⟩
        rw [← Nat.add_mul]
        exact preA_le (el (st + i)) (shut_fz E) _ h7
    · cases hb
  | .view k sz st sub len, E, mem, u, hm, hb, hr => by
    rw [lendB] at hb
    split at hb
    · rename_i e sz' n' el hk
      simp only [Bool.and_eq_true] at hb
      have hsz := Nat.eq_of_beq_eq_true hb.1
      have hsub := Nat.eq_of_beq_eq_true hb.2.1
      have hle := Nat.le_of_ble_eq_true hb.2.2
      subst hsz
      subst hsub
      have e1 : lendA mem (.view k sz st 0 len) = .sl sz len fun i => el (st + i) := by simp only [lendA, hk, elOf]
      rw [e1]
      unfold relA at hr
      obtain ⟨a, c, rfl, h2, h3⟩ := hr
      rcases h3 with h3 | ⟨b, ⟨c', n⟩, hO, rfl⟩
      · exact rel_sl.2 ⟨_, _, rfl, h2, Or.inl h3⟩
      · obtain ⟨cs, h3, h4, h5⟩ := lend_row hm hO hk
        refine rel_sl.2 ⟨_, _, rfl, h2, Or.inr ⟨b, st * sz + 0, cs, e, (0, 0), rfl, id, h3, fun i hi => ?_⟩⟩
        obtain ⟨h6, h7⟩ := h5 (st + i) (by omega)
        refine ⟨h6, ?_⟩
        rw [Nat.add_zero, ← Nat.add_mul]
        exact h7
    · rename_i l hk
      simp only [Bool.and_eq_true] at hb
      obtain ⟨hno, hle⟩ := hb
      have hle := Nat.le_of_ble_eq_true hle
      have e1 : lendA mem (.view k sz st sub len) = .sl sz len fun i => (l.drop (st * sz + sub + i * sz)).take sz := by simp only [lendA, hk]
      rw [e1]
      unfold relA at hr
      obtain ⟨a, c, rfl, h2, h3⟩ := hr
      rcases h3 with h3 | ⟨b, ⟨c', n⟩, hO, rfl⟩
      · exact rel_sl.2 ⟨_, _, rfl, h2, Or.inl h3⟩
      · obtain ⟨row, g1, g2⟩ := hm k b (c', n) hO
        rw [hk] at g1
        cases g1
        obtain ⟨cs, e, h4, h5⟩ := g2
        refine rel_sl.2 ⟨_, _, rfl, h2, Or.inr ⟨b, st * sz + sub, cs, e, (0, 0), rfl, id, h4, fun i hi => ?_⟩⟩
        have hi' : (i + 1) * sz ≤ len * sz := Nat.mul_le_mul_right _ hi
        rw [Nat.add_mul] at hi'
        have hps := pre_part (st * sz + sub + i * sz) sz h5 (by omega)
        refine ⟨by simp; omega, ?_⟩
        refine pre_le (E := E.fz) (shut_fz E) (pre_congr (pre_of_rels (rels_fz hps (noOwns_part hno))) fun r hr => ?_)
        have hr : r < sz := by
          have : ((l.drop (st * sz + sub + i * sz)).take sz).length ≤ sz := by simp; omega
          omega
        rw [List.getElem?_take, if_pos hr]
    · cases hb
  | .agg l, E, mem, u, hm, hb, hr => by
    rw [lendB] at hb
    rw [lendA]
    rw [relA] at hr ⊢
    obtain ⟨vs, h1, h2⟩ := hr
    exact ⟨vs, h1, lend_rels l hm hb h2⟩
  | .x _, _, _, _, _, _, hr => by simp only [lendA]; unfold relA at *; exact hr
  | .f _, _, _, _, _, _, hr => by simp only [lendA]; unfold relA at *; exact hr
  | .cx _ _, _, _, _, _, _, hr => by simp only [lendA]; unfold relA at *; exact hr
  | .any, _, _, _, _, _, _ => by simp only [lendA]; unfold relA; trivial
  | .sl sz n el, E, _, u, _, _, hr => by
    simp only [lendA]
    unfold relA at *
    obtain ⟨a, c, h1, h2, h3⟩ := hr
    refine ⟨a, c, h1, h2, ?_⟩
    rcases h3 with h3 | ⟨b, o, cs, e, fz, h4, _, h6, h7⟩
    · exact Or.inl h3
    · exact Or.inr ⟨b, o, cs, e, fz, h4, id, h6, fun i hi => ⟨(h7 i hi).1, preA_le (el i) (shut_fz E) _ (h7 i hi).2⟩⟩
  | .ref l off, E, _, u, _, _, hr => by
    simp only [lendA]
    unfold relA at *
    obtain ⟨b, o, cs, e, fz, h1, _, h3, h4⟩ := hr
    exact ⟨b, o, cs, e, fz, h1, id, h3, preA_le l (shut_fz E) _ h4⟩
  | .own _ _, _, _, _, _, hb, _ => by simp [lendB] at hb
  | .eown _ _ _ _, _, _, _, _, hb, _ => by simp [lendB] at hb
  | .tup _, _, _, _, _, hb, _ => by simp [lendB] at hb
  | .ifc _ _, _, _, _, _, hb, _ => by simp [lendB] at hb
  | .fn _ _ _, _, _, _, _, hb, _ => by simp [lendB] at hb
theorem lend_rels : ∀ (xs : List AV) {E : Env} {mem : List Row} {us : List Value}, MemRel E mem → lendBL mem xs = true → relsA xs E us → relsA (lendL mem xs) E.shut us
  | [], _, _, us, _, _, hr => by rw [lendL]; cases us <;> simp [relsA] at hr ⊢
  | x :: xs, E, mem, u :: us, hm, hb, hr => by
    rw [lendBL] at hb
    simp only [Bool.and_eq_true] at hb
    rw [lendL]
    rw [relsA] at hr ⊢
    exact ⟨lend_rel x hm hb.1 hr.1, lend_rels xs hm hb.2 hr.2⟩
  | _ :: _, _, _, [], _, _, hr => by simp [relsA] at hr
end
mutual
def plainA : AV → Bool
  | .x _ => true
  | .f _ => true
  | .cx _ _ => true
  | .agg l => plainL l
  | .tup l => plainL l
  | _ => false
def plainL : List AV → Bool
  | [] => true
  | x :: xs => plainA x && plainL xs
end
mutual
theorem plain_rel : ∀ (x : AV) {E E' : Env} {u : Value}, plainA x = true → relA x E u → relA x E' u
  | .x _, _, _, _, _, hr => by unfold relA at *; exact hr
  | .f _, _, _, _, _, hr => by unfold relA at *; exact hr
  | .cx _ _, _, _, _, _, hr => by unfold relA at *; exact hr
  | .agg l, _, _, _, hp, hr => by
    rw [plainA] at hp
    rw [relA] at hr ⊢
    obtain ⟨vs, h1, h2⟩ := hr
    exact ⟨vs, h1, plain_rels l hp h2⟩
  | .tup l, _, _, _, hp, hr => by
    rw [plainA] at hp
    rw [relA] at hr ⊢
    obtain ⟨vs, h1, h2⟩ := hr
    exact ⟨vs, h1, plain_rels l hp h2⟩
  | .own _ _, _, _, _, hp, _ => by simp [plainA] at hp
  | .eown _ _ _ _, _, _, _, hp, _ => by simp [plainA] at hp
  | .osl _ _ _ _, _, _, _, hp, _ => by simp [plainA] at hp
  | .view _ _ _ _ _, _, _, _, hp, _ => by simp [plainA] at hp
  | .ref _ _, _, _, _, hp, _ => by simp [plainA] at hp
  | .sl _ _ _, _, _, _, hp, _ => by simp [plainA] at hp
  | .ifc _ _, _, _, _, hp, _ => by simp [plainA] at hp
  | .fn _ _ _, _, _, _, hp, _ => by simp [plainA] at hp
  | .any, _, _, _, hp, _ => by simp [plainA] at hp
theorem plain_rels : ∀ (xs : List AV) {E E' : Env} {us : List Value}, plainL xs = true → relsA xs E us → relsA xs E' us
  | [], _, _, us, _, hr => by cases us <;> simp [relsA] at hr ⊢
  | x :: xs, _, _, u :: us, hp, hr => by
    rw [plainL] at hp
    simp only [Bool.and_eq_true] at hp
    rw [relsA] at hr ⊢
    exact ⟨plain_rel x hp.1 hr.1, plain_rels xs hp.2 hr.2⟩
  | _ :: _, _, _, [], _, hr => by simp [relsA] at hr
end
def propB (p : Prop) : Bool := @decide p (Classical.propDecidable p)
theorem propB_t {p : Prop} (h : p) : propB p = true := by unfold propB; exact @decide_eq_true p (Classical.propDecidable p) h
theorem propB_of {p : Prop} (h : propB p = true) : p := by unfold propB at h; exact @of_decide_eq_true p (Classical.propDecidable p) h
end
end Go.Gv
