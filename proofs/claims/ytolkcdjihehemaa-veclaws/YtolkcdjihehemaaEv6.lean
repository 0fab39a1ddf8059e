/-
  A region that draws its order: whatever order is drawn, it gives what the order of the text gives, if each operation waits for all that it looks at.
-/
import Derived.Test.YtolkcdjihehemaaEv5
namespace Go.Ev
open Go.RowKit

def hasEdge (o : Oper) (i : Nat) : Bool := o.after.toList.any fun e => e.on == i && Region.binds .any e

def tmpsOf (xs : List Operand) : List Nat := xs.filterMap fun | .tmp t => some t | _ => none
def looks (ops : List Oper) (o : Oper) : List Nat := tmpsOf o.op.operands.toList ++ testsOf ops o

def isAssign : Op → Bool
  | .move _ => true
  | .assign _ => true
  | _ => false
def isStore : Op → Bool
  | .store _ _ _ => true
  | _ => false
def isNew : Op → Bool
  | .box _ _ => true
  | .alloc _ => true
  | .buildSlice _ _ _ => true
  | _ => false
theorem not_both {op : Op} (h1 : isStore op = true) (h2 : isAssign op = true) : False := by cases op <;> first | (cases h1; done) | (cases h2; done)
def writes (o : Oper) (t : Nat) : Bool := o.dst == some t

def drawOk (ops : List Oper) (len : Nat) : Bool :=
  ops.zipIdx.all fun q =>
    !isNew q.1.op &&
    ((q.1.after.toList.all fun e => !Region.binds .any e || Nat.blt e.on q.2) &&
    ((match q.1.dst with | some d => Nat.blt d len && ops.zipIdx.all (fun p => !writes p.1 d || p.2 == q.2) | none => true) &&
    ((looks ops q.1).all (fun t => ops.zipIdx.all fun p => !writes p.1 t || ((Nat.blt p.2 q.2 && hasEdge q.1 p.2) || (Nat.blt q.2 p.2 && hasEdge p.1 q.2))) &&
    ((testsOf ops q.1).all (fun t => ops.zipIdx.all fun p => !writes p.1 t || Nat.blt p.2 q.2) &&
    (!isStore q.1.op || ops.zipIdx.all fun p => p.2 == q.2 || (isAssign p.1.op || (Nat.blt p.2 q.2 && hasEdge q.1 p.2)))))))

/-- What a region that draws gives: what the order of the text gives, where the look above says yes. -/
def drawn (P : Program) (T : Tab) (ops : List Oper) (s : St) : Option St :=
  cond (drawOk ops s.slots.length && s.slots.all (fun q => q.2.isEmpty)) (aops P T ops ops s) none

/-! ### The order of the text, state by state -/
theorem aops_states {P : Program} {T : Tab} {L : List Oper} : ∀ {l : List Oper} {s sf : St}, aops P T L l s = some sf → ∃ S : Nat → St, S 0 = s ∧ S l.length = sf ∧ ∀ k o, l[k]? = some o → aop P T L (S k) o = some (S (k + 1))
  | [], s, sf, h => by
    simp only [aops, Option.some.injEq] at h
    exact ⟨fun _ => s, rfl, h, fun k o hk => by simp at hk⟩
  | o :: l, s, sf, h => by
    simp only [aops] at h
    split at h
    · rename_i s1 h1
      obtain ⟨S, h2, h3, h4⟩ := aops_states h
      refine ⟨fun k => match k with | 0 => s | k + 1 => S k, rfl, h3, fun k o' hk => ?_⟩
      cases k with
      | zero => simp at hk; subst hk; show aop P T L s o = some (S 0); rw [h2]; exact h1
      | succ k => exact h4 k o' (by simpa using hk)
    · cases h

theorem cond_some {α : Type} {b : Bool} {x y : α} (h : cond b (some x) none = some y) : b = true ∧ x = y := by
  cases b
  · cases h
  · exact ⟨rfl, by simpa using h⟩

theorem aop_cases {P : Program} {T : Tab} {L : List Oper} {s s' : St} {o : Oper} (h : aop P T L s o = some s') (hn : isNew o.op = false) :
    (isStore o.op = true ∧ s'.slots = s.slots ∧ s'.ro = s.ro ∧ o.dst = none) ∨
    (isStore o.op = false ∧ ∃ c v, acalc P T L s o = some (c, v) ∧ s'.slots = putS s.slots o.dst (v, c) ∧ s'.mem = s.mem ∧ s'.ro = s.ro) := by
  have calc1 : ∀ (_ : isStore o.op = false) (_ : (match acalc P T L s o with | some (c, v) => cond (dstOk s.slots c o.dst) (some { s with slots := putS s.slots o.dst (v, c) }) none | none => none) = some s'),
      (isStore o.op = true ∧ s'.slots = s.slots ∧ s'.ro = s.ro ∧ o.dst = none) ∨
      (isStore o.op = false ∧ ∃ c v, acalc P T L s o = some (c, v) ∧ s'.slots = putS s.slots o.dst (v, c) ∧ s'.mem = s.mem ∧ s'.ro = s.ro) := by
    intro hs h
    split at h
    · rename_i c v hc
      cases hd : dstOk s.slots c o.dst
      · rw [hd] at h; cases h
      · rw [hd] at h
        simp only [cond_true, Option.some.injEq] at h
        subst h
        exact Or.inr ⟨hs, c, v, hc, rfl, rfl, rfl⟩
    · cases h
  unfold aop at h
  split at h
  · rename_i hop; rw [hop] at hn; cases hn
  · rename_i hop; rw [hop] at hn; cases hn
  · rename_i hop; rw [hop] at hn; cases hn
  · rename_i t p x hop
    split at h
    · split at h
      · rename_i cells inf hmi hinf
        obtain ⟨hk, h⟩ := cond_some h
        · subst h
          simp only [Bool.and_eq_true] at hk
          refine Or.inl ⟨by rw [hop]; rfl, rfl, rfl, ?_⟩
          cases hd : o.dst with
          | none => rfl
          | some d => rw [hd] at hk; exact absurd hk.2.1 (by simp)
      · cases h
    · cases h
  · rename_i hop1 hop2 hop2b hop3
    refine calc1 ?_ h
    cases hop : o.op <;> first | rfl | exact absurd hop (hop3 _ _ _)

/-! ### What an operation looks at is all that it hangs on -/
theorem aeval_congr {s1 s2 : St} {y : Operand} (h : ∀ t, y = .tmp t → s1.slots.getD t dflt = s2.slots.getD t dflt) : aeval s1 y = aeval s2 y := by
  cases y <;> first | rfl | (simp only [aeval]; rw [h _ rfl])

theorem opdOk_congr {s1 s2 : St} {c : Chain} {y : Operand} (h : ∀ t, y = .tmp t → s1.slots.getD t dflt = s2.slots.getD t dflt) : opdOk s1.slots c y = opdOk s2.slots c y := by
  cases y <;> first | rfl | (simp only [opdOk]; rw [h _ rfl])

theorem mem_tmpsOf {xs : List Operand} {y : Operand} {t : Nat} (hy : y ∈ xs) (ht : y = .tmp t) : t ∈ tmpsOf xs := by
  unfold tmpsOf
  exact List.mem_filterMap.2 ⟨y, hy, by rw [ht]⟩

theorem opChain_congr {ops : List Oper} {s1 s2 : St} {o : Oper} (h : ∀ t, t ∈ testsOf ops o → s1.slots.getD t dflt = s2.slots.getD t dflt) : opChain ops s1.slots o = opChain ops s2.slots o := by
  unfold opChain
  cases hg : o.guard with
  | none => rfl
  | some gw =>
    obtain ⟨j, want⟩ := gw
    simp only
    cases hj : ops[j]? with
    | none => rfl
    | some oj =>
      simp only
      cases hd : oj.dst with
      | none => rfl
      | some d => simp only; rw [h d (by simp [testsOf, hg, hj, hd])]

theorem aval_congr {P : Program} {T : Tab} {s1 s2 : St} {o : Oper} (h : ∀ y, y ∈ o.op.operands.toList → aeval s1 y = aeval s2 y) (hm : s1.mem = s2.mem ∨ isAssign o.op = true) : aval P T s1 o = aval P T s2 o := by
  obtain ⟨dst, op, type, pos, after, guard⟩ := o
  cases op <;> simp only [aval] <;> first | rfl | skip
  case move y => rw [h y (by simp [Op.operands])]
  case assign y => rw [h y (by simp [Op.operands])]
  case load t y =>
    rw [h y (by simp [Op.operands])]
    rcases hm with hm | hm
    · rw [hm]
    · cases hm
  case fieldAddr t y f => rw [h y (by simp [Op.operands])]
  case indexAddr t y z => rw [h y (by simp [Op.operands]), h z (by simp [Op.operands])]
  case index t y z => rw [h y (by simp [Op.operands]), h z (by simp [Op.operands])]
  case field t y f => rw [h y (by simp [Op.operands])]
  case binOp op t y z t2 => rw [h y (by simp [Op.operands]), h z (by simp [Op.operands])]
  case unOp op t y => rw [h y (by simp [Op.operands])]
  case build t ps =>
    congr 1
    refine List.map_congr_left fun p hp => ?_
    rw [h p.2 (by simp only [Op.operands]; exact List.mem_map_of_mem hp)]
  case extract y i => rw [h y (by simp [Op.operands])]
  case call c =>
    rcases hm with hm | hm
    · rw [hm]
      have : c.args.toList.map (aeval s1) = c.args.toList.map (aeval s2) := List.map_congr_left fun y hy => h y (by simp [Op.operands, Call.operands]; exact Or.inr (by simpa using hy))
      rw [this]
    · cases hm

theorem all_congr' {α : Type} {p q : α → Bool} : ∀ {l : List α}, (∀ x, x ∈ l → p x = q x) → l.all p = l.all q
  | [], _ => rfl
  | x :: l, h => by simp only [List.all_cons]; rw [h x (by simp), all_congr' (fun y hy => h y (by simp [hy]))]

theorem acalc_congr {P : Program} {T : Tab} {ops : List Oper} {s1 s2 : St} {o : Oper} (h : ∀ t, t ∈ looks ops o → s1.slots.getD t dflt = s2.slots.getD t dflt) (hm : s1.mem = s2.mem ∨ isAssign o.op = true) :
    acalc P T ops s1 o = acalc P T ops s2 o := by
  have hop : ∀ y, y ∈ o.op.operands.toList → ∀ t, y = .tmp t → s1.slots.getD t dflt = s2.slots.getD t dflt := fun y hy t ht => h t (List.mem_append_left _ (mem_tmpsOf hy ht))
  have hte : ∀ t, t ∈ testsOf ops o → s1.slots.getD t dflt = s2.slots.getD t dflt := fun t ht => h t (List.mem_append_right _ ht)
  unfold acalc
  rw [opChain_congr hte]
  cases hc : opChain ops s2.slots o with
  | none => rfl
  | some c =>
    simp only
    have hgen : cond (o.op.operands.toList.all (opdOk s1.slots c)) ((aval P T s1 o).map fun v => (c, v)) none = cond (o.op.operands.toList.all (opdOk s2.slots c)) ((aval P T s2 o).map fun v => (c, v)) none := by
      rw [all_congr' (fun y hy => opdOk_congr (hop y hy)), aval_congr (fun y hy => aeval_congr (hop y hy)) hm]
    split
    · rename_i g x y hopk
      have h1 := hop (.tmp g) (by rw [hopk]; simp [Op.operands])
      have h2 := hop x (by rw [hopk]; simp [Op.operands])
      have h3 := hop y (by rw [hopk]; simp [Op.operands])
      rw [opdOk_congr h1, opdOk_congr h2, opdOk_congr h3, aeval_congr h1, aeval_congr h2, aeval_congr h3]
    · exact hgen

/-! ### Counting -/
theorem countP_lt {α : Type} {p q : α → Bool} : ∀ {l : List α} {x : α}, (∀ y, y ∈ l → q y = true → p y = true) → x ∈ l → p x = true → q x = false → l.countP q < l.countP p
  | [], _, _, hx, _, _ => by cases hx
  | y :: l, x, h, hx, hp, hq => by
    rw [List.countP_cons, List.countP_cons]
    have hle : l.countP q ≤ l.countP p := List.countP_mono_left fun z hz => h z (by simp [hz])
    rcases List.mem_cons.1 hx with rfl | hx
    · rw [hp, hq]; simp; omega
    · have ih := countP_lt (fun z hz => h z (by simp [hz])) hx hp hq
      have hy := h y (by simp)
      cases hqy : q y
      · simp; omega
      · rw [hy hqy]; simp; omega

/-! ### Any order -/
section
variable {P : Program} {T : Tab} {base : Nat} {w0 : World} {bs : List Nat} {ops : Array Oper}

/-- Has an operation that writes this slot been carried out? -/
def wrB (ops : List Oper) (listed : Array Bool) (t : Nat) : Bool := ops.zipIdx.any fun p => writes p.1 t && listed.getD p.2 false
def stB (ops : List Oper) (listed : Array Bool) : Bool := ops.zipIdx.any fun p => isStore p.1.op && listed.getD p.2 false
/-- What is known in the middle of a region. -/
def mixS (ops : List Oper) (s0 sf : St) (listed : Array Bool) : St :=
  { slots := (List.range s0.slots.length).map fun t => cond (wrB ops listed t) (sf.slots.getD t dflt) (s0.slots.getD t dflt),
    mem := cond (stB ops listed) sf.mem s0.mem, ro := s0.ro }

structure JInv (base : Nat) (w0 : World) (bs : List Nat) (ops : Array Oper) (s0 sf : St) (listed : Array Bool) (a : Act) (w : World) : Prop where
  defers : a.defers = []
  frame : frel bs sf.slots (mixS ops.toList s0 sf listed).slots a.tmps
  mem : MemRel bs (mixS ops.toList s0 sf listed).mem w
  own : ∀ i b, s0.ro ≤ i → bs[i]? = some b → base ≤ b ∧ (∃ cs e, w.heap[b]? = some (.cells cs e (0, 0))) ∧ ∀ j, bs[j]? = some b → j = i
  below : Below base w0 w
  base_le : base ≤ w.heap.size
  size : listed.size = ops.size
  shut : ∀ i o, ops[i]? = some o → listed.getD i false = true → ∀ e, e ∈ o.after → Region.binds .any e = true → listed.getD e.on false = true

theorem mix_getD {L : List Oper} {s0 sf : St} (hl : sf.slots.length = s0.slots.length) (listed : Array Bool) (t : Nat) :
    (mixS L s0 sf listed).slots.getD t dflt = cond (wrB L listed t) (sf.slots.getD t dflt) (s0.slots.getD t dflt) := by
  simp only [mixS, List.getD_eq_getElem?_getD, List.getElem?_map]
  by_cases ht : t < s0.slots.length
  · simp [ht]
  · rw [List.getElem?_eq_none (by simpa using Nat.le_of_not_lt ht), List.getElem?_eq_none (by omega), List.getElem?_eq_none (by omega)]
    cases wrB L listed t <;> rfl

theorem wrB_iff {L : List Oper} {listed : Array Bool} {t : Nat} : wrB L listed t = true ↔ ∃ i o, L[i]? = some o ∧ writes o t = true ∧ listed.getD i false = true := by
  unfold wrB
  rw [List.any_eq_true]
  constructor
  · rintro ⟨⟨o, i⟩, hm, h⟩
    simp only [Bool.and_eq_true] at h
    exact ⟨i, o, List.mem_zipIdx_iff_getElem?.1 hm, h⟩
  · rintro ⟨i, o, h1, h2, h3⟩
    exact ⟨(o, i), List.mem_zipIdx_iff_getElem?.2 h1, by simp only [Bool.and_eq_true]; exact ⟨h2, h3⟩⟩
theorem stB_iff {L : List Oper} {listed : Array Bool} : stB L listed = true ↔ ∃ i o, L[i]? = some o ∧ isStore o.op = true ∧ listed.getD i false = true := by
  unfold stB
  rw [List.any_eq_true]
  constructor
  · rintro ⟨⟨o, i⟩, hm, h⟩
    simp only [Bool.and_eq_true] at h
    exact ⟨i, o, List.mem_zipIdx_iff_getElem?.1 hm, h⟩
  · rintro ⟨i, o, h1, h2, h3⟩
    exact ⟨(o, i), List.mem_zipIdx_iff_getElem?.2 h1, by simp only [Bool.and_eq_true]; exact ⟨h2, h3⟩⟩

theorem hasEdge_listed {o : Oper} {i : Nat} {listed : Array Bool} (h : hasEdge o i = true) (ha : ∀ e, e ∈ o.after → Region.binds .any e = true → listed.getD e.on false = true) : listed.getD i false = true := by
  unfold hasEdge at h
  rw [List.any_eq_true] at h
  obtain ⟨e, he, h2⟩ := h
  simp only [Bool.and_eq_true] at h2
  have : e.on = i := by simpa using h2.1
  rw [← this]
  exact ha e (by simpa using he) h2.2

/-- The look, opened. -/
theorem drawOk_spec {L : List Oper} {len : Nat} (h : drawOk L len = true) {j : Nat} {oj : Oper} (hj : L[j]? = some oj) :
    isNew oj.op = false ∧ (∀ e, e ∈ oj.after → Region.binds .any e = true → e.on < j) ∧ (∀ d, oj.dst = some d → d < len ∧ ∀ i oi, L[i]? = some oi → writes oi d = true → i = j) ∧
    (∀ t, t ∈ looks L oj → ∀ i oi, L[i]? = some oi → writes oi t = true → (i < j ∧ hasEdge oj i = true) ∨ (j < i ∧ hasEdge oi j = true)) ∧
    (∀ t, t ∈ testsOf L oj → ∀ i oi, L[i]? = some oi → writes oi t = true → i < j) ∧
    (isStore oj.op = true → ∀ i oi, L[i]? = some oi → i = j ∨ isAssign oi.op = true ∨ (i < j ∧ hasEdge oj i = true)) := by
  unfold drawOk at h
  rw [List.all_eq_true] at h
  have hq := h (oj, j) (List.mem_zipIdx_iff_getElem?.2 hj)
  simp only [Bool.and_eq_true] at hq
  obtain ⟨h1, h2, h3, h4, h5, h6⟩ := hq
  have mem : ∀ {i : Nat} {oi : Oper}, L[i]? = some oi → (oi, i) ∈ L.zipIdx := fun hi => List.mem_zipIdx_iff_getElem?.2 hi
  have lt : ∀ {x y : Nat}, Nat.blt x y = true → x < y := fun h => Nat.le_of_ble_eq_true h
  refine ⟨by simpa using h1, fun e he hb => ?_, fun d hd => ?_, fun t ht i oi hi hw => ?_, fun t ht i oi hi hw => ?_, fun hs i oi hi => ?_⟩
  · rw [List.all_eq_true] at h2
    have := h2 e (by simpa using he)
    rw [hb] at this
    exact lt (by simpa using this)
  · rw [hd] at h3
    simp only [Bool.and_eq_true] at h3
    refine ⟨lt h3.1, fun i oi hi hw => ?_⟩
    have h32 := h3.2
    rw [List.all_eq_true] at h32
    have := h32 (oi, i) (mem hi)
    simp only [hw] at this
    simpa using this
  · rw [List.all_eq_true] at h4
    have h41 := h4 t ht
    rw [List.all_eq_true] at h41
    have := h41 (oi, i) (mem hi)
    simp only [hw, Bool.not_true, Bool.false_or, Bool.or_eq_true, Bool.and_eq_true] at this
    rcases this with ⟨h, h'⟩ | ⟨h, h'⟩
    · exact Or.inl ⟨lt h, h'⟩
    · exact Or.inr ⟨lt h, h'⟩
  · rw [List.all_eq_true] at h5
    have h51 := h5 t ht
    rw [List.all_eq_true] at h51
    have := h51 (oi, i) (mem hi)
    simp only [hw, Bool.not_true, Bool.false_or] at this
    exact lt this
  · rw [hs] at h6
    simp only [Bool.not_true, Bool.false_or] at h6
    rw [List.all_eq_true] at h6
    have := h6 (oi, i) (mem hi)
    simp only [Bool.or_eq_true, Bool.and_eq_true] at this
    rcases this with h | h | ⟨h, h'⟩
    · exact Or.inl (by simpa using h)
    · exact Or.inr (Or.inl h)
    · exact Or.inr (Or.inr ⟨lt h, h'⟩)

variable {s0 sf : St} {S : Nat → St}

/-- The states of the order of the text, and how they hang together. -/
structure Lex (P : Program) (T : Tab) (L : List Oper) (s0 sf : St) (S : Nat → St) : Prop where
  ok : drawOk L s0.slots.length = true
  first : S 0 = s0
  last : S L.length = sf
  step : ∀ k o, L[k]? = some o → aop P T L (S k) o = some (S (k + 1))
  clear : ∀ t, (s0.slots.getD t dflt).2 = []

theorem Lex.cases {L : List Oper} (hx : Lex P T L s0 sf S) {k : Nat} {o : Oper} (hk : L[k]? = some o) :
    (isStore o.op = true ∧ (S (k + 1)).slots = (S k).slots ∧ (S (k + 1)).ro = (S k).ro ∧ o.dst = none) ∨
    (isStore o.op = false ∧ ∃ c v, acalc P T L (S k) o = some (c, v) ∧ (S (k + 1)).slots = putS (S k).slots o.dst (v, c) ∧ (S (k + 1)).mem = (S k).mem ∧ (S (k + 1)).ro = (S k).ro) := aop_cases (hx.step k o hk) (drawOk_spec hx.ok hk).1

theorem Lex.length {L : List Oper} (hx : Lex P T L s0 sf S) : ∀ k, k ≤ L.length → (S k).slots.length = s0.slots.length
  | 0, _ => by rw [hx.first]
  | k + 1, hk => by
    have ih := Lex.length hx k (by omega)
    have ho : L[k]? = some L[k] := List.getElem?_eq_getElem (by omega)
    rcases hx.cases ho with ⟨_, h, _⟩ | ⟨_, c, v, _, h, _⟩
    · rw [h]; exact ih
    · rw [h]; cases hd : L[k].dst <;> simp [putS, ih]

theorem Lex.ro {L : List Oper} (hx : Lex P T L s0 sf S) : ∀ k, k ≤ L.length → (S k).ro = s0.ro
  | 0, _ => by rw [hx.first]
  | k + 1, hk => by
    have ih := Lex.ro hx k (by omega)
    have ho : L[k]? = some L[k] := List.getElem?_eq_getElem (by omega)
    rcases hx.cases ho with ⟨_, _, h, _⟩ | ⟨_, c, v, _, _, _, h⟩ <;> rw [h]; exact ih; exact ih

/-- A slot that nothing writes between two places stays. -/
theorem Lex.stays {L : List Oper} (hx : Lex P T L s0 sf S) (t i : Nat) : ∀ n, i + n ≤ L.length → (∀ k o, L[k]? = some o → i ≤ k → k < i + n → writes o t = false) → (S (i + n)).slots.getD t dflt = (S i).slots.getD t dflt
  | 0, _, _ => rfl
  | n + 1, hn, hw => by
    have ih := Lex.stays hx t i n (by omega) (fun k o hk h1 h2 => hw k o hk h1 (by omega))
    have hlt : i + n < L.length := by omega
    have ho : L[i + n]? = some L[i + n] := List.getElem?_eq_getElem hlt
    have hnw := hw (i + n) _ ho (by omega) (by omega)
    rw [← ih]
    show (S (i + n + 1)).slots.getD t dflt = _
    rcases hx.cases ho with ⟨_, h, _⟩ | ⟨_, c, v, _, h, _⟩
    · rw [h]
    · rw [h]
      cases hd : L[i + n].dst with
      | none => rfl
      | some d =>
        simp only [putS]
        rw [getD_set, if_neg]
        intro ⟨e, _⟩
        rw [writes, hd, e] at hnw
        simp at hnw

theorem Lex.memStays {L : List Oper} (hx : Lex P T L s0 sf S) (i : Nat) : ∀ n, i + n ≤ L.length → (∀ k o, L[k]? = some o → i ≤ k → k < i + n → isStore o.op = false) → (S (i + n)).mem = (S i).mem
  | 0, _, _ => rfl
  | n + 1, hn, hw => by
    have ih := Lex.memStays hx i n (by omega) (fun k o hk h1 h2 => hw k o hk h1 (by omega))
    have hlt : i + n < L.length := by omega
    have ho : L[i + n]? = some L[i + n] := List.getElem?_eq_getElem hlt
    have hnw := hw (i + n) _ ho (by omega) (by omega)
    rw [← ih]
    show (S (i + n + 1)).mem = _
    rcases hx.cases ho with ⟨h0, _⟩ | ⟨_, c, v, _, _, h, _⟩
    · rw [hnw] at h0; cases h0
    · rw [h]

theorem Lex.uniq {L : List Oper} (hx : Lex P T L s0 sf S) {i j t : Nat} {oi oj : Oper} (hi : L[i]? = some oi) (hj : L[j]? = some oj) (h1 : writes oi t = true) (h2 : writes oj t = true) : i = j := by
  have hd : oj.dst = some t := by simpa [writes] using h2
  exact ((drawOk_spec hx.ok hj).2.2.1 t hd).2 i oi hi h1

/-- A slot ahead of all that writes it. -/
theorem Lex.before {L : List Oper} (hx : Lex P T L s0 sf S) {t k : Nat} (hk : k ≤ L.length) (hw : ∀ i o, L[i]? = some o → i < k → writes o t = false) : (S k).slots.getD t dflt = s0.slots.getD t dflt := by
  have := hx.stays t 0 k (by omega) (fun i o hi _ h2 => hw i o hi (by omega))
  rw [Nat.zero_add, hx.first] at this
  exact this
/-- A slot behind what writes it. -/
theorem Lex.behind {L : List Oper} (hx : Lex P T L s0 sf S) {t k i : Nat} {o : Oper} (hk : k ≤ L.length) (hi : L[i]? = some o) (hw : writes o t = true) (hik : i < k) : (S k).slots.getD t dflt = sf.slots.getD t dflt := by
  have := hx.stays t k (L.length - k) (by omega) (fun j oj hj h1 _ => by
    cases h : writes oj t
    · rfl
    · have := hx.uniq hi hj hw h; omega)
  rw [show k + (L.length - k) = L.length by omega, hx.last] at this
  exact this.symm
theorem Lex.never {L : List Oper} (hx : Lex P T L s0 sf S) {t : Nat} (hw : ∀ (i : Nat) (o : Oper), L[i]? = some o → writes o t = false) : sf.slots.getD t dflt = s0.slots.getD t dflt := by
  have := hx.before (Nat.le_refl _) (fun i o hi _ => hw i o hi) (t := t)
  rw [hx.last] at this
  exact this

theorem Lex.sfLength {L : List Oper} (hx : Lex P T L s0 sf S) : sf.slots.length = s0.slots.length := by
  have := hx.length L.length (Nat.le_refl _)
  rwa [hx.last] at this

/-- What an operation that is ready looks at is as it was in the order of the text. -/
theorem Lex.agree {L : List Oper} (hx : Lex P T L s0 sf S) {listed : Array Bool} {i : Nat} {o : Oper} (hi : L[i]? = some o) (hun : listed.getD i false = false) (hready : ∀ e, e ∈ o.after → Region.binds .any e = true → listed.getD e.on false = true)
    (hshut : ∀ j oj, L[j]? = some oj → listed.getD j false = true → ∀ e, e ∈ oj.after → Region.binds .any e = true → listed.getD e.on false = true) :
    ∀ t, t ∈ looks L o → (mixS L s0 sf listed).slots.getD t dflt = (S i).slots.getD t dflt := by
  intro t ht
  have hlt : i < L.length := (List.getElem?_eq_some_iff.1 hi).1
  rw [mix_getD hx.sfLength]
  have hsp := (drawOk_spec hx.ok hi).2.2.2.1 t ht
  cases hwr : wrB L listed t
  · rw [cond_false]
    refine (hx.before (Nat.le_of_lt hlt) fun j oj hj hji => ?_).symm
    cases h : writes oj t
    · rfl
    · rcases hsp j oj hj h with ⟨_, he⟩ | ⟨hlt2, _⟩
      · have := wrB_iff.2 ⟨j, oj, hj, h, hasEdge_listed he hready⟩
        rw [hwr] at this; cases this
      · omega
  · rw [cond_true]
    obtain ⟨j, oj, hj, hw, hl⟩ := wrB_iff.1 hwr
    rcases hsp j oj hj hw with ⟨hji, _⟩ | ⟨_, he⟩
    · exact (hx.behind (Nat.le_of_lt hlt) hj hw hji).symm
    · have := hasEdge_listed he (hshut j oj hj hl)
      rw [hun] at this; cases this

theorem Lex.agreeTests {L : List Oper} (hx : Lex P T L s0 sf S) {listed : Array Bool} {i : Nat} {o : Oper} (hi : L[i]? = some o) (hready : ∀ e, e ∈ o.after → Region.binds .any e = true → listed.getD e.on false = true) :
    ∀ t, t ∈ testsOf L o → (sf.slots.getD t dflt).1 = ((mixS L s0 sf listed).slots.getD t dflt).1 := by
  intro t ht
  rw [mix_getD hx.sfLength]
  have hsp := (drawOk_spec hx.ok hi).2.2.2.1 t (List.mem_append_right _ ht)
  have hte := (drawOk_spec hx.ok hi).2.2.2.2.1 t ht
  cases hwr : wrB L listed t
  · rw [cond_false]
    rw [hx.never fun j oj hj => ?_]
    cases h : writes oj t
    · rfl
    · rcases hsp j oj hj h with ⟨_, he⟩ | ⟨hlt2, _⟩
      · have := wrB_iff.2 ⟨j, oj, hj, h, hasEdge_listed he hready⟩
        rw [hwr] at this; cases this
      · have := hte j oj hj h; omega
  · rw [cond_true]

theorem Lex.agreeMem {L : List Oper} (hx : Lex P T L s0 sf S) {listed : Array Bool} {i : Nat} {o : Oper} (hi : L[i]? = some o) (hun : listed.getD i false = false)
    (hshut : ∀ j oj, L[j]? = some oj → listed.getD j false = true → ∀ e, e ∈ oj.after → Region.binds .any e = true → listed.getD e.on false = true) :
    (mixS L s0 sf listed).mem = (S i).mem ∨ isAssign o.op = true := by
  have hlt : i < L.length := (List.getElem?_eq_some_iff.1 hi).1
  cases ha : isAssign o.op
  · refine Or.inl ?_
    have hno : stB L listed = false := by
      cases h : stB L listed
      · rfl
      · obtain ⟨m, om, hm, hs, hl⟩ := stB_iff.1 h
        rcases (drawOk_spec hx.ok hm).2.2.2.2.2 hs i o hi with e | h2 | ⟨_, he⟩
        · subst e; rw [hun] at hl; cases hl
        · rw [ha] at h2; cases h2
        · have := hasEdge_listed he (hshut m om hm hl)
          rw [hun] at this; cases this
    simp only [mixS, hno, cond_false]
    have := hx.memStays 0 i (by omega) (fun k ok hk _ hki => by
      cases h : isStore ok.op
      · rfl
      · rcases (drawOk_spec hx.ok hk).2.2.2.2.2 h i o hi with e | h2 | ⟨h3, _⟩
        · omega
        · rw [ha] at h2; cases h2
        · omega)
    rw [Nat.zero_add, hx.first] at this
    exact this.symm
  · exact Or.inr rfl

theorem listed_set {listed : Array Bool} {i j : Nat} (hi : i < listed.size) : (listed.setIfInBounds i true).getD j false = (decide (i = j) || listed.getD j false) := by
  simp only [Array.getD_eq_getD_getElem?, Array.getElem?_setIfInBounds]
  by_cases h : i = j
  · subst h; simp [hi]
  · simp [h]

theorem wrB_set {L : List Oper} {listed : Array Bool} {i t : Nat} {o : Oper} (hi : i < listed.size) (ho : L[i]? = some o) : wrB L (listed.setIfInBounds i true) t = (writes o t || wrB L listed t) := by
  rw [Bool.eq_iff_iff, Bool.or_eq_true, wrB_iff, wrB_iff]
  constructor
  · rintro ⟨j, oj, hj, hw, hl⟩
    rw [listed_set hi] at hl
    by_cases h : i = j
    · subst h; rw [ho] at hj; cases hj; exact Or.inl hw
    · exact Or.inr ⟨j, oj, hj, hw, by simpa [h] using hl⟩
  · rintro (h | ⟨j, oj, hj, hw, hl⟩)
    · exact ⟨i, o, ho, h, by rw [listed_set hi]; simp⟩
    · exact ⟨j, oj, hj, hw, by rw [listed_set hi, hl]; simp⟩
theorem stB_set {L : List Oper} {listed : Array Bool} {i : Nat} {o : Oper} (hi : i < listed.size) (ho : L[i]? = some o) : stB L (listed.setIfInBounds i true) = (isStore o.op || stB L listed) := by
  rw [Bool.eq_iff_iff, Bool.or_eq_true, stB_iff, stB_iff]
  constructor
  · rintro ⟨j, oj, hj, hw, hl⟩
    rw [listed_set hi] at hl
    by_cases h : i = j
    · subst h; rw [ho] at hj; cases hj; exact Or.inl hw
    · exact Or.inr ⟨j, oj, hj, hw, by simpa [h] using hl⟩
  · rintro (h | ⟨j, oj, hj, hw, hl⟩)
    · exact ⟨i, o, ho, h, by rw [listed_set hi]; simp⟩
    · exact ⟨j, oj, hj, hw, by rw [listed_set hi, hl]; simp⟩

/-- What is known behind one more operation. -/
theorem frel_mix {s0 sf : St} {S : Nat → St} {L : List Oper} (hx : Lex P T L s0 sf S) {listed : Array Bool} {a : Act} {i : Nat} {o : Oper} {c : Chain} {v u : Value} (hi : i < listed.size) (ho : L[i]? = some o) (hns : isStore o.op = false)
    (hv : (S (i + 1)).slots = putS (S i).slots o.dst (v, c)) (hfr : frel bs sf.slots (mixS L s0 sf listed).slots a.tmps)
    (h1 : tru sf.slots c = true → vrel bs v u) (h2 : tru sf.slots c = false → u = undef) : frel bs sf.slots (mixS L s0 sf (listed.setIfInBounds i true)).slots (a.put o.dst u).tmps := by
  have hlt : i < L.length := (List.getElem?_eq_some_iff.1 ho).1
  have _ := hns
  cases hd : o.dst with
  | none =>
    have : (mixS L s0 sf (listed.setIfInBounds i true)).slots = (mixS L s0 sf listed).slots := by
      simp only [mixS]
      refine List.map_congr_left fun t _ => ?_
      rw [wrB_set hi ho]
      simp [writes, hd]
    rw [this]
    exact hfr
  | some d =>
    have hdl := ((drawOk_spec hx.ok ho).2.2.1 d hd).1
    have hsf : sf.slots.getD d dflt = (v, c) := by
      have hb := hx.behind (k := i + 1) (by omega) ho (show writes o d = true by simp [writes, hd]) (by omega)
      rw [← hb, hv, hd]
      simp only [putS]
      rw [getD_set, if_pos ⟨rfl, by rw [hx.length i (by omega)]; exact hdl⟩]
    refine ⟨?_, fun t => ?_⟩
    · have := hfr.1
      simp only [Act.put, Array.size_setIfInBounds, this, mixS, List.length_map]
    · rw [mix_getD hx.sfLength, wrB_set hi ho]
      simp only [Act.put]
      rw [tmps_set]
      have hf := hfr.2 t
      rw [mix_getD hx.sfLength] at hf
      by_cases ht : d = t
      · subst ht
        have hsz : d < a.tmps.size := by rw [hfr.1]; simp only [mixS, List.length_map, List.length_range]; exact hdl
        rw [if_pos ⟨rfl, hsz⟩, show writes o d = true by simp [writes, hd], Bool.true_or, cond_true, hsf]
        exact ⟨h1, h2⟩
      · rw [if_neg (fun e => ht e.1), show writes o t = false by simp [writes, hd, ht], Bool.false_or]
        exact hf

theorem shut_set {listed : Array Bool} {i : Nat} {o : Oper} (hi : i < listed.size) (ho : ops[i]? = some o) (hready : ∀ e, e ∈ o.after → Region.binds .any e = true → listed.getD e.on false = true)
    (hshut : ∀ j oj, ops[j]? = some oj → listed.getD j false = true → ∀ e, e ∈ oj.after → Region.binds .any e = true → listed.getD e.on false = true) :
    ∀ j oj, ops[j]? = some oj → (listed.setIfInBounds i true).getD j false = true → ∀ e, e ∈ oj.after → Region.binds .any e = true → (listed.setIfInBounds i true).getD e.on false = true := by
  intro j oj hj hl e he hb
  rw [listed_set hi] at hl ⊢
  by_cases h : i = j
  · subst h
    rw [ho] at hj; cases hj
    rw [hready e he hb]; simp
  · have hl' : listed.getD j false = true := by simpa [h] using hl
    rw [hshut j oj hj hl' e he hb]; simp

theorem getD_of_size {listed : Array Bool} {i : Nat} (h : i < listed.size) : listed.getD i true = listed.getD i false := by
  simp [Array.getD_eq_getD_getElem?, h]

/-- One operation that is ready, in the middle of a region. -/
theorem J_step {s0 sf : St} {S : Nat → St} {Q : Exit → Act → World → Prop} (hT : TOk P T) (hx : Lex P T ops.toList s0 sf S) {listed : Array Bool} {a : Act} {w : World} (hJ : JInv base w0 bs ops s0 sf listed a w) {i : Nat} (hr : i ∈ Region.ready .any ops listed)
    {K : Act → World → Prop} (hK : ∀ a' w', JInv base w0 bs ops s0 sf (listed.setIfInBounds i true) a' w' → K a' w') : wpOp P ops Q i K a w := by
  obtain ⟨hun, o, ho, hready⟩ := mem_ready.1 hr
  have hil : i < ops.size := (Array.getElem?_eq_some_iff.1 ho).1
  have hi : i < listed.size := by rw [hJ.size]; exact hil
  have hun' : listed.getD i false = false := by rw [← getD_of_size hi]; exact hun
  have ho' : ops.toList[i]? = some o := by simpa using ho
  have hshut' : ∀ (j : Nat) (oj : Oper), ops.toList[j]? = some oj → listed.getD j false = true → ∀ e, e ∈ oj.after → Region.binds .any e = true → listed.getD e.on false = true :=
    fun j oj hj => hJ.shut j oj (by simpa using hj)
  have hag := hx.agree ho' hun' hready hshut'
  have hat := hx.agreeTests (listed := listed) ho' hready
  have ham := hx.agreeMem ho' hun' hshut'
  unfold wpOp
  rw [ho]
  simp only
  rcases hx.cases ho' with ⟨hs, hslots, hro, hdn⟩ | ⟨hns, c, v, hc, hslots, hmem, hro⟩
  · -- a store
    have hmm : (mixS ops.toList s0 sf listed).mem = (S i).mem := by
      rcases ham with h | h
      · exact h
      · exact (not_both hs h).elim
    have hst := hx.step i o ho'
    have hnost : stB ops.toList listed = false := by
      cases h : stB ops.toList listed
      · rfl
      · obtain ⟨m, om, hm, hsm, hl⟩ := stB_iff.1 h
        rcases (drawOk_spec hx.ok hm).2.2.2.2.2 hsm i o ho' with e | h2 | ⟨_, he⟩
        · subst e; rw [hun'] at hl; cases hl
        · exact (not_both hs h2).elim
        · have := hasEdge_listed he (hshut' m om hm hl)
          rw [hun'] at this; cases this
    have hfin : (S (i + 1)).mem = sf.mem := by
      have := hx.memStays (i + 1) (ops.toList.length - (i + 1)) (by simp; omega) (fun k ok hk h1 _ => by
        cases h : isStore ok.op
        · rfl
        · rcases (drawOk_spec hx.ok hk).2.2.2.2.2 h i o ho' with e | h2 | ⟨_, he⟩
          · omega
          · exact (not_both hs h2).elim
          · rcases (drawOk_spec hx.ok ho').2.2.2.2.2 hs k ok hk with e | h2 | ⟨h3, _⟩
            · omega
            · exact (not_both h h2).elim
            · omega)
      rw [show i + 1 + (ops.toList.length - (i + 1)) = ops.toList.length by simp; omega, hx.last] at this
      exact this.symm
    unfold aop at hst
    split at hst
    · rename_i hop; rw [hop] at hs; cases hs
    · rename_i hop; rw [hop] at hs; cases hs
    · rename_i hop; rw [hop] at hs; cases hs
    · rename_i t p x hop
      have hlp : ∀ u, p = .tmp u → (mixS ops.toList s0 sf listed).slots.getD u dflt = (S i).slots.getD u dflt := fun u hu => hag u (List.mem_append_left _ (mem_tmpsOf (y := p) (by rw [hop]; simp [Op.operands]) hu))
      have hlx : ∀ u, x = .tmp u → (mixS ops.toList s0 sf listed).slots.getD u dflt = (S i).slots.getD u dflt := fun u hu => hag u (List.mem_append_left _ (mem_tmpsOf (y := x) (by rw [hop]; simp [Op.operands]) hu))
      split at hst
      · rename_i k off hpt
        split at hst
        · rename_i cells inf hmi hinf
          obtain ⟨hk, hst⟩ := cond_some hst
          simp only [Bool.and_eq_true] at hk
          obtain ⟨hg, _, hp, hxo, hpx, hroi, hsz, hle⟩ := hk
          rw [← opdOk_congr hlp] at hp
          rw [← opdOk_congr hlx] at hxo
          rw [← aeval_congr hlx] at hpx hsz
          rw [← aeval_congr hlp] at hpt
          rw [← hmm] at hmi
          have hroi' : s0.ro ≤ k := by rw [← hx.ro i (by simp; omega)]; exact Nat.le_of_ble_eq_true hroi
          have hle' : off + inf.size ≤ cells.length := Nat.le_of_ble_eq_true hle
          have hsz' : (aeval (mixS ops.toList s0 sf listed) x).cells.size = inf.size := by simpa using hsz
          have hwant : Region.wanted o (yielded ops a.tmps) = true := by
            unfold Region.wanted; cases hgd : o.guard with
            | none => rfl
            | some g => rw [hgd] at hg; cases hg
          rw [if_pos hwant]
          refine Or.inl ?_
          have hv := frel_opd hJ.frame (c := []) rfl x hxo
          have hpv := frel_opd hJ.frame (c := []) rfl p hp
          rw [hpt] at hpv
          obtain ⟨b, hb, hpe⟩ := vrel_pointer hpv
          obtain ⟨hbb, ⟨cs, e, hcs⟩, huni⟩ := hJ.own k b hroi' hb
          obtain ⟨_, cs', e', fz, hcs', hpre⟩ := hJ.mem.2 k b cells hb hmi
          rw [hcs] at hcs'
          cases hcs'
          have hrun := store_run (P := P) (t := t) hinf hcs hpx hv hsz' hle' hpre
          unfold Oper.wp execOp
          simp only [hop, hpe, Sem.run_bind, hrun, Result.andThen_ok, Sem.run_pure, Oper.upon_skip, hdn, Act.put]
          have hcr := cells_rel hv hpx
          have hpre' := rowpre_store off hpre hcr (by simp; omega)
          rw [show (aeval (mixS ops.toList s0 sf listed) x).cells.toList.length = inf.size by simpa using hsz'] at hpre'
          have hsame : (mixS ops.toList s0 sf (listed.setIfInBounds i true)).slots = (mixS ops.toList s0 sf listed).slots := by
            simp only [mixS]
            refine List.map_congr_left fun t _ => ?_
            rw [wrB_set hi ho']
            simp [writes, hdn]
          have hmem' : (mixS ops.toList s0 sf (listed.setIfInBounds i true)).mem = (mixS ops.toList s0 sf listed).mem.set k (cells.take off ++ ((aeval (mixS ops.toList s0 sf listed) x).cells.toList ++ cells.drop (off + inf.size))) := by
            have e1 : (mixS ops.toList s0 sf (listed.setIfInBounds i true)).mem = sf.mem := by
              simp only [mixS]; rw [stB_set hi ho', hs]; rfl
            rw [e1, ← hfin, ← hst, hmm, aeval_congr hlx]
          refine hK _ _ {
            defers := hJ.defers
            frame := by rw [hsame]; exact hJ.frame
            mem := by rw [hmem']; exact hJ.mem.store hb hmi huni (by simpa using hpre')
            own := fun j c hj hc => by
              obtain ⟨h3, ⟨cs2, e2, h4⟩, h5⟩ := hJ.own j c hj hc
              refine ⟨h3, ?_, h5⟩
              by_cases hcb : c = b
              · subst hcb; exact ⟨_, _, setRow_heap w c cs _ e (0, 0) hcs⟩
              · exact ⟨cs2, e2, by rw [setRow_other w b c _ hcb]; exact h4⟩
            below := Below.setRow' hJ.below hbb _
            base_le := by simpa [World.setRow] using hJ.base_le
            size := by simp [hJ.size]
            shut := shut_set hi ho hready hJ.shut }
        · cases hst
      · cases hst
    · rename_i h1 h2 h2b h3
      cases hop : o.op <;> rw [hop] at hs <;> first | (cases hs; done) | exact absurd hop (h3 _ _ _)
  · -- any other
    have hcm : acalc P T ops.toList (mixS ops.toList s0 sf listed) o = some (c, v) := by
      rw [acalc_congr hag ham]; exact hc
    obtain ⟨h1, h2⟩ := acalc_core hT hJ.frame hJ.mem hat hcm
    have hmix : (mixS ops.toList s0 sf (listed.setIfInBounds i true)).mem = (mixS ops.toList s0 sf listed).mem := by
      simp only [mixS]; rw [stB_set hi ho', hns]; rfl
    have next : ∀ u w', (tru sf.slots c = true → vrel bs v u) → (tru sf.slots c = false → u = undef) → Below w.heap.size w w' → K (a.put o.dst u) w' := fun u w' g1 g2 hb =>
      hK _ _ {
        defers := by rw [put_defers]; exact hJ.defers
        frame := frel_mix hx hi ho' hns hslots hJ.frame g1 g2
        mem := by rw [hmix]; exact hJ.mem.below hb
        own := fun j b hj hbj => by
          obtain ⟨h3, ⟨cs, e, h4⟩, h5⟩ := hJ.own j b hj hbj
          exact ⟨h3, ⟨cs, e, by rw [hb.block b (Array.getElem?_eq_some_iff.1 h4).1]; exact h4⟩, h5⟩
        below := hJ.below.trans (hb.mono hJ.base_le)
        base_le := Nat.le_trans hJ.base_le hb.size
        size := by simp [hJ.size]
        shut := shut_set hi ho hready hJ.shut }
    rw [h1]
    cases ht : tru sf.slots c
    · rw [if_neg (by simp)]
      exact next undef w (fun h => by rw [ht] at h; cases h) (fun _ => rfl) (Below.refl _ _)
    · rw [if_pos rfl]
      exact Or.inl (good_wp (h2 ht) fun u w' hu hb => next u w' (fun _ => hu) (fun h => by rw [ht] at h; cases h) hb)

/-- Where nothing is ready all has been carried out. -/
theorem all_listed {s0 sf : St} {S : Nat → St} (hx : Lex P T ops.toList s0 sf S) {listed : Array Bool} (hsz : listed.size = ops.size) (hr : Region.ready .any ops listed = []) : ∀ i, i < ops.size → listed.getD i false = true := by
  intro i
  induction i using Nat.strongRecOn with
  | _ i ih =>
    intro hi
    cases h : listed.getD i false
    · have : i ∈ Region.ready .any ops listed := mem_ready.2 ⟨by rw [getD_of_size (by omega)]; exact h, ops[i], Array.getElem?_eq_getElem hi, fun e he hb => by
        have hlt := (drawOk_spec hx.ok (j := i) (oj := ops[i]) (by simp [hi])).2.1 e he hb
        exact ih e.on hlt (by omega)⟩
      rw [hr] at this; cases this
    · rfl

theorem J_any {s0 sf : St} {S : Nat → St} {Q : Exit → Act → World → Prop} (hT : TOk P T) (hx : Lex P T ops.toList s0 sf S) (hQ : ∀ listed a w, (∀ i, i < ops.size → listed.getD i false = true) → JInv base w0 bs ops s0 sf listed a w → Q .normal a w) :
    ∀ (fuel : Nat) (listed : Array Bool) (a : Act) (w : World), JInv base w0 bs ops s0 sf listed a w → (List.range ops.size).countP (fun i => !listed.getD i false) ≤ fuel → wpAny P .any ops Q fuel listed a w := by
  intro fuel
  induction fuel with
  | zero =>
    intro listed a w hJ hc
    have hall : ∀ i, i < ops.size → listed.getD i false = true := fun i hi => by
      have := List.countP_eq_zero.1 (Nat.le_zero.1 hc) i (List.mem_range.2 hi)
      simpa using this
    refine ⟨?_, hQ listed a w hall hJ⟩
    cases hr : Region.ready .any ops listed with
    | nil => rfl
    | cons i l =>
      obtain ⟨hun, o, ho, _⟩ := mem_ready.1 (show i ∈ Region.ready .any ops listed by rw [hr]; simp)
      have hi : i < ops.size := (Array.getElem?_eq_some_iff.1 ho).1
      rw [getD_of_size (by rw [hJ.size]; exact hi), hall i hi] at hun
      cases hun
  | succ fuel ih =>
    intro listed a w hJ hc
    refine ⟨fun hr => hQ listed a w (all_listed hx hJ.size hr) hJ, fun i hr => J_step hT hx hJ hr fun a' w' hJ' => ih _ a' w' hJ' ?_⟩
    obtain ⟨hun, o, ho, _⟩ := mem_ready.1 hr
    have hi : i < ops.size := (Array.getElem?_eq_some_iff.1 ho).1
    have hil : i < listed.size := by rw [hJ.size]; exact hi
    have hlt := countP_lt (p := fun j => !listed.getD j false) (q := fun j => !(listed.setIfInBounds i true).getD j false) (l := List.range ops.size) (x := i)
      (fun y _ hy => by
        rw [listed_set hil] at hy
        simp only [Bool.not_eq_true', Bool.or_eq_false_iff] at hy ⊢
        exact hy.2) (List.mem_range.2 hi) (by rw [← getD_of_size hil, hun]; rfl) (by rw [listed_set hil]; simp)
    omega

/-- **A REGION THAT DRAWS ITS ORDER.** -/
theorem drawn_ok (hT : TOk P T) (hm : P.follows .mixedOrders = true) : DOk P (drawn P T) := by
  intro base w0 bs s sf a w id ops Q hI hD hQ
  unfold drawn at hD
  cases hk : (drawOk ops.toList s.slots.length && s.slots.all (fun q => q.2.isEmpty))
  · rw [hk] at hD; cases hD
  · rw [hk] at hD
    simp only [cond_true] at hD
    simp only [Bool.and_eq_true] at hk
    obtain ⟨S, h0, hn, hst⟩ := aops_states hD
    have hclear : ∀ t, (s.slots.getD t dflt).2 = [] := fun t => by
      rw [List.getD_eq_getElem?_getD]
      cases hq : s.slots[t]? with
      | none => rfl
      | some q =>
        have := (List.all_eq_true.1 hk.2) q (List.mem_of_getElem? hq)
        simpa using this
    have hx : Lex P T ops.toList s sf S := ⟨hk.1, h0, hn, hst, hclear⟩
    have hno : ∀ i, (Array.replicate ops.size false).getD i false = false := fun i => by
      simp only [Array.getD_eq_getD_getElem?, Array.getElem?_replicate]; split <;> rfl
    have hw0 : ∀ t, wrB ops.toList (Array.replicate ops.size false) t = false := fun t => by
      cases h : wrB ops.toList (Array.replicate ops.size false) t
      · rfl
      · obtain ⟨i, o, _, _, hl⟩ := wrB_iff.1 h
        rw [hno] at hl; cases hl
    have hs0 : stB ops.toList (Array.replicate ops.size false) = false := by
      cases h : stB ops.toList (Array.replicate ops.size false)
      · rfl
      · obtain ⟨i, o, _, _, hl⟩ := stB_iff.1 h
        rw [hno] at hl; cases hl
    refine wp_region_any hm (J_any (base := base) (w0 := w0) (bs := bs) hT hx ?_ ops.size _ a _ ?_ ?_)
    · intro listed a' w' hall hJ
      refine hQ [] a' w' ?_
      rw [List.append_nil]
      have hmem : (mixS ops.toList s sf listed).mem = sf.mem := by
        simp only [mixS]
        cases h : stB ops.toList listed
        · have := hx.memStays 0 ops.toList.length (by omega) (fun k ok hk' _ _ => by
            cases h' : isStore ok.op
            · rfl
            · have hk2 : k < ops.size := by have := (List.getElem?_eq_some_iff.1 hk').1; simpa using this
              have := stB_iff.2 ⟨k, ok, hk', h', hall k hk2⟩
              rw [h] at this; cases this)
          rw [Nat.zero_add, hx.last, hx.first] at this
          exact this.symm
        · rfl
      have hfr : frel bs sf.slots sf.slots a'.tmps := by
        refine ⟨by rw [hJ.frame.1]; simp [mixS, hx.sfLength], fun t => ?_⟩
        have := hJ.frame.2 t
        rw [mix_getD hx.sfLength] at this
        cases h : wrB ops.toList listed t
        · rw [h, cond_false, ← hx.never fun i o hi => ?_] at this
          · exact this
          · cases h' : writes o t
            · rfl
            · have hi2 : i < ops.size := by have := (List.getElem?_eq_some_iff.1 hi).1; simpa using this
              have := wrB_iff.2 ⟨i, o, hi, h', hall i hi2⟩
              rw [h] at this; cases this
        · rw [h, cond_true] at this; exact this
      have hrosf : sf.ro = s.ro := by have := hx.ro ops.toList.length (Nat.le_refl _); rwa [hx.last] at this
      have hml : sf.mem.length = s.mem.length := by
        have h1 := hJ.mem.1
        rw [hmem] at h1
        have h2 := hI.mem.1
        omega
      exact {
        defers := hJ.defers
        frame := frel_clear hfr _
        mem := by rw [← hmem]; exact hJ.mem
        own := fun i b hi hb => hJ.own i b (by rw [← hrosf]; exact hi) hb
        ro_le := by show sf.ro ≤ sf.mem.length; rw [hrosf, hml]; exact hI.ro_le
        below := hJ.below
        base_le := hJ.base_le }
    · exact {
        defers := hI.defers
        frame := by
          refine ⟨by rw [hI.frame.1]; simp [mixS], fun t => ?_⟩
          rw [mix_getD hx.sfLength, hw0, cond_false]
          have := hI.frame.2 t
          rw [hclear t] at this ⊢
          exact this
        mem := by simp only [mixS, hs0, cond_false]; exact hI.mem
        own := hI.own
        below := hI.below.drew
        base_le := hI.base_le
        size := by simp
        shut := fun i o _ hl => by rw [hno] at hl; cases hl }
    · exact Nat.le_trans List.countP_le_length (by simp)

end
end Go.Ev
