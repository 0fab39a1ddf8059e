/-
  A region that draws its order: whatever order is drawn, it gives what the order of the text gives, if each operation waits for all that it looks at.
-/
import Derived.Test.YtbmggfmifopddaaEv5
namespace Go.Ev
open Go.RowKit

def hasEdge (o : Oper) (i : Nat) : Bool := o.after.toList.any fun e => e.on == i && Region.binds .any e

def tmpsOf (xs : List Operand) : List Nat := xs.filterMap fun | .tmp t => some t | _ => none
def looks (ops : List Oper) (o : Oper) : List Nat := tmpsOf o.op.operands.toList ++ testsOf ops o

/-- It asks nothing of memory and makes none. -/
def isAssign : Op → Bool
  | .load _ _ => false
  | .call _ => false
  | .store _ _ _ => false
  | .alloc _ => false
  | _ => true
def isStore : Op → Bool
  | .store _ _ _ => true
  | _ => false
def isAlloc : Op → Bool
  | .alloc _ => true
  | _ => false
def isNew : Op → Bool
  | .box _ _ => true
  | .buildSlice _ _ _ => true
  | _ => false
theorem not_both {op : Op} (h1 : isStore op = true) (h2 : isAssign op = true) : False := by cases op <;> first | (cases h1; done) | (cases h2; done)
theorem not_both' {op : Op} (h1 : isStore op = true) (h2 : isAlloc op = true) : False := by cases op <;> first | (cases h1; done) | (cases h2; done)
theorem not_both'' {op : Op} (h1 : isAlloc op = true) (h2 : isAssign op = true) : False := by cases op <;> first | (cases h1; done) | (cases h2; done)
def writes (o : Oper) (t : Nat) : Bool := o.dst == some t

def drawOk (ops : List Oper) (len : Nat) : Bool :=
  ops.zipIdx.all fun q =>
    !isNew q.1.op &&
    ((q.1.after.toList.all fun e => !Region.binds .any e || Nat.blt e.on q.2) &&
    ((match q.1.dst with | some d => Nat.blt d len && ops.zipIdx.all (fun p => !writes p.1 d || p.2 == q.2) | none => true) &&
    ((looks ops q.1).all (fun t => ops.zipIdx.all fun p => !writes p.1 t || ((Nat.blt p.2 q.2 && hasEdge q.1 p.2) || (Nat.blt q.2 p.2 && hasEdge p.1 q.2))) &&
    ((testsOf ops q.1).all (fun t => ops.zipIdx.all fun p => !writes p.1 t || Nat.blt p.2 q.2) &&
    ((!isStore q.1.op || ops.zipIdx.all fun p => p.2 == q.2 || (isAssign p.1.op || (Nat.blt p.2 q.2 && hasEdge q.1 p.2))) &&
    (!isAlloc q.1.op || ops.zipIdx.all fun p => !isAlloc p.1.op || p.2 == q.2))))))

/-- One operation of such a region: what reads looks at memory as it was ahead of the region. -/
def dop [Tok] (P : Program) (T : Tab) (ops : List Oper) (mem0 : List (List Value)) (s : St) (o : Oper) : Option St :=
  cond (isStore o.op || isAlloc o.op) (aop P T ops s o) (match acalc P T ops { s with mem := mem0 } o with
    | some (c, v) => cond (callBelow mem0.length { s with mem := mem0 } o && dstOk s.slots c o.dst) (some { s with slots := putS s.slots o.dst (v, c) }) none
    | none => none)

def dops [Tok] (P : Program) (T : Tab) (ops : List Oper) (mem0 : List (List Value)) : List Oper → St → Option St
  | [], s => some s
  | o :: rest, s => match dop P T ops mem0 s o with
    | some s' => dops P T ops mem0 rest s'
    | none => none

/-- What a region that draws gives: what the order of the text gives, where the look above says yes. -/
def drawn [Tok] (P : Program) (T : Tab) (ops : List Oper) (s : St) : Option St :=
  cond (drawOk ops s.slots.length && s.slots.all (fun q => q.2.isEmpty)) (dops P T ops s.mem ops s) none

/-! ### The order of the text, state by state -/
theorem dops_states [Tok] {P : Program} {T : Tab} {L : List Oper} {mem0 : List (List Value)} : ∀ {l : List Oper} {s sf : St}, dops P T L mem0 l s = some sf → ∃ S : Nat → St, S 0 = s ∧ S l.length = sf ∧ ∀ k o, l[k]? = some o → dop P T L mem0 (S k) o = some (S (k + 1))
  | [], s, sf, h => by
    simp only [dops, Option.some.injEq] at h
    exact ⟨fun _ => s, rfl, h, fun k o hk => by simp at hk⟩
  | o :: l, s, sf, h => by
    simp only [dops] at h
    split at h
    · rename_i s1 h1
      obtain ⟨S, h2, h3, h4⟩ := dops_states h
      refine ⟨fun k => match k with | 0 => s | k + 1 => S k, rfl, h3, fun k o' hk => ?_⟩
      cases k with
      | zero => simp at hk; subst hk; show dop P T L mem0 s o = some (S 0); rw [h2]; exact h1
      | succ k => exact h4 k o' (by simpa using hk)
    · cases h

theorem cond_some {α : Type} {b : Bool} {x y : α} (h : cond b (some x) none = some y) : b = true ∧ x = y := by
  cases b
  · cases h
  · exact ⟨rfl, by simpa using h⟩

/-- What is laid where a variable is made. -/
structure Lays (P : Program) (L : List Oper) (s s' : St) (o : Oper) (t : TypeId) (z : Value) : Prop where
  op : o.op = .alloc t
  zero : pureOf P (zeroValue t) = some z
  guard : o.guard.isNone = true
  one : (z.cells.toList.all (·.oneCell')) = true
  slots : s'.slots = putS s.slots o.dst (.pointer (some ⟨s.mem.length, 0, none⟩), [])
  mem : s'.mem = s.mem ++ [z.cells.toList.map canS]
  ro : s'.ro = s.ro

theorem dop_cases [Tok] {P : Program} {T : Tab} {L : List Oper} {mem0 : List (List Value)} {s s' : St} {o : Oper} (h : dop P T L mem0 s o = some s') :
    (isStore o.op = true ∧ aop P T L s o = some s' ∧ s'.slots = s.slots ∧ s'.ro = s.ro ∧ o.dst = none) ∨ (isAlloc o.op = true ∧ ∃ t z, Lays P L s s' o t z) ∨
    (isStore o.op = false ∧ isAlloc o.op = false ∧ ∃ c v, acalc P T L { s with mem := mem0 } o = some (c, v) ∧ callBelow mem0.length { s with mem := mem0 } o = true ∧ s'.slots = putS s.slots o.dst (v, c) ∧ s'.mem = s.mem ∧ s'.ro = s.ro) := by
  unfold dop at h
  cases hs : isStore o.op
  · cases ha : isAlloc o.op
    · simp only [hs, ha, Bool.or_self, cond_false] at h
      refine Or.inr (Or.inr ⟨rfl, rfl, ?_⟩)
      split at h
      · rename_i c v hc
        obtain ⟨hk, h⟩ := cond_some h
        simp only [Bool.and_eq_true] at hk
        subst h
        exact ⟨c, v, hc, hk.1, rfl, rfl, rfl⟩
      · cases h
    · simp only [hs, ha, Bool.false_or, cond_true] at h
      refine Or.inr (Or.inl ⟨rfl, ?_⟩)
      cases hop : o.op <;> rw [hop] at ha <;> first | (cases ha; done) | skip
      rename_i t
      unfold aop at h
      rw [hop] at h
      simp only at h
      split at h
      · rename_i z hz
        obtain ⟨hk, h⟩ := cond_some h
        simp only [Bool.and_eq_true] at hk
        subst h
        exact ⟨t, z, hop, hz, hk.1, hk.2.2, rfl, rfl, rfl⟩
      · cases h
  · simp only [hs, Bool.true_or, cond_true] at h
    have h0 := h
    refine Or.inl ⟨rfl, h0, ?_⟩
    cases hop : o.op <;> rw [hop] at hs <;> first | (cases hs; done) | skip
    rename_i t p x
    unfold aop at h
    rw [hop] at h
    simp only at h
    split at h
    · split at h
      · obtain ⟨hk, h⟩ := cond_some h
        subst h
        simp only [Bool.and_eq_true] at hk
        refine ⟨rfl, rfl, ?_⟩
        cases hd : o.dst with
        | none => rfl
        | some d => rw [hd] at hk; exact absurd hk.2.1 (by simp)
      · cases h
    · cases h

/-! ### What an operation looks at is all that it hangs on -/
theorem aeval_congr {s1 s2 : St} {y : Operand} (h : ∀ t, y = .tmp t → s1.slots.getD t dflt = s2.slots.getD t dflt) : aeval s1 y = aeval s2 y := by
  cases y <;> first | rfl | (simp only [aeval]; rw [h _ rfl])

theorem opdOk_congr {s1 s2 : St} {c : Chain} {y : Operand} (h : ∀ t, y = .tmp t → s1.slots.getD t dflt = s2.slots.getD t dflt) : opdOk s1.slots c y = opdOk s2.slots c y := by
  cases y <;> first | rfl | (simp only [opdOk]; rw [h _ rfl])

theorem mem_tmpsOf {xs : List Operand} {y : Operand} {t : Nat} (hy : y ∈ xs) (ht : y = .tmp t) : t ∈ tmpsOf xs := by
  unfold tmpsOf
  exact List.mem_filterMap.2 ⟨y, hy, by rw [ht]⟩

theorem opChain_congr {ops : List Oper} {s1 s2 : St} {o : Oper} (h : ∀ t, t ∈ testsOf ops o → s1.slots.getD t dflt = s2.slots.getD t dflt) : opChain ops s1.slots o = opChain ops s2.slots o := by
  unfold opChain
  cases hg : o.guard with
  | none => rfl
  | some gw =>
    obtain ⟨j, want⟩ := gw
    simp only
    cases hj : ops[j]? with
    | none => rfl
    | some oj =>
      simp only
      cases hd : oj.dst with
      | none => rfl
      | some d => simp only; rw [h d (by simp [testsOf, hg, hj, hd])]

theorem aval_congr [Tok] {P : Program} {T : Tab} {s1 s2 : St} {o : Oper} (h : ∀ y, y ∈ o.op.operands.toList → aeval s1 y = aeval s2 y) (hm : s1.mem = s2.mem ∨ isAssign o.op = true) : aval P T s1 o = aval P T s2 o := by
  obtain ⟨dst, op, type, pos, after, guard⟩ := o
  cases op <;> simp only [aval] <;> first | rfl | skip
  case move y => rw [h y (by simp [Op.operands])]
  case assign y => rw [h y (by simp [Op.operands])]
  case load t y =>
    rw [h y (by simp [Op.operands])]
    rcases hm with hm | hm
    · rw [hm]
    · cases hm
  case fieldAddr t y f => rw [h y (by simp [Op.operands])]
  case nilCheck y => rw [h y (by simp [Op.operands])]
  case indexAddr t y z => rw [h y (by simp [Op.operands]), h z (by simp [Op.operands])]
  case index t y z => rw [h y (by simp [Op.operands]), h z (by simp [Op.operands])]
  case field t y f => rw [h y (by simp [Op.operands])]
  case binOp op t y z t2 => rw [h y (by simp [Op.operands]), h z (by simp [Op.operands])]
  case unOp op t y => rw [h y (by simp [Op.operands])]
  case convert a b y => rw [h y (by simp [Op.operands])]
  case build t ps =>
    congr 1
    refine List.map_congr_left fun p hp => ?_
    rw [h p.2 (by simp only [Op.operands]; exact List.mem_map_of_mem hp)]
  case extract y i => rw [h y (by simp [Op.operands])]
  case makeInterface t y => rw [h y (by simp [Op.operands])]
  case typeAssert y a b ok => rw [h y (by simp [Op.operands])]
  case call c =>
    rcases hm with hm | hm
    · rw [hm]
      have hr : ∀ r m, c.callee = .invoke r m → aeval s1 r = aeval s2 r := fun r m e => h r (by simp [Op.operands, Call.operands, e])
      have : c.args.toList.map (aeval s1) = c.args.toList.map (aeval s2) := List.map_congr_left fun y hy => h y (by simp [Op.operands, Call.operands]; exact Or.inr (by simpa using hy))
      rw [this]
      cases hcal : c.callee with
      | invoke r m => simp only; rw [hr r m hcal]
      | value f => cases f <;> rfl
      | builtin b => cases b <;> rfl
    · cases hm

theorem all_congr' {α : Type} {p q : α → Bool} : ∀ {l : List α}, (∀ x, x ∈ l → p x = q x) → l.all p = l.all q
  | [], _ => rfl
  | x :: l, h => by simp only [List.all_cons]; rw [h x (by simp), all_congr' (fun y hy => h y (by simp [hy]))]

theorem acalc_congr [Tok] {P : Program} {T : Tab} {ops : List Oper} {s1 s2 : St} {o : Oper} (h : ∀ t, t ∈ looks ops o → s1.slots.getD t dflt = s2.slots.getD t dflt) (hm : s1.mem = s2.mem ∨ isAssign o.op = true) :
    acalc P T ops s1 o = acalc P T ops s2 o := by
  have hop : ∀ y, y ∈ o.op.operands.toList → ∀ t, y = .tmp t → s1.slots.getD t dflt = s2.slots.getD t dflt := fun y hy t ht => h t (List.mem_append_left _ (mem_tmpsOf hy ht))
  have hte : ∀ t, t ∈ testsOf ops o → s1.slots.getD t dflt = s2.slots.getD t dflt := fun t ht => h t (List.mem_append_right _ ht)
  unfold acalc
  rw [opChain_congr hte]
  cases hc : opChain ops s2.slots o with
  | none => rfl
  | some c =>
    simp only
    have hgen : cond (o.op.operands.toList.all (opdOk s1.slots c)) ((aval P T s1 o).map fun v => (c, v)) none = cond (o.op.operands.toList.all (opdOk s2.slots c)) ((aval P T s2 o).map fun v => (c, v)) none := by
      rw [all_congr' (fun y hy => opdOk_congr (hop y hy)), aval_congr (fun y hy => aeval_congr (hop y hy)) hm]
    split
    · rename_i g x y hopk
      have h1 := hop (.tmp g) (by rw [hopk]; simp [Op.operands])
      have h2 := hop x (by rw [hopk]; simp [Op.operands])
      have h3 := hop y (by rw [hopk]; simp [Op.operands])
      rw [opdOk_congr h1, opdOk_congr h2, opdOk_congr h3, aeval_congr h1, aeval_congr h2, aeval_congr h3]
    · exact hgen

/-! ### Counting -/
theorem countP_lt {α : Type} {p q : α → Bool} : ∀ {l : List α} {x : α}, (∀ y, y ∈ l → q y = true → p y = true) → x ∈ l → p x = true → q x = false → l.countP q < l.countP p
  | [], _, _, hx, _, _ => by cases hx
  | y :: l, x, h, hx, hp, hq => by
    rw [List.countP_cons, List.countP_cons]
    have hle : l.countP q ≤ l.countP p := List.countP_mono_left fun z hz => h z (by simp [hz])
    rcases List.mem_cons.1 hx with rfl | hx
    · rw [hp, hq]; simp; omega
    · have ih := countP_lt (fun z hz => h z (by simp [hz])) hx hp hq
      have hy := h y (by simp)
      cases hqy : q y
      · simp; omega
      · rw [hy hqy]; simp; omega

/-! ### Any order -/
section
variable {P : Program} {T : Tab} {base : Bs} {w0 : World} {bs : List Nat} {ops : Array Oper}

/-- Has an operation that writes this slot been carried out? -/
def wrB (ops : List Oper) (listed : Array Bool) (t : Nat) : Bool := ops.zipIdx.any fun p => writes p.1 t && listed.getD p.2 false
def stB (ops : List Oper) (listed : Array Bool) : Bool := ops.zipIdx.any fun p => isStore p.1.op && listed.getD p.2 false
def alB (ops : List Oper) (listed : Array Bool) : Bool := ops.zipIdx.any fun p => isAlloc p.1.op && listed.getD p.2 false
/-- What is known in the middle of a region; 'mA': memory with the one new variable in it. -/
def mixS (ops : List Oper) (s0 sf : St) (mA : List (List Value)) (listed : Array Bool) : St :=
  { slots := (List.range s0.slots.length).map fun t => cond (wrB ops listed t) (sf.slots.getD t dflt) (s0.slots.getD t dflt),
    mem := cond (stB ops listed) sf.mem (cond (alB ops listed) mA s0.mem), ro := s0.ro }

structure JInv [Tok] (base : Bs) (w0 : World) (bs es : List Nat) (ops : Array Oper) (s0 sf : St) (mA : List (List Value)) (listed : Array Bool) (a : Act) (w : World) : Prop where
  defers : a.defers = []
  frame : frel (bs ++ es) sf.slots (mixS ops.toList s0 sf mA listed).slots a.tmps
  mem : MemRel (bs ++ es) (mixS ops.toList s0 sf mA listed).mem w
  mem0 : stB ops.toList listed = false → MemRel bs s0.mem w
  none : alB ops.toList listed = false → es = []
  own : ∀ i b, s0.ro ≤ i → (bs ++ es)[i]? = some b → base.owns b ∧ (∃ cs e, w.heap[b]? = some (.cells cs e (0, 0))) ∧ ∀ j, (bs ++ es)[j]? = some b → j = i
  below : BelowB base w0 w
  base_le : base.n ≤ w.heap.size
  pre0 : Pre base.hd s0.mem
  pre : Pre base.hd (mixS ops.toList s0 sf mA listed).mem
  pre_ro : base.hd.length ≤ s0.ro
  size : listed.size = ops.size
  shut : ∀ i o, ops[i]? = some o → listed.getD i false = true → ∀ e, e ∈ o.after → Region.binds .any e = true → listed.getD e.on false = true

theorem mix_getD {L : List Oper} {s0 sf : St} {mA : List (List Value)} (hl : sf.slots.length = s0.slots.length) (listed : Array Bool) (t : Nat) :
    (mixS L s0 sf mA listed).slots.getD t dflt = cond (wrB L listed t) (sf.slots.getD t dflt) (s0.slots.getD t dflt) := by
  simp only [mixS, List.getD_eq_getElem?_getD, List.getElem?_map]
  by_cases ht : t < s0.slots.length
  · simp [ht]
  · rw [List.getElem?_eq_none (by simpa using Nat.le_of_not_lt ht), List.getElem?_eq_none (by omega), List.getElem?_eq_none (by omega)]
    cases wrB L listed t <;> rfl

theorem wrB_iff {L : List Oper} {listed : Array Bool} {t : Nat} : wrB L listed t = true ↔ ∃ i o, L[i]? = some o ∧ writes o t = true ∧ listed.getD i false = true := by
  unfold wrB
  rw [List.any_eq_true]
  constructor
  · rintro ⟨⟨o, i⟩, hm, h⟩
    simp only [Bool.and_eq_true] at h
    exact ⟨i, o, List.mem_zipIdx_iff_getElem?.1 hm, h⟩
  · rintro ⟨i, o, h1, h2, h3⟩
    exact ⟨(o, i), List.mem_zipIdx_iff_getElem?.2 h1, by simp only [Bool.and_eq_true]; exact ⟨h2, h3⟩⟩
theorem stB_iff {L : List Oper} {listed : Array Bool} : stB L listed = true ↔ ∃ i o, L[i]? = some o ∧ isStore o.op = true ∧ listed.getD i false = true := by
  unfold stB
  rw [List.any_eq_true]
  constructor
  · rintro ⟨⟨o, i⟩, hm, h⟩
    simp only [Bool.and_eq_true] at h
    exact ⟨i, o, List.mem_zipIdx_iff_getElem?.1 hm, h⟩
  · rintro ⟨i, o, h1, h2, h3⟩
    exact ⟨(o, i), List.mem_zipIdx_iff_getElem?.2 h1, by simp only [Bool.and_eq_true]; exact ⟨h2, h3⟩⟩

theorem alB_iff {L : List Oper} {listed : Array Bool} : alB L listed = true ↔ ∃ i o, L[i]? = some o ∧ isAlloc o.op = true ∧ listed.getD i false = true := by
  unfold alB
  rw [List.any_eq_true]
  constructor
  · rintro ⟨⟨o, i⟩, hm, h⟩
    simp only [Bool.and_eq_true] at h
    exact ⟨i, o, List.mem_zipIdx_iff_getElem?.1 hm, h⟩
  · rintro ⟨i, o, h1, h2, h3⟩
    exact ⟨(o, i), List.mem_zipIdx_iff_getElem?.2 h1, by simp only [Bool.and_eq_true]; exact ⟨h2, h3⟩⟩

theorem hasEdge_listed {o : Oper} {i : Nat} {listed : Array Bool} (h : hasEdge o i = true) (ha : ∀ e, e ∈ o.after → Region.binds .any e = true → listed.getD e.on false = true) : listed.getD i false = true := by
  unfold hasEdge at h
  rw [List.any_eq_true] at h
  obtain ⟨e, he, h2⟩ := h
  simp only [Bool.and_eq_true] at h2
  have : e.on = i := by simpa using h2.1
  rw [← this]
  exact ha e (by simpa using he) h2.2

/-- The look, opened. -/
theorem drawOk_spec {L : List Oper} {len : Nat} (h : drawOk L len = true) {j : Nat} {oj : Oper} (hj : L[j]? = some oj) :
    isNew oj.op = false ∧ (∀ e, e ∈ oj.after → Region.binds .any e = true → e.on < j) ∧ (∀ d, oj.dst = some d → d < len ∧ ∀ i oi, L[i]? = some oi → writes oi d = true → i = j) ∧
    (∀ t, t ∈ looks L oj → ∀ i oi, L[i]? = some oi → writes oi t = true → (i < j ∧ hasEdge oj i = true) ∨ (j < i ∧ hasEdge oi j = true)) ∧
    (∀ t, t ∈ testsOf L oj → ∀ i oi, L[i]? = some oi → writes oi t = true → i < j) ∧
    (isStore oj.op = true → ∀ i oi, L[i]? = some oi → i = j ∨ isAssign oi.op = true ∨ (i < j ∧ hasEdge oj i = true)) ∧
    (isAlloc oj.op = true → ∀ i oi, L[i]? = some oi → isAlloc oi.op = true → i = j) := by
  unfold drawOk at h
  rw [List.all_eq_true] at h
  have hq := h (oj, j) (List.mem_zipIdx_iff_getElem?.2 hj)
  simp only [Bool.and_eq_true] at hq
  obtain ⟨h1, h2, h3, h4, h5, h6, h7⟩ := hq
  have mem : ∀ {i : Nat} {oi : Oper}, L[i]? = some oi → (oi, i) ∈ L.zipIdx := fun hi => List.mem_zipIdx_iff_getElem?.2 hi
  have lt : ∀ {x y : Nat}, Nat.blt x y = true → x < y := fun h => Nat.le_of_ble_eq_true h
  refine ⟨by simpa using h1, fun e he hb => ?_, fun d hd => ?_, fun t ht i oi hi hw => ?_, fun t ht i oi hi hw => ?_, fun hs i oi hi => ?_, fun hs i oi hi ha => ?_⟩
  · rw [List.all_eq_true] at h2
    have := h2 e (by simpa using he)
    rw [hb] at this
    exact lt (by simpa using this)
  · rw [hd] at h3
    simp only [Bool.and_eq_true] at h3
    refine ⟨lt h3.1, fun i oi hi hw => ?_⟩
    have h32 := h3.2
    rw [List.all_eq_true] at h32
    have := h32 (oi, i) (mem hi)
    simp only [hw] at this
    simpa using this
  · rw [List.all_eq_true] at h4
    have h41 := h4 t ht
    rw [List.all_eq_true] at h41
    have := h41 (oi, i) (mem hi)
    simp only [hw, Bool.not_true, Bool.false_or, Bool.or_eq_true, Bool.and_eq_true] at this
    rcases this with ⟨h, h'⟩ | ⟨h, h'⟩
    · exact Or.inl ⟨lt h, h'⟩
    · exact Or.inr ⟨lt h, h'⟩
  · rw [List.all_eq_true] at h5
    have h51 := h5 t ht
    rw [List.all_eq_true] at h51
    have := h51 (oi, i) (mem hi)
    simp only [hw, Bool.not_true, Bool.false_or] at this
    exact lt this
  · rw [hs] at h6
    simp only [Bool.not_true, Bool.false_or] at h6
    rw [List.all_eq_true] at h6
    have := h6 (oi, i) (mem hi)
    simp only [Bool.or_eq_true, Bool.and_eq_true] at this
    rcases this with h | h | ⟨h, h'⟩
    · exact Or.inl (by simpa using h)
    · exact Or.inr (Or.inl h)
    · exact Or.inr (Or.inr ⟨lt h, h'⟩)
  · rw [hs] at h7
    simp only [Bool.not_true, Bool.false_or] at h7
    rw [List.all_eq_true] at h7
    have := h7 (oi, i) (mem hi)
    simp only [ha, Bool.not_true, Bool.false_or] at this
    simpa using this

variable {s0 sf : St} {S : Nat → St}

/-- The states of the order of the text, and how they hang together. -/
structure Lex [Tok] (P : Program) (T : Tab) (L : List Oper) (s0 sf : St) (S : Nat → St) : Prop where
  ok : drawOk L s0.slots.length = true
  first : S 0 = s0
  last : S L.length = sf
  step : ∀ k o, L[k]? = some o → dop P T L s0.mem (S k) o = some (S (k + 1))
  clear : ∀ t, (s0.slots.getD t dflt).2 = []

theorem Lex.cases [Tok] {L : List Oper} (hx : Lex P T L s0 sf S) {k : Nat} {o : Oper} (hk : L[k]? = some o) :
    (isStore o.op = true ∧ aop P T L (S k) o = some (S (k + 1)) ∧ (S (k + 1)).slots = (S k).slots ∧ (S (k + 1)).ro = (S k).ro ∧ o.dst = none) ∨ (isAlloc o.op = true ∧ ∃ t z, Lays P L (S k) (S (k + 1)) o t z) ∨
    (isStore o.op = false ∧ isAlloc o.op = false ∧ ∃ c v, acalc P T L { S k with mem := s0.mem } o = some (c, v) ∧ callBelow s0.mem.length { S k with mem := s0.mem } o = true ∧ (S (k + 1)).slots = putS (S k).slots o.dst (v, c) ∧ (S (k + 1)).mem = (S k).mem ∧ (S (k + 1)).ro = (S k).ro) :=
  dop_cases (hx.step k o hk)
/-- What slot an operation leaves, whatever it is. -/
theorem Lex.puts [Tok] {L : List Oper} (hx : Lex P T L s0 sf S) {k : Nat} {o : Oper} (hk : L[k]? = some o) : (S (k + 1)).ro = (S k).ro ∧ ∃ q, (S (k + 1)).slots = putS (S k).slots o.dst q := by
  rcases hx.cases hk with ⟨_, _, h, hr, hd⟩ | ⟨_, t, z, h⟩ | ⟨_, _, c, v, _, _, h, _, hr⟩
  · exact ⟨hr, dflt, by rw [h, hd]; rfl⟩
  · exact ⟨h.ro, _, h.slots⟩
  · exact ⟨hr, _, h⟩

theorem Lex.length [Tok] {L : List Oper} (hx : Lex P T L s0 sf S) : ∀ k, k ≤ L.length → (S k).slots.length = s0.slots.length
  | 0, _ => by rw [hx.first]
  | k + 1, hk => by
    have ih := Lex.length hx k (by omega)
    have ho : L[k]? = some L[k] := List.getElem?_eq_getElem (by omega)
    obtain ⟨_, q, h⟩ := hx.puts ho
    rw [h]; cases hd : L[k].dst <;> simp [putS, ih]

theorem Lex.ro [Tok] {L : List Oper} (hx : Lex P T L s0 sf S) : ∀ k, k ≤ L.length → (S k).ro = s0.ro
  | 0, _ => by rw [hx.first]
  | k + 1, hk => by
    have ih := Lex.ro hx k (by omega)
    have ho : L[k]? = some L[k] := List.getElem?_eq_getElem (by omega)
    rw [(hx.puts ho).1]; exact ih

/-- A slot that nothing writes between two places stays. -/
theorem Lex.stays [Tok] {L : List Oper} (hx : Lex P T L s0 sf S) (t i : Nat) : ∀ n, i + n ≤ L.length → (∀ k o, L[k]? = some o → i ≤ k → k < i + n → writes o t = false) → (S (i + n)).slots.getD t dflt = (S i).slots.getD t dflt
  | 0, _, _ => rfl
  | n + 1, hn, hw => by
    have ih := Lex.stays hx t i n (by omega) (fun k o hk h1 h2 => hw k o hk h1 (by omega))
    have hlt : i + n < L.length := by omega
    have ho : L[i + n]? = some L[i + n] := List.getElem?_eq_getElem hlt
    have hnw := hw (i + n) _ ho (by omega) (by omega)
    rw [← ih]
    show (S (i + n + 1)).slots.getD t dflt = _
    obtain ⟨_, q, h⟩ := hx.puts ho
    rw [h]
    cases hd : L[i + n].dst with
    | none => rfl
    | some d =>
      simp only [putS]
      rw [getD_set, if_neg]
      intro ⟨e, _⟩
      rw [writes, hd, e] at hnw
      simp at hnw

theorem Lex.memStays [Tok] {L : List Oper} (hx : Lex P T L s0 sf S) (i : Nat) : ∀ n, i + n ≤ L.length → (∀ k o, L[k]? = some o → i ≤ k → k < i + n → isStore o.op = false ∧ isAlloc o.op = false) → (S (i + n)).mem = (S i).mem
  | 0, _, _ => rfl
  | n + 1, hn, hw => by
    have ih := Lex.memStays hx i n (by omega) (fun k o hk h1 h2 => hw k o hk h1 (by omega))
    have hlt : i + n < L.length := by omega
    have ho : L[i + n]? = some L[i + n] := List.getElem?_eq_getElem hlt
    have hnw := hw (i + n) _ ho (by omega) (by omega)
    rw [← ih]
    show (S (i + n + 1)).mem = _
    rcases hx.cases ho with ⟨h0, _⟩ | ⟨h0, _⟩ | ⟨_, _, c, v, _, _, _, h, _⟩
    · rw [hnw.1] at h0; cases h0
    · rw [hnw.2] at h0; cases h0
    · rw [h]

theorem Lex.uniq [Tok] {L : List Oper} (hx : Lex P T L s0 sf S) {i j t : Nat} {oi oj : Oper} (hi : L[i]? = some oi) (hj : L[j]? = some oj) (h1 : writes oi t = true) (h2 : writes oj t = true) : i = j := by
  have hd : oj.dst = some t := by simpa [writes] using h2
  exact ((drawOk_spec hx.ok hj).2.2.1 t hd).2 i oi hi h1

/-- A slot ahead of all that writes it. -/
theorem Lex.before [Tok] {L : List Oper} (hx : Lex P T L s0 sf S) {t k : Nat} (hk : k ≤ L.length) (hw : ∀ i o, L[i]? = some o → i < k → writes o t = false) : (S k).slots.getD t dflt = s0.slots.getD t dflt := by
  have := hx.stays t 0 k (by omega) (fun i o hi _ h2 => hw i o hi (by omega))
  rw [Nat.zero_add, hx.first] at this
  exact this
/-- A slot behind what writes it. -/
theorem Lex.behind [Tok] {L : List Oper} (hx : Lex P T L s0 sf S) {t k i : Nat} {o : Oper} (hk : k ≤ L.length) (hi : L[i]? = some o) (hw : writes o t = true) (hik : i < k) : (S k).slots.getD t dflt = sf.slots.getD t dflt := by
  have := hx.stays t k (L.length - k) (by omega) (fun j oj hj h1 _ => by
    cases h : writes oj t
    · rfl
    · have := hx.uniq hi hj hw h; omega)
  rw [show k + (L.length - k) = L.length by omega, hx.last] at this
  exact this.symm
theorem Lex.never [Tok] {L : List Oper} (hx : Lex P T L s0 sf S) {t : Nat} (hw : ∀ (i : Nat) (o : Oper), L[i]? = some o → writes o t = false) : sf.slots.getD t dflt = s0.slots.getD t dflt := by
  have := hx.before (Nat.le_refl _) (fun i o hi _ => hw i o hi) (t := t)
  rw [hx.last] at this
  exact this

theorem Lex.sfLength [Tok] {L : List Oper} (hx : Lex P T L s0 sf S) : sf.slots.length = s0.slots.length := by
  have := hx.length L.length (Nat.le_refl _)
  rwa [hx.last] at this

/-- What an operation that is ready looks at is as it was in the order of the text. -/
theorem Lex.agree [Tok] {L : List Oper} (hx : Lex P T L s0 sf S) {mA : List (List Value)} {listed : Array Bool} {i : Nat} {o : Oper} (hi : L[i]? = some o) (hun : listed.getD i false = false) (hready : ∀ e, e ∈ o.after → Region.binds .any e = true → listed.getD e.on false = true)
    (hshut : ∀ j oj, L[j]? = some oj → listed.getD j false = true → ∀ e, e ∈ oj.after → Region.binds .any e = true → listed.getD e.on false = true) :
    ∀ t, t ∈ looks L o → (mixS L s0 sf mA listed).slots.getD t dflt = (S i).slots.getD t dflt := by
  intro t ht
  have hlt : i < L.length := (List.getElem?_eq_some_iff.1 hi).1
  rw [mix_getD hx.sfLength]
  have hsp := (drawOk_spec hx.ok hi).2.2.2.1 t ht
  cases hwr : wrB L listed t
  · rw [cond_false]
    refine (hx.before (Nat.le_of_lt hlt) fun j oj hj hji => ?_).symm
    cases h : writes oj t
    · rfl
    · rcases hsp j oj hj h with ⟨_, he⟩ | ⟨hlt2, _⟩
      · have := wrB_iff.2 ⟨j, oj, hj, h, hasEdge_listed he hready⟩
        rw [hwr] at this; cases this
      · omega
  · rw [cond_true]
    obtain ⟨j, oj, hj, hw, hl⟩ := wrB_iff.1 hwr
    rcases hsp j oj hj hw with ⟨hji, _⟩ | ⟨_, he⟩
    · exact (hx.behind (Nat.le_of_lt hlt) hj hw hji).symm
    · have := hasEdge_listed he (hshut j oj hj hl)
      rw [hun] at this; cases this

theorem Lex.agreeTests [Tok] {L : List Oper} (hx : Lex P T L s0 sf S) {mA : List (List Value)} {listed : Array Bool} {i : Nat} {o : Oper} (hi : L[i]? = some o) (hready : ∀ e, e ∈ o.after → Region.binds .any e = true → listed.getD e.on false = true) :
    ∀ t, t ∈ testsOf L o → (sf.slots.getD t dflt).1 = ((mixS L s0 sf mA listed).slots.getD t dflt).1 := by
  intro t ht
  rw [mix_getD hx.sfLength]
  have hsp := (drawOk_spec hx.ok hi).2.2.2.1 t (List.mem_append_right _ ht)
  have hte := (drawOk_spec hx.ok hi).2.2.2.2.1 t ht
  cases hwr : wrB L listed t
  · rw [cond_false]
    rw [hx.never fun j oj hj => ?_]
    cases h : writes oj t
    · rfl
    · rcases hsp j oj hj h with ⟨_, he⟩ | ⟨hlt2, _⟩
      · have := wrB_iff.2 ⟨j, oj, hj, h, hasEdge_listed he hready⟩
        rw [hwr] at this; cases this
      · have := hte j oj hj h; omega
  · rw [cond_true]

/-- Where a store has been carried out, what reads memory has been too. -/
theorem Lex.noStore [Tok] {L : List Oper} (hx : Lex P T L s0 sf S) {listed : Array Bool} {i : Nat} {o : Oper} (hi : L[i]? = some o) (hun : listed.getD i false = false) (ha : isAssign o.op = false)
    (hshut : ∀ j oj, L[j]? = some oj → listed.getD j false = true → ∀ e, e ∈ oj.after → Region.binds .any e = true → listed.getD e.on false = true) : stB L listed = false := by
  cases h : stB L listed
  · rfl
  · obtain ⟨m, om, hm, hs, hl⟩ := stB_iff.1 h
    rcases (drawOk_spec hx.ok hm).2.2.2.2.2.1 hs i o hi with e | h2 | ⟨_, he⟩
    · subst e; rw [hun] at hl; cases hl
    · rw [ha] at h2; cases h2
    · have := hasEdge_listed he (hshut m om hm hl)
      rw [hun] at this; cases this

theorem Lex.oneStore [Tok] {L : List Oper} (hx : Lex P T L s0 sf S) {i j : Nat} {oi oj : Oper} (hi : L[i]? = some oi) (hj : L[j]? = some oj) (h1 : isStore oi.op = true) (h2 : isStore oj.op = true) : i = j := by
  rcases (drawOk_spec hx.ok hi).2.2.2.2.2.1 h1 j oj hj with e | h | ⟨h, _⟩
  · exact e.symm
  · exact (not_both h2 h).elim
  · rcases (drawOk_spec hx.ok hj).2.2.2.2.2.1 h2 i oi hi with e | h' | ⟨h', _⟩
    · exact e
    · exact (not_both h1 h').elim
    · omega
theorem Lex.oneAlloc [Tok] {L : List Oper} (hx : Lex P T L s0 sf S) {i j : Nat} {oi oj : Oper} (hi : L[i]? = some oi) (hj : L[j]? = some oj) (h1 : isAlloc oi.op = true) (h2 : isAlloc oj.op = true) : i = j :=
  (drawOk_spec hx.ok hj).2.2.2.2.2.2 h2 i oi hi h1
/-- The variable is made ahead of the store. -/
theorem Lex.allocFirst [Tok] {L : List Oper} (hx : Lex P T L s0 sf S) {i j : Nat} {oi oj : Oper} (hi : L[i]? = some oi) (hj : L[j]? = some oj) (h1 : isAlloc oi.op = true) (h2 : isStore oj.op = true) : i < j ∧ hasEdge oj i = true := by
  rcases (drawOk_spec hx.ok hj).2.2.2.2.2.1 h2 i oi hi with e | h | h
  · subst e; rw [hi] at hj; cases hj; exact (not_both' h2 h1).elim
  · exact (not_both'' h1 h).elim
  · exact h

/-- Memory with the one new variable in it, if there is one. -/
def MA (L : List Oper) (s0 : St) (S : Nat → St) (mA : List (List Value)) : Prop := ∀ p o, L[p]? = some o → isAlloc o.op = true → (S p).mem = s0.mem ∧ (S (p + 1)).mem = mA

theorem Lex.hasMA [Tok] {L : List Oper} (hx : Lex P T L s0 sf S) : ∃ mA, MA L s0 S mA := by
  by_cases h : ∃ (p : Nat) (o : Oper), L[p]? = some o ∧ isAlloc o.op = true
  · obtain ⟨p, o, hp, ha⟩ := h
    refine ⟨(S (p + 1)).mem, fun q oq hq haq => ?_⟩
    have e := hx.oneAlloc hq hp haq ha
    subst e
    refine ⟨?_, rfl⟩
    have hlt : q < L.length := (List.getElem?_eq_some_iff.1 hq).1
    have := hx.memStays 0 q (by omega) (fun k ok hk _ hki => ⟨by
      cases h : isStore ok.op
      · rfl
      · have := (hx.allocFirst hq hk haq h).1; omega, by
      cases h : isAlloc ok.op
      · rfl
      · have := hx.oneAlloc hk hq h haq; omega⟩)
    rw [Nat.zero_add, hx.first] at this
    exact this
  · exact ⟨[], fun p o hp ha => (h ⟨p, o, hp, ha⟩).elim⟩

/-- Memory where the store comes up. -/
theorem Lex.atStore [Tok] {L : List Oper} (hx : Lex P T L s0 sf S) {mA : List (List Value)} (hA : MA L s0 S mA) {listed : Array Bool} {m : Nat} {o : Oper} (hm : L[m]? = some o) (hs : isStore o.op = true) (hready : ∀ e, e ∈ o.after → Region.binds .any e = true → listed.getD e.on false = true) :
    cond (alB L listed) mA s0.mem = (S m).mem ∧ (S (m + 1)).mem = sf.mem := by
  have hlt : m < L.length := (List.getElem?_eq_some_iff.1 hm).1
  constructor
  · by_cases h : ∃ (p : Nat) (op : Oper), L[p]? = some op ∧ isAlloc op.op = true
    · obtain ⟨p, op, hp, ha⟩ := h
      obtain ⟨hpm, he⟩ := hx.allocFirst hp hm ha hs
      have hl := alB_iff.2 ⟨p, op, hp, ha, hasEdge_listed he hready⟩
      rw [hl, cond_true]
      have := hx.memStays (p + 1) (m - (p + 1)) (by omega) (fun k ok hk h1 h2 => ⟨by
        cases h : isStore ok.op
        · rfl
        · have := hx.oneStore hk hm h hs; omega, by
        cases h : isAlloc ok.op
        · rfl
        · have := hx.oneAlloc hk hp h ha; omega⟩)
      rw [show p + 1 + (m - (p + 1)) = m by omega, (hA p op hp ha).2] at this
      exact this.symm
    · have hl : alB L listed = false := by
        cases h' : alB L listed
        · rfl
        · obtain ⟨p, op, hp, ha, _⟩ := alB_iff.1 h'; exact (h ⟨p, op, hp, ha⟩).elim
      rw [hl, cond_false]
      have := hx.memStays 0 m (by omega) (fun k ok hk _ h2 => ⟨by
        cases h' : isStore ok.op
        · rfl
        · have := hx.oneStore hk hm h' hs; omega, by
        cases h' : isAlloc ok.op
        · rfl
        · exact (h ⟨k, ok, hk, h'⟩).elim⟩)
      rw [Nat.zero_add, hx.first] at this
      exact this.symm
  · have := hx.memStays (m + 1) (L.length - (m + 1)) (by omega) (fun k ok hk h1 _ => ⟨by
      cases h : isStore ok.op
      · rfl
      · have := hx.oneStore hk hm h hs; omega, by
      cases h : isAlloc ok.op
      · rfl
      · have := (hx.allocFirst hk hm h hs).1; omega⟩)
    rw [show m + 1 + (L.length - (m + 1)) = L.length by omega, hx.last] at this
    exact this.symm

/-- Memory where all has been carried out. -/
theorem Lex.atEnd [Tok] {L : List Oper} (hx : Lex P T L s0 sf S) {mA : List (List Value)} (hA : MA L s0 S mA) {listed : Array Bool} (hall : ∀ i, i < L.length → listed.getD i false = true) : (mixS L s0 sf mA listed).mem = sf.mem := by
  simp only [mixS]
  cases h : stB L listed
  · rw [cond_false]
    have hns : ∀ (k : Nat) (ok : Oper), L[k]? = some ok → isStore ok.op = false := fun k ok hk => by
      cases h' : isStore ok.op
      · rfl
      · have := stB_iff.2 ⟨k, ok, hk, h', hall k (List.getElem?_eq_some_iff.1 hk).1⟩
        rw [h] at this; cases this
    cases h2 : alB L listed
    · rw [cond_false]
      have := hx.memStays 0 L.length (by omega) (fun k ok hk _ _ => ⟨hns k ok hk, by
        cases h' : isAlloc ok.op
        · rfl
        · have := alB_iff.2 ⟨k, ok, hk, h', hall k (List.getElem?_eq_some_iff.1 hk).1⟩
          rw [h2] at this; cases this⟩)
      rw [Nat.zero_add, hx.last, hx.first] at this
      exact this.symm
    · rw [cond_true]
      obtain ⟨p, op, hp, ha, _⟩ := alB_iff.1 h2
      have hlt : p < L.length := (List.getElem?_eq_some_iff.1 hp).1
      have := hx.memStays (p + 1) (L.length - (p + 1)) (by omega) (fun k ok hk h1 _ => ⟨hns k ok hk, by
        cases h' : isAlloc ok.op
        · rfl
        · have := hx.oneAlloc hk hp h' ha; omega⟩)
      rw [show p + 1 + (L.length - (p + 1)) = L.length by omega, hx.last, (hA p op hp ha).2] at this
      exact this.symm
  · rfl

theorem listed_set {listed : Array Bool} {i j : Nat} (hi : i < listed.size) : (listed.setIfInBounds i true).getD j false = (decide (i = j) || listed.getD j false) := by
  simp only [Array.getD_eq_getD_getElem?, Array.getElem?_setIfInBounds]
  by_cases h : i = j
  · subst h; simp [hi]
  · simp [h]

theorem wrB_set [Tok] {L : List Oper} {listed : Array Bool} {i t : Nat} {o : Oper} (hi : i < listed.size) (ho : L[i]? = some o) : wrB L (listed.setIfInBounds i true) t = (writes o t || wrB L listed t) := by
  rw [Bool.eq_iff_iff, Bool.or_eq_true, wrB_iff, wrB_iff]
  constructor
  · rintro ⟨j, oj, hj, hw, hl⟩
    rw [listed_set hi] at hl
    by_cases h : i = j
    · subst h; rw [ho] at hj; cases hj; exact Or.inl hw
    · exact Or.inr ⟨j, oj, hj, hw, by simpa [h] using hl⟩
  · rintro (h | ⟨j, oj, hj, hw, hl⟩)
    · exact ⟨i, o, ho, h, by rw [listed_set hi]; simp⟩
    · exact ⟨j, oj, hj, hw, by rw [listed_set hi, hl]; simp⟩
theorem alB_set [Tok] {L : List Oper} {listed : Array Bool} {i : Nat} {o : Oper} (hi : i < listed.size) (ho : L[i]? = some o) : alB L (listed.setIfInBounds i true) = (isAlloc o.op || alB L listed) := by
  rw [Bool.eq_iff_iff, Bool.or_eq_true, alB_iff, alB_iff]
  constructor
  · rintro ⟨j, oj, hj, hw, hl⟩
    rw [listed_set hi] at hl
    by_cases h : i = j
    · subst h; rw [ho] at hj; cases hj; exact Or.inl hw
    · exact Or.inr ⟨j, oj, hj, hw, by simpa [h] using hl⟩
  · rintro (h | ⟨j, oj, hj, hw, hl⟩)
    · exact ⟨i, o, ho, h, by rw [listed_set hi]; simp⟩
    · exact ⟨j, oj, hj, hw, by rw [listed_set hi, hl]; simp⟩
theorem stB_set [Tok] {L : List Oper} {listed : Array Bool} {i : Nat} {o : Oper} (hi : i < listed.size) (ho : L[i]? = some o) : stB L (listed.setIfInBounds i true) = (isStore o.op || stB L listed) := by
  rw [Bool.eq_iff_iff, Bool.or_eq_true, stB_iff, stB_iff]
  constructor
  · rintro ⟨j, oj, hj, hw, hl⟩
    rw [listed_set hi] at hl
    by_cases h : i = j
    · subst h; rw [ho] at hj; cases hj; exact Or.inl hw
    · exact Or.inr ⟨j, oj, hj, hw, by simpa [h] using hl⟩
  · rintro (h | ⟨j, oj, hj, hw, hl⟩)
    · exact ⟨i, o, ho, h, by rw [listed_set hi]; simp⟩
    · exact ⟨j, oj, hj, hw, by rw [listed_set hi, hl]; simp⟩

/-- What is known behind one more operation. -/
theorem frel_mix [Tok] {bs : List Nat} {s0 sf : St} {S : Nat → St} {L : List Oper} (hx : Lex P T L s0 sf S) {mA : List (List Value)} {listed : Array Bool} {a : Act} {i : Nat} {o : Oper} {c : Chain} {v u : Value} (hi : i < listed.size) (ho : L[i]? = some o)
    (hv : (S (i + 1)).slots = putS (S i).slots o.dst (v, c)) (hfr : frel bs sf.slots (mixS L s0 sf mA listed).slots a.tmps)
    (h1 : tru sf.slots c = true → vrel bs v u) (h2 : tru sf.slots c = false → u = undef) : frel bs sf.slots (mixS L s0 sf mA (listed.setIfInBounds i true)).slots (a.put o.dst u).tmps := by
  have hlt : i < L.length := (List.getElem?_eq_some_iff.1 ho).1
  cases hd : o.dst with
  | none =>
    have : (mixS L s0 sf mA (listed.setIfInBounds i true)).slots = (mixS L s0 sf mA listed).slots := by
      simp only [mixS]
      refine List.map_congr_left fun t _ => ?_
      rw [wrB_set hi ho]
      simp [writes, hd]
    rw [this]
    exact hfr
  | some d =>
    have hdl := ((drawOk_spec hx.ok ho).2.2.1 d hd).1
    have hsf : sf.slots.getD d dflt = (v, c) := by
      have hb := hx.behind (k := i + 1) (by omega) ho (show writes o d = true by simp [writes, hd]) (by omega)
      rw [← hb, hv, hd]
      simp only [putS]
      rw [getD_set, if_pos ⟨rfl, by rw [hx.length i (by omega)]; exact hdl⟩]
    refine ⟨?_, fun t => ?_⟩
    · have := hfr.1
      simp only [Act.put, Array.size_setIfInBounds, this, mixS, List.length_map]
    · rw [mix_getD hx.sfLength, wrB_set hi ho]
      simp only [Act.put]
      rw [tmps_set]
      have hf := hfr.2 t
      rw [mix_getD hx.sfLength] at hf
      by_cases ht : d = t
      · subst ht
        have hsz : d < a.tmps.size := by rw [hfr.1]; simp only [mixS, List.length_map, List.length_range]; exact hdl
        rw [if_pos ⟨rfl, hsz⟩, show writes o d = true by simp [writes, hd], Bool.true_or, cond_true, hsf]
        exact ⟨h1, h2⟩
      · rw [if_neg (fun e => ht e.1), show writes o t = false by simp [writes, hd, ht], Bool.false_or]
        exact hf

theorem shut_set [Tok] {listed : Array Bool} {i : Nat} {o : Oper} (hi : i < listed.size) (ho : ops[i]? = some o) (hready : ∀ e, e ∈ o.after → Region.binds .any e = true → listed.getD e.on false = true)
    (hshut : ∀ j oj, ops[j]? = some oj → listed.getD j false = true → ∀ e, e ∈ oj.after → Region.binds .any e = true → listed.getD e.on false = true) :
    ∀ j oj, ops[j]? = some oj → (listed.setIfInBounds i true).getD j false = true → ∀ e, e ∈ oj.after → Region.binds .any e = true → (listed.setIfInBounds i true).getD e.on false = true := by
  intro j oj hj hl e he hb
  rw [listed_set hi] at hl ⊢
  by_cases h : i = j
  · subst h
    rw [ho] at hj; cases hj
    rw [hready e he hb]; simp
  · have hl' : listed.getD j false = true := by simpa [h] using hl
    rw [hshut j oj hj hl' e he hb]; simp

theorem getD_of_size {listed : Array Bool} {i : Nat} (h : i < listed.size) : listed.getD i true = listed.getD i false := by
  simp [Array.getD_eq_getD_getElem?, h]

theorem mem_alloc [Tok] {bs : List Nat} {mem : List (List Value)} {w : World} (hm : MemRel bs mem w) {cells : List Value} {cs : Array Value} (e : TypeId) (hr : rowrel bs cells cs.toList) : MemRel (bs ++ [w.heap.size]) (mem ++ [cells]) (w.alloc (.cells cs e)) := by
  have hl := hm.1
  refine ⟨by simp [hl], fun i b cells' h1 h2 => ?_⟩
  rw [List.getElem?_append] at h1 h2
  by_cases hi : i < bs.length
  · rw [if_pos hi] at h1
    rw [if_pos (by omega)] at h2
    obtain ⟨h3, cs', e', fz, h4, h5⟩ := hm.2 i b cells' h1 h2
    exact ⟨by simp; omega, cs', e', fz, by rw [Below.heap_alloc _ _ _ h3]; exact h4, rowpre_more _ h5⟩
  · rw [if_neg hi] at h1
    rw [if_neg (by omega)] at h2
    have hz : i - bs.length = 0 := by
      rcases Nat.eq_zero_or_pos (i - bs.length) with h | h
      · exact h
      · rw [List.getElem?_eq_none (by simp; omega)] at h1; cases h1
    rw [hz] at h1
    rw [show i - mem.length = 0 by omega] at h2
    simp at h1 h2
    subst h1 h2
    refine ⟨by simp, cs, e, (0, 0), ?_, rowpre_more _ (rowpre_of_rowrel hr)⟩
    show (w.heap.push _)[w.heap.size]? = _
    simp

theorem own_alloc [Tok] {base : Bs} {ro : Nat} {bs : List Nat} {mem : List (List Value)} {w : World} (hm : MemRel bs mem w) (hb : base.n ≤ w.heap.size) (cs : Array Value) (e : TypeId)
    (hown : ∀ i b, ro ≤ i → bs[i]? = some b → base.owns b ∧ (∃ cs e, w.heap[b]? = some (.cells cs e (0, 0))) ∧ ∀ j, bs[j]? = some b → j = i) :
    ∀ i b, ro ≤ i → (bs ++ [w.heap.size])[i]? = some b → base.owns b ∧ (∃ cs' e', (w.alloc (.cells cs e)).heap[b]? = some (.cells cs' e' (0, 0))) ∧ ∀ j, (bs ++ [w.heap.size])[j]? = some b → j = i := by
  intro i b hi hbi
  have hl := hm.1
  have hlt : ∀ j c, bs[j]? = some c → c < w.heap.size := fun j c hj => by
    have hj' : j < mem.length := by rw [← hl]; exact (List.getElem?_eq_some_iff.1 hj).1
    exact (hm.2 j c _ hj (List.getElem?_eq_getElem hj')).1
  rw [List.getElem?_append] at hbi
  by_cases hib : i < bs.length
  · rw [if_pos hib] at hbi
    obtain ⟨h3, ⟨cs', e', h4⟩, h5⟩ := hown i b hi hbi
    refine ⟨h3, ⟨cs', e', by rw [Below.heap_alloc _ _ _ (hlt i b hbi)]; exact h4⟩, fun j hj => ?_⟩
    rw [List.getElem?_append] at hj
    by_cases hjb : j < bs.length
    · rw [if_pos hjb] at hj; exact h5 j hj
    · rw [if_neg hjb] at hj
      have := hlt i b hbi
      cases hz : j - bs.length with
      | zero => rw [hz] at hj; simp at hj; omega
      | succ k => rw [hz] at hj; simp at hj
  · rw [if_neg hib] at hbi
    have hz : i - bs.length = 0 := by
      rcases Nat.eq_zero_or_pos (i - bs.length) with h | h
      · exact h
      · rw [List.getElem?_eq_none (by simp; omega)] at hbi; cases hbi
    rw [hz] at hbi
    simp at hbi
    subst hbi
    refine ⟨Or.inl hb, ⟨cs, e, ?_⟩, fun j hj => ?_⟩
    · show (w.heap.push _)[w.heap.size]? = _
      simp
    · rw [List.getElem?_append] at hj
      by_cases hjb : j < bs.length
      · rw [if_pos hjb] at hj; have := hlt j _ hj; omega
      · rw [if_neg hjb] at hj
        cases hz' : j - bs.length with
        | zero => omega
        | succ k => rw [hz'] at hj; simp at hj

/-- One operation that is ready, in the middle of a region. -/
theorem J_step [Tok] {s0 sf : St} {S : Nat → St} {mA : List (List Value)} {Q : Exit → Act → World → Prop} (hT : TOk P T base.hd) (hx : Lex P T ops.toList s0 sf S) (hA : MA ops.toList s0 S mA) {es : List Nat} {listed : Array Bool} {a : Act} {w : World}
    (hJ : JInv base w0 bs es ops s0 sf mA listed a w) {i : Nat} (hr : i ∈ Region.ready .any ops listed)
    {K : Act → World → Prop} (hK : ∀ es' a' w', JInv base w0 bs es' ops s0 sf mA (listed.setIfInBounds i true) a' w' → K a' w') : wpOp P ops Q i K a w := by
  obtain ⟨hun, o, ho, hready⟩ := mem_ready.1 hr
  have hil : i < ops.size := (Array.getElem?_eq_some_iff.1 ho).1
  have hi : i < listed.size := by rw [hJ.size]; exact hil
  have hun' : listed.getD i false = false := by rw [← getD_of_size hi]; exact hun
  have ho' : ops.toList[i]? = some o := by simpa using ho
  have hshut' : ∀ (j : Nat) (oj : Oper), ops.toList[j]? = some oj → listed.getD j false = true → ∀ e, e ∈ oj.after → Region.binds .any e = true → listed.getD e.on false = true :=
    fun j oj hj => hJ.shut j oj (by simpa using hj)
  have hag := hx.agree (mA := mA) ho' hun' hready hshut'
  have hat := hx.agreeTests (mA := mA) (listed := listed) ho' hready
  have hwant : o.guard.isNone = true → Region.wanted o (yielded ops a.tmps) = true := fun hg => by
    unfold Region.wanted; cases hgd : o.guard with
    | none => rfl
    | some g => rw [hgd] at hg; cases hg
  unfold wpOp
  rw [ho]
  simp only
  rcases hx.cases ho' with ⟨hs, hst, hslots, hro, hdn⟩ | ⟨hal, t, z, hly⟩ | ⟨hns, hna, c, v, hc, hcb, hslots, hmem, hro⟩
  · -- a store
    have hnost : stB ops.toList listed = false := by
      cases h : stB ops.toList listed
      · rfl
      · obtain ⟨m, om, hm, hsm, hl⟩ := stB_iff.1 h
        have := hx.oneStore hm ho' hsm hs
        subst this; rw [hun'] at hl; cases hl
    obtain ⟨hmm0, hfin⟩ := hx.atStore hA ho' hs hready
    have hmm : (mixS ops.toList s0 sf mA listed).mem = (S i).mem := by simp only [mixS, hnost, cond_false]; exact hmm0
    cases hop : o.op <;> rw [hop] at hs <;> first | (cases hs; done) | skip
    rename_i t p x
    unfold aop at hst
    rw [hop] at hst
    simp only at hst
    have hlp : ∀ u, p = .tmp u → (mixS ops.toList s0 sf mA listed).slots.getD u dflt = (S i).slots.getD u dflt := fun u hu => hag u (List.mem_append_left _ (mem_tmpsOf (y := p) (by rw [hop]; simp [Op.operands]) hu))
    have hlx : ∀ u, x = .tmp u → (mixS ops.toList s0 sf mA listed).slots.getD u dflt = (S i).slots.getD u dflt := fun u hu => hag u (List.mem_append_left _ (mem_tmpsOf (y := x) (by rw [hop]; simp [Op.operands]) hu))
    split at hst
    · rename_i k off hpt
      split at hst
      · rename_i cells inf hmi hinf
        obtain ⟨hk, hst⟩ := cond_some hst
        simp only [Bool.and_eq_true] at hk
        obtain ⟨hg, _, hp, hxo, hpx, hroi, hsz, hle⟩ := hk
        rw [← opdOk_congr hlp] at hp
        rw [← opdOk_congr hlx] at hxo
        rw [← aeval_congr hlx] at hpx hsz
        rw [← aeval_congr hlp] at hpt
        rw [← hmm] at hmi
        have hroi' : s0.ro ≤ k := by rw [← hx.ro i (by simp; omega)]; exact Nat.le_of_ble_eq_true hroi
        have hle' : off + inf.size ≤ cells.length := Nat.le_of_ble_eq_true hle
        have hsz' : (aeval (mixS ops.toList s0 sf mA listed) x).cells.size = inf.size := by simpa using hsz
        rw [if_pos (hwant hg)]
        refine Or.inl ?_
        have hv := frel_opd hJ.frame (c := []) rfl x hxo
        have hpv := frel_opd hJ.frame (c := []) rfl p hp
        rw [hpt] at hpv
        obtain ⟨b, hb, hpe⟩ := vrel_pointer hpv
        obtain ⟨hbb, ⟨cs, e, hcs⟩, huni⟩ := hJ.own k b hroi' hb
        obtain ⟨_, cs', e', fz, hcs', hpre⟩ := hJ.mem.2 k b cells hb hmi
        rw [hcs] at hcs'
        cases hcs'
        have hrun := store_run (P := P) (t := t) hinf hcs hpx hv hsz' hle' hpre
        unfold Oper.wp execOp
        simp only [hop, hpe, Sem.run_bind, hrun, Result.andThen_ok, Sem.run_pure, Oper.upon_skip, hdn, Act.put]
        have hcr := cells_rel hv hpx
        have hpre' := rowpre_store off hpre hcr (by simp; omega)
        rw [show (aeval (mixS ops.toList s0 sf mA listed) x).cells.toList.length = inf.size by simpa using hsz'] at hpre'
        have hstl : stB ops.toList (listed.setIfInBounds i true) = true := by rw [stB_set hi ho', hop]; rfl
        have hsame : (mixS ops.toList s0 sf mA (listed.setIfInBounds i true)).slots = (mixS ops.toList s0 sf mA listed).slots := by
          simp only [mixS]
          refine List.map_congr_left fun t _ => ?_
          rw [wrB_set hi ho']
          simp [writes, hdn]
        have hmem' : (mixS ops.toList s0 sf mA (listed.setIfInBounds i true)).mem = (mixS ops.toList s0 sf mA listed).mem.set k (cells.take off ++ ((aeval (mixS ops.toList s0 sf mA listed) x).cells.toList ++ cells.drop (off + inf.size))) := by
          have e1 : (mixS ops.toList s0 sf mA (listed.setIfInBounds i true)).mem = sf.mem := by
            simp only [mixS]; rw [hstl]; rfl
          rw [e1, ← hfin, ← hst, hmm, aeval_congr hlx]
        refine hK es _ _ {
          defers := hJ.defers
          frame := by rw [hsame]; exact hJ.frame
          mem := by rw [hmem']; exact hJ.mem.store hb hmi huni (by simpa using hpre')
          mem0 := fun h => by rw [hstl] at h; cases h
          none := fun h => by
            rw [alB_set hi ho', hop] at h
            exact hJ.none (by simpa [isAlloc] using h)
          own := fun j c hj hc => by
            obtain ⟨h3, ⟨cs2, e2, h4⟩, h5⟩ := hJ.own j c hj hc
            refine ⟨h3, ?_, h5⟩
            by_cases hcb : c = b
            · subst hcb; exact ⟨_, _, setRow_heap w c cs _ e (0, 0) hcs⟩
            · exact ⟨cs2, e2, by rw [setRow_other w b c _ hcb]; exact h4⟩
          below := BelowB.setRow' hJ.below hbb _
          base_le := by simpa [World.setRow] using hJ.base_le
          pre0 := hJ.pre0
          pre := by rw [hmem']; exact hJ.pre.set (Nat.le_trans hJ.pre_ro hroi') _
          pre_ro := hJ.pre_ro
          size := by simp [hJ.size]
          shut := shut_set hi ho hready hJ.shut }
      · cases hst
    · cases hst
  · -- the new variable
    have hnoal : alB ops.toList listed = false := by
      cases h : alB ops.toList listed
      · rfl
      · obtain ⟨m, om, hm, hsm, hl⟩ := alB_iff.1 h
        have := hx.oneAlloc hm ho' hsm hal
        subst this; rw [hun'] at hl; cases hl
    have hnost : stB ops.toList listed = false := hx.noStore ho' hun' (by rw [hly.op]; rfl) hshut'
    have hes : es = [] := hJ.none hnoal
    subst hes
    have hmm : (mixS ops.toList s0 sf mA listed).mem = s0.mem := by simp only [mixS, hnost, hnoal, cond_false]
    obtain ⟨hm0, hmA⟩ := hA i o ho' hal
    have hmAe : mA = s0.mem ++ [z.cells.toList.map canS] := by rw [← hmA, hly.mem, hm0]
    have hJm := hJ.mem
    rw [hmm, List.append_nil] at hJm
    have hJo := hJ.own
    rw [List.append_nil] at hJo
    rw [if_pos (hwant hly.guard)]
    refine Or.inl ?_
    have hzr := run_of_pureOf w hly.zero
    unfold Oper.wp execOp
    simp only [hly.op, Instr.alloc, newVar, newRow, Sem.run_bind, hzr, run_newObj, Result.andThen_ok, Sem.run_pure, Oper.upon_value]
    have hfr : frel (bs ++ [w.heap.size]) sf.slots (mixS ops.toList s0 sf mA listed).slots a.tmps := by
      have := hJ.frame
      rw [List.append_nil] at this
      exact frel_more _ this
    have hvp : vrel (bs ++ [w.heap.size]) (.pointer (some ⟨(S i).mem.length, 0, none⟩)) (.pointer (some ⟨w.heap.size, 0, none⟩)) :=
      ⟨w.heap.size, by rw [hm0, ← hJm.1]; simp, rfl⟩
    have hst1 : stB ops.toList (listed.setIfInBounds i true) = false := by rw [stB_set hi ho', hnost, hly.op]; rfl
    have hal1 : alB ops.toList (listed.setIfInBounds i true) = true := by rw [alB_set hi ho', hly.op]; rfl
    have hmem1 : (mixS ops.toList s0 sf mA (listed.setIfInBounds i true)).mem = mA := by simp only [mixS, hst1, hal1, cond_false, cond_true]
    have hrow : rowrel bs (z.cells.toList.map canS) z.cells.toList := rowrel_canS hly.one
    exact hK [w.heap.size] _ _ {
      defers := by rw [put_defers]; exact hJ.defers
      frame := frel_mix hx hi ho' hly.slots hfr (fun _ => hvp) (fun h => by cases h)
      mem := by rw [hmem1, hmAe]; exact mem_alloc hJm t hrow
      mem0 := fun _ => by
        have hb : Below w.heap.size w (w.alloc (.cells z.cells t)) := (Below.refl _ _).alloc (Nat.le_refl _) _
        exact (hJ.mem0 hnost).below hb
      none := fun h => by rw [hal1] at h; cases h
      own := own_alloc hJm hJ.base_le z.cells t hJo
      below := hJ.below.alloc hJ.base_le _
      base_le := by have := hJ.base_le; simp; omega
      pre0 := hJ.pre0
      pre := by rw [hmem1, hmAe]; exact hJ.pre0.append _
      pre_ro := hJ.pre_ro
      size := by simp [hJ.size]
      shut := shut_set hi ho hready hJ.shut }
  · -- any other
    have hst1 : stB ops.toList (listed.setIfInBounds i true) = stB ops.toList listed := by rw [stB_set hi ho', hns]; rfl
    have hal1 : alB ops.toList (listed.setIfInBounds i true) = alB ops.toList listed := by rw [alB_set hi ho', hna]; rfl
    have hmix : (mixS ops.toList s0 sf mA (listed.setIfInBounds i true)).mem = (mixS ops.toList s0 sf mA listed).mem := by
      simp only [mixS, hst1, hal1]
    have next : ∀ u w', (tru sf.slots c = true → vrel (bs ++ es) v u) → (tru sf.slots c = false → u = undef) → Below w.heap.size w w' → K (a.put o.dst u) w' := fun u w' g1 g2 hb =>
      hK es _ _ {
        defers := by rw [put_defers]; exact hJ.defers
        frame := frel_mix hx hi ho' hslots hJ.frame g1 g2
        mem := by rw [hmix]; exact hJ.mem.below hb
        mem0 := fun h => (hJ.mem0 (by rw [← hst1]; exact h)).below hb
        none := fun h => hJ.none (by rw [← hal1]; exact h)
        own := fun j b hj hbj => by
          obtain ⟨h3, ⟨cs, e, h4⟩, h5⟩ := hJ.own j b hj hbj
          exact ⟨h3, ⟨cs, e, by rw [hb.block b (Array.getElem?_eq_some_iff.1 h4).1]; exact h4⟩, h5⟩
        below := hJ.below.on hb hJ.base_le
        base_le := Nat.le_trans hJ.base_le hb.size
        pre0 := hJ.pre0
        pre := by rw [hmix]; exact hJ.pre
        pre_ro := hJ.pre_ro
        size := by simp [hJ.size]
        shut := shut_set hi ho hready hJ.shut }
    have core : Region.wanted o (yielded ops a.tmps) = tru sf.slots c ∧ (tru sf.slots c = true → Good P (bs ++ es) w v ((execOp a.eval o).run P w)) := by
      cases hst : stB ops.toList listed
      · have hm0 := hJ.mem0 hst
        have hcm : acalc P T ops.toList { mixS ops.toList s0 sf mA listed with mem := s0.mem } o = some (c, v) := by
          exact (acalc_congr (s1 := { mixS ops.toList s0 sf mA listed with mem := s0.mem }) (s2 := { S i with mem := s0.mem }) hag (Or.inl rfl)).trans hc
        have hcb' : callBelow bs.length { mixS ops.toList s0 sf mA listed with mem := s0.mem } o = true := by
          rw [hm0.1]
          rw [← hcb]
          unfold callBelow
          cases hop : o.op <;> simp only
          rename_i cl
          have hr : ∀ r m, cl.callee = .invoke r m → aeval { mixS ops.toList s0 sf mA listed with mem := s0.mem } r = aeval { S i with mem := s0.mem } r := fun r m e =>
            aeval_congr (s1 := { mixS ops.toList s0 sf mA listed with mem := s0.mem }) (s2 := { S i with mem := s0.mem }) (y := r) fun u hu => hag u (List.mem_append_left _ (mem_tmpsOf (y := r) (by rw [hop]; simp [Op.operands, Call.operands, e]) hu))
          refine congr (congrArg and ?_) ?_
          rotate_left
          · cases hcal : cl.callee with
            | invoke r m => simp only; rw [hr r m hcal]
            | value f => rfl
            | builtin b => rfl
          refine all_congr' fun y hy => ?_
          rw [aeval_congr (s1 := { mixS ops.toList s0 sf mA listed with mem := s0.mem }) (s2 := { S i with mem := s0.mem }) (y := y) fun u hu => hag u (List.mem_append_left _ (mem_tmpsOf (y := y) (by rw [hop]; simp [Op.operands, Call.operands]; exact Or.inr (by simpa using hy)) hu))]
        exact acalc_core (s := { mixS ops.toList s0 sf mA listed with mem := s0.mem }) hT hJ.pre0 hJ.frame hm0 rfl (Or.inr hcb') hat hcm
      · have has : isAssign o.op = true := by
          cases h : isAssign o.op
          · have := hx.noStore ho' hun' h hshut'; rw [hst] at this; cases this
          · rfl
        have hcm : acalc P T ops.toList (mixS ops.toList s0 sf mA listed) o = some (c, v) := by
          exact (acalc_congr (s2 := { S i with mem := s0.mem }) hag (Or.inr has)).trans hc
        exact acalc_core hT hJ.pre hJ.frame hJ.mem (List.append_nil _).symm (Or.inl rfl) hat hcm
    obtain ⟨h1, h2⟩ := core
    rw [h1]
    cases ht : tru sf.slots c
    · rw [if_neg (by simp)]
      exact next undef w (fun h => by rw [ht] at h; cases h) (fun _ => rfl) (Below.refl _ _)
    · rw [if_pos rfl]
      exact Or.inl (good_wp (h2 ht) fun u w' hu hb => next u w' (fun _ => hu) (fun h => by rw [ht] at h; cases h) hb)

/-- Where nothing is ready all has been carried out. -/
theorem all_listed [Tok] {s0 sf : St} {S : Nat → St} (hx : Lex P T ops.toList s0 sf S) {listed : Array Bool} (hsz : listed.size = ops.size) (hr : Region.ready .any ops listed = []) : ∀ i, i < ops.size → listed.getD i false = true := by
  intro i
  induction i using Nat.strongRecOn with
  | _ i ih =>
    intro hi
    cases h : listed.getD i false
    · have : i ∈ Region.ready .any ops listed := mem_ready.2 ⟨by rw [getD_of_size (by omega)]; exact h, ops[i], Array.getElem?_eq_getElem hi, fun e he hb => by
        have hlt := (drawOk_spec hx.ok (j := i) (oj := ops[i]) (by simp [hi])).2.1 e he hb
        exact ih e.on hlt (by omega)⟩
      rw [hr] at this; cases this
    · rfl

theorem J_any [Tok] {s0 sf : St} {S : Nat → St} {mA : List (List Value)} {Q : Exit → Act → World → Prop} (hT : TOk P T base.hd) (hx : Lex P T ops.toList s0 sf S) (hA : MA ops.toList s0 S mA)
    (hQ : ∀ es listed a w, (∀ i, i < ops.size → listed.getD i false = true) → JInv base w0 bs es ops s0 sf mA listed a w → Q .normal a w) :
    ∀ (fuel : Nat) (es : List Nat) (listed : Array Bool) (a : Act) (w : World), JInv base w0 bs es ops s0 sf mA listed a w → (List.range ops.size).countP (fun i => !listed.getD i false) ≤ fuel → wpAny P .any ops Q fuel listed a w := by
  intro fuel
  induction fuel with
  | zero =>
    intro es listed a w hJ hc
    have hall : ∀ i, i < ops.size → listed.getD i false = true := fun i hi => by
      have := List.countP_eq_zero.1 (Nat.le_zero.1 hc) i (List.mem_range.2 hi)
      simpa using this
    refine ⟨?_, hQ es listed a w hall hJ⟩
    cases hr : Region.ready .any ops listed with
    | nil => rfl
    | cons i l =>
      obtain ⟨hun, o, ho, _⟩ := mem_ready.1 (show i ∈ Region.ready .any ops listed by rw [hr]; simp)
      have hi : i < ops.size := (Array.getElem?_eq_some_iff.1 ho).1
      rw [getD_of_size (by rw [hJ.size]; exact hi), hall i hi] at hun
      cases hun
  | succ fuel ih =>
    intro es listed a w hJ hc
    refine ⟨fun hr => hQ es listed a w (all_listed hx hJ.size hr) hJ, fun i hr => J_step hT hx hA hJ hr fun es' a' w' hJ' => ih es' _ a' w' hJ' ?_⟩
    obtain ⟨hun, o, ho, _⟩ := mem_ready.1 hr
    have hi : i < ops.size := (Array.getElem?_eq_some_iff.1 ho).1
    have hil : i < listed.size := by rw [hJ.size]; exact hi
    have hlt := countP_lt (p := fun j => !listed.getD j false) (q := fun j => !(listed.setIfInBounds i true).getD j false) (l := List.range ops.size) (x := i)
      (fun y _ hy => by
        rw [listed_set hil] at hy
        simp only [Bool.not_eq_true', Bool.or_eq_false_iff] at hy ⊢
        exact hy.2) (List.mem_range.2 hi) (by rw [← getD_of_size hil, hun]; rfl) (by rw [listed_set hil]; simp)
    omega

/-- **A REGION THAT DRAWS ITS ORDER.** -/
theorem drawn_ok0 [Tok] {hd : List (List Value)} (hT : TOk P T hd) (hm : P.follows .mixedOrders = true) : DOk0 P (drawn P T) hd := by
  intro base hbase w0 bs s sf a w id ops Q hI hD hQ
  subst hbase
  unfold drawn at hD
  cases hk : (drawOk ops.toList s.slots.length && s.slots.all (fun q => q.2.isEmpty))
  · rw [hk] at hD; cases hD
  · rw [hk] at hD
    simp only [cond_true] at hD
    simp only [Bool.and_eq_true] at hk
    obtain ⟨S, h0, hn, hst⟩ := dops_states hD
    have hclear : ∀ t, (s.slots.getD t dflt).2 = [] := fun t => by
      rw [List.getD_eq_getElem?_getD]
      cases hq : s.slots[t]? with
      | none => rfl
      | some q =>
        have := (List.all_eq_true.1 hk.2) q (List.mem_of_getElem? hq)
        simpa using this
    have hx : Lex P T ops.toList s sf S := ⟨hk.1, h0, hn, hst, hclear⟩
    have hno : ∀ i, (Array.replicate ops.size false).getD i false = false := fun i => by
      simp only [Array.getD_eq_getD_getElem?, Array.getElem?_replicate]; split <;> rfl
    have hw0 : ∀ t, wrB ops.toList (Array.replicate ops.size false) t = false := fun t => by
      cases h : wrB ops.toList (Array.replicate ops.size false) t
      · rfl
      · obtain ⟨i, o, _, _, hl⟩ := wrB_iff.1 h
        rw [hno] at hl; cases hl
    have hs0 : stB ops.toList (Array.replicate ops.size false) = false := by
      cases h : stB ops.toList (Array.replicate ops.size false)
      · rfl
      · obtain ⟨i, o, _, _, hl⟩ := stB_iff.1 h
        rw [hno] at hl; cases hl
    have ha0 : alB ops.toList (Array.replicate ops.size false) = false := by
      cases h : alB ops.toList (Array.replicate ops.size false)
      · rfl
      · obtain ⟨i, o, _, _, hl⟩ := alB_iff.1 h
        rw [hno] at hl; cases hl
    obtain ⟨mA, hA⟩ := hx.hasMA
    refine wp_region_any hm (J_any (base := base) (w0 := w0) (bs := bs) hT hx hA ?_ ops.size [] _ a _ ?_ ?_)
    · intro es listed a' w' hall hJ
      refine hQ es a' w' ?_
      have hmem : (mixS ops.toList s sf mA listed).mem = sf.mem := hx.atEnd hA (fun i hi => hall i (by simpa using hi))
      have hfr : frel (bs ++ es) sf.slots sf.slots a'.tmps := by
        refine ⟨by rw [hJ.frame.1]; simp [mixS, hx.sfLength], fun t => ?_⟩
        have := hJ.frame.2 t
        rw [mix_getD hx.sfLength] at this
        cases h : wrB ops.toList listed t
        · rw [h, cond_false, ← hx.never fun i o hi => ?_] at this
          · exact this
          · cases h' : writes o t
            · rfl
            · have hi2 : i < ops.size := by have := (List.getElem?_eq_some_iff.1 hi).1; simpa using this
              have := wrB_iff.2 ⟨i, o, hi, h', hall i hi2⟩
              rw [h] at this; cases this
        · rw [h, cond_true] at this; exact this
      have hrosf : sf.ro = s.ro := by have := hx.ro ops.toList.length (Nat.le_refl _); rwa [hx.last] at this
      have hml : s.mem.length ≤ sf.mem.length := by
        have h1 := hJ.mem.1
        rw [hmem] at h1
        have h2 := hI.mem.1
        simp at h1
        omega
      exact {
        defers := hJ.defers
        frame := frel_clear hfr _
        mem := by rw [← hmem]; exact hJ.mem
        own := fun i b hi hb => hJ.own i b (by rw [← hrosf]; exact hi) hb
        ro_le := by show sf.ro ≤ sf.mem.length; rw [hrosf]; exact Nat.le_trans hI.ro_le hml
        below := hJ.below
        base_le := hJ.base_le
        pre := by show Pre base.hd sf.mem; rw [← hmem]; exact hJ.pre
        pre_ro := by show base.hd.length ≤ sf.ro; rw [hrosf]; exact hI.pre_ro }
    · exact {
        defers := hI.defers
        frame := by
          rw [List.append_nil]
          refine ⟨by rw [hI.frame.1]; simp [mixS], fun t => ?_⟩
          rw [mix_getD hx.sfLength, hw0, cond_false]
          have := hI.frame.2 t
          rw [hclear t] at this ⊢
          exact this
        mem := by rw [List.append_nil]; simp only [mixS, hs0, ha0, cond_false]; exact hI.mem
        mem0 := fun _ => hI.mem
        none := fun _ => rfl
        own := by rw [List.append_nil]; exact hI.own
        below := hI.below.drew
        base_le := hI.base_le
        pre0 := hI.pre
        pre := by simp only [mixS, hs0, ha0, cond_false]; exact hI.pre
        pre_ro := hI.pre_ro
        size := by simp
        shut := fun i o _ hl => by rw [hno] at hl; cases hl }
    · exact Nat.le_trans List.countP_le_length (by simp)

end

/-! ### Such regions, by cases -/
/-- The entries that go on by cases, plainly. -/
def Tab.flat (T : Tab) : Tab where
  f := fun f mem args => match T.k f with
    | some g => g mem args some
    | none => T.f f mem args
  m := T.m
  k := T.k
theorem TOk.flat [Tok] {P : Program} {T : Tab} {hd : List (List Value)} (h : TOk P T hd) : TOk P T.flat hd := by
  refine ⟨fun f mem args r hp hr => ?_, h.2.1, h.2.2⟩
  simp only [Tab.flat] at hr
  cases hk : T.k f with
  | none => rw [hk] at hr; exact h.1 f mem args r hp hr
  | some g =>
    rw [hk] at hr
    obtain ⟨v, h1, h2⟩ := (h.2.2 f g hk).1 mem args some r hr
    cases h1
    exact (h.2.2 f g hk).2 mem args r hp h2
def dopsK [Tok] (P : Program) (T : Tab) (ops : List Oper) (mem0 : List (List Value)) : List Oper → St → (St → Option Value) → Option Value
  | [], s, k => k s
  | o :: rest, s, k => match aopC P T { s with mem := mem0 } o with
    | some g => cond (o.guard.isNone && (o.op.operands.toList.all (opdOk s.slots []) && (callBelow mem0.length { s with mem := mem0 } o && dstOk s.slots [] o.dst))) (g fun v => dopsK P T ops mem0 rest { s with slots := putS s.slots o.dst (v, []) } k) none
    | none => match dop P T.flat ops mem0 s o with
      | some s' => dopsK P T ops mem0 rest s' k
      | none => none
theorem dopsK_some [Tok] {P : Program} {T : Tab} {ops : List Oper} {mem0 : List (List Value)} {r : Value} (hT : TPar T) : ∀ {l : List Oper} {s : St} {k : St → Option Value}, dopsK P T ops mem0 l s k = some r → ∃ s', dops P T.flat ops mem0 l s = some s' ∧ k s' = some r ∧ ∀ k', dopsK P T ops mem0 l s k' = k' s'
  | [], s, k, h => ⟨s, rfl, h, fun _ => rfl⟩
  | o :: rest, s, k, h => by
    simp only [dopsK] at h
    cases hC : aopC P T { s with mem := mem0 } o with
    | none =>
      rw [hC] at h
      simp only at h
      cases hd : dop P T.flat ops mem0 s o with
      | none => rw [hd] at h; cases h
      | some s1 =>
        rw [hd] at h
        obtain ⟨s2, h1, h2, h3⟩ := dopsK_some hT h
        exact ⟨s2, by simp only [dops, hd]; exact h1, h2, fun k' => by simp only [dopsK, hC, hd]; exact h3 k'⟩
    | some g =>
      rw [hC] at h
      simp only at h
      cases hc : (o.guard.isNone && (o.op.operands.toList.all (opdOk s.slots []) && (callBelow mem0.length { s with mem := mem0 } o && dstOk s.slots [] o.dst)))
      · rw [hc] at h; cases h
      · rw [hc] at h
        simp only [cond_true] at h
        have hC' := hC
        unfold aopC at hC
        split at hC
        · rename_i c hop
          split at hC
          · rename_i f args hcal
            split at hC
            · rename_i g' hg
              cases hC
              obtain ⟨v, h1, h2⟩ := hT f g' hg mem0 args _ r h
              obtain ⟨s2, h4, h5, h6⟩ := dopsK_some hT h1
              have hc0 := hc
              simp only [Bool.and_eq_true] at hc
              obtain ⟨hgd, hops, hcb, hd⟩ := hc
              refine ⟨s2, ?_, h5, fun k' => ?_⟩
              · have hch : opChain ops s.slots o = some [] := by
                  unfold opChain
                  cases hgd' : o.guard with
                  | none => rfl
                  | some g => rw [hgd'] at hgd; cases hgd
                have hTf : T.flat.f f mem0 args = some v := by
                  simp only [Tab.flat, hg]
                  exact h2 some
                have hval : aval P T.flat { s with mem := mem0 } o = some v := by
                  unfold aval
                  rw [hop]
                  simp only
                  unfold acallee at hcal
                  split at hcal
                  · rename_i f' hc'
                    cases hcal
                    rw [hc']
                    exact hTf
                  · rename_i rc name hc'
                    rw [hc']
                    simp only
                    split at hcal
                    · rename_i t y hrc
                      split at hcal
                      · rename_i f' hm
                        cases hcal
                        rw [hrc]
                        simp only [hm]
                        exact hTf
                      · cases hcal
                    · cases hcal
                  · cases hcal
                have hcalc : acalc P T.flat ops { s with mem := mem0 } o = some ([], v) := by
                  unfold acalc
                  simp only [hch]
                  split
                  · rename_i g x y hop'; rw [hop] at hop'; cases hop'
                  · rw [hops, hval]; rfl
                have hdop : dop P T.flat ops mem0 s o = some { s with slots := putS s.slots o.dst (v, []) } := by
                  unfold dop
                  have e1 : isStore o.op = false := by rw [hop]; rfl
                  have e2 : isAlloc o.op = false := by rw [hop]; rfl
                  rw [e1, e2]
                  simp only [Bool.or_self, cond_false, hcalc]
                  rw [hcb, hd]
                  rfl
                simp only [dops, hdop]
                exact h4
              · simp only [dopsK, hC']
                rw [hc0]
                simp only [cond_true]
                rw [h2]
                exact h6 k'
            · cases hC
          · cases hC
        · cases hC
def drawnK [Tok] (P : Program) (T : Tab) (ops : List Oper) (s : St) (k : St → Option Value) : Option Value :=
  cond (drawOk ops s.slots.length && s.slots.all (fun q => q.2.isEmpty)) (dopsK P T ops s.mem ops s k) none
theorem drawnK_some [Tok] {P : Program} {T : Tab} {ops : List Oper} {s : St} {k : St → Option Value} {r : Value} (hT : TPar T) (h : drawnK P T ops s k = some r) : ∃ s', drawn P T.flat ops s = some s' ∧ k s' = some r ∧ ∀ k', drawnK P T ops s k' = k' s' := by
  unfold drawnK at h
  cases hc : (drawOk ops s.slots.length && s.slots.all (fun q => q.2.isEmpty))
  · rw [hc] at h; cases h
  · rw [hc] at h
    simp only [cond_true] at h
    obtain ⟨s1, h1, h2, h3⟩ := dopsK_some hT h
    refine ⟨s1, ?_, h2, fun k' => ?_⟩
    · unfold drawn; rw [hc]; exact h1
    · unfold drawnK; rw [hc]; exact h3 k'

open Classical in
theorem drawn_ok [Tok] {P : Program} {T : Tab} {hd : List (List Value)} (hT : TOk P T hd) (hm : P.follows .mixedOrders = true) : DOk P (drawnK P T) hd := by
  constructor
  · intro ops s k r h
    obtain ⟨s', _, h2, h3⟩ := drawnK_some hT.par h
    exact ⟨s', h2, h3⟩
  · intro base hb w0 bs s s' a w id ops Q hI h hQ
    obtain ⟨s2, h1, _, h3⟩ := drawnK_some (r := junk) (k := fun _ => some junk) hT.par (h _)
    have e : s2 = s' := by
      have h4 := h3 fun x => if x = s' then some junk else none
      rw [h] at h4
      simp only [if_true] at h4
      by_cases e : s2 = s'
      · exact e
      · rw [if_neg e] at h4; cases h4
    subst e
    exact drawn_ok0 hT.flat hm base hb w0 bs s s2 a w id ops Q hI h1 hQ

end Go.Ev
