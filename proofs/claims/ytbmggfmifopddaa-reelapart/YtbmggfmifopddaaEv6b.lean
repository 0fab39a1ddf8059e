/-
  A region that draws its order and makes several variables, each of which is laid once and looked at by nothing else in it: whatever order is drawn, it gives what the order of the text gives.
-/
import Derived.Test.YtbmggfmifopddaaEv6
namespace Go.Ev
open Go.RowKit

def isInit (d : Nat) (o : Oper) : Bool := match o.op with
  | .store _ (.tmp p) x => p == d && (match x with | .tmp q => !(q == d) | _ => true)
  | _ => false
def allocOf (t : TypeId) (p : Nat) (o : Oper) : Bool := match o.op with
  | .alloc t' => (t' == t) && (o.dst == some p)
  | _ => false
def multiOk (ops : List Oper) (q : Oper × Nat) : Bool := match q.1.op with
  | .store t (.tmp p) x => q.1.guard.isNone && (q.1.dst.isNone && (isInit p q.1 && (ops.zipIdx.any (fun r => allocOf t p r.1 && Nat.blt r.2 q.2) && (match x with | .tmp u => ops.zipIdx.all (fun r => !writes r.1 u || Nat.blt r.2 q.2) | _ => true))))
  | .store _ _ _ => false
  | .alloc _ => q.1.guard.isNone && (match q.1.dst with
    | some d => ops.zipIdx.all fun p => !((looks ops p.1).contains d) || (isInit d p.1 && ops.zipIdx.all fun r => !isInit d r.1 || r.2 == p.2)
    | none => false)
  | _ => true
def drawOk2 (ops : List Oper) (len : Nat) : Bool :=
  ops.zipIdx.all fun q =>
    !isNew q.1.op &&
    ((q.1.after.toList.all fun e => !Region.binds .any e || Nat.blt e.on q.2) &&
    ((match q.1.dst with | some d => Nat.blt d len && ops.zipIdx.all (fun p => !writes p.1 d || p.2 == q.2) | none => true) &&
    ((looks ops q.1).all (fun t => ops.zipIdx.all fun p => !writes p.1 t || ((Nat.blt p.2 q.2 && hasEdge q.1 p.2) || (Nat.blt q.2 p.2 && hasEdge p.1 q.2))) &&
    ((testsOf ops q.1).all (fun t => ops.zipIdx.all fun p => !writes p.1 t || Nat.blt p.2 q.2) &&
    multiOk ops q))))

/-- One operation: what is made and laid is left for later. -/
def dopX [Tok] (P : Program) (T : Tab) (ops : List Oper) (mem0 : List (List Value)) (s : St) (o : Oper) : Option St :=
  cond (isStore o.op) (some s) (cond (isAlloc o.op) (cond (dstOk s.slots [] o.dst) (some { s with slots := putS s.slots o.dst (junk, []) }) none) (match acalc P T ops { s with mem := mem0 } o with
    | some (c, v) => cond (dstOk s.slots c o.dst) (some { s with slots := putS s.slots o.dst (v, c) }) none
    | none => none))
def dopsX [Tok] (P : Program) (T : Tab) (ops : List Oper) (mem0 : List (List Value)) : List Oper → St → Option St
  | [], s => some s
  | o :: rest, s => match dopX P T ops mem0 s o with
    | some s' => dopsX P T ops mem0 rest s'
    | none => none
/-- What is laid where a variable is made. -/
def rowOf (ops : List Oper) (s1 : St) (z : Value) (d : Nat) : Option (List Value) := match ops.find? (isInit d) with
  | some o => match o.op with
    | .store _ _ x => cond (opdOk s1.slots [] x && (okPart (aeval s1 x) && ((aeval s1 x).cells.size == z.cells.size))) (some (aeval s1 x).cells.toList) none
    | _ => none
  | none => some (z.cells.toList.map canS)
def finishL (P : Program) (ops : List Oper) (s1 : St) : List Oper → List (Value × Chain) → List (List Value) → Option (List (Value × Chain) × List (List Value))
  | [], sl, m => some (sl, m)
  | o :: rest, sl, m => match o.op with
    | .alloc t => match pureOf P (zeroValue t), P.info? t, o.dst with
      | some z, some inf, some d => cond (z.cells.toList.all (·.oneCell') && (inf.size == z.cells.size)) (match rowOf ops s1 z d with
          | some row => finishL P ops s1 rest (sl.set d (.pointer (some ⟨m.length, 0, none⟩), [])) (m ++ [row])
          | none => none) none
      | _, _, _ => none
    | _ => finishL P ops s1 rest sl m
def finish (P : Program) (ops : List Oper) (s1 : St) : Option St := match finishL P ops s1 ops s1.slots s1.mem with
  | some (sl, m) => some { s1 with slots := sl, mem := m }
  | none => none
def drawn2 [Tok] (P : Program) (T : Tab) (ops : List Oper) (s : St) : Option St :=
  cond (drawOk2 ops s.slots.length && s.slots.all (fun q => q.2.isEmpty)) (match dopsX P T ops s.mem ops s with
    | some s1 => finish P ops s1
    | none => none) none

/-! ### The order of the text, state by state -/
theorem dopsX_states [Tok] {P : Program} {T : Tab} {L : List Oper} {mem0 : List (List Value)} : ∀ {l : List Oper} {s sf : St}, dopsX P T L mem0 l s = some sf → ∃ S : Nat → St, S 0 = s ∧ S l.length = sf ∧ ∀ k o, l[k]? = some o → dopX P T L mem0 (S k) o = some (S (k + 1))
  | [], s, sf, h => by
    simp only [dopsX, Option.some.injEq] at h
    exact ⟨fun _ => s, rfl, h, fun k o hk => by simp at hk⟩
  | o :: l, s, sf, h => by
    simp only [dopsX] at h
    split at h
    · rename_i s1 h1
      obtain ⟨S, h2, h3, h4⟩ := dopsX_states h
      refine ⟨fun k => match k with | 0 => s | k + 1 => S k, rfl, h3, fun k o' hk => ?_⟩
      cases k with
      | zero => simp at hk; subst hk; show dopX P T L mem0 s o = some (S 0); rw [h2]; exact h1
      | succ k => exact h4 k o' (by simpa using hk)
    · cases h
theorem dopX_cases [Tok] {P : Program} {T : Tab} {L : List Oper} {mem0 : List (List Value)} {s s' : St} {o : Oper} (h : dopX P T L mem0 s o = some s') :
    (isStore o.op = true ∧ s' = s) ∨ (isAlloc o.op = true ∧ s' = { s with slots := putS s.slots o.dst (junk, []) }) ∨
    (isStore o.op = false ∧ isAlloc o.op = false ∧ ∃ c v, acalc P T L { s with mem := mem0 } o = some (c, v) ∧ s' = { s with slots := putS s.slots o.dst (v, c) }) := by
  unfold dopX at h
  cases hs : isStore o.op
  · cases ha : isAlloc o.op
    · simp only [hs, ha, cond_false] at h
      refine Or.inr (Or.inr ⟨rfl, rfl, ?_⟩)
      split at h
      · rename_i c v hc
        obtain ⟨hk, h⟩ := cond_some h
        exact ⟨c, v, hc, h.symm⟩
      · cases h
    · simp only [hs, ha, cond_false, cond_true] at h
      exact Or.inr (Or.inl ⟨rfl, (cond_some h).2.symm⟩)
  · simp only [hs, cond_true, Option.some.injEq] at h
    exact Or.inl ⟨rfl, h.symm⟩

section
variable {P : Program} {T : Tab} {base : Bs} {w0 : World} {bs : List Nat} {ops : Array Oper}

theorem drawOk2_spec {L : List Oper} {len : Nat} (h : drawOk2 L len = true) {j : Nat} {oj : Oper} (hj : L[j]? = some oj) :
    isNew oj.op = false ∧ (∀ e, e ∈ oj.after → Region.binds .any e = true → e.on < j) ∧ (∀ d, oj.dst = some d → d < len ∧ ∀ i oi, L[i]? = some oi → writes oi d = true → i = j) ∧
    (∀ t, t ∈ looks L oj → ∀ i oi, L[i]? = some oi → writes oi t = true → (i < j ∧ hasEdge oj i = true) ∨ (j < i ∧ hasEdge oi j = true)) ∧
    (∀ t, t ∈ testsOf L oj → ∀ i oi, L[i]? = some oi → writes oi t = true → i < j) ∧ multiOk L (oj, j) = true := by
  unfold drawOk2 at h
  rw [List.all_eq_true] at h
  have hq := h (oj, j) (List.mem_zipIdx_iff_getElem?.2 hj)
  simp only [Bool.and_eq_true] at hq
  obtain ⟨h1, h2, h3, h4, h5, h6⟩ := hq
  have mem : ∀ {i : Nat} {oi : Oper}, L[i]? = some oi → (oi, i) ∈ L.zipIdx := fun hi => List.mem_zipIdx_iff_getElem?.2 hi
  have lt : ∀ {x y : Nat}, Nat.blt x y = true → x < y := fun h => Nat.le_of_ble_eq_true h
  refine ⟨by simpa using h1, fun e he hb => ?_, fun d hd => ?_, fun t ht i oi hi hw => ?_, fun t ht i oi hi hw => ?_, h6⟩
  · rw [List.all_eq_true] at h2
    have := h2 e (by simpa using he)
    rw [hb] at this
    exact lt (by simpa using this)
  · rw [hd] at h3
    simp only [Bool.and_eq_true] at h3
    refine ⟨lt h3.1, fun i oi hi hw => ?_⟩
    have h32 := h3.2
    rw [List.all_eq_true] at h32
    have := h32 (oi, i) (mem hi)
    simp only [hw] at this
    simpa using this
  · rw [List.all_eq_true] at h4
    have h41 := h4 t ht
    rw [List.all_eq_true] at h41
    have := h41 (oi, i) (mem hi)
    simp only [hw, Bool.not_true, Bool.false_or, Bool.or_eq_true, Bool.and_eq_true] at this
    rcases this with ⟨h, h'⟩ | ⟨h, h'⟩
    · exact Or.inl ⟨lt h, h'⟩
    · exact Or.inr ⟨lt h, h'⟩
  · rw [List.all_eq_true] at h5
    have h51 := h5 t ht
    rw [List.all_eq_true] at h51
    have := h51 (oi, i) (mem hi)
    simp only [hw, Bool.not_true, Bool.false_or] at this
    exact lt this
/-- A variable that is made: what looks at it lays it, and just one does. -/
theorem alloc_spec {L : List Oper} {len : Nat} (h : drawOk2 L len = true) {j : Nat} {oj : Oper} (hj : L[j]? = some oj) (ha : isAlloc oj.op = true) :
    oj.guard.isNone = true ∧ ∃ d, oj.dst = some d ∧ ∀ (i : Nat) (oi : Oper), L[i]? = some oi → d ∈ looks L oi → isInit d oi = true ∧ ∀ (k : Nat) (ok : Oper), L[k]? = some ok → isInit d ok = true → k = i := by
  have hm := (drawOk2_spec h hj).2.2.2.2.2
  unfold multiOk at hm
  cases hop : oj.op <;> rw [hop] at ha <;> first | (cases ha; done) | skip
  simp only [hop, Bool.and_eq_true] at hm
  refine ⟨hm.1, ?_⟩
  cases hd : oj.dst with
  | none => rw [hd] at hm; exact absurd hm.2 (by simp)
  | some d =>
    rw [hd] at hm
    have h2 := hm.2
    simp only at h2
    rw [List.all_eq_true] at h2
    refine ⟨d, rfl, fun i oi hi hl => ?_⟩
    have h3 := h2 (oi, i) (List.mem_zipIdx_iff_getElem?.2 hi)
    simp only [List.contains_iff_mem.2 hl, Bool.not_true, Bool.false_or, Bool.and_eq_true] at h3
    refine ⟨h3.1, fun k ok hk hik => ?_⟩
    have h4 := h3.2
    rw [List.all_eq_true] at h4
    have h5 := h4 (ok, k) (List.mem_zipIdx_iff_getElem?.2 hk)
    simp only [hik, Bool.not_true, Bool.false_or] at h5
    simpa using h5
/-- What is laid: into a variable that is made here, ahead of it. -/
theorem store_spec {L : List Oper} {len : Nat} (h : drawOk2 L len = true) {j : Nat} {oj : Oper} (hj : L[j]? = some oj) (hs : isStore oj.op = true) :
    ∃ t p x, oj.op = .store t (.tmp p) x ∧ oj.guard.isNone = true ∧ oj.dst = none ∧ isInit p oj = true ∧ (∃ (i : Nat) (oi : Oper), L[i]? = some oi ∧ oi.op = .alloc t ∧ oi.dst = some p ∧ i < j) ∧ ∀ u, x = .tmp u → ∀ (i : Nat) (oi : Oper), L[i]? = some oi → writes oi u = true → i < j := by
  have hm := (drawOk2_spec h hj).2.2.2.2.2
  unfold multiOk at hm
  cases hop : oj.op <;> rw [hop] at hs <;> first | (cases hs; done) | skip
  rename_i t p x
  cases p <;> simp only [hop] at hm <;> first | (cases hm; done) | skip
  rename_i p
  simp only [Bool.and_eq_true] at hm
  obtain ⟨h1, h2, h3, h4, h5⟩ := hm
  rw [List.any_eq_true] at h4
  obtain ⟨⟨oi, i⟩, hmem, hal⟩ := h4
  simp only [Bool.and_eq_true] at hal
  have hi := List.mem_zipIdx_iff_getElem?.1 hmem
  refine ⟨t, p, x, rfl, h1, by cases hd : oj.dst <;> simp_all, h3, ⟨i, oi, hi, ?_⟩, fun u hu k ok hk hw => ?_⟩
  · obtain ⟨hal, hlt⟩ := hal
    unfold allocOf at hal
    cases hoi : oi.op <;> rw [hoi] at hal <;> simp only [Bool.and_eq_true, beq_iff_eq] at hal <;> first | (cases hal; done) | skip
    obtain ⟨e1, e2⟩ := hal
    subst e1
    exact ⟨rfl, e2, Nat.le_of_ble_eq_true hlt⟩
  · subst hu
    simp only at h5
    rw [List.all_eq_true] at h5
    have := h5 (ok, k) (List.mem_zipIdx_iff_getElem?.2 hk)
    simp only [hw, Bool.not_true, Bool.false_or] at this
    exact Nat.le_of_ble_eq_true this

variable {s0 s1 : St} {S : Nat → St}
structure Lex2 [Tok] (P : Program) (T : Tab) (L : List Oper) (s0 s1 : St) (S : Nat → St) : Prop where
  ok : drawOk2 L s0.slots.length = true
  first : S 0 = s0
  last : S L.length = s1
  step : ∀ k o, L[k]? = some o → dopX P T L s0.mem (S k) o = some (S (k + 1))
  clear : ∀ t, (s0.slots.getD t dflt).2 = []
theorem Lex2.cases [Tok] {L : List Oper} (hx : Lex2 P T L s0 s1 S) {k : Nat} {o : Oper} (hk : L[k]? = some o) :
    (isStore o.op = true ∧ S (k + 1) = S k) ∨ (isAlloc o.op = true ∧ S (k + 1) = { S k with slots := putS (S k).slots o.dst (junk, []) }) ∨
    (isStore o.op = false ∧ isAlloc o.op = false ∧ ∃ c v, acalc P T L { S k with mem := s0.mem } o = some (c, v) ∧ S (k + 1) = { S k with slots := putS (S k).slots o.dst (v, c) }) :=
  dopX_cases (hx.step k o hk)
theorem Lex2.puts [Tok] {L : List Oper} (hx : Lex2 P T L s0 s1 S) {k : Nat} {o : Oper} (hk : L[k]? = some o) : (S (k + 1)).mem = (S k).mem ∧ (S (k + 1)).ro = (S k).ro ∧ ∃ q, (S (k + 1)).slots = putS (S k).slots o.dst q := by
  rcases hx.cases hk with ⟨hs, h⟩ | ⟨_, h⟩ | ⟨_, _, c, v, _, h⟩
  · obtain ⟨_, _, _, _, _, hd, _, _⟩ := store_spec hx.ok hk hs
    rw [h]
    exact ⟨rfl, rfl, dflt, by rw [hd]; rfl⟩
  · rw [h]; exact ⟨rfl, rfl, _, rfl⟩
  · rw [h]; exact ⟨rfl, rfl, _, rfl⟩
theorem Lex2.length [Tok] {L : List Oper} (hx : Lex2 P T L s0 s1 S) : ∀ k, k ≤ L.length → (S k).slots.length = s0.slots.length ∧ (S k).mem = s0.mem ∧ (S k).ro = s0.ro
  | 0, _ => by rw [hx.first]; exact ⟨rfl, rfl, rfl⟩
  | k + 1, hk => by
    have ih := Lex2.length hx k (by omega)
    have ho : L[k]? = some L[k] := List.getElem?_eq_getElem (by omega)
    obtain ⟨hm, hr, q, h⟩ := hx.puts ho
    refine ⟨?_, hm.trans ih.2.1, hr.trans ih.2.2⟩
    rw [h]; cases hd : L[k].dst <;> simp [putS, ih.1]
theorem Lex2.stays [Tok] {L : List Oper} (hx : Lex2 P T L s0 s1 S) (t i : Nat) : ∀ n, i + n ≤ L.length → (∀ k o, L[k]? = some o → i ≤ k → k < i + n → writes o t = false) → (S (i + n)).slots.getD t dflt = (S i).slots.getD t dflt
  | 0, _, _ => rfl
  | n + 1, hn, hw => by
    have ih := Lex2.stays hx t i n (by omega) (fun k o hk h1 h2 => hw k o hk h1 (by omega))
    have hlt : i + n < L.length := by omega
    have ho : L[i + n]? = some L[i + n] := List.getElem?_eq_getElem hlt
    have hnw := hw (i + n) _ ho (by omega) (by omega)
    rw [← ih]
    show (S (i + n + 1)).slots.getD t dflt = _
    obtain ⟨_, _, q, h⟩ := hx.puts ho
    rw [h]
    cases hd : L[i + n].dst with
    | none => rfl
    | some d =>
      simp only [putS]
      rw [getD_set, if_neg]
      intro ⟨e, _⟩
      rw [writes, hd, e] at hnw
      simp at hnw
theorem Lex2.uniq [Tok] {L : List Oper} (hx : Lex2 P T L s0 s1 S) {i j t : Nat} {oi oj : Oper} (hi : L[i]? = some oi) (hj : L[j]? = some oj) (h1 : writes oi t = true) (h2 : writes oj t = true) : i = j := by
  have hd : oj.dst = some t := by simpa [writes] using h2
  exact ((drawOk2_spec hx.ok hj).2.2.1 t hd).2 i oi hi h1
theorem Lex2.before [Tok] {L : List Oper} (hx : Lex2 P T L s0 s1 S) {t k : Nat} (hk : k ≤ L.length) (hw : ∀ i o, L[i]? = some o → i < k → writes o t = false) : (S k).slots.getD t dflt = s0.slots.getD t dflt := by
  have := hx.stays t 0 k (by omega) (fun i o hi _ h2 => hw i o hi (by omega))
  rw [Nat.zero_add, hx.first] at this
  exact this
theorem Lex2.behind [Tok] {L : List Oper} (hx : Lex2 P T L s0 s1 S) {t k i : Nat} {o : Oper} (hk : k ≤ L.length) (hi : L[i]? = some o) (hw : writes o t = true) (hik : i < k) : (S k).slots.getD t dflt = s1.slots.getD t dflt := by
  have := hx.stays t k (L.length - k) (by omega) (fun j oj hj h1 _ => by
    cases h : writes oj t
    · rfl
    · have := hx.uniq hi hj hw h; omega)
  rw [show k + (L.length - k) = L.length by omega, hx.last] at this
  exact this.symm
theorem Lex2.never [Tok] {L : List Oper} (hx : Lex2 P T L s0 s1 S) {t : Nat} (hw : ∀ (i : Nat) (o : Oper), L[i]? = some o → writes o t = false) : s1.slots.getD t dflt = s0.slots.getD t dflt := by
  have := hx.before (Nat.le_refl _) (fun i o hi _ => hw i o hi) (t := t)
  rw [hx.last] at this
  exact this
theorem Lex2.sfLength [Tok] {L : List Oper} (hx : Lex2 P T L s0 s1 S) : s1.slots.length = s0.slots.length := by
  have := (hx.length L.length (Nat.le_refl _)).1
  rwa [hx.last] at this
theorem Lex2.agree [Tok] {L : List Oper} (hx : Lex2 P T L s0 s1 S) {mA : List (List Value)} {listed : Array Bool} {i : Nat} {o : Oper} (hi : L[i]? = some o) (hun : listed.getD i false = false) (hready : ∀ e, e ∈ o.after → Region.binds .any e = true → listed.getD e.on false = true)
    (hshut : ∀ j oj, L[j]? = some oj → listed.getD j false = true → ∀ e, e ∈ oj.after → Region.binds .any e = true → listed.getD e.on false = true) :
    ∀ t, t ∈ looks L o → (mixS L s0 s1 mA listed).slots.getD t dflt = (S i).slots.getD t dflt := by
  intro t ht
  have hlt : i < L.length := (List.getElem?_eq_some_iff.1 hi).1
  rw [mix_getD hx.sfLength]
  have hsp := (drawOk2_spec hx.ok hi).2.2.2.1 t ht
  cases hwr : wrB L listed t
  · rw [cond_false]
    refine (hx.before (Nat.le_of_lt hlt) fun j oj hj hji => ?_).symm
    cases h : writes oj t
    · rfl
    · rcases hsp j oj hj h with ⟨_, he⟩ | ⟨hlt2, _⟩
      · have := wrB_iff.2 ⟨j, oj, hj, h, hasEdge_listed he hready⟩
        rw [hwr] at this; cases this
      · omega
  · rw [cond_true]
    obtain ⟨j, oj, hj, hw, hl⟩ := wrB_iff.1 hwr
    rcases hsp j oj hj hw with ⟨hji, _⟩ | ⟨_, he⟩
    · exact (hx.behind (Nat.le_of_lt hlt) hj hw hji).symm
    · have := hasEdge_listed he (hshut j oj hj hl)
      rw [hun] at this; cases this
theorem Lex2.agreeTests [Tok] {L : List Oper} (hx : Lex2 P T L s0 s1 S) {mA : List (List Value)} {listed : Array Bool} {i : Nat} {o : Oper} (hi : L[i]? = some o) (hready : ∀ e, e ∈ o.after → Region.binds .any e = true → listed.getD e.on false = true) :
    ∀ t, t ∈ testsOf L o → (s1.slots.getD t dflt).1 = ((mixS L s0 s1 mA listed).slots.getD t dflt).1 := by
  intro t ht
  rw [mix_getD hx.sfLength]
  have hsp := (drawOk2_spec hx.ok hi).2.2.2.1 t (List.mem_append_right _ ht)
  have hte := (drawOk2_spec hx.ok hi).2.2.2.2.1 t ht
  cases hwr : wrB L listed t
  · rw [cond_false]
    rw [hx.never fun j oj hj => ?_]
    cases h : writes oj t
    · rfl
    · rcases hsp j oj hj h with ⟨_, he⟩ | ⟨hlt2, _⟩
      · have := wrB_iff.2 ⟨j, oj, hj, h, hasEdge_listed he hready⟩
        rw [hwr] at this; cases this
      · have := hte j oj hj h; omega
  · rw [cond_true]
theorem frel_mix2 [Tok] {bs : List Nat} {s0 s1 : St} {S : Nat → St} {L : List Oper} (hx : Lex2 P T L s0 s1 S) {mA : List (List Value)} {listed : Array Bool} {a : Act} {i : Nat} {o : Oper} {c : Chain} {v u : Value} (hi : i < listed.size) (ho : L[i]? = some o)
    (hv : (S (i + 1)).slots = putS (S i).slots o.dst (v, c)) (hfr : frel bs s1.slots (mixS L s0 s1 mA listed).slots a.tmps)
    (h1 : tru s1.slots c = true → vrel bs v u) (h2 : tru s1.slots c = false → u = undef) : frel bs s1.slots (mixS L s0 s1 mA (listed.setIfInBounds i true)).slots (a.put o.dst u).tmps := by
  have hlt : i < L.length := (List.getElem?_eq_some_iff.1 ho).1
  cases hd : o.dst with
  | none =>
    have : (mixS L s0 s1 mA (listed.setIfInBounds i true)).slots = (mixS L s0 s1 mA listed).slots := by
      simp only [mixS]
      refine List.map_congr_left fun t _ => ?_
      rw [wrB_set hi ho]
      simp [writes, hd]
    rw [this]
    exact hfr
  | some d =>
    have hdl := ((drawOk2_spec hx.ok ho).2.2.1 d hd).1
    have hsf : s1.slots.getD d dflt = (v, c) := by
      have hb := hx.behind (k := i + 1) (by omega) ho (show writes o d = true by simp [writes, hd]) (by omega)
      rw [← hb, hv, hd]
      simp only [putS]
      rw [getD_set, if_pos ⟨rfl, by rw [(hx.length i (by omega)).1]; exact hdl⟩]
    refine ⟨?_, fun t => ?_⟩
    · have := hfr.1
      simp only [Act.put, Array.size_setIfInBounds, this, mixS, List.length_map]
    · rw [mix_getD hx.sfLength, wrB_set hi ho]
      simp only [Act.put]
      rw [tmps_set]
      have hf := hfr.2 t
      rw [mix_getD hx.sfLength] at hf
      by_cases ht : d = t
      · subst ht
        have hsz : d < a.tmps.size := by rw [hfr.1]; simp only [mixS, List.length_map, List.length_range]; exact hdl
        rw [if_pos ⟨rfl, hsz⟩, show writes o d = true by simp [writes, hd], Bool.true_or, cond_true, hsf]
        exact ⟨h1, h2⟩
      · rw [if_neg (fun e => ht e.1), show writes o t = false by simp [writes, hd, ht], Bool.false_or]
        exact hf
end
end Go.Ev
