/-
  One operation on values read plainly: what it gives, and that the model gives just that.
-/
import Derived.Test.YtbmggfmifopddaaEv2
import Derived.Deep.MidRow
namespace Go.Ev
open Go.RowKit

def vrows [Tok] (bs : List Nat) : List Value → List Value → Prop
  | [], [] => True
  | x :: xs, v :: vs => vrel bs x v ∧ vrows bs xs vs
  | _, _ => False

/-- The function is Go text: a call enters it. -/
def Entered (P : Program) (f : Nat) : Prop := ∃ fn, P.funcs[f]? = some fn ∧ (fn.name == "runtime.NumGoroutine") = false ∧ fn.body.isNone = false

/-- What a call may write: what is made behind its beginning (from block n on), and one block besides; 'hd': the first rows of memory, which stay as they are. -/
structure Bs where
  n : Nat
  x : Nat
  hd : List (List Value)
def Bs.owns (B : Bs) (b : Nat) : Prop := B.n ≤ b ∨ b = B.x
structure BelowB (B : Bs) (w w' : World) : Prop where
  os : w'.os = w.os
  tape : w'.tape = w.tape
  output : w'.output = w.output
  size : w.heap.size ≤ w'.heap.size
  block : ∀ k, ¬ B.owns k → w'.heap[k]? = w.heap[k]?
theorem BelowB.refl (B : Bs) (w : World) : BelowB B w w := ⟨rfl, rfl, rfl, Nat.le_refl _, fun _ _ => rfl⟩
theorem BelowB.on {B : Bs} {w0 w w' : World} (h : BelowB B w0 w) (hb : Below w.heap.size w w') (hn : B.n ≤ w.heap.size) : BelowB B w0 w' :=
  ⟨hb.os.trans h.os, hb.tape.trans h.tape, hb.output.trans h.output, Nat.le_trans h.size hb.size,
    fun k hk => (hb.block k (by have : ¬ B.n ≤ k := fun e => hk (Or.inl e); omega)).trans (h.block k hk)⟩
theorem BelowB.drew {B : Bs} {a w : World} (h : BelowB B a w) : BelowB B a w.drew := ⟨h.os, h.tape, h.output, h.size, h.block⟩
theorem BelowB.alloc [Tok] {B : Bs} {a w : World} (h : BelowB B a w) (hB : B.n ≤ w.heap.size) (o : Obj) : BelowB B a (w.alloc o) :=
  h.on ((Below.refl _ _).alloc (Nat.le_refl _) o) hB
theorem BelowB.below {n x : Nat} {hd : List (List Value)} {w w' : World} (hx : n ≤ x) (h : BelowB ⟨n, x, hd⟩ w w') : Below n w w' :=
  ⟨h.os, h.tape, h.output, h.size, fun k hk => h.block k (fun o => o.elim (fun e => by simp only at e; omega) (fun e => by simp only at e; omega))⟩
theorem BelowB.via {B : Bs} {b : Nat} {w0 w w' : World} (h : BelowB B w0 w) (hw : BelowB ⟨w.heap.size, b, []⟩ w w') (hn : B.n ≤ w.heap.size) (hb : B.owns b) : BelowB B w0 w' :=
  ⟨hw.os.trans h.os, hw.tape.trans h.tape, hw.output.trans h.output, Nat.le_trans h.size hw.size,
    fun k hk => (hw.block k (fun o => o.elim (fun e => hk (Or.inl (Nat.le_trans hn e))) (fun e => hk (by simp only at e; rw [e]; exact hb)))).trans (h.block k hk)⟩

/-- A call with these arguments over this memory: it returns this, and nothing that was there is changed. -/
def FSpec [Tok] (P : Program) (f : Nat) (mem : List (List Value)) (args : List Value) (r : Value) : Prop :=
  Entered P f ∧ ∀ (bs : List Nat) (w : World) (cargs : Array Value), MemRel bs mem w → vrows bs args cargs.toList →
    Calls P f cargs w fun e w' => ∃ v, e = .returned v ∧ vrel bs r v ∧ Below w.heap.size w w'

/-- A call that may write the one block that is handed to it: what it returns, and what that block holds behind it. -/
def MSpec [Tok] (P : Program) (f : Nat) (cells args : List Value) (r : Value) : Prop :=
  Entered P f ∧ ∀ (b : Nat) (w : World) (cargs : Array Value) (cs : Array Value) (e : TypeId), w.heap[b]? = some (.cells cs e (0, 0)) → rowpre [b] cells cs.toList → vrows [b] args cargs.toList →
    Calls P f cargs w fun ex w' => ∃ v cs' e' u cl, r = .tuple #[u, .agg cl] ∧ ex = .returned v ∧ (∀ bs, vrel bs u v) ∧ (∀ bs, rowpre bs cl.toList cs'.toList) ∧ w'.heap[b]? = some (.cells cs' e' (0, 0)) ∧ BelowB ⟨w.heap.size, b, []⟩ w w'

/-- The contracts that are known: of calls that write nothing of ours, and of those that write one block. -/
structure Tab where
  f : Nat → List (List Value) → List Value → Option Value
  m : Nat → List Value → List Value → Option Value
  k : Nat → Option (List (List Value) → List Value → (Value → Option Value) → Option Value)

/-- A function without a text, that the model carries out in place. -/
def XSpec [Tok] (P : Program) (f : Nat) (args : List Value) (r : Value) : Prop :=
  ∀ (bs : List Nat) (w : World) (cargs : Array Value), vrows bs args cargs.toList → ∃ u w', (callFunc f cargs).run P w = .ok (.value u) w' ∧ (w' = w ∨ w' = w.drew) ∧ vrel bs r u

/-- Memory begins with these rows. -/
def Pre (hd mem : List (List Value)) : Prop := ∃ rest, mem = hd ++ rest
theorem Pre.nil (mem : List (List Value)) : Pre [] mem := ⟨mem, rfl⟩
theorem Pre.self (mem : List (List Value)) : Pre mem mem := ⟨[], by simp⟩
theorem Pre.append {hd mem : List (List Value)} (h : Pre hd mem) (x : List (List Value)) : Pre hd (mem ++ x) := by
  obtain ⟨r, rfl⟩ := h; exact ⟨r ++ x, by simp⟩
theorem Pre.set {hd mem : List (List Value)} (h : Pre hd mem) {i : Nat} (hi : hd.length ≤ i) (c : List Value) : Pre hd (mem.set i c) := by
  obtain ⟨r, rfl⟩ := h; exact ⟨r.set (i - hd.length) c, by rw [List.set_append_right _ _ hi]⟩

/-- An entry that goes on by cases: it hands on one value. -/
def KPar (g : List (List Value) → List Value → (Value → Option Value) → Option Value) : Prop :=
  ∀ mem args k r, g mem args k = some r → ∃ v, k v = some r ∧ ∀ k', g mem args k' = k' v
/-- That value is what the call returns. -/
def KSpec [Tok] (P : Program) (f : Nat) (hd : List (List Value)) (g : List (List Value) → List Value → (Value → Option Value) → Option Value) : Prop :=
  ∀ mem args v, Pre hd mem → (∀ k', g mem args k' = k' v) → FSpec P f mem args v ∨ XSpec P f args v

def TOk [Tok] (P : Program) (T : Tab) (hd : List (List Value)) : Prop := (∀ f mem args r, Pre hd mem → T.f f mem args = some r → FSpec P f mem args r ∨ XSpec P f args r) ∧ (∀ f cells args r, T.m f cells args = some r → MSpec P f cells args r) ∧ ∀ f g, T.k f = some g → KPar g ∧ KSpec P f hd g

/-- The outcome of an operation fits what is known. -/
def Good [Tok] (P : Program) (bs : List Nat) (w : World) (x : Value) : Result Next → Prop
  | .ok (.value v) w' => vrel bs x v ∧ (w' = w ∨ w' = w.drew)
  | .ok (.enter f args) w' => w' = w ∧ Calls P f args w fun e w'' => ∃ v, e = .returned v ∧ vrel bs x v ∧ Below w.heap.size w w''
  | _ => False

def okPart : Value → Bool
  | .map _ => false
  | .tuple _ => false
  | .iface _ _ => false
  | .agg vs => vs.toList.all (fun c => !isHole c)
  | _ => true
/-- What may be handed to a call, and back: a part, or an interface value that holds one. -/
def okArg : Value → Bool
  | .iface _ y => okPart y
  | v => okPart v

def abuild (P : Program) (t : TypeId) (parts : List (Nat × Value)) : Option Value :=
  match pureOf P (zeroValue t) with
  | some z => cond (z.cells.toList.all (·.oneCell') && parts.all (fun p => okPart p.2))
      (match P.underlying t with
      | some (.struct fields) => match pureOf P (fields.mapM (m := Sem) fun f => do pure (f.offset, ← sizeOf f.type)) with
          | some places => (Instr.fill (places[·]?) (z.cells.map canS) parts).map .agg
          | none => none
      | some (.array _ elem) => match pureOf P (sizeOf elem) with
          | some size => (Instr.fill (fun i => some (i * size, size)) (z.cells.map canS) parts).map .agg
          | none => none
      | _ => none) none
  | none => none

def aval [Tok] (P : Program) (T : Tab) (s : St) (o : Oper) : Option Value :=
  match o.op with
  | .move x => some (aeval s x)
  | .assign x => some (aeval s x)
  | .load t x => match aeval s x with
    | .pointer (some ⟨i, off, none⟩) => match s.mem[i]? with
      | some cells => aload P t cells off
      | none => none
    | _ => none
  | .fieldAddr t x f => match aeval s x with
    | .pointer (some ⟨i, off, none⟩) => afield P t i off f
    | _ => none
  | .nilCheck x => match aeval s x with
    | .pointer (some ⟨i, off, none⟩) => some (.pointer (some ⟨i, off, none⟩))
    | _ => none
  | .indexAddr t x ix => aindex P t (aeval s x) (aeval s ix)
  | .index t x ix => aelem P t (aeval s x) (aeval s ix)
  | .field t x f => apick P t (aeval s x) f
  | .binOp op t x y _ => abinO P op t x y (aeval s x) (aeval s y)
  | .makeInterface t x => match P.underlying t with
    | some d => cond (!isIfaceD d && okPart (aeval s x)) (some (.iface t (aeval s x))) none
    | none => none
  | .typeAssert x _ asserted ok => aassert P (aeval s x) asserted ok
  | .unOp op _ x => aun P op (aeval s x)
  | .convert src dst x => cond (isPlain (aeval s x)) ((pureOf P (convert src dst (aeval s x))).map canR) none
  | .build t ps => abuild P t (ps.toList.map fun p => (p.1, aeval s p.2))
  | .extract x i => match aeval s x with
    | .tuple vs => vs.toList[i]?
    | _ => none
  | .call c => match c.callee with
    | .value (.func f) => T.f f s.mem (c.args.toList.map (aeval s))
    | .invoke r name => match aeval s r with
      | .iface t v => match aMethod P t name with
        | some f => T.f f s.mem (v :: c.args.toList.map (aeval s))
        | none => none
      | _ => none
    | .builtin .len => match c.args.toList.map (aeval s), c.argTypes.toList with
      | [.slice a n _], [t] => match P.underlying t with
        | some (.slice _) => match a with
          | some ⟨k, _, some _⟩ => some (.int .i64 (Tok.n k))
          | _ => some (.int .i64 n)
        | _ => none
      | _, _ => none
    | _ => none
  | _ => none

/-! ### Small facts -/
theorem rowrel_set [Tok] {bs : List Nat} : ∀ {xs vs : List Value} (i : Nat) {x v : Value}, rowrel bs xs vs → srel bs x v → rowrel bs (xs.set i x) (vs.set i v)
  | [], [], _, _, _, _, _ => by simp [rowrel]
  | _ :: _, _ :: _, 0, _, _, h, hx => ⟨hx, h.2⟩
  | _ :: _, _ :: _, i + 1, _, _, h, hx => ⟨h.1, rowrel_set i h.2 hx⟩
  | [], _ :: _, _, _, _, h, _ => h.elim
  | _ :: _, [], _, _, _, h, _ => h.elim

def zrel [Tok] (bs : List Nat) : List (Value × Nat) → List (Value × Nat) → Prop
  | [], [] => True
  | x :: xs, v :: vs => (srel bs x.1 v.1 ∧ x.2 = v.2) ∧ zrel bs xs vs
  | _, _ => False
theorem zrel_zipIdx [Tok] {bs : List Nat} : ∀ {xs vs : List Value} (n : Nat), rowrel bs xs vs → zrel bs (xs.zipIdx n) (vs.zipIdx n)
  | [], [], _, _ => trivial
  | _ :: _, _ :: _, n, h => ⟨⟨h.1, rfl⟩, zrel_zipIdx (n + 1) h.2⟩
  | [], _ :: _, _, h => h.elim
  | _ :: _, [], _, h => h.elim
theorem fold_rel [Tok] {bs : List Nat} (off : Nat) : ∀ {l l' : List (Value × Nat)} {xs vs : Array Value}, zrel bs l l' → rowrel bs xs.toList vs.toList →
    rowrel bs (l.foldl (fun cs (p : Value × Nat) => cs.setIfInBounds (off + p.2) p.1) xs).toList (l'.foldl (fun cs (p : Value × Nat) => cs.setIfInBounds (off + p.2) p.1) vs).toList
  | [], [], _, _, _, h => h
  | x :: l, v :: l', xs, vs, hz, h => by
    simp only [List.foldl_cons]
    refine fold_rel off hz.2 ?_
    simp only [Array.toList_setIfInBounds, hz.1.2]
    exact rowrel_set _ h hz.1.1
  | [], _ :: _, _, _, hz, _ => hz.elim
  | _ :: _, [], _, _, hz, _ => hz.elim

def prel [Tok] (bs : List Nat) : List (Nat × Value) → List (Nat × Value) → Prop
  | [], [] => True
  | x :: xs, v :: vs => (x.1 = v.1 ∧ rowrel bs x.2.cells.toList v.2.cells.toList) ∧ prel bs xs vs
  | _, _ => False

theorem fill_rel [Tok] {bs : List Nat} (place : Nat → Option (Nat × Nat)) : ∀ {ps qs : List (Nat × Value)} {xs vs rs : Array Value}, prel bs ps qs → rowrel bs xs.toList vs.toList →
    Instr.fill place xs ps = some rs → ∃ rs', Instr.fill place vs qs = some rs' ∧ rowrel bs rs.toList rs'.toList
  | [], [], xs, vs, rs, _, h, e => by
    simp [Instr.fill] at e; subst e; exact ⟨vs, by simp [Instr.fill], h⟩
  | (i, x) :: ps, (j, v) :: qs, xs, vs, rs, hp, h, e => by
    obtain ⟨⟨hi, hc⟩, hp'⟩ := hp
    simp only at hi hc
    subst hi
    have hl : x.cells.size = v.cells.size := by have := rowrel_length hc; simpa using this
    have hl2 : xs.size = vs.size := by have := rowrel_length h; simpa using this
    unfold Instr.fill at e ⊢
    cases hpl : place i with
    | none => simp [hpl] at e
    | some p =>
      obtain ⟨off, size⟩ := p
      simp only [hpl] at e ⊢
      rw [← hl, ← hl2]
      split at e
      · cases e
      · rename_i hne
        rw [if_neg hne]
        refine fill_rel place hp' ?_ e
        have := fold_rel off (zrel_zipIdx 0 hc) h
        rw [← Array.foldl_toList, ← Array.foldl_toList, Array.toList_zipIdx, Array.toList_zipIdx]
        exact this
  | [], _ :: _, _, _, _, hp, _, _ => hp.elim
  | _ :: _, [], _, _, _, hp, _, _ => hp.elim

def isOne : Value → Bool
  | .map _ => false
  | .tuple _ => false
  | .agg _ => false
  | .iface _ _ => false
  | _ => true
theorem srel_of_vrel [Tok] {bs : List Nat} {x v : Value} (h : vrel bs x v) (hx : isOne x = true) : srel bs x v := by
  cases x <;> first | exact h | simp [isOne] at hx

theorem cells_rel [Tok] {bs : List Nat} {x v : Value} (h : vrel bs x v) (hx : okPart x = true) : rowrel bs x.cells.toList v.cells.toList := by
  have one : ∀ (_ : isOne x = true) (_ : x.cells = #[x]), rowrel bs x.cells.toList v.cells.toList := by
    intro hk hc
    have h1 := srel_of_vrel h hk
    have h2 := srel_oneCell h1 (by cases x <;> first | rfl | (simp [okPart] at hx))
    have h3 : v.cells = #[v] := by cases v <;> first | rfl | simp [Value.oneCell'] at h2
    rw [h3, hc]
    exact ⟨h1, trivial⟩
  cases x with
  | agg xs => obtain ⟨vs, rfl, h2⟩ := vrel_agg h; exact h2
  | tuple vs => simp [okPart] at hx
  | map r => simp [okPart] at hx
  | iface t y => simp [okPart] at hx
  | _ => exact one rfl rfl

theorem srel_canS [Tok] {bs : List Nat} {v : Value} (h : v.oneCell' = true) : srel bs (canS v) v := by
  have h1 := vrel_canS bs v
  cases v with
  | float k b => cases k <;> exact h1
  | pointer a => cases a <;> first | exact h1 | rfl
  | slice a l c => cases a <;> first | exact h1 | rfl
  | agg cs => simp [Value.oneCell'] at h
  | tuple vs => simp [Value.oneCell'] at h
  | map r => cases r <;> first | trivial | rfl
  | iface t y => rfl
  | _ => exact h1

theorem rowrel_canS [Tok] {bs : List Nat} : ∀ {vs : List Value}, (vs.all (·.oneCell')) = true → rowrel bs (vs.map canS) vs
  | [], _ => trivial
  | v :: vs, h => by
    simp only [List.all_cons, Bool.and_eq_true] at h
    exact ⟨srel_canS h.1, rowrel_canS h.2⟩

theorem prel_of [Tok] {bs : List Nat} {s : St} {ρ : Operand → Value} : ∀ {ps : List (Nat × Operand)}, (∀ y, y ∈ ps.map (·.2) → vrel bs (aeval s y) (ρ y)) → ((ps.map fun p => (p.1, aeval s p.2)).all (fun p => okPart p.2)) = true →
    prel bs (ps.map fun p => (p.1, aeval s p.2)) (ps.map fun p => (p.1, ρ p.2))
  | [], _, _ => trivial
  | p :: ps, h, hk => by
    simp only [List.map_cons, List.all_cons, Bool.and_eq_true] at hk
    refine ⟨⟨rfl, cells_rel (h p.2 (by simp)) hk.1⟩, prel_of (fun y hy => h y (by simp at hy ⊢; exact Or.inr hy)) hk.2⟩

theorem vrows_of [Tok] {bs : List Nat} {s : St} {ρ : Operand → Value} : ∀ {ys : List Operand}, (∀ y, y ∈ ys → vrel bs (aeval s y) (ρ y)) → vrows bs (ys.map (aeval s)) (ys.map ρ)
  | [], _ => trivial
  | y :: ys, h => ⟨h y (by simp), vrows_of (fun z hz => h z (by simp [hz]))⟩

theorem vrel_iface [Tok] {bs : List Nat} {t : TypeId} {y v : Value} (h : vrel bs (.iface t y) v) : ∃ u, v = .iface t u ∧ crel bs y u := h
theorem crel_of_vrel [Tok] {bs : List Nat} {y u : Value} (h : vrel bs y u) (hy : okPart y = true) : crel bs y u := by
  cases y with
  | map r => simp [okPart] at hy
  | tuple vs => simp [okPart] at hy
  | iface t y => simp [okPart] at hy
  | _ => exact h
theorem vrel_of_crel [Tok] {bs : List Nat} {y u : Value} (h : crel bs y u) : vrel bs y u := by
  cases y with
  | agg xs => exact h
  | map r => exact trivial
  | tuple vs => exact h.elim
  | iface t y => exact h.elim
  | _ => exact h

/-! ### The laws, one an operation -/
section
variable {P : Program} {bs : List Nat} {w : World}

theorem good_value [Tok] {x v : Value} {w' : World} (h : vrel bs x v) (hw : w' = w ∨ w' = w.drew) : Good P bs w x (.ok (.value v) w') := ⟨h, hw⟩

theorem load_good [Tok] {mem : List (List Value)} (hm : MemRel bs mem w) {t : TypeId} {i o : Nat} {cells : List Value} {x v : Value} (hc : mem[i]? = some cells) (hx : aload P t cells o = some x)
    (hv : vrel bs (.pointer (some ⟨i, o, none⟩)) v) : ∃ u, (Instr.loadAt t v).run P w = .ok u w ∧ vrel bs x u := by
  obtain ⟨b, hb, rfl⟩ := vrel_pointer hv
  obtain ⟨b', hb', hlt, cs, e, fz, hh, hr⟩ := hm.at hc
  rw [hb] at hb'
  cases hb'
  unfold aload at hx
  cases hu : P.underlying t with
  | none => simp [hu] at hx
  | some d =>
    cases hi : P.info? t with
    | none => simp [hu, hi] at hx
    | some inf =>
      simp only [hu, hi] at hx
      cases hd : isAggD d
      · simp only [hd, cond_false] at hx
        rw [get_cond] at hx
        obtain ⟨u, h1, h2⟩ := rowpre_get hr hx
        refine ⟨u, ?_, vrel_of_srel h2⟩
        have hcell : w.cell? ⟨b, o, none⟩ = some u := by rw [cell_of_row w b o cs e fz hh]; simpa using h1
        have hagg : (isAgg t).run P w = .ok false w := by
          unfold isAgg
          rw [Sem.run_bind, run_underlying hu w]
          cases d <;> simp_all [isAggD]
        simp [Instr.loadAt, Instr.sureAddr, loadVar, hagg, hcell]
      · simp only [hd, cond_true] at hx
        cases hle : Nat.ble (o + inf.size) cells.length
        · simp [hle] at hx
        · simp only [hle, cond_true] at hx
          cases hx
          have hle' : o + inf.size ≤ cells.length := Nat.le_of_ble_eq_true hle
          have hpl := rowpre_length hr
          refine ⟨.agg ((cs.toList.drop o).take inf.size).toArray, ?_, ⟨_, rfl, by simpa using rowpre_part o inf.size hr hle'⟩⟩
          refine run_loadAt_mid w b o t ((cs.toList.drop o).take inf.size) d ?_ hu (by cases d <;> first | rfl | simp [isAggD] at hd) ?_
          · intro j u hj
            rw [cell_of_row w b (o + j) cs e fz hh]
            rw [List.getElem?_take] at hj
            split at hj
            · simpa using hj
            · cases hj
          · simp only [hi, Option.map_some, List.length_take, List.length_drop]
            congr 1
            omega

theorem field_good [Tok] {t : TypeId} {i o f : Nat} {x v : Value} (hx : afield P t i o f = some x) (hv : vrel bs (.pointer (some ⟨i, o, none⟩)) v) :
    ∃ u, (Instr.fieldAt t v f).run P w = .ok u w ∧ vrel bs x u := by
  obtain ⟨b, hb, rfl⟩ := vrel_pointer hv
  unfold afield at hx
  cases hu : P.underlying t with
  | none => simp [hu] at hx
  | some d =>
    cases d <;> simp only [hu] at hx <;> first | (cases hx; done) | skip
    rename_i fields
    cases hf : fields[f]? with
    | none => simp [hf] at hx
    | some fd =>
      simp only [hf] at hx
      cases hi : P.info? fd.type with
      | none => simp [hi] at hx
      | some inf =>
        simp only [hi] at hx
        cases hz : (inf.size == 0)
        · simp only [hz, cond_false] at hx
          cases hx
          have hz' : inf.size ≠ 0 := by simpa using hz
          refine ⟨.pointer (some ⟨b, o + fd.offset, none⟩), ?_, ⟨b, hb, rfl⟩⟩
          have hadd : (⟨b, o, none⟩ : Addr).add fd.offset = ⟨b, o + fd.offset, none⟩ := by unfold Addr.add; split <;> simp_all
          simp [Instr.fieldAt, run_underlying hu, hf, Instr.sureAddr, fieldPlace, sizeOf, typeInfo, hi, hz', hadd]
        · simp [hz] at hx

/-- A part of a value, as the model takes it. -/
theorem part_good [Tok] {t : TypeId} {cells : List Value} {cs : Array Value} {o : Nat} {x : Value} (hx : aload P t cells o = some x) (hr : rowpre bs cells cs.toList) : ∃ u, (part t cs o).run P w = .ok u w ∧ vrel bs x u := by
  unfold aload at hx
  cases hu : P.underlying t with
  | none => simp [hu] at hx
  | some d =>
    cases hi : P.info? t with
    | none => simp [hu, hi] at hx
    | some inf =>
      simp only [hu, hi] at hx
      cases hd : isAggD d
      · simp only [hd, cond_false] at hx
        rw [get_cond] at hx
        obtain ⟨u, h1, h2⟩ := rowpre_get hr hx
        refine ⟨u, ?_, vrel_of_srel h2⟩
        have h1' : cs[o]? = some u := by simpa using h1
        have hagg : (isAgg t).run P w = .ok false w := by
          unfold isAgg
          rw [Sem.run_bind, run_underlying hu w]
          cases d <;> simp_all [isAggD]
        simp [part, hagg, h1']
      · simp only [hd, cond_true] at hx
        cases hle : Nat.ble (o + inf.size) cells.length
        · simp [hle] at hx
        · simp only [hle, cond_true] at hx
          cases hx
          have hle' : o + inf.size ≤ cells.length := Nat.le_of_ble_eq_true hle
          have hagg : (isAgg t).run P w = .ok true w := by
            unfold isAgg
            rw [Sem.run_bind, run_underlying hu w]
            cases d <;> simp_all [isAggD]
          refine ⟨.agg (cs.extract o (o + inf.size)), ?_, ⟨_, rfl, ?_⟩⟩
          · simp [part, hagg, sizeOf, typeInfo, hi]
          · have := rowpre_part o inf.size hr hle'
            simpa [Array.toList_extract, List.extract] using this

theorem index_good [Tok] {t : TypeId} {x ix a u v : Value} (hx : aindex P t a ix = some x) (hu : vrel bs a u) (hv : vrel bs ix v) : ∃ r, (Instr.indexAt t u v).run P w = .ok r w ∧ vrel bs x r := by
  unfold aindex at hx
  split at hx
  · rename_i kk k
    have hv' : v = .int kk k := hv
    subst hv'
    split at hx
    · rename_i n e i o hun
      split at hx
      · rename_i inf hinf
        cases hk : (decide (0 ≤ k) && decide (k < (n : Int)))
        · rw [hk] at hx; cases hx
        · rw [hk] at hx
          simp only [cond_true, Option.some.injEq] at hx
          subst hx
          simp only [Bool.and_eq_true, decide_eq_true_eq] at hk
          obtain ⟨b, hb, rfl⟩ := vrel_pointer hu
          refine ⟨.pointer (some ⟨b, o + k.toNat * inf.size, none⟩), ?_, ⟨b, hb, rfl⟩⟩
          have hadd : (⟨b, o, none⟩ : Addr).add (k.toNat * inf.size) = ⟨b, o + k.toNat * inf.size, none⟩ := by unfold Addr.add; split <;> simp_all
          simp [Instr.indexAt, asIntOf, run_underlying hun, Instr.sureAddr, sizeOf, typeInfo, hinf, hk.1, hk.2, hadd]
      · cases hx
    · rename_i e i o len cap hun
      split at hx
      · rename_i inf hinf
        cases hk : (decide (0 ≤ k) && decide (k < (len : Int)))
        · rw [hk] at hx; cases hx
        · rw [hk] at hx
          simp only [cond_true, Option.some.injEq] at hx
          subst hx
          simp only [Bool.and_eq_true, decide_eq_true_eq] at hk
          obtain ⟨b, c, hb, hle, rfl⟩ : ∃ b c, bs[i]? = some b ∧ len ≤ c ∧ u = .slice (some ⟨b, o, none⟩) len c := hu
          refine ⟨.pointer (some ⟨b, o + k.toNat * inf.size, none⟩), ?_, ⟨b, hb, rfl⟩⟩
          have hadd : (⟨b, o, none⟩ : Addr).add (k.toNat * inf.size) = ⟨b, o + k.toNat * inf.size, none⟩ := by unfold Addr.add; split <;> simp_all
          simp [Instr.indexAt, asIntOf, run_underlying hun, sizeOf, typeInfo, hinf, hk.1, hk.2, hadd]
      · cases hx
    · cases hx
  · cases hx

theorem elem_good [Tok] {t : TypeId} {x ix a u v : Value} (hx : aelem P t a ix = some x) (hu : vrel bs a u) (hv : vrel bs ix v) : ∃ r, (Instr.index t u v).run P w = .ok r w ∧ vrel bs x r := by
  unfold aelem at hx
  split at hx
  · rename_i kk k cs n e hun
    have hv' : v = .int kk k := hv
    subst hv'
    split at hx
    · rename_i inf hinf
      cases hk : (decide (0 ≤ k) && decide (k < (n : Int)))
      · rw [hk] at hx; cases hx
      · rw [hk] at hx
        simp only [cond_true] at hx
        simp only [Bool.and_eq_true, decide_eq_true_eq] at hk
        obtain ⟨vs, rfl, hr⟩ := vrel_agg hu
        obtain ⟨r, h1, h2⟩ := part_good (P := P) (w := w) hx (rowpre_of_rowrel hr)
        refine ⟨r, ?_, h2⟩
        simp [Instr.index, asIntOf, run_underlying hun, sizeOf, typeInfo, hinf, hk.1, hk.2, h1]
    · cases hx
  · cases hx

theorem pickf_good [Tok] {t : TypeId} {x a u : Value} {f : Nat} (hx : apick P t a f = some x) (hu : vrel bs a u) : ∃ r, (Instr.field t u f).run P w = .ok r w ∧ vrel bs x r := by
  unfold apick at hx
  split at hx
  · rename_i cs fields hun
    split at hx
    · rename_i fd hfd
      obtain ⟨vs, rfl, hr⟩ := vrel_agg hu
      obtain ⟨r, h1, h2⟩ := part_good (P := P) (w := w) hx (rowpre_of_rowrel hr)
      refine ⟨r, ?_, h2⟩
      simp [Instr.field, run_underlying hun, hfd, asAgg, h1]
    · cases hx
  · cases hx

/-! ### '==' on structs and arrays -/
/-- A value of a type out of its cells. -/
def IsVal (P : Program) (t : TypeId) (us : List Value) (X : Value) : Prop :=
  match P.underlying t with
  | some (.struct _) => X = .agg us.toArray
  | some (.array _ _) => X = .agg us.toArray
  | _ => us = [X]

theorem part_isVal {t : TypeId} {us : List Value} {o : Nat} {inf : TypeInfo} {d : TypeDesc} (hu : P.underlying t = some d) (hi : P.info? t = some inf) (hle : o + inf.size ≤ us.length) (h1 : isAggD d = true ∨ inf.size = 1) :
    ∃ X, (part t us.toArray o).run P w = .ok X w ∧ IsVal P t ((us.drop o).take inf.size) X := by
  cases hd : isAggD d
  · have hs : inf.size = 1 := by rcases h1 with h | h; (rw [hd] at h; cases h); exact h
    have hlt : o < us.length := by omega
    have hagg : (isAgg t).run P w = .ok false w := by
      unfold isAgg
      rw [Sem.run_bind, run_underlying hu w]
      cases d <;> simp_all [isAggD]
    refine ⟨us[o], by simp [part, hagg, hlt], ?_⟩
    have : (us.drop o).take inf.size = [us[o]] := by
      rw [hs, List.drop_eq_getElem_cons hlt, List.take_succ_cons, List.take_zero]
    unfold IsVal
    rw [hu, this]
    cases d <;> simp_all [isAggD]
  · have hagg : (isAgg t).run P w = .ok true w := by
      unfold isAgg
      rw [Sem.run_bind, run_underlying hu w]
      cases d <;> simp_all [isAggD]
    refine ⟨.agg (us.toArray.extract o (o + inf.size)), by simp [part, hagg, sizeOf, typeInfo, hi], ?_⟩
    unfold IsVal
    rw [hu]
    cases d <;> simp_all [isAggD, List.extract]

theorem fbin_good [Tok] {op : BinOp} {t : TypeId} {a b : Nat} {x u v : Value} (hx : fbin op a b = some x) (hu : vrel bs (.float .f64 a) u) (hv : vrel bs (.float .f64 b) v) :
    ∃ r w', (binOp op t u v).run P w = .ok r w' ∧ (w' = w ∨ w' = w.drew) ∧ vrel bs x r := by
  obtain ⟨p, rfl, rfl⟩ := vrel_float hu
  obtain ⟨q, rfl, rfl⟩ := vrel_float hv
  have hc : ∀ (c : Bool) (r : Value), (binOp op t (.float .f64 p) (.float .f64 q)).run P w = .ok (.bool c) w → x = .bool c → ∃ r w', (binOp op t (.float .f64 p) (.float .f64 q)).run P w = .ok r w' ∧ (w' = w ∨ w' = w.drew) ∧ vrel bs x r :=
    fun c _ h1 h2 => ⟨_, _, h1, Or.inl rfl, by subst h2; rfl⟩
  cases op <;> simp only [fbin] at hx <;> first | (cases hx; done) | skip
  case add =>
    cases hx
    obtain ⟨r, w', h1, h2, h3⟩ := run_arith P .add t Ieee.double.add (fun _ _ => rfl) (Or.inl rfl) add_cn (fun _ _ _ h => isNan_add h) w p q
    exact ⟨_, _, h1, h2, ⟨r, rfl, h3⟩⟩
  case sub =>
    cases hx
    obtain ⟨r, w', h1, h2, h3⟩ := run_arith P .sub t Ieee.double.sub (fun _ _ => rfl) (Or.inr (Or.inl rfl)) sub_cn (fun _ _ _ h => isNan_sub h) w p q
    exact ⟨_, _, h1, h2, ⟨r, rfl, h3⟩⟩
  case mul =>
    cases hx
    obtain ⟨r, w', h1, h2, h3⟩ := run_arith P .mul t Ieee.double.mul (fun _ _ => rfl) (Or.inr (Or.inr (Or.inl rfl))) mul_cn (fun _ _ _ h => isNan_mul h) w p q
    exact ⟨_, _, h1, h2, ⟨r, rfl, h3⟩⟩
  case quo =>
    cases hx
    obtain ⟨r, w', h1, h2, h3⟩ := run_arith P .quo t Ieee.double.div (fun _ _ => rfl) (Or.inr (Or.inr (Or.inr rfl))) div_cn (fun _ _ _ h => isNan_div h) w p q
    exact ⟨_, _, h1, h2, ⟨r, rfl, h3⟩⟩
  all_goals
    cases hx
    refine hc _ undef (by simp only [binOp_float_cmp_eql, binOp_float_cmp_neq, binOp_float_cmp_lss, binOp_float_cmp_leq, binOp_float_cmp_gtr, binOp_float_cmp_geq, Sem.run_pure]; rfl) ?_
    simp only [feq, flt, fle, fgt, fge, order_cn]
    rfl

theorem take_length {us : List Value} {o n : Nat} (h : o + n ≤ us.length) : ((us.drop o).take n).length = n := by simp; omega

theorem rowrel_seg [Tok] {xs us : List Value} (h : rowrel bs xs us) {o n : Nat} (hle : o + n ≤ xs.length) : rowrel bs ((xs.drop o).take n) ((us.drop o).take n) := rowpre_part o n (rowpre_of_rowrel h) hle

/-- Where a type is no struct and no array its '==' takes one cell. -/
theorem aeq_one {n : Nat} {t : TypeId} {d : TypeDesc} {xs ys : List Value} {r : Bool} (hu : P.underlying t = some d) (hd : isAggD d = false) (h : aeq P n t xs ys = some r) : xs.length = 1 := by
  cases n with
  | zero => simp [aeq] at h
  | succ n =>
    unfold aeq at h
    rw [hu] at h
    cases d <;> simp only at h <;> first | (cases h; done) | (cases hd; done) | skip
    case bool => split at h <;> first | (cases h; done) | rfl
    case int k => split at h <;> first | (cases h; done) | rfl
    case float k => cases k <;> simp only at h <;> first | (cases h; done) | (split at h <;> first | (cases h; done) | rfl)

theorem aeq_fields [Tok] {n d : Nat} {xs ys us vs : List Value} (hxs : rowrel bs xs us) (hys : rowrel bs ys vs)
    (ih : ∀ (t : TypeId) (xs ys us vs : List Value) (r : Bool) (X Y : Value), aeq P n t xs ys = some r → rowrel bs xs us → rowrel bs ys vs → IsVal P t us X → IsVal P t vs Y → (Op.equalIn d t X Y).run P w = .ok r w) :
    ∀ (l : List Field) (r : Bool), (l.foldr (fun f acc => match P.info? f.type, acc with
      | some inf, some b => cond ((f.name == "_") || (inf.size == 0) || Nat.blt xs.length (f.offset + inf.size) || Nat.blt ys.length (f.offset + inf.size)) none
          ((aeq P n f.type ((xs.drop f.offset).take inf.size) ((ys.drop f.offset).take inf.size)).map (· && b))
      | _, _ => none) (some true)) = some r → (Op.eqFields d us.toArray vs.toArray l).run P w = .ok r w
  | [], r, h => by simp at h; subst h; rfl
  | f :: l, r, h => by
    rw [List.foldr_cons] at h
    split at h
    · rename_i inf b hinf hb
      have hl := aeq_fields hxs hys ih l b hb
      cases hk : ((f.name == "_") || (inf.size == 0) || Nat.blt xs.length (f.offset + inf.size) || Nat.blt ys.length (f.offset + inf.size))
      · rw [hk] at h
        simp only [cond_false] at h
        simp only [Bool.or_eq_false_iff] at hk
        obtain ⟨⟨⟨hnm, _⟩, hx⟩, hy⟩ := hk
        have hx' : f.offset + inf.size ≤ xs.length := by
          rcases Nat.lt_or_ge xs.length (f.offset + inf.size) with h | h
          · have : Nat.blt xs.length (f.offset + inf.size) = true := Nat.ble_eq_true_of_le h
            rw [hx] at this; cases this
          · exact h
        have hy' : f.offset + inf.size ≤ ys.length := by
          rcases Nat.lt_or_ge ys.length (f.offset + inf.size) with h | h
          · have : Nat.blt ys.length (f.offset + inf.size) = true := Nat.ble_eq_true_of_le h
            rw [hy] at this; cases this
          · exact h
        cases ha : aeq P n f.type ((xs.drop f.offset).take inf.size) ((ys.drop f.offset).take inf.size) with
        | none => rw [ha] at h; cases h
        | some c =>
          rw [ha] at h
          simp only [Option.map_some, Option.some.injEq] at h
          subst h
          have hlu := rowrel_length hxs
          have hlv := rowrel_length hys
          cases hu : P.underlying f.type with
          | none =>
            cases n with
            | zero => simp [aeq] at ha
            | succ n => unfold aeq at ha; rw [hu] at ha; cases ha
          | some d' =>
            have h1 : isAggD d' = true ∨ inf.size = 1 := by
              cases hd : isAggD d'
              · have := aeq_one hu hd ha
                rw [take_length hx'] at this
                exact Or.inr this
              · exact Or.inl rfl
            obtain ⟨A, hA, hAv⟩ := part_isVal (P := P) (w := w) (us := us) (o := f.offset) hu hinf (by omega) h1
            obtain ⟨B, hB, hBv⟩ := part_isVal (P := P) (w := w) (us := vs) (o := f.offset) hu hinf (by omega) h1
            have he := ih f.type _ _ _ _ c A B ha (rowrel_seg hxs hx') (rowrel_seg hys hy') hAv hBv
            have hnm' : f.name ≠ "_" := by simpa using hnm
            simp only [Op.eqFields, hnm', ne_eq, not_false_eq_true, if_true, Sem.run_bind, hA, Result.andThen_ok, hB, he, Sem.run_ite, Sem.run_pure, hl]
            cases c <;> rfl
      · rw [hk] at h; cases h
    · cases h

/-- The elements of an array, one by one. -/
def eqElems (d : Nat) (e : TypeId) (a : Nat) (xs ys : Array Value) : List Nat → Sem Bool
  | [] => pure true
  | i :: l => do
    let x ← part e xs (i * a)
    let y ← part e ys (i * a)
    let r ← Op.equalIn d e x y
    if (!r) = true then pure false else eqElems d e a xs ys l

theorem run_equalIn_array (d : Nat) (t e : TypeId) (len : Nat) (inf : TypeInfo) (xs ys : Array Value) (hu : P.underlying t = some (.array len e)) (hi : P.info? e = some inf) :
    (Op.equalIn (d + 1) t (.agg xs) (.agg ys)).run P w = (eqElems d e inf.size xs ys (List.range len)).run P w := by
  have hsz : (Go.sizeOf e).run P w = .ok inf.size w := by simp [Go.sizeOf, typeInfo, hi]
  simp only [Op.equalIn, Sem.run_bind, run_underlying hu, Result.andThen_ok, hsz, Std.Legacy.Range.forIn_eq_forIn_range', Std.Legacy.Range.size, Nat.sub_zero, Nat.add_one_sub_one, Nat.div_one, ← List.range_eq_range']
  generalize List.range len = l
  clear hsz
  induction l generalizing w with
  | nil => simp [eqElems]
  | cons i l ih =>
    simp only [List.forIn_cons, eqElems, Sem.run_bind, Sem.run_ite]
    generalize (part e xs (i * inf.size)).run P w = r1
    cases r1 with
    | ok a w1 =>
      simp only [Result.andThen_ok]
      generalize (part e ys (i * inf.size)).run P w1 = r2
      cases r2 with
      | ok b w2 =>
        simp only [Result.andThen_ok]
        generalize (Op.equalIn d e a b).run P w2 = r3
        cases r3 with
        | ok r w3 =>
          cases r
          · simp only [Result.andThen_ok, Bool.not_false, if_true, Sem.run_pure]
          · simp only [Result.andThen_ok, Bool.not_true, Bool.false_eq_true, if_false, Sem.run_pure]
            exact ih
        | halt x w3 => simp [Result.andThen]
      | halt x w2 => simp [Result.andThen]
    | halt x w1 => simp [Result.andThen]

theorem aeq_elems [Tok] {n d : Nat} {e : TypeId} {inf : TypeInfo} {xs ys us vs : List Value} (hinf : P.info? e = some inf) (hxs : rowrel bs xs us) (hys : rowrel bs ys vs)
    (ih : ∀ (t : TypeId) (xs ys us vs : List Value) (r : Bool) (X Y : Value), aeq P n t xs ys = some r → rowrel bs xs us → rowrel bs ys vs → IsVal P t us X → IsVal P t vs Y → (Op.equalIn d t X Y).run P w = .ok r w) :
    ∀ (l : List Nat) (r : Bool), (l.foldr (fun i acc => match acc with
        | some b => cond ((inf.size == 0) || Nat.blt xs.length (i * inf.size + inf.size) || Nat.blt ys.length (i * inf.size + inf.size)) none
            ((aeq P n e ((xs.drop (i * inf.size)).take inf.size) ((ys.drop (i * inf.size)).take inf.size)).map (· && b))
        | none => none) (some true)) = some r → (eqElems d e inf.size us.toArray vs.toArray l).run P w = .ok r w
  | [], r, h => by simp at h; subst h; rfl
  | i :: l, r, h => by
    rw [List.foldr_cons] at h
    split at h
    · rename_i b hb
      have hl := aeq_elems hinf hxs hys ih l b hb
      cases hk : ((inf.size == 0) || Nat.blt xs.length (i * inf.size + inf.size) || Nat.blt ys.length (i * inf.size + inf.size))
      · rw [hk] at h
        simp only [cond_false] at h
        simp only [Bool.or_eq_false_iff] at hk
        obtain ⟨⟨_, hx⟩, hy⟩ := hk
        have hx' : i * inf.size + inf.size ≤ xs.length := by
          rcases Nat.lt_or_ge xs.length (i * inf.size + inf.size) with h | h
          · have : Nat.blt xs.length (i * inf.size + inf.size) = true := Nat.ble_eq_true_of_le h
            rw [hx] at this; cases this
          · exact h
        have hy' : i * inf.size + inf.size ≤ ys.length := by
          rcases Nat.lt_or_ge ys.length (i * inf.size + inf.size) with h | h
          · have : Nat.blt ys.length (i * inf.size + inf.size) = true := Nat.ble_eq_true_of_le h
            rw [hy] at this; cases this
          · exact h
        cases ha : aeq P n e ((xs.drop (i * inf.size)).take inf.size) ((ys.drop (i * inf.size)).take inf.size) with
        | none => rw [ha] at h; cases h
        | some c =>
          rw [ha] at h
          simp only [Option.map_some, Option.some.injEq] at h
          subst h
          have hlu := rowrel_length hxs
          have hlv := rowrel_length hys
          cases hu : P.underlying e with
          | none =>
            cases n with
            | zero => simp [aeq] at ha
            | succ n => unfold aeq at ha; rw [hu] at ha; cases ha
          | some d' =>
            have h1 : isAggD d' = true ∨ inf.size = 1 := by
              cases hd : isAggD d'
              · have := aeq_one hu hd ha
                rw [take_length hx'] at this
                exact Or.inr this
              · exact Or.inl rfl
            obtain ⟨A, hA, hAv⟩ := part_isVal (P := P) (w := w) (us := us) (o := i * inf.size) hu hinf (by omega) h1
            obtain ⟨B, hB, hBv⟩ := part_isVal (P := P) (w := w) (us := vs) (o := i * inf.size) hu hinf (by omega) h1
            have he := ih e _ _ _ _ c A B ha (rowrel_seg hxs hx') (rowrel_seg hys hy') hAv hBv
            simp only [eqElems, Sem.run_bind, hA, Result.andThen_ok, hB, he, Sem.run_ite, Sem.run_pure, hl]
            cases c <;> rfl
      · rw [hk] at h; cases h
    · cases h

theorem aeq_good [Tok] : ∀ (n d : Nat), n ≤ d → ∀ (t : TypeId) (xs ys us vs : List Value) (r : Bool) (X Y : Value), aeq P n t xs ys = some r → rowrel bs xs us → rowrel bs ys vs → IsVal P t us X → IsVal P t vs Y → (Op.equalIn d t X Y).run P w = .ok r w := by
  intro n
  induction n with
  | zero => intro d _ t xs ys us vs r X Y h; simp [aeq] at h
  | succ n ih =>
    intro d hd t xs ys us vs r X Y h hxs hys hX hY
    obtain ⟨d, rfl⟩ : ∃ k, d = k + 1 := ⟨d - 1, by omega⟩
    have ih' := ih d (by omega)
    unfold aeq at h
    cases hu : P.underlying t with
    | none => rw [hu] at h; cases h
    | some desc =>
      rw [hu] at h
      unfold IsVal at hX hY
      rw [hu] at hX hY
      cases desc <;> simp only at h <;> first | (cases h; done) | skip
      case struct fs =>
        simp only at hX hY
        subst hX hY
        cases hp : P.stoodInHeld t
        · rw [hp] at h
          simp only [cond_false] at h
          have hfs : P.fieldsOf t = fs := by unfold Program.fieldsOf; rw [hu]
          rw [run_equalIn_struct w d t us.toArray vs.toArray (by rw [hfs]; exact hu) hp, hfs]
          exact aeq_fields hxs hys ih' fs.toList r h
        · rw [hp] at h; cases h
      case array len e =>
        simp only at hX hY
        subst hX hY
        split at h
        · rename_i inf hinf
          rw [run_equalIn_array d t e len inf us.toArray vs.toArray hu hinf]
          exact aeq_elems hinf hxs hys ih' (List.range len) r h
        · cases h
      case float k =>
        simp only at hX hY
        subst hX hY
        cases k <;> simp only at h
        · cases h
        · split at h
          · rename_i a b
            simp only [Option.some.injEq] at h
            subst h
            obtain ⟨⟨p, rfl, rfl⟩, _⟩ := hxs
            obtain ⟨⟨q, rfl, rfl⟩, _⟩ := hys
            simp only [Op.equalIn, Sem.run_bind, run_underlying hu, Result.andThen_ok, if_true, Sem.run_pure, Op.floatEq, feq]
            rw [order_cn]
            rfl
          · cases h
      case int k =>
        simp only at hX hY
        subst hX hY
        split at h
        · rename_i k1 a k2 b
          cases hk : decide (k1 = k2)
          · rw [hk] at h; cases h
          · rw [hk] at h
            simp only [cond_true, Option.some.injEq] at h
            have hk' := of_decide_eq_true hk
            subst h hk'
            obtain ⟨h1, _⟩ := hxs
            obtain ⟨h2, _⟩ := hys
            have e1 : X = .int k1 a := h1
            have e2 : Y = .int k1 b := h2
            subst e1 e2
            exact run_equalIn_int w d t k1 k a b hu
        · cases h
      case bool =>
        simp only at hX hY
        subst hX hY
        split at h
        · rename_i a b
          simp only [Option.some.injEq] at h
          subst h
          obtain ⟨h1, _⟩ := hxs
          obtain ⟨h2, _⟩ := hys
          have e1 : X = .bool a := h1
          have e2 : Y = .bool b := h2
          subst e1 e2
          exact run_equalIn_bool' w d t a b hu
        · cases h

theorem isVal_agg {t : TypeId} {us : Array Value} (hd : isAggT P t = true) : IsVal P t us.toList (.agg us) := by
  unfold isAggT at hd
  unfold IsVal
  cases hu : P.underlying t with
  | none => rw [hu] at hd; cases hd
  | some d =>
    rw [hu] at hd
    cases d <;> simp [isAggD] at hd <;> simp

theorem agg_bin_good [Tok] {op : BinOp} {t : TypeId} {y z : Operand} {xs ys : Array Value} {x u v : Value} (hx : cond (isAggT P t && !P.eqGuardType P.depth t) (match op, aeq P 8 t xs.toList ys.toList with
    | .eql, some b => some (.bool b)
    | .neq, some b => some (.bool !b)
    | _, _ => none) none = some x) (hu : vrel bs (.agg xs) u) (hv : vrel bs (.agg ys) v) :
    ∃ r w', (do eqGuard op t y z u v; binOp op t u v : Sem Value).run P w = .ok r w' ∧ (w' = w ∨ w' = w.drew) ∧ vrel bs x r := by
  cases hk : (isAggT P t && !P.eqGuardType P.depth t)
  · rw [hk] at hx; cases hx
  · rw [hk] at hx
    simp only [cond_true] at hx
    simp only [Bool.and_eq_true, Bool.not_eq_true'] at hk
    obtain ⟨hagg, hg⟩ := hk
    obtain ⟨us, rfl, hru⟩ := vrel_agg hu
    obtain ⟨vs, rfl, hrv⟩ := vrel_agg hv
    have hgr := run_eqGuard_agg (P := P) w op t y z us vs hg
    have main : ∀ b, aeq P 8 t xs.toList ys.toList = some b → (Op.equalIn 10000 t (.agg us) (.agg vs)).run P w = .ok b w := fun b hb =>
      aeq_good 8 10000 (by decide) t _ _ _ _ b _ _ hb hru hrv (isVal_agg hagg) (isVal_agg hagg)
    split at hx
    · rename_i b hb
      simp only [Option.some.injEq] at hx
      subst hx
      refine ⟨.bool b, w, ?_, Or.inl rfl, rfl⟩
      simp only [Sem.run_bind, hgr, Result.andThen_ok, run_eql_struct, main b hb]
    · rename_i b hb
      simp only [Option.some.injEq] at hx
      subst hx
      refine ⟨.bool (!b), w, ?_, Or.inl rfl, rfl⟩
      simp only [Sem.run_bind, hgr, Result.andThen_ok, run_neq_struct, main b hb]
    · cases hx

theorem eqGuard_plain {op : BinOp} {t : TypeId} {x y : Operand} {a b : Value} (h : (match a with | .nilIface => false | .agg _ => false | _ => true) = true) : (eqGuard op t x y a b).run P w = .ok () w := by
  unfold eqGuard
  cases op <;> cases a <;> first | rfl | simp at h

theorem abin_good [Tok] {op : BinOp} {t : TypeId} {y z : Operand} {x a b u v : Value} (hx : abin P op t a b = some x) (hu : vrel bs a u) (hv : vrel bs b v) :
    ∃ r w', (do eqGuard op t y z u v; binOp op t u v : Sem Value).run P w = .ok r w' ∧ (w' = w ∨ w' = w.drew) ∧ vrel bs x r := by
  have plain : ∀ (_ : isPlain a = true) (_ : isPlain b = true) (_ : (pureOf P (binOp op t a b)).map canR = some x),
      ∃ r w', (do eqGuard op t y z u v; binOp op t u v : Sem Value).run P w = .ok r w' ∧ (w' = w ∨ w' = w.drew) ∧ vrel bs x r := by
    intro ha hb h
    have e1 := eq_of_plain ha hu
    have e2 := eq_of_plain hb hv
    subst e1 e2
    cases hp : pureOf P (binOp op t u v) with
    | none => simp [hp] at h
    | some r =>
      simp only [hp, Option.map_some, Option.some.injEq] at h
      refine ⟨r, w, ?_, Or.inl rfl, by rw [← h]; exact vrel_canR bs r⟩
      have hg : (eqGuard op t y z u v).run P w = .ok () w := eqGuard_plain (by cases u <;> first | rfl | simp [isPlain] at ha)
      simp only [Sem.run_bind, hg, Result.andThen_ok, run_of_pureOf w hp]
  unfold abin at hx
  split at hx
  · rename_i p q
    obtain ⟨r, w', h1, h2, h3⟩ := fbin_good (P := P) (w := w) (t := t) hx hu hv
    obtain ⟨p', rfl, _⟩ := vrel_float hu
    have hg : (eqGuard op t y z (.float .f64 p') v).run P w = .ok () w := eqGuard_plain rfl
    refine ⟨r, w', ?_, h2, h3⟩
    simp only [Sem.run_bind, hg, Result.andThen_ok, h1]
  · exact agg_bin_good hx hu hv
  · cases h1 : isPlain a
    · simp [h1] at hx
    · cases h2 : isPlain b
      · simp [h2] at hx
      · simp only [h1, h2, Bool.and_self, cond_true] at hx
        exact plain h1 h2 hx

theorem isIfaceT_spec {t : TypeId} (h : isIfaceT P t = true) : ∃ ms, P.underlying t = some (.interface ms) := by
  unfold isIfaceT at h
  cases hu : P.underlying t with
  | none => rw [hu] at h; cases h
  | some d => rw [hu] at h; cases d <;> first | (cases h; done) | exact ⟨_, rfl⟩

theorem nilRes_good [Tok] {op : BinOp} {t : TypeId} {b : Bool} {x u v : Value} (h : nilRes op b = some x) (he : (Op.equal t u v).run P w = .ok b w) (hb1 : binOp .eql t u v = (do pure (.bool (← Op.equal t u v)))) (hb2 : binOp .neq t u v = (do pure (.bool (!(← Op.equal t u v))))) :
    ∃ r, (binOp op t u v).run P w = .ok r w ∧ vrel bs x r := by
  cases op <;> simp only [nilRes] at h <;> first | (cases h; done) | skip
  · cases h; refine ⟨_, ?_, rfl⟩; rw [hb1]; simp only [Sem.run_bind, he, Result.andThen_ok, Sem.run_pure]
  · cases h; refine ⟨_, ?_, rfl⟩; rw [hb2]; simp only [Sem.run_bind, he, Result.andThen_ok, Sem.run_pure]

theorem abinO_good [Tok] {op : BinOp} {t : TypeId} {y z : Operand} {x a b u v : Value} (hx : abinO P op t y z a b = some x) (hu : vrel bs a u) (hv : vrel bs b v) :
    ∃ r w', (do eqGuard op t y z u v; binOp op t u v : Sem Value).run P w = .ok r w' ∧ (w' = w ∨ w' = w.drew) ∧ vrel bs x r := by
  unfold abinO at hx
  split at hx
  · have hu' : u = .nilIface := hu
    have hv' : v = .nilIface := hv
    subst hu' hv'
    cases hc : ((isConst y || isConst z) && isIfaceT P t)
    · rw [hc] at hx; cases hx
    · rw [hc] at hx
      simp only [cond_true] at hx
      simp only [Bool.and_eq_true] at hc
      obtain ⟨ms, hms⟩ := isIfaceT_spec hc.2
      have he : (Op.equal t .nilIface .nilIface).run P w = .ok true w := by
        obtain ⟨k, hk⟩ : ∃ k, Op.maxDepth = k + 1 := ⟨Op.maxDepth - 1, rfl⟩
        unfold Op.equal
        rw [hk]
        simp only [Op.equalIn, Sem.run_bind, run_underlying hms, Result.andThen_ok, Sem.run_pure]
      obtain ⟨r, h1, h2⟩ := nilRes_good (bs := bs) hx he rfl rfl
      refine ⟨r, w, ?_, Or.inl rfl, h2⟩
      have hg : (eqGuard op t y z .nilIface .nilIface).run P w = .ok () w := by
        have hc1 := hc.1
        cases y <;> cases z <;> first | (cases hc1; done) | (cases op <;> rfl)
      simp only [Sem.run_bind, hg, Result.andThen_ok, h1]
  · rename_i t' v'
    obtain ⟨u', rfl, _⟩ := vrel_iface hu
    have hv' : v = .nilIface := hv
    subst hv'
    cases hc : isIfaceT P t
    · rw [hc] at hx; cases hx
    · rw [hc] at hx
      simp only [cond_true] at hx
      obtain ⟨ms, hms⟩ := isIfaceT_spec hc
      have he : (Op.equal t (.iface t' u') .nilIface).run P w = .ok false w := by
        obtain ⟨k, hk⟩ : ∃ k, Op.maxDepth = k + 1 := ⟨Op.maxDepth - 1, rfl⟩
        unfold Op.equal
        rw [hk]
        simp only [Op.equalIn, Sem.run_bind, run_underlying hms, Result.andThen_ok, Sem.run_pure]
      obtain ⟨r, h1, h2⟩ := nilRes_good (bs := bs) hx he rfl rfl
      refine ⟨r, w, ?_, Or.inl rfl, h2⟩
      have hg : (eqGuard op t y z (.iface t' u') .nilIface).run P w = .ok () w := by
        cases op <;> rfl
      simp only [Sem.run_bind, hg, Result.andThen_ok, h1]
  · exact abin_good hx hu hv

theorem least_some (s : String) (l : List String) : ∃ m, Instr.least (s :: l) = some m := ⟨_, rfl⟩
theorem missing_none {want : Array (String × TypeId)} {got : Array Method} (h : lacks want got = false) : Instr.missingMethod want got = none := by
  unfold lacks at h
  unfold Instr.missingMethod
  have : want.toList.filter (fun (x : String × TypeId) => !got.any fun m => m.name == x.1 && m.sig == x.2) = [] := by
    rw [List.filter_eq_nil_iff]
    intro p hp hq
    have : (want.toList.any fun p => !got.any fun m => m.name == p.1 && m.sig == p.2) = true := List.any_eq_true.2 ⟨p, hp, hq⟩
    rw [h] at this; cases this
  simp only [this]
  rfl
theorem missing_some {want : Array (String × TypeId)} {got : Array Method} (h : lacks want got = true) : ∃ m, Instr.missingMethod want got = some m := by
  unfold lacks at h
  unfold Instr.missingMethod
  obtain ⟨p, hp, hq⟩ := List.any_eq_true.1 h
  have hm : p ∈ want.toList.filter (fun (x : String × TypeId) => !got.any fun m => m.name == x.1 && m.sig == x.2) := List.mem_filter.2 ⟨hp, hq⟩
  simp only
  have hm' : p.1 ∈ (want.toList.filter (fun (x : String × TypeId) => !got.any fun m => m.name == x.1 && m.sig == x.2)).map (·.1) := List.mem_map.2 ⟨p, hm, rfl⟩
  generalize (want.toList.filter (fun (x : String × TypeId) => !got.any fun m => m.name == x.1 && m.sig == x.2)).map (·.1) = l at hm'
  simp only [List.partition_eq_filter_filter]
  by_cases hd : p.1.contains '.' = true
  · have h1 : p.1 ∈ l.filter (fun x => x.contains '.') := List.mem_filter.2 ⟨hm', hd⟩
    generalize l.filter (fun x => x.contains '.') = l1 at h1
    generalize l.filter (not ∘ fun x => x.contains '.') = l2
    cases l2 with
    | nil => cases l1 with
      | nil => cases h1
      | cons a l1 => exact ⟨_, rfl⟩
    | cons a l2 => exact ⟨_, rfl⟩
  · have h1 : p.1 ∈ l.filter (not ∘ fun x => x.contains '.') := List.mem_filter.2 ⟨hm', by simpa using hd⟩
    generalize l.filter (fun x => x.contains '.') = l1
    generalize l.filter (not ∘ fun x => x.contains '.') = l2 at h1
    cases l2 with
    | nil => cases h1
    | cons a l2 => exact ⟨_, rfl⟩

theorem assert_good [Tok] {xt asserted : TypeId} {ok : Bool} {x a u : Value} (hx : aassert P a asserted ok = some x) (hu : vrel bs a u) : ∃ r, (Instr.typeAssert u xt asserted ok).run P w = .ok r w ∧ vrel bs x r := by
  unfold aassert at hx
  split at hx
  · rename_i t v
    obtain ⟨u', rfl, hc⟩ := vrel_iface hu
    split at hx
    · rename_i want hun
      split at hx
      · rename_i inf hinf
        cases hl : lacks want inf.methods
        · rw [hl] at hx
          simp only [cond_false] at hx
          have hm := missing_none hl
          cases ok
          · cases hx
            refine ⟨.iface t u', ?_, ⟨u', rfl, hc⟩⟩
            simp [Instr.typeAssert, run_underlying hun, typeInfo, hinf, hm]
          · cases hx
            refine ⟨.tuple #[.iface t u', .bool true], ?_, ⟨_, rfl, ⟨u', rfl, hc⟩, rfl, trivial⟩⟩
            simp [Instr.typeAssert, run_underlying hun, typeInfo, hinf, hm]
        · rw [hl] at hx
          simp only [cond_true] at hx
          obtain ⟨m, hm⟩ := missing_some hl
          cases ok
          · cases hx
          · simp only [cond_true] at hx
            split at hx
            · rename_i hz
              cases hx
              refine ⟨.tuple #[.nilIface, .bool false], ?_, ⟨_, rfl, rfl, rfl, trivial⟩⟩
              simp [Instr.typeAssert, run_underlying hun, typeInfo, hinf, hm, run_of_pureOf w hz]
            · cases hx
      · cases hx
    · cases hx
  · cases hx

theorem aMethod_good {t : TypeId} {name : String} {f n : Nat} {v : Value} (h : aMethod P t name = some f) : (method (n + 1) t v name).run P w = .ok (f, v) w := by
  unfold aMethod at h
  split at h
  · rename_i inf fs hinf hun
    split at h
    · rename_i m hm
      split at h
      · rename_i f' hfn
        cases hp : m.path.isEmpty
        · rw [hp] at h; cases h
        · rw [hp] at h
          cases h
          have hpe : m.path = #[] := by simpa using hp
          simp [method, typeInfo, hinf, hm, hpe, follow, hfn, receiverAt, run_underlying hun, Place.get]
      · cases h
    · cases h
  · cases h

theorem fneg_cn (p : Nat) : cn (Op.negFloat .f64 p) = fneg (cn p) := by
  have hb : Op.negFloat .f64 p = p ^^^ 9223372036854775808 := by unfold Op.negFloat; rfl
  have hm : (p ^^^ 9223372036854775808) % 9223372036854775808 = p % 9223372036854775808 := by
    rw [show (9223372036854775808 : Nat) = 2 ^ 63 from by decide]
    rw [Nat.xor_mod_two_pow, Nat.mod_self]; simp
  have hn : isNan (p ^^^ 9223372036854775808) = isNan p := by
    unfold isNan; rw [read_isNaN, read_isNaN, hm]
  rw [hb]
  unfold fneg
  rw [isNan_cn]
  cases h : isNan p
  · rw [cn_of_not (by rw [hn]; exact h), cn_of_not h]; rfl
  · rw [cn_of_nan (by rw [hn]; exact h)]; rfl

theorem aun_good [Tok] {op : UnOp} {x a u : Value} (hx : aun P op a = some x) (hu : vrel bs a u) : ∃ r, (Op.unary op u).run P w = .ok r w ∧ vrel bs x r := by
  unfold aun at hx
  split at hx
  · cases hx
    obtain ⟨p, rfl, rfl⟩ := vrel_float hu
    exact ⟨_, rfl, ⟨_, rfl, fneg_cn p⟩⟩
  · cases h1 : isPlain a
    · simp [h1] at hx
    · simp only [h1, cond_true] at hx
      have e1 := eq_of_plain h1 hu
      subst e1
      cases hp : pureOf P (Op.unary op u) with
      | none => simp [hp] at hx
      | some r =>
        simp only [hp, Option.map_some, Option.some.injEq] at hx
        exact ⟨r, run_of_pureOf w hp, by rw [← hx]; exact vrel_canR bs r⟩

theorem abuild_good [Tok] {t : TypeId} {s : St} {ρ : Operand → Value} {ps : Array (Nat × Operand)} {x : Value} (hρ : ∀ y, y ∈ ps.toList.map (·.2) → vrel bs (aeval s y) (ρ y))
    (hx : abuild P t (ps.toList.map fun p => (p.1, aeval s p.2)) = some x) :
    ∃ r, (Instr.build t (ps.map fun (i, y) => (i, ρ y))).run P w = .ok r w ∧ vrel bs x r := by
  unfold abuild at hx
  cases hz : pureOf P (zeroValue t) with
  | none => simp [hz] at hx
  | some z =>
    simp only [hz] at hx
    cases hk : (z.cells.toList.all (·.oneCell') && (ps.toList.map fun p => (p.1, aeval s p.2)).all (fun p => okPart p.2))
    · simp only [hk, cond_false] at hx; cases hx
    · simp only [hk, cond_true] at hx
      simp only [Bool.and_eq_true] at hk
      have hzr : rowrel bs (z.cells.map canS).toList z.cells.toList := by simpa using rowrel_canS hk.1
      have hpr : prel bs (ps.toList.map fun p => (p.1, aeval s p.2)) (ps.toList.map fun p => (p.1, ρ p.2)) := prel_of hρ hk.2
      have hps : (ps.map fun (i, y) => (i, ρ y)).toList = ps.toList.map fun p => (p.1, ρ p.2) := by simp
      have hzrun := run_of_pureOf w hz
      cases hu : P.underlying t with
      | none => simp [hu] at hx
      | some d =>
        cases d <;> simp only [hu] at hx <;> first | (cases hx; done) | skip
        case struct fields =>
          split at hx
          · rename_i places hpl
            cases hf : Instr.fill (places[·]?) (z.cells.map canS) (ps.toList.map fun p => (p.1, aeval s p.2)) with
            | none => simp [hf] at hx
            | some rs =>
              simp only [hf, Option.map_some, Option.some.injEq] at hx
              subst hx
              obtain ⟨rs', h1, h2⟩ := fill_rel _ hpr hzr hf
              refine ⟨.agg rs', ?_, ⟨rs', rfl, h2⟩⟩
              have hplrun := run_of_pureOf w hpl
              simp only [Instr.build, Sem.run_bind, hzrun, Result.andThen_ok, run_underlying hu, hplrun, hps, h1, Sem.run_pure]
          · cases hx
        case array n elem =>
          split at hx
          · rename_i size hsz
            cases hf : Instr.fill (fun i => some (i * size, size)) (z.cells.map canS) (ps.toList.map fun p => (p.1, aeval s p.2)) with
            | none => simp [hf] at hx
            | some rs =>
              simp only [hf, Option.map_some, Option.some.injEq] at hx
              subst hx
              obtain ⟨rs', h1, h2⟩ := fill_rel _ hpr hzr hf
              refine ⟨.agg rs', ?_, ⟨rs', rfl, h2⟩⟩
              have hszrun := run_of_pureOf w hsz
              simp only [Instr.build, Sem.run_bind, hzrun, Result.andThen_ok, run_underlying hu, hszrun, hps, h1, Sem.run_pure]
          · cases hx

theorem arows_get [Tok] : ∀ {xs vs : List Value} {i : Nat} {x : Value}, arows bs xs vs → xs[i]? = some x → ∃ v, vs[i]? = some v ∧ arel bs x v
  | [], _, i, x, _, h => by simp at h
  | _ :: _, _ :: _, 0, x, hr, h => by simp at h; subst h; exact ⟨_, rfl, hr.1⟩
  | _ :: _, _ :: _, i + 1, x, hr, h => by simp at h; simpa using arows_get hr.2 h
  | _ :: _, [], _, _, hr, _ => hr.elim

theorem extract_good [Tok] {xs : Array Value} {i : Nat} {x u : Value} (hx : xs.toList[i]? = some x) (hu : vrel bs (.tuple xs) u) : ∃ r, (Instr.extract u i).run P w = .ok r w ∧ vrel bs x r := by
  obtain ⟨vs, rfl, hr⟩ := vrel_tuple hu
  obtain ⟨v, h1, h2⟩ := arows_get hr hx
  refine ⟨v, ?_, vrel_of_arel h2⟩
  have h1' : vs[i]? = some v := by simpa using h1
  simp [Instr.extract, h1']

end

/-! ### Addresses of the first blocks alone -/
def below1 (n : Nat) : Value → Bool
  | .pointer (some a) => Nat.blt a.block n
  | .slice (some a) _ _ => Nat.blt a.block n
  | _ => true
def belowN (n : Nat) : Value → Bool
  | .agg vs => vs.toList.all (below1 n)
  | .tuple _ => false
  | .iface _ (.agg vs) => vs.toList.all (below1 n)
  | .iface _ v => below1 n v
  | v => below1 n v

theorem get_first {bs0 es : List Nat} {i b : Nat} (h : (bs0 ++ es)[i]? = some b) (hi : i < bs0.length) : bs0[i]? = some b := by
  rwa [List.getElem?_append_left hi] at h

theorem srel_below [Tok] {bs0 es : List Nat} {x v : Value} (h : srel (bs0 ++ es) x v) (hb : below1 bs0.length x = true) : srel bs0 x v := by
  cases x with
  | pointer a =>
    cases a with
    | none => exact h
    | some a =>
      obtain ⟨i, o, sp⟩ := a
      cases sp with
      | none =>
        obtain ⟨b, h1, h2⟩ := h
        exact ⟨b, get_first h1 (Nat.le_of_ble_eq_true hb), h2⟩
      | some k => exact h
  | slice a l c =>
    cases a with
    | none => exact h
    | some a =>
      obtain ⟨i, o, sp⟩ := a
      cases sp with
      | none =>
        obtain ⟨b, c', h1, h2⟩ := h
        exact ⟨b, c', get_first h1 (Nat.le_of_ble_eq_true hb), h2⟩
      | some k =>
        obtain ⟨b, c', h1, h2⟩ := h
        exact ⟨b, c', get_first h1 (Nat.le_of_ble_eq_true hb), h2⟩
  | float k b => cases k <;> exact h
  | map r => cases r <;> exact h
  | _ => exact h
theorem rowrel_below [Tok] {bs0 es : List Nat} : ∀ {xs vs : List Value}, rowrel (bs0 ++ es) xs vs → xs.all (below1 bs0.length) = true → rowrel bs0 xs vs
  | [], [], _, _ => trivial
  | x :: xs, v :: vs, h, hb => by
    simp only [List.all_cons, Bool.and_eq_true] at hb
    exact ⟨srel_below h.1 hb.1, rowrel_below h.2 hb.2⟩
  | [], _ :: _, h, _ => h.elim
  | _ :: _, [], h, _ => h.elim
theorem vrel_below [Tok] {bs0 es : List Nat} {x v : Value} (h : vrel (bs0 ++ es) x v) (hb : belowN bs0.length x = true) : vrel bs0 x v := by
  cases x with
  | iface t y =>
    obtain ⟨u, e, hr⟩ := vrel_iface h
    refine ⟨u, e, ?_⟩
    cases y with
    | agg xs => obtain ⟨vs, e, hr⟩ := hr; exact ⟨vs, e, rowrel_below hr hb⟩
    | tuple vs => exact hr.elim
    | iface t y => exact hr.elim
    | pointer a => exact srel_below (x := .pointer a) hr hb
    | slice a l c => exact srel_below (x := .slice a l c) hr hb
    | float k b => cases k <;> exact hr
    | map r => cases r <;> exact hr
    | _ => exact hr
  | agg xs => obtain ⟨vs, e, hr⟩ := vrel_agg h; exact ⟨vs, e, rowrel_below hr hb⟩
  | tuple vs => cases hb
  | map r => exact trivial
  | pointer a => exact srel_below (x := .pointer a) h hb
  | slice a l c => exact srel_below (x := .slice a l c) h hb
  | float k b => cases k <;> exact h
  | _ => exact h
theorem vrows_below [Tok] {bs0 es : List Nat} : ∀ {xs vs : List Value}, vrows (bs0 ++ es) xs vs → xs.all (belowN bs0.length) = true → vrows bs0 xs vs
  | [], [], _, _ => trivial
  | x :: xs, v :: vs, h, hb => by
    simp only [List.all_cons, Bool.and_eq_true] at hb
    exact ⟨vrel_below h.1 hb.1, vrows_below h.2 hb.2⟩
  | [], _ :: _, h, _ => h.elim
  | _ :: _, [], h, _ => h.elim

/-- No argument of a call is an address beyond the first blocks. -/
def callBelow (n : Nat) (s : St) (o : Oper) : Bool :=
  match o.op with
  | .call c => c.args.toList.all (fun y => belowN n (aeval s y)) && (match c.callee with
    | .invoke r _ => match aeval s r with
      | .iface _ v => belowN n v
      | _ => true
    | _ => true)
  | _ => true

theorem aval_good [Tok] {P : Program} {T : Tab} {bs bs0 es : List Nat} {s : St} {w : World} {ρ : Operand → Value} {o : Oper} {x : Value} {hd : List (List Value)} (hT : TOk P T hd) (hpre : Pre hd s.mem) (hm : MemRel bs0 s.mem w) (hbs : bs = bs0 ++ es) (hcb : es = [] ∨ callBelow bs0.length s o = true) (hf : ∀ f, ρ (.func f) = .func (.func f) #[] #[])
    (hρ : ∀ y, y ∈ o.op.operands.toList → vrel bs (aeval s y) (ρ y)) (h : aval P T s o = some x) : Good P bs w x ((execOp ρ o).run P w) := by
  obtain ⟨dst, op, type, pos, after, guard⟩ := o
  cases op <;> simp only [aval] at h <;> first | (cases h; done) | skip
  case move y => cases h; exact ⟨hρ y (by simp [Op.operands]), Or.inl rfl⟩
  case assign y => cases h; exact ⟨hρ y (by simp [Op.operands]), Or.inl rfl⟩
  case load t y =>
    split at h
    · rename_i i off ha
      split at h
      · rename_i cells hc
        have hv := hρ y (by simp [Op.operands])
        rw [ha, hbs] at hv
        have hi : i < bs0.length := by rw [hm.1]; exact (List.getElem?_eq_some_iff.1 hc).1
        obtain ⟨b, hb, hve⟩ := vrel_pointer hv
        obtain ⟨u, h1, h2⟩ := load_good (P := P) (w := w) hm hc h (v := ρ y) ⟨b, get_first hb hi, hve⟩
        simp only [execOp, Sem.run_bind, h1, Result.andThen_ok, Sem.run_pure]
        exact ⟨by rw [hbs]; exact vrel_more es h2, Or.inl rfl⟩
      · cases h
    · cases h
  case fieldAddr t y f =>
    split at h
    · rename_i i off ha
      obtain ⟨u, h1, h2⟩ := field_good (P := P) (w := w) h (by rw [← ha]; exact hρ y (by simp [Op.operands]))
      simp only [execOp, Sem.run_bind, h1, Result.andThen_ok, Sem.run_pure]
      exact ⟨h2, Or.inl rfl⟩
    · cases h
  case nilCheck y =>
    split at h
    · rename_i i off ha
      cases h
      have hv := hρ y (by simp [Op.operands])
      rw [ha] at hv
      obtain ⟨b, hb, hve⟩ := vrel_pointer hv
      simp only [execOp, hve, Sem.run_pure]
      exact ⟨⟨b, hb, rfl⟩, Or.inl rfl⟩
    · cases h
  case indexAddr t y z =>
    obtain ⟨r, h1, h2⟩ := index_good (P := P) (w := w) h (hρ y (by simp [Op.operands])) (hρ z (by simp [Op.operands]))
    simp only [execOp, Sem.run_bind, h1, Result.andThen_ok, Sem.run_pure]
    exact ⟨h2, Or.inl rfl⟩
  case index t y z =>
    obtain ⟨r, h1, h2⟩ := elem_good (P := P) (w := w) h (hρ y (by simp [Op.operands])) (hρ z (by simp [Op.operands]))
    simp only [execOp, Sem.run_bind, h1, Result.andThen_ok, Sem.run_pure]
    exact ⟨h2, Or.inl rfl⟩
  case field t y f =>
    obtain ⟨r, h1, h2⟩ := pickf_good (P := P) (w := w) h (hρ y (by simp [Op.operands]))
    simp only [execOp, Sem.run_bind, h1, Result.andThen_ok, Sem.run_pure]
    exact ⟨h2, Or.inl rfl⟩
  case binOp op t y z t2 =>
    obtain ⟨r, w', h1, h2, h3⟩ := abinO_good (P := P) (w := w) (y := y) (z := z) h (hρ y (by simp [Op.operands])) (hρ z (by simp [Op.operands]))
    simp only [execOp, Sem.run_bind] at h1 ⊢
    rw [h1]
    exact ⟨h3, h2⟩
  case makeInterface t y =>
    split at h
    · rename_i d hun
      cases hc : (!isIfaceD d && okPart (aeval s y))
      · rw [hc] at h; cases h
      · rw [hc] at h
        cases h
        simp only [Bool.and_eq_true] at hc
        have hv := hρ y (by simp [Op.operands])
        refine (?_ : Good P bs w _ ((execOp ρ _).run P w))
        have hr : (Instr.makeInterface t (ρ y)).run P w = .ok (.iface t (ρ y)) w := by
          unfold Instr.makeInterface
          rw [Sem.run_bind, run_underlying hun w]
          cases d <;> first | rfl | (simp [isIfaceD] at hc)
        simp only [execOp, Sem.run_bind, hr, Result.andThen_ok, Sem.run_pure]
        exact ⟨⟨ρ y, rfl, crel_of_vrel hv hc.2⟩, Or.inl rfl⟩
    · cases h
  case typeAssert y xt asserted ok =>
    obtain ⟨r, h1, h2⟩ := assert_good (P := P) (w := w) (xt := xt) h (hρ y (by simp [Op.operands]))
    simp only [execOp, Sem.run_bind, h1, Result.andThen_ok, Sem.run_pure]
    exact ⟨h2, Or.inl rfl⟩
  case unOp op t y =>
    obtain ⟨r, h1, h2⟩ := aun_good (P := P) (w := w) h (hρ y (by simp [Op.operands]))
    simp only [execOp, Sem.run_bind, h1, Result.andThen_ok, Sem.run_pure]
    exact ⟨h2, Or.inl rfl⟩
  case convert src dst y =>
    cases h1 : isPlain (aeval s y)
    · simp [h1] at h
    · simp only [h1, cond_true] at h
      have e1 := eq_of_plain h1 (hρ y (by simp [Op.operands]))
      cases hp : pureOf P (convert src dst (aeval s y)) with
      | none => simp [hp] at h
      | some r =>
        simp only [hp, Option.map_some, Option.some.injEq] at h
        rw [← e1] at hp
        simp only [execOp, Sem.run_bind, run_of_pureOf w hp, Result.andThen_ok, Sem.run_pure]
        exact ⟨by rw [← h]; exact vrel_canR bs r, Or.inl rfl⟩
  case build t ps =>
    obtain ⟨r, h1, h2⟩ := abuild_good (P := P) (w := w) (s := s) (ρ := ρ) (fun y hy => hρ y (by simpa [Op.operands] using hy)) h
    simp only [execOp, Sem.run_bind, h1, Result.andThen_ok, Sem.run_pure]
    exact ⟨h2, Or.inl rfl⟩
  case extract y i =>
    split at h
    · rename_i vs ha
      obtain ⟨r, h1, h2⟩ := extract_good (P := P) (w := w) h (by rw [← ha]; exact hρ y (by simp [Op.operands]))
      simp only [execOp, Sem.run_bind, h1, Result.andThen_ok, Sem.run_pure]
      exact ⟨h2, Or.inl rfl⟩
    · cases h
  case call c =>
    split at h
    · rename_i f hc
      have hs := hT.1 f s.mem _ x hpre h
      obtain ⟨callee, args, argTypes⟩ := c
      simp only at hc
      subst hc
      have hargs : vrows bs (args.toList.map (aeval s)) (args.map ρ).toList := by
        have := vrows_of (bs := bs) (s := s) (ρ := ρ) (ys := args.toList) (fun y hy => hρ y (by simp [Op.operands, Call.operands]; exact Or.inr (by simpa using hy)))
        simpa using this
      rcases hs with ⟨⟨fn, h1, h2, h3⟩, h4⟩ | hs
      · have hargs0 : vrows bs0 (args.toList.map (aeval s)) (args.map ρ).toList := by
          rw [hbs] at hargs
          rcases hcb with rfl | hcb
          · simpa using hargs
          · refine vrows_below hargs ?_
            simp only [callBelow, Bool.and_true] at hcb
            rw [List.all_map]; exact hcb
        have hr := (h4 bs0 w (args.map ρ) hm hargs0).mono (R' := fun e w'' => ∃ v, e = .returned v ∧ vrel bs x v ∧ Below w.heap.size w w'') fun e w' ⟨v, g1, g2, g3⟩ => ⟨v, g1, by rw [hbs]; exact vrel_more es g2, g3⟩
        simp only [execOp, resolve, hf, Deferred.ofValue, Sem.run_bind, Sem.run_pure, Result.andThen_ok, invoke, callFunc, run_program, h1, h2, h3, Array.append_empty, Array.empty_append, Bool.false_eq_true, if_false]
        exact ⟨rfl, hr⟩
      · obtain ⟨u, w', h1, h2, h3⟩ := hs bs w (args.map ρ) hargs
        simp only [execOp, resolve, hf, Deferred.ofValue, Sem.run_bind, Sem.run_pure, Result.andThen_ok, invoke, Array.append_empty, Array.empty_append, h1]
        exact ⟨h3, h2⟩
    · rename_i rc name hc
      split at h
      · rename_i t v hrc
        split at h
        · rename_i f hmeth
          have hs := hT.1 f s.mem _ x hpre h
          obtain ⟨callee, args, argTypes⟩ := c
          simp only at hc
          subst hc
          have hr := hρ rc (by simp [Op.operands, Call.operands])
          rw [hrc] at hr
          obtain ⟨u', hru, hcr⟩ := vrel_iface hr
          have hargs1 : vrows bs (args.toList.map (aeval s)) (args.map ρ).toList := by
            have := vrows_of (bs := bs) (s := s) (ρ := ρ) (ys := args.toList) (fun y hy => hρ y (by simp [Op.operands, Call.operands]; exact Or.inr (by simpa using hy)))
            simpa using this
          have hargs : vrows bs (v :: args.toList.map (aeval s)) (#[u'] ++ args.map ρ).toList := by
            rw [Array.toList_append]
            exact ⟨vrel_of_crel hcr, hargs1⟩
          have hdep : ∃ k, P.types.size + Made.depth = k + 1 := ⟨P.types.size + (Made.depth - 1), by have : Made.depth = Made.depth - 1 + 1 := rfl; omega⟩
          obtain ⟨k, hk⟩ := hdep
          have hget : (#[Value.iface t u'] ++ Array.map ρ args)[0]? = some (.iface t u') := by
            rw [Array.getElem?_append_left (by simp)]; rfl
          have hext : (#[Value.iface t u'] ++ Array.map ρ args).extract 1 (#[Value.iface t u'] ++ Array.map ρ args).size = Array.map ρ args := by
            apply Array.ext'
            rw [Array.toList_extract, Array.toList_append]
            simp only [List.extract, List.cons_append, List.nil_append, Array.toList_map]
            simp only [Array.size_append, List.size_toArray, List.length_cons, List.length_nil, Array.size_map, List.drop_succ_cons, List.drop_zero, Nat.zero_add, Nat.add_sub_cancel_left]
            exact List.take_of_length_le (by simp)
          rcases hs with ⟨⟨fn, h1, h2, h3⟩, h4⟩ | hs
          · have hargs0 : vrows bs0 (v :: args.toList.map (aeval s)) (#[u'] ++ args.map ρ).toList := by
              rw [hbs] at hargs
              rcases hcb with rfl | hcb
              · simpa using hargs
              · refine vrows_below hargs ?_
                simp only [callBelow, hrc, Bool.and_eq_true] at hcb
                rw [List.all_cons, List.all_map]
                simp only [Bool.and_eq_true]
                exact ⟨hcb.2, hcb.1⟩
            have hr := (h4 bs0 w (#[u'] ++ args.map ρ) hm hargs0).mono (R' := fun e w'' => ∃ v, e = .returned v ∧ vrel bs x v ∧ Below w.heap.size w w'') fun e w' ⟨v, g1, g2, g3⟩ => ⟨v, g1, by rw [hbs]; exact vrel_more es g2, g3⟩
            have hrun : (execOp ρ ⟨dst, .call ⟨.invoke rc name, args, argTypes⟩, type, pos, after, guard⟩).run P w = .ok (.enter f (#[u'] ++ args.map ρ)) w := by
              simp only [execOp, resolve, hru, Sem.run_bind, Sem.run_pure, Result.andThen_ok, invoke, hget, hext, callMethod, run_program, hk, aMethod_good hmeth, callFunc, h1, h2, h3, Bool.false_eq_true, if_false]
            rw [hrun]
            exact ⟨rfl, hr⟩
          · obtain ⟨u, w', h1, h2, h3⟩ := hs bs w (#[u'] ++ args.map ρ) hargs
            have hrun : (execOp ρ ⟨dst, .call ⟨.invoke rc name, args, argTypes⟩, type, pos, after, guard⟩).run P w = .ok (.value u) w' := by
              simp only [execOp, resolve, hru, Sem.run_bind, Sem.run_pure, Result.andThen_ok, invoke, hget, hext, callMethod, run_program, hk, aMethod_good hmeth, h1]
            rw [hrun]
            exact ⟨h3, h2⟩
        · cases h
      · cases h
    · rename_i hc
      split at h
      · rename_i a0 n c0 t hargs hty
        split at h
        · rename_i e0 hun
          obtain ⟨callee, args, argTypes⟩ := c
          simp only at hc hargs hty
          subst hc
          have hav : vrows bs (args.toList.map (aeval s)) (args.map ρ).toList := by
            have := vrows_of (bs := bs) (s := s) (ρ := ρ) (ys := args.toList) (fun y hy => hρ y (by simp [Op.operands, Call.operands]; simpa using hy))
            simpa using this
          rw [hargs] at hav
          obtain ⟨a', n', c', hv, hx⟩ : ∃ a' n' c', args.map ρ = #[.slice a' n' c'] ∧ x = .int .i64 n' := by
            revert hav
            obtain ⟨vs⟩ := args.map ρ
            intro hav
            match vs, hav with
            | [v], ⟨hv, _⟩ =>
              cases a0 with
              | none =>
                cases h
                rcases (show v = .slice none n c0 ∨ (n = 0 ∧ ∃ a c', v = .slice a 0 c') from hv) with rfl | ⟨rfl, a, c', rfl⟩
                · exact ⟨_, _, _, rfl, rfl⟩
                · exact ⟨_, _, _, rfl, rfl⟩
              | some a =>
                obtain ⟨i, o, sp⟩ := a
                cases sp with
                | none => cases h; obtain ⟨b, c', _, _, rfl⟩ : ∃ b c, bs[i]? = some b ∧ n ≤ c ∧ v = .slice (some ⟨b, o, none⟩) n c := hv; exact ⟨_, _, _, rfl, rfl⟩
                | some k => cases h; obtain ⟨b, c', _, _, rfl⟩ : ∃ b c, bs[i]? = some b ∧ Tok.n i ≤ c ∧ v = .slice (some ⟨b, Tok.o i, none⟩) (Tok.n i) c := hv; exact ⟨_, _, _, rfl, rfl⟩
            | [], hav => exact hav.elim
            | _ :: _ :: _, ⟨_, hav⟩ => exact hav.elim
          have ht : argTypes = #[t] := by cases argTypes; simpa using hty
          subst ht hx
          simp only [execOp, resolve, hv, Sem.run_bind, Sem.run_pure, Result.andThen_ok, invoke, builtin, Builtin.len_, List.getElem?_toArray, List.getElem?_cons_zero, run_underlying hun]
          exact ⟨rfl, Or.inl rfl⟩
        · cases h
      · cases h
    · cases h

end Go.Ev
