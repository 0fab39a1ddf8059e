/-
  One operation on values read plainly: what it gives, and that the model gives just that.
-/
import Derived.Test.YtnlfeocapnefeaaEv2
import Derived.Deep.MidRow
namespace Go.Ev
open Go.RowKit

def vrows (bs : List Nat) : List Value → List Value → Prop
  | [], [] => True
  | x :: xs, v :: vs => vrel bs x v ∧ vrows bs xs vs
  | _, _ => False

/-- The function is Go text: a call enters it. -/
def Entered (P : Program) (f : Nat) : Prop := ∃ fn, P.funcs[f]? = some fn ∧ (fn.name == "runtime.NumGoroutine") = false ∧ fn.body.isNone = false

/-- A call with these arguments over this memory: it returns this, and nothing that was there is changed. -/
def FSpec (P : Program) (f : Nat) (mem : List (List Value)) (args : List Value) (r : Value) : Prop :=
  Entered P f ∧ ∀ (bs : List Nat) (w : World) (cargs : Array Value), MemRel bs mem w → vrows bs args cargs.toList →
    Calls P f cargs w fun e w' => ∃ v, e = .returned v ∧ vrel bs r v ∧ Below w.heap.size w w'

abbrev Tab := Nat → List (List Value) → List Value → Option Value

/-- A function without a text, that the model carries out in place. -/
def XSpec (P : Program) (f : Nat) (args : List Value) (r : Value) : Prop :=
  ∀ (bs : List Nat) (w : World) (cargs : Array Value), vrows bs args cargs.toList → ∃ u w', (callFunc f cargs).run P w = .ok (.value u) w' ∧ (w' = w ∨ w' = w.drew) ∧ vrel bs r u

def TOk (P : Program) (T : Tab) : Prop := ∀ f mem args r, T f mem args = some r → FSpec P f mem args r ∨ XSpec P f args r

/-- The outcome of an operation fits what is known. -/
def Good (P : Program) (bs : List Nat) (w : World) (x : Value) : Result Next → Prop
  | .ok (.value v) w' => vrel bs x v ∧ (w' = w ∨ w' = w.drew)
  | .ok (.enter f args) w' => w' = w ∧ Calls P f args w fun e w'' => ∃ v, e = .returned v ∧ vrel bs x v ∧ Below w.heap.size w w''
  | _ => False

def okPart : Value → Bool
  | .map _ => false
  | .tuple _ => false
  | _ => true

def abuild (P : Program) (t : TypeId) (parts : List (Nat × Value)) : Option Value :=
  match pureOf P (zeroValue t) with
  | some z => cond (z.cells.toList.all (·.oneCell') && parts.all (fun p => okPart p.2))
      (match P.underlying t with
      | some (.struct fields) => match pureOf P (fields.mapM (m := Sem) fun f => do pure (f.offset, ← sizeOf f.type)) with
          | some places => (Instr.fill (places[·]?) (z.cells.map canS) parts).map .agg
          | none => none
      | some (.array _ elem) => match pureOf P (sizeOf elem) with
          | some size => (Instr.fill (fun i => some (i * size, size)) (z.cells.map canS) parts).map .agg
          | none => none
      | _ => none) none
  | none => none

def aval (P : Program) (T : Tab) (s : St) (o : Oper) : Option Value :=
  match o.op with
  | .move x => some (aeval s x)
  | .assign x => some (aeval s x)
  | .load t x => match aeval s x with
    | .pointer (some ⟨i, off, none⟩) => match s.mem[i]? with
      | some cells => aload P t cells off
      | none => none
    | _ => none
  | .fieldAddr t x f => match aeval s x with
    | .pointer (some ⟨i, off, none⟩) => afield P t i off f
    | _ => none
  | .indexAddr t x ix => aindex P t (aeval s x) (aeval s ix)
  | .index t x ix => aelem P t (aeval s x) (aeval s ix)
  | .field t x f => apick P t (aeval s x) f
  | .binOp op t x y _ => abin P op t (aeval s x) (aeval s y)
  | .unOp op _ x => aun P op (aeval s x)
  | .build t ps => abuild P t (ps.toList.map fun p => (p.1, aeval s p.2))
  | .extract x i => match aeval s x with
    | .tuple vs => vs.toList[i]?
    | _ => none
  | .call c => match c.callee with
    | .value (.func f) => T f s.mem (c.args.toList.map (aeval s))
    | _ => none
  | _ => none

/-! ### Small facts -/
theorem rowrel_set {bs : List Nat} : ∀ {xs vs : List Value} (i : Nat) {x v : Value}, rowrel bs xs vs → srel bs x v → rowrel bs (xs.set i x) (vs.set i v)
  | [], [], _, _, _, _, _ => by simp [rowrel]
  | _ :: _, _ :: _, 0, _, _, h, hx => ⟨hx, h.2⟩
  | _ :: _, _ :: _, i + 1, _, _, h, hx => ⟨h.1, rowrel_set i h.2 hx⟩
  | [], _ :: _, _, _, _, h, _ => h.elim
  | _ :: _, [], _, _, _, h, _ => h.elim

def zrel (bs : List Nat) : List (Value × Nat) → List (Value × Nat) → Prop
  | [], [] => True
  | x :: xs, v :: vs => (srel bs x.1 v.1 ∧ x.2 = v.2) ∧ zrel bs xs vs
  | _, _ => False
theorem zrel_zipIdx {bs : List Nat} : ∀ {xs vs : List Value} (n : Nat), rowrel bs xs vs → zrel bs (xs.zipIdx n) (vs.zipIdx n)
  | [], [], _, _ => trivial
  | _ :: _, _ :: _, n, h => ⟨⟨h.1, rfl⟩, zrel_zipIdx (n + 1) h.2⟩
  | [], _ :: _, _, h => h.elim
  | _ :: _, [], _, h => h.elim
theorem fold_rel {bs : List Nat} (off : Nat) : ∀ {l l' : List (Value × Nat)} {xs vs : Array Value}, zrel bs l l' → rowrel bs xs.toList vs.toList →
    rowrel bs (l.foldl (fun cs (p : Value × Nat) => cs.setIfInBounds (off + p.2) p.1) xs).toList (l'.foldl (fun cs (p : Value × Nat) => cs.setIfInBounds (off + p.2) p.1) vs).toList
  | [], [], _, _, _, h => h
  | x :: l, v :: l', xs, vs, hz, h => by
    simp only [List.foldl_cons]
    refine fold_rel off hz.2 ?_
    simp only [Array.toList_setIfInBounds, hz.1.2]
    exact rowrel_set _ h hz.1.1
  | [], _ :: _, _, _, hz, _ => hz.elim
  | _ :: _, [], _, _, hz, _ => hz.elim

def prel (bs : List Nat) : List (Nat × Value) → List (Nat × Value) → Prop
  | [], [] => True
  | x :: xs, v :: vs => (x.1 = v.1 ∧ rowrel bs x.2.cells.toList v.2.cells.toList) ∧ prel bs xs vs
  | _, _ => False

theorem fill_rel {bs : List Nat} (place : Nat → Option (Nat × Nat)) : ∀ {ps qs : List (Nat × Value)} {xs vs rs : Array Value}, prel bs ps qs → rowrel bs xs.toList vs.toList →
    Instr.fill place xs ps = some rs → ∃ rs', Instr.fill place vs qs = some rs' ∧ rowrel bs rs.toList rs'.toList
  | [], [], xs, vs, rs, _, h, e => by
    simp [Instr.fill] at e; subst e; exact ⟨vs, by simp [Instr.fill], h⟩
  | (i, x) :: ps, (j, v) :: qs, xs, vs, rs, hp, h, e => by
    obtain ⟨⟨hi, hc⟩, hp'⟩ := hp
    simp only at hi hc
    subst hi
    have hl : x.cells.size = v.cells.size := by have := rowrel_length hc; simpa using this
    have hl2 : xs.size = vs.size := by have := rowrel_length h; simpa using this
    unfold Instr.fill at e ⊢
    cases hpl : place i with
    | none => simp [hpl] at e
    | some p =>
      obtain ⟨off, size⟩ := p
      simp only [hpl] at e ⊢
      rw [← hl, ← hl2]
      split at e
      · cases e
      · rename_i hne
        rw [if_neg hne]
        refine fill_rel place hp' ?_ e
        have := fold_rel off (zrel_zipIdx 0 hc) h
        rw [← Array.foldl_toList, ← Array.foldl_toList, Array.toList_zipIdx, Array.toList_zipIdx]
        exact this
  | [], _ :: _, _, _, _, hp, _, _ => hp.elim
  | _ :: _, [], _, _, _, hp, _, _ => hp.elim

def isOne : Value → Bool
  | .map _ => false
  | .tuple _ => false
  | .agg _ => false
  | _ => true
theorem srel_of_vrel {bs : List Nat} {x v : Value} (h : vrel bs x v) (hx : isOne x = true) : srel bs x v := by
  cases x <;> first | exact h | simp [isOne] at hx

theorem cells_rel {bs : List Nat} {x v : Value} (h : vrel bs x v) (hx : okPart x = true) : rowrel bs x.cells.toList v.cells.toList := by
  have one : ∀ (_ : isOne x = true) (_ : x.cells = #[x]), rowrel bs x.cells.toList v.cells.toList := by
    intro hk hc
    have h1 := srel_of_vrel h hk
    have h2 := srel_oneCell h1
    have h3 : v.cells = #[v] := by cases v <;> first | rfl | simp [Value.oneCell'] at h2
    rw [h3, hc]
    exact ⟨h1, trivial⟩
  cases x with
  | agg xs => obtain ⟨vs, rfl, h2⟩ := vrel_agg h; exact h2
  | tuple vs => simp [okPart] at hx
  | map r => simp [okPart] at hx
  | _ => exact one rfl rfl

theorem srel_canS {bs : List Nat} {v : Value} (h : v.oneCell' = true) : srel bs (canS v) v := by
  have h1 := vrel_canS bs v
  cases v with
  | float k b => cases k <;> exact h1
  | pointer a => cases a <;> first | exact h1 | rfl
  | slice a l c => cases a <;> first | exact h1 | rfl
  | agg cs => simp [Value.oneCell'] at h
  | tuple vs => simp [Value.oneCell'] at h
  | map r => rfl
  | _ => exact h1

theorem rowrel_canS {bs : List Nat} : ∀ {vs : List Value}, (vs.all (·.oneCell')) = true → rowrel bs (vs.map canS) vs
  | [], _ => trivial
  | v :: vs, h => by
    simp only [List.all_cons, Bool.and_eq_true] at h
    exact ⟨srel_canS h.1, rowrel_canS h.2⟩

theorem prel_of {bs : List Nat} {s : St} {ρ : Operand → Value} : ∀ {ps : List (Nat × Operand)}, (∀ y, y ∈ ps.map (·.2) → vrel bs (aeval s y) (ρ y)) → ((ps.map fun p => (p.1, aeval s p.2)).all (fun p => okPart p.2)) = true →
    prel bs (ps.map fun p => (p.1, aeval s p.2)) (ps.map fun p => (p.1, ρ p.2))
  | [], _, _ => trivial
  | p :: ps, h, hk => by
    simp only [List.map_cons, List.all_cons, Bool.and_eq_true] at hk
    refine ⟨⟨rfl, cells_rel (h p.2 (by simp)) hk.1⟩, prel_of (fun y hy => h y (by simp at hy ⊢; exact Or.inr hy)) hk.2⟩

theorem vrows_of {bs : List Nat} {s : St} {ρ : Operand → Value} : ∀ {ys : List Operand}, (∀ y, y ∈ ys → vrel bs (aeval s y) (ρ y)) → vrows bs (ys.map (aeval s)) (ys.map ρ)
  | [], _ => trivial
  | y :: ys, h => ⟨h y (by simp), vrows_of (fun z hz => h z (by simp [hz]))⟩

/-! ### The laws, one an operation -/
section
variable {P : Program} {bs : List Nat} {w : World}

theorem good_value {x v : Value} {w' : World} (h : vrel bs x v) (hw : w' = w ∨ w' = w.drew) : Good P bs w x (.ok (.value v) w') := ⟨h, hw⟩

theorem load_good {mem : List (List Value)} (hm : MemRel bs mem w) {t : TypeId} {i o : Nat} {cells : List Value} {x v : Value} (hc : mem[i]? = some cells) (hx : aload P t cells o = some x)
    (hv : vrel bs (.pointer (some ⟨i, o, none⟩)) v) : ∃ u, (Instr.loadAt t v).run P w = .ok u w ∧ vrel bs x u := by
  obtain ⟨b, hb, rfl⟩ := vrel_pointer hv
  obtain ⟨b', hb', hlt, cs, e, fz, hh, hr⟩ := hm.at hc
  rw [hb] at hb'
  cases hb'
  unfold aload at hx
  cases hu : P.underlying t with
  | none => simp [hu] at hx
  | some d =>
    cases hi : P.info? t with
    | none => simp [hu, hi] at hx
    | some inf =>
      simp only [hu, hi] at hx
      cases hd : isAggD d
      · simp only [hd, cond_false] at hx
        obtain ⟨u, h1, h2⟩ := rowpre_get hr hx
        refine ⟨u, ?_, vrel_of_srel h2⟩
        have hcell : w.cell? ⟨b, o, none⟩ = some u := by rw [cell_of_row w b o cs e fz hh]; simpa using h1
        have hagg : (isAgg t).run P w = .ok false w := by
          unfold isAgg
          rw [Sem.run_bind, run_underlying hu w]
          cases d <;> simp_all [isAggD]
        simp [Instr.loadAt, Instr.sureAddr, loadVar, hagg, hcell]
      · simp only [hd, cond_true] at hx
        cases hle : Nat.ble (o + inf.size) cells.length
        · simp [hle] at hx
        · simp only [hle, cond_true] at hx
          cases hx
          have hle' : o + inf.size ≤ cells.length := Nat.le_of_ble_eq_true hle
          have hpl := rowpre_length hr
          refine ⟨.agg ((cs.toList.drop o).take inf.size).toArray, ?_, ⟨_, rfl, by simpa using rowpre_part o inf.size hr hle'⟩⟩
          refine run_loadAt_mid w b o t ((cs.toList.drop o).take inf.size) d ?_ hu (by cases d <;> first | rfl | simp [isAggD] at hd) ?_
          · intro j u hj
            rw [cell_of_row w b (o + j) cs e fz hh]
            rw [List.getElem?_take] at hj
            split at hj
            · simpa using hj
            · cases hj
          · simp only [hi, Option.map_some, List.length_take, List.length_drop]
            congr 1
            omega

theorem field_good {t : TypeId} {i o f : Nat} {x v : Value} (hx : afield P t i o f = some x) (hv : vrel bs (.pointer (some ⟨i, o, none⟩)) v) :
    ∃ u, (Instr.fieldAt t v f).run P w = .ok u w ∧ vrel bs x u := by
  obtain ⟨b, hb, rfl⟩ := vrel_pointer hv
  unfold afield at hx
  cases hu : P.underlying t with
  | none => simp [hu] at hx
  | some d =>
    cases d <;> simp only [hu] at hx <;> first | (cases hx; done) | skip
    rename_i fields
    cases hf : fields[f]? with
    | none => simp [hf] at hx
    | some fd =>
      simp only [hf] at hx
      cases hi : P.info? fd.type with
      | none => simp [hi] at hx
      | some inf =>
        simp only [hi] at hx
        cases hz : (inf.size == 0)
        · simp only [hz, cond_false] at hx
          cases hx
          have hz' : inf.size ≠ 0 := by simpa using hz
          refine ⟨.pointer (some ⟨b, o + fd.offset, none⟩), ?_, ⟨b, hb, rfl⟩⟩
          have hadd : (⟨b, o, none⟩ : Addr).add fd.offset = ⟨b, o + fd.offset, none⟩ := by unfold Addr.add; split <;> simp_all
          simp [Instr.fieldAt, run_underlying hu, hf, Instr.sureAddr, fieldPlace, sizeOf, typeInfo, hi, hz', hadd]
        · simp [hz] at hx

/-- A part of a value, as the model takes it. -/
theorem part_good {t : TypeId} {cells : List Value} {cs : Array Value} {o : Nat} {x : Value} (hx : aload P t cells o = some x) (hr : rowpre bs cells cs.toList) : ∃ u, (part t cs o).run P w = .ok u w ∧ vrel bs x u := by
  unfold aload at hx
  cases hu : P.underlying t with
  | none => simp [hu] at hx
  | some d =>
    cases hi : P.info? t with
    | none => simp [hu, hi] at hx
    | some inf =>
      simp only [hu, hi] at hx
      cases hd : isAggD d
      · simp only [hd, cond_false] at hx
        obtain ⟨u, h1, h2⟩ := rowpre_get hr hx
        refine ⟨u, ?_, vrel_of_srel h2⟩
        have h1' : cs[o]? = some u := by simpa using h1
        have hagg : (isAgg t).run P w = .ok false w := by
          unfold isAgg
          rw [Sem.run_bind, run_underlying hu w]
          cases d <;> simp_all [isAggD]
        simp [part, hagg, h1']
      · simp only [hd, cond_true] at hx
        cases hle : Nat.ble (o + inf.size) cells.length
        · simp [hle] at hx
        · simp only [hle, cond_true] at hx
          cases hx
          have hle' : o + inf.size ≤ cells.length := Nat.le_of_ble_eq_true hle
          have hagg : (isAgg t).run P w = .ok true w := by
            unfold isAgg
            rw [Sem.run_bind, run_underlying hu w]
            cases d <;> simp_all [isAggD]
          refine ⟨.agg (cs.extract o (o + inf.size)), ?_, ⟨_, rfl, ?_⟩⟩
          · simp [part, hagg, sizeOf, typeInfo, hi]
          · have := rowpre_part o inf.size hr hle'
            simpa [Array.toList_extract, List.extract] using this

theorem index_good {t : TypeId} {x ix a u v : Value} (hx : aindex P t a ix = some x) (hu : vrel bs a u) (hv : vrel bs ix v) : ∃ r, (Instr.indexAt t u v).run P w = .ok r w ∧ vrel bs x r := by
  unfold aindex at hx
  split at hx
  · rename_i kk k
    have hv' : v = .int kk k := hv
    subst hv'
    split at hx
    · rename_i n e i o hun
      split at hx
      · rename_i inf hinf
        cases hk : (decide (0 ≤ k) && decide (k < (n : Int)))
        · rw [hk] at hx; cases hx
        · rw [hk] at hx
          simp only [cond_true, Option.some.injEq] at hx
          subst hx
          simp only [Bool.and_eq_true, decide_eq_true_eq] at hk
          obtain ⟨b, hb, rfl⟩ := vrel_pointer hu
          refine ⟨.pointer (some ⟨b, o + k.toNat * inf.size, none⟩), ?_, ⟨b, hb, rfl⟩⟩
          have hadd : (⟨b, o, none⟩ : Addr).add (k.toNat * inf.size) = ⟨b, o + k.toNat * inf.size, none⟩ := by unfold Addr.add; split <;> simp_all
          simp [Instr.indexAt, asIntOf, run_underlying hun, Instr.sureAddr, sizeOf, typeInfo, hinf, hk.1, hk.2, hadd]
      · cases hx
    · rename_i e i o len cap hun
      split at hx
      · rename_i inf hinf
        cases hk : (decide (0 ≤ k) && decide (k < (len : Int)))
        · rw [hk] at hx; cases hx
        · rw [hk] at hx
          simp only [cond_true, Option.some.injEq] at hx
          subst hx
          simp only [Bool.and_eq_true, decide_eq_true_eq] at hk
          obtain ⟨b, c, hb, hle, rfl⟩ : ∃ b c, bs[i]? = some b ∧ len ≤ c ∧ u = .slice (some ⟨b, o, none⟩) len c := hu
          refine ⟨.pointer (some ⟨b, o + k.toNat * inf.size, none⟩), ?_, ⟨b, hb, rfl⟩⟩
          have hadd : (⟨b, o, none⟩ : Addr).add (k.toNat * inf.size) = ⟨b, o + k.toNat * inf.size, none⟩ := by unfold Addr.add; split <;> simp_all
          simp [Instr.indexAt, asIntOf, run_underlying hun, sizeOf, typeInfo, hinf, hk.1, hk.2, hadd]
      · cases hx
    · cases hx
  · cases hx

theorem elem_good {t : TypeId} {x ix a u v : Value} (hx : aelem P t a ix = some x) (hu : vrel bs a u) (hv : vrel bs ix v) : ∃ r, (Instr.index t u v).run P w = .ok r w ∧ vrel bs x r := by
  unfold aelem at hx
  split at hx
  · rename_i kk k cs n e hun
    have hv' : v = .int kk k := hv
    subst hv'
    split at hx
    · rename_i inf hinf
      cases hk : (decide (0 ≤ k) && decide (k < (n : Int)))
      · rw [hk] at hx; cases hx
      · rw [hk] at hx
        simp only [cond_true] at hx
        simp only [Bool.and_eq_true, decide_eq_true_eq] at hk
        obtain ⟨vs, rfl, hr⟩ := vrel_agg hu
        obtain ⟨r, h1, h2⟩ := part_good (P := P) (w := w) hx (rowpre_of_rowrel hr)
        refine ⟨r, ?_, h2⟩
        simp [Instr.index, asIntOf, run_underlying hun, sizeOf, typeInfo, hinf, hk.1, hk.2, h1]
    · cases hx
  · cases hx

theorem pickf_good {t : TypeId} {x a u : Value} {f : Nat} (hx : apick P t a f = some x) (hu : vrel bs a u) : ∃ r, (Instr.field t u f).run P w = .ok r w ∧ vrel bs x r := by
  unfold apick at hx
  split at hx
  · rename_i cs fields hun
    split at hx
    · rename_i fd hfd
      obtain ⟨vs, rfl, hr⟩ := vrel_agg hu
      obtain ⟨r, h1, h2⟩ := part_good (P := P) (w := w) hx (rowpre_of_rowrel hr)
      refine ⟨r, ?_, h2⟩
      simp [Instr.field, run_underlying hun, hfd, asAgg, h1]
    · cases hx
  · cases hx

/-! ### '==' on structs and arrays -/
/-- A value of a type out of its cells. -/
def IsVal (P : Program) (t : TypeId) (us : List Value) (X : Value) : Prop :=
  match P.underlying t with
  | some (.struct _) => X = .agg us.toArray
  | some (.array _ _) => X = .agg us.toArray
  | _ => us = [X]

theorem part_isVal {t : TypeId} {us : List Value} {o : Nat} {inf : TypeInfo} {d : TypeDesc} (hu : P.underlying t = some d) (hi : P.info? t = some inf) (hle : o + inf.size ≤ us.length) (h1 : isAggD d = true ∨ inf.size = 1) :
    ∃ X, (part t us.toArray o).run P w = .ok X w ∧ IsVal P t ((us.drop o).take inf.size) X := by
  cases hd : isAggD d
  · have hs : inf.size = 1 := by rcases h1 with h | h; (rw [hd] at h; cases h); exact h
    have hlt : o < us.length := by omega
    have hagg : (isAgg t).run P w = .ok false w := by
      unfold isAgg
      rw [Sem.run_bind, run_underlying hu w]
      cases d <;> simp_all [isAggD]
    refine ⟨us[o], by simp [part, hagg, hlt], ?_⟩
    have : (us.drop o).take inf.size = [us[o]] := by
      rw [hs, List.drop_eq_getElem_cons hlt, List.take_succ_cons, List.take_zero]
    unfold IsVal
    rw [hu, this]
    cases d <;> simp_all [isAggD]
  · have hagg : (isAgg t).run P w = .ok true w := by
      unfold isAgg
      rw [Sem.run_bind, run_underlying hu w]
      cases d <;> simp_all [isAggD]
    refine ⟨.agg (us.toArray.extract o (o + inf.size)), by simp [part, hagg, sizeOf, typeInfo, hi], ?_⟩
    unfold IsVal
    rw [hu]
    cases d <;> simp_all [isAggD, List.extract]

theorem fbin_good {op : BinOp} {t : TypeId} {a b : Nat} {x u v : Value} (hx : fbin op a b = some x) (hu : vrel bs (.float .f64 a) u) (hv : vrel bs (.float .f64 b) v) :
    ∃ r w', (binOp op t u v).run P w = .ok r w' ∧ (w' = w ∨ w' = w.drew) ∧ vrel bs x r := by
  obtain ⟨p, rfl, rfl⟩ := vrel_float hu
  obtain ⟨q, rfl, rfl⟩ := vrel_float hv
  have hc : ∀ (c : Bool) (r : Value), (binOp op t (.float .f64 p) (.float .f64 q)).run P w = .ok (.bool c) w → x = .bool c → ∃ r w', (binOp op t (.float .f64 p) (.float .f64 q)).run P w = .ok r w' ∧ (w' = w ∨ w' = w.drew) ∧ vrel bs x r :=
    fun c _ h1 h2 => ⟨_, _, h1, Or.inl rfl, by subst h2; rfl⟩
  cases op <;> simp only [fbin] at hx <;> first | (cases hx; done) | skip
  case add =>
    cases hx
    obtain ⟨r, w', h1, h2, h3⟩ := run_arith P .add t Ieee.double.add (fun _ _ => rfl) (Or.inl rfl) add_cn (fun _ _ _ h => isNan_add h) w p q
    exact ⟨_, _, h1, h2, ⟨r, rfl, h3⟩⟩
  case sub =>
    cases hx
    obtain ⟨r, w', h1, h2, h3⟩ := run_arith P .sub t Ieee.double.sub (fun _ _ => rfl) (Or.inr (Or.inl rfl)) sub_cn (fun _ _ _ h => isNan_sub h) w p q
    exact ⟨_, _, h1, h2, ⟨r, rfl, h3⟩⟩
  case mul =>
    cases hx
    obtain ⟨r, w', h1, h2, h3⟩ := run_arith P .mul t Ieee.double.mul (fun _ _ => rfl) (Or.inr (Or.inr (Or.inl rfl))) mul_cn (fun _ _ _ h => isNan_mul h) w p q
    exact ⟨_, _, h1, h2, ⟨r, rfl, h3⟩⟩
  case quo =>
    cases hx
    obtain ⟨r, w', h1, h2, h3⟩ := run_arith P .quo t Ieee.double.div (fun _ _ => rfl) (Or.inr (Or.inr (Or.inr rfl))) div_cn (fun _ _ _ h => isNan_div h) w p q
    exact ⟨_, _, h1, h2, ⟨r, rfl, h3⟩⟩
  all_goals
    cases hx
    refine hc _ undef (by simp only [binOp_float_cmp_eql, binOp_float_cmp_neq, binOp_float_cmp_lss, binOp_float_cmp_leq, binOp_float_cmp_gtr, binOp_float_cmp_geq, Sem.run_pure]; rfl) ?_
    simp only [feq, flt, fle, fgt, fge, order_cn]
    rfl

theorem take_length {us : List Value} {o n : Nat} (h : o + n ≤ us.length) : ((us.drop o).take n).length = n := by simp; omega

theorem rowrel_seg {xs us : List Value} (h : rowrel bs xs us) {o n : Nat} (hle : o + n ≤ xs.length) : rowrel bs ((xs.drop o).take n) ((us.drop o).take n) := rowpre_part o n (rowpre_of_rowrel h) hle

/-- Where a type is no struct and no array its '==' takes one cell. -/
theorem aeq_one {n : Nat} {t : TypeId} {d : TypeDesc} {xs ys : List Value} {r : Bool} (hu : P.underlying t = some d) (hd : isAggD d = false) (h : aeq P n t xs ys = some r) : xs.length = 1 := by
  cases n with
  | zero => simp [aeq] at h
  | succ n =>
    unfold aeq at h
    rw [hu] at h
    cases d <;> simp only at h <;> first | (cases h; done) | (cases hd; done) | skip
    case bool => split at h <;> first | (cases h; done) | rfl
    case int k => split at h <;> first | (cases h; done) | rfl
    case float k => cases k <;> simp only at h <;> first | (cases h; done) | (split at h <;> first | (cases h; done) | rfl)

theorem aeq_fields {n d : Nat} {xs ys us vs : List Value} (hxs : rowrel bs xs us) (hys : rowrel bs ys vs)
    (ih : ∀ (t : TypeId) (xs ys us vs : List Value) (r : Bool) (X Y : Value), aeq P n t xs ys = some r → rowrel bs xs us → rowrel bs ys vs → IsVal P t us X → IsVal P t vs Y → (Op.equalIn d t X Y).run P w = .ok r w) :
    ∀ (l : List Field) (r : Bool), (l.foldr (fun f acc => match P.info? f.type, acc with
      | some inf, some b => cond ((f.name == "_") || (inf.size == 0) || Nat.blt xs.length (f.offset + inf.size) || Nat.blt ys.length (f.offset + inf.size)) none
          ((aeq P n f.type ((xs.drop f.offset).take inf.size) ((ys.drop f.offset).take inf.size)).map (· && b))
      | _, _ => none) (some true)) = some r → (Op.eqFields d us.toArray vs.toArray l).run P w = .ok r w
  | [], r, h => by simp at h; subst h; rfl
  | f :: l, r, h => by
    rw [List.foldr_cons] at h
    split at h
    · rename_i inf b hinf hb
      have hl := aeq_fields hxs hys ih l b hb
      cases hk : ((f.name == "_") || (inf.size == 0) || Nat.blt xs.length (f.offset + inf.size) || Nat.blt ys.length (f.offset + inf.size))
      · rw [hk] at h
        simp only [cond_false] at h
        simp only [Bool.or_eq_false_iff] at hk
        obtain ⟨⟨⟨hnm, _⟩, hx⟩, hy⟩ := hk
        have hx' : f.offset + inf.size ≤ xs.length := by
          rcases Nat.lt_or_ge xs.length (f.offset + inf.size) with h | h
          · have : Nat.blt xs.length (f.offset + inf.size) = true := Nat.ble_eq_true_of_le h
            rw [hx] at this; cases this
          · exact h
        have hy' : f.offset + inf.size ≤ ys.length := by
          rcases Nat.lt_or_ge ys.length (f.offset + inf.size) with h | h
          · have : Nat.blt ys.length (f.offset + inf.size) = true := Nat.ble_eq_true_of_le h
            rw [hy] at this; cases this
          · exact h
        cases ha : aeq P n f.type ((xs.drop f.offset).take inf.size) ((ys.drop f.offset).take inf.size) with
        | none => rw [ha] at h; cases h
        | some c =>
          rw [ha] at h
          simp only [Option.map_some, Option.some.injEq] at h
          subst h
          have hlu := rowrel_length hxs
          have hlv := rowrel_length hys
          cases hu : P.underlying f.type with
          | none =>
            cases n with
            | zero => simp [aeq] at ha
            | succ n => unfold aeq at ha; rw [hu] at ha; cases ha
          | some d' =>
            have h1 : isAggD d' = true ∨ inf.size = 1 := by
              cases hd : isAggD d'
              · have := aeq_one hu hd ha
                rw [take_length hx'] at this
                exact Or.inr this
              · exact Or.inl rfl
            obtain ⟨A, hA, hAv⟩ := part_isVal (P := P) (w := w) (us := us) (o := f.offset) hu hinf (by omega) h1
            obtain ⟨B, hB, hBv⟩ := part_isVal (P := P) (w := w) (us := vs) (o := f.offset) hu hinf (by omega) h1
            have he := ih f.type _ _ _ _ c A B ha (rowrel_seg hxs hx') (rowrel_seg hys hy') hAv hBv
            have hnm' : f.name ≠ "_" := by simpa using hnm
            simp only [Op.eqFields, hnm', ne_eq, not_false_eq_true, if_true, Sem.run_bind, hA, Result.andThen_ok, hB, he, Sem.run_ite, Sem.run_pure, hl]
            cases c <;> rfl
      · rw [hk] at h; cases h
    · cases h

/-- The elements of an array, one by one. -/
def eqElems (d : Nat) (e : TypeId) (a : Nat) (xs ys : Array Value) : List Nat → Sem Bool
  | [] => pure true
  | i :: l => do
    let x ← part e xs (i * a)
    let y ← part e ys (i * a)
    let r ← Op.equalIn d e x y
    if (!r) = true then pure false else eqElems d e a xs ys l

theorem run_equalIn_array (d : Nat) (t e : TypeId) (len : Nat) (inf : TypeInfo) (xs ys : Array Value) (hu : P.underlying t = some (.array len e)) (hi : P.info? e = some inf) :
    (Op.equalIn (d + 1) t (.agg xs) (.agg ys)).run P w = (eqElems d e inf.size xs ys (List.range len)).run P w := by
  have hsz : (Go.sizeOf e).run P w = .ok inf.size w := by simp [Go.sizeOf, typeInfo, hi]
  simp only [Op.equalIn, Sem.run_bind, run_underlying hu, Result.andThen_ok, hsz, Std.Legacy.Range.forIn_eq_forIn_range', Std.Legacy.Range.size, Nat.sub_zero, Nat.add_one_sub_one, Nat.div_one, ← List.range_eq_range']
  generalize List.range len = l
  clear hsz
  induction l generalizing w with
  | nil => simp [eqElems]
  | cons i l ih =>
    simp only [List.forIn_cons, eqElems, Sem.run_bind, Sem.run_ite]
    generalize (part e xs (i * inf.size)).run P w = r1
    cases r1 with
    | ok a w1 =>
      simp only [Result.andThen_ok]
      generalize (part e ys (i * inf.size)).run P w1 = r2
      cases r2 with
      | ok b w2 =>
        simp only [Result.andThen_ok]
        generalize (Op.equalIn d e a b).run P w2 = r3
        cases r3 with
        | ok r w3 =>
          cases r
          · simp only [Result.andThen_ok, Bool.not_false, if_true, Sem.run_pure]
          · simp only [Result.andThen_ok, Bool.not_true, Bool.false_eq_true, if_false, Sem.run_pure]
            exact ih
        | halt x w3 => simp [Result.andThen]
      | halt x w2 => simp [Result.andThen]
    | halt x w1 => simp [Result.andThen]

theorem aeq_elems {n d : Nat} {e : TypeId} {inf : TypeInfo} {xs ys us vs : List Value} (hinf : P.info? e = some inf) (hxs : rowrel bs xs us) (hys : rowrel bs ys vs)
    (ih : ∀ (t : TypeId) (xs ys us vs : List Value) (r : Bool) (X Y : Value), aeq P n t xs ys = some r → rowrel bs xs us → rowrel bs ys vs → IsVal P t us X → IsVal P t vs Y → (Op.equalIn d t X Y).run P w = .ok r w) :
    ∀ (l : List Nat) (r : Bool), (l.foldr (fun i acc => match acc with
        | some b => cond ((inf.size == 0) || Nat.blt xs.length (i * inf.size + inf.size) || Nat.blt ys.length (i * inf.size + inf.size)) none
            ((aeq P n e ((xs.drop (i * inf.size)).take inf.size) ((ys.drop (i * inf.size)).take inf.size)).map (· && b))
        | none => none) (some true)) = some r → (eqElems d e inf.size us.toArray vs.toArray l).run P w = .ok r w
  | [], r, h => by simp at h; subst h; rfl
  | i :: l, r, h => by
    rw [List.foldr_cons] at h
    split at h
    · rename_i b hb
      have hl := aeq_elems hinf hxs hys ih l b hb
      cases hk : ((inf.size == 0) || Nat.blt xs.length (i * inf.size + inf.size) || Nat.blt ys.length (i * inf.size + inf.size))
      · rw [hk] at h
        simp only [cond_false] at h
        simp only [Bool.or_eq_false_iff] at hk
        obtain ⟨⟨_, hx⟩, hy⟩ := hk
        have hx' : i * inf.size + inf.size ≤ xs.length := by
          rcases Nat.lt_or_ge xs.length (i * inf.size + inf.size) with h | h
          · have : Nat.blt xs.length (i * inf.size + inf.size) = true := Nat.ble_eq_true_of_le h
            rw [hx] at this; cases this
          · exact h
        have hy' : i * inf.size + inf.size ≤ ys.length := by
          rcases Nat.lt_or_ge ys.length (i * inf.size + inf.size) with h | h
          · have : Nat.blt ys.length (i * inf.size + inf.size) = true := Nat.ble_eq_true_of_le h
            rw [hy] at this; cases this
          · exact h
        cases ha : aeq P n e ((xs.drop (i * inf.size)).take inf.size) ((ys.drop (i * inf.size)).take inf.size) with
        | none => rw [ha] at h; cases h
        | some c =>
          rw [ha] at h
          simp only [Option.map_some, Option.some.injEq] at h
          subst h
          have hlu := rowrel_length hxs
          have hlv := rowrel_length hys
          cases hu : P.underlying e with
          | none =>
            cases n with
            | zero => simp [aeq] at ha
            | succ n => unfold aeq at ha; rw [hu] at ha; cases ha
          | some d' =>
            have h1 : isAggD d' = true ∨ inf.size = 1 := by
              cases hd : isAggD d'
              · have := aeq_one hu hd ha
                rw [take_length hx'] at this
                exact Or.inr this
              · exact Or.inl rfl
            obtain ⟨A, hA, hAv⟩ := part_isVal (P := P) (w := w) (us := us) (o := i * inf.size) hu hinf (by omega) h1
            obtain ⟨B, hB, hBv⟩ := part_isVal (P := P) (w := w) (us := vs) (o := i * inf.size) hu hinf (by omega) h1
            have he := ih e _ _ _ _ c A B ha (rowrel_seg hxs hx') (rowrel_seg hys hy') hAv hBv
            simp only [eqElems, Sem.run_bind, hA, Result.andThen_ok, hB, he, Sem.run_ite, Sem.run_pure, hl]
            cases c <;> rfl
      · rw [hk] at h; cases h
    · cases h

theorem aeq_good : ∀ (n d : Nat), n ≤ d → ∀ (t : TypeId) (xs ys us vs : List Value) (r : Bool) (X Y : Value), aeq P n t xs ys = some r → rowrel bs xs us → rowrel bs ys vs → IsVal P t us X → IsVal P t vs Y → (Op.equalIn d t X Y).run P w = .ok r w := by
  intro n
  induction n with
  | zero => intro d _ t xs ys us vs r X Y h; simp [aeq] at h
  | succ n ih =>
    intro d hd t xs ys us vs r X Y h hxs hys hX hY
    obtain ⟨d, rfl⟩ : ∃ k, d = k + 1 := ⟨d - 1, by omega⟩
    have ih' := ih d (by omega)
    unfold aeq at h
    cases hu : P.underlying t with
    | none => rw [hu] at h; cases h
    | some desc =>
      rw [hu] at h
      unfold IsVal at hX hY
      rw [hu] at hX hY
      cases desc <;> simp only at h <;> first | (cases h; done) | skip
      case struct fs =>
        simp only at hX hY
        subst hX hY
        cases hp : P.stoodInHeld t
        · rw [hp] at h
          simp only [cond_false] at h
          have hfs : P.fieldsOf t = fs := by unfold Program.fieldsOf; rw [hu]
          rw [run_equalIn_struct w d t us.toArray vs.toArray (by rw [hfs]; exact hu) hp, hfs]
          exact aeq_fields hxs hys ih' fs.toList r h
        · rw [hp] at h; cases h
      case array len e =>
        simp only at hX hY
        subst hX hY
        split at h
        · rename_i inf hinf
          rw [run_equalIn_array d t e len inf us.toArray vs.toArray hu hinf]
          exact aeq_elems hinf hxs hys ih' (List.range len) r h
        · cases h
      case float k =>
        simp only at hX hY
        subst hX hY
        cases k <;> simp only at h
        · cases h
        · split at h
          · rename_i a b
            simp only [Option.some.injEq] at h
            subst h
            obtain ⟨⟨p, rfl, rfl⟩, _⟩ := hxs
            obtain ⟨⟨q, rfl, rfl⟩, _⟩ := hys
            simp only [Op.equalIn, Sem.run_bind, run_underlying hu, Result.andThen_ok, if_true, Sem.run_pure, Op.floatEq, feq]
            rw [order_cn]
            rfl
          · cases h
      case int k =>
        simp only at hX hY
        subst hX hY
        split at h
        · rename_i k1 a k2 b
          cases hk : decide (k1 = k2)
          · rw [hk] at h; cases h
          · rw [hk] at h
            simp only [cond_true, Option.some.injEq] at h
            have hk' := of_decide_eq_true hk
            subst h hk'
            obtain ⟨h1, _⟩ := hxs
            obtain ⟨h2, _⟩ := hys
            have e1 : X = .int k1 a := h1
            have e2 : Y = .int k1 b := h2
            subst e1 e2
            exact run_equalIn_int w d t k1 k a b hu
        · cases h
      case bool =>
        simp only at hX hY
        subst hX hY
        split at h
        · rename_i a b
          simp only [Option.some.injEq] at h
          subst h
          obtain ⟨h1, _⟩ := hxs
          obtain ⟨h2, _⟩ := hys
          have e1 : X = .bool a := h1
          have e2 : Y = .bool b := h2
          subst e1 e2
          exact run_equalIn_bool' w d t a b hu
        · cases h

theorem isVal_agg {t : TypeId} {us : Array Value} (hd : isAggT P t = true) : IsVal P t us.toList (.agg us) := by
  unfold isAggT at hd
  unfold IsVal
  cases hu : P.underlying t with
  | none => rw [hu] at hd; cases hd
  | some d =>
    rw [hu] at hd
    cases d <;> simp [isAggD] at hd <;> simp

theorem agg_bin_good {op : BinOp} {t : TypeId} {y z : Operand} {xs ys : Array Value} {x u v : Value} (hx : cond (isAggT P t && !P.eqGuardType P.depth t) (match op, aeq P 8 t xs.toList ys.toList with
    | .eql, some b => some (.bool b)
    | .neq, some b => some (.bool !b)
    | _, _ => none) none = some x) (hu : vrel bs (.agg xs) u) (hv : vrel bs (.agg ys) v) :
    ∃ r w', (do eqGuard op t y z u v; binOp op t u v : Sem Value).run P w = .ok r w' ∧ (w' = w ∨ w' = w.drew) ∧ vrel bs x r := by
  cases hk : (isAggT P t && !P.eqGuardType P.depth t)
  · rw [hk] at hx; cases hx
  · rw [hk] at hx
    simp only [cond_true] at hx
    simp only [Bool.and_eq_true, Bool.not_eq_true'] at hk
    obtain ⟨hagg, hg⟩ := hk
    obtain ⟨us, rfl, hru⟩ := vrel_agg hu
    obtain ⟨vs, rfl, hrv⟩ := vrel_agg hv
    have hgr := run_eqGuard_agg (P := P) w op t y z us vs hg
    have main : ∀ b, aeq P 8 t xs.toList ys.toList = some b → (Op.equalIn 10000 t (.agg us) (.agg vs)).run P w = .ok b w := fun b hb =>
      aeq_good 8 10000 (by decide) t _ _ _ _ b _ _ hb hru hrv (isVal_agg hagg) (isVal_agg hagg)
    split at hx
    · rename_i b hb
      simp only [Option.some.injEq] at hx
      subst hx
      refine ⟨.bool b, w, ?_, Or.inl rfl, rfl⟩
      simp only [Sem.run_bind, hgr, Result.andThen_ok, run_eql_struct, main b hb]
    · rename_i b hb
      simp only [Option.some.injEq] at hx
      subst hx
      refine ⟨.bool (!b), w, ?_, Or.inl rfl, rfl⟩
      simp only [Sem.run_bind, hgr, Result.andThen_ok, run_neq_struct, main b hb]
    · cases hx

theorem eqGuard_plain {op : BinOp} {t : TypeId} {x y : Operand} {a b : Value} (h : (match a with | .nilIface => false | .agg _ => false | _ => true) = true) : (eqGuard op t x y a b).run P w = .ok () w := by
  unfold eqGuard
  cases op <;> cases a <;> first | rfl | simp at h

theorem abin_good {op : BinOp} {t : TypeId} {y z : Operand} {x a b u v : Value} (hx : abin P op t a b = some x) (hu : vrel bs a u) (hv : vrel bs b v) :
    ∃ r w', (do eqGuard op t y z u v; binOp op t u v : Sem Value).run P w = .ok r w' ∧ (w' = w ∨ w' = w.drew) ∧ vrel bs x r := by
  have plain : ∀ (_ : isPlain a = true) (_ : isPlain b = true) (_ : (pureOf P (binOp op t a b)).map canR = some x),
      ∃ r w', (do eqGuard op t y z u v; binOp op t u v : Sem Value).run P w = .ok r w' ∧ (w' = w ∨ w' = w.drew) ∧ vrel bs x r := by
    intro ha hb h
    have e1 := eq_of_plain ha hu
    have e2 := eq_of_plain hb hv
    subst e1 e2
    cases hp : pureOf P (binOp op t u v) with
    | none => simp [hp] at h
    | some r =>
      simp only [hp, Option.map_some, Option.some.injEq] at h
      refine ⟨r, w, ?_, Or.inl rfl, by rw [← h]; exact vrel_canR bs r⟩
      have hg : (eqGuard op t y z u v).run P w = .ok () w := eqGuard_plain (by cases u <;> first | rfl | simp [isPlain] at ha)
      simp only [Sem.run_bind, hg, Result.andThen_ok, run_of_pureOf w hp]
  unfold abin at hx
  split at hx
  · rename_i p q
    obtain ⟨r, w', h1, h2, h3⟩ := fbin_good (P := P) (w := w) (t := t) hx hu hv
    obtain ⟨p', rfl, _⟩ := vrel_float hu
    have hg : (eqGuard op t y z (.float .f64 p') v).run P w = .ok () w := eqGuard_plain rfl
    refine ⟨r, w', ?_, h2, h3⟩
    simp only [Sem.run_bind, hg, Result.andThen_ok, h1]
  · exact agg_bin_good hx hu hv
  · cases h1 : isPlain a
    · simp [h1] at hx
    · cases h2 : isPlain b
      · simp [h2] at hx
      · simp only [h1, h2, Bool.and_self, cond_true] at hx
        exact plain h1 h2 hx

theorem fneg_cn (p : Nat) : cn (Op.negFloat .f64 p) = fneg (cn p) := by
  have hb : Op.negFloat .f64 p = p ^^^ 9223372036854775808 := by unfold Op.negFloat; rfl
  have hm : (p ^^^ 9223372036854775808) % 9223372036854775808 = p % 9223372036854775808 := by
    rw [show (9223372036854775808 : Nat) = 2 ^ 63 from by decide]
    rw [Nat.xor_mod_two_pow, Nat.mod_self]; simp
  have hn : isNan (p ^^^ 9223372036854775808) = isNan p := by
    unfold isNan; rw [read_isNaN, read_isNaN, hm]
  rw [hb]
  unfold fneg
  rw [isNan_cn]
  cases h : isNan p
  · rw [cn_of_not (by rw [hn]; exact h), cn_of_not h]; rfl
  · rw [cn_of_nan (by rw [hn]; exact h)]; rfl

theorem aun_good {op : UnOp} {x a u : Value} (hx : aun P op a = some x) (hu : vrel bs a u) : ∃ r, (Op.unary op u).run P w = .ok r w ∧ vrel bs x r := by
  unfold aun at hx
  split at hx
  · cases hx
    obtain ⟨p, rfl, rfl⟩ := vrel_float hu
    exact ⟨_, rfl, ⟨_, rfl, fneg_cn p⟩⟩
  · cases h1 : isPlain a
    · simp [h1] at hx
    · simp only [h1, cond_true] at hx
      have e1 := eq_of_plain h1 hu
      subst e1
      cases hp : pureOf P (Op.unary op u) with
      | none => simp [hp] at hx
      | some r =>
        simp only [hp, Option.map_some, Option.some.injEq] at hx
        exact ⟨r, run_of_pureOf w hp, by rw [← hx]; exact vrel_canR bs r⟩

theorem abuild_good {t : TypeId} {s : St} {ρ : Operand → Value} {ps : Array (Nat × Operand)} {x : Value} (hρ : ∀ y, y ∈ ps.toList.map (·.2) → vrel bs (aeval s y) (ρ y))
    (hx : abuild P t (ps.toList.map fun p => (p.1, aeval s p.2)) = some x) :
    ∃ r, (Instr.build t (ps.map fun (i, y) => (i, ρ y))).run P w = .ok r w ∧ vrel bs x r := by
  unfold abuild at hx
  cases hz : pureOf P (zeroValue t) with
  | none => simp [hz] at hx
  | some z =>
    simp only [hz] at hx
    cases hk : (z.cells.toList.all (·.oneCell') && (ps.toList.map fun p => (p.1, aeval s p.2)).all (fun p => okPart p.2))
    · simp only [hk, cond_false] at hx; cases hx
    · simp only [hk, cond_true] at hx
      simp only [Bool.and_eq_true] at hk
      have hzr : rowrel bs (z.cells.map canS).toList z.cells.toList := by simpa using rowrel_canS hk.1
      have hpr : prel bs (ps.toList.map fun p => (p.1, aeval s p.2)) (ps.toList.map fun p => (p.1, ρ p.2)) := prel_of hρ hk.2
      have hps : (ps.map fun (i, y) => (i, ρ y)).toList = ps.toList.map fun p => (p.1, ρ p.2) := by simp
      have hzrun := run_of_pureOf w hz
      cases hu : P.underlying t with
      | none => simp [hu] at hx
      | some d =>
        cases d <;> simp only [hu] at hx <;> first | (cases hx; done) | skip
        case struct fields =>
          split at hx
          · rename_i places hpl
            cases hf : Instr.fill (places[·]?) (z.cells.map canS) (ps.toList.map fun p => (p.1, aeval s p.2)) with
            | none => simp [hf] at hx
            | some rs =>
              simp only [hf, Option.map_some, Option.some.injEq] at hx
              subst hx
              obtain ⟨rs', h1, h2⟩ := fill_rel _ hpr hzr hf
              refine ⟨.agg rs', ?_, ⟨rs', rfl, h2⟩⟩
              have hplrun := run_of_pureOf w hpl
              simp only [Instr.build, Sem.run_bind, hzrun, Result.andThen_ok, run_underlying hu, hplrun, hps, h1, Sem.run_pure]
          · cases hx
        case array n elem =>
          split at hx
          · rename_i size hsz
            cases hf : Instr.fill (fun i => some (i * size, size)) (z.cells.map canS) (ps.toList.map fun p => (p.1, aeval s p.2)) with
            | none => simp [hf] at hx
            | some rs =>
              simp only [hf, Option.map_some, Option.some.injEq] at hx
              subst hx
              obtain ⟨rs', h1, h2⟩ := fill_rel _ hpr hzr hf
              refine ⟨.agg rs', ?_, ⟨rs', rfl, h2⟩⟩
              have hszrun := run_of_pureOf w hsz
              simp only [Instr.build, Sem.run_bind, hzrun, Result.andThen_ok, run_underlying hu, hszrun, hps, h1, Sem.run_pure]
          · cases hx

theorem arows_get : ∀ {xs vs : List Value} {i : Nat} {x : Value}, arows bs xs vs → xs[i]? = some x → ∃ v, vs[i]? = some v ∧ arel bs x v
  | [], _, i, x, _, h => by simp at h
  | _ :: _, _ :: _, 0, x, hr, h => by simp at h; subst h; exact ⟨_, rfl, hr.1⟩
  | _ :: _, _ :: _, i + 1, x, hr, h => by simp at h; simpa using arows_get hr.2 h
  | _ :: _, [], _, _, hr, _ => hr.elim

theorem extract_good {xs : Array Value} {i : Nat} {x u : Value} (hx : xs.toList[i]? = some x) (hu : vrel bs (.tuple xs) u) : ∃ r, (Instr.extract u i).run P w = .ok r w ∧ vrel bs x r := by
  obtain ⟨vs, rfl, hr⟩ := vrel_tuple hu
  obtain ⟨v, h1, h2⟩ := arows_get hr hx
  refine ⟨v, ?_, vrel_of_arel h2⟩
  have h1' : vs[i]? = some v := by simpa using h1
  simp [Instr.extract, h1']

end

/-! ### Addresses of the first blocks alone -/
def below1 (n : Nat) : Value → Bool
  | .pointer (some a) => Nat.blt a.block n
  | .slice (some a) _ _ => Nat.blt a.block n
  | _ => true
def belowN (n : Nat) : Value → Bool
  | .agg vs => vs.toList.all (below1 n)
  | .tuple _ => false
  | v => below1 n v

theorem get_first {bs0 es : List Nat} {i b : Nat} (h : (bs0 ++ es)[i]? = some b) (hi : i < bs0.length) : bs0[i]? = some b := by
  rwa [List.getElem?_append_left hi] at h

theorem srel_below {bs0 es : List Nat} {x v : Value} (h : srel (bs0 ++ es) x v) (hb : below1 bs0.length x = true) : srel bs0 x v := by
  cases x with
  | pointer a =>
    cases a with
    | none => exact h
    | some a =>
      obtain ⟨i, o, sp⟩ := a
      cases sp with
      | none =>
        obtain ⟨b, h1, h2⟩ := h
        exact ⟨b, get_first h1 (Nat.le_of_ble_eq_true hb), h2⟩
      | some k => exact h
  | slice a l c =>
    cases a with
    | none => exact h
    | some a =>
      obtain ⟨i, o, sp⟩ := a
      cases sp with
      | none =>
        obtain ⟨b, c', h1, h2⟩ := h
        exact ⟨b, c', get_first h1 (Nat.le_of_ble_eq_true hb), h2⟩
      | some k => exact h
  | float k b => cases k <;> exact h
  | _ => exact h
theorem rowrel_below {bs0 es : List Nat} : ∀ {xs vs : List Value}, rowrel (bs0 ++ es) xs vs → xs.all (below1 bs0.length) = true → rowrel bs0 xs vs
  | [], [], _, _ => trivial
  | x :: xs, v :: vs, h, hb => by
    simp only [List.all_cons, Bool.and_eq_true] at hb
    exact ⟨srel_below h.1 hb.1, rowrel_below h.2 hb.2⟩
  | [], _ :: _, h, _ => h.elim
  | _ :: _, [], h, _ => h.elim
theorem vrel_below {bs0 es : List Nat} {x v : Value} (h : vrel (bs0 ++ es) x v) (hb : belowN bs0.length x = true) : vrel bs0 x v := by
  cases x with
  | agg xs => obtain ⟨vs, e, hr⟩ := vrel_agg h; exact ⟨vs, e, rowrel_below hr hb⟩
  | tuple vs => cases hb
  | map r => exact trivial
  | pointer a => exact srel_below (x := .pointer a) h hb
  | slice a l c => exact srel_below (x := .slice a l c) h hb
  | float k b => cases k <;> exact h
  | _ => exact h
theorem vrows_below {bs0 es : List Nat} : ∀ {xs vs : List Value}, vrows (bs0 ++ es) xs vs → xs.all (belowN bs0.length) = true → vrows bs0 xs vs
  | [], [], _, _ => trivial
  | x :: xs, v :: vs, h, hb => by
    simp only [List.all_cons, Bool.and_eq_true] at hb
    exact ⟨vrel_below h.1 hb.1, vrows_below h.2 hb.2⟩
  | [], _ :: _, h, _ => h.elim
  | _ :: _, [], h, _ => h.elim

/-- No argument of a call is an address beyond the first blocks. -/
def callBelow (n : Nat) (s : St) (o : Oper) : Bool :=
  match o.op with
  | .call c => c.args.toList.all (fun y => belowN n (aeval s y))
  | _ => true

theorem aval_good {P : Program} {T : Tab} {bs bs0 es : List Nat} {s : St} {w : World} {ρ : Operand → Value} {o : Oper} {x : Value} (hT : TOk P T) (hm : MemRel bs0 s.mem w) (hbs : bs = bs0 ++ es) (hcb : es = [] ∨ callBelow bs0.length s o = true) (hf : ∀ f, ρ (.func f) = .func (.func f) #[] #[])
    (hρ : ∀ y, y ∈ o.op.operands.toList → vrel bs (aeval s y) (ρ y)) (h : aval P T s o = some x) : Good P bs w x ((execOp ρ o).run P w) := by
  obtain ⟨dst, op, type, pos, after, guard⟩ := o
  cases op <;> simp only [aval] at h <;> first | (cases h; done) | skip
  case move y => cases h; exact ⟨hρ y (by simp [Op.operands]), Or.inl rfl⟩
  case assign y => cases h; exact ⟨hρ y (by simp [Op.operands]), Or.inl rfl⟩
  case load t y =>
    split at h
    · rename_i i off ha
      split at h
      · rename_i cells hc
        have hv := hρ y (by simp [Op.operands])
        rw [ha, hbs] at hv
        have hi : i < bs0.length := by rw [hm.1]; exact (List.getElem?_eq_some_iff.1 hc).1
        obtain ⟨b, hb, hve⟩ := vrel_pointer hv
        obtain ⟨u, h1, h2⟩ := load_good (P := P) (w := w) hm hc h (v := ρ y) ⟨b, get_first hb hi, hve⟩
        simp only [execOp, Sem.run_bind, h1, Result.andThen_ok, Sem.run_pure]
        exact ⟨by rw [hbs]; exact vrel_more es h2, Or.inl rfl⟩
      · cases h
    · cases h
  case fieldAddr t y f =>
    split at h
    · rename_i i off ha
      obtain ⟨u, h1, h2⟩ := field_good (P := P) (w := w) h (by rw [← ha]; exact hρ y (by simp [Op.operands]))
      simp only [execOp, Sem.run_bind, h1, Result.andThen_ok, Sem.run_pure]
      exact ⟨h2, Or.inl rfl⟩
    · cases h
  case indexAddr t y z =>
    obtain ⟨r, h1, h2⟩ := index_good (P := P) (w := w) h (hρ y (by simp [Op.operands])) (hρ z (by simp [Op.operands]))
    simp only [execOp, Sem.run_bind, h1, Result.andThen_ok, Sem.run_pure]
    exact ⟨h2, Or.inl rfl⟩
  case index t y z =>
    obtain ⟨r, h1, h2⟩ := elem_good (P := P) (w := w) h (hρ y (by simp [Op.operands])) (hρ z (by simp [Op.operands]))
    simp only [execOp, Sem.run_bind, h1, Result.andThen_ok, Sem.run_pure]
    exact ⟨h2, Or.inl rfl⟩
  case field t y f =>
    obtain ⟨r, h1, h2⟩ := pickf_good (P := P) (w := w) h (hρ y (by simp [Op.operands]))
    simp only [execOp, Sem.run_bind, h1, Result.andThen_ok, Sem.run_pure]
    exact ⟨h2, Or.inl rfl⟩
  case binOp op t y z t2 =>
    obtain ⟨r, w', h1, h2, h3⟩ := abin_good (P := P) (w := w) (y := y) (z := z) h (hρ y (by simp [Op.operands])) (hρ z (by simp [Op.operands]))
    simp only [execOp, Sem.run_bind] at h1 ⊢
    rw [h1]
    exact ⟨h3, h2⟩
  case unOp op t y =>
    obtain ⟨r, h1, h2⟩ := aun_good (P := P) (w := w) h (hρ y (by simp [Op.operands]))
    simp only [execOp, Sem.run_bind, h1, Result.andThen_ok, Sem.run_pure]
    exact ⟨h2, Or.inl rfl⟩
  case build t ps =>
    obtain ⟨r, h1, h2⟩ := abuild_good (P := P) (w := w) (s := s) (ρ := ρ) (fun y hy => hρ y (by simpa [Op.operands] using hy)) h
    simp only [execOp, Sem.run_bind, h1, Result.andThen_ok, Sem.run_pure]
    exact ⟨h2, Or.inl rfl⟩
  case extract y i =>
    split at h
    · rename_i vs ha
      obtain ⟨r, h1, h2⟩ := extract_good (P := P) (w := w) h (by rw [← ha]; exact hρ y (by simp [Op.operands]))
      simp only [execOp, Sem.run_bind, h1, Result.andThen_ok, Sem.run_pure]
      exact ⟨h2, Or.inl rfl⟩
    · cases h
  case call c =>
    split at h
    · rename_i f hc
      have hs := hT f s.mem _ x h
      obtain ⟨callee, args, argTypes⟩ := c
      simp only at hc
      subst hc
      have hargs : vrows bs (args.toList.map (aeval s)) (args.map ρ).toList := by
        have := vrows_of (bs := bs) (s := s) (ρ := ρ) (ys := args.toList) (fun y hy => hρ y (by simp [Op.operands, Call.operands]; exact Or.inr (by simpa using hy)))
        simpa using this
      rcases hs with ⟨⟨fn, h1, h2, h3⟩, h4⟩ | hs
      · have hargs0 : vrows bs0 (args.toList.map (aeval s)) (args.map ρ).toList := by
          rw [hbs] at hargs
          rcases hcb with rfl | hcb
          · simpa using hargs
          · refine vrows_below hargs ?_
            simp only [callBelow] at hcb
            rw [List.all_map]; exact hcb
        have hr := (h4 bs0 w (args.map ρ) hm hargs0).mono (R' := fun e w'' => ∃ v, e = .returned v ∧ vrel bs x v ∧ Below w.heap.size w w'') fun e w' ⟨v, g1, g2, g3⟩ => ⟨v, g1, by rw [hbs]; exact vrel_more es g2, g3⟩
        simp only [execOp, resolve, hf, Deferred.ofValue, Sem.run_bind, Sem.run_pure, Result.andThen_ok, invoke, callFunc, run_program, h1, h2, h3, Array.append_empty, Array.empty_append, Bool.false_eq_true, if_false]
        exact ⟨rfl, hr⟩
      · obtain ⟨u, w', h1, h2, h3⟩ := hs bs w (args.map ρ) hargs
        simp only [execOp, resolve, hf, Deferred.ofValue, Sem.run_bind, Sem.run_pure, Result.andThen_ok, invoke, Array.append_empty, Array.empty_append, h1]
        exact ⟨h3, h2⟩
    · cases h

end Go.Ev
