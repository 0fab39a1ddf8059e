/-
  A law's arguments as they are read, slices among them: what is known of them.
-/
import Derived.Test.YtefphimaggjihaaGreatDoorC8
import Derived.Test.YtefphimaggjihaaGreatDoorC16
namespace Go.Gv
open Go.RowKit Go.ChangeShapes Go.WideShapes Go.ChangeAt
open Go.Ev (cn inRow catAll)
noncomputable section

/-- What kind of thing a cell holds. -/
inductive Kd where
  | b
  | i (k : IntKind)
  | f
  | s
  | l (sz : Nat) (ks : List Kd)
mutual
def fitA : Kd → AV → Prop
  | .b, a => ∃ x, a = .x (.bool x)
  | .i k, a => ∃ n, a = .x (.int k n) ∧ (Lit.int k n).wf = true
  | .f, a => ∃ n, a = .f (cn n) ∧ (Lit.float .f64 n).wf = true
  | .s, a => ∃ s : ByteArray, a = .x (.string s) ∧ s.size ≤ maxLen
  | .l sz ks, a => ∃ n el, a = .sl sz n el ∧ n ≤ maxLen ∧ ∀ i, i < n → fitL ks (el i)
def fitL : List Kd → List AV → Prop
  | [], [] => True
  | k :: ks, a :: as => fitA k a ∧ fitL ks as
  | _, _ => False
end
theorem fitL_cons {k : Kd} {ks : List Kd} {a : AV} {as : List AV} : fitL (k :: ks) (a :: as) ↔ fitA k a ∧ fitL ks as := by rw [fitL]
theorem fitL_nil : fitL [] [] := by rw [fitL]; trivial
theorem fitL_append : ∀ {ks : List Kd} {as : List AV} {ks' : List Kd} {as' : List AV}, fitL ks as → fitL ks' as' → fitL (ks ++ ks') (as ++ as')
  | [], [], _, _, _, h => h
  | k :: ks, a :: as, _, _, h, h' => by
    have h := fitL_cons.1 h
    exact fitL_cons.2 ⟨h.1, fitL_append h.2 h'⟩
  | [], _ :: _, _, _, h, _ => by rw [fitL] at h; exact h.elim; all_goals (intros; simp_all)
  | _ :: _, [], _, _, h, _ => by rw [fitL] at h; exact h.elim; all_goals (intros; simp_all)
theorem fitL_length : ∀ {ks : List Kd} {as : List AV}, fitL ks as → ks.length = as.length
  | [], [], _ => rfl
  | k :: ks, a :: as, h => by simp [fitL_length (fitL_cons.1 h).2]
  | [], _ :: _, h => by rw [fitL] at h; exact h.elim; all_goals (intros; simp_all)
  | _ :: _, [], h => by rw [fitL] at h; exact h.elim; all_goals (intros; simp_all)
def kd1 : TypeDesc → Option Kd
  | .bool => some .b
  | .int k => some (.i k)
  | .float .f64 => some .f
  | .string => some .s
  | _ => none
def kds (P : Program) : Nat → TypeId → Option (List Kd)
  | 0, _ => none
  | fuel + 1, t => match P.underlying t with
    | some (.struct fs) => cond (inRow P 0 fs.toList) (match catAll (fs.toList.map fun f => kds P fuel f.type) with
      | some ks => cond (ks.length == P.cellsOf t) (some ks) none
      | none => none) none
    | some (.array n e) => match catAll (List.replicate n (kds P fuel e)) with
      | some ks => cond (ks.length == P.cellsOf t) (some ks) none
      | none => none
    | some (.slice e) => match kds P fuel e with
      | some ks => cond ((P.cellsOf t == 1) && (Nat.blt 0 ks.length && (ks.length == P.cellsOf e))) (some [.l (P.cellsOf e) ks]) none
      | none => none
    | some d => match kd1 d with
      | some k => cond (P.cellsOf t == 1) (some [k]) none
      | none => none
    | none => none
theorem cond_fin' {α : Type} {b : Bool} {x y : α} (h : cond b (some x) none = some y) : b = true ∧ x = y := by
  cases b
  · cases h
  · exact ⟨rfl, by simpa using h⟩
theorem kds_length {P : Program} {n : Nat} {t : TypeId} {ks : List Kd} (h : kds P n t = some ks) : ks.length = P.cellsOf t := by
  cases n with
  | zero => simp [kds] at h
  | succ n =>
    unfold kds at h
    split at h
    · rename_i fs _
      cases hr : inRow P 0 fs.toList
      · rw [hr] at h; cases h
      · rw [hr] at h
        simp only [cond_true] at h
        split at h
        · obtain ⟨h1, rfl⟩ := cond_fin' h; simpa using h1
        · cases h
    · split at h
      · obtain ⟨h1, rfl⟩ := cond_fin' h; simpa using h1
      · cases h
    · split at h
      · obtain ⟨h1, rfl⟩ := cond_fin' h
        simp only [Bool.and_eq_true, beq_iff_eq] at h1
        simp [h1.1]
      · cases h
    · split at h
      · obtain ⟨h1, rfl⟩ := cond_fin' h
        have : P.cellsOf t = 1 := by simpa using h1
        simp [this]
      · cases h
    · cases h

section
variable {H : Type} {enc : TypeId × Value → H} {P : Program} {w : World} {base : Nat} {spare : Nat → Bool} {held : Bool}
/-- The world as it came in: nothing is written. -/
def Env.all (w : World) : Env := ⟨w, fun _ => False, fun _ => none⟩
theorem rels_append {E : Env} : ∀ {xs ys : List AV} {us vs : List Value}, rels E xs us → rels E ys vs → rels E (xs ++ ys) (us ++ vs)
  | [], _, us, _, h, h' => by rw [rels_nil.1 h]; exact h'
  | x :: xs, _, us, _, h, h' => by
    obtain ⟨u, us', rfl, h1, h2⟩ := rels_cons.1 h
    exact rels_cons.2 ⟨u, _, rfl, h1, rels_append h2 h'⟩
theorem fit_fields {cs : List Value} {n : Nat} : ∀ (l : List Field) (o : Nat) (ks : List Kd), inRow P o l = true → catAll (l.map fun f => kds P n f.type) = some ks →
    (∀ f, f ∈ l → ∀ kf, kds P n f.type = some kf → ∃ as, fitL kf as ∧ rels (Env.all w) as ((cs.drop f.offset).take (P.cellsOf f.type))) → cs.length = o + ks.length → ∃ as, fitL ks as ∧ rels (Env.all w) as (cs.drop o)
  | [], o, ks, _, hc, _, hl => by
    simp [catAll] at hc; subst hc
    rw [List.drop_eq_nil_of_le (by simp at hl; omega)]
    exact ⟨[], fitL_nil, rels_nil.2 rfl⟩
  | f :: l, o, ks, hr, hc, hm, hl => by
    simp only [inRow, Bool.and_eq_true] at hr
    have ho : f.offset = o := by simpa using hr.1
    simp only [List.map_cons] at hc
    cases hf : kds P n f.type with
    | none => rw [hf] at hc; simp [catAll] at hc
    | some kf =>
      rw [hf] at hc
      simp only [catAll] at hc
      cases hcl2 : catAll (l.map fun f => kds P n f.type) with
      | none => rw [hcl2] at hc; cases hc
      | some kl =>
        rw [hcl2] at hc
        simp only [Option.map_some, Option.some.injEq] at hc
        subst hc
        obtain ⟨a1, f1, g1⟩ := hm f (by simp) kf hf
        rw [ho] at g1
        have hkf := kds_length hf
        simp only [List.length_append] at hl
        obtain ⟨a2, f2, g2⟩ := fit_fields l (o + P.cellsOf f.type) kl hr.2 hcl2 (fun g hg => hm g (by simp [hg])) (by omega)
        have hsplit : cs.drop o = (cs.drop o).take (P.cellsOf f.type) ++ cs.drop (o + P.cellsOf f.type) := by
          rw [← List.drop_drop, List.take_append_drop]
        rw [hsplit]
        exact ⟨a1 ++ a2, fitL_append f1 f2, rels_append g1 g2⟩
theorem fit_elems {cs : List Value} {n : Nat} {e : TypeId} : ∀ (k o : Nat) (ks : List Kd), catAll (List.replicate k (kds P n e)) = some ks →
    (∀ i, o ≤ i → i < o + k → ∀ kf, kds P n e = some kf → ∃ as, fitL kf as ∧ rels (Env.all w) as ((cs.drop (i * P.cellsOf e)).take (P.cellsOf e))) → cs.length = o * P.cellsOf e + ks.length → ∃ as, fitL ks as ∧ rels (Env.all w) as (cs.drop (o * P.cellsOf e))
  | 0, o, ks, hc, _, hl => by
    simp [catAll] at hc; subst hc
    rw [List.drop_eq_nil_of_le (by simp at hl; omega)]
    exact ⟨[], fitL_nil, rels_nil.2 rfl⟩
  | k + 1, o, ks, hc, hm, hl => by
    simp only [List.replicate_succ] at hc
    cases hf : kds P n e with
    | none => rw [hf] at hc; simp [catAll] at hc
    | some kf =>
      rw [hf] at hc
      simp only [catAll] at hc
      rw [← hf] at hc
      cases hcl2 : catAll (List.replicate k (kds P n e)) with
      | none => rw [hcl2] at hc; cases hc
      | some kl =>
        rw [hcl2] at hc
        simp only [Option.map_some, Option.some.injEq] at hc
        subst hc
        obtain ⟨a1, f1, g1⟩ := hm o (by omega) (by omega) kf hf
        have hkf := kds_length hf
        simp only [List.length_append] at hl
        have hmul : (o + 1) * P.cellsOf e = o * P.cellsOf e + P.cellsOf e := Nat.succ_mul o _
        obtain ⟨a2, f2, g2⟩ := fit_elems k (o + 1) kl hcl2 (fun i h1 h2 => hm i (by omega) (by omega)) (by rw [hmul]; omega)
        have hsplit : cs.drop (o * P.cellsOf e) = (cs.drop (o * P.cellsOf e)).take (P.cellsOf e) ++ cs.drop ((o + 1) * P.cellsOf e) := by
          rw [hmul, ← List.drop_drop, List.take_append_drop]
        rw [hsplit]
        exact ⟨a1 ++ a2, fitL_append f1 f2, rels_append g1 g2⟩
theorem addr_add (b o i : Nat) : (⟨b, o, none⟩ : Addr).add i = ⟨b, o + i, none⟩ := by unfold Addr.add; split <;> simp_all
theorem cell_plain {a : Addr} {v : Value} (h : w.cell? a = some v) : ∃ cs e fz, a.spot = none ∧ w.heap[a.block]? = some (.cells cs e fz) ∧ cs.toList[a.off]? = some v := by
  obtain ⟨b, o, sp⟩ := a
  unfold World.cell? at h
  split at h
  · rename_i cs e fz hh
    cases sp with
    | none =>
      simp only [Option.isSome_none, Bool.false_eq_true, if_false] at h
      exact ⟨cs, e, fz, rfl, hh, by simpa using h⟩
    | some k => simp at h
  · cases h
theorem open_data : ∀ (n : Nat) (fuel : Nat) {t : TypeId} {cs : List Value} {y : DataW H × List MemPlace} {ks : List Kd},
    DataW.trod enc P w base spare held fuel t cs = some y → kds P n t = some ks → ∃ as, fitL ks as ∧ rels (Env.all w) as cs := by
  classical
  intro n
  induction n with
  | zero => intro fuel t cs y ks _ h; simp [kds] at h
  | succ n ih =>
    intro fuel t cs y ks hd hk
    have hklen := kds_length hk
    unfold kds at hk
    cases hu : P.underlying t with
    | none => rw [hu] at hk; cases hk
    | some d =>
      rw [hu] at hk
      have one : ∀ (_ : (match kd1 d with | some k => cond (P.cellsOf t == 1) (some [k]) none | none => none) = some ks), ∃ as, fitL ks as ∧ rels (Env.all w) as cs := by
        intro hk
        split at hk
        · rename_i k hkd
          obtain ⟨_, rfl⟩ := cond_fin' hk
          have wrap : ∀ {v : Value} {a : AV}, cs = [v] → fitA k a → rel (Env.all w) a v → ∃ as, fitL [k] as ∧ rels (Env.all w) as cs := fun e h1 h2 => ⟨[_], fitL_cons.2 ⟨h1, fitL_nil⟩, by rw [e]; exact rels_cons.2 ⟨_, [], rfl, h2, rels_nil.2 rfl⟩⟩
          cases d <;> simp only [kd1] at hkd <;> first | (cases hkd; done) | skip
          · cases hkd
            obtain ⟨b, e⟩ := Go.Ev.trod_bool' hu hd
            exact wrap e (by rw [fitA]; exact ⟨b, rfl⟩) (rel_x.2 rfl)
          · cases hkd
            obtain ⟨b, e, hw⟩ := Go.Ev.trod_int' hu hd
            exact wrap e (by rw [fitA]; exact ⟨b, rfl, hw⟩) (rel_x.2 rfl)
          · rename_i fk
            cases fk <;> simp only at hkd <;> first | (cases hkd; done) | skip
            cases hkd
            obtain ⟨b, e, hw⟩ := Go.Ev.trod_float' hu hd
            exact wrap e (by rw [fitA]; exact ⟨b, rfl, hw⟩) (by show relA _ _ _; rw [relA]; exact ⟨b, rfl, rfl⟩)
          · cases hkd
            obtain ⟨b, e, hw⟩ := Go.Ev.trod_string' hu hd
            exact wrap e (by rw [fitA]; exact ⟨b, rfl, hw⟩) (rel_x.2 rfl)
        · cases hk
      cases d
      case struct fs =>
        obtain ⟨xs, m, rfl, _, hcl, hxl, hf⟩ := DataW.trod_struct hu hd
        simp only at hk
        cases hrow : inRow P 0 fs.toList
        · rw [hrow] at hk; cases hk
        · rw [hrow] at hk
          simp only [cond_true] at hk
          split at hk
          · rename_i ks' hcat
            obtain ⟨_, rfl⟩ := cond_fin' hk
            have := fit_fields (w := w) (cs := cs) fs.toList 0 ks' hrow hcat (fun f hfm kf hkf => by
              obtain ⟨i, hi, rfl⟩ := List.mem_iff_getElem.1 hfm
              have hi' : i < fs.size := by simpa using hi
              have h1 := hf i fs[i] (Array.getElem?_eq_getElem hi')
              have h2 : xs[i]? = some xs[i] := List.getElem?_eq_getElem (by omega)
              rw [h2] at h1
              exact ih m h1 hkf) (by omega)
            simpa using this
          · cases hk
      case array k e =>
        obtain ⟨xs, m, rfl, _, hcl, hxl, hf⟩ := DataW.trod_array hu hd
        simp only at hk
        split at hk
        · rename_i ks' hcat
          obtain ⟨_, rfl⟩ := cond_fin' hk
          have := fit_elems (w := w) (cs := cs) k 0 ks' hcat (fun i _ hi kf hkf => by
            have h1 := hf i (by omega)
            have h2 : xs[i]? = some xs[i] := List.getElem?_eq_getElem (by omega)
            rw [h2] at h1
            exact ih m h1 hkf) (by simp; omega)
          simpa using this
        · cases hk
      case slice e =>
        simp only at hk
        split at hk
        · rename_i ke hke
          obtain ⟨hcond, rfl⟩ := cond_fin' hk
          simp only [Bool.and_eq_true, beq_iff_eq] at hcond
          obtain ⟨hc1, hpos, hlen⟩ := hcond
          have hpos : 0 < ke.length := Nat.le_of_ble_eq_true hpos
          have wrap : ∀ {v : Value} {a : AV}, cs = [v] → fitA (.l (P.cellsOf e) ke) a → rel (Env.all w) a v → ∃ as, fitL [Kd.l (P.cellsOf e) ke] as ∧ rels (Env.all w) as cs := fun e h1 h2 => ⟨[_], fitL_cons.2 ⟨h1, fitL_nil⟩, by rw [e]; exact rels_cons.2 ⟨_, [], rfl, h2, rels_nil.2 rfl⟩⟩
          rcases DataW.trod_slice hu hd with ⟨hcs, _⟩ | ⟨a, len, cap, elems, rest, m, _, hcs, _, hb, hl, hm, hel, hall, _, _⟩
          · exact wrap (a := .sl (P.cellsOf e) 0 (fun _ => [])) hcs (by rw [fitA]; exact ⟨0, _, rfl, Nat.zero_le _, fun i hi => by omega⟩) (by show relA _ _ _; rw [relA]; exact ⟨none, 0, rfl, Nat.le_refl _, Or.inl rfl⟩)
          · by_cases hz : len = 0
            · subst hz
              exact wrap (a := .sl (P.cellsOf e) 0 (fun _ => [])) hcs (by rw [fitA]; exact ⟨0, _, rfl, Nat.zero_le _, fun i hi => by omega⟩) (by show relA _ _ _; rw [relA]; exact ⟨_, cap, rfl, Nat.zero_le _, Or.inl rfl⟩)
            · have each : ∀ i, i < len → ∃ as us, fitL ke as ∧ rels (Env.all w) as us ∧ w.cells? base (a.add (i * P.cellsOf e)) (P.cellsOf e) = some us := fun i hi => by
                have h1 := hall i hi
                have h2 : elems[i]? = some elems[i] := List.getElem?_eq_getElem (by omega)
                rw [h2, Option.bind_eq_some_iff] at h1
                obtain ⟨us, hus, htr⟩ := h1
                obtain ⟨as, g1, g2⟩ := ih m htr hke
                exact ⟨as, us, g1, g2, hus⟩
              obtain ⟨_, us0, _, _, hus0⟩ := each 0 (by omega)
              have c0 := (World.cells?_some hus0).2.2 0 (by omega)
              have hz0 : us0[0]? = some (us0[0]'(by have := (World.cells?_some hus0).2.1; omega)) := List.getElem?_eq_getElem _
              rw [hz0] at c0
              obtain ⟨bcs, be, bfz, hsub, hheap, _⟩ := cell_plain c0
              obtain ⟨b, o, sp⟩ := a
              have hsp : sp = none := by
                cases sp with
                | none => rfl
                | some k => simp [Addr.add] at hsub
              subst hsp
              have hblk : ((⟨b, o, none⟩ : Addr).add (0 * P.cellsOf e)).add 0 = ⟨b, o, none⟩ := by rw [addr_add, addr_add]; simp
              rw [hblk] at hheap
              simp only at hheap
              let el : Nat → List AV := fun i => if h : i < len then (each i h).choose else []
              have elp : ∀ i (h : i < len), ∃ us, fitL ke (el i) ∧ rels (Env.all w) (el i) us ∧ w.cells? base ((⟨b, o, none⟩ : Addr).add (i * P.cellsOf e)) (P.cellsOf e) = some us := fun i h => by
                simp only [el, h, dif_pos]
                exact (each i h).choose_spec
              refine wrap (a := .sl (P.cellsOf e) len el) hcs ?_ ?_
              · rw [fitA]
                exact ⟨len, el, rfl, Nat.le_trans hl hm, fun i hi => (elp i hi).choose_spec.1⟩
              · show relA _ _ _
                rw [relA]
                refine ⟨_, cap, rfl, hl, Or.inr ⟨b, o, bcs, be, bfz, rfl, fun h => h, hheap, fun i hi => ?_⟩⟩
                obtain ⟨us, g1, g2, g3⟩ := elp i hi
                have hul := (World.cells?_some g3).2.1
                have hel2 := rels_length g2
                refine ⟨by rw [hel2]; exact hul, ?_⟩
                refine pre_congr (E := (Env.all w).fz) (pre_of_rels g2) fun j hj => ?_
                have hcj := (World.cells?_some g3).2.2 j (by omega)
                have hj0 : us[j]? = some (us[j]'(by omega)) := List.getElem?_eq_getElem _
                rw [hj0] at hcj ⊢
                obtain ⟨bcs', be', bfz', _, hh', hv'⟩ := cell_plain hcj
                rw [addr_add, addr_add] at hh' hv'
                simp only at hh' hv'
                rw [hheap] at hh'
                cases hh'
                rw [List.getElem?_drop]
                exact hv'
        · cases hk
      all_goals exact one hk
/-- One argument that came in. -/
theorem open_arg {n fuel : Nat} {t : TypeId} {v : Value} {y : DataW H × List MemPlace} {k : Kd} (h : DataW.trod enc P w base spare held fuel t v.cells.toList = some y) (hk : kds P n t = some [k]) (hone : v.cells = #[v]) : ∃ a, fitA k a ∧ rel (Env.all w) a v := by
  obtain ⟨as, h1, h2⟩ := open_data n fuel h hk
  rw [hone] at h2
  match as, h1, h2 with
  | [a], h1, h2 =>
    obtain ⟨u, us, e, h3, _⟩ := rels_cons.1 h2
    simp at e
    rw [e.1]
    exact ⟨a, (fitL_cons.1 h1).1, h3⟩
  | [], h1, _ => have := fitL_length h1; simp at this
  | _ :: _ :: _, h1, _ => have := fitL_length h1; simp at this
end
end
end Go.Gv
