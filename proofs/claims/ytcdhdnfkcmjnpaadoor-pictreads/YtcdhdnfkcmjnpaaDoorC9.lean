/-
  From a law's contract to its row: the arguments as they are read; that they read behind the call as they did.
-/
import Derived.Test.YtcdhdnfkcmjnpaaDoorC4
import Derived.ProofKit
import Derived.OpenShut
namespace Go.Ev
open Go.RowKit Go.ChangeShapes Go.WideShapes Go.ChangeAt

section
variable {H : Type} {enc : TypeId × Value → H} {P : Program}

theorem below_trodAll (hl : laidOutB P = true) {W W' : World} (hb : Below W.heap.size W W') : ∀ {ts : List TypeId} {vs : List Value} {ds : List (DataW H)} {p : List MemPlace}, (ts.all fun t => P.readableRec t && decide (t < P.types.size)) = true →
    DataW.TrodAll enc P W 0 (fun _ => true) true ts vs ds p → (∀ x ∈ p, x.block < W.heap.size) → DataW.TrodAll enc P W' 0 (fun b => decide (b < W.heap.size)) true ts vs ds p
  | [], [], [], _, _, h, _ => h
  | t :: ts, v :: vs, d :: ds, p, ht, h, hlt => by
    obtain ⟨p1, q1, h1, h2, rfl⟩ := h
    simp only [List.all_cons, Bool.and_eq_true] at ht
    exact ⟨p1, q1, Below.trod hl ht.1.1 (of_decide_eq_true ht.1.2) h1 hb (fun x hx => hlt x (List.mem_append_left _ hx)), below_trodAll hl hb ht.2 h2 (fun x hx => hlt x (List.mem_append_right _ hx)), rfl⟩
  | [], _ :: _, _, _, _, h, _ => by simp [DataW.TrodAll] at h
  | [], [], _ :: _, _, _, h, _ => by simp [DataW.TrodAll] at h
  | _ :: _, [], _, _, _, h, _ => by simp [DataW.TrodAll] at h
  | _ :: _, _ :: _, [], _, _, h, _ => by simp [DataW.TrodAll] at h

/-- A law has returned true, and nothing that was there is changed: what its row asks. -/
theorem law_post {fn : Func} {s : ChangeSpec} {W W' : World} {args : Array Value} {ds gs : List (DataW H)} {before : List MemPlace} {tb : TypeId} (hl : laidOutB P = true) (hts : (fn.params.toList.all fun t => P.readableRec t && decide (t < P.types.size)) = true)
    (hv : s.vars = []) (hr : fn.resultTypes = #[tb]) (hbool : P.underlying tb = some .bool) (hfn : s.fn H (ds ++ gs) = { results := [.lit (.bool true)], args := ds }) (hW : DataW.Whole enc P fn.params.toList s.vars false W args.toList ds gs before)
    (hb : Below W.heap.size W W') : s.post enc P fn false true false false W args (.bool true) W' := by
  have hW' := hW
  obtain ⟨p, q, hA, hV, rfl, hfz, hnd⟩ := hW
  rw [hv] at hV
  obtain ⟨rfl, rfl⟩ := trodVars_none hV
  refine ⟨ds, [], p ++ [], [], p, [], hW', ?_, ?_, ?_, hb.frame _, fun h => by cases h⟩
  · rw [hfn, hr]
    exact trodAll_mk1 (shut_bool hbool true)
  · rw [hfn]
    exact below_trodAll hl hb hts hA (fun x hx => by simpa using hW'.lt x (by simpa using hx))
  · rw [hfn, hv]
    exact rfl

/-! ### Arguments without addresses, cell by cell -/
def kindOf : TypeDesc → Option Value
  | .bool => some (.bool false)
  | .int k => some (.int k 0)
  | .float k => some (.float k 0)
  | .string => some (.string ⟨#[]⟩)
  | _ => none

def fits : Value → Value → Prop
  | .bool _, v => ∃ b, v = .bool b
  | .int k _, v => ∃ n, v = .int k n ∧ (Lit.int k n).wf = true
  | .float k _, v => ∃ b, v = .float k b ∧ (Lit.float k b).wf = true
  | .string _, v => ∃ s, v = .string s ∧ s.size ≤ maxLen
  | _, _ => False

def fitsAll : List Value → List Value → Prop
  | [], [] => True
  | k :: ks, v :: vs => fits k v ∧ fitsAll ks vs
  | _, _ => False

def catAll {α : Type} : List (Option (List α)) → Option (List α)
  | [] => some []
  | some a :: l => (catAll l).map (a ++ ·)
  | none :: _ => none

/-- Do the fields lie one behind the other? -/
def inRow (P : Program) : Nat → List Field → Bool
  | _, [] => true
  | o, f :: fs => (f.offset == o) && inRow P (o + P.cellsOf f.type) fs

def flatKinds (P : Program) : Nat → TypeId → Option (List Value)
  | 0, _ => none
  | fuel + 1, t => match P.underlying t with
    | some (.struct fs) => cond (inRow P 0 fs.toList) (match catAll (fs.toList.map fun f => flatKinds P fuel f.type) with
      | some ks => cond (ks.length == P.cellsOf t) (some ks) none
      | none => none) none
    | some (.array n e) => match catAll (List.replicate n (flatKinds P fuel e)) with
      | some ks => cond (ks.length == P.cellsOf t) (some ks) none
      | none => none
    | some d => match kindOf d with
      | some k => cond (P.cellsOf t == 1) (some [k]) none
      | none => none
    | none => none

theorem flatKinds_length {n : Nat} {t : TypeId} {ks : List Value} (h : flatKinds P n t = some ks) : ks.length = P.cellsOf t := by
  cases n with
  | zero => simp [flatKinds] at h
  | succ n =>
    unfold flatKinds at h
    have fin : ∀ {b : Bool} {x y : List Value}, cond b (some x) none = some y → b = true ∧ x = y := fun {b x y} h => by
      cases b
      · cases h
      · exact ⟨rfl, by simpa using h⟩
    split at h
    · rename_i fs _
      cases hr : inRow P 0 fs.toList
      · rw [hr] at h; cases h
      · rw [hr] at h
        simp only [cond_true] at h
        split at h
        · obtain ⟨h1, rfl⟩ := fin h; simpa using h1
        · cases h
    · split at h
      · obtain ⟨h1, rfl⟩ := fin h; simpa using h1
      · cases h
    · split at h
      · obtain ⟨h1, rfl⟩ := fin h; have : P.cellsOf t = 1 := by simpa using h1
        simp [this]
      · cases h
    · cases h

theorem fitsAll_length : ∀ {ks vs : List Value}, fitsAll ks vs → ks.length = vs.length
  | [], [], _ => rfl
  | _ :: _, _ :: _, h => by simp [fitsAll_length h.2]
  | [], _ :: _, h => h.elim
  | _ :: _, [], h => h.elim
theorem fitsAll_append : ∀ {ks vs ks' vs' : List Value}, fitsAll ks vs → fitsAll ks' vs' → fitsAll (ks ++ ks') (vs ++ vs')
  | [], [], _, _, _, h => h
  | _ :: _, _ :: _, _, _, h, h' => ⟨h.1, fitsAll_append h.2 h'⟩
  | [], _ :: _, _, _, h, _ => h.elim
  | _ :: _, [], _, _, h, _ => h.elim

section
variable {w : World} {base : Nat} {spare : Nat → Bool} {held : Bool} {fuel : Nat} {t : TypeId} {cs : List Value} {x : DataW H × List MemPlace}

theorem trod_bool' (ht : P.underlying t = some .bool) (h : DataW.trod enc P w base spare held fuel t cs = some x) : ∃ b, cs = [.bool b] := by
  cases fuel with
  | zero => simp [DataW.trod] at h
  | succ m =>
    unfold DataW.trod at h
    rw [ht] at h
    split at h <;> simp_all
theorem trod_int' {k : IntKind} (ht : P.underlying t = some (.int k)) (h : DataW.trod enc P w base spare held fuel t cs = some x) : ∃ n, cs = [.int k n] ∧ (Lit.int k n).wf = true := by
  cases fuel with
  | zero => simp [DataW.trod] at h
  | succ m =>
    unfold DataW.trod at h
    rw [ht] at h
    split at h <;> simp_all
theorem trod_float' {k : FloatKind} (ht : P.underlying t = some (.float k)) (h : DataW.trod enc P w base spare held fuel t cs = some x) : ∃ b, cs = [.float k b] ∧ (Lit.float k b).wf = true := by
  cases fuel with
  | zero => simp [DataW.trod] at h
  | succ m =>
    unfold DataW.trod at h
    rw [ht] at h
    split at h <;> simp_all
theorem trod_string' (ht : P.underlying t = some .string) (h : DataW.trod enc P w base spare held fuel t cs = some x) : ∃ s, cs = [.string s] ∧ s.size ≤ maxLen := by
  cases fuel with
  | zero => simp [DataW.trod] at h
  | succ m =>
    unfold DataW.trod at h
    rw [ht] at h
    split at h <;> simp_all
theorem trod_one' {d : TypeDesc} {k : Value} (hd : kindOf d = some k) (ht : P.underlying t = some d) (h : DataW.trod enc P w base spare held fuel t cs = some x) : ∃ v, cs = [v] ∧ fits k v := by
  cases d <;> simp [kindOf] at hd <;> subst hd
  · obtain ⟨b, rfl⟩ := trod_bool' ht h; exact ⟨_, rfl, b, rfl⟩
  · obtain ⟨n, rfl, hw⟩ := trod_int' ht h; exact ⟨_, rfl, n, rfl, hw⟩
  · obtain ⟨n, rfl, hw⟩ := trod_float' ht h; exact ⟨_, rfl, n, rfl, hw⟩
  · obtain ⟨n, rfl, hw⟩ := trod_string' ht h; exact ⟨_, rfl, n, rfl, hw⟩
end

/-- Pieces that fit, one behind the other. -/
theorem fits_fields {cs : List Value} {n : Nat} : ∀ (l : List Field) (o : Nat) (ks : List Value), inRow P o l = true → catAll (l.map fun f => flatKinds P n f.type) = some ks →
    (∀ f, f ∈ l → ∀ kf, flatKinds P n f.type = some kf → fitsAll kf ((cs.drop f.offset).take (P.cellsOf f.type))) → cs.length = o + ks.length → fitsAll ks (cs.drop o)
  | [], o, ks, _, hc, _, hl => by
    simp [catAll] at hc; subst hc
    rw [List.drop_eq_nil_of_le (by simp at hl; omega)]; trivial
  | f :: l, o, ks, hr, hc, hm, hl => by
    simp only [inRow, Bool.and_eq_true] at hr
    have ho : f.offset = o := by simpa using hr.1
    simp only [List.map_cons] at hc
    cases hf : flatKinds P n f.type with
    | none => rw [hf] at hc; simp [catAll] at hc
    | some kf =>
      rw [hf] at hc
      simp only [catAll] at hc
      cases hcl2 : catAll (l.map fun f => flatKinds P n f.type) with
      | none => rw [hcl2] at hc; cases hc
      | some kl =>
        rw [hcl2] at hc
        simp only [Option.map_some, Option.some.injEq] at hc
        subst hc
        have f1 := hm f (by simp) kf hf
        rw [ho] at f1
        have hkf := flatKinds_length hf
        simp only [List.length_append] at hl
        have f2 := fits_fields l (o + P.cellsOf f.type) kl hr.2 hcl2 (fun g hg => hm g (by simp [hg])) (by omega)
        have hsplit : cs.drop o = (cs.drop o).take (P.cellsOf f.type) ++ cs.drop (o + P.cellsOf f.type) := by
          rw [← List.drop_drop, List.take_append_drop]
        rw [hsplit]
        exact fitsAll_append f1 f2

theorem fits_elems {cs : List Value} {n : Nat} {e : TypeId} : ∀ (k o : Nat) (ks : List Value), catAll (List.replicate k (flatKinds P n e)) = some ks →
    (∀ i, o ≤ i → i < o + k → ∀ kf, flatKinds P n e = some kf → fitsAll kf ((cs.drop (i * P.cellsOf e)).take (P.cellsOf e))) → cs.length = o * P.cellsOf e + ks.length → fitsAll ks (cs.drop (o * P.cellsOf e))
  | 0, o, ks, hc, _, hl => by
    simp [catAll] at hc; subst hc
    rw [List.drop_eq_nil_of_le (by simp at hl; omega)]; trivial
  | k + 1, o, ks, hc, hm, hl => by
    simp only [List.replicate_succ] at hc
    cases hf : flatKinds P n e with
    | none => rw [hf] at hc; simp [catAll] at hc
    | some kf =>
      rw [hf] at hc
      simp only [catAll] at hc
      rw [← hf] at hc
      cases hcl2 : catAll (List.replicate k (flatKinds P n e)) with
      | none => rw [hcl2] at hc; cases hc
      | some kl =>
        rw [hcl2] at hc
        simp only [Option.map_some, Option.some.injEq] at hc
        subst hc
        have f1 := hm o (by omega) (by omega) kf hf
        have hkf := flatKinds_length hf
        simp only [List.length_append] at hl
        have hmul : (o + 1) * P.cellsOf e = o * P.cellsOf e + P.cellsOf e := Nat.succ_mul o _
        have f2 := fits_elems k (o + 1) kl hcl2 (fun i h1 h2 => hm i (by omega) (by omega)) (by rw [hmul]; omega)
        have hsplit : cs.drop (o * P.cellsOf e) = (cs.drop (o * P.cellsOf e)).take (P.cellsOf e) ++ cs.drop ((o + 1) * P.cellsOf e) := by
          rw [hmul, ← List.drop_drop, List.take_append_drop]
        rw [hsplit]
        exact fitsAll_append f1 f2

theorem cond_fin {b : Bool} {x y : List Value} (h : cond b (some x) none = some y) : b = true ∧ x = y := by
  cases b
  · cases h
  · exact ⟨rfl, by simpa using h⟩

theorem flat_fits {w : World} {base : Nat} {spare : Nat → Bool} {held : Bool} : ∀ (n : Nat) (fuel : Nat) {t : TypeId} {cs : List Value} {y : DataW H × List MemPlace} {ks : List Value},
    DataW.trod enc P w base spare held fuel t cs = some y → flatKinds P n t = some ks → fitsAll ks cs := by
  intro n
  induction n with
  | zero => intro fuel t cs y ks _ h; simp [flatKinds] at h
  | succ n ih =>
    intro fuel t cs y ks hd hk
    have hklen := flatKinds_length hk
    unfold flatKinds at hk
    cases hu : P.underlying t with
    | none => rw [hu] at hk; cases hk
    | some d =>
      rw [hu] at hk
      have one : ∀ (_ : (match kindOf d with | some k => cond (P.cellsOf t == 1) (some [k]) none | none => none) = some ks), fitsAll ks cs := by
        intro hk
        split at hk
        · rename_i k hkd
          obtain ⟨_, rfl⟩ := cond_fin hk
          obtain ⟨v, rfl, hv⟩ := trod_one' hkd hu hd
          exact ⟨hv, trivial⟩
        · cases hk
      cases d
      case struct fs =>
        obtain ⟨xs, m, rfl, _, hcl, hxl, hf⟩ := DataW.trod_struct hu hd
        simp only at hk
        cases hrow : inRow P 0 fs.toList
        · rw [hrow] at hk; cases hk
        · rw [hrow] at hk
          simp only [cond_true] at hk
          split at hk
          · rename_i ks' hcat
            obtain ⟨_, rfl⟩ := cond_fin hk
            have := fits_fields (cs := cs) fs.toList 0 ks' hrow hcat (fun f hfm kf hkf => by
              obtain ⟨i, hi, rfl⟩ := List.mem_iff_getElem.1 hfm
              have hi' : i < fs.size := by simpa using hi
              have h1 := hf i fs[i] (Array.getElem?_eq_getElem hi')
              have h2 : xs[i]? = some xs[i] := List.getElem?_eq_getElem (by omega)
              rw [h2] at h1
              exact ih m h1 hkf) (by omega)
            simpa using this
          · cases hk
      case array k e =>
        obtain ⟨xs, m, rfl, _, hcl, hxl, hf⟩ := DataW.trod_array hu hd
        simp only at hk
        split at hk
        · rename_i ks' hcat
          obtain ⟨_, rfl⟩ := cond_fin hk
          have := fits_elems (cs := cs) k 0 ks' hcat (fun i _ hi kf hkf => by
            have h1 := hf i (by omega)
            have h2 : xs[i]? = some xs[i] := List.getElem?_eq_getElem (by omega)
            rw [h2] at h1
            exact ih m h1 hkf) (by simp; omega)
          simpa using this
        · cases hk
      all_goals exact one hk

end
end Go.Ev
