/-
  A function's text on values read plainly: what it hands back, and that the model's call hands back just that.
-/
import Derived.Test.YtnlfeocapnefeaaEv4
import Derived.LoopN
import Derived.Scope
namespace Go.Ev
open Go.RowKit

abbrev Kont := Exit → St → Option Value

def rounds (body : St → Kont → Option Value) (k : Kont) : Nat → St → Option Value
  | 0, _ => none
  | n + 1, s => body s fun e s' => match e with
    | .normal => rounds body k n s'
    | e => k e s'

/-- A region: 'D' says of one that draws its order what it gives. -/
def aregion (P : Program) (T : Tab) (D : List Oper → St → Option St) (ops : Array Oper) (draw : Bool) (s : St) : Option St :=
  match cond draw (D ops.toList s) (aops P T ops.toList ops.toList s) with
  | some s' => some { s' with slots := clearS s'.slots }
  | none => none

def aCode (P : Program) (T : Tab) (D : List Oper → St → Option St) (N : Nat) : Code → St → Kont → Option Value
  | .skip, s, k => k .normal s
  | .region _ ops draw, s, k => match aregion P T D ops draw s with
    | some s' => k .normal s'
    | none => none
  | .seq x y, s, k => aCode P T D N x s fun e s' => match e with
    | .normal => aCode P T D N y s' k
    | e => k e s'
  | .cond c x y, s, k => cond (opdOk s.slots [] c) (match aeval s c with
    | .bool b => cond b (aCode P T D N x s k) (aCode P T D N y s k)
    | _ => none) none
  | .block id c, s, k => aCode P T D N c s fun e s' => match e with
    | .exit id' => cond (id' == id) (k .normal s') (k (.exit id') s')
    | e => k e s'
  | .loop c, s, k => rounds (fun s k => aCode P T D N c s k) k N s
  | .exit id, s, k => k (.exit id) s
  | .scope c, s, k => aCode P T D N c s fun e s' => match e with
    | .goto _ => none
    | e => k e s'
  | .label _, s, k => k .normal s
  | .ret, s, k => k .ret s
  | _, _, _ => none

/-- What is said of regions that draw. -/
def DOk (P : Program) (D : List Oper → St → Option St) : Prop :=
  ∀ (base : Nat) (w0 : World) (bs : List Nat) (s s' : St) (a : Act) (w : World) (id : Nat) (ops : Array Oper) (Q : Exit → Act → World → Prop), Inv base w0 bs s a w → D ops.toList s = some s' →
    (∀ es a' w', Inv base w0 (bs ++ es) { s' with slots := clearS s'.slots } a' w' → Q .normal a' w') → (Code.region id ops true).wp P Q a w

section
variable {P : Program} {T : Tab} {D : List Oper → St → Option St} {base : Nat} {w0 : World}

def Post (base : Nat) (w0 : World) (bs : List Nat) (k : Kont) (r : Value) : Exit → Act → World → Prop :=
  fun e a' w' => ∃ es s', Inv base w0 (bs ++ es) s' a' w' ∧ k e s' = some r

theorem Post.mono {bs es : List Nat} {k : Kont} {r : Value} {e : Exit} {a : Act} {w : World} (h : Post base w0 (bs ++ es) k r e a w) : Post base w0 bs k r e a w := by
  obtain ⟨es', s', h1, h2⟩ := h
  exact ⟨es ++ es', s', by rw [← List.append_assoc]; exact h1, h2⟩

theorem aregion_wp (hT : TOk P T) (hD : DOk P D) {bs : List Nat} {s s' : St} {a : Act} {w : World} {id : Nat} {ops : Array Oper} {draw : Bool} {Q : Exit → Act → World → Prop} (hI : Inv base w0 bs s a w) (h : aregion P T D ops draw s = some s')
    (hQ : ∀ es a' w', Inv base w0 (bs ++ es) s' a' w' → Q .normal a' w') : (Code.region id ops draw).wp P Q a w := by
  unfold aregion at h
  cases draw with
  | true =>
    simp only [cond_true] at h
    split at h
    · rename_i s1 h1
      simp only [Option.some.injEq] at h; subst h
      exact hD base w0 bs s s1 a w id ops Q hI h1 hQ
    · cases h
  | false =>
    simp only [cond_false] at h
    split at h
    · rename_i s1 h1
      simp only [Option.some.injEq] at h; subst h
      exact wp_region_list (aops_wp hT ops.toList hI h1 fun es a' w' hI' => hQ es a' w' hI'.clear)
    · cases h

theorem aCode_wp (hT : TOk P T) (hD : DOk P D) (N : Nat) (c : Code) : ∀ {bs : List Nat} {s : St} {k : Kont} {r : Value} {a : Act} {w : World}, Inv base w0 bs s a w → aCode P T D N c s k = some r → c.wp P (Post base w0 bs k r) a w := by
  induction c with
  | skip => intro bs s k r a w hI h; exact wp_skip ⟨[], s, by simpa using hI, h⟩
  | label l => intro bs s k r a w hI h; exact wp_label ⟨[], s, by simpa using hI, h⟩
  | ret => intro bs s k r a w hI h; exact wp_ret ⟨[], s, by simpa using hI, h⟩
  | exit id => intro bs s k r a w hI h; exact wp_exit ⟨[], s, by simpa using hI, h⟩
  | goto l => intro bs s k r a w hI h; simp [aCode] at h
  | refuse y => intro bs s k r a w hI h; simp [aCode] at h
  | rangeFunc f ps x y ihx ihy => intro bs s k r a w hI h; simp [aCode] at h
  | region id ops draw =>
    intro bs s k r a w hI h
    simp only [aCode] at h
    split at h
    · rename_i s1 h1
      exact aregion_wp hT hD hI h1 fun es a' w' hI' => ⟨es, s1, hI', h⟩
    · cases h
  | seq x y ihx ihy =>
    intro bs s k r a w hI h
    simp only [aCode] at h
    refine wp_seq (Go.Code.wp_mono ?_ (ihx hI h))
    rintro e a' w' ⟨es, s', hI', he⟩
    cases e <;> simp only [Exit.then] at he ⊢
    case normal => exact Go.Code.wp_mono (fun e a w hp => Post.mono hp) (ihy hI' he)
    all_goals exact ⟨es, s', hI', he⟩
  | cond c x y ihx ihy =>
    intro bs s k r a w hI h
    simp only [aCode] at h
    cases ho : opdOk s.slots [] c
    · rw [ho] at h; cases h
    · rw [ho] at h
      simp only [cond_true] at h
      split at h
      · rename_i b hb
        have hv := frel_opd hI.frame (c := []) rfl c ho
        rw [hb] at hv
        refine wp_cond (t := b) (vrel_bool hv) ?_
        cases b
        · exact ihy hI h
        · exact ihx hI h
      · cases h
  | block id c ih =>
    intro bs s k r a w hI h
    simp only [aCode] at h
    refine wp_block (Go.Code.wp_mono ?_ (ih hI h))
    rintro e a' w' ⟨es, s', hI', he⟩
    cases e <;> simp only [Exit.inBlock] at he ⊢
    case exit id' =>
      by_cases hid : id' = id
      · rw [if_pos hid]
        have : (id' == id) = true := by simpa using hid
        rw [this] at he
        exact ⟨es, s', hI', he⟩
      · rw [if_neg hid]
        have : (id' == id) = false := by simpa using hid
        rw [this] at he
        exact ⟨es, s', hI', he⟩
    all_goals exact ⟨es, s', hI', he⟩
  | loop c ih =>
    intro bs s k r a w hI h
    simp only [aCode] at h
    refine wp_loop_rounds N ?_
    have key : ∀ (n : Nat) {bs : List Nat} {s : St} {a : Act} {w : World}, Inv base w0 bs s a w → rounds (fun s k => aCode P T D N c s k) k n s = some r → Code.rounds P c (Post base w0 bs k r) n a w := by
      intro n
      induction n with
      | zero => intro bs s a w hI h; simp [rounds] at h
      | succ n ihn =>
        intro bs s a w hI h
        simp only [rounds] at h
        rw [rounds_succ]
        refine Go.Code.wp_mono ?_ (ih hI h)
        rintro e a' w' ⟨es, s', hI', he⟩
        cases e <;> simp only [Exit.then] at he ⊢
        case normal =>
          have mono : ∀ n a w, Code.rounds P c (Post base w0 (bs ++ es) k r) n a w → Code.rounds P c (Post base w0 bs k r) n a w := by
            intro n
            induction n with
            | zero => intro a w h; exact h
            | succ n ihn2 =>
              intro a w h
              rw [rounds_succ] at h ⊢
              refine Go.Code.wp_mono ?_ h
              intro e a w hq
              cases e <;> simp only [Exit.then] at hq ⊢
              case normal => exact ihn2 _ _ hq
              all_goals exact Post.mono hq
          exact mono n a' w' (ihn hI' he)
        all_goals exact ⟨es, s', hI', he⟩
    exact key N hI h
  | scope c ih =>
    intro bs s k r a w hI h
    simp only [aCode] at h
    refine wp_scope_straight (Go.Code.wp_mono ?_ (ih hI h))
    rintro e a' w' ⟨es, s', hI', he⟩
    cases e <;> simp only [Exit.noGoto] at he ⊢
    case goto l => cases he
    all_goals exact ⟨es, s', hI', he⟩
end

/-! ### A function -/
def aresult (P : Program) (s : St) : ResultVar → Option Value
  | .tmp t => cond (opdOk s.slots [] (.tmp t)) (some (aeval s (.tmp t))) none
  | .cell p t => cond (opdOk s.slots [] (.tmp p)) (match aeval s (.tmp p) with
    | .pointer (some ⟨i, off, none⟩) => match s.mem[i]? with
      | some cells => aload P t cells off
      | none => none
    | _ => none) none

def aresultsL (P : Program) (s : St) : List ResultVar → Option (List Value)
  | [] => some []
  | r :: rs => match aresult P s r, aresultsL P s rs with
    | some v, some vs => some (v :: vs)
    | _, _ => none

def noPtr1 : Value → Bool
  | .pointer (some _) => false
  | .slice (some _) _ _ => false
  | _ => true
/-- No address of ours goes out. -/
def noPtr : Value → Bool
  | .agg vs => vs.toList.all noPtr1
  | v => noPtr1 v

def aresults (P : Program) (fn : Func) (s : St) : Option Value :=
  match aresultsL P s fn.results.toList with
  | some [v] => cond (noPtr v && okPart v) (some v) none
  | some vs => cond (vs.all (fun v => noPtr v && okPart v)) (some (.tuple vs.toArray)) none
  | none => none

def start (fn : Func) (mem : List (List Value)) (args : List Value) : St :=
  { slots := (args.map fun v => (v, [])) ++ List.replicate (fn.ntmps - args.length) dflt, mem := mem, ro := mem.length }

def abody (P : Program) (T : Tab) (D : List Oper → St → Option St) (N : Nat) (fn : Func) (mem : List (List Value)) (args : List Value) : Option Value :=
  match fn.body with
  | some c => aCode P T D N c (start fn mem args) fun e s => match e with
    | .normal => aresults P fn s
    | .ret => aresults P fn s
    | _ => none
  | none => none

theorem srel_noPtr {bs bs' : List Nat} {x v : Value} (hn : noPtr1 x = true) (h : srel bs x v) : srel bs' x v := by
  cases x with
  | pointer a => cases a with | none => exact h | some a => simp [noPtr1] at hn
  | slice a l c => cases a with | none => exact h | some a => simp [noPtr1] at hn
  | float k b => cases k <;> exact h
  | _ => exact h
theorem rowrel_noPtr {bs bs' : List Nat} : ∀ {xs vs : List Value}, xs.all noPtr1 = true → rowrel bs xs vs → rowrel bs' xs vs
  | [], [], _, _ => trivial
  | x :: xs, _ :: _, hn, h => by
    simp only [List.all_cons, Bool.and_eq_true] at hn
    exact ⟨srel_noPtr hn.1 h.1, rowrel_noPtr hn.2 h.2⟩
  | [], _ :: _, _, h => h.elim
  | _ :: _, [], _, h => h.elim
theorem arel_noPtr {bs bs' : List Nat} {x v : Value} (hn : noPtr x = true) (ho : okPart x = true) (h : vrel bs x v) : arel bs' x v := by
  cases x with
  | agg xs => obtain ⟨vs, e, hr⟩ := vrel_agg h; exact ⟨vs, e, rowrel_noPtr hn hr⟩
  | tuple vs => simp [okPart] at ho
  | map r => exact trivial
  | pointer a => cases a with | none => exact h | some a => simp [noPtr, noPtr1] at hn
  | slice a l c => cases a with | none => exact h | some a => simp [noPtr, noPtr1] at hn
  | float k b => cases k <;> exact h
  | _ => exact h

/-- One result, as the model reads it. -/
def resOf (tmps : Array Value) : ResultVar → Sem Value
  | .tmp t => pure (tmps.getD t undef)
  | .cell p t => do loadVar t (← asAddr (tmps.getD p undef))

theorem results_eq (fn : Func) (tmps : Array Value) : results fn tmps = (do
    let vs ← List.toArray <$> fn.results.toList.mapM (resOf tmps)
    pure (if h : vs.size = 1 then vs[0] else .tuple vs)) := by
  unfold results
  rw [← Array.mapM_eq_mapM_toList]
  have : (fun x : ResultVar => (match x with | .tmp t => pure (tmps.getD t undef) | .cell a t => do loadVar t (← asAddr (tmps.getD a undef)) : Sem Value)) = resOf tmps := by
    funext r; cases r <;> rfl
  rw [← this]
  rfl

theorem aresult_run {P : Program} {base : Nat} {w0 : World} {bs : List Nat} {s : St} {a : Act} {w : World} (hI : Inv base w0 bs s a w) {r : ResultVar} {x : Value} (h : aresult P s r = some x) :
    ∃ v, (resOf a.tmps r).run P w = .ok v w ∧ vrel bs x v := by
  cases r with
  | tmp t =>
    simp only [aresult] at h
    cases ho : opdOk s.slots [] (.tmp t)
    · rw [ho] at h; cases h
    · rw [ho] at h
      simp only [cond_true, Option.some.injEq] at h
      subst h
      exact ⟨_, rfl, frel_opd hI.frame (c := []) rfl (.tmp t) ho⟩
  | cell p t =>
    simp only [aresult] at h
    cases ho : opdOk s.slots [] (.tmp p)
    · rw [ho] at h; cases h
    · rw [ho] at h
      simp only [cond_true] at h
      split at h
      · rename_i i off hp
        split at h
        · rename_i cells hc
          have hv := frel_opd hI.frame (c := []) rfl (.tmp p) ho
          rw [hp] at hv
          obtain ⟨v, h1, h2⟩ := load_good (P := P) hI.mem hc h hv
          refine ⟨v, ?_, h2⟩
          obtain ⟨b, hb, he⟩ := vrel_pointer hv
          have he' : a.tmps.getD p undef = .pointer (some ⟨b, off, none⟩) := he
          rw [he] at h1
          simp only [Instr.loadAt, Instr.sureAddr, Sem.run_bind, Sem.run_pure, Result.andThen_ok] at h1
          simp only [resOf, he', asAddr, Sem.run_bind, Sem.run_pure, Result.andThen_ok, h1]
        · cases h
      · cases h

theorem aresultsL_run {P : Program} {base : Nat} {w0 : World} {bs : List Nat} {s : St} {a : Act} {w : World} (hI : Inv base w0 bs s a w) : ∀ {rs : List ResultVar} {xs : List Value}, aresultsL P s rs = some xs →
    ∃ vs : List Value, (rs.mapM (resOf a.tmps)).run P w = .ok vs w ∧ vrows bs xs vs
  | [], xs, h => by simp [aresultsL] at h; subst h; exact ⟨[], rfl, trivial⟩
  | r :: rs, xs, h => by
    simp only [aresultsL] at h
    split at h
    · rename_i x xs' h1 h2
      simp only [Option.some.injEq] at h
      subst h
      obtain ⟨v, h3, h4⟩ := aresult_run hI h1
      obtain ⟨vs, h5, h6⟩ := aresultsL_run hI h2
      refine ⟨v :: vs, ?_, h4, h6⟩
      simp only [List.mapM_cons, Sem.run_bind]
      rw [h3]
      simp only [Result.andThen_ok]
      rw [h5]
      rfl
    · cases h

theorem vrows_length {bs : List Nat} : ∀ {xs vs : List Value}, vrows bs xs vs → xs.length = vs.length
  | [], [], _ => rfl
  | _ :: _, _ :: _, h => by simp [vrows_length h.2]
  | [], _ :: _, h => h.elim
  | _ :: _, [], h => h.elim

theorem arows_of_vrows {bs bs' : List Nat} : ∀ {xs vs : List Value}, (xs.all fun v => noPtr v && okPart v) = true → vrows bs xs vs → arows bs' xs vs
  | [], [], _, _ => trivial
  | x :: xs, v :: vs, hn, h => by
    simp only [List.all_cons, Bool.and_eq_true] at hn
    exact ⟨arel_noPtr hn.1.1 hn.1.2 h.1, arows_of_vrows hn.2 h.2⟩
  | [], _ :: _, _, h => h.elim
  | _ :: _, [], _, h => h.elim

theorem aresults_run {P : Program} {base : Nat} {w0 : World} {bs bs' : List Nat} {s : St} {a : Act} {w : World} {fn : Func} (hI : Inv base w0 bs s a w) {x : Value} (h : aresults P fn s = some x) :
    ∃ v, (results fn a.tmps).run P w = .ok v w ∧ vrel bs' x v := by
  unfold aresults at h
  cases hl : aresultsL P s fn.results.toList with
  | none => simp [hl] at h
  | some xs =>
    obtain ⟨vs, h1, h2⟩ := aresultsL_run hI hl
    have hlen := vrows_length h2
    have hrun : (results fn a.tmps).run P w = .ok (if h : vs.toArray.size = 1 then vs.toArray[0] else .tuple vs.toArray) w := by
      rw [results_eq]
      simp only [Sem.run_bind, Sem.run_map, h1, Result.andThen_ok, Sem.run_pure]
    rw [hrun]
    have key : ∀ (hx : ∀ v, xs = [v] → False) (_ : cond (xs.all (fun v => noPtr v && okPart v)) (some (Value.tuple xs.toArray)) none = some x),
        ∃ v, Result.ok (if h : vs.toArray.size = 1 then vs.toArray[0] else .tuple vs.toArray) w = Result.ok v w ∧ vrel bs' x v := by
      intro hx h
      cases hk : (xs.all fun v => noPtr v && okPart v)
      · rw [hk] at h; cases h
      · rw [hk] at h
        simp only [cond_true, Option.some.injEq] at h
        subst h
        have hne : ¬ vs.toArray.size = 1 := by
          simp only [List.size_toArray]
          intro e
          rw [← hlen] at e
          match xs, e, hx with
          | [v], _, hx => exact hx v rfl
        refine ⟨_, rfl, ?_⟩
        rw [dif_neg hne]
        exact ⟨vs.toArray, rfl, by simpa using arows_of_vrows hk h2⟩
    rw [hl] at h
    match xs, vs, hlen, h2, h, key with
    | [y], [v], _, h2, h, _ =>
      simp only at h
      cases hk : (noPtr y && okPart y)
      · rw [hk] at h; cases h
      · rw [hk] at h
        simp only [cond_true, Option.some.injEq] at h
        subst h
        simp only [Bool.and_eq_true] at hk
        exact ⟨v, by simp, vrel_of_arel (arel_noPtr hk.1 hk.2 h2.1)⟩
    | [], vs, _, _, h, key => exact key (fun v e => by cases e) h
    | _ :: _ :: _, vs, _, _, h, key => exact key (fun v e => by cases e) h

theorem vrows_get {bs : List Nat} : ∀ {xs vs : List Value} (t : Nat), vrows bs xs vs → t < xs.length → vrel bs (xs.getD t undef) (vs.getD t undef)
  | _ :: _, _ :: _, 0, h, _ => h.1
  | _ :: _, _ :: _, t + 1, h, hl => by simpa using vrows_get t h.2 (by simpa using hl)
  | [], _, _, _, hl => by simp at hl
  | _ :: _, [], _, h, _ => h.elim

theorem vrel_undef (bs : List Nat) : vrel bs undef undef := ⟨#[], rfl, trivial⟩

/-- A FUNCTION's CONTRACT, OUT OF ITS TEXT. -/
theorem spec_of_body {P : Program} {T : Tab} {D : List Oper → St → Option St} (hT : TOk P T) (hD : DOk P D) (N : Nat) {f : Nat} {fn : Func} (hf : P.funcs[f]? = some fn) (hnm : (fn.name == "runtime.NumGoroutine") = false)
    {mem : List (List Value)} {args : List Value} (hlen : Nat.ble args.length fn.ntmps = true) {r : Value} (h : abody P T D N fn mem args = some r) : FSpec P f mem args r := by
  unfold abody at h
  cases hb : fn.body with
  | none => simp [hb] at h
  | some c =>
    rw [hb] at h
    simp only at h
    refine ⟨⟨fn, hf, hnm, by rw [hb]; rfl⟩, fun bs w cargs hm hv => ?_⟩
    have hlen' : args.length ≤ fn.ntmps := Nat.le_of_ble_eq_true hlen
    have hl := vrows_length hv
    simp at hl
    refine calls_of_wp hf hb ?_
    have hI : Inv w.heap.size w bs (start fn mem args) { tmps := cargs ++ Array.replicate (fn.ntmps - cargs.size) undef, defers := [] } w := {
      defers := rfl
      frame := by
        refine ⟨by simp [start]; omega, fun t => ?_⟩
        have hs : (start fn mem args).slots.getD t dflt = (args.getD t undef, []) := by
          simp only [start, List.getD_eq_getElem?_getD, List.getElem?_append, List.getElem?_map, List.length_map, List.getElem?_replicate]
          by_cases ht : t < args.length
          · simp [ht]
          · simp only [ht, if_false, List.getElem?_eq_none (Nat.le_of_not_lt ht), Option.getD_none]
            split <;> rfl
        rw [hs]
        refine ⟨fun _ => ?_, fun h' => by cases h'⟩
        by_cases ht : t < args.length
        · have := vrows_get t hv ht
          have e : (cargs ++ Array.replicate (fn.ntmps - cargs.size) undef).getD t undef = cargs.toList.getD t undef := by
            simp only [Array.getD_eq_getD_getElem?, List.getD_eq_getElem?_getD]
            rw [Array.getElem?_append_left (by omega)]
            simp
          rw [e]
          exact this
        · have e : (cargs ++ Array.replicate (fn.ntmps - cargs.size) undef).getD t undef = undef := by
            simp only [Array.getD_eq_getD_getElem?]
            rw [Array.getElem?_append_right (by omega), Array.getElem?_replicate]
            split <;> rfl
          rw [e, List.getD_eq_getElem?_getD, List.getElem?_eq_none (Nat.le_of_not_lt ht)]
          exact vrel_undef bs
      mem := hm
      own := fun i b hi hb => by
        have := (List.getElem?_eq_some_iff.1 hb).1
        rw [hm.1] at this
        simp only [start] at hi
        omega
      ro_le := Nat.le_refl _
      below := Below.refl _ _
      base_le := Nat.le_refl _ }
    refine Go.Code.wp_mono ?_ (aCode_wp hT hD N c hI h)
    rintro e a' w' ⟨es, s', hI', he⟩
    cases e <;> simp only at he <;> first | (cases he; done) | skip
    all_goals
      obtain ⟨v, h1, h2⟩ := aresults_run (bs' := bs) hI' he
      exact ⟨hI'.defers, v, h1, v, rfl, h2, hI'.below⟩

end Go.Ev
