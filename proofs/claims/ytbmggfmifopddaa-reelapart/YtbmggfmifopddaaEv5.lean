/-
  A function's text on values read plainly: what it hands back, and that the model's call hands back just that.
-/
import Derived.Test.YtbmggfmifopddaaEv4
import Derived.LoopN
import Derived.Scope
namespace Go.Ev
open Go.RowKit

abbrev Kont := Exit → St → Option Value

def rounds (body : St → Kont → Option Value) (k : Kont) : Nat → St → Option Value
  | 0, _ => none
  | n + 1, s => body s fun e s' => match e with
    | .normal => rounds body k n s'
    | e => k e s'

def aCode [Tok] (P : Program) (T : Tab) (D : List Oper → St → (St → Option Value) → Option Value) (N : Nat) : Code → St → Kont → Option Value
  | .skip, s, k => k .normal s
  | .region _ ops draw, s, k => cond draw (D ops.toList s fun s' => k .normal { s' with slots := clearS s'.slots }) (aopsK P T ops.toList ops.toList s fun s' => k .normal { s' with slots := clearS s'.slots })
  | .seq x y, s, k => aCode P T D N x s fun e s' => match e with
    | .normal => aCode P T D N y s' k
    | e => k e s'
  | .cond c x y, s, k => cond (opdOk s.slots [] c) (match aeval s c with
    | .bool b => cond b (aCode P T D N x s k) (aCode P T D N y s k)
    | _ => none) none
  | .block id c, s, k => aCode P T D N c s fun e s' => match e with
    | .exit id' => cond (id' == id) (k .normal s') (k (.exit id') s')
    | e => k e s'
  | .loop c, s, k => rounds (fun s k => aCode P T D N c s k) k N s
  | .exit id, s, k => k (.exit id) s
  | .scope c, s, k => aCode P T D N c s fun e s' => match e with
    | .goto _ => none
    | e => k e s'
  | .label _, s, k => k .normal s
  | .ret, s, k => k .ret s
  | _, _, _ => none

/-- What is said of regions that draw. -/
def DOk0 [Tok] (P : Program) (D : List Oper → St → Option St) (hd : List (List Value)) : Prop :=
  ∀ (base : Bs), base.hd = hd → ∀ (w0 : World) (bs : List Nat) (s s' : St) (a : Act) (w : World) (id : Nat) (ops : Array Oper) (Q : Exit → Act → World → Prop), Inv base w0 bs s a w → D ops.toList s = some s' →
    (∀ es a' w', Inv base w0 (bs ++ es) { s' with slots := clearS s'.slots } a' w' → Q .normal a' w') → (Code.region id ops true).wp P Q a w

def DPar (D : List Oper → St → (St → Option Value) → Option Value) : Prop := ∀ ops s k r, D ops s k = some r → ∃ s', k s' = some r ∧ ∀ k', D ops s k' = k' s'
def DOk [Tok] (P : Program) (D : List Oper → St → (St → Option Value) → Option Value) (hd : List (List Value)) : Prop := DPar D ∧
  ∀ (base : Bs), base.hd = hd → ∀ (w0 : World) (bs : List Nat) (s s' : St) (a : Act) (w : World) (id : Nat) (ops : Array Oper) (Q : Exit → Act → World → Prop), Inv base w0 bs s a w → (∀ k', D ops.toList s k' = k' s') →
    (∀ es a' w', Inv base w0 (bs ++ es) { s' with slots := clearS s'.slots } a' w' → Q .normal a' w') → (Code.region id ops true).wp P Q a w

section
variable {P : Program} {T : Tab} {D : List Oper → St → (St → Option Value) → Option Value} {base : Bs} {w0 : World}

def Post [Tok] (base : Bs) (w0 : World) (bs : List Nat) (k : Kont) (r : Value) : Exit → Act → World → Prop :=
  fun e a' w' => ∃ es s', Inv base w0 (bs ++ es) s' a' w' ∧ k e s' = some r

theorem Post.mono [Tok] {bs es : List Nat} {k : Kont} {r : Value} {e : Exit} {a : Act} {w : World} (h : Post base w0 (bs ++ es) k r e a w) : Post base w0 bs k r e a w := by
  obtain ⟨es', s', h1, h2⟩ := h
  exact ⟨es ++ es', s', by rw [← List.append_assoc]; exact h1, h2⟩

theorem aCode_wp [Tok] (hT : TOk P T base.hd) (hD : DOk P D base.hd) (N : Nat) (c : Code) : ∀ {bs : List Nat} {s : St} {k : Kont} {r : Value} {a : Act} {w : World}, Inv base w0 bs s a w → aCode P T D N c s k = some r → c.wp P (Post base w0 bs k r) a w := by
  induction c with
  | skip => intro bs s k r a w hI h; exact wp_skip ⟨[], s, by simpa using hI, h⟩
  | label l => intro bs s k r a w hI h; exact wp_label ⟨[], s, by simpa using hI, h⟩
  | ret => intro bs s k r a w hI h; exact wp_ret ⟨[], s, by simpa using hI, h⟩
  | exit id => intro bs s k r a w hI h; exact wp_exit ⟨[], s, by simpa using hI, h⟩
  | goto l => intro bs s k r a w hI h; simp [aCode] at h
  | refuse y => intro bs s k r a w hI h; simp [aCode] at h
  | rangeFunc f ps x y ihx ihy => intro bs s k r a w hI h; simp [aCode] at h
  | region id ops draw =>
    intro bs s k r a w hI h
    simp only [aCode] at h
    cases draw with
    | true =>
      simp only [cond_true] at h
      obtain ⟨s1, h1, h2⟩ := hD.1 _ _ _ _ h
      exact hD.2 base rfl w0 bs s s1 a w id ops _ hI h2 fun es a' w' hI' => ⟨es, _, hI', h1⟩
    | false =>
      simp only [cond_false] at h
      obtain ⟨s1, h1, h2, _⟩ := aopsK_some hT.par h
      exact wp_region_list (asteps_wp hT ops.toList hI h1 fun es a' w' hI' => ⟨es, _, hI'.clear, h2⟩)
  | seq x y ihx ihy =>
    intro bs s k r a w hI h
    simp only [aCode] at h
    refine wp_seq (Go.Code.wp_mono ?_ (ihx hI h))
    rintro e a' w' ⟨es, s', hI', he⟩
    cases e <;> simp only [Exit.then] at he ⊢
    case normal => exact Go.Code.wp_mono (fun e a w hp => Post.mono hp) (ihy hI' he)
    all_goals exact ⟨es, s', hI', he⟩
  | cond c x y ihx ihy =>
    intro bs s k r a w hI h
    simp only [aCode] at h
    cases ho : opdOk s.slots [] c
    · rw [ho] at h; cases h
    · rw [ho] at h
      simp only [cond_true] at h
      split at h
      · rename_i b hb
        have hv := frel_opd hI.frame (c := []) rfl c ho
        rw [hb] at hv
        refine wp_cond (t := b) (vrel_bool hv) ?_
        cases b
        · exact ihy hI h
        · exact ihx hI h
      · cases h
  | block id c ih =>
    intro bs s k r a w hI h
    simp only [aCode] at h
    refine wp_block (Go.Code.wp_mono ?_ (ih hI h))
    rintro e a' w' ⟨es, s', hI', he⟩
    cases e <;> simp only [Exit.inBlock] at he ⊢
    case exit id' =>
      by_cases hid : id' = id
      · rw [if_pos hid]
        have : (id' == id) = true := by simpa using hid
        rw [this] at he
        exact ⟨es, s', hI', he⟩
      · rw [if_neg hid]
        have : (id' == id) = false := by simpa using hid
        rw [this] at he
        exact ⟨es, s', hI', he⟩
    all_goals exact ⟨es, s', hI', he⟩
  | loop c ih =>
    intro bs s k r a w hI h
    simp only [aCode] at h
    refine wp_loop_rounds N ?_
    have key : ∀ (n : Nat) {bs : List Nat} {s : St} {a : Act} {w : World}, Inv base w0 bs s a w → rounds (fun s k => aCode P T D N c s k) k n s = some r → Code.rounds P c (Post base w0 bs k r) n a w := by
      intro n
      induction n with
      | zero => intro bs s a w hI h; simp [rounds] at h
      | succ n ihn =>
        intro bs s a w hI h
        simp only [rounds] at h
        rw [rounds_succ]
        refine Go.Code.wp_mono ?_ (ih hI h)
        rintro e a' w' ⟨es, s', hI', he⟩
        cases e <;> simp only [Exit.then] at he ⊢
        case normal =>
          have mono : ∀ n a w, Code.rounds P c (Post base w0 (bs ++ es) k r) n a w → Code.rounds P c (Post base w0 bs k r) n a w := by
            intro n
            induction n with
            | zero => intro a w h; exact h
            | succ n ihn2 =>
              intro a w h
              rw [rounds_succ] at h ⊢
              refine Go.Code.wp_mono ?_ h
              intro e a w hq
              cases e <;> simp only [Exit.then] at hq ⊢
              case normal => exact ihn2 _ _ hq
              all_goals exact Post.mono hq
          exact mono n a' w' (ihn hI' he)
        all_goals exact ⟨es, s', hI', he⟩
    exact key N hI h
  | scope c ih =>
    intro bs s k r a w hI h
    simp only [aCode] at h
    refine wp_scope_straight (Go.Code.wp_mono ?_ (ih hI h))
    rintro e a' w' ⟨es, s', hI', he⟩
    cases e <;> simp only [Exit.noGoto] at he ⊢
    case goto l => cases he
    all_goals exact ⟨es, s', hI', he⟩
end

/-! ### What goes on, goes on with one state -/
theorem rounds_par {body : St → Kont → Option Value} (hb : ∀ s k r, body s k = some r → ∃ e s', k e s' = some r ∧ ∀ k', body s k' = k' e s') : ∀ (n : Nat) (s : St) (k : Kont) (r : Value), rounds body k n s = some r → ∃ e s', k e s' = some r ∧ ∀ k', rounds body k' n s = k' e s'
  | 0, s, k, r, h => by simp [rounds] at h
  | n + 1, s, k, r, h => by
    simp only [rounds] at h
    obtain ⟨e, s1, h1, h2⟩ := hb _ _ _ h
    by_cases he : e = .normal
    · subst he
      simp only at h1
      obtain ⟨e2, s2, h3, h4⟩ := rounds_par hb n s1 k r h1
      exact ⟨e2, s2, h3, fun k' => by simp only [rounds]; rw [h2]; exact h4 k'⟩
    · refine ⟨e, s1, ?_, fun k' => ?_⟩
      · cases e <;> first | exact absurd rfl he | exact h1
      · simp only [rounds]; rw [h2]; cases e <;> first | exact absurd rfl he | rfl
theorem aCode_par [Tok] {P : Program} {T : Tab} {D : List Oper → St → (St → Option Value) → Option Value} (hT : TPar T) (hD : DPar D) (N : Nat) (c : Code) : ∀ (s : St) (k : Kont) (r : Value), aCode P T D N c s k = some r → ∃ e s', k e s' = some r ∧ ∀ k', aCode P T D N c s k' = k' e s' := by
  induction c with
  | skip => intro s k r h; exact ⟨_, _, h, fun _ => rfl⟩
  | label l => intro s k r h; exact ⟨_, _, h, fun _ => rfl⟩
  | ret => intro s k r h; exact ⟨_, _, h, fun _ => rfl⟩
  | exit id => intro s k r h; exact ⟨_, _, h, fun _ => rfl⟩
  | goto l => intro s k r h; simp [aCode] at h
  | refuse y => intro s k r h; simp [aCode] at h
  | rangeFunc f ps x y ihx ihy => intro s k r h; simp [aCode] at h
  | region id ops draw =>
    intro s k r h
    simp only [aCode] at h ⊢
    cases draw with
    | true =>
      simp only [cond_true] at h ⊢
      obtain ⟨s1, h1, h2⟩ := hD _ _ _ _ h
      exact ⟨_, _, h1, fun k' => h2 _⟩
    | false =>
      simp only [cond_false] at h ⊢
      obtain ⟨s1, _, h2, h3⟩ := aopsK_some hT h
      exact ⟨_, _, h2, fun k' => h3 _⟩
  | seq x y ihx ihy =>
    intro s k r h
    simp only [aCode] at h ⊢
    obtain ⟨e, s1, h1, h2⟩ := ihx _ _ _ h
    by_cases he : e = .normal
    · subst he
      simp only at h1
      obtain ⟨e2, s2, h3, h4⟩ := ihy _ _ _ h1
      exact ⟨e2, s2, h3, fun k' => by rw [h2]; exact h4 k'⟩
    · refine ⟨e, s1, ?_, fun k' => ?_⟩
      · cases e <;> first | exact absurd rfl he | exact h1
      · rw [h2]; cases e <;> first | exact absurd rfl he | rfl
  | cond c x y ihx ihy =>
    intro s k r h
    simp only [aCode] at h ⊢
    cases ho : opdOk s.slots [] c
    · rw [ho] at h; cases h
    · rw [ho] at h
      simp only [cond_true] at h ⊢
      cases hv : aeval s c <;> rw [hv] at h <;> first | (cases h; done) | skip
      rename_i b
      cases b
      · obtain ⟨e, s1, h1, h2⟩ := ihy _ _ _ h; exact ⟨e, s1, h1, h2⟩
      · obtain ⟨e, s1, h1, h2⟩ := ihx _ _ _ h; exact ⟨e, s1, h1, h2⟩
  | block id c ih =>
    intro s k r h
    simp only [aCode] at h ⊢
    obtain ⟨e, s1, h1, h2⟩ := ih _ _ _ h
    by_cases he : e = .exit id
    · subst he
      simp only [BEq.rfl, cond_true] at h1
      exact ⟨_, _, h1, fun k' => by rw [h2]; simp⟩
    · refine ⟨e, s1, ?_, fun k' => ?_⟩
      · cases e <;> first | exact h1 | skip
        rename_i id'
        have : (id' == id) = false := by
          cases hh : id' == id
          · rfl
          · exact absurd (by rw [eq_of_beq hh]) he
        simp only [this, cond_false] at h1
        exact h1
      · rw [h2]
        cases e <;> first | rfl | skip
        rename_i id'
        have : (id' == id) = false := by
          cases hh : id' == id
          · rfl
          · exact absurd (by rw [eq_of_beq hh]) he
        simp only [this, cond_false]
  | loop c ih =>
    intro s k r h
    simp only [aCode] at h ⊢
    exact rounds_par (body := fun s k => aCode P T D N c s k) ih N s k r h
  | scope c ih =>
    intro s k r h
    simp only [aCode] at h ⊢
    obtain ⟨e, s1, h1, h2⟩ := ih _ _ _ h
    refine ⟨e, s1, ?_, fun k' => ?_⟩
    · cases e <;> first | exact h1 | cases h1
    · rw [h2]; cases e <;> first | rfl | cases h1

/-! ### A function -/
def aresult (P : Program) (s : St) : ResultVar → Option Value
  | .tmp t => cond (opdOk s.slots [] (.tmp t)) (some (aeval s (.tmp t))) none
  | .cell p t => cond (opdOk s.slots [] (.tmp p)) (match aeval s (.tmp p) with
    | .pointer (some ⟨i, off, none⟩) => match s.mem[i]? with
      | some cells => aload P t cells off
      | none => none
    | _ => none) none

def aresultsL (P : Program) (s : St) : List ResultVar → Option (List Value)
  | [] => some []
  | r :: rs => match aresult P s r, aresultsL P s rs with
    | some v, some vs => some (v :: vs)
    | _, _ => none

def aresults (P : Program) (fn : Func) (s : St) : Option Value :=
  match aresultsL P s fn.results.toList with
  | some [v] => cond (noPtr v && okArg v) (some v) none
  | some vs => cond (vs.all (fun v => noPtr v && okArg v)) (some (.tuple vs.toArray)) none
  | none => none

def start (fn : Func) (mem : List (List Value)) (args : List Value) : St :=
  { slots := (args.map fun v => (v, [])) ++ List.replicate (fn.ntmps - args.length) dflt, mem := mem, ro := mem.length }

def abody [Tok] (P : Program) (T : Tab) (D : List Oper → St → (St → Option Value) → Option Value) (N : Nat) (fn : Func) (mem : List (List Value)) (args : List Value) : Option Value :=
  match fn.body with
  | some c => aCode P T D N c (start fn mem args) fun e s => match e with
    | .normal => aresults P fn s
    | .ret => aresults P fn s
    | _ => none
  | none => none

/-- The same, and what goes on with what it hands back. -/
def abodyK [Tok] (P : Program) (T : Tab) (D : List Oper → St → (St → Option Value) → Option Value) (N : Nat) (fn : Func) (mem : List (List Value)) (args : List Value) (k : Value → Option Value) : Option Value :=
  match fn.body with
  | some c => aCode P T D N c (start fn mem args) fun e s => match e with
    | .normal => match aresults P fn s with
      | some v => k v
      | none => none
    | .ret => match aresults P fn s with
      | some v => k v
      | none => none
    | _ => none
  | none => none
theorem abodyK_par [Tok] {P : Program} {T : Tab} {D : List Oper → St → (St → Option Value) → Option Value} (hT : TPar T) (hD : DPar D) {N : Nat} {fn : Func} {mem : List (List Value)} {args : List Value} {k : Value → Option Value} {r : Value} (h : abodyK P T D N fn mem args k = some r) :
    ∃ v, k v = some r ∧ (∀ k', abodyK P T D N fn mem args k' = k' v) := by
  unfold abodyK at h ⊢
  cases hb : fn.body with
  | none => rw [hb] at h; cases h
  | some c =>
    rw [hb] at h
    simp only at h ⊢
    obtain ⟨e, s1, h1, h2⟩ := aCode_par hT hD N c _ _ _ h
    cases e <;> simp only at h1 <;> first | (cases h1; done) | skip
    all_goals
      cases hr : aresults P fn s1 with
      | none => rw [hr] at h1; cases h1
      | some v =>
        rw [hr] at h1
        exact ⟨v, h1, fun k' => by rw [h2]; simp only [hr]⟩
theorem abody_of_K [Tok] {P : Program} {T : Tab} {D : List Oper → St → (St → Option Value) → Option Value} {N : Nat} {fn : Func} {mem : List (List Value)} {args : List Value} {v : Value} (h : ∀ k', abodyK P T D N fn mem args k' = k' v) : abody P T D N fn mem args = some v := by
  have h1 := h some
  unfold abodyK at h1
  unfold abody
  cases hb : fn.body with
  | none => rw [hb] at h1; cases h1
  | some c =>
    rw [hb] at h1
    simp only at h1 ⊢
    have e : (fun (e : Exit) (s : St) => match e with
      | .normal => match aresults P fn s with
        | some v => some v
        | none => none
      | .ret => match aresults P fn s with
        | some v => some v
        | none => none
      | _ => none) = (fun (e : Exit) (s : St) => match e with
      | .normal => aresults P fn s
      | .ret => aresults P fn s
      | _ => none) := by
      funext e s
      cases e <;> simp only
      all_goals cases aresults P fn s <;> rfl
    rw [← e]
    exact h1

/-- One result, as the model reads it. -/
def resOf (tmps : Array Value) : ResultVar → Sem Value
  | .tmp t => pure (tmps.getD t undef)
  | .cell p t => do loadVar t (← asAddr (tmps.getD p undef))

theorem results_eq (fn : Func) (tmps : Array Value) : results fn tmps = (do
    let vs ← List.toArray <$> fn.results.toList.mapM (resOf tmps)
    pure (if h : vs.size = 1 then vs[0] else .tuple vs)) := by
  unfold results
  rw [← Array.mapM_eq_mapM_toList]
  have : (fun x : ResultVar => (match x with | .tmp t => pure (tmps.getD t undef) | .cell a t => do loadVar t (← asAddr (tmps.getD a undef)) : Sem Value)) = resOf tmps := by
    funext r; cases r <;> rfl
  rw [← this]
  rfl

theorem aresult_run [Tok] {P : Program} {base : Bs} {w0 : World} {bs : List Nat} {s : St} {a : Act} {w : World} (hI : Inv base w0 bs s a w) {r : ResultVar} {x : Value} (h : aresult P s r = some x) :
    ∃ v, (resOf a.tmps r).run P w = .ok v w ∧ vrel bs x v := by
  cases r with
  | tmp t =>
    simp only [aresult] at h
    cases ho : opdOk s.slots [] (.tmp t)
    · rw [ho] at h; cases h
    · rw [ho] at h
      simp only [cond_true, Option.some.injEq] at h
      subst h
      exact ⟨_, rfl, frel_opd hI.frame (c := []) rfl (.tmp t) ho⟩
  | cell p t =>
    simp only [aresult] at h
    cases ho : opdOk s.slots [] (.tmp p)
    · rw [ho] at h; cases h
    · rw [ho] at h
      simp only [cond_true] at h
      split at h
      · rename_i i off hp
        split at h
        · rename_i cells hc
          have hv := frel_opd hI.frame (c := []) rfl (.tmp p) ho
          rw [hp] at hv
          obtain ⟨v, h1, h2⟩ := load_good (P := P) hI.mem hc h hv
          refine ⟨v, ?_, h2⟩
          obtain ⟨b, hb, he⟩ := vrel_pointer hv
          have he' : a.tmps.getD p undef = .pointer (some ⟨b, off, none⟩) := he
          rw [he] at h1
          simp only [Instr.loadAt, Instr.sureAddr, Sem.run_bind, Sem.run_pure, Result.andThen_ok] at h1
          simp only [resOf, he', asAddr, Sem.run_bind, Sem.run_pure, Result.andThen_ok, h1]
        · cases h
      · cases h

theorem aresultsL_run [Tok] {P : Program} {base : Bs} {w0 : World} {bs : List Nat} {s : St} {a : Act} {w : World} (hI : Inv base w0 bs s a w) : ∀ {rs : List ResultVar} {xs : List Value}, aresultsL P s rs = some xs →
    ∃ vs : List Value, (rs.mapM (resOf a.tmps)).run P w = .ok vs w ∧ vrows bs xs vs
  | [], xs, h => by simp [aresultsL] at h; subst h; exact ⟨[], rfl, trivial⟩
  | r :: rs, xs, h => by
    simp only [aresultsL] at h
    split at h
    · rename_i x xs' h1 h2
      simp only [Option.some.injEq] at h
      subst h
      obtain ⟨v, h3, h4⟩ := aresult_run hI h1
      obtain ⟨vs, h5, h6⟩ := aresultsL_run hI h2
      refine ⟨v :: vs, ?_, h4, h6⟩
      simp only [List.mapM_cons, Sem.run_bind]
      rw [h3]
      simp only [Result.andThen_ok]
      rw [h5]
      rfl
    · cases h

theorem vrows_length [Tok] {bs : List Nat} : ∀ {xs vs : List Value}, vrows bs xs vs → xs.length = vs.length
  | [], [], _ => rfl
  | _ :: _, _ :: _, h => by simp [vrows_length h.2]
  | [], _ :: _, h => h.elim
  | _ :: _, [], h => h.elim

theorem arows_of_vrows [Tok] {bs bs' : List Nat} : ∀ {xs vs : List Value}, (xs.all fun v => noPtr v && okArg v) = true → vrows bs xs vs → arows bs' xs vs
  | [], [], _, _ => trivial
  | x :: xs, v :: vs, hn, h => by
    simp only [List.all_cons, Bool.and_eq_true] at hn
    exact ⟨arel_noPtr hn.1.1 hn.1.2 h.1, arows_of_vrows hn.2 h.2⟩
  | [], _ :: _, _, h => h.elim
  | _ :: _, [], _, h => h.elim

theorem aresults_run [Tok] {P : Program} {base : Bs} {w0 : World} {bs bs' : List Nat} {s : St} {a : Act} {w : World} {fn : Func} (hI : Inv base w0 bs s a w) {x : Value} (h : aresults P fn s = some x) :
    ∃ v, (results fn a.tmps).run P w = .ok v w ∧ vrel bs' x v := by
  unfold aresults at h
  cases hl : aresultsL P s fn.results.toList with
  | none => simp [hl] at h
  | some xs =>
    obtain ⟨vs, h1, h2⟩ := aresultsL_run hI hl
    have hlen := vrows_length h2
    have hrun : (results fn a.tmps).run P w = .ok (if h : vs.toArray.size = 1 then vs.toArray[0] else .tuple vs.toArray) w := by
      rw [results_eq]
      simp only [Sem.run_bind, Sem.run_map, h1, Result.andThen_ok, Sem.run_pure]
    rw [hrun]
    have key : ∀ (hx : ∀ v, xs = [v] → False) (_ : cond (xs.all (fun v => noPtr v && okArg v)) (some (Value.tuple xs.toArray)) none = some x),
        ∃ v, Result.ok (if h : vs.toArray.size = 1 then vs.toArray[0] else .tuple vs.toArray) w = Result.ok v w ∧ vrel bs' x v := by
      intro hx h
      cases hk : (xs.all fun v => noPtr v && okArg v)
      · rw [hk] at h; cases h
      · rw [hk] at h
        simp only [cond_true, Option.some.injEq] at h
        subst h
        have hne : ¬ vs.toArray.size = 1 := by
          simp only [List.size_toArray]
          intro e
          rw [← hlen] at e
          match xs, e, hx with
          | [v], _, hx => exact hx v rfl
        refine ⟨_, rfl, ?_⟩
        rw [dif_neg hne]
        exact ⟨vs.toArray, rfl, by simpa using arows_of_vrows hk h2⟩
    rw [hl] at h
    match xs, vs, hlen, h2, h, key with
    | [y], [v], _, h2, h, _ =>
      simp only at h
      cases hk : (noPtr y && okArg y)
      · rw [hk] at h; cases h
      · rw [hk] at h
        simp only [cond_true, Option.some.injEq] at h
        subst h
        simp only [Bool.and_eq_true] at hk
        exact ⟨v, by simp, vrel_of_arel (arel_noPtr hk.1 hk.2 h2.1)⟩
    | [], vs, _, _, h, key => exact key (fun v e => by cases e) h
    | _ :: _ :: _, vs, _, _, h, key => exact key (fun v e => by cases e) h

theorem vrows_get [Tok] {bs : List Nat} : ∀ {xs vs : List Value} (t : Nat), vrows bs xs vs → t < xs.length → vrel bs (xs.getD t undef) (vs.getD t undef)
  | _ :: _, _ :: _, 0, h, _ => h.1
  | _ :: _, _ :: _, t + 1, h, hl => by simpa using vrows_get t h.2 (by simpa using hl)
  | [], _, _, _, hl => by simp at hl
  | _ :: _, [], _, h, _ => h.elim

theorem vrel_undef [Tok] (bs : List Nat) : vrel bs undef undef := ⟨#[], rfl, trivial⟩

/-- The frame as a call begins. -/
theorem start_frel [Tok] {bs : List Nat} {fn : Func} {mem : List (List Value)} {args : List Value} {cargs : Array Value} (hv : vrows bs args cargs.toList) (hlen' : args.length ≤ fn.ntmps) :
    frel bs (start fn mem args).slots (start fn mem args).slots (cargs ++ Array.replicate (fn.ntmps - cargs.size) undef) := by
  have hl := vrows_length hv
  simp at hl
  refine ⟨by simp [start]; omega, fun t => ?_⟩
  have hs : (start fn mem args).slots.getD t dflt = (args.getD t undef, []) := by
    simp only [start, List.getD_eq_getElem?_getD, List.getElem?_append, List.getElem?_map, List.length_map, List.getElem?_replicate]
    by_cases ht : t < args.length
    · simp [ht]
    · simp only [ht, if_false, List.getElem?_eq_none (Nat.le_of_not_lt ht), Option.getD_none]
      split <;> rfl
  rw [hs]
  refine ⟨fun _ => ?_, fun h' => by cases h'⟩
  by_cases ht : t < args.length
  · have := vrows_get t hv ht
    have e : (cargs ++ Array.replicate (fn.ntmps - cargs.size) undef).getD t undef = cargs.toList.getD t undef := by
      simp only [Array.getD_eq_getD_getElem?, List.getD_eq_getElem?_getD]
      rw [Array.getElem?_append_left (by omega)]
      simp
    rw [e]
    exact this
  · have e : (cargs ++ Array.replicate (fn.ntmps - cargs.size) undef).getD t undef = undef := by
      simp only [Array.getD_eq_getD_getElem?]
      rw [Array.getElem?_append_right (by omega), Array.getElem?_replicate]
      split <;> rfl
    rw [e, List.getD_eq_getElem?_getD, List.getElem?_eq_none (Nat.le_of_not_lt ht)]
    exact vrel_undef bs

/-! ### A call that writes one block -/
def startM (fn : Func) (cells : List Value) (args : List Value) : St := { start fn [cells] args with ro := 0 }
def aresultsM (P : Program) (fn : Func) (s : St) : Option Value :=
  match aresults P fn s, s.mem[0]? with
  | some v, some cl => cond (Nat.beq s.ro 0 && cl.all noPtr1) (some (.tuple #[v, .agg cl.toArray])) none
  | _, _ => none
def abodyM [Tok] (P : Program) (T : Tab) (D : List Oper → St → (St → Option Value) → Option Value) (N : Nat) (fn : Func) (cells : List Value) (args : List Value) : Option Value :=
  match fn.body with
  | some c => aCode P T D N c (startM fn cells args) fun e s => match e with
    | .normal => aresultsM P fn s
    | .ret => aresultsM P fn s
    | _ => none
  | none => none
theorem mspec_of_body [Tok] {P : Program} {T : Tab} {D : List Oper → St → (St → Option Value) → Option Value} (hT : TOk P T []) (hD : DOk P D []) (N : Nat) {f : Nat} {fn : Func} (hf : P.funcs[f]? = some fn) (hnm : (fn.name == "runtime.NumGoroutine") = false)
    {cells : List Value} {args : List Value} (hlen : Nat.ble args.length fn.ntmps = true) {r : Value} (h : abodyM P T D N fn cells args = some r) : MSpec P f cells args r := by
  unfold abodyM at h
  cases hb : fn.body with
  | none => simp [hb] at h
  | some c =>
    rw [hb] at h
    simp only at h
    refine ⟨⟨fn, hf, hnm, by rw [hb]; rfl⟩, fun b w cargs cs e hcs hpre hv => ?_⟩
    have hlen' : args.length ≤ fn.ntmps := Nat.le_of_ble_eq_true hlen
    refine calls_of_wp hf hb ?_
    have hI : Inv ⟨w.heap.size, b, []⟩ w [b] (startM fn cells args) { tmps := cargs ++ Array.replicate (fn.ntmps - cargs.size) undef, defers := [] } w := {
      defers := rfl
      frame := start_frel (mem := [cells]) hv hlen'
      mem := ⟨rfl, fun i b' cl h1 h2 => by
        cases i with
        | zero =>
          simp [startM, start] at h1 h2
          subst h1 h2
          exact ⟨(Array.getElem?_eq_some_iff.1 hcs).1, cs, e, (0, 0), hcs, hpre⟩
        | succ i => simp at h1⟩
      own := fun i b' _ h1 => by
        cases i with
        | zero =>
          simp at h1
          subst h1
          refine ⟨Or.inr rfl, ⟨cs, e, hcs⟩, fun j hj => ?_⟩
          cases j with
          | zero => rfl
          | succ j => simp at hj
        | succ i => simp at h1
      ro_le := Nat.zero_le _
      below := BelowB.refl _ _
      base_le := Nat.le_refl _
      pre := Pre.nil _
      pre_ro := Nat.le_refl _ }
    refine Go.Code.wp_mono ?_ (aCode_wp hT hD N c hI h)
    rintro e a' w' ⟨es, s', hI', he⟩
    cases e <;> simp only at he <;> first | (cases he; done) | skip
    all_goals
      unfold aresultsM at he
      split at he
      · rename_i v cl hv' hm'
        cases hnp : (Nat.beq s'.ro 0 && cl.all noPtr1)
        · rw [hnp] at he; cases he
        · rw [hnp] at he
          simp only [cond_true, Option.some.injEq] at he
          simp only [Bool.and_eq_true] at hnp
          have hro : s'.ro = 0 := Nat.eq_of_beq_eq_true hnp.1
          have key : ∃ u, (results fn a'.tmps).run P w' = .ok u w' ∧ ∀ bs, vrel bs v u := by
            obtain ⟨u, h1, h2⟩ := aresults_run (bs' := []) hI' hv'
            refine ⟨u, h1, fun bs => ?_⟩
            obtain ⟨u', h1', h2'⟩ := aresults_run (bs' := bs) hI' hv'
            rw [h1] at h1'
            cases h1'
            exact h2'
          obtain ⟨u, h1, h2⟩ := key
          have hb0 : ([b] ++ es)[0]? = some b := rfl
          obtain ⟨_, cs', e', fz, h4, h5⟩ := hI'.mem.2 0 b cl hb0 hm'
          obtain ⟨_, ⟨cs2, e2, h6⟩, _⟩ := hI'.own 0 b (by omega) hb0
          rw [h6] at h4
          cases h4
          exact ⟨hI'.defers, u, h1, u, _, _, v, cl.toArray, he.symm, rfl, h2, fun bs => by simpa using rowpre_noPtr hnp.2 h5, h6, hI'.below⟩
      · cases he

/-- A FUNCTION's CONTRACT, OUT OF ITS TEXT. -/
theorem spec_of_body [Tok] {P : Program} {T : Tab} {D : List Oper → St → (St → Option Value) → Option Value} {hd : List (List Value)} (hT : TOk P T hd) (hD : DOk P D hd) (N : Nat) {f : Nat} {fn : Func} (hf : P.funcs[f]? = some fn) (hnm : (fn.name == "runtime.NumGoroutine") = false)
    {mem : List (List Value)} (hpre : Pre hd mem) {args : List Value} (hlen : Nat.ble args.length fn.ntmps = true) {r : Value} (h : abody P T D N fn mem args = some r) : FSpec P f mem args r := by
  unfold abody at h
  cases hb : fn.body with
  | none => simp [hb] at h
  | some c =>
    rw [hb] at h
    simp only at h
    refine ⟨⟨fn, hf, hnm, by rw [hb]; rfl⟩, fun bs w cargs hm hv => ?_⟩
    have hlen' : args.length ≤ fn.ntmps := Nat.le_of_ble_eq_true hlen
    have hl := vrows_length hv
    simp at hl
    refine calls_of_wp hf hb ?_
    have hI : Inv ⟨w.heap.size, w.heap.size, hd⟩ w bs (start fn mem args) { tmps := cargs ++ Array.replicate (fn.ntmps - cargs.size) undef, defers := [] } w := {
      defers := rfl
      frame := by
        refine ⟨by simp [start]; omega, fun t => ?_⟩
        have hs : (start fn mem args).slots.getD t dflt = (args.getD t undef, []) := by
          simp only [start, List.getD_eq_getElem?_getD, List.getElem?_append, List.getElem?_map, List.length_map, List.getElem?_replicate]
          by_cases ht : t < args.length
          · simp [ht]
          · simp only [ht, if_false, List.getElem?_eq_none (Nat.le_of_not_lt ht), Option.getD_none]
            split <;> rfl
        rw [hs]
        refine ⟨fun _ => ?_, fun h' => by cases h'⟩
        by_cases ht : t < args.length
        · have := vrows_get t hv ht
          have e : (cargs ++ Array.replicate (fn.ntmps - cargs.size) undef).getD t undef = cargs.toList.getD t undef := by
            simp only [Array.getD_eq_getD_getElem?, List.getD_eq_getElem?_getD]
            rw [Array.getElem?_append_left (by omega)]
            simp
          rw [e]
          exact this
        · have e : (cargs ++ Array.replicate (fn.ntmps - cargs.size) undef).getD t undef = undef := by
            simp only [Array.getD_eq_getD_getElem?]
            rw [Array.getElem?_append_right (by omega), Array.getElem?_replicate]
            split <;> rfl
          rw [e, List.getD_eq_getElem?_getD, List.getElem?_eq_none (Nat.le_of_not_lt ht)]
          exact vrel_undef bs
      mem := hm
      own := fun i b hi hb => by
        have := (List.getElem?_eq_some_iff.1 hb).1
        rw [hm.1] at this
        simp only [start] at hi
        omega
      ro_le := Nat.le_refl _
      below := BelowB.refl _ _
      base_le := Nat.le_refl _
      pre := hpre
      pre_ro := by obtain ⟨r, rfl⟩ := hpre; simp [start] }
    refine Go.Code.wp_mono ?_ (aCode_wp hT hD N c hI h)
    rintro e a' w' ⟨es, s', hI', he⟩
    cases e <;> simp only at he <;> first | (cases he; done) | skip
    all_goals
      obtain ⟨v, h1, h2⟩ := aresults_run (bs' := bs) hI' he
      exact ⟨hI'.defers, v, h1, v, rfl, h2, hI'.below.below (Nat.le_refl _)⟩

end Go.Ev
