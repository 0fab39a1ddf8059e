/-
  Texts with rows that are frozen ahead of a region.
-/
import Derived.Test.YtefphimaggjihaaGreatDoorC15
import Derived.Test.YtefphimaggjihaaGreatDoorC20
namespace Go.Gv
open Go.RowKit Go.Ev
noncomputable section

/-- What is told otherwise ahead of a region. -/
abbrev ZFun := St → SK → Option Out
def ZSoundN (np : Nat) (h : ZFun) : Prop := ∀ s k r, h s k = some r → ∃ s1, k s1 = some r ∧ SubN np s s1
/-- A region in its order, with what is told otherwise behind its i-th operation (key: the region's, and a thousand times i more). -/
def aopsZ (P : Program) (T : Tab) (Z : Nat → Option ZFun) (id : Nat) (ops : List Oper) : Nat → List Oper → St → SK → Option Out
  | _, [], s, k => k s
  | i, o :: rest, s, k => aopK P T ops s o fun s' => match Z (id + 1000 * (i + 1)) with
    | some h => h s' fun s2 => aopsZ P T Z id ops (i + 1) rest s2 k
    | none => aopsZ P T Z id ops (i + 1) rest s' k
def aCodeZ (P : Program) (T : Tab) (D : List Oper → St → SK → Option Out) (L : Nat → Option LFun) (Z : Nat → Option ZFun) (N : Nat) : Code → St → Kont → Option Out
  | .skip, s, k => k .normal s
  | .region id ops draw, s, k => match Z id with
    | some h => h s fun s1 => cond draw (D ops.toList s1 fun s' => k .normal (clr s')) (aopsZ P T Z id ops.toList 0 ops.toList s1 fun s' => k .normal (clr s'))
    | none => cond draw (D ops.toList s fun s' => k .normal (clr s')) (aopsZ P T Z id ops.toList 0 ops.toList s fun s' => k .normal (clr s'))
  | .seq x y, s, k => aCodeZ P T D L Z N x s fun e s' => match e with
    | .normal => aCodeZ P T D L Z N y s' k
    | e => k e s'
  | .cond c x y, s, k => cond (opdOk s.slots [] c) (match aeval s c with
    | .x (.bool b) => cond b (aCodeZ P T D L Z N x s k) (aCodeZ P T D L Z N y s k)
    | _ => none) none
  | .block id c, s, k => aCodeZ P T D L Z N c s fun e s' => match e with
    | .exit id' => cond (id' == id) (k .normal s') (k (.exit id') s')
    | e => k e s'
  | .loop c, s, k => match firstId c with
    | some i => match L i with
      | some g => g s k
      | none => rounds (fun s k => aCodeZ P T D L Z N c s k) k N s
    | none => none
  | .exit id, s, k => k (.exit id) s
  | .scope c, s, k => aCodeZ P T D L Z N c s fun e s' => match e with
    | .goto _ => none
    | e => k e s'
  | .label _, s, k => k .normal s
  | .ret, s, k => k .ret s
  | .goto l, s, k => k (.goto l) s
  | _, _, _ => none

section
variable {P : Program} {T : Tab} {D : List Oper → St → SK → Option Out} {L : Nat → Option LFun} {A0 R : Nat → Prop} {w0 : Env}
theorem aopsZ_wp {np : Nat} {Z : Nat → Option ZFun} (hZ : ∀ i h, Z i = some h → ZSoundN np h) (hp0 : Pins np A0 R w0) (hT : TOk P T) {ops : Array Oper} {Q : Exit → Act → World → Prop} {id : Nat} {k : SK} {r : Out} : ∀ (l : List Oper) (i : Nat) {E : Env} {s : St} {a : Act}, Inv A0 R w0 E s a → aopsZ P T Z id ops.toList i l s k = some r → (∀ E' a' s', Inv A0 R w0 E' s' a' → k s' = some r → Q .normal a' E'.w) → wpList P ops Q l a E.w
  | [], _, E, s, a, hI, h, hQ => hQ E a s hI h
  | o :: rest, i, E, s, a, hI, h, hQ => by
    simp only [aopsZ] at h
    obtain ⟨s1, hs, h4, _⟩ := aopK_some hT.par h
    have on : ∀ E' a', Inv A0 R w0 E' s1 a' → wpList P ops Q rest a' E'.w := fun E' a' hI' => by
      split at h4
      · rename_i z hz
        obtain ⟨s2, g1, g2⟩ := hZ _ z hz _ _ _ h4
        obtain ⟨E1, e1, g3⟩ := g2 A0 R w0 E' a' hp0 hI'
        rw [← e1]
        exact aopsZ_wp hZ hp0 hT rest (i + 1) g3 g1 hQ
      · exact aopsZ_wp hZ hp0 hT rest (i + 1) hI' h4 hQ
    rcases hs with (⟨v, mem1, h1, h2, rfl⟩ | ⟨v, rows, h1, h2, rfl⟩ | ⟨g, c, v, h1, h2, h3, h5, rfl⟩ | ⟨b, c, eff, h1, h2, h3, rfl⟩) | ⟨b, c, eff, h1, h2, h3⟩
    · exact wpList_step fun K hK => wstep_wp hT hI h1 h2 K fun E' a' hI' => hK _ _ (on E' a' hI')
    · exact wpList_step fun K hK => nstep_wp hT hI h1 h2 K fun E' a' hI' => hK _ _ (on E' a' hI')
    · exact wpList_step fun K hK => lstep_wp hT hI h1 h2 h3 h5 K fun E' a' hI' => hK _ _ (on E' a' hI')
    · exact wpList_step fun K hK => astep_wp hT.flat hI h1 h2 h3 K fun E' a' hI' => hK _ _ (on E' a' hI')
    · exact wpList_step fun K hK => fstep_wp hT hI h1 h2 h3 K fun E' a' hI' => hK _ _ (on E' a' hI')
theorem aCodeZ_wp {np : Nat} {Z : Nat → Option ZFun} (hZ : ∀ i h, Z i = some h → ZSoundN np h) (hp0 : Pins np A0 R w0) (hT : TOk P T) (hD : DOk P D) (N : Nat) (c : Code) : LOkN np P L c → ∀ {E : Env} {s : St} {k : Kont} {r : Out} {a : Act}, Inv A0 R w0 E s a → aCodeZ P T D L Z N c s k = some r → c.wp P (Post A0 R w0 k r) a E.w := by
  induction c with
  | skip => intro _ E s k r a hI h; exact wp_skip ⟨E, s, rfl, hI, h⟩
  | label l => intro _ E s k r a hI h; exact wp_label ⟨E, s, rfl, hI, h⟩
  | ret => intro _ E s k r a hI h; exact wp_ret ⟨E, s, rfl, hI, h⟩
  | exit id => intro _ E s k r a hI h; exact wp_exit ⟨E, s, rfl, hI, h⟩
  | goto l => intro _ E s k r a hI h; exact wp_goto ⟨E, s, rfl, hI, h⟩
  | refuse y => intro _ E s k r a hI h; simp [aCodeZ] at h
  | rangeFunc f ps x y ihx ihy => intro _ E s k r a hI h; simp [aCodeZ] at h
  | region id ops draw =>
    intro _ E s k r a hI h
    simp only [aCodeZ] at h
    have go : ∀ {E : Env} {s : St}, Inv A0 R w0 E s a → cond draw (D ops.toList s fun s' => k .normal (clr s')) (aopsZ P T Z id ops.toList 0 ops.toList s fun s' => k .normal (clr s')) = some r → (Code.region id ops draw).wp P (Post A0 R w0 k r) a E.w := by
      intro E s hI h
      cases draw with
      | true =>
        simp only [cond_true] at h
        obtain ⟨s1, h1, h2⟩ := hD.1 _ _ _ _ h
        exact hD.2 A0 R w0 E s s1 a id ops _ hI h2 fun E' a' hI' => ⟨E', _, rfl, hI', h1⟩
      | false =>
        simp only [cond_false] at h
        exact wp_region_list (aopsZ_wp hZ hp0 hT ops.toList 0 hI h fun E' a' s' hI' h2 => ⟨E', _, rfl, hI'.clear, h2⟩)
    split at h
    · rename_i z hz
      obtain ⟨s1, h1, h2⟩ := hZ id z hz _ _ _ h
      obtain ⟨E1, e1, h3⟩ := h2 A0 R w0 E a hp0 hI
      rw [← e1]
      exact go h3 h1
    · exact go hI h
  | seq x y ihx ihy =>
    intro hL E s k r a hI h
    simp only [aCodeZ] at h
    have hLx : LOkN np P L x := fun c' hc' => hL c' (by simp [loopsOf, hc'])
    have hLy : LOkN np P L y := fun c' hc' => hL c' (by simp [loopsOf, hc'])
    refine wp_seq (Go.Code.wp_mono ?_ (ihx hLx hI h))
    rintro e a' w' ⟨E', s', rfl, hI', he⟩
    cases e <;> simp only [Exit.then] at he ⊢
    case normal => exact ihy hLy hI' he
    all_goals exact ⟨E', s', rfl, hI', he⟩
  | cond c x y ihx ihy =>
    intro hL E s k r a hI h
    simp only [aCodeZ] at h
    have hLx : LOkN np P L x := fun c' hc' => hL c' (by simp [loopsOf, hc'])
    have hLy : LOkN np P L y := fun c' hc' => hL c' (by simp [loopsOf, hc'])
    cases ho : opdOk s.slots [] c
    · rw [ho] at h; cases h
    · rw [ho] at h
      simp only [cond_true] at h
      split at h
      · rename_i b hb
        have hv := frel_opd hI.frame (c := []) rfl c ho
        rw [hb] at hv
        refine wp_cond (t := b) (rel_bool hv) ?_
        cases b
        · exact ihy hLy hI h
        · exact ihx hLx hI h
      · cases h
  | block id c ih =>
    intro hL E s k r a hI h
    simp only [aCodeZ] at h
    refine wp_block (Go.Code.wp_mono ?_ (ih (fun c' hc' => hL c' (by simpa [loopsOf] using hc')) hI h))
    rintro e a' w' ⟨E', s', rfl, hI', he⟩
    cases e <;> simp only [Exit.inBlock] at he ⊢
    case exit id' =>
      by_cases hid : id' = id
      · rw [if_pos hid]
        have : (id' == id) = true := by simpa using hid
        rw [this] at he
        exact ⟨E', s', rfl, hI', he⟩
      · rw [if_neg hid]
        have : (id' == id) = false := by simpa using hid
        rw [this] at he
        exact ⟨E', s', rfl, hI', he⟩
    all_goals exact ⟨E', s', rfl, hI', he⟩
  | loop c ih =>
    intro hL E s k r a hI h
    simp only [aCodeZ] at h
    split at h
    · rename_i i hi
      split at h
      · rename_i g hg
        obtain ⟨hp, hs⟩ := hL c (by simp [loopsOf]) i g hi hg
        obtain ⟨e, s', h1, h2⟩ := hp s k r h
        refine Go.Code.wp_mono ?_ (hs s s' e h2 A0 R w0 E a hp0 hI)
        rintro e' a' w' ⟨rfl, E', hw, hI'⟩
        exact ⟨E', s', hw, hI', h1⟩
      · refine wp_loop_rounds N ?_
        have hLc : LOkN np P L c := fun c' hc' => hL c' (by simp [loopsOf, hc'])
        have key : ∀ (n : Nat) {E : Env} {s : St} {a : Act}, Inv A0 R w0 E s a → rounds (fun s k => aCodeZ P T D L Z N c s k) k n s = some r → Code.rounds P c (Post A0 R w0 k r) n a E.w := by
          intro n
          induction n with
          | zero => intro E s a hI h; simp [rounds] at h
          | succ n ihn =>
            intro E s a hI h
            simp only [rounds] at h
            rw [rounds_succ]
            refine Go.Code.wp_mono ?_ (ih hLc hI h)
            rintro e a' w' ⟨E', s', rfl, hI', he⟩
            cases e <;> simp only [Exit.then] at he ⊢
            case normal => exact ihn hI' he
            all_goals exact ⟨E', s', rfl, hI', he⟩
        exact key N hI h
    · cases h
  | scope c ih =>
    intro hL E s k r a hI h
    simp only [aCodeZ] at h
    refine wp_scope_straight (Go.Code.wp_mono ?_ (ih (fun c' hc' => hL c' (by simpa [loopsOf] using hc')) hI h))
    rintro e a' w' ⟨E', s', rfl, hI', he⟩
    cases e <;> simp only [Exit.noGoto] at he ⊢
    case goto l => cases he
    all_goals exact ⟨E', s', rfl, hI', he⟩
end
def abodyZ (P : Program) (T : Tab) (D : List Oper → St → SK → Option Out) (L : Nat → Option LFun) (Z : Nat → Option ZFun) (N : Nat) (fn : Func) (args : List AV) (k : AV → Option Out) : Option Out :=
  match fn.body with
  | some c => aCodeZ P T D L Z N c (start fn [] args) (retK P fn k)
  | none => none
/-- A FUNCTION's CONTRACT, OUT OF ITS TEXT. -/
theorem spec_of_bodyZ {P : Program} {T : Tab} {D : List Oper → St → SK → Option Out} {L : Nat → Option LFun} {Z : Nat → Option ZFun} (hZ : ∀ i h, Z i = some h → ZSoundN 0 h) (hT : TOk P T) (hD : DOk P D) (N : Nat) {f : Nat} {fn : Func} (hf : P.funcs[f]? = some fn) (hnm : (fn.name == "runtime.NumGoroutine") = false) {c : Code} (hb : fn.body = some c) (hL : LOk P L c)
    {args : List AV} (hlen : Nat.ble args.length fn.ntmps = true) {r : AV} (h : abodyZ P T D L Z N fn args (fun v => some (Out.of v)) = some (Out.of r)) : FSpec P f args r := by
  unfold abodyZ at h
  rw [hb] at h
  simp only at h
  refine ⟨⟨fn, hf, hnm, by rw [hb]; rfl⟩, fun A w cargs hA hv hg => ?_⟩
  have hlen' : args.length ≤ fn.ntmps := Nat.le_of_ble_eq_true hlen
  refine calls_of_wp hf hb ?_
  have hI : Inv A (fun _ => False) ⟨w, A, fun _ => none⟩ ⟨w, A, fun _ => none⟩ (start fn [] args) { tmps := cargs ++ Array.replicate (fn.ntmps - cargs.size) undef, defers := [] } :=
    ⟨rfl, start_frel hg hv hlen', ⟨fun _ _ _ hb => (by cases hb), hA, fun _ hb => hb, fun _ _ _ hb => (by cases hb), fun _ _ _ _ _ hb => (by cases hb), BelowR.refl _ _, Env.le.refl _⟩⟩
  refine Go.Code.wp_mono ?_ (aCodeZ_wp (np := 0) hZ ⟨fun _ _ => rfl, fun _ h => h.elim, hA⟩ hT hD N c hL hI h)
  rintro e a' w' ⟨E', s', rfl, hI', he⟩
  cases e <;> simp only [retK] at he <;> first | (cases he; done) | skip
  all_goals
    split at he
    · rename_i x hx
      simp only [Out.of, Option.some.injEq, Out.mk.injEq, true_and] at he
      subst he
      obtain ⟨v, h1, h2⟩ := aresults_run hI' hA hx
      exact ⟨hI'.defers, v, h1, v, rfl, h2, hI'.wd.below.os, hI'.wd.below.tape, hI'.wd.below.output, hI'.wd.below.size, fun k hk => hI'.wd.below.block k hk (fun e => e)⟩
    · cases he
def frzV (k sz n : Nat) (el : Nat → List AV) : AV → AV
  | .osl k' sz' st len => cond (Nat.beq k' k) (.sl sz n el) (.osl k' sz' st len)
  | x => x
def frzW (k sz n : Nat) : AV → Bool
  | .osl k' sz' st len => cond (Nat.beq k' k) (Nat.beq sz' sz && (Nat.beq st 0 && Nat.beq len n)) true
  | _ => true
def frzRow (k sz n : Nat) (el : Nat → List AV) : Row → Row
  | .c l => .c (l.map (frzV k sz n el))
  | r => r
def frzRW (k sz n : Nat) : Row → Bool
  | .c l => l.all (frzW k sz n)
  | _ => true
def frzK (k : Nat) : ZFun := fun s kont => match s.mem[k]? with
  | some (.a _ sz n el) => cond (s.slots.all (fun q => q.2.isEmpty && frzW k sz n q.1) && s.mem.all (frzRW k sz n)) (kont ⟨s.slots.map fun q => (frzV k sz n el q.1, q.2), (s.mem.map (frzRow k sz n el)).set k .dead⟩) none
  | _ => none
theorem frzV_ok {k sz n : Nat} {el : Nat → List AV} {x : AV} (h : frzW k sz n x = true) : frzV k sz n el x = x ∨ (x = .osl k sz 0 n ∧ frzV k sz n el x = .sl sz n el) := by
  cases x <;> try exact Or.inl rfl
  rename_i k' sz' st len
  cases hk : Nat.beq k' k
  · left; simp only [frzV, hk, cond_false]
  · right
    simp only [frzW, hk, cond_true, Bool.and_eq_true] at h
    have e0 := Nat.eq_of_beq_eq_true hk
    have e1 := Nat.eq_of_beq_eq_true h.1
    have e2 := Nat.eq_of_beq_eq_true h.2.1
    have e3 := Nat.eq_of_beq_eq_true h.2.2
    subst e0 e1 e2 e3
    exact ⟨rfl, by simp only [frzV, hk, cond_true]⟩
theorem frzL_of {k sz n : Nat} {el : Nat → List AV} : ∀ {l : List AV}, l.all (frzW k sz n) = true → FrzL k sz n el l (l.map (frzV k sz n el))
  | [], _ => trivial
  | x :: xs, h => by
    simp only [List.all_cons, Bool.and_eq_true] at h
    exact ⟨frzV_ok h.1, frzL_of h.2⟩
theorem frzK_ok (k : Nat) : ZSoundN 0 (frzK k) := fun s kont r h => by
  unfold frzK at h
  split at h
  · rename_i e sz n el hk
    cases hb : (s.slots.all (fun q => q.2.isEmpty && frzW k sz n q.1) && s.mem.all (frzRW k sz n))
    · rw [hb] at h; cases h
    · rw [hb] at h
      simp only [cond_true] at h
      simp only [Bool.and_eq_true] at hb
      refine ⟨_, h, ?_⟩
      have hkl : k < s.mem.length := (List.getElem?_eq_some_iff.1 hk).1
      have hslot : ∀ t, (s.slots.getD t dflt).2 = [] ∧ ((s.slots.map fun q => (frzV k sz n el q.1, q.2)).getD t dflt = s.slots.getD t dflt ∨ ((s.slots.getD t dflt).1 = .osl k sz 0 n ∧ (s.slots.map fun q => (frzV k sz n el q.1, q.2)).getD t dflt = (.sl sz n el, []))) := fun t => by
        simp only [List.getD_eq_getElem?_getD, List.getElem?_map]
        cases hq : s.slots[t]? with
        | none => exact ⟨rfl, Or.inl rfl⟩
        | some q =>
          have := (List.all_eq_true.1 hb.1) q (List.mem_of_getElem? hq)
          simp only [Bool.and_eq_true] at this
          have hc : q.2 = [] := by simpa using this.1
          refine ⟨hc, ?_⟩
          simp only [Option.map_some, Option.getD_some]
          rcases frzV_ok (el := el) this.2 with h1 | ⟨h1, h2⟩
          · left; rw [h1]
          · right; exact ⟨h1, by rw [h2, hc]⟩
      refine sub_freezeS (slots := s.slots) (mem := s.mem) hk (fun j row hj => ?_) (by simp) (fun t => (hslot t).1) fun t => (hslot t).2
      by_cases e1 : j = k
      · subst e1
        exact ⟨.dead, by rw [List.getElem?_set_self (by simpa using hkl)], Or.inl ⟨rfl, rfl⟩⟩
      · refine ⟨frzRow k sz n el row, by rw [List.getElem?_set_ne (by omega), List.getElem?_map, hj]; rfl, Or.inr ⟨e1, ?_⟩⟩
        have hrw := (List.all_eq_true.1 hb.2) row (List.mem_of_getElem? hj)
        cases row with
        | c l => exact Or.inr ⟨l, _, rfl, rfl, frzL_of hrw⟩
        | a _ _ _ _ => exact Or.inl rfl
        | dead => exact Or.inl rfl
        | z _ _ _ _ => exact Or.inl rfl
        | t _ _ => exact Or.inl rfl
        | i _ _ _ => exact Or.inl rfl
  · cases h
def oneZ (i : Nat) (h : ZFun) : Nat → Option ZFun := fun j => cond (Nat.beq j i) (some h) none
theorem oneZ_ok {np i : Nat} {h : ZFun} (hh : ZSoundN np h) : ∀ j g, oneZ i h j = some g → ZSoundN np g := fun j g hg => by
  unfold oneZ at hg
  cases hb : Nat.beq j i
  · rw [hb] at hg; cases hg
  · rw [hb] at hg; cases hg; exact hh
end
end Go.Gv
