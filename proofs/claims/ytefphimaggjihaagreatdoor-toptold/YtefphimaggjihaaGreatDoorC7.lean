/-
  The second evaluator, part Gd.
-/
import Derived.Test.YtefphimaggjihaaGreatDoorC6
import Derived.LoopN
import Derived.Scope
namespace Go.Gv
open Go.RowKit Go.Ev
noncomputable section

def Out.of (v : AV) : Out := ⟨.normal, ⟨[], []⟩, v⟩
def Tab.flat (T : Tab) : Tab where
  f := fun f args => match T.k f with
    | some g => (g args fun v => some (Out.of v)).map Out.v
    | none => T.f f args
  k := fun _ => none
  m := T.m
  n := T.n
  w := T.w
  r := T.r
theorem TOk.flat {P : Program} {T : Tab} (h : TOk P T) : TOk P T.flat := by
  refine ⟨⟨fun f args r hr => ?_, fun f g hg => by cases hg⟩, h.2⟩
  simp only [Tab.flat] at hr
  split at hr
  · rename_i g hg
    cases hx : g args fun v => some (Out.of v) with
    | none => rw [hx] at hr; cases hr
    | some x =>
      rw [hx] at hr
      obtain ⟨v, h1, h2⟩ := (h.1.2 f g hg).1 args _ x hx
      simp only [Option.some.injEq] at h1
      simp only [Option.map_some, Option.some.injEq] at hr
      subst h1
      rw [show v = r from hr] at h2
      exact (h.1.2 f g hg).2 args r h2
  · exact h.1.1 f args r hr
def TPar (T : Tab) : Prop := ∀ f g, T.k f = some g → KPar g
theorem TOk.par {P : Program} {T : Tab} (h : TOk P T) : TPar T := fun f g hg => (h.1.2 f g hg).1

def rowsOf : AV → List Nat
  | .own k _ => [k]
  | .eown k _ _ _ => [k]
  | .osl k _ _ _ => [k]
  | .view k _ _ _ _ => [k]
  | _ => []
/-- Rows that an operation looks at, that writes nothing. -/
def rdOf (s : St) (o : Oper) : List Nat := match o.op with
  | .load _ x => rowsOf (aeval s x)
  | .convert _ _ x => rowsOf (aeval s x)
  | _ => []
/-- A test at most; and that it holds. -/
def shortC : Chain → Bool
  | [] => true
  | [_] => true
  | _ => false
def guardB (slots : List (AV × Chain)) : Chain → Bool → Bool
  | [], b => b
  | p :: _, b => b && trp slots p
theorem guardB_true {slots F : List (AV × Chain)} {ops : List Oper} {o : Oper} {c : Chain} {b : Bool} (hc : opChain ops slots o = some c) (hs : shortC c = true) (hb : guardB slots c b = true) (hF : ∀ t, t ∈ testsOf ops o → (F.getD t dflt).1 = (slots.getD t dflt).1) : b = true ∧ tru F c = true := by
  match c, hs with
  | [], _ => exact ⟨hb, rfl⟩
  | [p], _ =>
    simp only [guardB, Bool.and_eq_true] at hb
    refine ⟨hb.1, ?_⟩
    have hp : p.1 ∈ testsOf ops o := by
      unfold opChain at hc
      cases hg : o.guard with
      | none => rw [hg] at hc; cases hc
      | some gw =>
        obtain ⟨j, want⟩ := gw
        rw [hg] at hc
        simp only at hc
        cases hj : ops[j]? with
        | none => rw [hj] at hc; cases hc
        | some oj =>
          rw [hj] at hc
          simp only at hc
          cases hd : oj.dst with
          | none => rw [hd] at hc; cases hc
          | some d =>
            rw [hd] at hc
            simp only at hc
            split at hc
            · simp only [Option.some.injEq, List.cons.injEq] at hc
              rw [← hc.1]
              simp [testsOf, hg, hj, hd]
            · cases hc
    unfold tru
    simp only [List.all_cons, List.all_nil, Bool.and_true]
    have h2 := hb.2
    unfold trp at h2 ⊢
    rw [hF _ hp]
    exact h2
/-- A slice that is built and told as frozen: it may stand under a guard, as what is only worked out. -/
def bareB (o : Oper) (eff : Eff) : Bool := match o.op with
  | .buildSlice _ _ _ => eff.nw.isNone && eff.wr.isNone
  | _ => false
theorem bareB_mem {o : Oper} {eff : Eff} (h : bareB o eff = true) : eff.nw = none ∧ eff.wr = none := by
  unfold bareB at h
  split at h
  · simp only [Bool.and_eq_true, Option.isNone_iff_eq_none] at h
    exact h
  · cases h
def astep (P : Program) (T : Tab) (ops : List Oper) (s : St) (nk : Nat) (o : Oper) : Option (Bool × Chain × Eff) :=
  match acalc P T ops s o with
  | some (b, c, v) => some (b, c, ⟨v, rdOf s o, none, none⟩)
  | none => match opChain ops s.slots o with
    | some c => cond (shortC c && o.op.operands.toList.all (opdOk s.slots c)) (match awr P T s nk o with
      | some (b, eff) => cond (bareB o eff) (some (b, c, eff)) (some (guardB s.slots c b, [], eff))
      | none => none) none
    | none => none
def Eff.mem (eff : Eff) (mem : List Row) : List Row := (match eff.wr with
  | some (k, row) => mem.set k row
  | none => mem) ++ eff.nw.toList
def putE (s : St) (dst : Option Nat) (c : Chain) (eff : Eff) : St := ⟨putS s.slots dst (eff.v, c), eff.mem s.mem⟩

/-- What is known of a frame and of the world, from the call's beginning on. -/
structure Inv (A0 R : Nat → Prop) (w0 : Env) (E : Env) (s : St) (a : Act) : Prop where
  defers : a.defers = []
  frame : frel E s.slots s.slots a.tmps
  wd : Wd A0 R w0 E s.mem
theorem Wd.dom {A0 R : Nat → Prop} {w0 : Env} {E : Env} {mem : List Row} (h : Wd A0 R w0 E mem) : ∀ k b c, E.O k = some (b, c) → k < mem.length := fun k b c hb => by
  obtain ⟨row, hr, _⟩ := h.rows k b c hb
  exact (List.getElem?_eq_some_iff.1 hr).1

theorem frel_le {E E' : Env} (h : E.le E') {F s : List (AV × Chain)} {tmps : Array Value} (hf : frel E F s tmps) : frel E' F s tmps :=
  ⟨⟨hf.1.1, glob_le h hf.1.2⟩, fun t => ⟨fun ht => rel_le h ((hf.2 t).1 ht), (hf.2 t).2⟩⟩
theorem put_defers (a : Act) (dst : Option Nat) (v : Value) : (a.put dst v).defers = a.defers := by cases dst <;> rfl

section
variable {P : Program} {T : Tab} {A0 R : Nat → Prop} {w0 : Env} {E : Env} {s : St} {a : Act} {ops : Array Oper} {o : Oper} {Q : Exit → Act → World → Prop}
theorem wanted_none (h : o.guard.isNone = true) : Region.wanted o (yielded ops a.tmps) = true := by
  unfold Region.wanted
  cases hg : o.guard with
  | none => rfl
  | some g => rw [hg] at h; cases h
theorem appOk_text {eff : Eff} (hdom : ∀ k b c, E.O k = some (b, c) → k < s.mem.length) : AppOk E s.mem (eff.mem s.mem) s.mem.length eff := by
  refine ⟨fun k _ b c hb => ?_, fun row hr => ?_⟩
  · have hk := hdom k b c hb
    unfold Eff.mem
    cases hw : eff.wr with
    | none => simp only [List.getElem?_append_left hk]
    | some p =>
      obtain ⟨k', row⟩ := p
      simp only
      rw [List.getElem?_append_left (by simpa using hk), List.getElem?_set]
      by_cases hkk : k' = k
      · subst hkk; simp [hk]
      · rw [if_neg hkk, if_neg (fun e => hkk e.symm)]
  · unfold Eff.mem
    rw [hr]
    cases hw : eff.wr with
    | none => simp
    | some p =>
      obtain ⟨k', row'⟩ := p
      simp

/-- ONE OPERATION, in the order of the text. -/
theorem astep_wp (hT : TOk P T) (hI : Inv A0 R w0 E s a) {b : Bool} {c : Chain} {eff : Eff} (h : astep P T ops.toList s s.mem.length o = some (b, c, eff)) (hd : dstOk s.slots c o.dst = true) (hb : tru s.slots c = true → b = true)
    (K : Act → World → Prop) (hK : ∀ E' a', Inv A0 R w0 E' (putE s o.dst c eff) a' → K a' E'.w) : if Region.wanted o (yielded ops a.tmps) then o.wp P a E.w K Q else K (a.put o.dst undef) E.w := by
  unfold astep at h
  cases hc : acalc P T ops.toList s o with
  | some r =>
    obtain ⟨b', c', v⟩ := r
    rw [hc] at h
    simp only [Option.some.injEq, Prod.mk.injEq] at h
    obtain ⟨rfl, rfl, rfl⟩ := h
    have hmem : (Eff.mem ⟨v, rdOf s o, none, none⟩ s.mem) = s.mem := by simp [Eff.mem]
    obtain ⟨h1, h2⟩ := acalc_core hT.1 hI.frame hI.wd.rows hI.wd.small (fun _ _ => rfl) hc hb
    rw [h1]
    cases ht : tru s.slots c'
    · rw [if_neg (by simp)]
      refine hK E _ ⟨by rw [put_defers]; exact hI.defers, frel_put hI.frame hd (fun h => by rw [ht] at h; cases h) (fun _ => rfl), ?_⟩
      simp only [putE, hmem]; exact hI.wd
    · rw [if_pos rfl]
      refine good_wp (h2 ht) fun u w' hu hbl => ?_
      obtain ⟨hw1, hw2⟩ := hI.wd.on hbl
      refine hK { E with w := w' } _ ⟨by rw [put_defers]; exact hI.defers, frel_put (frel_le hw2 hI.frame) hd (fun _ => hu) (fun h => by rw [ht] at h; cases h), ?_⟩
      simp only [putE, hmem]; exact hw1
  | none =>
    rw [hc] at h
    simp only at h
    cases hch : opChain ops.toList s.slots o with
    | none => rw [hch] at h; cases h
    | some c0 =>
    rw [hch] at h
    simp only at h
    cases hk : (shortC c0 && o.op.operands.toList.all (opdOk s.slots c0))
    · rw [hk] at h; cases h
    · rw [hk] at h
      simp only [cond_true] at h
      simp only [Bool.and_eq_true] at hk
      cases hw : awr P T s s.mem.length o with
      | none => rw [hw] at h; cases h
      | some r =>
        obtain ⟨b', eff'⟩ := r
        rw [hw] at h
        simp only at h
        have hnk : E.O s.mem.length = none := by
          cases hx : E.O s.mem.length with
          | none => rfl
          | some p => exact absurd (hI.wd.dom _ p.1 p.2 hx) (Nat.lt_irrefl _)
        cases hbare : bareB o eff'
        case true =>
          rw [hbare] at h
          simp only [cond_true, Option.some.injEq, Prod.mk.injEq] at h
          obtain ⟨rfl, rfl, rfl⟩ := h
          obtain ⟨hn, hwr⟩ := bareB_mem hbare
          have hmem : Eff.mem eff' s.mem = s.mem := by unfold Eff.mem; rw [hn, hwr]; simp
          rw [opChain_wanted hI.frame (fun _ _ => rfl) hch]
          cases ht : tru s.slots c0
          · rw [if_neg (by simp)]
            refine hK E _ ⟨by rw [put_defers]; exact hI.defers, frel_put hI.frame hd (fun h => by rw [ht] at h; cases h) (fun _ => rfl), ?_⟩
            simp only [putE, hmem]; exact hI.wd
          · rw [if_pos rfl]
            have hbt := hb ht
            subst hbt
            have hops := hk.2
            rw [List.all_eq_true] at hops
            refine awr_wp hT hI.frame.1.2 hI.wd hnk (fun y hy => frel_opd hI.frame ht y (hops y (by simpa using hy))) hw (appOk_text hI.wd.dom) fun E' u hle _ hW' hr => ?_
            exact hK E' _ ⟨by rw [put_defers]; exact hI.defers, frel_put (frel_le hle hI.frame) hd (fun _ => hr) (fun h => by rw [ht] at h; cases h), hW'⟩
        case false =>
        rw [hbare] at h
        simp only [cond_false, Option.some.injEq, Prod.mk.injEq] at h
        obtain ⟨rfl, rfl, rfl⟩ := h
        obtain ⟨hbt, htr⟩ := guardB_true (F := s.slots) hch hk.1 (hb rfl) fun _ _ => rfl
        subst hbt
        rw [if_pos ((opChain_wanted hI.frame (fun _ _ => rfl) hch).trans htr)]
        have hops := hk.2
        rw [List.all_eq_true] at hops
        refine awr_wp hT hI.frame.1.2 hI.wd hnk (fun y hy => frel_opd hI.frame htr y (hops y (by simpa using hy))) hw (appOk_text hI.wd.dom) fun E' u hle _ hW' hr => ?_
        exact hK E' _ ⟨by rw [put_defers]; exact hI.defers, frel_put (frel_le hle hI.frame) hd (fun _ => hr) (fun h => by cases h), hW'⟩
end
end
end Go.Gv

namespace Go.Gv
open Go.RowKit Go.Ev
noncomputable section

abbrev SK := St → Option Out
abbrev Kont := Exit → St → Option Out

/-- The function of a call that goes on by cases, and what is handed to it. -/
def aopC (P : Program) (T : Tab) (s : St) (o : Oper) : Option ((AV → Option Out) → Option Out) :=
  match o.op with
  | .call c => match c.callee with
    | .builtin _ => none
    | _ => match acallee P s c with
      | some (f, args) => match T.k f with
        | some g => cond (noOwns args) (some (g args)) none
        | none => none
      | none => none
  | _ => none
/-- A call that hands back several new rows. -/
def aopN (T : Tab) (s : St) (nk : Nat) (o : Oper) : Option (Bool × AV × List Row) :=
  match o.op with
  | .call c => match c.callee with
    | .value (.func f) => match T.n f with
      | some g => g (c.args.toList.map (aeval s)) nk
      | none => none
    | _ => none
  | _ => none
def nOk (s : St) (o : Oper) : Bool := o.guard.isNone && (o.op.operands.toList.all (opdOk s.slots []) && dstOk s.slots [] o.dst)
/-- A call that goes on by cases, with rows of ours that are lent. -/
def aopL (T : Tab) (s : St) (o : Oper) : Option (Bool × ((AV → Option Out) → Option Out)) :=
  match o.op with
  | .call c => match c.callee with
    | .value (.func f) => match T.k f with
      | some g => match T.m f with
        | some _ => none
        | none => cond (noOwns (c.args.toList.map (aeval s))) none (some (lendBL s.mem (c.args.toList.map (aeval s)), fun k => g (lendL s.mem (c.args.toList.map (aeval s))) fun v => cond (plainA v) (k v) none))
      | none => none
    | _ => none
  | _ => none
/-- A call that is handed all of our rows. -/
def aopW (T : Tab) (s : St) (o : Oper) : Option (Bool × AV × List Row) :=
  match o.op with
  | .call c => match c.callee with
    | .value x => match aeval s x with
      | .fn (.func f) [] [] => match T.w f with
        | some g => g (c.args.toList.map (aeval s)) s.mem
        | none => none
      | _ => none
    | _ => none
  | _ => none
def aopK0 (P : Program) (T : Tab) (ops : List Oper) (s : St) (o : Oper) (k : SK) : Option Out :=
  match aopW T s o with
  | some (b, v, mem1) => cond (nOk s o) (cond b (k ⟨putS s.slots o.dst (v, []), mem1⟩) none) none
  | none => match aopN T s s.mem.length o with
  | some (b, v, rows) => cond (nOk s o) (cond b (k ⟨putS s.slots o.dst (v, []), s.mem ++ rows⟩) none) none
  | none => match aopL T s o with
  | some (b, g) => match opChain ops s.slots o with
    | some c => cond (o.op.operands.toList.all (opdOk s.slots c) && dstOk s.slots c o.dst) (cond b (g fun v => k { s with slots := putS s.slots o.dst (v, c) }) none) none
    | none => none
  | none => match aopC P T s o with
  | some g => match opChain ops s.slots o with
    | some c => cond (o.op.operands.toList.all (opdOk s.slots c) && dstOk s.slots c o.dst) (g fun v => k { s with slots := putS s.slots o.dst (v, c) }) none
    | none => none
  | none => match astep P T.flat ops s s.mem.length o with
    | some (b, c, eff) => cond (dstOk s.slots c o.dst) (cond (b || !tru s.slots c) (k (putE s o.dst c eff)) none) none
    | none => none
/-- The mark: what is written under a guard is gone on with by cases. -/
def forkK : Nat := 2000000
def aopF (P : Program) (T : Tab) (ops : List Oper) (s : St) (o : Oper) : Option (Bool × Chain × Eff) :=
  match T.m forkK with
  | none => none
  | some _ => match acalc P T.flat ops s o with
    | some _ => none
    | none => match opChain ops s.slots o with
      | some (p :: ps) => cond (o.op.operands.toList.all (opdOk s.slots (p :: ps))) (match awr P T.flat s s.mem.length o with
        | some (b, eff) => some (b, p :: ps, eff)
        | none => none) none
      | _ => none
def aopK (P : Program) (T : Tab) (ops : List Oper) (s : St) (o : Oper) (k : SK) : Option Out :=
  match aopF P T ops s o with
  | some (b, c, eff) => cond (dstOk s.slots c o.dst) (cond (tru s.slots c) (cond b (k (putE s o.dst c eff)) none) (k ⟨putS s.slots o.dst (eff.v, c), s.mem⟩)) none
  | none => aopK0 P T ops s o k
def aopsK (P : Program) (T : Tab) (ops : List Oper) : List Oper → St → SK → Option Out
  | [], s, k => k s
  | o :: rest, s, k => aopK P T ops s o fun s' => aopsK P T ops rest s' k
/-- One operation leads from what is known to what is known. -/
def AStep0 (P : Program) (T : Tab) (ops : List Oper) (s : St) (o : Oper) (s' : St) : Prop :=
  (∃ v mem1, aopW T s o = some (true, v, mem1) ∧ nOk s o = true ∧ s' = ⟨putS s.slots o.dst (v, []), mem1⟩) ∨
  (∃ v rows, aopN T s s.mem.length o = some (true, v, rows) ∧ nOk s o = true ∧ s' = ⟨putS s.slots o.dst (v, []), s.mem ++ rows⟩) ∨
  (∃ g c v, aopL T s o = some (true, g) ∧ (∀ k', g k' = k' v) ∧ opChain ops s.slots o = some c ∧ (o.op.operands.toList.all (opdOk s.slots c) && dstOk s.slots c o.dst) = true ∧ s' = { s with slots := putS s.slots o.dst (v, c) }) ∨ ∃ b c eff, astep P T.flat ops s s.mem.length o = some (b, c, eff) ∧ dstOk s.slots c o.dst = true ∧ (tru s.slots c = true → b = true) ∧ s' = putE s o.dst c eff
def AStep (P : Program) (T : Tab) (ops : List Oper) (s : St) (o : Oper) (s' : St) : Prop :=
  AStep0 P T ops s o s' ∨ ∃ b c eff, aopF P T ops s o = some (b, c, eff) ∧ dstOk s.slots c o.dst = true ∧ ((tru s.slots c = true ∧ b = true ∧ s' = putE s o.dst c eff) ∨ (tru s.slots c = false ∧ s' = ⟨putS s.slots o.dst (eff.v, c), s.mem⟩))
def ASteps (P : Program) (T : Tab) (ops : List Oper) : List Oper → St → St → Prop
  | [], s, s' => s = s'
  | o :: rest, s, s' => ∃ s1, AStep P T ops s o s1 ∧ ASteps P T ops rest s1 s'

theorem aopL_par {T : Tab} {s : St} {o : Oper} {b : Bool} {g : (AV → Option Out) → Option Out} {k : AV → Option Out} {r : Out} (hT : TPar T) (hL : aopL T s o = some (b, g)) (h : g k = some r) : ∃ v, k v = some r ∧ ∀ k', g k' = k' v := by
  unfold aopL at hL
  split at hL
  · rename_i c hop
    split at hL
    · rename_i f hcal
      split at hL
      · rename_i g' hg
        split at hL
        · cases hL
        · cases hno : noOwns (c.args.toList.map (aeval s))
          · rw [hno] at hL
            simp only [cond_false, Option.some.injEq, Prod.mk.injEq] at hL
            obtain ⟨_, rfl⟩ := hL
            obtain ⟨v, h1, h2⟩ := hT f g' hg _ _ r h
            cases hp : plainA v
            · rw [hp] at h1; cases h1
            · rw [hp] at h1
              exact ⟨v, h1, fun k' => (h2 _).trans (by simp only [hp, cond_true])⟩
          · rw [hno] at hL; cases hL
      · cases hL
    · cases hL
  · cases hL
theorem aopK0_some {P : Program} {T : Tab} {ops : List Oper} {s : St} {o : Oper} {k : SK} {r : Out} (hT : TPar T) (h : aopK0 P T ops s o k = some r) : ∃ s', AStep0 P T ops s o s' ∧ k s' = some r ∧ ∀ k', aopK0 P T ops s o k' = k' s' := by
  unfold aopK0 at h
  cases hWW : aopW T s o with
  | some q =>
    obtain ⟨b, v, mem1⟩ := q
    rw [hWW] at h
    simp only at h
    cases hk : nOk s o
    · rw [hk] at h; cases h
    · rw [hk] at h
      simp only [cond_true] at h
      cases b
      · cases h
      · simp only [cond_true] at h
        refine ⟨_, Or.inl ⟨v, mem1, hWW, hk, rfl⟩, h, fun k' => ?_⟩
        unfold aopK0
        simp only [hWW, hk, cond_true]
  | none =>
  rw [hWW] at h
  simp only at h
  cases hN : aopN T s s.mem.length o with
  | some q =>
    obtain ⟨b, v, rows⟩ := q
    rw [hN] at h
    simp only at h
    cases hk : nOk s o
    · rw [hk] at h; cases h
    · rw [hk] at h
      simp only [cond_true] at h
      cases b
      · cases h
      · simp only [cond_true] at h
        refine ⟨_, Or.inr (Or.inl ⟨v, rows, hN, hk, rfl⟩), h, fun k' => ?_⟩
        unfold aopK0
        simp only [hWW, hN, hk, cond_true]
  | none =>
  rw [hN] at h
  simp only at h
  cases hL : aopL T s o with
  | some q =>
    obtain ⟨b, g⟩ := q
    rw [hL] at h
    simp only at h
    cases hch : opChain ops s.slots o with
    | none => rw [hch] at h; cases h
    | some c =>
    rw [hch] at h
    simp only at h
    cases hk : (o.op.operands.toList.all (opdOk s.slots c) && dstOk s.slots c o.dst)
    · rw [hk] at h; cases h
    · rw [hk] at h
      simp only [cond_true] at h
      cases b
      · cases h
      · simp only [cond_true] at h
        have hpar := aopL_par hT hL h
        obtain ⟨v, h1, h2⟩ := hpar
        refine ⟨_, Or.inr (Or.inr (Or.inl ⟨g, c, v, hL, h2, hch, hk, rfl⟩)), h1, fun k' => ?_⟩
        unfold aopK0
        simp only [hWW, hN, hL, hch, hk, cond_true, h2]
  | none =>
  rw [hL] at h
  simp only at h
  cases hC : aopC P T s o with
  | none =>
    rw [hC] at h
    simp only at h
    cases hd : astep P T.flat ops s s.mem.length o with
    | none => rw [hd] at h; cases h
    | some p =>
      obtain ⟨b, c, eff⟩ := p
      rw [hd] at h
      simp only at h
      cases hk : dstOk s.slots c o.dst
      · rw [hk] at h; cases h
      · rw [hk] at h
        simp only [cond_true] at h
        cases hb : (b || !tru s.slots c)
        · rw [hb] at h; cases h
        · rw [hb] at h
          simp only [cond_true] at h
          refine ⟨_, Or.inr (Or.inr (Or.inr ⟨b, c, eff, hd, hk, fun ht => ?_, rfl⟩)), h, fun k' => ?_⟩
          · rw [ht] at hb; simpa using hb
          · unfold aopK0; simp only [hWW, hN, hL, hC, hd, hk, hb, cond_true]
  | some g =>
    rw [hC] at h
    simp only at h
    cases hch : opChain ops s.slots o with
    | none => rw [hch] at h; cases h
    | some c =>
    rw [hch] at h
    simp only at h
    cases hc : (o.op.operands.toList.all (opdOk s.slots c) && dstOk s.slots c o.dst)
    · rw [hc] at h; cases h
    · rw [hc] at h
      simp only [cond_true] at h
      have hC' := hC
      unfold aopC at hC
      split at hC
      · rename_i cl hop
        split at hC
        · cases hC
        · rename_i hnb
          split at hC
          · rename_i f args hcal
            split at hC
            · rename_i g' hg
              cases hno : noOwns args
              · rw [hno] at hC; cases hC
              · rw [hno] at hC
                simp only [cond_true, Option.some.injEq] at hC
                subst hC
                obtain ⟨v, h1, h2⟩ := hT f g' hg args _ r h
                have hc0 := hc
                simp only [Bool.and_eq_true] at hc
                obtain ⟨hops, hdd⟩ := hc
                refine ⟨_, Or.inr (Or.inr (Or.inr ⟨true, c, ⟨v, [], none, none⟩, ?_, hdd, fun _ => rfl, rfl⟩)), ?_, fun k' => ?_⟩
                · have hTf : T.flat.f f args = some v := by
                    simp only [Tab.flat, hg]
                    rw [h2]
                    rfl
                  have hval : aval P T.flat s o = some (true, v) := by
                    unfold aval
                    rw [hop]
                    simp only
                    split
                    · rename_i hbi; exact absurd hbi (hnb _)
                    · rename_i hbi; exact absurd hbi (hnb _)
                    · rename_i hbi; exact absurd hbi (hnb _)
                    · rename_i hbi; exact absurd hbi (hnb _)
                    · rename_i hbi; exact absurd hbi (hnb _)
                    · rename_i hbi; exact absurd hbi (hnb _)
                    · rw [hcal]; simp only [hno, cond_true, hTf, Option.map_some]
                  have hcalc : acalc P T.flat ops s o = some (true, c, v) := by
                    unfold acalc
                    simp only [hch]
                    split
                    · rename_i g x y hop'; rw [hop] at hop'; cases hop'
                    · rw [hops, hval]; rfl
                  unfold astep
                  rw [hcalc]
                  simp only [rdOf, hop]
                · simpa [putE, Eff.mem] using h1
                · unfold aopK0
                  rw [hWW]
                  simp only
                  rw [hN]
                  simp only
                  rw [hL]
                  simp only
                  rw [hC']
                  simp only [hch]
                  rw [hc0]
                  simp only [cond_true]
                  rw [h2]
                  simp [putE, Eff.mem]
            · cases hC
          · cases hC
      · cases hC
theorem aopK_some {P : Program} {T : Tab} {ops : List Oper} {s : St} {o : Oper} {k : SK} {r : Out} (hT : TPar T) (h : aopK P T ops s o k = some r) : ∃ s', AStep P T ops s o s' ∧ k s' = some r ∧ ∀ k', aopK P T ops s o k' = k' s' := by
  unfold aopK at h
  cases hF : aopF P T ops s o with
  | none =>
    rw [hF] at h
    obtain ⟨s', h1, h2, h3⟩ := aopK0_some hT h
    exact ⟨s', Or.inl h1, h2, fun k' => by unfold aopK; rw [hF]; exact h3 k'⟩
  | some q =>
    obtain ⟨b, c, eff⟩ := q
    rw [hF] at h
    simp only at h
    cases hk : dstOk s.slots c o.dst
    · rw [hk] at h; cases h
    · rw [hk] at h
      simp only [cond_true] at h
      cases ht : tru s.slots c
      · rw [ht] at h
        simp only [cond_false] at h
        refine ⟨_, Or.inr ⟨b, c, eff, hF, hk, Or.inr ⟨ht, rfl⟩⟩, h, fun k' => ?_⟩
        unfold aopK
        simp only [hF, hk, ht, cond_true, cond_false]
      · rw [ht] at h
        simp only [cond_true] at h
        cases b
        · cases h
        · simp only [cond_true] at h
          refine ⟨_, Or.inr ⟨true, c, eff, hF, hk, Or.inl ⟨ht, rfl, rfl⟩⟩, h, fun k' => ?_⟩
          unfold aopK
          simp only [hF, hk, ht, cond_true]
theorem aopsK_some {P : Program} {T : Tab} {ops : List Oper} {r : Out} (hT : TPar T) : ∀ {l : List Oper} {s : St} {k : SK}, aopsK P T ops l s k = some r → ∃ s', ASteps P T ops l s s' ∧ k s' = some r ∧ ∀ k', aopsK P T ops l s k' = k' s'
  | [], s, k, h => ⟨s, rfl, h, fun _ => rfl⟩
  | o :: rest, s, k, h => by
    simp only [aopsK] at h
    obtain ⟨s1, h1, h2, h3⟩ := aopK_some hT h
    obtain ⟨s2, h4, h5, h6⟩ := aopsK_some hT h2
    exact ⟨s2, ⟨s1, h1, h4⟩, h5, fun k' => by simp only [aopsK]; rw [h3]; exact h6 k'⟩
section
variable {P : Program} {T : Tab} {A0 R : Nat → Prop} {w0 : Env} {ops : Array Oper} {Q : Exit → Act → World → Prop}
theorem ncall_wp (hT : TOk P T) {E : Env} {s : St} {mem' : List Row} {nk : Nat} {a : Act} {o : Oper} {v : AV} {rows : List Row} (hg : glob E) (hW : Wd A0 R w0 E s.mem) (hnk : ∀ i, i < rows.length → E.O (nk + i) = none) (hρ : ∀ y, y ∈ o.op.operands → rel E (aeval s y) (a.eval y)) (hN : aopN T s nk o = some (true, v, rows)) (happ : NApp E s.mem mem' nk rows)
    {K : Act → World → Prop} (hK : ∀ E' u, E.le E' → (∀ k p, E'.O k = some p → E.O k = some p ∨ (nk ≤ k ∧ k < nk + rows.length)) → Wd A0 R w0 E' mem' → rel E' v u → K (a.put o.dst u) E'.w) : o.wp P a E.w K Q := by
  unfold aopN at hN
  split at hN
  · rename_i c hop
    split at hN
    · rename_i f hcal
      split at hN
      · rename_i g hgn
        obtain ⟨⟨fn, h1, h2, h3⟩, hs⟩ := hT.2.2.1 f g hgn _ _ _ _ hN
        obtain ⟨callee, args, argTypes⟩ := c
        simp only at hcal
        subst hcal
        have hr : rels E (args.toList.map (aeval s)) (args.map a.eval).toList := by
          have := rels_of (E := E) (s := s) (ρ := a.eval) (ys := args.toList) (fun y hy => hρ y (by rw [hop]; simp [Op.operands, Call.operands]; exact Or.inr (by simpa using hy)))
          simpa using this
        have hc := hs A0 R w0 E s.mem mem' (args.map a.eval) hW hnk hg hr happ
        unfold Oper.wp
        have hf : a.eval (.func f) = .func (.func f) #[] #[] := rfl
        have hrun : (execOp a.eval o).run P E.w = .ok (.enter f (args.map a.eval)) E.w := by
          unfold execOp
          simp only [hop, resolve, hf, Deferred.ofValue, Sem.run_bind, Sem.run_pure, Result.andThen_ok, invoke, callFunc, run_program, h1, h2, h3, Array.append_empty, Array.empty_append, Bool.false_eq_true, if_false]
        rw [hrun]
        exact hc.mono fun e w'' ⟨u, E', he, hw, hle, hO, hWd, hu⟩ => by
          subst he
          have := hK E' u hle hO hWd hu
          rw [hw] at this
          exact this
      · cases hN
    · cases hN
  · cases hN
theorem nstep_wp (hT : TOk P T) {E : Env} {s : St} {a : Act} {o : Oper} {v : AV} {rows : List Row} (hI : Inv A0 R w0 E s a) (hN : aopN T s s.mem.length o = some (true, v, rows)) (hk : nOk s o = true) (K : Act → World → Prop) (hK : ∀ E' a', Inv A0 R w0 E' ⟨putS s.slots o.dst (v, []), s.mem ++ rows⟩ a' → K a' E'.w) :
    if Region.wanted o (yielded ops a.tmps) then o.wp P a E.w K Q else K (a.put o.dst undef) E.w := by
  unfold nOk at hk
  simp only [Bool.and_eq_true] at hk
  obtain ⟨hg, hops, hd⟩ := hk
  rw [if_pos (wanted_none hg)]
  rw [List.all_eq_true] at hops
  refine ncall_wp hT hI.frame.1.2 hI.wd (fun i _ => ?_) (fun y hy => frel_opd hI.frame rfl y (hops y (by simpa using hy))) hN (mem' := s.mem ++ rows) ⟨fun k hk b c hb => ?_, fun i row hi => ?_⟩ fun E' u hle _ hWd hu => ?_
  · cases hx : E.O (s.mem.length + i) with
    | none => rfl
    | some p =>
      have := hI.wd.dom _ p.1 p.2 hx
      omega
  · rw [List.getElem?_append_left (hI.wd.dom k b c hb)]
  · rw [List.getElem?_append_right (by omega), Nat.add_sub_cancel_left]
    exact hi
  · exact hK E' _ ⟨by rw [put_defers]; exact hI.defers, frel_put (frel_le hle hI.frame) hd (fun _ => hu) (fun h => by cases h), hWd⟩
theorem wstep_wp (hT : TOk P T) {E : Env} {s : St} {a : Act} {o : Oper} {v : AV} {mem1 : List Row} (hI : Inv A0 R w0 E s a) (hN : aopW T s o = some (true, v, mem1)) (hk : nOk s o = true) (K : Act → World → Prop) (hK : ∀ E' a', Inv A0 R w0 E' ⟨putS s.slots o.dst (v, []), mem1⟩ a' → K a' E'.w) :
    if Region.wanted o (yielded ops a.tmps) then o.wp P a E.w K Q else K (a.put o.dst undef) E.w := by
  unfold nOk at hk
  simp only [Bool.and_eq_true] at hk
  obtain ⟨hg, hops, hd⟩ := hk
  rw [if_pos (wanted_none hg)]
  rw [List.all_eq_true] at hops
  have hρ : ∀ y, y ∈ o.op.operands → rel E (aeval s y) (a.eval y) := fun y hy => frel_opd hI.frame rfl y (hops y (by simpa using hy))
  unfold aopW at hN
  split at hN
  · rename_i c hop
    split at hN
    · rename_i x hcal
      split at hN
      · rename_i f hfo
        split at hN
        · rename_i g hgn
          obtain ⟨⟨fn, h1, h2, h3⟩, hs⟩ := hT.2.2.2.1 f g hgn _ _ _ _ hN
          obtain ⟨callee, args, argTypes⟩ := c
          simp only at hcal
          subst hcal
          have hr : rels E (args.toList.map (aeval s)) (args.map a.eval).toList := by
            have := rels_of (E := E) (s := s) (ρ := a.eval) (ys := args.toList) (fun y hy => hρ y (by rw [hop]; simp [Op.operands, Call.operands]; exact Or.inr (by simpa using hy)))
            simpa using this
          have hc := hs A0 R w0 E (args.map a.eval) hI.wd hI.frame.1.2 hr
          unfold Oper.wp
          have hf : a.eval x = .func (.func f) #[] #[] := by
            have g1 := hρ x (by rw [hop]; simp [Op.operands, Call.operands])
            rw [hfo] at g1
            obtain ⟨va, vb, e, g2, g3⟩ := rel_fn.1 g1
            have e1 : va = #[] := Array.toList_eq_nil_iff.1 (rels_nil.1 g2)
            have e2 : vb = #[] := Array.toList_eq_nil_iff.1 (rels_nil.1 g3)
            rw [e, e1, e2]
          have hrun : (execOp a.eval o).run P E.w = .ok (.enter f (args.map a.eval)) E.w := by
            unfold execOp
            simp only [hop, resolve, hf, Deferred.ofValue, Sem.run_bind, Sem.run_pure, Result.andThen_ok, invoke, callFunc, run_program, h1, h2, h3, Array.append_empty, Array.empty_append, Bool.false_eq_true, if_false]
          rw [hrun]
          exact hc.mono fun e w'' ⟨u, E', he, hw, hle, hWd, hu⟩ => by
            subst he
            have := hK E' _ ⟨by rw [put_defers]; exact hI.defers, frel_put (frel_le hle hI.frame) hd (fun _ => hu) (fun h => by cases h), hWd⟩
            rw [hw] at this
            exact this
        · cases hN
      · cases hN
    · cases hN
  · cases hN
theorem lstep_wp (hT : TOk P T) {E : Env} {s : St} {a : Act} {o : Oper} {g : (AV → Option Out) → Option Out} {c : Chain} {v : AV} (hI : Inv A0 R w0 E s a) (hL : aopL T s o = some (true, g)) (hv : ∀ k', g k' = k' v) (hch : opChain ops.toList s.slots o = some c) (hk : (o.op.operands.toList.all (opdOk s.slots c) && dstOk s.slots c o.dst) = true) (K : Act → World → Prop) (hK : ∀ E' a', Inv A0 R w0 E' { s with slots := putS s.slots o.dst (v, c) } a' → K a' E'.w) :
    if Region.wanted o (yielded ops a.tmps) then o.wp P a E.w K Q else K (a.put o.dst undef) E.w := by
  simp only [Bool.and_eq_true] at hk
  obtain ⟨hops, hd⟩ := hk
  rw [List.all_eq_true] at hops
  rw [opChain_wanted hI.frame (fun _ _ => rfl) hch]
  cases ht : tru s.slots c
  · rw [if_neg (by simp)]
    exact hK E _ ⟨by rw [put_defers]; exact hI.defers, frel_put hI.frame hd (fun h => by rw [ht] at h; cases h) (fun _ => rfl), hI.wd⟩
  · rw [if_pos rfl]
    unfold aopL at hL
    split at hL
    · rename_i cl hop
      obtain ⟨callee, args, argTypes⟩ := cl
      split at hL
      · rename_i f hcal
        simp only at hcal
        subst hcal
        split at hL
        · rename_i g' hg
          split at hL
          · cases hL
          · cases hno : noOwns (args.toList.map (aeval s))
            · simp only [hno, cond_false, Option.some.injEq, Prod.mk.injEq] at hL
              obtain ⟨hlend, rfl⟩ := hL
              have hpv : plainA v = true ∧ ∀ k', g' (lendL s.mem (args.toList.map (aeval s))) k' = k' v := by
                have h0 := hv fun x => some (Out.of x)
                obtain ⟨u, h1, h2⟩ := (hT.1.2 f g' hg).1 _ _ _ h0
                cases hp : plainA u
                · rw [hp] at h1; cases h1
                · rw [hp] at h1
                  simp only [cond_true, Option.some.injEq, Out.of, Out.mk.injEq, true_and] at h1
                  subst h1
                  exact ⟨hp, h2⟩
              obtain ⟨hp, hgv⟩ := hpv
              have hr : rels E (args.toList.map (aeval s)) (args.map a.eval).toList := by
                have := rels_of (E := E) (s := s) (ρ := a.eval) (ys := args.toList) (fun y hy => frel_opd hI.frame ht y (hops y (by rw [hop]; simp [Op.operands, Call.operands]; exact Or.inr (by simpa using hy))))
                simpa using this
              have hr' := lend_rels _ hI.wd.rows hlend hr
              have hgl : glob (Env.shut E) := glob_O (glob_le (E := E) (E' := ⟨E.w, fun _ => False, E.O⟩) ⟨fun _ _ _ hob => ⟨id, hob⟩, fun _ _ h => h⟩ hI.frame.1.2) _
              have hf : a.eval (.func f) = .func (.func f) #[] #[] := rfl
              have good : Good P E v ((execOp a.eval o).run P E.w) := by
                rcases (hT.1.2 f g' hg).2 _ v hgv with ⟨⟨fn, h1, h2, h3⟩, hs⟩ | hs
                · have hc := hs (fun _ => False) E.w (args.map a.eval) (fun _ h => h.elim) hr' hgl
                  unfold execOp
                  simp only [hop, resolve, hf, Deferred.ofValue, Sem.run_bind, Sem.run_pure, Result.andThen_ok, invoke, callFunc, run_program, h1, h2, h3, Array.append_empty, Array.empty_append, Bool.false_eq_true, if_false]
                  exact ⟨rfl, hc.mono fun e w' ⟨u, g1, g2, g3⟩ => ⟨u, g1, plain_rel v hp g2, g3⟩⟩
                · obtain ⟨u, w', h1, h2, h3⟩ := hs (Env.shut E) (args.map a.eval) hr'
                  have h1 : (callFunc f (args.map a.eval)).run P E.w = .ok (.value u) w' := h1
                  unfold execOp
                  simp only [hop, resolve, hf, Deferred.ofValue, Sem.run_bind, Sem.run_pure, Result.andThen_ok, invoke, Array.append_empty, Array.empty_append, h1]
                  exact ⟨plain_rel v hp h3, dr_of h2⟩
              refine good_wp good fun u w' hu hbl => ?_
              obtain ⟨hw1, hw2⟩ := hI.wd.on hbl
              exact hK { E with w := w' } _ ⟨by rw [put_defers]; exact hI.defers, frel_put (frel_le hw2 hI.frame) hd (fun _ => hu) (fun h => by rw [ht] at h; cases h), hw1⟩
            · simp only [hno, cond_true] at hL
              cases hL
        · cases hL
      · cases hL
    · cases hL
theorem fstep_wp (hT : TOk P T) {E : Env} {s s' : St} {a : Act} {o : Oper} {b : Bool} {c : Chain} {eff : Eff} (hI : Inv A0 R w0 E s a) (hF : aopF P T ops.toList s o = some (b, c, eff)) (hd : dstOk s.slots c o.dst = true)
    (hs : (tru s.slots c = true ∧ b = true ∧ s' = putE s o.dst c eff) ∨ (tru s.slots c = false ∧ s' = ⟨putS s.slots o.dst (eff.v, c), s.mem⟩)) (K : Act → World → Prop) (hK : ∀ E' a', Inv A0 R w0 E' s' a' → K a' E'.w) :
    if Region.wanted o (yielded ops a.tmps) then o.wp P a E.w K Q else K (a.put o.dst undef) E.w := by
  unfold aopF at hF
  split at hF
  · cases hF
  split at hF
  · cases hF
  split at hF
  · rename_i p ps hch
    cases hops : o.op.operands.toList.all (opdOk s.slots (p :: ps))
    · rw [hops] at hF; cases hF
    rw [hops] at hF
    simp only [cond_true] at hF
    split at hF
    · rename_i b' eff' hw
      simp only [Option.some.injEq, Prod.mk.injEq] at hF
      obtain ⟨rfl, rfl, rfl⟩ := hF
      have hnk : E.O s.mem.length = none := by
        cases hx : E.O s.mem.length with
        | none => rfl
        | some p => exact absurd (hI.wd.dom _ p.1 p.2 hx) (Nat.lt_irrefl _)
      rw [opChain_wanted hI.frame (fun _ _ => rfl) hch]
      rcases hs with ⟨ht, rfl, rfl⟩ | ⟨ht, rfl⟩
      · rw [if_pos ht]
        rw [List.all_eq_true] at hops
        refine awr_wp hT.flat hI.frame.1.2 hI.wd hnk (fun y hy => frel_opd hI.frame ht y (hops y (by simpa using hy))) hw (appOk_text hI.wd.dom) fun E' u hle _ hW' hr => ?_
        exact hK E' _ ⟨by rw [put_defers]; exact hI.defers, frel_put (frel_le hle hI.frame) hd (fun _ => hr) (fun h => by rw [ht] at h; cases h), hW'⟩
      · rw [if_neg (by rw [ht]; simp)]
        exact hK E _ ⟨by rw [put_defers]; exact hI.defers, frel_put hI.frame hd (fun h => by rw [ht] at h; cases h) (fun _ => rfl), hI.wd⟩
    · cases hF
  · cases hF
theorem asteps_wp (hT : TOk P T) : ∀ (l : List Oper) {E : Env} {s s' : St} {a : Act}, Inv A0 R w0 E s a → ASteps P T ops.toList l s s' → (∀ E' a', Inv A0 R w0 E' s' a' → Q .normal a' E'.w) → wpList P ops Q l a E.w
  | [], E, s, s', a, hI, h, hQ => by
    have e : s = s' := h
    subst e
    exact hQ E a hI
  | o :: rest, E, s, s', a, hI, h, hQ => by
    obtain ⟨s1, hs, h4⟩ := h
    rcases hs with (⟨v, mem1, h1, h2, rfl⟩ | ⟨v, rows, h1, h2, rfl⟩ | ⟨g, c, v, h1, h2, h3, h5, rfl⟩ | ⟨b, c, eff, h1, h2, h3, rfl⟩) | ⟨b, c, eff, h1, h2, h3⟩
    · exact wpList_step fun K hK => wstep_wp hT hI h1 h2 K fun E' a' hI' => hK _ _ (asteps_wp hT rest hI' h4 hQ)
    · exact wpList_step fun K hK => nstep_wp hT hI h1 h2 K fun E' a' hI' => hK _ _ (asteps_wp hT rest hI' h4 hQ)
    · exact wpList_step fun K hK => lstep_wp hT hI h1 h2 h3 h5 K fun E' a' hI' => hK _ _ (asteps_wp hT rest hI' h4 hQ)
    · exact wpList_step fun K hK => astep_wp hT.flat hI h1 h2 h3 K fun E' a' hI' => hK _ _ (asteps_wp hT rest hI' h4 hQ)
    · exact wpList_step fun K hK => fstep_wp hT hI h1 h2 h3 K fun E' a' hI' => hK _ _ (asteps_wp hT rest hI' h4 hQ)
end

/-- Behind a region: what was written under a test is not looked at again. -/
def clearS (slots : List (AV × Chain)) : List (AV × Chain) := slots.map fun q => (match q.2 with | [] => q.1 | _ :: _ => .any, [])
def clr (s : St) : St := { s with slots := clearS s.slots }
theorem frel_clear {E : Env} {F s : List (AV × Chain)} {tmps : Array Value} (h : frel E F s tmps) (F' : List (AV × Chain)) : frel E F' (clearS s) tmps := by
  refine ⟨⟨by rw [h.1.1]; simp [clearS], h.1.2⟩, fun t => ?_⟩
  have hs : (clearS s).getD t dflt = (match (s.getD t dflt).2 with | [] => (s.getD t dflt).1 | _ :: _ => .any, []) := by
    simp only [clearS, List.getD_eq_getElem?_getD, List.getElem?_map]
    cases s[t]? with
    | none => rfl
    | some q => rfl
  rw [hs]
  refine ⟨fun _ => ?_, fun h' => by cases h'⟩
  simp only
  cases hc : (s.getD t dflt).2 with
  | nil => exact (h.2 t).1 (by rw [hc]; rfl)
  | cons p c => exact rel_any
theorem Inv.clear {A0 R : Nat → Prop} {w0 : Env} {E : Env} {s : St} {a : Act} (hI : Inv A0 R w0 E s a) : Inv A0 R w0 E (clr s) a := ⟨hI.defers, frel_clear hI.frame _, hI.wd⟩

def firstId : Code → Option Nat
  | .region id _ _ => some id
  | .seq x y => match firstId x with
    | some i => some i
    | none => firstId y
  | .block _ c => firstId c
  | .loop c => firstId c
  | .scope c => firstId c
  | .cond _ x y => match firstId x with
    | some i => some i
    | none => firstId y
  | _ => none
def loopsOf : Code → List Code
  | .seq x y => loopsOf x ++ loopsOf y
  | .block _ c => loopsOf c
  | .loop c => c :: loopsOf c
  | .scope c => loopsOf c
  | .cond _ x y => loopsOf x ++ loopsOf y
  | _ => []
abbrev LFun := St → Kont → Option Out
def rounds (body : St → Kont → Option Out) (k : Kont) : Nat → St → Option Out
  | 0, _ => none
  | n + 1, s => body s fun e s' => match e with
    | .normal => rounds body k n s'
    | e => k e s'
def aCode (P : Program) (T : Tab) (D : List Oper → St → SK → Option Out) (L : Nat → Option LFun) (N : Nat) : Code → St → Kont → Option Out
  | .skip, s, k => k .normal s
  | .region _ ops draw, s, k => cond draw (D ops.toList s fun s' => k .normal (clr s')) (aopsK P T ops.toList ops.toList s fun s' => k .normal (clr s'))
  | .seq x y, s, k => aCode P T D L N x s fun e s' => match e with
    | .normal => aCode P T D L N y s' k
    | e => k e s'
  | .cond c x y, s, k => cond (opdOk s.slots [] c) (match aeval s c with
    | .x (.bool b) => cond b (aCode P T D L N x s k) (aCode P T D L N y s k)
    | _ => none) none
  | .block id c, s, k => aCode P T D L N c s fun e s' => match e with
    | .exit id' => cond (id' == id) (k .normal s') (k (.exit id') s')
    | e => k e s'
  | .loop c, s, k => match firstId c with
    | some i => match L i with
      | some g => g s k
      | none => rounds (fun s k => aCode P T D L N c s k) k N s
    | none => none
  | .exit id, s, k => k (.exit id) s
  | .scope c, s, k => aCode P T D L N c s fun e s' => match e with
    | .goto _ => none
    | e => k e s'
  | .label _, s, k => k .normal s
  | .ret, s, k => k .ret s
  | .goto l, s, k => k (.goto l) s
  | _, _, _ => none

def DPar (D : List Oper → St → SK → Option Out) : Prop := ∀ ops s k r, D ops s k = some r → ∃ s', k s' = some r ∧ ∀ k', D ops s k' = k' s'
def DOk (P : Program) (D : List Oper → St → SK → Option Out) : Prop := DPar D ∧
  ∀ (A0 R : Nat → Prop) (w0 : Env) (E : Env) (s s' : St) (a : Act) (id : Nat) (ops : Array Oper) (Q : Exit → Act → World → Prop), Inv A0 R w0 E s a → (∀ k', D ops.toList s k' = k' s') →
    (∀ E' a', Inv A0 R w0 E' (clr s') a' → Q .normal a' E'.w) → (Code.region id ops true).wp P Q a E.w
def LPar (g : LFun) : Prop := ∀ s k r, g s k = some r → ∃ e s', k e s' = some r ∧ ∀ k', g s k' = k' e s'
/-- So many rows were there when the call began. -/
def Pins (np : Nat) (A0 R : Nat → Prop) (w0 : Env) : Prop := (∀ k, np ≤ k → w0.O k = none) ∧ (∀ b, R b → ∃ k c, k < np ∧ w0.O k = some (b, c)) ∧ ∀ b, A0 b → b < w0.w.heap.size
/-- What is said of a loop. -/
def LSoundN (np : Nat) (P : Program) (c : Code) (g : LFun) : Prop := LPar g ∧
  ∀ (s s' : St) (e : Exit), (∀ k', g s k' = k' e s') → ∀ (A0 R : Nat → Prop) (w0 : Env) (E : Env) (a : Act), Pins np A0 R w0 → Inv A0 R w0 E s a → (Code.loop c).wp P (fun e' a' w' => e' = e ∧ ∃ E', E'.w = w' ∧ Inv A0 R w0 E' s' a') a E.w
def LOkN (np : Nat) (P : Program) (L : Nat → Option LFun) (c : Code) : Prop := ∀ c', c' ∈ loopsOf c → ∀ i g, firstId c' = some i → L i = some g → LSoundN np P c' g
abbrev LSound (P : Program) (c : Code) (g : LFun) : Prop := LSoundN 0 P c g
abbrev LOk (P : Program) (L : Nat → Option LFun) (c : Code) : Prop := LOkN 0 P L c

section
variable {P : Program} {T : Tab} {D : List Oper → St → SK → Option Out} {L : Nat → Option LFun} {A0 R : Nat → Prop} {w0 : Env}
def Post (A0 R : Nat → Prop) (w0 : Env) (k : Kont) (r : Out) : Exit → Act → World → Prop :=
  fun e a' w' => ∃ E' s', E'.w = w' ∧ Inv A0 R w0 E' s' a' ∧ k e s' = some r

theorem aCode_wp {np : Nat} (hp0 : Pins np A0 R w0) (hT : TOk P T) (hD : DOk P D) (N : Nat) (c : Code) : LOkN np P L c → ∀ {E : Env} {s : St} {k : Kont} {r : Out} {a : Act}, Inv A0 R w0 E s a → aCode P T D L N c s k = some r → c.wp P (Post A0 R w0 k r) a E.w := by
  induction c with
  | skip => intro _ E s k r a hI h; exact wp_skip ⟨E, s, rfl, hI, h⟩
  | label l => intro _ E s k r a hI h; exact wp_label ⟨E, s, rfl, hI, h⟩
  | ret => intro _ E s k r a hI h; exact wp_ret ⟨E, s, rfl, hI, h⟩
  | exit id => intro _ E s k r a hI h; exact wp_exit ⟨E, s, rfl, hI, h⟩
  | goto l => intro _ E s k r a hI h; exact wp_goto ⟨E, s, rfl, hI, h⟩
  | refuse y => intro _ E s k r a hI h; simp [aCode] at h
  | rangeFunc f ps x y ihx ihy => intro _ E s k r a hI h; simp [aCode] at h
  | region id ops draw =>
    intro _ E s k r a hI h
    simp only [aCode] at h
    cases draw with
    | true =>
      simp only [cond_true] at h
      obtain ⟨s1, h1, h2⟩ := hD.1 _ _ _ _ h
      exact hD.2 A0 R w0 E s s1 a id ops _ hI h2 fun E' a' hI' => ⟨E', _, rfl, hI', h1⟩
    | false =>
      simp only [cond_false] at h
      obtain ⟨s1, h1, h2, _⟩ := aopsK_some hT.par h
      exact wp_region_list (asteps_wp hT ops.toList hI h1 fun E' a' hI' => ⟨E', _, rfl, hI'.clear, h2⟩)
  | seq x y ihx ihy =>
    intro hL E s k r a hI h
    simp only [aCode] at h
    have hLx : LOkN np P L x := fun c' hc' => hL c' (by simp [loopsOf, hc'])
    have hLy : LOkN np P L y := fun c' hc' => hL c' (by simp [loopsOf, hc'])
    refine wp_seq (Go.Code.wp_mono ?_ (ihx hLx hI h))
    rintro e a' w' ⟨E', s', rfl, hI', he⟩
    cases e <;> simp only [Exit.then] at he ⊢
    case normal => exact ihy hLy hI' he
    all_goals exact ⟨E', s', rfl, hI', he⟩
  | cond c x y ihx ihy =>
    intro hL E s k r a hI h
    simp only [aCode] at h
    have hLx : LOkN np P L x := fun c' hc' => hL c' (by simp [loopsOf, hc'])
    have hLy : LOkN np P L y := fun c' hc' => hL c' (by simp [loopsOf, hc'])
    cases ho : opdOk s.slots [] c
    · rw [ho] at h; cases h
    · rw [ho] at h
      simp only [cond_true] at h
      split at h
      · rename_i b hb
        have hv := frel_opd hI.frame (c := []) rfl c ho
        rw [hb] at hv
        refine wp_cond (t := b) (rel_bool hv) ?_
        cases b
        · exact ihy hLy hI h
        · exact ihx hLx hI h
      · cases h
  | block id c ih =>
    intro hL E s k r a hI h
    simp only [aCode] at h
    refine wp_block (Go.Code.wp_mono ?_ (ih (fun c' hc' => hL c' (by simpa [loopsOf] using hc')) hI h))
    rintro e a' w' ⟨E', s', rfl, hI', he⟩
    cases e <;> simp only [Exit.inBlock] at he ⊢
    case exit id' =>
      by_cases hid : id' = id
      · rw [if_pos hid]
        have : (id' == id) = true := by simpa using hid
        rw [this] at he
        exact ⟨E', s', rfl, hI', he⟩
      · rw [if_neg hid]
        have : (id' == id) = false := by simpa using hid
        rw [this] at he
        exact ⟨E', s', rfl, hI', he⟩
    all_goals exact ⟨E', s', rfl, hI', he⟩
  | loop c ih =>
    intro hL E s k r a hI h
    simp only [aCode] at h
    split at h
    · rename_i i hi
      split at h
      · rename_i g hg
        obtain ⟨hp, hs⟩ := hL c (by simp [loopsOf]) i g hi hg
        obtain ⟨e, s', h1, h2⟩ := hp s k r h
        refine Go.Code.wp_mono ?_ (hs s s' e h2 A0 R w0 E a hp0 hI)
        rintro e' a' w' ⟨rfl, E', hw, hI'⟩
        exact ⟨E', s', hw, hI', h1⟩
      · refine wp_loop_rounds N ?_
        have hLc : LOkN np P L c := fun c' hc' => hL c' (by simp [loopsOf, hc'])
        have key : ∀ (n : Nat) {E : Env} {s : St} {a : Act}, Inv A0 R w0 E s a → rounds (fun s k => aCode P T D L N c s k) k n s = some r → Code.rounds P c (Post A0 R w0 k r) n a E.w := by
          intro n
          induction n with
          | zero => intro E s a hI h; simp [rounds] at h
          | succ n ihn =>
            intro E s a hI h
            simp only [rounds] at h
            rw [rounds_succ]
            refine Go.Code.wp_mono ?_ (ih hLc hI h)
            rintro e a' w' ⟨E', s', rfl, hI', he⟩
            cases e <;> simp only [Exit.then] at he ⊢
            case normal => exact ihn hI' he
            all_goals exact ⟨E', s', rfl, hI', he⟩
        exact key N hI h
    · cases h
  | scope c ih =>
    intro hL E s k r a hI h
    simp only [aCode] at h
    refine wp_scope_straight (Go.Code.wp_mono ?_ (ih (fun c' hc' => hL c' (by simpa [loopsOf] using hc')) hI h))
    rintro e a' w' ⟨E', s', rfl, hI', he⟩
    cases e <;> simp only [Exit.noGoto] at he ⊢
    case goto l => cases he
    all_goals exact ⟨E', s', rfl, hI', he⟩
end

end
end Go.Gv

namespace Go.Gv
open Go.RowKit Go.Ev
noncomputable section

mutual
def renA (σ : Nat → Option Nat) : AV → AV
  | .own k off => match σ k with
    | some k' => .own k' off
    | none => .any
  | .eown k sz i sub => match σ k with
    | some k' => .eown k' sz i sub
    | none => .any
  | .osl k sz st len => match σ k with
    | some k' => .osl k' sz st len
    | none => .any
  | .view k sz st sub n => match σ k with
    | some k' => .view k' sz st sub n
    | none => .any
  | .agg l => .agg (renL σ l)
  | .tup l => .tup (renL σ l)
  | .ifc t x => .ifc t (renA σ x)
  | .fn g a b => .fn g (renL σ a) (renL σ b)
  | .x v => .x v
  | .f w => .f w
  | .cx a b => .cx a b
  | .ref l o => .ref l o
  | .sl sz n el => .sl sz n el
  | .any => .any
def renL (σ : Nat → Option Nat) : List AV → List AV
  | [] => []
  | x :: xs => renA σ x :: renL σ xs
end
mutual
theorem relA_ren : ∀ (x : AV) {σ : Nat → Option Nat} {E : Env} {O' : Nat → Option (Nat × Nat × Nat)} (_ : ∀ k k' p, σ k = some k' → E.O k = some p → O' k' = some p) (u : Value), relA x E u → relA (renA σ x) { E with O := O' } u
  | .x v, σ, E, O', _, u, hr => by rw [renA]; unfold relA at *; exact hr
  | .f a, σ, E, O', _, u, hr => by rw [renA]; unfold relA at *; exact hr
  | .cx a c, σ, E, O', _, u, hr => by rw [renA]; unfold relA at *; exact hr
  | .agg l, σ, E, O', h, u, hr => by
    rw [renA]
    unfold relA at *
    obtain ⟨vs, h1, h2⟩ := hr
    exact ⟨vs, h1, relsA_ren l h _ h2⟩
  | .tup l, σ, E, O', h, u, hr => by
    rw [renA]
    unfold relA at *
    obtain ⟨vs, h1, h2⟩ := hr
    exact ⟨vs, h1, relsA_ren l h _ h2⟩
  | .own k off, σ, E, O', h, u, hr => by
    rw [renA]
    split
    · rename_i k' hk
      unfold relA at *
      obtain ⟨b, c, h1, h2⟩ := hr
      exact ⟨b, c, h k k' _ hk h1, h2⟩
    · exact relA_any
  | .eown k sz i sub, σ, E, O', h, u, hr => by
    rw [renA]
    split
    · rename_i k' hk
      unfold relA at *
      obtain ⟨b, c, h1, h2⟩ := hr
      exact ⟨b, c, h k k' _ hk h1, h2⟩
    · exact relA_any
  | .view k sz st sub n, σ, E, O', h, u, hr => by
    rw [renA]
    split
    · rename_i k' hk
      unfold relA at *
      obtain ⟨a, c, h1, h2, h3⟩ := hr
      refine ⟨a, c, h1, h2, ?_⟩
      rcases h3 with h3 | ⟨b, c', h4, h5⟩
      · exact Or.inl h3
      · exact Or.inr ⟨b, c', h k k' _ hk h4, h5⟩
    · exact relA_any
  | .osl k sz st len, σ, E, O', h, u, hr => by
    rw [renA]
    split
    · rename_i k' hk
      unfold relA at *
      rcases hr with hr | ⟨b, c, n, h1, h2⟩
      · exact Or.inl hr
      · exact Or.inr ⟨b, c, n, h k k' _ hk h1, h2⟩
    · exact relA_any
  | .ref l off, σ, E, O', h, u, hr => by rw [renA]; unfold relA at *; exact hr
  | .sl sz n el, σ, E, O', h, u, hr => by rw [renA]; unfold relA at *; exact hr
  | .ifc t x, σ, E, O', h, u, hr => by
    rw [renA]
    unfold relA at *
    obtain ⟨y, h1, h2⟩ := hr
    exact ⟨y, h1, relA_ren x h y h2⟩
  | .fn g a b, σ, E, O', h, u, hr => by
    rw [renA]
    unfold relA at *
    obtain ⟨va, vb, h1, h2, h3⟩ := hr
    exact ⟨va, vb, h1, relsA_ren a h _ h2, relsA_ren b h _ h3⟩
  | .any, σ, E, O', _, _, _ => by rw [renA]; exact relA_any
theorem relsA_ren : ∀ (xs : List AV) {σ : Nat → Option Nat} {E : Env} {O' : Nat → Option (Nat × Nat × Nat)} (_ : ∀ k k' p, σ k = some k' → E.O k = some p → O' k' = some p) (us : List Value), relsA xs E us → relsA (renL σ xs) { E with O := O' } us
  | [], σ, E, O', _, us, hr => by rw [renL]; cases us <;> (unfold relsA at *; exact hr)
  | x :: xs, σ, E, O', h, u :: us, hr => by
    rw [renL]
    unfold relsA at *
    exact ⟨relA_ren x h u hr.1, relsA_ren xs h us hr.2⟩
  | x :: xs, σ, E, O', h, [], hr => by unfold relsA at hr; exact hr.elim
end

/-- What is known of a value, or less. -/
def CSub1 (σ : Nat → Option Nat) (x x' : AV) : Prop := x' = .any ∨ x' = renA σ x ∨ (x = .x (.slice none 0 0) ∧ ∃ k sz, x' = .osl k sz 0 0)
theorem CSub1.rel {σ : Nat → Option Nat} {x x' : AV} (h : CSub1 σ x x') {E : Env} {O' : Nat → Option (Nat × Nat × Nat)} (hO : ∀ k k' p, σ k = some k' → E.O k = some p → O' k' = some p) {u : Value} (hr : rel E x u) : rel { E with O := O' } x' u := by
  rcases h with rfl | rfl | ⟨rfl, k, sz, rfl⟩
  · exact rel_any
  · exact relA_ren x hO u hr
  · exact rel_osl.2 (Or.inl ⟨rfl, rfl, rel_x.1 hr⟩)
def CSubs (σ : Nat → Option Nat) : List (AV × Chain) → List (AV × Chain) → Prop
  | [], [] => True
  | x :: xs, y :: ys => (y.2 = [] ∧ (y.1 = .any ∨ (x.2 = [] ∧ CSub1 σ x.1 y.1))) ∧ CSubs σ xs ys
  | _, _ => False
def CellSub (σ : Nat → Option Nat) : List AV → List AV → Prop
  | _, [] => True
  | x :: xs, y :: ys => CSub1 σ x y ∧ CellSub σ xs ys
  | [], _ :: _ => False
def RowSub (σ : Nat → Option Nat) (row row' : Row) : Prop :=
  row' = .dead ∨ (∃ l l', row = .c l ∧ row' = .c l' ∧ CellSub σ l l') ∨ (∃ e sz n el el', row = .a e sz n el ∧ row' = .a e sz n el' ∧ ∀ i, i < n → el' i = el i) ∨ (∃ e l l', row = .t e l ∧ row' = .t e l' ∧ CellSub σ l l' ∧ l'.length = l.length) ∨ (∃ s p e, row = .i s p e ∧ row' = .i s p e)
def renOf (τ : List (Option Nat)) (k : Nat) : Option Nat := τ.findIdx? (· == some k)
def RowSubs (τ : List (Option Nat)) (mem : List Row) : List (Option Nat) → List Row → Prop
  | [], [] => True
  | o :: os, row' :: rows => (match o with
    | some k => ∃ row, mem[k]? = some row ∧ RowSub (renOf τ) row row'
    | none => True) ∧ RowSubs τ mem os rows
  | _, _ => False
/-- Whatever is known to hold in the one way holds in the other. -/
def SubN (np : Nat) (s s' : St) : Prop := ∀ (A0 R : Nat → Prop) (w0 : Env) (E : Env) (a : Act), Pins np A0 R w0 → Inv A0 R w0 E s a → ∃ E', E'.w = E.w ∧ Inv A0 R w0 E' s' a
abbrev Sub (s s' : St) : Prop := SubN 0 s s'
theorem SubN.refl {np : Nat} (s : St) : SubN np s s := fun _ _ _ E _ _ h => ⟨E, rfl, h⟩
theorem Sub.refl (s : St) : Sub s s := SubN.refl s
theorem SubN.trans {np : Nat} {s s' s'' : St} (h : SubN np s s') (g : SubN np s' s'') : SubN np s s'' := fun A0 R w0 E a hp hI => by
  obtain ⟨E1, e1, h1⟩ := h A0 R w0 E a hp hI
  obtain ⟨E2, e2, h2⟩ := g A0 R w0 E1 a hp h1
  exact ⟨E2, e2.trans e1, h2⟩

theorem renOf_some {τ : List (Option Nat)} {k k' : Nat} (h : renOf τ k = some k') : τ[k']? = some (some k) := by
  unfold renOf at h
  rw [List.findIdx?_eq_some_iff_getElem] at h
  obtain ⟨h1, h2, _⟩ := h
  rw [List.getElem?_eq_getElem h1]
  simpa using h2
theorem CSubs.get {σ : Nat → Option Nat} : ∀ {xs ys : List (AV × Chain)}, CSubs σ xs ys → xs.length = ys.length ∧ ∀ t, (ys.getD t dflt).2 = [] ∧ ((ys.getD t dflt).1 = .any ∨ ((xs.getD t dflt).2 = [] ∧ CSub1 σ (xs.getD t dflt).1 (ys.getD t dflt).1))
  | [], [], _ => ⟨rfl, fun t => ⟨rfl, Or.inr ⟨rfl, Or.inr (Or.inl rfl)⟩⟩⟩
  | x :: xs, y :: ys, h => by
    obtain ⟨h1, h2⟩ := CSubs.get h.2
    refine ⟨by simp [h1], fun t => ?_⟩
    cases t with
    | zero => exact h.1
    | succ t => simpa using h2 t
  | [], _ :: _, h => h.elim
  | _ :: _, [], h => h.elim
theorem CellSub.pre {σ : Nat → Option Nat} {E : Env} {O' : Nat → Option (Nat × Nat × Nat)} (hO : ∀ k k' p, σ k = some k' → E.O k = some p → O' k' = some p) : ∀ {l l' : List AV} {us : List Value}, CellSub σ l l' → pre E l us → pre { E with O := O' } l' us
  | _, [], _, _, _ => pre_nil
  | x :: xs, y :: ys, us, h, hp => by
    obtain ⟨u, us', rfl, h1, h2⟩ := pre_cons.1 hp
    exact pre_cons.2 ⟨u, us', rfl, h.1.rel hO h1, CellSub.pre hO h.2 h2⟩
  | [], _ :: _, _, h, _ => h.elim
theorem RowSub.rel {σ : Nat → Option Nat} {row row' : Row} (h : RowSub σ row row') {E : Env} {O' : Nat → Option (Nat × Nat × Nat)} (hO : ∀ k k' p, σ k = some k' → E.O k = some p → O' k' = some p) {b : Nat} {c : Nat × Nat} (hr : rowRel E b c row) : rowRel { E with O := O' } b c row' := by
  rcases h with rfl | ⟨l, l', rfl, rfl, h⟩ | ⟨e, sz, n, el, el', rfl, rfl, h⟩ | ⟨e, l, l', rfl, rfl, h, hl⟩ | ⟨s, p, e, rfl, rfl⟩
  · trivial
  · obtain ⟨cs, e, h1, h2⟩ := hr
    exact ⟨cs, e, h1, h.pre hO h2⟩
  · obtain ⟨cs, h1, h2, h3, h4, h5, h6⟩ := hr
    exact ⟨cs, h1, h2, h3, h4, h5, fun i hi => by rw [h i hi]; exact h6 i hi⟩
  · obtain ⟨cs, h1, h2, h3⟩ := hr
    exact ⟨cs, h1, h.pre hO h2, by rw [hl]; exact h3⟩
  · exact hr
theorem RowSub.live {σ : Nat → Option Nat} {row row' : Row} (h : RowSub σ row row') (hl : row'.live = true) : row.live = true := by
  rcases h with rfl | ⟨l, l', rfl, rfl, h⟩ | ⟨e, sz, n, el, el', rfl, rfl, h⟩ | ⟨e, l, l', rfl, rfl, h, _⟩ | ⟨s, p, e, rfl, rfl⟩
  · cases hl
  · rfl
  · rfl
  · rfl
  · rfl
theorem RowSubs.get {τ : List (Option Nat)} {mem : List Row} : ∀ {os : List (Option Nat)} {rows : List Row}, RowSubs τ mem os rows → ∀ (k' k : Nat), os[k']? = some (some k) → ∃ row row', mem[k]? = some row ∧ rows[k']? = some row' ∧ RowSub (renOf τ) row row'
  | [], [], _, k', k, h => by simp at h
  | o :: os, row' :: rows, h, k', k, hk => by
    cases k' with
    | zero =>
      simp at hk
      subst hk
      obtain ⟨row, h1, h2⟩ := h.1
      exact ⟨row, row', h1, rfl, h2⟩
    | succ k' => simpa using RowSubs.get h.2 k' k (by simpa using hk)
  | [], _ :: _, h, _, _, _ => h.elim
  | _ :: _, [], h, _, _, _ => h.elim
def distinct : List (Option Nat) → Bool
  | [] => true
  | none :: os => distinct os
  | some k :: os => !(os.contains (some k)) && distinct os
theorem distinct_get : ∀ {os : List (Option Nat)}, distinct os = true → ∀ (i j k : Nat), os[i]? = some (some k) → os[j]? = some (some k) → i = j
  | [], _, i, j, k, h, _ => by simp at h
  | none :: os, hd, i, j, k, hi, hj => by
    cases i with
    | zero => simp at hi
    | succ i =>
      cases j with
      | zero => simp at hj
      | succ j => rw [distinct_get (os := os) hd i j k (by simpa using hi) (by simpa using hj)]
  | some k0 :: os, hd, i, j, k, hi, hj => by
    simp only [distinct, Bool.and_eq_true, Bool.not_eq_true'] at hd
    have hno : ∀ n, os[n]? ≠ some (some k0) := fun n hn => by
      have : os.contains (some k0) = true := List.contains_iff_mem.2 (List.mem_of_getElem? hn)
      rw [hd.1] at this; cases this
    cases i with
    | zero =>
      simp at hi
      subst hi
      cases j with
      | zero => rfl
      | succ j => exact absurd (by simpa using hj) (hno j)
    | succ i =>
      cases j with
      | zero =>
        simp at hj
        subst hj
        exact absurd (by simpa using hi) (hno i)
      | succ j => rw [distinct_get hd.2 i j k (by simpa using hi) (by simpa using hj)]
/-- TO FORGET, AND TO NUMBER ANEW. -/
theorem sub_ofN {np : Nat} {s s' : St} (τ : List (Option Nat)) (hpin : ∀ k, k < np → τ[k]? = some (some k)) (hd : distinct τ = true) (h1 : CSubs (renOf τ) s.slots s'.slots) (h2 : RowSubs τ s.mem τ s'.mem) : SubN np s s' := by
  intro A0 R w0 E a hp0 hI
  let O' : Nat → Option (Nat × Nat × Nat) := fun k' => match τ[k']? with
    | some (some k) => E.O k
    | _ => none
  have hO : ∀ k k' p, renOf τ k = some k' → E.O k = some p → O' k' = some p := fun k k' p hk hp => by
    show (match τ[k']? with | some (some k) => E.O k | _ => none) = some p
    rw [renOf_some hk]
    exact hp
  have back : ∀ k' p, O' k' = some p → ∃ k, τ[k']? = some (some k) ∧ E.O k = some p := fun k' p hp => by
    have hp' : (match τ[k']? with | some (some k) => E.O k | _ => none) = some p := hp
    split at hp'
    · rename_i k hk; exact ⟨k, hk, hp'⟩
    · cases hp'
  obtain ⟨hlen, hget⟩ := h1.get
  have lives : ∀ k' k, τ[k']? = some (some k) → liveAt s'.mem k' = true → liveAt s.mem k = true := fun k' k hk hl => by
    obtain ⟨row, row', g1, g2, g3⟩ := h2.get k' k hk
    unfold liveAt at hl ⊢
    rw [g2] at hl
    rw [g1]
    exact g3.live hl
  refine ⟨{ E with O := O' }, rfl, hI.defers, ⟨⟨by rw [hI.frame.1.1, hlen], glob_O hI.frame.1.2 _⟩, fun t => ?_⟩, ⟨?_, hI.wd.small, hI.wd.old, ?_, ?_, hI.wd.below, ⟨hI.wd.le0.keep, fun k p hk => ?_⟩⟩⟩
  · obtain ⟨g1, g2⟩ := hget t
    rw [g1]
    refine ⟨fun _ => ?_, fun h => by cases h⟩
    rcases g2 with g2 | ⟨g2, g3⟩
    · rw [g2]; exact rel_any
    · exact g3.rel hO ((hI.frame.2 t).1 (by rw [g2]; rfl))
  · intro k' b c hb
    obtain ⟨k, hk, hb'⟩ := back k' _ hb
    obtain ⟨row, row', g1, g2, g3⟩ := h2.get k' k hk
    obtain ⟨row0, g4, g5⟩ := hI.wd.rows k b c hb'
    rw [g1] at g4
    cases g4
    exact ⟨row', g2, g3.rel hO g5⟩
  · intro k' b c hb hl
    obtain ⟨k, hk, hb'⟩ := back k' _ hb
    exact hI.wd.own k b c hb' (lives k' k hk hl)
  · intro k' k'' b c c' hb hb' hl hl'
    obtain ⟨k, hk, hbk⟩ := back k' _ hb
    obtain ⟨k2, hk2, hbk2⟩ := back k'' _ hb'
    have := hI.wd.one k k2 b c c' hbk hbk2 (lives k' k hk hl) (lives k'' k2 hk2 hl')
    subst this
    exact distinct_get hd k' k'' k hk hk2
  · have hlt : k < np := Nat.lt_of_not_le fun hc => by rw [hp0.1 k hc] at hk; cases hk
    show (match τ[k]? with | some (some k) => E.O k | _ => none) = some p
    rw [hpin k hlt]
    exact hI.wd.le0.own k p hk
theorem sub_of {s s' : St} (τ : List (Option Nat)) (hd : distinct τ = true) (h1 : CSubs (renOf τ) s.slots s'.slots) (h2 : RowSubs τ s.mem τ s'.mem) : Sub s s' := sub_ofN τ (fun k hk => absurd hk (Nat.not_lt_zero k)) hd h1 h2
theorem Sub.trans {s s' s'' : St} (h : Sub s s') (g : Sub s' s'') : Sub s s'' := SubN.trans h g

/-- From what is known ahead a text leads to what is known behind it. -/
def LeadsN (np : Nat) (P : Program) (c : Code) (s : St) (e : Exit) (s' : St) : Prop :=
  ∀ (A0 R : Nat → Prop) (w0 : Env) (E : Env) (a : Act), Pins np A0 R w0 → Inv A0 R w0 E s a → c.wp P (fun e' a' w' => e' = e ∧ ∃ E', E'.w = w' ∧ Inv A0 R w0 E' s' a') a E.w
abbrev Leads (P : Program) (c : Code) (s : St) (e : Exit) (s' : St) : Prop := LeadsN 0 P c s e s'
theorem LeadsN.sub {np : Nat} {P : Program} {c : Code} {s s1 s2 s3 : St} {e : Exit} (h : LeadsN np P c s1 e s2) (g1 : SubN np s s1) (g2 : SubN np s2 s3) : LeadsN np P c s e s3 := fun A0 R w0 E a hp hI => by
  obtain ⟨E1, e1, h1⟩ := g1 A0 R w0 E a hp hI
  rw [← e1]
  refine Go.Code.wp_mono ?_ (h A0 R w0 E1 a hp h1)
  rintro e' a' w' ⟨rfl, E', rfl, hI'⟩
  obtain ⟨E2, e2, h2⟩ := g2 A0 R w0 E' a' hp hI'
  exact ⟨rfl, E2, e2, h2⟩
theorem Leads.sub {P : Program} {c : Code} {s s1 s2 s3 : St} {e : Exit} (h : Leads P c s1 e s2) (g1 : Sub s s1) (g2 : Sub s2 s3) : Leads P c s e s3 := LeadsN.sub h g1 g2
def fin : Kont := fun e s => some ⟨e, s, .any⟩
theorem loop_rule {np : Nat} {P : Program} {c : Code} (S : Nat → St) (n : Nat) (e : Exit) (sf : St) (he : e ≠ .normal) (hstep : ∀ j, j < n → LeadsN np P c (S j) .normal (S (j + 1))) (hend : LeadsN np P c (S n) e sf) : LeadsN np P (.loop c) (S 0) e sf := fun A0 R w0 E a hp hI => by
  refine wp_loop_rounds (n + 1) ?_
  have key : ∀ (m j : Nat) {E : Env} {a : Act}, j + m = n → Inv A0 R w0 E (S j) a → Code.rounds P c (fun e' a' w' => e' = e ∧ ∃ E', E'.w = w' ∧ Inv A0 R w0 E' sf a') (m + 1) a E.w := by
    intro m
    induction m with
    | zero =>
      intro j E a hj hI
      have : j = n := by omega
      subst this
      rw [rounds_succ]
      refine Go.Code.wp_mono ?_ (hend A0 R w0 E a hp hI)
      rintro e' a' w' ⟨rfl, E', rfl, hI'⟩
      cases e' <;> simp only [Exit.then] <;> first | exact absurd rfl he | exact ⟨trivial, E', rfl, hI'⟩ | exact ⟨rfl, E', rfl, hI'⟩
    | succ m ih =>
      intro j E a hj hI
      rw [rounds_succ]
      refine Go.Code.wp_mono ?_ (hstep j (by omega) A0 R w0 E a hp hI)
      rintro e' a' w' ⟨rfl, E', rfl, hI'⟩
      simp only [Exit.then]
      exact ih (j + 1) (by omega) hI'
  exact key n 0 (by omega) hI
/-- What is said of a loop, as it is told to the text around it. -/
noncomputable def told (s0 : St) (e : Exit) (sf : St) : LFun := fun s k => open Classical in if Sub s s0 then k e sf else none
theorem told_sound {P : Program} {c : Code} {s0 sf : St} {e : Exit} (h : Leads P (.loop c) s0 e sf) : LSound P c (told s0 e sf) := by
  classical
  constructor
  · intro s k r hr
    unfold told at hr ⊢
    by_cases hs : Sub s s0
    · rw [if_pos hs] at hr
      exact ⟨e, sf, hr, fun k' => by rw [if_pos hs]⟩
    · rw [if_neg hs] at hr; cases hr
  · intro s s' e' hk A0 R w0 E a hp hI
    have hs : Sub s s0 := Classical.byContradiction fun hn => by
      have := hk fin
      unfold told at this
      rw [if_neg hn] at this
      cases this
    have h1 := hk fin
    unfold told at h1
    rw [if_pos hs] at h1
    simp only [fin, Option.some.injEq, Out.mk.injEq, and_true] at h1
    obtain ⟨rfl, rfl⟩ := h1
    exact h.sub hs (Sub.refl _) A0 R w0 E a hp hI
end
end Go.Gv

namespace Go.Gv
open Go.RowKit Go.Ev
noncomputable section

def mapO (f : AV → Option AV) : List AV → Option (List AV)
  | [] => some []
  | x :: xs => match f x, mapO f xs with
    | some y, some ys => some (y :: ys)
    | _, _ => none
def frzA (mem : List Row) : Nat → AV → Option AV
  | 0, _ => none
  | n + 1, v => match v with
    | .own k off => match mem[k]? with
      | some (.c l) => (mapO (frzA mem n) l).map (.ref · off)
      | _ => none
    | .eown _ _ _ _ => none
    | .view _ _ _ _ _ => none
    | .osl k sz st len => match mem[k]? with
      | some (.a _ sz' _ el) => cond (sz == sz') (some (.sl sz len (fun i => el (st + i)))) none
      | _ => none
    | .agg l => (mapO (frzA mem n) l).map .agg
    | .tup l => (mapO (frzA mem n) l).map .tup
    | .ifc t x => (frzA mem n x).map (.ifc t)
    | v => cond (noOwn v) (some v) none
theorem mapO_rels {E E1 : Env} {f : AV → Option AV} (h : ∀ x y u, f x = some y → rel E x u → rel E1 y u) : ∀ {xs ys : List AV} {us : List Value}, mapO f xs = some ys → rels E xs us → rels E1 ys us
  | [], ys, us, hm, hr => by
    simp only [mapO, Option.some.injEq] at hm
    subst hm
    rw [rels_nil.1 hr]
    exact rels_nil.2 rfl
  | x :: xs, ys, us, hm, hr => by
    simp only [mapO] at hm
    split at hm
    · rename_i y ys' h1 h2
      simp only [Option.some.injEq] at hm
      subst hm
      obtain ⟨u, us', rfl, h3, h4⟩ := rels_cons.1 hr
      exact rels_cons.2 ⟨u, us', rfl, h x y u h1 h3, mapO_rels h h2 h4⟩
    · cases hm
theorem mapO_pre {E E1 : Env} {f : AV → Option AV} (h : ∀ x y u, f x = some y → rel E x u → rel E1 y u) : ∀ {xs ys : List AV} {us : List Value}, mapO f xs = some ys → pre E xs us → pre E1 ys us
  | [], ys, us, hm, hr => by
    simp only [mapO, Option.some.injEq] at hm
    subst hm
    exact pre_nil
  | x :: xs, ys, us, hm, hr => by
    simp only [mapO] at hm
    split at hm
    · rename_i y ys' h1 h2
      simp only [Option.some.injEq] at hm
      subst hm
      obtain ⟨u, us', rfl, h3, h4⟩ := pre_cons.1 hr
      exact pre_cons.2 ⟨u, us', rfl, h x y u h1 h3, mapO_pre h h2 h4⟩
    · cases hm
theorem frz_rel {E : Env} {mem : List Row} {A' : Nat → Prop} (hm : MemRel E mem) (hA : ∀ b, A' b → E.A b) (hown : ∀ k b c, E.O k = some (b, c) → liveAt mem k = true → ¬ A' b) : ∀ (n : Nat) (x y : AV) (u : Value), frzA mem n x = some y → rel E x u → rel ⟨E.w, A', fun _ => none⟩ y u := by
  intro n
  induction n with
  | zero => intro x y u h; cases h
  | succ n ih =>
    intro x y u h hr
    have plain : ∀ {v : AV}, cond (noOwn v) (some v) none = some y → rel E v u → rel ⟨E.w, A', fun _ => none⟩ y u := by
      intro v h hr
      cases hn : noOwn v
      · rw [hn] at h; cases h
      · rw [hn] at h
        simp only [cond_true, Option.some.injEq] at h
        subst h
        exact rel_noOwn hr hn fun b hb ob hob => ⟨fun ha => hb (hA b ha), hob⟩
    cases x with
    | own k off =>
      simp only [frzA] at h
      obtain ⟨b, c, hb, rfl⟩ := rel_own.1 hr
      obtain ⟨row, hrow, hrr⟩ := hm k b c hb
      rw [hrow] at h
      cases row <;> simp only at h <;> first | (cases h; done) | skip
      rename_i l
      cases hl : mapO (frzA mem n) l with
      | none => rw [hl] at h; cases h
      | some l' =>
        rw [hl] at h
        simp only [Option.map_some, Option.some.injEq] at h
        subst h
        obtain ⟨cs, e, h1, h2⟩ := hrr
        exact rel_ref.2 ⟨b, 0, cs, e, (0, 0), by rw [Nat.zero_add], hown k b c hb (by unfold liveAt; rw [hrow]; rfl), h1, by rw [List.drop_zero]; exact mapO_pre (E1 := ⟨E.w, A', fun _ => none⟩) ih hl h2⟩
    | eown k sz i sub => simp [frzA] at h
    | view k sz st sub n => simp [frzA] at h
    | osl k sz st len =>
      simp only [frzA] at h
      split at h
      · rename_i e sz' n' el hrow
        cases hs : sz == sz'
        · rw [hs] at h; cases h
        · rw [hs] at h
          simp only [cond_true, Option.some.injEq] at h
          subst h
          have e1 := eq_of_beq hs
          subst e1
          rcases rel_osl.1 hr with ⟨_, rfl, rfl⟩ | ⟨b, c, n0, hb, h1, h2, rfl⟩
          · exact rel_sl.2 ⟨none, 0, rfl, Nat.le_refl _, Or.inl rfl⟩
          · obtain ⟨row, hrow', hrr⟩ := hm k b _ hb
            rw [hrow] at hrow'
            cases hrow'
            obtain ⟨cs, h3, h4, h5, h6, h7, h8⟩ := hrr
            simp only at h5
            subst h5
            refine rel_sl.2 ⟨_, _, rfl, by omega, Or.inr ⟨b, st * sz, cs, e, (0, 0), rfl, hown k b _ hb (by unfold liveAt; rw [hrow]; rfl), h3, fun i hi => ?_⟩⟩
            obtain ⟨g1, g2⟩ := h8 (st + i) (by omega)
            refine ⟨g1, ?_⟩
            rw [← Nat.add_mul]
            exact pre_le (E := E.fz) (E' := ⟨E.w, A', fun _ => none⟩) ⟨fun b' hb' ob hob => ⟨fun ha => hb' (hA b' ha), hob⟩, fun k' b' hb' => by cases hb'⟩ g2
      · cases h
    | agg l =>
      simp only [frzA] at h
      cases hl : mapO (frzA mem n) l with
      | none => rw [hl] at h; cases h
      | some l' =>
        rw [hl] at h
        simp only [Option.map_some, Option.some.injEq] at h
        subst h
        obtain ⟨vs, rfl, h2⟩ := rel_agg.1 hr
        exact rel_agg.2 ⟨vs, rfl, mapO_rels ih hl h2⟩
    | tup l =>
      simp only [frzA] at h
      cases hl : mapO (frzA mem n) l with
      | none => rw [hl] at h; cases h
      | some l' =>
        rw [hl] at h
        simp only [Option.map_some, Option.some.injEq] at h
        subst h
        obtain ⟨vs, rfl, h2⟩ := rel_tup.1 hr
        exact rel_tup.2 ⟨vs, rfl, mapO_rels ih hl h2⟩
    | ifc t x =>
      simp only [frzA] at h
      cases hl : frzA mem n x with
      | none => rw [hl] at h; cases h
      | some x' =>
        rw [hl] at h
        simp only [Option.map_some, Option.some.injEq] at h
        subst h
        obtain ⟨v, rfl, h2⟩ := rel_ifc.1 hr
        exact rel_ifc.2 ⟨v, rfl, ih x x' v hl h2⟩
    | _ => simp only [frzA] at h; exact plain h hr

def aresult (P : Program) (s : St) : ResultVar → Option AV
  | .tmp t => cond (opdOk s.slots [] (.tmp t)) (some (aeval s (.tmp t))) none
  | .cell p t => cond (opdOk s.slots [] (.tmp p)) (match aat s.mem (aeval s (.tmp p)) with
    | some (true, l, off) => aload P t l off
    | _ => none) none
def aresultsL (P : Program) (s : St) : List ResultVar → Option (List AV)
  | [] => some []
  | r :: rs => match aresult P s r, aresultsL P s rs with
    | some v, some vs => some (v :: vs)
    | _, _ => none
def aresults (P : Program) (fn : Func) (s : St) : Option AV :=
  match aresultsL P s fn.results.toList with
  | some [v] => frzA s.mem 8 v
  | some vs => (mapO (frzA s.mem 8) vs).map .tup
  | none => none
def start (fn : Func) (mem : List Row) (args : List AV) : St := ⟨(args.map fun v => (v, [])) ++ List.replicate (fn.ntmps - args.length) dflt, mem⟩
def retK (P : Program) (fn : Func) (k : AV → Option Out) : Kont := fun e s => match e with
  | .normal => match aresults P fn s with
    | some v => k v
    | none => none
  | .ret => match aresults P fn s with
    | some v => k v
    | none => none
  | _ => none
def abody (P : Program) (T : Tab) (D : List Oper → St → SK → Option Out) (L : Nat → Option LFun) (N : Nat) (fn : Func) (args : List AV) (k : AV → Option Out) : Option Out :=
  match fn.body with
  | some c => aCode P T D L N c (start fn [] args) (retK P fn k)
  | none => none

/-- One result, as the model reads it. -/
def resOf (tmps : Array Value) : ResultVar → Sem Value
  | .tmp t => pure (tmps.getD t undef)
  | .cell p t => do loadVar t (← asAddr (tmps.getD p undef))
theorem results_eq (fn : Func) (tmps : Array Value) : results fn tmps = (do
    let vs ← List.toArray <$> fn.results.toList.mapM (resOf tmps)
    pure (if h : vs.size = 1 then vs[0] else .tuple vs)) := by
  unfold results
  rw [← Array.mapM_eq_mapM_toList]
  have : (fun x : ResultVar => (match x with | .tmp t => pure (tmps.getD t undef) | .cell a t => do loadVar t (← asAddr (tmps.getD a undef)) : Sem Value)) = resOf tmps := by
    funext r; cases r <;> rfl
  rw [← this]
  rfl
section
variable {P : Program} {A0 R : Nat → Prop} {w0 : Env} {E : Env} {s : St} {a : Act}
theorem aresult_run (hI : Inv A0 R w0 E s a) {r : ResultVar} {x : AV} (h : aresult P s r = some x) : ∃ v, (resOf a.tmps r).run P E.w = .ok v E.w ∧ rel E x v := by
  cases r with
  | tmp t =>
    simp only [aresult] at h
    cases ho : opdOk s.slots [] (.tmp t)
    · rw [ho] at h; cases h
    · rw [ho] at h
      simp only [cond_true, Option.some.injEq] at h
      subst h
      exact ⟨_, rfl, frel_opd hI.frame (c := []) rfl (.tmp t) ho⟩
  | cell p t =>
    simp only [aresult] at h
    cases ho : opdOk s.slots [] (.tmp p)
    · rw [ho] at h; cases h
    · rw [ho] at h
      simp only [cond_true] at h
      split at h
      · rename_i l off hp
        have hv := frel_opd hI.frame (c := []) rfl (.tmp p) ho
        obtain ⟨b, o0, _, _, _, he, _, _⟩ := aat_good hI.wd.rows hv hp
        obtain ⟨v, h1, h2⟩ := load_good (P := P) hI.wd.rows hp h hv
        refine ⟨v, ?_, h2⟩
        have he' : a.tmps.getD p undef = .pointer (some ⟨b, o0 + off, none⟩) := he
        rw [he] at h1
        simp only [Instr.loadAt, Instr.sureAddr, Sem.run_bind, Sem.run_pure, Result.andThen_ok] at h1
        simp only [resOf, he', asAddr, Sem.run_bind, Sem.run_pure, Result.andThen_ok, h1]
      · cases h
theorem aresultsL_run (hI : Inv A0 R w0 E s a) : ∀ {rs : List ResultVar} {xs : List AV}, aresultsL P s rs = some xs → ∃ vs : List Value, (rs.mapM (resOf a.tmps)).run P E.w = .ok vs E.w ∧ rels E xs vs
  | [], xs, h => by simp [aresultsL] at h; subst h; exact ⟨[], rfl, rels_nil.2 rfl⟩
  | r :: rs, xs, h => by
    simp only [aresultsL] at h
    split at h
    · rename_i x xs' h1 h2
      simp only [Option.some.injEq] at h
      subst h
      obtain ⟨v, h3, h4⟩ := aresult_run hI h1
      obtain ⟨vs, h5, h6⟩ := aresultsL_run hI h2
      refine ⟨v :: vs, ?_, rels_cons.2 ⟨v, vs, rfl, h4, h6⟩⟩
      simp only [List.mapM_cons, Sem.run_bind]
      rw [h3]
      simp only [Result.andThen_ok]
      rw [h5]
      rfl
    · cases h
theorem aresults_run {fn : Func} (hI : Inv A0 (fun _ => False) w0 E s a) (hA0 : ∀ b, A0 b → b < w0.w.heap.size) {x : AV} (h : aresults P fn s = some x) : ∃ v, (results fn a.tmps).run P E.w = .ok v E.w ∧ rel ⟨E.w, A0, fun _ => none⟩ x v := by
  have hown : ∀ k b c, E.O k = some (b, c) → liveAt s.mem k = true → ¬ A0 b := fun k b c hb hl ha => by
    rcases (hI.wd.own k b c hb hl).2 with hf | hf
    · exact hf
    · have := hA0 b ha; omega
  have frz := frz_rel hI.wd.rows (A' := A0) hI.wd.old hown 8
  unfold aresults at h
  cases hl : aresultsL P s fn.results.toList with
  | none => simp [hl] at h
  | some xs =>
    obtain ⟨vs, h1, h2⟩ := aresultsL_run hI hl
    have hlen := rels_length h2
    have hrun : (results fn a.tmps).run P E.w = .ok (if h : vs.toArray.size = 1 then vs.toArray[0] else .tuple vs.toArray) E.w := by
      rw [results_eq]
      simp only [Sem.run_bind, Sem.run_map, h1, Result.andThen_ok, Sem.run_pure]
    rw [hrun]
    rw [hl] at h
    have key : ∀ (_ : vs.length ≠ 1) (_ : (mapO (frzA s.mem 8) xs).map AV.tup = some x), ∃ v, Result.ok (if h : vs.toArray.size = 1 then vs.toArray[0] else .tuple vs.toArray) E.w = Result.ok v E.w ∧ rel ⟨E.w, A0, fun _ => none⟩ x v := by
      intro hne h
      cases hm : mapO (frzA s.mem 8) xs with
      | none => rw [hm] at h; cases h
      | some ys =>
        rw [hm] at h
        simp only [Option.map_some, Option.some.injEq] at h
        subst h
        refine ⟨_, rfl, ?_⟩
        rw [dif_neg (by simpa using hne)]
        exact rel_tup.2 ⟨vs.toArray, rfl, by simpa using mapO_rels frz hm h2⟩
    match xs, vs, hlen, h2, h, key with
    | [y], [v], _, h2, h, _ =>
      obtain ⟨v', _, e1, h3, _⟩ := rels_cons.1 h2
      cases e1
      exact ⟨v, by simp, frz y x v h h3⟩
    | [], [], _, _, h, key => exact key (by simp) h
    | _ :: _ :: _, _ :: _ :: _, _, _, h, key => exact key (by simp) h
end
theorem rels_getD {E : Env} : ∀ {xs : List AV} {vs : List Value} (t : Nat), rels E xs vs → t < xs.length → rel E (xs.getD t (.x undef)) (vs.getD t undef)
  | [], _, _, _, hl => by simp at hl
  | x :: xs, vs, t, h, hl => by
    obtain ⟨u, us, rfl, h1, h2⟩ := rels_cons.1 h
    cases t with
    | zero => exact h1
    | succ t => simpa using rels_getD t h2 (by simpa using hl)
/-- The frame as a call begins. -/
theorem start_frel {E : Env} {fn : Func} {mem : List Row} {args : List AV} {cargs : Array Value} (hg : glob E) (hv : rels E args cargs.toList) (hlen' : args.length ≤ fn.ntmps) :
    frel E (start fn mem args).slots (start fn mem args).slots (cargs ++ Array.replicate (fn.ntmps - cargs.size) undef) := by
  have hl := rels_length hv
  simp at hl
  refine ⟨⟨by simp [start]; omega, hg⟩, fun t => ?_⟩
  have hs : (start fn mem args).slots.getD t dflt = (args.getD t (.x undef), []) := by
    simp only [start, List.getD_eq_getElem?_getD, List.getElem?_append, List.getElem?_map, List.length_map, List.getElem?_replicate]
    by_cases ht : t < args.length
    · simp [ht]
    · simp only [ht, if_false, List.getElem?_eq_none (Nat.le_of_not_lt ht), Option.getD_none]
      split <;> rfl
  rw [hs]
  refine ⟨fun _ => ?_, fun h' => by cases h'⟩
  by_cases ht : t < args.length
  · have := rels_getD t hv ht
    have e : (cargs ++ Array.replicate (fn.ntmps - cargs.size) undef).getD t undef = cargs.toList.getD t undef := by
      simp only [Array.getD_eq_getD_getElem?, List.getD_eq_getElem?_getD]
      rw [Array.getElem?_append_left (by omega)]
      simp
    rw [e]
    exact this
  · have e : (cargs ++ Array.replicate (fn.ntmps - cargs.size) undef).getD t undef = undef := by
      simp only [Array.getD_eq_getD_getElem?]
      rw [Array.getElem?_append_right (by omega), Array.getElem?_replicate]
      split <;> rfl
    rw [e, List.getD_eq_getElem?_getD, List.getElem?_eq_none (Nat.le_of_not_lt ht)]
    exact rel_x.2 rfl

/-- A FUNCTION's CONTRACT, OUT OF ITS TEXT. -/
theorem spec_of_body {P : Program} {T : Tab} {D : List Oper → St → SK → Option Out} {L : Nat → Option LFun} (hT : TOk P T) (hD : DOk P D) (N : Nat) {f : Nat} {fn : Func} (hf : P.funcs[f]? = some fn) (hnm : (fn.name == "runtime.NumGoroutine") = false) {c : Code} (hb : fn.body = some c) (hL : LOk P L c)
    {args : List AV} (hlen : Nat.ble args.length fn.ntmps = true) {r : AV} (h : abody P T D L N fn args (fun v => some (Out.of v)) = some (Out.of r)) : FSpec P f args r := by
  unfold abody at h
  rw [hb] at h
  simp only at h
  refine ⟨⟨fn, hf, hnm, by rw [hb]; rfl⟩, fun A w cargs hA hv hg => ?_⟩
  have hlen' : args.length ≤ fn.ntmps := Nat.le_of_ble_eq_true hlen
  refine calls_of_wp hf hb ?_
  have hI : Inv A (fun _ => False) ⟨w, A, fun _ => none⟩ ⟨w, A, fun _ => none⟩ (start fn [] args) { tmps := cargs ++ Array.replicate (fn.ntmps - cargs.size) undef, defers := [] } :=
    ⟨rfl, start_frel hg hv hlen', ⟨fun _ _ _ hb => (by cases hb), hA, fun _ hb => hb, fun _ _ _ hb => (by cases hb), fun _ _ _ _ _ hb => (by cases hb), BelowR.refl _ _, Env.le.refl _⟩⟩
  refine Go.Code.wp_mono ?_ (aCode_wp (np := 0) ⟨fun _ _ => rfl, fun _ h => h.elim, hA⟩ hT hD N c hL hI h)
  rintro e a' w' ⟨E', s', rfl, hI', he⟩
  cases e <;> simp only [retK] at he <;> first | (cases he; done) | skip
  all_goals
    split at he
    · rename_i x hx
      simp only [Out.of, Option.some.injEq, Out.mk.injEq, true_and] at he
      subst he
      obtain ⟨v, h1, h2⟩ := aresults_run hI' hA hx
      exact ⟨hI'.defers, v, h1, v, rfl, h2, hI'.wd.below.os, hI'.wd.below.tape, hI'.wd.below.output, hI'.wd.below.size, fun k hk => hI'.wd.below.block k hk (fun e => e)⟩
    · cases he
end
end Go.Gv
