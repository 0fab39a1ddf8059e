/-
  The second evaluator, part Ga.
-/
import Derived.Test.YtefphimaggjihaaGreatDoorC4
import Derived.WalkKit
import Derived.WalkLawsBesides
import Derived.Deep.MidRow
import Derived.Laws.AppendOwn
import Derived.Laws.MakeOwn
import Derived.Laws.BytesString
namespace Go.Gv
open Go.RowKit Go.Ev

/-- What is known of a value. -/
inductive AV where
  /-- just this -/
  | x (v : Value)
  /-- a float, all that are no number taken as one -/
  | f (w : Nat)
  | cx (re im : Nat)
  /-- a struct or an array: its cells -/
  | agg (l : List AV)
  | tup (l : List AV)
  /-- a place in a row of ours -/
  | own (k off : Nat)
  /-- a place in an element of a row of ours -/
  | eown (k sz i sub : Nat)
  /-- a piece of a row of ours -/
  | osl (k sz st len : Nat)
  /-- a piece of a row of ours, of so many elements; how much room there is behind it isn't known -/
  | view (k sz st sub n : Nat)
  /-- a place in memory that nobody writes any more -/
  | ref (l : List AV) (off : Nat)
  /-- a slice that nobody writes any more: so many elements -/
  | sl (sz n : Nat) (el : Nat → List AV)
  | ifc (t : TypeId) (x : AV)
  | fn (g : Fn) (a b : List AV)
  /-- nothing is known -/
  | any
  deriving Inhabited

/-- The memory that values lie in: the world, the blocks that are written (which nothing that is frozen lies in), the blocks of our rows. -/
structure Env where
  w : World
  A : Nat → Prop
  /-- the block of a row of ours, how many elements it has room for, and how many it has -/
  O : Nat → Option (Nat × Nat × Nat)

/-- What is frozen speaks of no row of ours. -/
def Env.fz (E : Env) : Env := { E with O := fun _ => none }
mutual
def relA : AV → Env → Value → Prop
  | .x v, _, u => u = v
  | .f a, _, u => ∃ b, u = .float .f64 b ∧ cn b = a
  | .cx a c, _, u => ∃ b d, u = .complex .f64 b d ∧ cn b = a ∧ cn d = c
  | .agg l, E, u => ∃ vs, u = .agg vs ∧ relsA l E vs.toList
  | .tup l, E, u => ∃ vs, u = .tuple vs ∧ relsA l E vs.toList
  | .own k off, E, u => ∃ b c, E.O k = some (b, c) ∧ u = .pointer (some ⟨b, off, none⟩)
  | .eown k sz i sub, E, u => ∃ b c, E.O k = some (b, c) ∧ u = .pointer (some ⟨b, i * sz + sub, none⟩)
  | .osl k sz st len, E, u => (st = 0 ∧ len = 0 ∧ u = .slice none 0 0) ∨ ∃ b c n, E.O k = some (b, c, n) ∧ st + len ≤ n ∧ n ≤ c ∧ u = .slice (some ⟨b, st * sz, none⟩) len (c - st)
  | .view k sz st sub n, E, u => ∃ a c, u = .slice a n c ∧ n ≤ c ∧ (n = 0 ∨ ∃ b c', E.O k = some (b, c') ∧ a = some ⟨b, st * sz + sub, none⟩)
  | .ref l off, E, u => ∃ b o cs e fz, u = .pointer (some ⟨b, o + off, none⟩) ∧ ¬ E.A b ∧ E.w.heap[b]? = some (.cells cs e fz) ∧ preA l E.fz (cs.toList.drop o)
  | .sl sz n el, E, u => ∃ a c, u = .slice a n c ∧ n ≤ c ∧ (n = 0 ∨ ∃ b o cs e fz, a = some ⟨b, o, none⟩ ∧ ¬ E.A b ∧ E.w.heap[b]? = some (.cells cs e fz) ∧ ∀ i, i < n → (el i).length = sz ∧ preA (el i) E.fz (cs.toList.drop (o + i * sz)))
  | .ifc t x, E, u => ∃ y, u = .iface t y ∧ relA x E y
  | .fn g a b, E, u => ∃ va vb, u = .func g va vb ∧ relsA a E va.toList ∧ relsA b E vb.toList
  | .any, _, _ => True
def relsA : List AV → Env → List Value → Prop
  | [], _, [] => True
  | x :: xs, E, v :: vs => relA x E v ∧ relsA xs E vs
  | _, _, _ => False
/-- The first cells. -/
def preA : List AV → Env → List Value → Prop
  | [], _, _ => True
  | x :: xs, E, v :: vs => relA x E v ∧ preA xs E vs
  | _ :: _, _, [] => False
end
def rel (E : Env) (x : AV) (u : Value) : Prop := relA x E u
def rels (E : Env) (xs : List AV) (us : List Value) : Prop := relsA xs E us
def pre (E : Env) (xs : List AV) (us : List Value) : Prop := preA xs E us

/-- Later, and with more known of our rows. -/
structure Env.le (E E' : Env) : Prop where
  keep : ∀ b, ¬ E.A b → ∀ ob, E.w.heap[b]? = some ob → ¬ E'.A b ∧ E'.w.heap[b]? = some ob
  own : ∀ k b, E.O k = some b → E'.O k = some b
theorem Env.le.refl (E : Env) : E.le E := ⟨fun _ h _ h' => ⟨h, h'⟩, fun _ _ h => h⟩
theorem Env.le.trans {E E' E'' : Env} (h : E.le E') (h' : E'.le E'') : E.le E'' := ⟨fun b hb ob hob => by
    obtain ⟨h1, h2⟩ := h.keep b hb ob hob
    exact h'.keep b h1 ob h2, fun k b hb => h'.own k b (h.own k b hb)⟩
theorem Env.le.fz {E E' : Env} (h : E.le E') : E.fz.le E'.fz := ⟨h.keep, fun k b hb => by cases hb⟩
mutual
theorem relA_le : ∀ (x : AV) {E E' : Env} (_ : E.le E') (u : Value), relA x E u → relA x E' u
  | .x v, _, _, _, u, hr => by unfold relA at *; exact hr
  | .f a, _, _, _, u, hr => by unfold relA at *; exact hr
  | .cx a c, _, _, _, u, hr => by unfold relA at *; exact hr
  | .agg l, _, _, h, u, hr => by
    unfold relA at *
    obtain ⟨vs, h1, h2⟩ := hr
    exact ⟨vs, h1, relsA_le l h _ h2⟩
  | .tup l, _, _, h, u, hr => by
    unfold relA at *
    obtain ⟨vs, h1, h2⟩ := hr
    exact ⟨vs, h1, relsA_le l h _ h2⟩
  | .own k off, _, _, h, u, hr => by
    unfold relA at *
    obtain ⟨b, c, h1, h2⟩ := hr
    exact ⟨b, c, h.own k _ h1, h2⟩
  | .eown k sz i sub, _, _, h, u, hr => by
    unfold relA at *
    obtain ⟨b, c, h1, h2⟩ := hr
    exact ⟨b, c, h.own k _ h1, h2⟩
  | .osl k sz st len, _, _, h, u, hr => by
    unfold relA at *
    rcases hr with hr | ⟨b, c, n, h1, h2⟩
    · exact Or.inl hr
    · exact Or.inr ⟨b, c, n, h.own k _ h1, h2⟩
  | .view k sz st sub n, _, _, h, u, hr => by
    unfold relA at *
    obtain ⟨a, c, h1, h2, h3⟩ := hr
    refine ⟨a, c, h1, h2, ?_⟩
    rcases h3 with h3 | ⟨b, c', h4, h5⟩
    · exact Or.inl h3
    · exact Or.inr ⟨b, c', h.own k _ h4, h5⟩
  | .ref l off, _, _, h, u, hr => by
    unfold relA at *
    obtain ⟨b, o, cs, e, fz, h1, h2, h3, h4⟩ := hr
    obtain ⟨g1, g2⟩ := h.keep b h2 _ h3
    exact ⟨b, o, cs, e, fz, h1, g1, g2, preA_le l h.fz _ h4⟩
  | .sl sz n el, _, _, h, u, hr => by
    unfold relA at *
    obtain ⟨a, c, h1, h2, h3⟩ := hr
    refine ⟨a, c, h1, h2, ?_⟩
    rcases h3 with h3 | ⟨b, o, cs, e, fz, h4, h5, h6, h7⟩
    · exact Or.inl h3
    · obtain ⟨g1, g2⟩ := h.keep b h5 _ h6
      exact Or.inr ⟨b, o, cs, e, fz, h4, g1, g2, fun i hi => ⟨(h7 i hi).1, preA_le (el i) h.fz _ (h7 i hi).2⟩⟩
  | .ifc t x, _, _, h, u, hr => by
    unfold relA at *
    obtain ⟨y, h1, h2⟩ := hr
    exact ⟨y, h1, relA_le x h y h2⟩
  | .fn g a b, _, _, h, u, hr => by
    unfold relA at *
    obtain ⟨va, vb, h1, h2, h3⟩ := hr
    exact ⟨va, vb, h1, relsA_le a h _ h2, relsA_le b h _ h3⟩
  | .any, _, _, _, _, _ => by unfold relA; trivial
theorem relsA_le : ∀ (xs : List AV) {E E' : Env} (_ : E.le E') (us : List Value), relsA xs E us → relsA xs E' us
  | [], _, _, _, [], _ => by unfold relsA; trivial
  | x :: xs, _, _, h, u :: us, hr => by
    unfold relsA at *
    exact ⟨relA_le x h u hr.1, relsA_le xs h us hr.2⟩
  | [], _, _, _, _ :: _, hr => by unfold relsA at hr; exact hr.elim
  | _ :: _, _, _, _, [], hr => by unfold relsA at hr; exact hr.elim
theorem preA_le : ∀ (xs : List AV) {E E' : Env} (_ : E.le E') (us : List Value), preA xs E us → preA xs E' us
  | [], _, _, _, _, _ => by unfold preA; trivial
  | x :: xs, _, _, h, u :: us, hr => by
    unfold preA at *
    exact ⟨relA_le x h u hr.1, preA_le xs h us hr.2⟩
  | _ :: _, _, _, _, [], hr => by unfold preA at hr; exact hr.elim
end
theorem rel_le {E E' : Env} (h : E.le E') {x : AV} {u : Value} (hr : rel E x u) : rel E' x u := relA_le x h u hr
theorem rels_le {E E' : Env} (h : E.le E') {xs : List AV} {us : List Value} (hr : rels E xs us) : rels E' xs us := relsA_le xs h us hr
theorem pre_le {E E' : Env} (h : E.le E') {xs : List AV} {us : List Value} (hr : pre E xs us) : pre E' xs us := preA_le xs h us hr

theorem rel_x {E : Env} {v u : Value} : rel E (.x v) u ↔ u = v := by unfold rel; first | (rw [relA]; done) | (rw [relA]; exact Iff.rfl)
theorem rel_f {E : Env} {a : Nat} {u : Value} : rel E (.f a) u ↔ ∃ b, u = .float .f64 b ∧ cn b = a := by unfold rel; first | (rw [relA]; done) | (rw [relA]; exact Iff.rfl)
theorem rel_agg {E : Env} {l : List AV} {u : Value} : rel E (.agg l) u ↔ ∃ vs, u = .agg vs ∧ rels E l vs.toList := by unfold rel; first | (rw [relA]; done) | (rw [relA]; exact Iff.rfl)
theorem rel_tup {E : Env} {l : List AV} {u : Value} : rel E (.tup l) u ↔ ∃ vs, u = .tuple vs ∧ rels E l vs.toList := by unfold rel; first | (rw [relA]; done) | (rw [relA]; exact Iff.rfl)
theorem rel_own {E : Env} {k off : Nat} {u : Value} : rel E (.own k off) u ↔ ∃ b c, E.O k = some (b, c) ∧ u = .pointer (some ⟨b, off, none⟩) := by unfold rel; first | (rw [relA]; done) | (rw [relA]; exact Iff.rfl)
theorem rel_eown {E : Env} {k sz i sub : Nat} {u : Value} : rel E (.eown k sz i sub) u ↔ ∃ b c, E.O k = some (b, c) ∧ u = .pointer (some ⟨b, i * sz + sub, none⟩) := by unfold rel; first | (rw [relA]; done) | (rw [relA]; exact Iff.rfl)
theorem rel_view {E : Env} {k sz st sub n : Nat} {u : Value} : rel E (.view k sz st sub n) u ↔ ∃ a c, u = .slice a n c ∧ n ≤ c ∧ (n = 0 ∨ ∃ b c', E.O k = some (b, c') ∧ a = some ⟨b, st * sz + sub, none⟩) := by unfold rel; rw [relA]
theorem rel_osl {E : Env} {k sz st len : Nat} {u : Value} : rel E (.osl k sz st len) u ↔ (st = 0 ∧ len = 0 ∧ u = .slice none 0 0) ∨ ∃ b c n, E.O k = some (b, c, n) ∧ st + len ≤ n ∧ n ≤ c ∧ u = .slice (some ⟨b, st * sz, none⟩) len (c - st) := by unfold rel; first | (rw [relA]; done) | (rw [relA]; exact Iff.rfl)
theorem rel_ref {E : Env} {l : List AV} {off : Nat} {u : Value} : rel E (.ref l off) u ↔ ∃ b o cs e fz, u = .pointer (some ⟨b, o + off, none⟩) ∧ ¬ E.A b ∧ E.w.heap[b]? = some (.cells cs e fz) ∧ pre E.fz l (cs.toList.drop o) := by unfold rel; first | (rw [relA]; done) | (rw [relA]; exact Iff.rfl)
theorem rel_sl {E : Env} {sz n : Nat} {el : Nat → List AV} {u : Value} : rel E (.sl sz n el) u ↔ ∃ a c, u = .slice a n c ∧ n ≤ c ∧ (n = 0 ∨ ∃ b o cs e fz, a = some ⟨b, o, none⟩ ∧ ¬ E.A b ∧ E.w.heap[b]? = some (.cells cs e fz) ∧ ∀ i, i < n → (el i).length = sz ∧ pre E.fz (el i) (cs.toList.drop (o + i * sz))) := by unfold rel; first | (rw [relA]; done) | (rw [relA]; exact Iff.rfl)
theorem rel_ifc {E : Env} {t : TypeId} {x : AV} {u : Value} : rel E (.ifc t x) u ↔ ∃ y, u = .iface t y ∧ rel E x y := by
  unfold rel; first | (rw [relA]; done) | (rw [relA]; exact Iff.rfl)
theorem rel_any {E : Env} {u : Value} : rel E .any u := by unfold rel; rw [relA]; trivial
theorem rels_nil {E : Env} {us : List Value} : rels E [] us ↔ us = [] := by
  unfold rels
  cases us with
  | nil => simp [relsA]
  | cons u us => simp [relsA]
theorem rels_cons {E : Env} {x : AV} {xs : List AV} {us : List Value} : rels E (x :: xs) us ↔ ∃ u us', us = u :: us' ∧ rel E x u ∧ rels E xs us' := by
  unfold rels
  cases us with
  | nil => simp [relsA]
  | cons u us => rw [relsA]; exact ⟨fun h => ⟨u, us, rfl, h⟩, fun ⟨_, _, h, g⟩ => by cases h; exact g⟩
theorem pre_nil {E : Env} {us : List Value} : pre E [] us := by unfold pre; rw [preA]; trivial
theorem pre_cons {E : Env} {x : AV} {xs : List AV} {us : List Value} : pre E (x :: xs) us ↔ ∃ u us', us = u :: us' ∧ rel E x u ∧ pre E xs us' := by
  cases us with
  | nil => unfold pre; rw [preA]; exact ⟨fun h => h.elim, fun ⟨_, _, h, _⟩ => by cases h⟩
  | cons u us => unfold pre; rw [preA]; exact ⟨fun h => ⟨u, us, rfl, h⟩, fun ⟨_, _, h, g⟩ => by cases h; exact g⟩

theorem rels_length {E : Env} : ∀ {xs : List AV} {vs : List Value}, rels E xs vs → xs.length = vs.length
  | [], vs, h => by rw [rels_nil.1 h]; rfl
  | x :: xs, vs, h => by
    obtain ⟨u, us, rfl, _, h2⟩ := rels_cons.1 h
    simp [rels_length h2]
theorem pre_of_rels {E : Env} : ∀ {xs : List AV} {vs : List Value}, rels E xs vs → pre E xs vs
  | [], vs, _ => pre_nil
  | x :: xs, vs, h => by
    obtain ⟨u, us, rfl, h1, h2⟩ := rels_cons.1 h
    exact pre_cons.2 ⟨u, us, rfl, h1, pre_of_rels h2⟩
theorem pre_length {E : Env} : ∀ {xs : List AV} {vs : List Value}, pre E xs vs → xs.length ≤ vs.length
  | [], vs, _ => Nat.zero_le _
  | x :: xs, vs, h => by
    obtain ⟨u, us, rfl, _, h2⟩ := pre_cons.1 h
    simp [pre_length h2]
theorem pre_get {E : Env} : ∀ {xs : List AV} {vs : List Value} {i : Nat} {x : AV}, pre E xs vs → xs[i]? = some x → ∃ v, vs[i]? = some v ∧ rel E x v
  | [], _, i, x, _, h => by simp at h
  | y :: xs, vs, i, x, hr, h => by
    obtain ⟨u, us, rfl, h1, h2⟩ := pre_cons.1 hr
    cases i with
    | zero => simp at h; subst h; exact ⟨u, rfl, h1⟩
    | succ i => simp at h; simpa using pre_get h2 h
theorem pre_part {E : Env} : ∀ {xs : List AV} {vs : List Value} (o n : Nat), pre E xs vs → o + n ≤ xs.length → rels E ((xs.drop o).take n) ((vs.drop o).take n)
  | xs, vs, 0, 0, _, _ => by simp [rels_nil]
  | [], vs, 0, n + 1, _, h => by simp at h
  | x :: xs, vs, 0, n + 1, hr, h => by
    obtain ⟨u, us, rfl, h1, h2⟩ := pre_cons.1 hr
    simp only [List.drop_zero, List.take_succ_cons]
    exact rels_cons.2 ⟨u, _, rfl, h1, by have := pre_part 0 n h2 (by simp at h ⊢; omega); simpa using this⟩
  | [], vs, o + 1, n, _, h => by simp at h
  | x :: xs, vs, o + 1, n, hr, h => by
    obtain ⟨u, us, rfl, h1, h2⟩ := pre_cons.1 hr
    simp only [List.drop_succ_cons]
    exact pre_part o n h2 (by simp at h ⊢; omega)
theorem rels_get {E : Env} {xs : List AV} {vs : List Value} {i : Nat} {x : AV} (h : rels E xs vs) (hx : xs[i]? = some x) : ∃ v, vs[i]? = some v ∧ rel E x v := pre_get (pre_of_rels h) hx
theorem rels_set {E : Env} : ∀ {xs : List AV} {vs : List Value} (i : Nat) {x : AV} {v : Value}, rels E xs vs → rel E x v → rels E (xs.set i x) (vs.set i v)
  | [], vs, i, x, v, h, _ => by rw [rels_nil.1 h]; simp [rels_nil]
  | y :: xs, vs, i, x, v, h, hx => by
    obtain ⟨u, us, rfl, h1, h2⟩ := rels_cons.1 h
    cases i with
    | zero => exact rels_cons.2 ⟨v, us, rfl, hx, h2⟩
    | succ i => exact rels_cons.2 ⟨u, _, rfl, h1, rels_set i h2 hx⟩
/-- Cells put in place of others. -/
theorem pre_store {E : Env} : ∀ {xs : List AV} {vs : List Value} (o : Nat) {ys : List AV} {us : List Value}, pre E xs vs → rels E ys us → o + ys.length ≤ xs.length →
    pre E (xs.take o ++ (ys ++ xs.drop (o + ys.length))) (vs.take o ++ us ++ vs.drop (o + us.length))
  | xs, vs, 0, [], us, h, hr, _ => by rw [rels_nil.1 hr]; simpa using h
  | [], _, 0, _ :: _, _, _, _, hl => by simp at hl
  | x :: xs, vs, 0, y :: ys, us, h, hr, hl => by
    obtain ⟨v, vs', rfl, h1, h2⟩ := pre_cons.1 h
    obtain ⟨u, us', rfl, g1, g2⟩ := rels_cons.1 hr
    have := pre_store 0 h2 g2 (by simp at hl ⊢; omega)
    simp only [List.take_zero, List.nil_append, List.cons_append, List.length_cons, Nat.zero_add, List.drop_succ_cons] at this ⊢
    exact pre_cons.2 ⟨u, _, rfl, g1, this⟩
  | [], _, o + 1, ys, _, _, _, hl => by simp at hl
  | x :: xs, vs, o + 1, ys, us, h, hr, hl => by
    obtain ⟨v, vs', rfl, h1, h2⟩ := pre_cons.1 h
    have := pre_store o h2 hr (by simp at hl ⊢; omega)
    simp only [List.take_succ_cons, List.cons_append]
    rw [show o + 1 + ys.length = (o + ys.length) + 1 by omega, show o + 1 + us.length = (o + us.length) + 1 by omega]
    simp only [List.drop_succ_cons]
    exact pre_cons.2 ⟨v, _, rfl, h1, this⟩

def canA : Value → AV
  | .float .f64 b => .f (cn b)
  | .complex .f64 a b => .cx (cn a) (cn b)
  | .pointer (some _) => .any
  | .slice (some _) _ _ => .any
  | .agg _ => .any
  | .tuple _ => .any
  | .iface _ _ => .any
  | .func _ _ _ => .any
  | .map (some _) => .any
  | .chan (some _) => .any
  | v => .x v
theorem rel_canA (E : Env) (v : Value) : rel E (canA v) v := by
  unfold canA
  split
  · exact rel_f.2 ⟨_, rfl, rfl⟩
  · unfold rel; rw [relA]; exact ⟨_, _, rfl, rfl, rfl⟩
  all_goals first | exact rel_any | exact rel_x.2 rfl
def isPlain : Value → Bool
  | .bool _ => true
  | .int _ _ => true
  | .string _ => true
  | _ => false
/-- A plain result: itself, its NaN taken for one. -/
def canR : Value → AV
  | .float .f64 b => .f (cn b)
  | .bool b => .x (.bool b)
  | .int k n => .x (.int k n)
  | .string s => .x (.string s)
  | _ => .any
theorem rel_canR (E : Env) (v : Value) : rel E (canR v) v := by
  unfold canR
  split
  · exact rel_f.2 ⟨_, rfl, rfl⟩
  all_goals first | exact rel_any | exact rel_x.2 rfl
theorem rels_canA (E : Env) : ∀ (vs : List Value), rels E (vs.map canA) vs
  | [] => rels_nil.2 rfl
  | v :: vs => rels_cons.2 ⟨v, vs, rfl, rel_canA E v, rels_canA E vs⟩

/-- What asks nothing of the world: its outcome. -/
def pureOf {α : Type} (P : Program) : Sem α → Option α
  | .pure a => some a
  | .program k => pureOf P (k P)
  | _ => none
theorem run_of_pureOf {α : Type} {P : Program} (w : World) : ∀ {s : Sem α} {a : α}, pureOf P s = some a → s.run P w = .ok a w := by
  intro s
  induction s with
  | pure b => intro a h; simp [pureOf] at h; subst h; rfl
  | program k ih => intro a h; simp only [Sem.run]; exact ih P h
  | _ => intro a h; simp [pureOf] at h

/-- A value that is one cell, whatever it is. -/
def isCell : AV → Bool
  | .x (.agg _) => false
  | .x (.tuple _) => false
  | .agg _ => false
  | .tup _ => false
  | .any => false
  | _ => true
/-- A part of a struct: one cell, or cells. -/
def okPart : AV → Bool
  | .agg l => l.all isCell
  | x => isCell x
def AV.cells : AV → List AV
  | .agg l => l
  | y => [y]
theorem rel_oneCell {E : Env} {x : AV} {v : Value} (h : rel E x v) (hx : isCell x = true) : v.oneCell' = true := by
  cases x with
  | x u => rw [rel_x.1 h]; cases u <;> first | rfl | (simp [isCell] at hx)
  | f a => obtain ⟨b, rfl, _⟩ := rel_f.1 h; rfl
  | cx a c => unfold rel at h; rw [relA] at h; obtain ⟨b, d, rfl, _⟩ := h; rfl
  | own k o => obtain ⟨b, c, _, rfl⟩ := rel_own.1 h; rfl
  | eown k sz i s => obtain ⟨b, c, _, rfl⟩ := rel_eown.1 h; rfl
  | osl k sz st len => rcases rel_osl.1 h with ⟨_, _, rfl⟩ | ⟨b, c, n, _, _, _, rfl⟩ <;> rfl
  | view k sz st sub n => obtain ⟨a, c, rfl, _⟩ := rel_view.1 h; rfl
  | ref l o => obtain ⟨b, _, _, _, _, rfl, _⟩ := rel_ref.1 h; rfl
  | sl sz n el => obtain ⟨a, c, rfl, _⟩ := rel_sl.1 h; rfl
  | ifc t x => obtain ⟨y, rfl, _⟩ := rel_ifc.1 h; rfl
  | fn g a b => unfold rel at h; rw [relA] at h; obtain ⟨va, vb, rfl, _⟩ := h; rfl
  | _ => simp [isCell] at hx
theorem cells_of_one {v : Value} (h : v.oneCell' = true) : v.cells = #[v] := by cases v <;> first | rfl | simp [Value.oneCell'] at h
theorem cells_rel {E : Env} {x : AV} {v : Value} (h : rel E x v) (hx : okPart x = true) : rels E x.cells v.cells.toList := by
  have one : ∀ (_ : isCell x = true) (_ : x.cells = [x]), rels E x.cells v.cells.toList := by
    intro hk hc
    rw [cells_of_one (rel_oneCell h hk), hc]
    exact rels_cons.2 ⟨v, [], rfl, h, rels_nil.2 rfl⟩
  cases x with
  | agg l => obtain ⟨vs, rfl, h2⟩ := rel_agg.1 h; exact h2
  | _ => exact one hx rfl
theorem cells_one {E : Env} : ∀ {xs : List AV} {vs : List Value}, rels E xs vs → xs.all isCell = true → ∀ u ∈ vs, u.oneCell' = true
  | [], vs, h, _, u, hu => by rw [rels_nil.1 h] at hu; cases hu
  | x :: xs, vs, h, hx, u, hu => by
    obtain ⟨v, vs', rfl, h1, h2⟩ := rels_cons.1 h
    simp only [List.all_cons, Bool.and_eq_true] at hx
    rcases List.mem_cons.1 hu with rfl | hu
    · exact rel_oneCell h1 hx.1
    · exact cells_one h2 hx.2 u hu
theorem okPart_cells {x : AV} (h : okPart x = true) : x.cells.all isCell = true := by
  cases x with
  | agg l => exact h
  | _ => simp only [AV.cells, List.all_cons, List.all_nil, Bool.and_true]; exact h
end Go.Gv

namespace Go.Gv
/-- The cells of the variables that are known. -/
def known : Nat → Option (List AV) := fun g => cond (Nat.beq g 1) (some [.x (.string ⟨#[]⟩), .x (.string ⟨#[98, 111, 116, 104]⟩), .x (.string ⟨#[101, 105, 116, 104, 101, 114]⟩), .x (.string ⟨#[108, 101, 115, 115]⟩)]) none
/-- Rows of these elements are cut to their beginning and lengthened from there. -/
def cutE : Nat → Bool := fun t => Nat.beq t 3
end Go.Gv

namespace Go.Gv
open Go.RowKit Go.Ev
noncomputable section

/-- What is known of a block of ours: its first cells; or that it is a row of elements, and what each holds. -/
inductive Row where
  | c (l : List AV)
  | a (e : TypeId) (sz n : Nat) (el : Nat → List AV)
  | dead
  /-- a row that is only read any more -/
  | z (x : Bool) (e : TypeId) (sz n : Nat) (el : Nat → List AV)
  /-- all cells of a block, and its type -/
  | t (e : TypeId) (l : List AV)
  /-- an iterator over a string: where it is, and whether it is at the end -/
  | i (s : ByteArray) (p : Nat) (e : Bool)
def rowRel (E : Env) (b : Nat) (c : Nat × Nat) : Row → Prop
  | .c l => ∃ cs e, E.w.heap[b]? = some (.cells cs e (0, 0)) ∧ pre E l cs.toList
  | .a e sz n el => ∃ cs, E.w.heap[b]? = some (.cells cs e (0, 0)) ∧ cs.size = c.1 * sz ∧ c.2 = n ∧ n ≤ c.1 ∧ c.1 ≤ maxLen ∧ ∀ i, i < n → (el i).length = sz ∧ pre E.fz (el i) (cs.toList.drop (i * sz))
  | .dead => True
  | .z x e sz n el => ∃ cs fz, E.w.heap[b]? = some (.cells cs e fz) ∧ c.2 = n ∧ (x = true → c.1 = n ∧ cs.size = n * sz) ∧ ∀ i, i < n → (el i).length = sz ∧ pre E.fz (el i) (cs.toList.drop (i * sz))
  | .t e l => ∃ cs, E.w.heap[b]? = some (.cells cs e (0, 0)) ∧ pre E l cs.toList ∧ cs.size = l.length
  | .i s p e => E.w.heap[b]? = some (.stringIter s p) ∧ e = Nat.ble s.size p
def MemRel (E : Env) (mem : List Row) : Prop := ∀ k b c, E.O k = some (b, c) → ∃ row, mem[k]? = some row ∧ rowRel E b c row

/-- Under which tests of its region a slot was written. -/
abbrev Chain := List (Nat × Bool)
def dflt : AV × Chain := (.x undef, [])
structure St where
  slots : List (AV × Chain)
  mem : List Row
def aeval (s : St) : Operand → AV
  | .tmp t => (s.slots.getD t dflt).1
  | .const v => canA v
  | .global g => match known g with
    | some l => .ref l 0
    | none => .any
  | .func f => .fn (.func f) [] []

/-- The variables hold what is known of them. -/
def glob (E : Env) : Prop := ∀ g l, known g = some l → rel E (.ref l 0) (.pointer (some ⟨g, 0, none⟩)) ∧ ∀ cs e fz, E.w.heap[g]? = some (.cells cs e fz) → cs.size = l.length
theorem glob_le {E E' : Env} (h : E.le E') (hg : glob E) : glob E' := fun g l hl => by
  obtain ⟨h1, h2⟩ := hg g l hl
  refine ⟨rel_le h h1, fun cs e fz hc => ?_⟩
  have h1 : relA _ _ _ := h1
  rw [relA] at h1
  obtain ⟨b, o, cs0, e0, fz0, hp, hA, hb, _⟩ := h1
  simp only [Value.pointer.injEq, Option.some.injEq, Addr.mk.injEq] at hp
  obtain ⟨rfl, _⟩ := hp
  have := (h.keep g hA _ hb).2
  rw [this] at hc
  cases hc
  exact h2 _ _ _ hb
theorem glob_O {E : Env} (hg : glob E) (O' : Nat → Option (Nat × Nat × Nat)) : glob { E with O := O' } := fun g l hl => by
  obtain ⟨h, h2⟩ := hg g l hl
  refine ⟨?_, h2⟩
  have h : relA _ _ _ := h
  show relA _ _ _
  rw [relA] at h ⊢
  exact h
/-- What lies behind a pointer: whether it is there, the cells that are known, from where on. -/
def aat (mem : List Row) : AV → Option (Bool × List AV × Nat)
  | .own k off => match mem[k]? with
    | some (.c l) => some (true, l, off)
    | some (.t _ l) => some (true, l, off)
    | _ => none
  | .eown k sz i sub => match mem[k]? with
    | some (.a _ sz' n el) => cond (sz == sz') (some (Nat.blt i n, el i, sub)) none
    | _ => none
  | .ref l off => some (true, l, off)
  | _ => none
theorem pre_fz {E : Env} {l : List AV} {us : List Value} (h : pre E.fz l us) : pre E l us := pre_le (E := E.fz) (E' := E) ⟨fun _ h1 _ h2 => ⟨h1, h2⟩, fun _ _ hb => by cases hb⟩ h
theorem aat_good {E : Env} {mem : List Row} (hm : MemRel E mem) {x : AV} {v : Value} (hv : rel E x v) {l : List AV} {o : Nat} (h : aat mem x = some (true, l, o)) :
    ∃ b o0 cs e fz, v = .pointer (some ⟨b, o0 + o, none⟩) ∧ E.w.heap[b]? = some (.cells cs e fz) ∧ pre E l (cs.toList.drop o0) := by
  cases x with
  | own k off =>
    obtain ⟨b, c, hb, rfl⟩ := rel_own.1 hv
    obtain ⟨row, hr, hrel⟩ := hm k b c hb
    simp only [aat, hr] at h
    cases row <;> simp only at h <;> first | (cases h; done) | skip
    · cases h
      obtain ⟨cs, e, h1, h2⟩ := hrel
      exact ⟨b, 0, cs, e, (0, 0), by rw [Nat.zero_add], h1, by simpa using h2⟩
    · cases h
      obtain ⟨cs, h1, h2, _⟩ := hrel
      exact ⟨b, 0, cs, _, (0, 0), by rw [Nat.zero_add], h1, by simpa using h2⟩
  | eown k sz i sub =>
    obtain ⟨b, c, hb, rfl⟩ := rel_eown.1 hv
    obtain ⟨row, hr, hrel⟩ := hm k b c hb
    simp only [aat, hr] at h
    cases row <;> simp only at h <;> first | (cases h; done) | skip
    rename_i e0 sz' n el
    cases hs : sz == sz'
    · rw [hs] at h; cases h
    · rw [hs] at h
      simp only [cond_true, Option.some.injEq, Prod.mk.injEq] at h
      obtain ⟨h1, rfl, rfl⟩ := h
      have e1 := eq_of_beq hs
      subst e1
      obtain ⟨cs, h2, _, _, _, _, h3⟩ := hrel
      exact ⟨b, i * sz, cs, e0, (0, 0), rfl, h2, pre_fz (h3 i (Nat.le_of_ble_eq_true h1)).2⟩
  | ref l' off =>
    obtain ⟨b, o0, cs, e, fz, rfl, _, h2, h3⟩ := rel_ref.1 hv
    simp only [aat, Option.some.injEq, Prod.mk.injEq] at h
    obtain ⟨_, rfl, rfl⟩ := h
    exact ⟨b, o0, cs, e, fz, rfl, h2, pre_fz h3⟩
  | _ => simp [aat] at h
/-- A place further on. -/
def padd : AV → Nat → Option AV
  | .own k o, n => some (.own k (o + n))
  | .eown k sz i s, n => some (.eown k sz i (s + n))
  | .ref l o, n => some (.ref l (o + n))
  | _, _ => none
theorem padd_good {E : Env} {x y : AV} {v : Value} {n : Nat} (hv : rel E x v) (h : padd x n = some y) : ∃ b o, v = .pointer (some ⟨b, o, none⟩) ∧ rel E y (.pointer (some ⟨b, o + n, none⟩)) := by
  cases x with
  | own k off =>
    obtain ⟨b, c, hb, rfl⟩ := rel_own.1 hv
    cases h
    exact ⟨b, off, rfl, rel_own.2 ⟨b, c, hb, rfl⟩⟩
  | eown k sz i sub =>
    obtain ⟨b, c, hb, rfl⟩ := rel_eown.1 hv
    cases h
    exact ⟨b, _, rfl, rel_eown.2 ⟨b, c, hb, by rw [Nat.add_assoc]⟩⟩
  | ref l' off =>
    obtain ⟨b, o0, cs, e, fz, rfl, h1, h2, h3⟩ := rel_ref.1 hv
    cases h
    exact ⟨b, _, rfl, rel_ref.2 ⟨b, o0, cs, e, fz, by rw [Nat.add_assoc], h1, h2, h3⟩⟩
  | _ => simp [padd] at h

def isAggD : TypeDesc → Bool
  | .struct _ => true
  | .array _ _ => true
  | _ => false
def aload (P : Program) (t : TypeId) (cells : List AV) (o : Nat) : Option AV :=
  match P.underlying t, P.info? t with
  | some d, some i => cond (isAggD d) (cond (Nat.ble (o + i.size) cells.length) (some (.agg ((cells.drop o).take i.size))) none) (cells[o]?)
  | _, _ => none
def afield (P : Program) (t : TypeId) (x : AV) (f : Nat) : Option AV :=
  match P.underlying t with
  | some (.struct fields) =>
    match fields[f]? with
    | some fd => match P.info? fd.type with
      | some inf => cond (inf.size == 0) none (padd x fd.offset)
      | none => none
    | none => none
  | _ => none
/-- The address of an element. -/
def aindex (P : Program) (t : TypeId) (x ix : AV) : Option (Bool × AV) :=
  match ix with
  | .x (.int _ k) => match P.underlying t with
    | some (.array n e) => match P.info? e with
      | some inf => (padd x (k.toNat * inf.size)).map fun y => (decide (0 ≤ k) && decide (k < (n : Int)), y)
      | none => none
    | some (.slice e) => match P.info? e with
      | some inf => match x with
        | .sl sz n el => cond (sz == inf.size) (some (decide (0 ≤ k) && decide (k < (n : Int)), .ref (el k.toNat) 0)) none
        | .osl j sz st len => cond (sz == inf.size) (some (decide (0 ≤ k) && decide (k < (len : Int)), .eown j sz (st + k.toNat) 0)) none
        | .view j sz st sub len => cond (sz == inf.size) (some (decide (0 ≤ k) && decide (k < (len : Int)), .eown j sz (st + k.toNat) sub)) none
        | _ => none
      | none => none
    | _ => none
  | _ => none
/-- An element of an array by value. -/
def aelem (P : Program) (t : TypeId) (x ix : AV) : Option AV :=
  match ix, x, P.underlying t with
  | .x (.int _ k), .agg cs, some (.array n e) => match P.info? e with
    | some inf => cond (decide (0 ≤ k) && decide (k < (n : Int))) (aload P e cs (k.toNat * inf.size)) none
    | none => none
  | _, _, _ => none
/-- A field of a struct by value. -/
def apick (P : Program) (t : TypeId) (x : AV) (f : Nat) : Option AV :=
  match x, P.underlying t with
  | .agg cs, some (.struct fields) => match fields[f]? with
    | some fd => aload P fd.type cs fd.offset
    | none => none
  | _, _ => none
def fbin (op : BinOp) (a b : Nat) : Option AV :=
  match op with
  | .add => some (.f (fadd a b))
  | .sub => some (.f (fsub a b))
  | .mul => some (.f (fmul a b))
  | .quo => some (.f (fdiv a b))
  | .eql => some (.x (.bool (feq a b)))
  | .neq => some (.x (.bool (!feq a b)))
  | .lss => some (.x (.bool (flt a b)))
  | .leq => some (.x (.bool (fle a b)))
  | .gtr => some (.x (.bool (fgt a b)))
  | .geq => some (.x (.bool (fge a b)))
  | _ => none
/-- Complex numbers, part by part. -/
def cbin (op : BinOp) (a b c d : Nat) : Option AV :=
  match op with
  | .add => some (.cx (fadd a c) (fadd b d))
  | .sub => some (.cx (fsub a c) (fsub b d))
  | .mul => some (.cx (fsub (fmul a c) (fmul b d)) (fadd (fmul a d) (fmul b c)))
  | .eql => some (.x (.bool (feq a c && feq b d)))
  | .neq => some (.x (.bool (!(feq a c && feq b d))))
  | _ => none
def isAggT (P : Program) (t : TypeId) : Bool :=
  match P.underlying t with
  | some d => isAggD d
  | none => false
/-- '==' of two values of a type, cell by cell. -/
def aeq (P : Program) : Nat → TypeId → List AV → List AV → Option Bool
  | 0, _, _, _ => none
  | n + 1, t, xs, ys => match P.underlying t with
    | some (.struct fs) => cond (P.stoodInHeld t) none (fs.toList.foldr (fun f acc => match P.info? f.type, acc with
      | some inf, some b => cond ((f.name == "_") || (inf.size == 0) || Nat.blt xs.length (f.offset + inf.size) || Nat.blt ys.length (f.offset + inf.size)) none
          ((aeq P n f.type ((xs.drop f.offset).take inf.size) ((ys.drop f.offset).take inf.size)).map (· && b))
      | _, _ => none) (some true))
    | some (.array len e) => match P.info? e with
      | some inf => (List.range len).foldr (fun i acc => match acc with
        | some b => cond ((inf.size == 0) || Nat.blt xs.length (i * inf.size + inf.size) || Nat.blt ys.length (i * inf.size + inf.size)) none
            ((aeq P n e ((xs.drop (i * inf.size)).take inf.size) ((ys.drop (i * inf.size)).take inf.size)).map (· && b))
        | none => none) (some true)
      | none => none
    | some (.float .f64) => match xs, ys with
      | [.f a], [.f b] => some (feq a b)
      | _, _ => none
    | some (.int _) => match xs, ys with
      | [.x (.int k a)], [.x (.int k' b)] => cond (decide (k = k')) (some (a == b)) none
      | _, _ => none
    | some .bool => match xs, ys with
      | [.x (.bool a)], [.x (.bool b)] => some (a == b)
      | _, _ => none
    | _ => none
/-- A byte of a string. -/
def sAt (s : ByteArray) (i : Nat) : Int := ((s.data.toList.getD i 0).toNat : Int)
/-- A byte of a string, or an element of an array by value. -/
def aidx (P : Program) (t : TypeId) (x ix : AV) : Option (Bool × AV) :=
  match x with
  | .x (.string s) => match ix, P.underlying t with
    | .x (.int _ k), some .string => some (decide (0 ≤ k) && decide (k < (s.size : Int)), .x (.int .u8 (sAt s k.toNat)))
    | _, _ => none
  | _ => (aelem P t x ix).map fun y => (true, y)
/-- Whether there is room for two strings together. -/
def catR (a b : ByteArray) : Bool := decide (((a.size + b.size : Nat) : Int) ≤ IntKind.i64.max)
/-- The same, not to be looked into. -/
noncomputable def catF : ByteArray → ByteArray → Bool := Classical.choose (⟨catR, rfl⟩ : ∃ f : ByteArray → ByteArray → Bool, f = catR)
theorem catF_eq : catF = catR := Classical.choose_spec (⟨catR, rfl⟩ : ∃ f : ByteArray → ByteArray → Bool, f = catR)
/-- Division of whole numbers: not by nought. Strings laid together. -/
def adiv (op : BinOp) (u v : Value) : Option (Bool × AV) :=
  match u, v with
  | .int .i64 a, .int .i64 b => match op with
    | .rem => some (!(b == 0), .x (.int .i64 (a.tmod b)))
    | .quo => some (!(b == 0), .x (.int .i64 (IntKind.i64.wrap (a.tdiv b))))
    | _ => none
  | .string a, .string b => match op with
    | .add => some (catF a b, .x (.string (a ++ b)))
    | _ => none
  | _, _ => none
def abin (P : Program) (op : BinOp) (t : TypeId) (x y : AV) : Option (Bool × AV) :=
  match x, y with
  | .f a, .f b => (fbin op a b).map fun r => (true, r)
  | .cx a b, .cx c d => (cbin op a b c d).map fun r => (true, r)
  | .agg xs, .agg ys => cond (isAggT P t && !P.eqGuardType P.depth t) (match op, aeq P 8 t xs ys with
    | .eql, some b => some (true, .x (.bool b))
    | .neq, some b => some (true, .x (.bool !b))
    | _, _ => none) none
  | .x u, .x v => cond (isPlain u && isPlain v) (match adiv op u v with
    | some r => some r
    | none => (pureOf P (binOp op t u v)).map fun r => (true, canR r)) none
  | _, _ => none
def isIfaceD : TypeDesc → Bool
  | .interface _ => true
  | _ => false
def isIfaceT (P : Program) (t : TypeId) : Bool :=
  match P.underlying t with
  | some d => isIfaceD d
  | none => false
def isSliceT (P : Program) (t : TypeId) : Bool :=
  match P.underlying t with
  | some (.slice _) => true
  | _ => false
def isPtrT (P : Program) (t : TypeId) : Bool :=
  match P.underlying t with
  | some (.pointer _) => true
  | _ => false
def isConst : Operand → Bool
  | .const _ => true
  | _ => false
def nilRes (op : BinOp) (b : Bool) : Option AV :=
  match op with
  | .eql => some (.x (.bool b))
  | .neq => some (.x (.bool !b))
  | _ => none
def abinO (P : Program) (op : BinOp) (t : TypeId) (x y : Operand) (a b : AV) : Option (Bool × AV) :=
  match a, b with
  | .x .nilIface, .x .nilIface => cond ((isConst x || isConst y) && isIfaceT P t) ((nilRes op true).map fun r => (true, r)) none
  | .ifc _ _, .x .nilIface => cond (isIfaceT P t) ((nilRes op false).map fun r => (true, r)) none
  | .sl _ n _, .x (.slice none 0 0) => cond (isSliceT P t) ((nilRes op false).map fun r => (Nat.blt 0 n, r)) none
  | .own _ _, .x (.pointer none) => cond (isPtrT P t) ((nilRes op false).map fun r => (true, r)) none
  | .ref _ _, .x (.pointer none) => cond (isPtrT P t) ((nilRes op false).map fun r => (true, r)) none
  | .x (.slice ad _ _), .x (.slice none 0 0) => cond (isSliceT P t) ((nilRes op ad.isNone).map fun r => (true, r)) none
  | a, b => abin P op t a b
/-- Does a type lack a method that is wanted? -/
def lacks (want : Array (String × TypeId)) (got : Array Method) : Bool :=
  want.toList.any fun p => !got.any fun m => m.name == p.1 && m.sig == p.2
/-- The function that a method's name stands for. -/
def aMethod (P : Program) (t : TypeId) (name : String) : Option Nat :=
  match P.info? t, P.underlying t with
  | some inf, some (.struct _) => match inf.methods.find? (fun m => m.name == name) with
    | some m => match m.func with
      | some (f, false) => cond m.path.isEmpty (some f) none
      | _ => none
    | none => none
  | _, _ => none
def aassert (P : Program) (x : AV) (asserted : TypeId) (ok : Bool) : Option AV :=
  match x with
  | .ifc t v => match P.underlying asserted with
    | some (.interface want) => match P.info? t with
      | some inf => cond (lacks want inf.methods)
          (cond ok (match pureOf P (zeroValue asserted) with
            | some .nilIface => some (.tup [.x .nilIface, .x (.bool false)])
            | _ => none) none)
          (cond ok (some (.tup [.ifc t v, .x (.bool true)])) (some (.ifc t v)))
      | none => none
    | _ => none
  | _ => none
def aun (P : Program) (op : UnOp) (x : AV) : Option AV :=
  match op, x with
  | .neg, .f a => some (.f (fneg a))
  | op, .x u => cond (isPlain u) ((pureOf P (Op.unary op u)).map canR) none
  | _, _ => none
/-- Parts put into cells. -/
def fillA (place : Nat → Option (Nat × Nat)) : List AV → List (Nat × AV) → Option (List AV)
  | cells, [] => some cells
  | cells, (i, x) :: rest => match place i with
    | some (off, size) => cond (okPart x && ((x.cells.length == size) && Nat.ble (off + size) cells.length)) (fillA place (x.cells.zipIdx.foldl (fun cs p => cs.set (off + p.2) p.1) cells) rest) none
    | none => none
def abuild (P : Program) (t : TypeId) (parts : List (Nat × AV)) : Option AV :=
  match pureOf P (zeroValue t) with
  | some z => match P.underlying t with
    | some (.struct fields) => match pureOf P (fields.mapM (m := Sem) fun f => do pure (f.offset, ← sizeOf f.type)) with
      | some places => (fillA (places[·]?) (z.cells.toList.map canA) parts).map .agg
      | none => none
    | some (.array _ elem) => match pureOf P (sizeOf elem) with
      | some size => (fillA (fun i => some (i * size, size)) (z.cells.toList.map canA) parts).map .agg
      | none => none
    | _ => none
  | none => none
end
end Go.Gv

namespace Go.Gv
open Go.RowKit Go.Ev

section
variable {P : Program} {w : World}
/-- A value of a type out of its cells. -/
def IsVal (P : Program) (t : TypeId) (us : List Value) (X : Value) : Prop :=
  match P.underlying t with
  | some (.struct _) => X = .agg us.toArray
  | some (.array _ _) => X = .agg us.toArray
  | _ => us = [X]

theorem part_isVal {t : TypeId} {us : List Value} {o : Nat} {inf : TypeInfo} {d : TypeDesc} (hu : P.underlying t = some d) (hi : P.info? t = some inf) (hle : o + inf.size ≤ us.length) (h1 : isAggD d = true ∨ inf.size = 1) :
    ∃ X, (part t us.toArray o).run P w = .ok X w ∧ IsVal P t ((us.drop o).take inf.size) X := by
  cases hd : isAggD d
  · have hs : inf.size = 1 := by rcases h1 with h | h; (rw [hd] at h; cases h); exact h
    have hlt : o < us.length := by omega
    have hagg : (isAgg t).run P w = .ok false w := by
      unfold isAgg
      rw [Sem.run_bind, run_underlying hu w]
      cases d <;> simp_all [isAggD]
    refine ⟨us[o], by simp [part, hagg, hlt], ?_⟩
    have : (us.drop o).take inf.size = [us[o]] := by
      rw [hs, List.drop_eq_getElem_cons hlt, List.take_succ_cons, List.take_zero]
    unfold IsVal
    rw [hu, this]
    cases d <;> simp_all [isAggD]
  · have hagg : (isAgg t).run P w = .ok true w := by
      unfold isAgg
      rw [Sem.run_bind, run_underlying hu w]
      cases d <;> simp_all [isAggD]
    refine ⟨.agg (us.toArray.extract o (o + inf.size)), by simp [part, hagg, sizeOf, typeInfo, hi], ?_⟩
    unfold IsVal
    rw [hu]
    cases d <;> simp_all [isAggD, List.extract]

/-- The elements of an array, one by one. -/
def eqElems (d : Nat) (e : TypeId) (a : Nat) (xs ys : Array Value) : List Nat → Sem Bool
  | [] => pure true
  | i :: l => do
    let x ← part e xs (i * a)
    let y ← part e ys (i * a)
    let r ← Op.equalIn d e x y
    if (!r) = true then pure false else eqElems d e a xs ys l

theorem run_equalIn_array (d : Nat) (t e : TypeId) (len : Nat) (inf : TypeInfo) (xs ys : Array Value) (hu : P.underlying t = some (.array len e)) (hi : P.info? e = some inf) :
    (Op.equalIn (d + 1) t (.agg xs) (.agg ys)).run P w = (eqElems d e inf.size xs ys (List.range len)).run P w := by
  have hsz : (Go.sizeOf e).run P w = .ok inf.size w := by simp [Go.sizeOf, typeInfo, hi]
  simp only [Op.equalIn, Sem.run_bind, run_underlying hu, Result.andThen_ok, hsz, Std.Legacy.Range.forIn_eq_forIn_range', Std.Legacy.Range.size, Nat.sub_zero, Nat.add_one_sub_one, Nat.div_one, ← List.range_eq_range']
  generalize List.range len = l
  clear hsz
  induction l generalizing w with
  | nil => simp [eqElems]
  | cons i l ih =>
    simp only [List.forIn_cons, eqElems, Sem.run_bind, Sem.run_ite]
    generalize (part e xs (i * inf.size)).run P w = r1
    cases r1 with
    | ok a w1 =>
      simp only [Result.andThen_ok]
      generalize (part e ys (i * inf.size)).run P w1 = r2
      cases r2 with
      | ok b w2 =>
        simp only [Result.andThen_ok]
        generalize (Op.equalIn d e a b).run P w2 = r3
        cases r3 with
        | ok r w3 =>
          cases r
          · simp only [Result.andThen_ok, Bool.not_false, if_true, Sem.run_pure]
          · simp only [Result.andThen_ok, Bool.not_true, Bool.false_eq_true, if_false, Sem.run_pure]
            exact ih
        | halt x w3 => simp [Result.andThen]
      | halt x w2 => simp [Result.andThen]
    | halt x w1 => simp [Result.andThen]

theorem missing_none {want : Array (String × TypeId)} {got : Array Method} (h : lacks want got = false) : Instr.missingMethod want got = none := by
  unfold lacks at h
  unfold Instr.missingMethod
  have : want.toList.filter (fun (x : String × TypeId) => !got.any fun m => m.name == x.1 && m.sig == x.2) = [] := by
    rw [List.filter_eq_nil_iff]
    intro p hp hq
    have : (want.toList.any fun p => !got.any fun m => m.name == p.1 && m.sig == p.2) = true := List.any_eq_true.2 ⟨p, hp, hq⟩
    rw [h] at this; cases this
  simp only [this]
  rfl
theorem missing_some {want : Array (String × TypeId)} {got : Array Method} (h : lacks want got = true) : ∃ m, Instr.missingMethod want got = some m := by
  unfold lacks at h
  unfold Instr.missingMethod
  obtain ⟨p, hp, hq⟩ := List.any_eq_true.1 h
  have hm : p ∈ want.toList.filter (fun (x : String × TypeId) => !got.any fun m => m.name == x.1 && m.sig == x.2) := List.mem_filter.2 ⟨hp, hq⟩
  simp only
  have hm' : p.1 ∈ (want.toList.filter (fun (x : String × TypeId) => !got.any fun m => m.name == x.1 && m.sig == x.2)).map (·.1) := List.mem_map.2 ⟨p, hm, rfl⟩
  generalize (want.toList.filter (fun (x : String × TypeId) => !got.any fun m => m.name == x.1 && m.sig == x.2)).map (·.1) = l at hm'
  simp only [List.partition_eq_filter_filter]
  by_cases hd : p.1.contains '.' = true
  · have h1 : p.1 ∈ l.filter (fun x => x.contains '.') := List.mem_filter.2 ⟨hm', hd⟩
    generalize l.filter (fun x => x.contains '.') = l1 at h1
    generalize l.filter (not ∘ fun x => x.contains '.') = l2
    cases l2 with
    | nil => cases l1 with
      | nil => cases h1
      | cons a l1 => exact ⟨_, rfl⟩
    | cons a l2 => exact ⟨_, rfl⟩
  · have h1 : p.1 ∈ l.filter (not ∘ fun x => x.contains '.') := List.mem_filter.2 ⟨hm', by simpa using hd⟩
    generalize l.filter (fun x => x.contains '.') = l1
    generalize l.filter (not ∘ fun x => x.contains '.') = l2 at h1
    cases l2 with
    | nil => cases h1
    | cons a l2 => exact ⟨_, rfl⟩

theorem aMethod_good {t : TypeId} {name : String} {f n : Nat} {v : Value} (h : aMethod P t name = some f) : (method (n + 1) t v name).run P w = .ok (f, v) w := by
  unfold aMethod at h
  split at h
  · rename_i inf fs hinf hun
    split at h
    · rename_i m hm
      split at h
      · rename_i f' hfn
        cases hp : m.path.isEmpty
        · rw [hp] at h; cases h
        · rw [hp] at h
          cases h
          have hpe : m.path = #[] := by simpa using hp
          simp [method, typeInfo, hinf, hm, hpe, follow, hfn, receiverAt, run_underlying hun, Place.get]
      · cases h
    · cases h
  · cases h

theorem fneg_cn (p : Nat) : cn (Op.negFloat .f64 p) = fneg (cn p) := by
  have hb : Op.negFloat .f64 p = p ^^^ 9223372036854775808 := by unfold Op.negFloat; rfl
  have hm : (p ^^^ 9223372036854775808) % 9223372036854775808 = p % 9223372036854775808 := by
    rw [show (9223372036854775808 : Nat) = 2 ^ 63 from by decide]
    rw [Nat.xor_mod_two_pow, Nat.mod_self]; simp
  have hn : isNan (p ^^^ 9223372036854775808) = isNan p := by
    unfold isNan; rw [read_isNaN, read_isNaN, hm]
  rw [hb]
  unfold fneg
  rw [isNan_cn]
  cases h : isNan p
  · rw [cn_of_not (by rw [hn]; exact h), cn_of_not h]; rfl
  · rw [cn_of_nan (by rw [hn]; exact h)]; rfl

theorem isVal_agg {t : TypeId} {us : Array Value} (hd : isAggT P t = true) : IsVal P t us.toList (.agg us) := by
  unfold isAggT at hd
  unfold IsVal
  cases hu : P.underlying t with
  | none => rw [hu] at hd; cases hd
  | some d =>
    rw [hu] at hd
    cases d <;> simp [isAggD] at hd <;> simp

theorem eqGuard_plain {op : BinOp} {t : TypeId} {x y : Operand} {a b : Value} (h : (match a with | .nilIface => false | .agg _ => false | _ => true) = true) : (eqGuard op t x y a b).run P w = .ok () w := by
  unfold eqGuard
  cases op <;> cases a <;> first | rfl | simp at h

theorem isIfaceT_spec {t : TypeId} (h : isIfaceT P t = true) : ∃ ms, P.underlying t = some (.interface ms) := by
  unfold isIfaceT at h
  cases hu : P.underlying t with
  | none => rw [hu] at h; cases h
  | some d => rw [hu] at h; cases d <;> first | (cases h; done) | exact ⟨_, rfl⟩

theorem aload_part {t : TypeId} {cells : List AV} {o : Nat} {x : AV} {E : Env} {us : List Value} (hx : aload P t cells o = some x) (hr : pre E cells us) : ∃ d inf, P.underlying t = some d ∧ P.info? t = some inf ∧
    ((isAggD d = false ∧ ∃ u, us[o]? = some u ∧ rel E x u) ∨ (isAggD d = true ∧ o + inf.size ≤ cells.length ∧ x = .agg ((cells.drop o).take inf.size) ∧ rels E ((cells.drop o).take inf.size) ((us.drop o).take inf.size))) := by
  unfold aload at hx
  cases hu : P.underlying t with
  | none => simp [hu] at hx
  | some d =>
    cases hi : P.info? t with
    | none => simp [hu, hi] at hx
    | some inf =>
      simp only [hu, hi] at hx
      refine ⟨d, inf, rfl, rfl, ?_⟩
      cases hd : isAggD d
      · simp only [hd, cond_false] at hx
        exact Or.inl ⟨rfl, pre_get hr hx⟩
      · simp only [hd, cond_true] at hx
        cases hle : Nat.ble (o + inf.size) cells.length
        · simp [hle] at hx
        · simp only [hle, cond_true] at hx
          cases hx
          have hle' := Nat.le_of_ble_eq_true hle
          exact Or.inr ⟨rfl, hle', rfl, pre_part o inf.size hr hle'⟩
theorem run_isAgg {t : TypeId} {d : TypeDesc} (hu : P.underlying t = some d) : (isAgg t).run P w = .ok (isAggD d) w := by
  unfold isAgg
  rw [Sem.run_bind, run_underlying hu w]
  cases d <;> simp_all [isAggD]
theorem load_good {E : Env} {mem : List Row} (hm : MemRel E mem) {t : TypeId} {l : List AV} {o : Nat} {x y : AV} {v : Value} (hat : aat mem x = some (true, l, o)) (hx : aload P t l o = some y) (hv : rel E x v) : ∃ u, (Instr.loadAt t v).run P E.w = .ok u E.w ∧ rel E y u := by
  obtain ⟨b, o0, cs, e, fz, rfl, hh, hr⟩ := aat_good hm hv hat
  have hcell : ∀ j, E.w.cell? ⟨b, o0 + o + j, none⟩ = (cs.toList.drop o0)[o + j]? := fun j => by
    rw [cell_of_row E.w b (o0 + o + j) cs e fz hh, List.getElem?_drop, Nat.add_assoc]
    simp
  obtain ⟨d, inf, hu, hi, hcase⟩ := aload_part hx hr
  rcases hcase with ⟨hd, u, h1, h2⟩ | ⟨hd, hle, rfl, h2⟩
  · refine ⟨u, ?_, h2⟩
    have hagg := run_isAgg (P := P) (w := E.w) hu
    rw [hd] at hagg
    have hc0 := hcell 0
    rw [Nat.add_zero, Nat.add_zero, h1] at hc0
    simp [Instr.loadAt, Instr.sureAddr, loadVar, hagg, hc0]
  · have hl := rels_length h2
    refine ⟨.agg (((cs.toList.drop o0).drop o).take inf.size).toArray, ?_, rel_agg.2 ⟨_, rfl, by simpa using h2⟩⟩
    refine run_loadAt_mid E.w b (o0 + o) t (((cs.toList.drop o0).drop o).take inf.size) d ?_ hu (by cases d <;> first | rfl | simp [isAggD] at hd) ?_
    · intro j u hj
      rw [hcell j]
      rw [List.getElem?_take] at hj
      split at hj
      · rw [List.getElem?_drop] at hj; exact hj
      · cases hj
    · rw [hi, Option.map_some]
      congr 1
      rw [← hl]
      simp
      omega
theorem field_good {E : Env} {t : TypeId} {f : Nat} {x y : AV} {v : Value} (hx : afield P t x f = some y) (hv : rel E x v) : ∃ u, (Instr.fieldAt t v f).run P w = .ok u w ∧ rel E y u := by
  unfold afield at hx
  cases hu : P.underlying t with
  | none => simp [hu] at hx
  | some d =>
    cases d <;> simp only [hu] at hx <;> first | (cases hx; done) | skip
    rename_i fields
    cases hf : fields[f]? with
    | none => simp [hf] at hx
    | some fd =>
      simp only [hf] at hx
      cases hi : P.info? fd.type with
      | none => simp [hi] at hx
      | some inf =>
        simp only [hi] at hx
        cases hz : (inf.size == 0)
        · simp only [hz, cond_false] at hx
          have hz' : inf.size ≠ 0 := by simpa using hz
          obtain ⟨b, o, rfl, hr⟩ := padd_good hv hx
          refine ⟨_, ?_, hr⟩
          have hadd : (⟨b, o, none⟩ : Addr).add fd.offset = ⟨b, o + fd.offset, none⟩ := by unfold Addr.add; split <;> simp_all
          simp [Instr.fieldAt, run_underlying hu, hf, Instr.sureAddr, fieldPlace, sizeOf, typeInfo, hi, hz', hadd]
        · simp [hz] at hx
theorem part_good {E : Env} {t : TypeId} {cells : List AV} {cs : Array Value} {o : Nat} {x : AV} (hx : aload P t cells o = some x) (hr : pre E cells cs.toList) : ∃ u, (part t cs o).run P w = .ok u w ∧ rel E x u := by
  obtain ⟨d, inf, hu, hi, hcase⟩ := aload_part hx hr
  have hagg := run_isAgg (P := P) (w := w) hu
  rcases hcase with ⟨hd, u, h1, h2⟩ | ⟨hd, hle, rfl, h2⟩
  · rw [hd] at hagg
    have h1' : cs[o]? = some u := by simpa using h1
    exact ⟨u, by simp [part, hagg, h1'], h2⟩
  · rw [hd] at hagg
    refine ⟨.agg (cs.extract o (o + inf.size)), by simp [part, hagg, sizeOf, typeInfo, hi], rel_agg.2 ⟨_, rfl, ?_⟩⟩
    simpa [Array.toList_extract, List.extract] using h2
theorem index_good {E : Env} {t : TypeId} {x ix y : AV} {u v : Value} (hx : aindex P t x ix = some (true, y)) (hu : rel E x u) (hv : rel E ix v) : ∃ r, (Instr.indexAt t u v).run P w = .ok r w ∧ rel E y r := by
  unfold aindex at hx
  split at hx
  · rename_i kk k
    have hv' := rel_x.1 hv
    subst hv'
    split at hx
    · rename_i n e hun
      split at hx
      · rename_i inf hinf
        cases hp : padd x (k.toNat * inf.size) with
        | none => rw [hp] at hx; cases hx
        | some y' =>
          rw [hp] at hx
          simp only [Option.map_some, Option.some.injEq, Prod.mk.injEq] at hx
          obtain ⟨hk, rfl⟩ := hx
          simp only [Bool.and_eq_true, decide_eq_true_eq] at hk
          obtain ⟨b, o, rfl, hr⟩ := padd_good hu hp
          refine ⟨_, ?_, hr⟩
          have hadd : (⟨b, o, none⟩ : Addr).add (k.toNat * inf.size) = ⟨b, o + k.toNat * inf.size, none⟩ := by unfold Addr.add; split <;> simp_all
          simp [Instr.indexAt, asIntOf, run_underlying hun, Instr.sureAddr, sizeOf, typeInfo, hinf, hk.1, hk.2, hadd]
      · cases hx
    · rename_i e hun
      split at hx
      · rename_i inf hinf
        split at hx
        · rename_i sz n el
          cases hs : sz == inf.size
          · rw [hs] at hx; cases hx
          · rw [hs] at hx
            simp only [cond_true, Option.some.injEq, Prod.mk.injEq] at hx
            obtain ⟨hk, rfl⟩ := hx
            have hs' := eq_of_beq hs
            simp only [Bool.and_eq_true, decide_eq_true_eq] at hk
            obtain ⟨a, c, rfl, hnc, hcase⟩ := rel_sl.1 hu
            rcases hcase with h0 | ⟨b, o, cs, e', fz, rfl, hA, hh, hel⟩
            · omega
            · obtain ⟨_, hpre⟩ := hel k.toNat (by omega)
              refine ⟨.pointer (some ⟨b, o + k.toNat * inf.size, none⟩), ?_, rel_ref.2 ⟨b, o + k.toNat * sz, cs, e', fz, by rw [hs', Nat.add_zero], hA, hh, hpre⟩⟩
              have hadd : (⟨b, o, none⟩ : Addr).add (k.toNat * inf.size) = ⟨b, o + k.toNat * inf.size, none⟩ := by unfold Addr.add; split <;> simp_all
              simp [Instr.indexAt, asIntOf, run_underlying hun, sizeOf, typeInfo, hinf, hk.1, hk.2, hadd]
        · rename_i j sz st len
          cases hs : sz == inf.size
          · rw [hs] at hx; cases hx
          · rw [hs] at hx
            simp only [cond_true, Option.some.injEq, Prod.mk.injEq] at hx
            obtain ⟨hk, rfl⟩ := hx
            have hs' := eq_of_beq hs
            simp only [Bool.and_eq_true, decide_eq_true_eq] at hk
            obtain ⟨b, c, n0, hb, hle, _, rfl⟩ := (rel_osl.1 hu).resolve_left (fun hz => by have := hz.2.1; omega)
            refine ⟨.pointer (some ⟨b, st * sz + k.toNat * inf.size, none⟩), ?_, rel_eown.2 ⟨b, _, hb, by rw [hs', Nat.add_mul, Nat.add_zero]⟩⟩
            have hadd : (⟨b, st * sz, none⟩ : Addr).add (k.toNat * inf.size) = ⟨b, st * sz + k.toNat * inf.size, none⟩ := by unfold Addr.add; split <;> simp_all
            simp [Instr.indexAt, asIntOf, run_underlying hun, sizeOf, typeInfo, hinf, hk.1, hk.2, hadd]
        · rename_i j sz st sub len
          cases hs : sz == inf.size
          · rw [hs] at hx; cases hx
          · rw [hs] at hx
            simp only [cond_true, Option.some.injEq, Prod.mk.injEq] at hx
            obtain ⟨hk, rfl⟩ := hx
            have hs' := eq_of_beq hs
            simp only [Bool.and_eq_true, decide_eq_true_eq] at hk
            obtain ⟨a, c, rfl, _, hcase⟩ := rel_view.1 hu
            rcases hcase with h0 | ⟨b, c', hb, rfl⟩
            · omega
            · refine ⟨.pointer (some ⟨b, st * sz + sub + k.toNat * inf.size, none⟩), ?_, rel_eown.2 ⟨b, _, hb, by rw [hs', Nat.add_mul]; congr 3; omega⟩⟩
              have hadd : (⟨b, st * sz + sub, none⟩ : Addr).add (k.toNat * inf.size) = ⟨b, st * sz + sub + k.toNat * inf.size, none⟩ := by unfold Addr.add; split <;> simp_all
              simp [Instr.indexAt, asIntOf, run_underlying hun, sizeOf, typeInfo, hinf, hk.1, hk.2, hadd]
        · cases hx
      · cases hx
    · cases hx
  · cases hx
theorem elem_good {E : Env} {t : TypeId} {x ix y : AV} {u v : Value} (hx : aelem P t x ix = some y) (hu : rel E x u) (hv : rel E ix v) : ∃ r, (Instr.index t u v).run P w = .ok r w ∧ rel E y r := by
  unfold aelem at hx
  split at hx
  · rename_i kk k cs n e hun
    have hv' := rel_x.1 hv
    subst hv'
    split at hx
    · rename_i inf hinf
      cases hk : (decide (0 ≤ k) && decide (k < (n : Int)))
      · rw [hk] at hx; cases hx
      · rw [hk] at hx
        simp only [cond_true] at hx
        simp only [Bool.and_eq_true, decide_eq_true_eq] at hk
        obtain ⟨vs, rfl, hr⟩ := rel_agg.1 hu
        obtain ⟨r, h1, h2⟩ := part_good (P := P) (w := w) hx (pre_of_rels hr)
        refine ⟨r, ?_, h2⟩
        simp [Instr.index, asIntOf, run_underlying hun, sizeOf, typeInfo, hinf, hk.1, hk.2, h1]
    · cases hx
  · cases hx
theorem at_get {s : ByteArray} {k : Int} (h1 : 0 ≤ k) (h2 : k < (s.size : Int)) : ∃ b : UInt8, s[k.toNat]? = some b ∧ (b.toNat : Int) = sAt s k.toNat := by
  have hlt : k.toNat < s.size := by omega
  refine ⟨s[k.toNat], by simp [hlt], ?_⟩
  unfold sAt
  have : s.data.toList.getD k.toNat 0 = s[k.toNat] := by
    rw [List.getD_eq_getElem?_getD, List.getElem?_eq_getElem (show k.toNat < s.data.toList.length by rw [Array.length_toList]; exact hlt)]
    rfl
  rw [this]
theorem idx_good {E : Env} {t : TypeId} {x ix y : AV} {u v : Value} (hx : aidx P t x ix = some (true, y)) (hu : rel E x u) (hv : rel E ix v) : ∃ r, (Instr.index t u v).run P w = .ok r w ∧ rel E y r := by
  unfold aidx at hx
  split at hx
  · rename_i s
    split at hx
    · rename_i kk k hun
      simp only [Option.some.injEq, Prod.mk.injEq, Bool.and_eq_true, decide_eq_true_eq] at hx
      obtain ⟨⟨h1, h2⟩, rfl⟩ := hx
      have hv' := rel_x.1 hv
      have hu' := rel_x.1 hu
      subst hv' hu'
      obtain ⟨b, hb, hb2⟩ := at_get h1 h2
      refine ⟨.int .u8 b.toNat, ?_, rel_x.2 (by rw [hb2])⟩
      simp [Instr.index, asIntOf, run_underlying hun, h1, hb]
    · cases hx
  · cases he : aelem P t x ix with
    | none => rw [he] at hx; cases hx
    | some y' =>
      rw [he] at hx
      simp only [Option.map_some, Option.some.injEq, Prod.mk.injEq, true_and] at hx
      subst hx
      exact elem_good he hu hv
theorem pickf_good {E : Env} {t : TypeId} {x y : AV} {u : Value} {f : Nat} (hx : apick P t x f = some y) (hu : rel E x u) : ∃ r, (Instr.field t u f).run P w = .ok r w ∧ rel E y r := by
  unfold apick at hx
  split at hx
  · rename_i cs fields hun
    split at hx
    · rename_i fd hfd
      obtain ⟨vs, rfl, hr⟩ := rel_agg.1 hu
      obtain ⟨r, h1, h2⟩ := part_good (P := P) (w := w) hx (pre_of_rels hr)
      refine ⟨r, ?_, h2⟩
      simp [Instr.field, run_underlying hun, hfd, asAgg, h1]
    · cases hx
  · cases hx
/-- So many draws, and nothing else. -/
abbrev Dr (w w' : World) : Prop := w' = w ∨ ∃ k, w' = { w with drawn := w.drawn + k }
theorem dr_of {w w' : World} (h : w' = w ∨ w' = w.drew) : Dr w w' := by
  rcases h with h | h
  · exact Or.inl h
  · exact Or.inr ⟨1, h⟩
theorem dr_trans {w w' w'' : World} (h : Dr w w') (h' : Dr w' w'') : Dr w w'' := by
  rcases h with rfl | ⟨k, rfl⟩
  · exact h'
  · rcases h' with rfl | ⟨l, rfl⟩
    · exact Or.inr ⟨k, rfl⟩
    · exact Or.inr ⟨k + l, by simp [Nat.add_assoc]⟩
theorem fbin_good {E : Env} {op : BinOp} {t : TypeId} {a b : Nat} {x : AV} {u v : Value} (hx : fbin op a b = some x) (hu : rel E (.f a) u) (hv : rel E (.f b) v) :
    ∃ r w', (binOp op t u v).run P w = .ok r w' ∧ (w' = w ∨ w' = w.drew) ∧ rel E x r := by
  obtain ⟨p, rfl, rfl⟩ := rel_f.1 hu
  obtain ⟨q, rfl, rfl⟩ := rel_f.1 hv
  have hc : ∀ (c : Bool) (r : Value), (binOp op t (.float .f64 p) (.float .f64 q)).run P w = .ok (.bool c) w → x = .x (.bool c) → ∃ r w', (binOp op t (.float .f64 p) (.float .f64 q)).run P w = .ok r w' ∧ (w' = w ∨ w' = w.drew) ∧ rel E x r :=
    fun c _ h1 h2 => ⟨_, _, h1, Or.inl rfl, by subst h2; exact rel_x.2 rfl⟩
  cases op <;> simp only [fbin] at hx <;> first | (cases hx; done) | skip
  case add =>
    cases hx
    obtain ⟨r, w', h1, h2, h3⟩ := run_arith P .add t Ieee.double.add (fun _ _ => rfl) (Or.inl rfl) add_cn (fun _ _ _ h => isNan_add h) w p q
    exact ⟨_, _, h1, h2, rel_f.2 ⟨r, rfl, h3⟩⟩
  case sub =>
    cases hx
    obtain ⟨r, w', h1, h2, h3⟩ := run_arith P .sub t Ieee.double.sub (fun _ _ => rfl) (Or.inr (Or.inl rfl)) sub_cn (fun _ _ _ h => isNan_sub h) w p q
    exact ⟨_, _, h1, h2, rel_f.2 ⟨r, rfl, h3⟩⟩
  case mul =>
    cases hx
    obtain ⟨r, w', h1, h2, h3⟩ := run_arith P .mul t Ieee.double.mul (fun _ _ => rfl) (Or.inr (Or.inr (Or.inl rfl))) mul_cn (fun _ _ _ h => isNan_mul h) w p q
    exact ⟨_, _, h1, h2, rel_f.2 ⟨r, rfl, h3⟩⟩
  case quo =>
    cases hx
    obtain ⟨r, w', h1, h2, h3⟩ := run_arith P .quo t Ieee.double.div (fun _ _ => rfl) (Or.inr (Or.inr (Or.inr rfl))) div_cn (fun _ _ _ h => isNan_div h) w p q
    exact ⟨_, _, h1, h2, rel_f.2 ⟨r, rfl, h3⟩⟩
  all_goals
    cases hx
    refine hc _ undef (by simp only [binOp_float_cmp_eql, binOp_float_cmp_neq, binOp_float_cmp_lss, binOp_float_cmp_leq, binOp_float_cmp_gtr, binOp_float_cmp_geq, Sem.run_pure]; rfl) ?_
    simp only [feq, flt, fle, fgt, fge, order_cn]
    rfl
/-- One part of a complex number. -/
theorem carith_good {op : BinOp} {a b r : Nat} (hr : fbin op a b = some (.f r)) {p q : Nat} (hp : cn p = a) (hq : cn q = b) (w : World) : ∃ s w', (Op.Complex.arith op .f64 p q).run P w = .ok s w' ∧ Dr w w' ∧ cn s = r := by
  obtain ⟨v, w', h1, h2, h3⟩ := fbin_good (P := P) (w := w) (t := 0) (E := ⟨w, fun _ => False, fun _ => none⟩) hr (rel_f.2 ⟨p, rfl, hp⟩) (rel_f.2 ⟨q, rfl, hq⟩)
  obtain ⟨s, rfl, hs⟩ := rel_f.1 h3
  refine ⟨s, w', ?_, dr_of h2, hs⟩
  have e : (Op.floatArith op .f64 p q).run P w = .ok (.float .f64 s) w' := by
    cases op <;> simp only [fbin] at hr <;> first | (cases hr; done) | exact h1
  simp only [Op.Complex.arith, Sem.run_bind, e, Result.andThen_ok, Sem.run_pure]
theorem ccmp_good {a b : Nat} {p q : Nat} (hp : cn p = a) (hq : cn q = b) (w : World) : (Op.Complex.cmp .eql .f64 p q).run P w = .ok (feq a b) w := by
  obtain ⟨v, w', h1, h2, h3⟩ := fbin_good (P := P) (w := w) (t := 0) (op := .eql) (x := .x (.bool (feq a b))) (E := ⟨w, fun _ => False, fun _ => none⟩) rfl (rel_f.2 ⟨p, rfl, hp⟩) (rel_f.2 ⟨q, rfl, hq⟩)
  have hv := rel_x.1 h3
  subst hv
  have e0 : (binOp .eql 0 (.float .f64 p) (.float .f64 q)).run P w = .ok (.bool (feq a b)) w := by
    simp only [binOp_float_cmp_eql, Sem.run_pure]
    rw [← hp, ← hq]
    simp only [feq, order_cn]
    rfl
  have e : (Op.floatCmp .eql .f64 p q).run P w = .ok (.bool (feq a b)) w := e0
  simp only [Op.Complex.cmp, Sem.run_bind, e, Result.andThen_ok, asBool, Sem.run_pure]
theorem cbin_good {E : Env} {op : BinOp} {t : TypeId} {a b c d : Nat} {x : AV} {u v : Value} (hx : cbin op a b c d = some x) (hu : rel E (.cx a b) u) (hv : rel E (.cx c d) v) :
    ∃ r w', (binOp op t u v).run P w = .ok r w' ∧ Dr w w' ∧ rel E x r := by
  unfold rel at hu hv
  rw [relA] at hu hv
  obtain ⟨p, q, rfl, hp, hq⟩ := hu
  obtain ⟨p', q', rfl, hp', hq'⟩ := hv
  have cxr : ∀ {s s' r r' : Nat}, cn s = r → cn s' = r' → rel E (.cx r r') (.complex .f64 s s') := fun h h' => by unfold rel; rw [relA]; exact ⟨_, _, rfl, h, h'⟩
  cases op <;> simp only [cbin] at hx <;> first | (cases hx; done) | skip
  case add =>
    cases hx
    obtain ⟨s, w1, h1, d1, e1⟩ := carith_good (P := P) (op := .add) (r := fadd a c) rfl hp hp' w
    obtain ⟨s', w2, h2, d2, e2⟩ := carith_good (P := P) (op := .add) (r := fadd b d) rfl hq hq' w1
    refine ⟨.complex .f64 s s', w2, ?_, dr_trans d1 d2, cxr e1 e2⟩
    have hb : binOp .add t (.complex .f64 p q) (.complex .f64 p' q') = (do pure (.complex .f64 (← Op.Complex.arith .add .f64 p p') (← Op.Complex.arith .add .f64 q q'))) := rfl
    rw [hb]
    simp only [Sem.run_bind, h1, h2, Result.andThen_ok, Sem.run_pure]
  case sub =>
    cases hx
    obtain ⟨s, w1, h1, d1, e1⟩ := carith_good (P := P) (op := .sub) (r := fsub a c) rfl hp hp' w
    obtain ⟨s', w2, h2, d2, e2⟩ := carith_good (P := P) (op := .sub) (r := fsub b d) rfl hq hq' w1
    refine ⟨.complex .f64 s s', w2, ?_, dr_trans d1 d2, cxr e1 e2⟩
    have hb : binOp .sub t (.complex .f64 p q) (.complex .f64 p' q') = (do pure (.complex .f64 (← Op.Complex.arith .sub .f64 p p') (← Op.Complex.arith .sub .f64 q q'))) := rfl
    rw [hb]
    simp only [Sem.run_bind, h1, h2, Result.andThen_ok, Sem.run_pure]
  case mul =>
    cases hx
    obtain ⟨m1, w1, h1, d1, e1⟩ := carith_good (P := P) (op := .mul) (r := fmul a c) rfl hp hp' w
    obtain ⟨m2, w2, h2, d2, e2⟩ := carith_good (P := P) (op := .mul) (r := fmul b d) rfl hq hq' w1
    obtain ⟨s, w3, h3, d3, e3⟩ := carith_good (P := P) (op := .sub) (r := fsub (fmul a c) (fmul b d)) rfl e1 e2 w2
    obtain ⟨m3, w4, h4, d4, e4⟩ := carith_good (P := P) (op := .mul) (r := fmul a d) rfl hp hq' w3
    obtain ⟨m4, w5, h5, d5, e5⟩ := carith_good (P := P) (op := .mul) (r := fmul b c) rfl hq hp' w4
    obtain ⟨s', w6, h6, d6, e6⟩ := carith_good (P := P) (op := .add) (r := fadd (fmul a d) (fmul b c)) rfl e4 e5 w5
    refine ⟨.complex .f64 s s', w6, ?_, dr_trans d1 (dr_trans d2 (dr_trans d3 (dr_trans d4 (dr_trans d5 d6)))), cxr e3 e6⟩
    have hb : binOp .mul t (.complex .f64 p q) (.complex .f64 p' q') = Op.complexOp .mul .f64 p q p' q' := rfl
    rw [hb]
    simp [Op.complexOp, Op.Complex.conv, Op.Complex.product, Op.Complex.mul, Op.Complex.sub, Op.Complex.add, h1, h2, h3, h4, h5, h6]
  case eql =>
    cases hx
    refine ⟨.bool (feq a c && feq b d), w, ?_, Or.inl rfl, rel_x.2 rfl⟩
    have hb : binOp .eql t (.complex .f64 p q) (.complex .f64 p' q') = (do pure (.bool ((← Op.Complex.cmp .eql .f64 p p') && (← Op.Complex.cmp .eql .f64 q q')))) := rfl
    rw [hb]
    simp only [Sem.run_bind, ccmp_good (P := P) hp hp' w, ccmp_good (P := P) hq hq' w, Result.andThen_ok, Sem.run_pure]
  case neq =>
    cases hx
    refine ⟨.bool (!(feq a c && feq b d)), w, ?_, Or.inl rfl, rel_x.2 rfl⟩
    have hb : binOp .neq t (.complex .f64 p q) (.complex .f64 p' q') = (do pure (.bool !((← Op.Complex.cmp .eql .f64 p p') && (← Op.Complex.cmp .eql .f64 q q')))) := rfl
    rw [hb]
    simp only [Sem.run_bind, ccmp_good (P := P) hp hp' w, ccmp_good (P := P) hq hq' w, Result.andThen_ok, Sem.run_pure]
theorem take_length {α : Type} {us : List α} {o n : Nat} (h : o + n ≤ us.length) : ((us.drop o).take n).length = n := by simp; omega
theorem rels_seg {E : Env} {xs : List AV} {us : List Value} (h : rels E xs us) {o n : Nat} (hle : o + n ≤ xs.length) : rels E ((xs.drop o).take n) ((us.drop o).take n) := pre_part o n (pre_of_rels h) hle
theorem aeq_one {n : Nat} {t : TypeId} {d : TypeDesc} {xs ys : List AV} {r : Bool} (hu : P.underlying t = some d) (hd : isAggD d = false) (h : aeq P n t xs ys = some r) : xs.length = 1 := by
  cases n with
  | zero => simp [aeq] at h
  | succ n =>
    unfold aeq at h
    rw [hu] at h
    cases d <;> simp only at h <;> first | (cases h; done) | (cases hd; done) | skip
    case bool => split at h <;> first | (cases h; done) | rfl
    case int k => split at h <;> first | (cases h; done) | rfl
    case float k => cases k <;> simp only at h <;> first | (cases h; done) | (split at h <;> first | (cases h; done) | rfl)
theorem aeq_fields {n d : Nat} {E : Env} {xs ys : List AV} {us vs : List Value} (hxs : rels E xs us) (hys : rels E ys vs)
    (ih : ∀ (t : TypeId) (xs ys : List AV) (us vs : List Value) (r : Bool) (X Y : Value), aeq P n t xs ys = some r → rels E xs us → rels E ys vs → IsVal P t us X → IsVal P t vs Y → (Op.equalIn d t X Y).run P w = .ok r w) :
    ∀ (l : List Field) (r : Bool), (l.foldr (fun f acc => match P.info? f.type, acc with
      | some inf, some b => cond ((f.name == "_") || (inf.size == 0) || Nat.blt xs.length (f.offset + inf.size) || Nat.blt ys.length (f.offset + inf.size)) none
          ((aeq P n f.type ((xs.drop f.offset).take inf.size) ((ys.drop f.offset).take inf.size)).map (· && b))
      | _, _ => none) (some true)) = some r → (Op.eqFields d us.toArray vs.toArray l).run P w = .ok r w
  | [], r, h => by simp at h; subst h; rfl
  | f :: l, r, h => by
    rw [List.foldr_cons] at h
    split at h
    · rename_i inf b hinf hb
      have hl := aeq_fields hxs hys ih l b hb
      cases hk : ((f.name == "_") || (inf.size == 0) || Nat.blt xs.length (f.offset + inf.size) || Nat.blt ys.length (f.offset + inf.size))
      · rw [hk] at h
        simp only [cond_false] at h
        simp only [Bool.or_eq_false_iff] at hk
        obtain ⟨⟨⟨hnm, _⟩, hx⟩, hy⟩ := hk
        have hx' : f.offset + inf.size ≤ xs.length := by
          rcases Nat.lt_or_ge xs.length (f.offset + inf.size) with h | h
          · have : Nat.blt xs.length (f.offset + inf.size) = true := Nat.ble_eq_true_of_le h
            rw [hx] at this; cases this
          · exact h
        have hy' : f.offset + inf.size ≤ ys.length := by
          rcases Nat.lt_or_ge ys.length (f.offset + inf.size) with h | h
          · have : Nat.blt ys.length (f.offset + inf.size) = true := Nat.ble_eq_true_of_le h
            rw [hy] at this; cases this
          · exact h
        cases ha : aeq P n f.type ((xs.drop f.offset).take inf.size) ((ys.drop f.offset).take inf.size) with
        | none => rw [ha] at h; cases h
        | some c =>
          rw [ha] at h
          simp only [Option.map_some, Option.some.injEq] at h
          subst h
          have hlu := rels_length hxs
          have hlv := rels_length hys
          cases hu : P.underlying f.type with
          | none =>
            cases n with
            | zero => simp [aeq] at ha
            | succ n => unfold aeq at ha; rw [hu] at ha; cases ha
          | some d' =>
            have h1 : isAggD d' = true ∨ inf.size = 1 := by
              cases hd : isAggD d'
              · have := aeq_one hu hd ha
                rw [take_length hx'] at this
                exact Or.inr this
              · exact Or.inl rfl
            obtain ⟨A, hA, hAv⟩ := part_isVal (P := P) (w := w) (us := us) (o := f.offset) hu hinf (by omega) h1
            obtain ⟨B, hB, hBv⟩ := part_isVal (P := P) (w := w) (us := vs) (o := f.offset) hu hinf (by omega) h1
            have he := ih f.type _ _ _ _ c A B ha (rels_seg hxs hx') (rels_seg hys hy') hAv hBv
            have hnm' : f.name ≠ "_" := by simpa using hnm
            simp only [Op.eqFields, hnm', ne_eq, not_false_eq_true, if_true, Sem.run_bind, hA, Result.andThen_ok, hB, he, Sem.run_ite, Sem.run_pure, hl]
            cases c <;> rfl
      · rw [hk] at h; cases h
    · cases h

theorem aeq_elems {n d : Nat} {e : TypeId} {inf : TypeInfo} {E : Env} {xs ys : List AV} {us vs : List Value} (hinf : P.info? e = some inf) (hxs : rels E xs us) (hys : rels E ys vs)
    (ih : ∀ (t : TypeId) (xs ys : List AV) (us vs : List Value) (r : Bool) (X Y : Value), aeq P n t xs ys = some r → rels E xs us → rels E ys vs → IsVal P t us X → IsVal P t vs Y → (Op.equalIn d t X Y).run P w = .ok r w) :
    ∀ (l : List Nat) (r : Bool), (l.foldr (fun i acc => match acc with
        | some b => cond ((inf.size == 0) || Nat.blt xs.length (i * inf.size + inf.size) || Nat.blt ys.length (i * inf.size + inf.size)) none
            ((aeq P n e ((xs.drop (i * inf.size)).take inf.size) ((ys.drop (i * inf.size)).take inf.size)).map (· && b))
        | none => none) (some true)) = some r → (eqElems d e inf.size us.toArray vs.toArray l).run P w = .ok r w
  | [], r, h => by simp at h; subst h; rfl
  | i :: l, r, h => by
    rw [List.foldr_cons] at h
    split at h
    · rename_i b hb
      have hl := aeq_elems hinf hxs hys ih l b hb
      cases hk : ((inf.size == 0) || Nat.blt xs.length (i * inf.size + inf.size) || Nat.blt ys.length (i * inf.size + inf.size))
      · rw [hk] at h
        simp only [cond_false] at h
        simp only [Bool.or_eq_false_iff] at hk
        obtain ⟨⟨_, hx⟩, hy⟩ := hk
        have hx' : i * inf.size + inf.size ≤ xs.length := by
          rcases Nat.lt_or_ge xs.length (i * inf.size + inf.size) with h | h
          · have : Nat.blt xs.length (i * inf.size + inf.size) = true := Nat.ble_eq_true_of_le h
            rw [hx] at this; cases this
          · exact h
        have hy' : i * inf.size + inf.size ≤ ys.length := by
          rcases Nat.lt_or_ge ys.length (i * inf.size + inf.size) with h | h
          · have : Nat.blt ys.length (i * inf.size + inf.size) = true := Nat.ble_eq_true_of_le h
            rw [hy] at this; cases this
          · exact h
        cases ha : aeq P n e ((xs.drop (i * inf.size)).take inf.size) ((ys.drop (i * inf.size)).take inf.size) with
        | none => rw [ha] at h; cases h
        | some c =>
          rw [ha] at h
          simp only [Option.map_some, Option.some.injEq] at h
          subst h
          have hlu := rels_length hxs
          have hlv := rels_length hys
          cases hu : P.underlying e with
          | none =>
            cases n with
            | zero => simp [aeq] at ha
            | succ n => unfold aeq at ha; rw [hu] at ha; cases ha
          | some d' =>
            have h1 : isAggD d' = true ∨ inf.size = 1 := by
              cases hd : isAggD d'
              · have := aeq_one hu hd ha
                rw [take_length hx'] at this
                exact Or.inr this
              · exact Or.inl rfl
            obtain ⟨A, hA, hAv⟩ := part_isVal (P := P) (w := w) (us := us) (o := i * inf.size) hu hinf (by omega) h1
            obtain ⟨B, hB, hBv⟩ := part_isVal (P := P) (w := w) (us := vs) (o := i * inf.size) hu hinf (by omega) h1
            have he := ih e _ _ _ _ c A B ha (rels_seg hxs hx') (rels_seg hys hy') hAv hBv
            simp only [eqElems, Sem.run_bind, hA, Result.andThen_ok, hB, he, Sem.run_ite, Sem.run_pure, hl]
            cases c <;> rfl
      · rw [hk] at h; cases h
    · cases h

theorem aeq_good {E : Env} : ∀ (n d : Nat), n ≤ d → ∀ (t : TypeId) (xs ys : List AV) (us vs : List Value) (r : Bool) (X Y : Value), aeq P n t xs ys = some r → rels E xs us → rels E ys vs → IsVal P t us X → IsVal P t vs Y → (Op.equalIn d t X Y).run P w = .ok r w := by
  intro n
  induction n with
  | zero => intro d _ t xs ys us vs r X Y h; simp [aeq] at h
  | succ n ih =>
    intro d hd t xs ys us vs r X Y h hxs hys hX hY
    obtain ⟨d, rfl⟩ : ∃ k, d = k + 1 := ⟨d - 1, by omega⟩
    have ih' := ih d (by omega)
    unfold aeq at h
    cases hu : P.underlying t with
    | none => rw [hu] at h; cases h
    | some desc =>
      rw [hu] at h
      unfold IsVal at hX hY
      rw [hu] at hX hY
      cases desc <;> simp only at h <;> first | (cases h; done) | skip
      case struct fs =>
        simp only at hX hY
        subst hX hY
        cases hp : P.stoodInHeld t
        · rw [hp] at h
          simp only [cond_false] at h
          have hfs : P.fieldsOf t = fs := by unfold Program.fieldsOf; rw [hu]
          rw [run_equalIn_struct w d t us.toArray vs.toArray (by rw [hfs]; exact hu) hp, hfs]
          exact aeq_fields hxs hys ih' fs.toList r h
        · rw [hp] at h; cases h
      case array len e =>
        simp only at hX hY
        subst hX hY
        split at h
        · rename_i inf hinf
          rw [run_equalIn_array d t e len inf us.toArray vs.toArray hu hinf]
          exact aeq_elems hinf hxs hys ih' (List.range len) r h
        · cases h
      case float k =>
        simp only at hX hY
        subst hX hY
        cases k <;> simp only at h
        · cases h
        · split at h
          · rename_i a b
            simp only [Option.some.injEq] at h
            subst h
            obtain ⟨_, _, e1, hp, _⟩ := rels_cons.1 hxs
            obtain ⟨_, _, e2, hq, _⟩ := rels_cons.1 hys
            cases e1
            cases e2
            obtain ⟨p, rfl, rfl⟩ := rel_f.1 hp
            obtain ⟨q, rfl, rfl⟩ := rel_f.1 hq
            simp only [Op.equalIn, Sem.run_bind, run_underlying hu, Result.andThen_ok, if_true, Sem.run_pure, Op.floatEq, feq]
            rw [order_cn]
            rfl
          · cases h
      case int k =>
        simp only at hX hY
        subst hX hY
        split at h
        · rename_i k1 a k2 b
          cases hk : decide (k1 = k2)
          · rw [hk] at h; cases h
          · rw [hk] at h
            simp only [cond_true, Option.some.injEq] at h
            have hk' := of_decide_eq_true hk
            subst h hk'
            obtain ⟨_, _, e1, hp, _⟩ := rels_cons.1 hxs
            obtain ⟨_, _, e2, hq, _⟩ := rels_cons.1 hys
            cases e1
            cases e2
            have e1 := rel_x.1 hp
            have e2 := rel_x.1 hq
            subst e1 e2
            exact run_equalIn_int w d t k1 k a b hu
        · cases h
      case bool =>
        simp only at hX hY
        subst hX hY
        split at h
        · rename_i a b
          simp only [Option.some.injEq] at h
          subst h
          obtain ⟨_, _, e1, hp, _⟩ := rels_cons.1 hxs
          obtain ⟨_, _, e2, hq, _⟩ := rels_cons.1 hys
          cases e1
          cases e2
          have e1 := rel_x.1 hp
          have e2 := rel_x.1 hq
          subst e1 e2
          exact run_equalIn_bool' w d t a b hu
        · cases h

end
end Go.Gv

namespace Go.Gv
open Go.RowKit Go.Ev
noncomputable section

def bndA : Option AV → Option (Option Int)
  | none => some none
  | some (.x (.int _ i)) => some (some i)
  | some _ => none
def sbL (l : Option Int) : Nat := (l.getD 0).toNat
def sbN (l h : Option Int) (n : Nat) : Nat := (h.getD n - l.getD 0).toNat
def sbB (l h m : Option Int) (n : Nat) : Bool := decide (0 ≤ l.getD 0) && (decide (l.getD 0 ≤ h.getD n) && (decide (h.getD n ≤ m.getD n) && decide (m.getD n ≤ n)))
def sbM : Option Int → Option Int → Bool
  | none, some _ => false
  | _, _ => true
/-- The beginning of a row of ours. -/
def cutO (k sz st len : Nat) (l h m : Option Int) : Option (Bool × AV) := match l, m with
  | none, none => some (sbB none h none len, .osl k sz st (sbN none h len))
  | _, _ => none
def aslice (P : Program) (t : TypeId) (x : AV) (lo hi mx : Option AV) : Option (Bool × AV) :=
  match bndA lo, bndA hi, bndA mx with
  | some l, some h, some m => cond (sbM h m) (match P.underlying t with
    | some (.slice e) => match P.info? e with
      | some inf => match x with
        | .sl sz n el => cond (sz == inf.size) (some (sbB l h m n, .sl sz (sbN l h n) (fun i => el (sbL l + i)))) none
        | .osl k sz st len => cond (sz == inf.size) (cond (cutE e) (cutO k sz st len l h m) (some (sbB l h m len, .view k sz (st + sbL l) 0 (sbN l h len)))) none
        | .view k sz st sub n => cond (sz == inf.size) (some (sbB l h m n, .view k sz (st + sbL l) sub (sbN l h n))) none
        | _ => none
      | none => none
    | some (.array n e) => match P.info? e with
      | some inf => match x with
        | .own k off => some (sbB l h m n, .view k inf.size 0 (off + sbL l * inf.size) (sbN l h n))
        | _ => none
      | none => none
    | some .string => match x, m with
      | .x (.string s), none => some (sbB l h none s.size, .x (.string (s.extract (sbL l) (h.getD s.size).toNat)))
      | _, _ => none
    | _ => none) none
  | _, _, _ => none
/-- A bound, as it is told and as it is. -/
def BndRel (l : Option Int) (lo : Option Value) : Prop := (l = none ∧ lo = none) ∨ ∃ k i, l = some i ∧ lo = some (.int k i)
theorem bnd_rel {E : Env} {s : St} {ρ : Operand → Value} {lo : Option Operand} {l : Option Int} (h : bndA (lo.map (aeval s)) = some l) (hρ : ∀ y, lo = some y → rel E (aeval s y) (ρ y)) : BndRel l (lo.map ρ) := by
  cases lo with
  | none => simp [bndA] at h; exact Or.inl ⟨h.symm, rfl⟩
  | some y =>
    simp only [Option.map_some] at h ⊢
    unfold bndA at h
    split at h
    · rename_i heq; cases heq
    · rename_i k i heq
      simp only [Option.some.injEq] at heq h
      have hv := hρ y rfl
      rw [heq] at hv
      rw [rel_x.1 hv]
      exact Or.inr ⟨k, i, h.symm, rfl⟩
    · cases h
theorem run_sliceBounds {P : Program} {w : World} {isSlice : Bool} {n c : Nat} {l h m : Option Int} {lo hi mx : Option Value} (hnc : n ≤ c) (h1 : BndRel l lo) (h2 : BndRel h hi) (h3 : BndRel m mx) (hm : sbM h m = true) (hb : sbB l h m n = true) :
    ∃ M, (Instr.sliceBounds isSlice n c lo hi mx).run P w = .ok (sbL l, (h.getD n).toNat, M) w ∧ (h.getD n).toNat ≤ M ∧ sbL l ≤ (h.getD n).toNat ∧ (h.getD n).toNat ≤ n ∧ (h.getD n).toNat - sbL l = sbN l h n := by
  unfold sbB at hb
  simp only [Bool.and_eq_true, decide_eq_true_eq] at hb
  obtain ⟨b1, b2, b3, b4⟩ := hb
  have e0 : sbL l ≤ (h.getD n).toNat := by unfold sbL; omega
  have e1 : (h.getD n).toNat ≤ n := by omega
  have e2 : (h.getD n).toNat - sbL l = sbN l h n := by unfold sbL sbN; omega
  have e3 : (0 : Int) ≤ h.getD n := by omega
  refine ⟨(m.map Int.toNat).getD c, ?_, ?_, e0, e1, e2⟩
  · rcases h1 with ⟨rfl, rfl⟩ | ⟨k1, i1, rfl, rfl⟩ <;> rcases h2 with ⟨rfl, rfl⟩ | ⟨k2, i2, rfl, rfl⟩ <;> rcases h3 with ⟨rfl, rfl⟩ | ⟨k3, i3, rfl, rfl⟩ <;>
      simp only [Option.getD_none, Option.getD_some, sbM, Bool.false_eq_true, Int.toNat_natCast] at b1 b2 b3 b4 e3 hm ⊢
    all_goals
      have g1 : ∀ (x : Int) (y : Nat) (k : IntKind) (code : BoundsCode), 0 ≤ x → x ≤ y → (Instr.sliceBound (.int k x) y code).run P w = .ok x.toNat w := fun x y k code p q => by
        simp [Instr.sliceBound, asIntOf, p, q]
      unfold Instr.sliceBounds
      simp only [Sem.run_bind, Sem.run_pure, Result.andThen_ok, Option.map_none, Option.map_some, Option.getD_none, Option.getD_some, sbL, Int.toNat_zero]
      repeat rw [g1 _ _ _ _ (by omega) (by omega)]
      try simp only [Result.andThen_ok]
      try repeat rw [g1 _ _ _ _ (by omega) (by omega)]
      try simp only [Result.andThen_ok]
      try repeat rw [g1 _ _ _ _ (by omega) (by omega)]
      try simp only [Result.andThen_ok]
  · rcases h3 with ⟨rfl, rfl⟩ | ⟨k3, i3, rfl, rfl⟩
    · simp only [Option.map_none, Option.getD_none]; omega
    · simp only [Option.map_some, Option.getD_some] at b3 ⊢; omega
theorem run_sliceBounds0 {P : Program} {w : World} {isSlice : Bool} {n c : Nat} {h : Option Int} {hi : Option Value} (hnc : n ≤ c) (h2 : BndRel h hi) (hb : sbB none h none n = true) :
    (Instr.sliceBounds isSlice n c none hi none).run P w = .ok (0, (h.getD n).toNat, c) w ∧ (h.getD n).toNat ≤ n ∧ (h.getD n).toNat = sbN none h n := by
  unfold sbB at hb
  simp only [Bool.and_eq_true, decide_eq_true_eq, Option.getD_none] at hb
  obtain ⟨b1, b2, b3, b4⟩ := hb
  refine ⟨?_, by omega, by unfold sbN; simp⟩
  have g1 : ∀ (x : Int) (y : Nat) (k : IntKind) (code : BoundsCode), 0 ≤ x → x ≤ y → (Instr.sliceBound (.int k x) y code).run P w = .ok x.toNat w := fun x y k code p q => by
    simp [Instr.sliceBound, asIntOf, p, q]
  rcases h2 with ⟨rfl, rfl⟩ | ⟨k2, i2, rfl, rfl⟩
  · unfold Instr.sliceBounds
    simp
  · simp only [Option.getD_some] at b2 b3 b4 ⊢
    unfold Instr.sliceBounds
    simp only [Sem.run_bind, Sem.run_pure, Result.andThen_ok]
    repeat rw [g1 _ _ _ _ (by omega) (by omega)]
    try simp only [Result.andThen_ok]
theorem add_plain (b o i : Nat) : (⟨b, o, none⟩ : Addr).add i = ⟨b, o + i, none⟩ := by unfold Addr.add; split <;> simp_all
theorem slice_good {P : Program} {E : Env} {s : St} {ρ : Operand → Value} {t : TypeId} {x : AV} {v : Value} {lo hi mx : Option Operand} {y : AV} (h : aslice P t x (lo.map (aeval s)) (hi.map (aeval s)) (mx.map (aeval s)) = some (true, y)) (hv : rel E x v)
    (h1 : ∀ z, lo = some z → rel E (aeval s z) (ρ z)) (h2 : ∀ z, hi = some z → rel E (aeval s z) (ρ z)) (h3 : ∀ z, mx = some z → rel E (aeval s z) (ρ z)) : ∃ r, (Instr.sliceAt t v (lo.map ρ) (hi.map ρ) (mx.map ρ)).run P E.w = .ok r E.w ∧ rel E y r := by
  unfold aslice at h
  split at h
  · rename_i l hh m e1 e2 e3
    cases hm : sbM hh m
    · rw [hm] at h; cases h
    · rw [hm] at h
      simp only [cond_true] at h
      have r1 := bnd_rel e1 h1
      have r2 := bnd_rel e2 h2
      have r3 := bnd_rel e3 h3
      split at h
      · rename_i e hun
        split at h
        · rename_i inf hinf
          have run : ∀ (n c : Nat) (a : Option Addr), n ≤ c → sbB l hh m n = true → ∃ M, (Instr.sliceAt t (.slice a n c) (lo.map ρ) (hi.map ρ) (mx.map ρ)).run P E.w = .ok (.slice (if M = sbL l then a else a.map (·.add (sbL l * inf.size))) (sbN l hh n) (M - sbL l)) E.w ∧ sbN l hh n ≤ M - sbL l ∧ (0 < sbN l hh n → M ≠ sbL l) ∧ sbL l + sbN l hh n ≤ n := by
            intro n c a hnc hb
            obtain ⟨M, g1, g2, g3, g4, g5⟩ := run_sliceBounds (P := P) (w := E.w) (isSlice := true) hnc r1 r2 r3 hm hb
            refine ⟨M, ?_, by omega, fun hp => by omega, by omega⟩
            rw [← g5]
            simp only [Instr.sliceAt, Sem.run_bind, run_underlying hun, Result.andThen_ok, Instr.slice, g1, sizeOf, typeInfo, run_program, hinf, Sem.run_pure]
          split at h
          · rename_i sz n el
            cases hs : sz == inf.size
            · rw [hs] at h; cases h
            · rw [hs] at h
              simp only [cond_true, Option.some.injEq, Prod.mk.injEq] at h
              obtain ⟨hb, rfl⟩ := h
              have hs' := eq_of_beq hs
              obtain ⟨a, c, rfl, hnc, hcs⟩ := rel_sl.1 hv
              obtain ⟨M, g1, g2, g3, g4⟩ := run n c a hnc hb
              refine ⟨_, g1, rel_sl.2 ⟨_, _, rfl, g2, ?_⟩⟩
              by_cases hz : sbN l hh n = 0
              · exact Or.inl hz
              · rw [if_neg (g3 (by omega))]
                rcases hcs with hcs | ⟨b, o, cs, e', fz, rfl, hA, hh2, hpre⟩
                · omega
                · refine Or.inr ⟨b, o + sbL l * sz, cs, e', fz, by rw [Option.map_some, add_plain, hs'], hA, hh2, fun i hi => ?_⟩
                  obtain ⟨p1, p2⟩ := hpre (sbL l + i) (by omega)
                  refine ⟨p1, ?_⟩
                  have e5 : o + sbL l * sz + i * sz = o + (sbL l + i) * sz := by rw [Nat.add_mul]; omega
                  rw [e5]
                  exact p2
          · rename_i k sz st len
            cases hs : sz == inf.size
            · rw [hs] at h; cases h
            · rw [hs] at h
              have hs' := eq_of_beq hs
              simp only [cond_true] at h
              cases hcut : cutE e
              rotate_left
              · rw [hcut, cond_true] at h
                unfold cutO at h
                split at h
                · simp only [Option.some.injEq, Prod.mk.injEq] at h
                  obtain ⟨hb, rfl⟩ := h
                  have l0 : lo.map ρ = none := by rcases r1 with ⟨_, h⟩ | ⟨_, _, h, _⟩; exact h; cases h
                  have m0 : mx.map ρ = none := by rcases r3 with ⟨_, h⟩ | ⟨_, _, h, _⟩; exact h; cases h
                  have run0 : ∀ (n c : Nat) (a : Option Addr), n ≤ c → sbB none hh none n = true → (Instr.sliceAt t (.slice a n c) (lo.map ρ) (hi.map ρ) (mx.map ρ)).run P E.w = .ok (.slice a (sbN none hh n) c) E.w ∧ sbN none hh n ≤ n := by
                    intro n c a hnc hb
                    obtain ⟨g1, g2, g3⟩ := run_sliceBounds0 (P := P) (w := E.w) (isSlice := true) hnc r2 hb
                    refine ⟨?_, by omega⟩
                    rw [l0, m0]
                    simp only [Instr.sliceAt, Sem.run_bind, run_underlying hun, Result.andThen_ok, Instr.slice, g1, sizeOf, typeInfo, run_program, hinf, Sem.run_pure, g3]
                    cases a with
                    | none => simp
                    | some a => simp [Addr.add]
                  rcases rel_osl.1 hv with ⟨rfl, rfl, rfl⟩ | ⟨b, c, n0, hO, hle, hnc, rfl⟩
                  · obtain ⟨g1, g2⟩ := run0 0 0 none (Nat.le_refl _) hb
                    have : sbN none hh 0 = 0 := by omega
                    rw [this] at g1 ⊢
                    exact ⟨_, g1, rel_osl.2 (Or.inl ⟨rfl, rfl, rfl⟩)⟩
                  · obtain ⟨g1, g2⟩ := run0 len (c - st) (some ⟨b, st * sz, none⟩) (by omega) hb
                    exact ⟨_, g1, rel_osl.2 (Or.inr ⟨b, c, n0, hO, by omega, hnc, rfl⟩)⟩
                · cases h
              rw [hcut, cond_false] at h
              simp only [Option.some.injEq, Prod.mk.injEq] at h
              obtain ⟨hb, rfl⟩ := h
              rcases rel_osl.1 hv with ⟨_, rfl, rfl⟩ | ⟨b, c, n0, hO, hle, hnc, rfl⟩
              · obtain ⟨M, g1, g2, g3, g4⟩ := run 0 0 none (Nat.le_refl _) hb
                exact ⟨_, g1, rel_view.2 ⟨_, _, rfl, g2, Or.inl (by omega)⟩⟩
              · obtain ⟨M, g1, g2, g3, g4⟩ := run len (c - st) (some ⟨b, st * sz, none⟩) (by omega) hb
                refine ⟨_, g1, rel_view.2 ⟨_, _, rfl, g2, ?_⟩⟩
                by_cases hz : sbN l hh len = 0
                · exact Or.inl hz
                · rw [if_neg (g3 (by omega))]
                  exact Or.inr ⟨b, _, hO, by rw [Option.map_some, add_plain, hs', Nat.add_mul, Nat.add_zero]⟩
          · rename_i k sz st sub n
            cases hs : sz == inf.size
            · rw [hs] at h; cases h
            · rw [hs] at h
              simp only [cond_true, Option.some.injEq, Prod.mk.injEq] at h
              obtain ⟨hb, rfl⟩ := h
              have hs' := eq_of_beq hs
              obtain ⟨a, c, rfl, hnc, hcs⟩ := rel_view.1 hv
              obtain ⟨M, g1, g2, g3, g4⟩ := run n c a hnc hb
              refine ⟨_, g1, rel_view.2 ⟨_, _, rfl, g2, ?_⟩⟩
              by_cases hz : sbN l hh n = 0
              · exact Or.inl hz
              · rw [if_neg (g3 (by omega))]
                rcases hcs with hcs | ⟨b, c', hO, rfl⟩
                · omega
                · refine Or.inr ⟨b, c', hO, ?_⟩
                  rw [Option.map_some, add_plain, hs', Nat.add_mul]
                  congr 2
                  omega
          · cases h
        · cases h
      · rename_i n e hun
        split at h
        · rename_i inf hinf
          split at h
          · rename_i k off
            simp only [Option.some.injEq, Prod.mk.injEq] at h
            obtain ⟨hb, rfl⟩ := h
            obtain ⟨b, c, hO, rfl⟩ := rel_own.1 hv
            obtain ⟨M, g1, g2, g3, g4, g5⟩ := run_sliceBounds (P := P) (w := E.w) (isSlice := false) (Nat.le_refl n) r1 r2 r3 hm hb
            refine ⟨.slice (some (if M = sbL l then ⟨b, off, none⟩ else (⟨b, off, none⟩ : Addr).add (sbL l * inf.size))) (sbN l hh n) (M - sbL l), ?_, rel_view.2 ⟨_, _, rfl, by omega, ?_⟩⟩
            · rw [← g5]
              simp only [Instr.sliceAt, Sem.run_bind, run_underlying hun, Result.andThen_ok, Instr.sureAddr, g1, sizeOf, typeInfo, run_program, hinf, Sem.run_pure]
            · by_cases hz : sbN l hh n = 0
              · exact Or.inl hz
              · rw [if_neg (by omega)]
                exact Or.inr ⟨b, c, hO, by rw [add_plain, Nat.zero_mul, Nat.zero_add]⟩
          · cases h
        · cases h
      · rename_i hun
        split at h
        · rename_i s'
          simp only [Option.some.injEq, Prod.mk.injEq] at h
          obtain ⟨hb, rfl⟩ := h
          have hu := rel_x.1 hv
          subst hu
          have m0 : mx.map ρ = none := by rcases r3 with ⟨_, h⟩ | ⟨_, _, h, _⟩; exact h; cases h
          obtain ⟨M, g1, g2, g3, g4, g5⟩ := run_sliceBounds (P := P) (w := E.w) (isSlice := false) (Nat.le_refl s'.size) r1 r2 r3 hm hb
          rw [m0] at g1
          refine ⟨_, ?_, rel_x.2 rfl⟩
          rw [m0]
          simp [Instr.sliceAt, Sem.run_bind, run_underlying hun, Result.andThen_ok, Instr.slice, g1]
        · cases h
      · cases h
  · cases h
def isByte : List AV → Bool
  | [.x (.int .u8 _)] => true
  | _ => false
def byteOf : List AV → Int
  | [.x (.int .u8 b)] => b
  | _ => 0
theorem isByte_eq {l : List AV} (h : isByte l = true) : l = [.x (.int .u8 (byteOf l))] := by
  unfold isByte at h
  split at h
  · rfl
  · cases h
def allB : Nat → (Nat → Bool) → Bool
  | 0, _ => true
  | n + 1, p => p n && allB n p
theorem allB_get : ∀ {n : Nat} {p : Nat → Bool}, allB n p = true → ∀ i, i < n → p i = true
  | 0, _, _, i, h => by omega
  | n + 1, p, h, i, hi => by
    simp only [allB, Bool.and_eq_true] at h
    by_cases e : i = n
    · subst e; exact h.1
    · exact allB_get h.2 i (by omega)
/-- A string of so many bytes. -/
def strR (n : Nat) (g : Nat → Int) : ByteArray := ((List.range n).map g).foldl (fun r n => r.push (UInt8.ofNat n.toNat)) ByteArray.empty
/-- The same, not to be looked into. -/
noncomputable def strF : Nat → (Nat → Int) → ByteArray := Classical.choose (⟨strR, rfl⟩ : ∃ f : Nat → (Nat → Int) → ByteArray, f = strR)
theorem strF_eq : strF = strR := Classical.choose_spec (⟨strR, rfl⟩ : ∃ f : Nat → (Nat → Int) → ByteArray, f = strR)
/-- A float cut off to a whole number: where it fits (elsewhere the model draws). -/
def fitI (k : IntKind) (b : Nat) : Bool := (floatToIntVal .f64 b k).isSome
def f2i (k : IntKind) (b : Nat) : Int := (floatToIntVal .f64 b k).getD 0
theorem f2i_run {P : Program} {w : World} {src dst : TypeId} {k : IntKind} {b b' : Nat} (hs : P.underlying src = some (.float .f64)) (hd : P.underlying dst = some (.int k)) (hf : fitI k b = true) (hb : cn b' = b) :
    (convert src dst (.float .f64 b')).run P w = .ok (.int k (f2i k b)) w := by
  unfold fitI at hf
  unfold f2i
  have hn : isNan b' = false := by
    cases h : isNan b' with
    | false => rfl
    | true =>
      rw [cn_of_nan h] at hb
      subst hb
      have h0 : ∀ k, (floatToIntVal .f64 nanB k).isSome = false := fun k => by cases k <;> decide +kernel
      rw [h0] at hf; cases hf
  rw [cn_of_not hn] at hb
  subst hb
  cases h : floatToIntVal .f64 b' k with
  | none => rw [h] at hf; cases hf
  | some n => exact run_convert_float_int w src dst .f64 k b' n (by rw [hs]; rfl) hd h
def astr (P : Program) (mem : List Row) (src dst : TypeId) (x : AV) : Option (Bool × AV) :=
  match P.underlying src, P.underlying dst with
  | some (.slice e), some .string => match P.underlying e with
    | some (.int .u8) => match x with
      | .sl sz n el => cond (sz == 1) (some (allB n (fun i => isByte (el i)), .x (.string (strF n fun i => byteOf (el i))))) none
      | .view k sz st sub n => match mem[k]? with
        | some (.c l) => cond (sz == 1) (some (allB n (fun i => isByte ((l.drop (st + sub + i)).take 1)), .x (.string (strF n fun i => byteOf ((l.drop (st + sub + i)).take 1))))) none
        | _ => none
      | _ => none
    | _ => none
  | some (.float .f64), some (.int k) => match x with
    | .f b => some (fitI k b, .x (.int k (f2i k b)))
    | _ => none
  | _, _ => none
theorem cell_of {w : World} {b o : Nat} {cs : Array Value} {e : TypeId} {fz : Nat × Nat} {v : Value} (hh : w.heap[b]? = some (.cells cs e fz)) (hv : cs.toList[o]? = some v) : w.cell? ⟨b, o, none⟩ = some v := by
  simp only [World.cell?, hh]
  simpa using hv
theorem run_bytes {P : Program} {w : World} {src dst e : TypeId} (hs : P.underlying src = some (.slice e)) (he : P.underlying e = some (.int .u8)) (hd : P.underlying dst = some .string) {n c : Nat} {a : Option Addr} {g : Nat → Int}
    (ha : n = 0 ∨ ∃ b o cs e' fz, a = some ⟨b, o, none⟩ ∧ w.heap[b]? = some (.cells cs e' fz) ∧ ∀ i, i < n → cs.toList[o + i]? = some (.int .u8 (g i))) :
    (convert src dst (.slice a n c)).run P w = .ok (.string (strF n g)) w := by
  rw [run_convert_bytes_string w src dst e a n c hs he hd]
  have key : ∀ (ad : Addr), (∀ i, i < n → w.cell? (ad.add i) = some (.int .u8 (g i))) → (Conv.bytesToString (.slice (some ad) n c)).run P w = .ok (.string (strF n g)) w := by
    intro ad hc
    rw [strF_eq]
    refine run_bytesToString w ad n c ((List.range n).map g) ?_
    have := run_loadCells_list (P := P) (w := w) ad (((List.range n).map g).map (Value.int .u8)) (fun j v hj => by
      simp only [List.map_map, List.getElem?_map] at hj
      by_cases hjn : j < n
      · rw [List.getElem?_range hjn] at hj
        simp only [Option.map_some, Option.some.injEq, Function.comp] at hj
        rw [← hj]
        exact hc j hjn
      · rw [List.getElem?_eq_none (by simpa using hjn)] at hj
        cases hj)
    simpa using this
  cases a with
  | none =>
    have hn : n = 0 := by
      rcases ha with ha | ⟨b, o, cs, e', fz, h1, _⟩
      · exact ha
      · cases h1
    subst hn
    simp [Conv.bytesToString, strF_eq, strR, Sem.run_pure]
  | some ad =>
    refine key ad fun i hi => ?_
    rcases ha with ha | ⟨b, o, cs, e', fz, h1, h2, h3⟩
    · omega
    · simp only [Option.some.injEq] at h1
      subst h1
      rw [add_plain]
      exact cell_of h2 (h3 i hi)
theorem pre_one {E : Env} {b : Int} {us : List Value} (h : pre E [.x (.int .u8 b)] us) : us[0]? = some (.int .u8 b) := by
  obtain ⟨u, us', rfl, h1, _⟩ := pre_cons.1 h
  rw [rel_x.1 h1]
  rfl
theorem str_good {P : Program} {E : Env} {mem : List Row} (hm : MemRel E mem) {src dst : TypeId} {x y : AV} {v : Value} (h : astr P mem src dst x = some (true, y)) (hv : rel E x v) : ∃ r, (convert src dst v).run P E.w = .ok r E.w ∧ rel E y r := by
  unfold astr at h
  split at h
  · rename_i e hs hd
    split at h
    · rename_i he
      split at h
      · rename_i sz n el
        cases h1 : sz == 1
        · rw [h1] at h; cases h
        · rw [h1] at h
          simp only [cond_true, Option.some.injEq, Prod.mk.injEq] at h
          obtain ⟨hb, rfl⟩ := h
          have hs1 := eq_of_beq h1
          subst hs1
          obtain ⟨a, c, rfl, hnc, hcs⟩ := rel_sl.1 hv
          refine ⟨_, run_bytes hs he hd (g := fun i => byteOf (el i)) ?_, rel_x.2 rfl⟩
          rcases hcs with hcs | ⟨b, o, cs, e', fz, h4, h5, h6, h7⟩
          · exact Or.inl hcs
          · refine Or.inr ⟨b, o, cs, e', fz, h4, h6, fun i hi => ?_⟩
            have hp : pre E.fz (el i) (cs.toList.drop (o + i * 1)) := (h7 i hi).2
            rw [isByte_eq (allB_get hb i hi)] at hp
            have := pre_one hp
            rw [List.getElem?_drop, Nat.mul_one, Nat.add_zero] at this
            exact this
      · rename_i k sz st sub n
        split at h
        · rename_i l hk
          cases h1 : sz == 1
          · rw [h1] at h; cases h
          · rw [h1] at h
            simp only [cond_true, Option.some.injEq, Prod.mk.injEq] at h
            obtain ⟨hb, rfl⟩ := h
            have hs1 := eq_of_beq h1
            subst hs1
            obtain ⟨a, c, rfl, hnc, hcs⟩ := rel_view.1 hv
            refine ⟨_, run_bytes hs he hd (g := fun i => byteOf ((l.drop (st + sub + i)).take 1)) ?_, rel_x.2 rfl⟩
            rcases hcs with hcs | ⟨b, c', hO, h4⟩
            · exact Or.inl hcs
            · obtain ⟨row, g1, g2⟩ := hm k b c' hO
              rw [hk] at g1
              cases g1
              obtain ⟨cs, e', g3, g4⟩ := g2
              refine Or.inr ⟨b, st * 1 + sub, cs, e', (0, 0), h4, g3, fun i hi => ?_⟩
              have hi1 := isByte_eq (allB_get hb i hi)
              have hle : st + sub + i + 1 ≤ l.length := by
                have := congrArg List.length hi1
                simp at this
                omega
              have hp := pre_part (st + sub + i) 1 g4 hle
              rw [hi1] at hp
              have := pre_one (pre_of_rels hp)
              rw [Nat.mul_one]
              have h0 : ((cs.toList.drop (st + sub + i)).take 1)[0]? = cs.toList[st + sub + i]? := by
                rw [List.getElem?_take, if_pos (by omega), List.getElem?_drop, Nat.add_zero]
              rw [h0] at this
              exact this
        · cases h
      · cases h
    · cases h
  · rename_i k hs hd
    split at h
    · rename_i b
      simp only [Option.some.injEq, Prod.mk.injEq] at h
      obtain ⟨hf, rfl⟩ := h
      obtain ⟨b', rfl, hb⟩ := rel_f.1 hv
      exact ⟨_, f2i_run hs hd hf (by first | exact hb | exact hb.symm), rel_x.2 rfl⟩
    · cases h
  · cases h
theorem astr_congr {P : Program} {m1 m2 : List Row} {src dst : TypeId} {x : AV} (h : ∀ k sz st sub n, x = .view k sz st sub n → m1[k]? = m2[k]?) : astr P m1 src dst x = astr P m2 src dst x := by
  unfold astr
  split
  · split
    · split
      · rfl
      · rename_i k sz st sub n
        rw [h k sz st sub n rfl]
      · rfl
    · rfl
  · rfl
  · rfl
def plains : List AV → Option (List Value)
  | [] => some []
  | .x u :: xs => cond (isPlain u) ((plains xs).map (u :: ·)) none
  | _ :: _ => none
theorem plains_rel {E : Env} : ∀ {xs : List AV} {us vs : List Value}, plains xs = some vs → rels E xs us → us = vs
  | [], us, vs, h, hr => by simp [plains] at h; subst h; exact rels_nil.1 hr
  | .x u :: xs, us, vs, h, hr => by
    simp only [plains] at h
    cases hp : isPlain u
    · rw [hp] at h; cases h
    · rw [hp] at h
      simp only [cond_true] at h
      cases hx : plains xs with
      | none => rw [hx] at h; cases h
      | some ws =>
        rw [hx] at h
        simp only [Option.map_some, Option.some.injEq] at h
        subst h
        obtain ⟨w, us', rfl, h1, h2⟩ := rels_cons.1 hr
        rw [rel_x.1 h1, plains_rel hx h2]
  | .f _ :: _, _, _, h, _ => by simp [plains] at h
  | .cx _ _ :: _, _, _, h, _ => by simp [plains] at h
  | .agg _ :: _, _, _, h, _ => by simp [plains] at h
  | .tup _ :: _, _, _, h, _ => by simp [plains] at h
  | .own _ _ :: _, _, _, h, _ => by simp [plains] at h
  | .eown _ _ _ _ :: _, _, _, h, _ => by simp [plains] at h
  | .osl _ _ _ _ :: _, _, _, h, _ => by simp [plains] at h
  | .view _ _ _ _ _ :: _, _, _, h, _ => by simp [plains] at h
  | .ref _ _ :: _, _, _, h, _ => by simp [plains] at h
  | .sl _ _ _ :: _, _, _, h, _ => by simp [plains] at h
  | .ifc _ _ :: _, _, _, h, _ => by simp [plains] at h
  | .fn _ _ _ :: _, _, _, h, _ => by simp [plains] at h
  | .any :: _, _, _, h, _ => by simp [plains] at h
end
end Go.Gv

namespace Go.Gv
open Go.RowKit Go.Ev
noncomputable section

mutual
def noOwn : AV → Bool
  | .own _ _ => false
  | .eown _ _ _ _ => false
  | .osl _ _ _ _ => false
  | .view _ _ _ _ _ => false
  | .agg l => noOwns l
  | .tup l => noOwns l
  | .ifc _ x => noOwn x
  | .fn _ a b => noOwns a && noOwns b
  | _ => true
def noOwns : List AV → Bool
  | [] => true
  | x :: xs => noOwn x && noOwns xs
end
mutual
theorem relA_noOwn : ∀ (x : AV) {E E' : Env} (_ : ∀ b, ¬ E.A b → ∀ ob, E.w.heap[b]? = some ob → ¬ E'.A b ∧ E'.w.heap[b]? = some ob) (_ : noOwn x = true) (u : Value), relA x E u → relA x E' u
  | .x v, _, _, _, _, u, hr => by unfold relA at *; exact hr
  | .f a, _, _, _, _, u, hr => by unfold relA at *; exact hr
  | .cx a c, _, _, _, _, u, hr => by unfold relA at *; exact hr
  | .agg l, _, _, h, hn, u, hr => by
    unfold relA at *
    unfold noOwn at hn
    obtain ⟨vs, h1, h2⟩ := hr
    exact ⟨vs, h1, relsA_noOwn l h hn _ h2⟩
  | .tup l, _, _, h, hn, u, hr => by
    unfold relA at *
    unfold noOwn at hn
    obtain ⟨vs, h1, h2⟩ := hr
    exact ⟨vs, h1, relsA_noOwn l h hn _ h2⟩
  | .own k off, _, _, h, hn, u, hr => by simp [noOwn] at hn
  | .eown k sz i sub, _, _, h, hn, u, hr => by simp [noOwn] at hn
  | .osl k sz st len, _, _, h, hn, u, hr => by simp [noOwn] at hn
  | .view k sz st sub n, _, _, h, hn, u, hr => by simp [noOwn] at hn
  | .ref l off, E, E', h, hn, u, hr => by
    unfold relA at *
    obtain ⟨b, o, cs, e, fz, h1, h2, h3, h4⟩ := hr
    obtain ⟨g1, g2⟩ := h b h2 _ h3
    exact ⟨b, o, cs, e, fz, h1, g1, g2, preA_le l (E := E.fz) (E' := E'.fz) ⟨h, fun k b hb => by cases hb⟩ _ h4⟩
  | .sl sz n el, E, E', h, hn, u, hr => by
    unfold relA at *
    obtain ⟨a, c, h1, h2, h3⟩ := hr
    refine ⟨a, c, h1, h2, ?_⟩
    rcases h3 with h3 | ⟨b, o, cs, e, fz, h4, h5, h6, h7⟩
    · exact Or.inl h3
    · obtain ⟨g1, g2⟩ := h b h5 _ h6
      exact Or.inr ⟨b, o, cs, e, fz, h4, g1, g2, fun i hi => ⟨(h7 i hi).1, preA_le (el i) (E := E.fz) (E' := E'.fz) ⟨h, fun k b hb => by cases hb⟩ _ (h7 i hi).2⟩⟩
  | .ifc t x, _, _, h, hn, u, hr => by
    unfold relA at *
    unfold noOwn at hn
    obtain ⟨y, h1, h2⟩ := hr
    exact ⟨y, h1, relA_noOwn x h hn y h2⟩
  | .fn g a b, _, _, h, hn, u, hr => by
    unfold relA at *
    unfold noOwn at hn
    simp only [Bool.and_eq_true] at hn
    obtain ⟨va, vb, h1, h2, h3⟩ := hr
    exact ⟨va, vb, h1, relsA_noOwn a h hn.1 _ h2, relsA_noOwn b h hn.2 _ h3⟩
  | .any, _, _, _, _, _, _ => by unfold relA; trivial
theorem relsA_noOwn : ∀ (xs : List AV) {E E' : Env} (_ : ∀ b, ¬ E.A b → ∀ ob, E.w.heap[b]? = some ob → ¬ E'.A b ∧ E'.w.heap[b]? = some ob) (_ : noOwns xs = true) (us : List Value), relsA xs E us → relsA xs E' us
  | [], _, _, _, _, [], _ => by unfold relsA; trivial
  | x :: xs, _, _, h, hn, u :: us, hr => by
    unfold relsA at *
    unfold noOwns at hn
    simp only [Bool.and_eq_true] at hn
    exact ⟨relA_noOwn x h hn.1 u hr.1, relsA_noOwn xs h hn.2 us hr.2⟩
  | [], _, _, _, _, _ :: _, hr => by simp [relsA] at hr
  | _ :: _, _, _, _, _, [], hr => by simp [relsA] at hr
end
theorem rels_noOwn {E E' : Env} {xs : List AV} {us : List Value} (h : rels E xs us) (hn : noOwns xs = true) (hk : ∀ b, ¬ E.A b → ∀ ob, E.w.heap[b]? = some ob → ¬ E'.A b ∧ E'.w.heap[b]? = some ob) : rels E' xs us := relsA_noOwn xs hk hn us h
theorem rel_noOwn {E E' : Env} {x : AV} {u : Value} (h : rel E x u) (hn : noOwn x = true) (hk : ∀ b, ¬ E.A b → ∀ ob, E.w.heap[b]? = some ob → ¬ E'.A b ∧ E'.w.heap[b]? = some ob) : rel E' x u := relA_noOwn x hk hn u h

/-- The function is Go text: a call enters it. -/
def Entered (P : Program) (f : Nat) : Prop := ∃ fn, P.funcs[f]? = some fn ∧ (fn.name == "runtime.NumGoroutine") = false ∧ fn.body.isNone = false
/-- A call with these arguments: it returns this, and nothing that was there is changed. -/
def FSpec (P : Program) (f : Nat) (args : List AV) (r : AV) : Prop :=
  Entered P f ∧ ∀ (A : Nat → Prop) (w : World) (cargs : Array Value), (∀ b, A b → b < w.heap.size) → rels ⟨w, A, fun _ => none⟩ args cargs.toList → glob ⟨w, A, fun _ => none⟩ →
    Calls P f cargs w fun e w' => ∃ v, e = .returned v ∧ rel ⟨w', A, fun _ => none⟩ r v ∧ Below w.heap.size w w'
/-- A function without a text, that the model carries out in place. -/
def XSpec (P : Program) (f : Nat) (args : List AV) (r : AV) : Prop :=
  ∀ (E : Env) (cargs : Array Value), rels E args cargs.toList → ∃ u w', (callFunc f cargs).run P E.w = .ok (.value u) w' ∧ (w' = E.w ∨ w' = E.w.drew) ∧ rel E r u
/-- What comes out in the end: how a text is left, what is known then, and what is handed back. -/
structure Out where
  e : Exit
  s : St
  v : AV
structure Eff where
  /-- what it gives -/
  v : AV
  /-- rows that it looks at -/
  rd : List Nat
  /-- a row that it changes -/
  wr : Option (Nat × Row)
  /-- a row that it makes -/
  nw : Option Row
mutual
/-- The rows of ours that a value speaks of. -/
def rowsA : AV → List Nat
  | .own k _ => [k]
  | .eown k _ _ _ => [k]
  | .osl k _ _ _ => [k]
  | .view k _ _ _ _ => [k]
  | .agg l => rowsL l
  | .tup l => rowsL l
  | .ifc _ x => rowsA x
  | .fn _ a b => rowsL a ++ rowsL b
  | _ => []
def rowsL : List AV → List Nat
  | [] => []
  | x :: xs => rowsA x ++ rowsL xs
end
/-- A call that is handed rows of ours: of its arguments, these rows, and the number of a new one, what it does. -/
abbrev MFun := List AV → List (Option Row) → Nat → Option (Bool × Eff)
abbrev KFun := List AV → (AV → Option Out) → Option Out
/-- A call that hands back several new rows: of its arguments and the number of the first new one, what it gives, and these. -/
abbrev NFun := List AV → Nat → Option (Bool × AV × List Row)
/-- A call that is handed the whole of our rows: what it gives, and the rows behind it. -/
abbrev WFun := List AV → List Row → Option (Bool × AV × List Row)
/-- A call that looks at rows of ours and writes none: what it gives, and the rows that it looks at. -/
abbrev RFun := List AV → (Nat → Option Row) → Option (Bool × AV × List Nat)
structure Tab where
  f : Nat → List AV → Option AV
  k : Nat → Option KFun
  m : Nat → Option MFun
  n : Nat → Option NFun
  w : Nat → Option WFun
  r : Nat → Option RFun
def KPar (g : KFun) : Prop := ∀ args k r, g args k = some r → ∃ v, k v = some r ∧ ∀ k', g args k' = k' v
def KSpec (P : Program) (f : Nat) (g : KFun) : Prop := ∀ args v, (∀ k', g args k' = k' v) → FSpec P f args v ∨ XSpec P f args v
def TOk0 (P : Program) (T : Tab) : Prop := (∀ f args r, T.f f args = some r → FSpec P f args r ∨ XSpec P f args r) ∧ ∀ f g, T.k f = some g → KPar g ∧ KSpec P f g

/-- The outcome of an operation fits what is known. -/
def Good (P : Program) (E : Env) (x : AV) : Result Next → Prop
  | .ok (.value v) w' => rel E x v ∧ Dr E.w w'
  | .ok (.enter f args) w' => w' = E.w ∧ Calls P f args E.w fun e w'' => ∃ v, e = .returned v ∧ rel { E with w := w'' } x v ∧ Below E.w.heap.size E.w w''
  | _ => False

def alen (P : Program) (t : TypeId) (x : AV) : Option AV := match P.underlying t with
  | some (.slice _) => match x with
    | .sl _ n _ => some (.x (.int .i64 n))
    | .osl _ _ _ len => some (.x (.int .i64 len))
    | .view _ _ _ _ n => some (.x (.int .i64 n))
    | .x (.slice _ n _) => some (.x (.int .i64 n))
    | _ => none
  | some .string => match x with
    | .x (.string s) => some (.x (.int .i64 s.size))
    | _ => none
  | _ => none
/-- The function that a call enters, and what is handed to it. -/
def acallee (P : Program) (s : St) (c : Call) : Option (Nat × List AV) :=
  match c.callee with
  | .value x => match aeval s x with
    | .fn (.func f) [] [] => some (f, c.args.toList.map (aeval s))
    | _ => none
  | .invoke r name => match aeval s r with
    | .ifc t v => match aMethod P t name with
      | some f => some (f, v :: c.args.toList.map (aeval s))
      | none => none
    | _ => none
  | _ => none
def aval (P : Program) (T : Tab) (s : St) (o : Oper) : Option (Bool × AV) :=
  match o.op with
  | .move x => some (true, aeval s x)
  | .assign x => some (true, aeval s x)
  | .load t x => match aat s.mem (aeval s x) with
    | some (b, l, off) => (aload P t l off).map fun y => (b, y)
    | none => none
  | .fieldAddr t x f => (afield P t (aeval s x) f).map fun y => (true, y)
  | .nilCheck x => (padd (aeval s x) 0).map fun _ => (true, aeval s x)
  | .indexAddr t x ix => aindex P t (aeval s x) (aeval s ix)
  | .index t x ix => aidx P t (aeval s x) (aeval s ix)
  | .field t x f => (apick P t (aeval s x) f).map fun y => (true, y)
  | .binOp op t x y _ => abinO P op t x y (aeval s x) (aeval s y)
  | .makeInterface t x => match P.underlying t with
    | some d => cond (!isIfaceD d) (some (true, .ifc t (aeval s x))) none
    | none => none
  | .typeAssert x _ asserted ok => (aassert P (aeval s x) asserted ok).map fun y => (true, y)
  | .unOp op _ x => (aun P op (aeval s x)).map fun y => (true, y)
  | .convert src dst x => match aeval s x with
    | .x u => cond (isPlain u) ((pureOf P (convert src dst u)).map fun r => (true, canR r)) none
    | y => astr P s.mem src dst y
  | .slice t x lo hi mx => aslice P t (aeval s x) (lo.map (aeval s)) (hi.map (aeval s)) (mx.map (aeval s))
  | .build t ps => (abuild P t (ps.toList.map fun p => (p.1, aeval s p.2))).map fun y => (true, y)
  | .extract x i => match aeval s x with
    | .tup vs => (vs[i]?).map fun y => (true, y)
    | _ => none
  | .call c => match c.callee with
    | .builtin .len => match c.args.toList.map (aeval s), c.argTypes.toList with
      | [x], [t] => (alen P t x).map fun y => (true, y)
      | _, _ => none
    | .builtin .min => match plains (c.args.toList.map (aeval s)) with
      | some us => (pureOf P (Builtin.min_ c.argTypes o.type us.toArray)).map fun r => (true, canR r)
      | none => none
    | .builtin .max => match plains (c.args.toList.map (aeval s)) with
      | some us => (pureOf P (Builtin.max_ c.argTypes o.type us.toArray)).map fun r => (true, canR r)
      | none => none
    | .builtin .complex => match c.args.toList.map (aeval s) with
      | [.f a, .f b] => some (true, .cx a b)
      | _ => none
    | .builtin .real => match c.args.toList.map (aeval s) with
      | [.cx a _] => some (true, .f a)
      | _ => none
    | .builtin .imag => match c.args.toList.map (aeval s) with
      | [.cx _ b] => some (true, .f b)
      | _ => none
    | _ => match acallee P s c with
      | some (f, args) => cond (noOwns args) ((T.f f args).map fun y => (true, y)) none
      | none => none
  | _ => none

section
variable {P : Program} {w : World}
theorem agg_bin_good {E : Env} {op : BinOp} {t : TypeId} {y z : Operand} {xs ys : List AV} {x : AV} {c : Bool} {u v : Value} (hx : cond (isAggT P t && !P.eqGuardType P.depth t) (match op, aeq P 8 t xs ys with
    | .eql, some b => some (true, AV.x (.bool b))
    | .neq, some b => some (true, .x (.bool !b))
    | _, _ => none) none = some (c, x)) (hu : rel E (.agg xs) u) (hv : rel E (.agg ys) v) :
    ∃ r w', (do eqGuard op t y z u v; binOp op t u v : Sem Value).run P w = .ok r w' ∧ Dr w w' ∧ rel E x r := by
  cases hk : (isAggT P t && !P.eqGuardType P.depth t)
  · rw [hk] at hx; cases hx
  · rw [hk] at hx
    simp only [cond_true] at hx
    simp only [Bool.and_eq_true, Bool.not_eq_true'] at hk
    obtain ⟨hagg, hg⟩ := hk
    obtain ⟨us, rfl, hru⟩ := rel_agg.1 hu
    obtain ⟨vs, rfl, hrv⟩ := rel_agg.1 hv
    have hgr := run_eqGuard_agg (P := P) w op t y z us vs hg
    have main : ∀ b, aeq P 8 t xs ys = some b → (Op.equalIn 10000 t (.agg us) (.agg vs)).run P w = .ok b w := fun b hb =>
      aeq_good 8 10000 (by decide) t _ _ _ _ b _ _ hb hru hrv (isVal_agg hagg) (isVal_agg hagg)
    split at hx
    · rename_i b hb
      simp only [Option.some.injEq, Prod.mk.injEq] at hx
      obtain ⟨_, rfl⟩ := hx
      refine ⟨.bool b, w, ?_, Or.inl rfl, rel_x.2 rfl⟩
      simp only [Sem.run_bind, hgr, Result.andThen_ok, run_eql_struct, main b hb]
    · rename_i b hb
      simp only [Option.some.injEq, Prod.mk.injEq] at hx
      obtain ⟨_, rfl⟩ := hx
      refine ⟨.bool (!b), w, ?_, Or.inl rfl, rel_x.2 rfl⟩
      simp only [Sem.run_bind, hgr, Result.andThen_ok, run_neq_struct, main b hb]
    · cases hx
theorem adiv_good {op : BinOp} {t : TypeId} {u v : Value} {x : AV} (h : adiv op u v = some (true, x)) : ∃ r, (binOp op t u v).run P w = .ok r w ∧ x = canR r := by
  unfold adiv at h
  split at h
  rotate_left
  · rename_i a b
    split at h
    · simp only [Option.some.injEq, Prod.mk.injEq] at h
      obtain ⟨hb, rfl⟩ := h
      rw [catF_eq] at hb
      have hb := of_decide_eq_true hb
      refine ⟨.string (a ++ b), ?_, rfl⟩
      have hb' : ¬ (((a.size + b.size : Nat) : Int) > IntKind.i64.max) := by omega
      simp only [binOp, Op.stringOp, hb', if_false, Sem.run_pure]
    · cases h
  rotate_left
  · rename_i a b
    split at h
    all_goals first | (cases h; done) | skip
    all_goals
      simp only [Option.some.injEq, Prod.mk.injEq] at h
      obtain ⟨hb, rfl⟩ := h
      have hb0 : b ≠ 0 := by
        intro e
        subst e
        cases hb
      first
        | exact ⟨.int .i64 (a.tmod b), by simp [binOp, Op.intDiv, hb0], rfl⟩
        | exact ⟨.int .i64 (IntKind.i64.wrap (a.tdiv b)), by simp [binOp, Op.intDiv, hb0], rfl⟩
  · cases h
end
end
end Go.Gv

namespace Go.Gv
open Go.RowKit Go.Ev
noncomputable section

section
variable {P : Program} {w : World}
theorem abin_good {E : Env} {op : BinOp} {t : TypeId} {y z : Operand} {x a b : AV} {u v : Value} (hx : abin P op t a b = some (true, x)) (hu : rel E a u) (hv : rel E b v) :
    ∃ r w', (do eqGuard op t y z u v; binOp op t u v : Sem Value).run P w = .ok r w' ∧ Dr w w' ∧ rel E x r := by
  unfold abin at hx
  split at hx
  · rename_i p q
    cases hf : fbin op p q with
    | none => rw [hf] at hx; cases hx
    | some r0 =>
      rw [hf] at hx
      simp only [Option.map_some, Option.some.injEq, Prod.mk.injEq, true_and] at hx
      subst hx
      obtain ⟨r, w', h1, h2, h3⟩ := fbin_good (P := P) (w := w) (t := t) hf hu hv
      obtain ⟨p', rfl, _⟩ := rel_f.1 hu
      have hg : (eqGuard op t y z (.float .f64 p') v).run P w = .ok () w := eqGuard_plain rfl
      refine ⟨r, w', ?_, dr_of h2, h3⟩
      simp only [Sem.run_bind, hg, Result.andThen_ok, h1]
  · rename_i p q p2 q2
    cases hf : cbin op p q p2 q2 with
    | none => rw [hf] at hx; cases hx
    | some r0 =>
      rw [hf] at hx
      simp only [Option.map_some, Option.some.injEq, Prod.mk.injEq, true_and] at hx
      subst hx
      obtain ⟨r, w', h1, h2, h3⟩ := cbin_good (P := P) (w := w) (t := t) hf hu hv
      have hu' := hu
      unfold rel at hu'
      rw [relA] at hu'
      obtain ⟨p', q', rfl, _⟩ := hu'
      have hg : (eqGuard op t y z (.complex .f64 p' q') v).run P w = .ok () w := eqGuard_plain rfl
      refine ⟨r, w', ?_, h2, h3⟩
      simp only [Sem.run_bind, hg, Result.andThen_ok, h1]
  · exact agg_bin_good hx hu hv
  · rename_i a' b'
    have e1 := rel_x.1 hu
    have e2 := rel_x.1 hv
    subst e1 e2
    cases hc : (isPlain u && isPlain v)
    · rw [hc] at hx; cases hx
    · rw [hc] at hx
      simp only [cond_true] at hx
      simp only [Bool.and_eq_true] at hc
      have hg : (eqGuard op t y z u v).run P w = .ok () w := eqGuard_plain (by cases u <;> first | rfl | simp [isPlain] at hc)
      cases hd : adiv op u v with
      | some r0 =>
        rw [hd] at hx
        simp only [Option.some.injEq] at hx
        subst hx
        obtain ⟨r, h1, h2⟩ := adiv_good (P := P) (w := w) (t := t) hd
        refine ⟨r, w, ?_, Or.inl rfl, by rw [h2]; exact rel_canR E r⟩
        simp only [Sem.run_bind, hg, Result.andThen_ok, h1]
      | none =>
        rw [hd] at hx
        simp only at hx
        cases hp : pureOf P (binOp op t u v) with
        | none => rw [hp] at hx; cases hx
        | some r =>
          rw [hp] at hx
          simp only [Option.map_some, Option.some.injEq, Prod.mk.injEq, true_and] at hx
          refine ⟨r, w, ?_, Or.inl rfl, by rw [← hx]; exact rel_canR E r⟩
          simp only [Sem.run_bind, hg, Result.andThen_ok, run_of_pureOf w hp]
  · cases hx
theorem nilRes_good {E : Env} {op : BinOp} {t : TypeId} {b : Bool} {x : AV} {u v : Value} (h : nilRes op b = some x) (he : (Op.equal t u v).run P w = .ok b w) (hb1 : binOp .eql t u v = (do pure (.bool (← Op.equal t u v)))) (hb2 : binOp .neq t u v = (do pure (.bool (!(← Op.equal t u v))))) :
    ∃ r, (binOp op t u v).run P w = .ok r w ∧ rel E x r := by
  cases op <;> simp only [nilRes] at h <;> first | (cases h; done) | skip
  · cases h; refine ⟨_, ?_, rel_x.2 rfl⟩; rw [hb1]; simp only [Sem.run_bind, he, Result.andThen_ok, Sem.run_pure]
  · cases h; refine ⟨_, ?_, rel_x.2 rfl⟩; rw [hb2]; simp only [Sem.run_bind, he, Result.andThen_ok, Sem.run_pure]
theorem abinO_good {E : Env} {op : BinOp} {t : TypeId} {y z : Operand} {x a b : AV} {u v : Value} (hx : abinO P op t y z a b = some (true, x)) (hu : rel E a u) (hv : rel E b v) :
    ∃ r w', (do eqGuard op t y z u v; binOp op t u v : Sem Value).run P w = .ok r w' ∧ Dr w w' ∧ rel E x r := by
  unfold abinO at hx
  split at hx
  · have hu' := rel_x.1 hu
    have hv' := rel_x.1 hv
    subst hu' hv'
    cases hc : ((isConst y || isConst z) && isIfaceT P t)
    · rw [hc] at hx; cases hx
    · rw [hc] at hx
      simp only [cond_true] at hx
      simp only [Bool.and_eq_true] at hc
      cases hn : nilRes op true with
      | none => rw [hn] at hx; cases hx
      | some r0 =>
        rw [hn] at hx
        simp only [Option.map_some, Option.some.injEq, Prod.mk.injEq, true_and] at hx
        subst hx
        obtain ⟨ms, hms⟩ := isIfaceT_spec hc.2
        have he : (Op.equal t .nilIface .nilIface).run P w = .ok true w := by
          obtain ⟨k, hk⟩ : ∃ k, Op.maxDepth = k + 1 := ⟨Op.maxDepth - 1, rfl⟩
          unfold Op.equal
          rw [hk]
          simp only [Op.equalIn, Sem.run_bind, run_underlying hms, Result.andThen_ok, Sem.run_pure]
        obtain ⟨r, h1, h2⟩ := nilRes_good (E := E) hn he rfl rfl
        refine ⟨r, w, ?_, Or.inl rfl, h2⟩
        have hg : (eqGuard op t y z .nilIface .nilIface).run P w = .ok () w := by
          have hc1 := hc.1
          cases y <;> cases z <;> first | (cases hc1; done) | (cases op <;> rfl)
        simp only [Sem.run_bind, hg, Result.andThen_ok, h1]
  · rename_i t' v'
    obtain ⟨u', rfl, _⟩ := rel_ifc.1 hu
    have hv' := rel_x.1 hv
    subst hv'
    cases hc : isIfaceT P t
    · rw [hc] at hx; cases hx
    · rw [hc] at hx
      simp only [cond_true] at hx
      cases hn : nilRes op false with
      | none => rw [hn] at hx; cases hx
      | some r0 =>
        rw [hn] at hx
        simp only [Option.map_some, Option.some.injEq, Prod.mk.injEq, true_and] at hx
        subst hx
        obtain ⟨ms, hms⟩ := isIfaceT_spec hc
        have he : (Op.equal t (.iface t' u') .nilIface).run P w = .ok false w := by
          obtain ⟨k, hk⟩ : ∃ k, Op.maxDepth = k + 1 := ⟨Op.maxDepth - 1, rfl⟩
          unfold Op.equal
          rw [hk]
          simp only [Op.equalIn, Sem.run_bind, run_underlying hms, Result.andThen_ok, Sem.run_pure]
        obtain ⟨r, h1, h2⟩ := nilRes_good (E := E) hn he rfl rfl
        refine ⟨r, w, ?_, Or.inl rfl, h2⟩
        have hg : (eqGuard op t y z (.iface t' u') .nilIface).run P w = .ok () w := by
          cases op <;> rfl
        simp only [Sem.run_bind, hg, Result.andThen_ok, h1]
  · rename_i sz n el
    have hv' := rel_x.1 hv
    subst hv'
    cases hc : isSliceT P t
    · rw [hc] at hx; cases hx
    · rw [hc] at hx
      simp only [cond_true] at hx
      cases hn : nilRes op false with
      | none => rw [hn] at hx; cases hx
      | some r0 =>
        rw [hn] at hx
        simp only [Option.map_some, Option.some.injEq, Prod.mk.injEq] at hx
        obtain ⟨hn0, rfl⟩ := hx
        have hn0 : 0 < n := Nat.le_of_ble_eq_true hn0
        obtain ⟨ad, c, rfl, hnc, hcs⟩ := rel_sl.1 hu
        obtain ⟨b0, o0, cs0, e0, fz0, rfl, _⟩ := hcs.resolve_left (by omega)
        obtain ⟨el0, hel0⟩ : ∃ e, P.underlying t = some (.slice e) := by
          unfold isSliceT at hc
          split at hc
          · rename_i e he; exact ⟨e, he⟩
          · cases hc
        have he : (Op.equal t (.slice (some ⟨b0, o0, none⟩) n c) (.slice none 0 0)).run P w = .ok false w := by
          obtain ⟨k, hk⟩ : ∃ k, Op.maxDepth = k + 1 := ⟨Op.maxDepth - 1, rfl⟩
          unfold Op.equal
          rw [hk]
          simp only [Op.equalIn, Sem.run_bind, run_underlying hel0, Result.andThen_ok, Sem.run_pure]
        obtain ⟨r, h1, h2⟩ := nilRes_good (E := E) hn he rfl rfl
        refine ⟨r, w, ?_, Or.inl rfl, h2⟩
        have hg : (eqGuard op t y z (.slice (some ⟨b0, o0, none⟩) n c) (.slice none 0 0)).run P w = .ok () w := by
          cases op <;> rfl
        simp only [Sem.run_bind, hg, Result.andThen_ok, h1]
  · rename_i k off
    have hv' := rel_x.1 hv
    subst hv'
    obtain ⟨b0, c0, _, rfl⟩ := rel_own.1 hu
    cases hc : isPtrT P t
    · rw [hc] at hx; cases hx
    · rw [hc] at hx
      simp only [cond_true] at hx
      cases hn : nilRes op false with
      | none => rw [hn] at hx; cases hx
      | some r0 =>
        rw [hn] at hx
        simp only [Option.map_some, Option.some.injEq, Prod.mk.injEq, true_and] at hx
        subst hx
        obtain ⟨el0, hel0⟩ : ∃ e, P.underlying t = some (.pointer e) := by
          unfold isPtrT at hc
          split at hc
          · rename_i e he; exact ⟨e, he⟩
          · cases hc
        have he : (Op.equal t (.pointer (some ⟨b0, off, none⟩)) (.pointer none)).run P w = .ok false w := by
          obtain ⟨k, hk⟩ : ∃ k, Op.maxDepth = k + 1 := ⟨Op.maxDepth - 1, rfl⟩
          unfold Op.equal
          rw [hk]
          simp only [Op.equalIn, Sem.run_bind, run_underlying hel0, Result.andThen_ok, Sem.run_pure]
        obtain ⟨r, h1, h2⟩ := nilRes_good (E := E) hn he rfl rfl
        refine ⟨r, w, ?_, Or.inl rfl, h2⟩
        have hg : (eqGuard op t y z (.pointer (some ⟨b0, off, none⟩)) (.pointer none)).run P w = .ok () w := by
          cases op <;> rfl
        simp only [Sem.run_bind, hg, Result.andThen_ok, h1]
  · rename_i l off
    have hv' := rel_x.1 hv
    subst hv'
    obtain ⟨b0, o0, _, _, _, rfl, _⟩ := rel_ref.1 hu
    cases hc : isPtrT P t
    · rw [hc] at hx; cases hx
    · rw [hc] at hx
      simp only [cond_true] at hx
      cases hn : nilRes op false with
      | none => rw [hn] at hx; cases hx
      | some r0 =>
        rw [hn] at hx
        simp only [Option.map_some, Option.some.injEq, Prod.mk.injEq, true_and] at hx
        subst hx
        obtain ⟨el0, hel0⟩ : ∃ e, P.underlying t = some (.pointer e) := by
          unfold isPtrT at hc
          split at hc
          · rename_i e he; exact ⟨e, he⟩
          · cases hc
        have he : (Op.equal t (.pointer (some ⟨b0, o0 + off, none⟩)) (.pointer none)).run P w = .ok false w := by
          obtain ⟨k, hk⟩ : ∃ k, Op.maxDepth = k + 1 := ⟨Op.maxDepth - 1, rfl⟩
          unfold Op.equal
          rw [hk]
          simp only [Op.equalIn, Sem.run_bind, run_underlying hel0, Result.andThen_ok, Sem.run_pure]
        obtain ⟨r, h1, h2⟩ := nilRes_good (E := E) hn he rfl rfl
        refine ⟨r, w, ?_, Or.inl rfl, h2⟩
        have hg : (eqGuard op t y z (.pointer (some ⟨b0, o0 + off, none⟩)) (.pointer none)).run P w = .ok () w := by
          cases op <;> rfl
        simp only [Sem.run_bind, hg, Result.andThen_ok, h1]
  · rename_i ad n0 c0
    have hu' := rel_x.1 hu
    have hv' := rel_x.1 hv
    subst hu' hv'
    cases hc : isSliceT P t
    · rw [hc] at hx; cases hx
    · rw [hc] at hx
      simp only [cond_true] at hx
      cases hn : nilRes op ad.isNone with
      | none => rw [hn] at hx; cases hx
      | some r0 =>
        rw [hn] at hx
        simp only [Option.map_some, Option.some.injEq, Prod.mk.injEq, true_and] at hx
        subst hx
        obtain ⟨el0, hel0⟩ : ∃ e, P.underlying t = some (.slice e) := by
          unfold isSliceT at hc
          split at hc
          · rename_i e he; exact ⟨e, he⟩
          · cases hc
        have he : (Op.equal t (.slice ad n0 c0) (.slice none 0 0)).run P w = .ok ad.isNone w := by
          obtain ⟨k, hk⟩ : ∃ k, Op.maxDepth = k + 1 := ⟨Op.maxDepth - 1, rfl⟩
          unfold Op.equal
          rw [hk]
          cases ad <;> simp only [Op.equalIn, Sem.run_bind, run_underlying hel0, Result.andThen_ok, Sem.run_pure, Option.isNone_none, Option.isNone_some]
        obtain ⟨r, h1, h2⟩ := nilRes_good (E := E) hn he rfl rfl
        refine ⟨r, w, ?_, Or.inl rfl, h2⟩
        have hg : (eqGuard op t y z (.slice ad n0 c0) (.slice none 0 0)).run P w = .ok () w := by
          cases op <;> rfl
        simp only [Sem.run_bind, hg, Result.andThen_ok, h1]
  · exact abin_good hx hu hv
theorem assert_good {E : Env} {xt asserted : TypeId} {ok : Bool} {x a : AV} {u : Value} (hx : aassert P a asserted ok = some x) (hu : rel E a u) : ∃ r, (Instr.typeAssert u xt asserted ok).run P w = .ok r w ∧ rel E x r := by
  unfold aassert at hx
  split at hx
  · rename_i t v
    obtain ⟨u', rfl, hc⟩ := rel_ifc.1 hu
    split at hx
    · rename_i want hun
      split at hx
      · rename_i inf hinf
        cases hl : lacks want inf.methods
        · rw [hl] at hx
          simp only [cond_false] at hx
          have hm := missing_none hl
          cases ok
          · cases hx
            refine ⟨.iface t u', ?_, rel_ifc.2 ⟨u', rfl, hc⟩⟩
            simp [Instr.typeAssert, run_underlying hun, typeInfo, hinf, hm]
          · cases hx
            refine ⟨.tuple #[.iface t u', .bool true], ?_, rel_tup.2 ⟨_, rfl, rels_cons.2 ⟨_, _, rfl, rel_ifc.2 ⟨u', rfl, hc⟩, rels_cons.2 ⟨_, _, rfl, rel_x.2 rfl, rels_nil.2 rfl⟩⟩⟩⟩
            simp [Instr.typeAssert, run_underlying hun, typeInfo, hinf, hm]
        · rw [hl] at hx
          simp only [cond_true] at hx
          obtain ⟨m, hm⟩ := missing_some hl
          cases ok
          · cases hx
          · simp only [cond_true] at hx
            split at hx
            · rename_i hz
              cases hx
              refine ⟨.tuple #[.nilIface, .bool false], ?_, rel_tup.2 ⟨_, rfl, rels_cons.2 ⟨_, _, rfl, rel_x.2 rfl, rels_cons.2 ⟨_, _, rfl, rel_x.2 rfl, rels_nil.2 rfl⟩⟩⟩⟩
              simp [Instr.typeAssert, run_underlying hun, typeInfo, hinf, hm, run_of_pureOf w hz]
            · cases hx
      · cases hx
    · cases hx
  · cases hx
theorem aun_good {E : Env} {op : UnOp} {x a : AV} {u : Value} (hx : aun P op a = some x) (hu : rel E a u) : ∃ r, (Op.unary op u).run P w = .ok r w ∧ rel E x r := by
  unfold aun at hx
  split at hx
  · cases hx
    obtain ⟨p, rfl, rfl⟩ := rel_f.1 hu
    exact ⟨_, rfl, rel_f.2 ⟨_, rfl, fneg_cn p⟩⟩
  · rename_i u' _
    have e1 := rel_x.1 hu
    subst e1
    cases h1 : isPlain u
    · rw [h1] at hx; cases hx
    · rw [h1] at hx
      simp only [cond_true] at hx
      cases hp : pureOf P (Op.unary op u) with
      | none => rw [hp] at hx; cases hx
      | some r =>
        rw [hp] at hx
        simp only [Option.map_some, Option.some.injEq] at hx
        exact ⟨r, run_of_pureOf w hp, by rw [← hx]; exact rel_canR E r⟩
  · cases hx
def zrel (E : Env) : List (AV × Nat) → List (Value × Nat) → Prop
  | [], [] => True
  | x :: xs, v :: vs => (rel E x.1 v.1 ∧ x.2 = v.2) ∧ zrel E xs vs
  | _, _ => False
theorem zrel_zipIdx {E : Env} : ∀ {xs : List AV} {vs : List Value} (n : Nat), rels E xs vs → zrel E (xs.zipIdx n) (vs.zipIdx n)
  | [], vs, _, h => by rw [rels_nil.1 h]; trivial
  | x :: xs, vs, n, h => by
    obtain ⟨u, us, rfl, h1, h2⟩ := rels_cons.1 h
    exact ⟨⟨h1, rfl⟩, zrel_zipIdx (n + 1) h2⟩
theorem fold_rel {E : Env} (off : Nat) : ∀ {l : List (AV × Nat)} {l' : List (Value × Nat)} {xs : List AV} {vs : Array Value}, zrel E l l' → rels E xs vs.toList →
    rels E (l.foldl (fun cs (p : AV × Nat) => cs.set (off + p.2) p.1) xs) (l'.foldl (fun cs (p : Value × Nat) => cs.setIfInBounds (off + p.2) p.1) vs).toList
  | [], [], _, _, _, h => h
  | x :: l, v :: l', xs, vs, hz, h => by
    simp only [List.foldl_cons]
    refine fold_rel off hz.2 ?_
    simp only [Array.toList_setIfInBounds, hz.1.2]
    exact rels_set _ h hz.1.1
  | [], _ :: _, _, _, hz, _ => hz.elim
  | _ :: _, [], _, _, hz, _ => hz.elim
def prel (E : Env) : List (Nat × AV) → List (Nat × Value) → Prop
  | [], [] => True
  | x :: xs, v :: vs => (x.1 = v.1 ∧ rel E x.2 v.2) ∧ prel E xs vs
  | _, _ => False
theorem fill_rel {E : Env} (place : Nat → Option (Nat × Nat)) : ∀ {ps : List (Nat × AV)} {qs : List (Nat × Value)} {xs rs : List AV} {vs : Array Value}, prel E ps qs → rels E xs vs.toList →
    fillA place xs ps = some rs → ∃ rs', Instr.fill place vs qs = some rs' ∧ rels E rs rs'.toList
  | [], [], xs, rs, vs, _, h, e => by
    simp only [fillA, Option.some.injEq] at e; subst e; exact ⟨vs, by simp [Instr.fill], h⟩
  | (i, x) :: ps, (j, v) :: qs, xs, rs, vs, hp, h, e => by
    obtain ⟨⟨hi, hc⟩, hp'⟩ := hp
    simp only at hi hc
    subst hi
    unfold fillA at e
    unfold Instr.fill
    cases hpl : place i with
    | none => simp [hpl] at e
    | some p =>
      obtain ⟨off, size⟩ := p
      simp only [hpl] at e ⊢
      cases hk : (okPart x && ((x.cells.length == size) && Nat.ble (off + size) xs.length))
      · rw [hk] at e; cases e
      · rw [hk] at e
        simp only [cond_true] at e
        simp only [Bool.and_eq_true, beq_iff_eq] at hk
        obtain ⟨hok, hsz, hle⟩ := hk
        have hle' := Nat.le_of_ble_eq_true hle
        have hcr := cells_rel hc hok
        have hl : x.cells.length = v.cells.size := by have := rels_length hcr; simpa using this
        have hl2 : xs.length = vs.size := by have := rels_length h; simpa using this
        rw [if_neg (by simp; omega)]
        refine fill_rel place hp' ?_ e
        have := fold_rel off (zrel_zipIdx 0 hcr) h
        rw [← Array.foldl_toList, Array.toList_zipIdx]
        exact this
  | [], _ :: _, _, _, _, hp, _, _ => hp.elim
  | _ :: _, [], _, _, _, hp, _, _ => hp.elim
theorem prel_of {E : Env} {s : St} {ρ : Operand → Value} : ∀ {ps : List (Nat × Operand)}, (∀ y, y ∈ ps.map (·.2) → rel E (aeval s y) (ρ y)) → prel E (ps.map fun p => (p.1, aeval s p.2)) (ps.map fun p => (p.1, ρ p.2))
  | [], _ => trivial
  | p :: ps, h => ⟨⟨rfl, h p.2 (by simp)⟩, prel_of (fun y hy => h y (by simp at hy ⊢; exact Or.inr hy))⟩
theorem abuild_good {E : Env} {t : TypeId} {s : St} {ρ : Operand → Value} {ps : Array (Nat × Operand)} {x : AV} (hρ : ∀ y, y ∈ ps.toList.map (·.2) → rel E (aeval s y) (ρ y))
    (hx : abuild P t (ps.toList.map fun p => (p.1, aeval s p.2)) = some x) :
    ∃ r, (Instr.build t (ps.map fun (i, y) => (i, ρ y))).run P w = .ok r w ∧ rel E x r := by
  unfold abuild at hx
  cases hz : pureOf P (zeroValue t) with
  | none => simp [hz] at hx
  | some z =>
    simp only [hz] at hx
    have hzr : rels E (z.cells.toList.map canA) z.cells.toList := rels_canA E _
    have hpr : prel E (ps.toList.map fun p => (p.1, aeval s p.2)) (ps.toList.map fun p => (p.1, ρ p.2)) := prel_of hρ
    have hps : (ps.map fun (i, y) => (i, ρ y)).toList = ps.toList.map fun p => (p.1, ρ p.2) := by simp
    have hzrun := run_of_pureOf w hz
    cases hu : P.underlying t with
    | none => simp [hu] at hx
    | some d =>
      cases d <;> simp only [hu] at hx <;> first | (cases hx; done) | skip
      case struct fields =>
        split at hx
        · rename_i places hpl
          cases hf : fillA (places[·]?) (z.cells.toList.map canA) (ps.toList.map fun p => (p.1, aeval s p.2)) with
          | none => simp [hf] at hx
          | some rs =>
            simp only [hf, Option.map_some, Option.some.injEq] at hx
            subst hx
            obtain ⟨rs', h1, h2⟩ := fill_rel _ hpr hzr hf
            refine ⟨.agg rs', ?_, rel_agg.2 ⟨rs', rfl, h2⟩⟩
            have hplrun := run_of_pureOf w hpl
            simp only [Instr.build, Sem.run_bind, hzrun, Result.andThen_ok, run_underlying hu, hplrun, hps, h1, Sem.run_pure]
        · cases hx
      case array n elem =>
        split at hx
        · rename_i size hsz
          cases hf : fillA (fun i => some (i * size, size)) (z.cells.toList.map canA) (ps.toList.map fun p => (p.1, aeval s p.2)) with
          | none => simp [hf] at hx
          | some rs =>
            simp only [hf, Option.map_some, Option.some.injEq] at hx
            subst hx
            obtain ⟨rs', h1, h2⟩ := fill_rel _ hpr hzr hf
            refine ⟨.agg rs', ?_, rel_agg.2 ⟨rs', rfl, h2⟩⟩
            have hszrun := run_of_pureOf w hsz
            simp only [Instr.build, Sem.run_bind, hzrun, Result.andThen_ok, run_underlying hu, hszrun, hps, h1, Sem.run_pure]
        · cases hx
theorem extract_good {E : Env} {xs : List AV} {i : Nat} {x : AV} {u : Value} (hx : xs[i]? = some x) (hu : rel E (.tup xs) u) : ∃ r, (Instr.extract u i).run P w = .ok r w ∧ rel E x r := by
  obtain ⟨vs, rfl, hr⟩ := rel_tup.1 hu
  obtain ⟨v, h1, h2⟩ := rels_get hr hx
  refine ⟨v, ?_, h2⟩
  have h1' : vs[i]? = some v := by simpa using h1
  simp [Instr.extract, h1']
end

theorem rels_of {E : Env} {s : St} {ρ : Operand → Value} : ∀ {ys : List Operand}, (∀ y, y ∈ ys → rel E (aeval s y) (ρ y)) → rels E (ys.map (aeval s)) (ys.map ρ)
  | [], _ => rels_nil.2 rfl
  | y :: ys, h => rels_cons.2 ⟨_, _, rfl, h y (by simp), rels_of (fun z hz => h z (by simp [hz]))⟩
theorem map_pair {α : Type} {o : Option α} {b : Bool} {x : α} (h : o.map (fun y => (true, y)) = some (b, x)) : o = some x ∧ b = true := by
  cases o with
  | none => cases h
  | some y => simp only [Option.map_some, Option.some.injEq, Prod.mk.injEq] at h; exact ⟨by rw [h.2], h.1.symm⟩

/-- **ONE OPERATION THAT WRITES NOTHING OF OURS.** -/
theorem rel_fn {E : Env} {g : Fn} {a b : List AV} {u : Value} : rel E (.fn g a b) u ↔ ∃ va vb, u = .func g va vb ∧ rels E a va.toList ∧ rels E b vb.toList := by unfold rel; first | (rw [relA]; done) | (rw [relA]; exact Iff.rfl)
theorem aval_good {P : Program} {T : Tab} {E : Env} {s : St} {ρ : Operand → Value} {o : Oper} {x : AV} (hT : TOk0 P T) (hm : MemRel E s.mem) (hA : ∀ b, E.A b → b < E.w.heap.size) (hg : glob E) (_hf : ∀ f, ρ (.func f) = .func (.func f) #[] #[])
    (hρ : ∀ y, y ∈ o.op.operands.toList → rel E (aeval s y) (ρ y)) (h : aval P T s o = some (true, x)) : Good P E x ((execOp ρ o).run P E.w) := by
  obtain ⟨dst, op, type, pos, after, guard⟩ := o
  cases op <;> simp only [aval] at h <;> first | (cases h; done) | skip
  case move y => cases h; exact ⟨hρ y (by simp [Op.operands]), Or.inl rfl⟩
  case assign y => cases h; exact ⟨hρ y (by simp [Op.operands]), Or.inl rfl⟩
  case load t y =>
    split at h
    · rename_i b l off ha
      cases hl : aload P t l off with
      | none => rw [hl] at h; cases h
      | some z =>
        rw [hl] at h
        simp only [Option.map_some, Option.some.injEq, Prod.mk.injEq] at h
        obtain ⟨rfl, rfl⟩ := h
        obtain ⟨u, h1, h2⟩ := load_good (P := P) hm ha hl (hρ y (by simp [Op.operands]))
        simp only [execOp, Sem.run_bind, h1, Result.andThen_ok, Sem.run_pure]
        exact ⟨h2, Or.inl rfl⟩
    · cases h
  case fieldAddr t y f =>
    obtain ⟨h, _⟩ := map_pair h
    obtain ⟨u, h1, h2⟩ := field_good (P := P) (w := E.w) h (hρ y (by simp [Op.operands]))
    simp only [execOp, Sem.run_bind, h1, Result.andThen_ok, Sem.run_pure]
    exact ⟨h2, Or.inl rfl⟩
  case nilCheck y =>
    cases hp : padd (aeval s y) 0 with
    | none => rw [hp] at h; cases h
    | some z =>
      rw [hp] at h
      simp only [Option.map_some, Option.some.injEq, Prod.mk.injEq, true_and] at h
      subst h
      have hv := hρ y (by simp [Op.operands])
      obtain ⟨b, o, hve, _⟩ := padd_good hv hp
      rw [hve] at hv
      simp only [execOp, hve, Sem.run_pure]
      exact ⟨hv, Or.inl rfl⟩
  case indexAddr t y z =>
    obtain ⟨r, h1, h2⟩ := index_good (P := P) (w := E.w) h (hρ y (by simp [Op.operands])) (hρ z (by simp [Op.operands]))
    simp only [execOp, Sem.run_bind, h1, Result.andThen_ok, Sem.run_pure]
    exact ⟨h2, Or.inl rfl⟩
  case index t y z =>
    obtain ⟨r, h1, h2⟩ := idx_good (P := P) (w := E.w) h (hρ y (by simp [Op.operands])) (hρ z (by simp [Op.operands]))
    simp only [execOp, Sem.run_bind, h1, Result.andThen_ok, Sem.run_pure]
    exact ⟨h2, Or.inl rfl⟩
  case field t y f =>
    obtain ⟨h, _⟩ := map_pair h
    obtain ⟨r, h1, h2⟩ := pickf_good (P := P) (w := E.w) h (hρ y (by simp [Op.operands]))
    simp only [execOp, Sem.run_bind, h1, Result.andThen_ok, Sem.run_pure]
    exact ⟨h2, Or.inl rfl⟩
  case binOp op t y z t2 =>
    obtain ⟨r, w', h1, h2, h3⟩ := abinO_good (P := P) (w := E.w) (y := y) (z := z) h (hρ y (by simp [Op.operands])) (hρ z (by simp [Op.operands]))
    simp only [execOp, Sem.run_bind] at h1 ⊢
    rw [h1]
    exact ⟨h3, h2⟩
  case makeInterface t y =>
    split at h
    · rename_i d hun
      cases hc : (!isIfaceD d)
      · rw [hc] at h; cases h
      · rw [hc] at h
        cases h
        have hv := hρ y (by simp [Op.operands])
        refine (?_ : Good P E _ ((execOp ρ _).run P E.w))
        have hr : (Instr.makeInterface t (ρ y)).run P E.w = .ok (.iface t (ρ y)) E.w := by
          unfold Instr.makeInterface
          rw [Sem.run_bind, run_underlying hun E.w]
          cases d <;> first | rfl | (simp [isIfaceD] at hc)
        simp only [execOp, Sem.run_bind, hr, Result.andThen_ok, Sem.run_pure]
        exact ⟨rel_ifc.2 ⟨ρ y, rfl, hv⟩, Or.inl rfl⟩
    · cases h
  case typeAssert y xt asserted ok =>
    obtain ⟨h, _⟩ := map_pair h
    obtain ⟨r, h1, h2⟩ := assert_good (P := P) (w := E.w) (xt := xt) h (hρ y (by simp [Op.operands]))
    simp only [execOp, Sem.run_bind, h1, Result.andThen_ok, Sem.run_pure]
    exact ⟨h2, Or.inl rfl⟩
  case unOp op t y =>
    obtain ⟨h, _⟩ := map_pair h
    obtain ⟨r, h1, h2⟩ := aun_good (P := P) (w := E.w) h (hρ y (by simp [Op.operands]))
    simp only [execOp, Sem.run_bind, h1, Result.andThen_ok, Sem.run_pure]
    exact ⟨h2, Or.inl rfl⟩
  case convert src dst y =>
    split at h
    · rename_i u hu
      cases h1 : isPlain u
      · rw [h1] at h; cases h
      · rw [h1] at h
        simp only [cond_true] at h
        have hv := hρ y (by simp [Op.operands])
        rw [hu] at hv
        have e1 := rel_x.1 hv
        cases hp : pureOf P (convert src dst u) with
        | none => rw [hp] at h; cases h
        | some r =>
          rw [hp] at h
          simp only [Option.map_some, Option.some.injEq, Prod.mk.injEq, true_and] at h
          simp only [execOp, e1, Sem.run_bind, run_of_pureOf E.w hp, Result.andThen_ok, Sem.run_pure]
          exact ⟨by rw [← h]; exact rel_canR E r, Or.inl rfl⟩
    · obtain ⟨r, h1, h2⟩ := str_good (P := P) hm h (hρ y (by simp [Op.operands]))
      simp only [execOp, Sem.run_bind, h1, Result.andThen_ok, Sem.run_pure]
      exact ⟨h2, Or.inl rfl⟩
  case slice t y lo hi mx =>
    obtain ⟨r, h1, h2⟩ := slice_good (P := P) (ρ := ρ) h (hρ y (by simp [Op.operands])) (fun z hz => hρ z (by simp [Op.operands, hz])) (fun z hz => hρ z (by simp [Op.operands, hz])) (fun z hz => hρ z (by simp [Op.operands, hz]))
    simp only [execOp, Sem.run_bind, h1, Result.andThen_ok, Sem.run_pure]
    exact ⟨h2, Or.inl rfl⟩
  case build t ps =>
    obtain ⟨h, _⟩ := map_pair h
    obtain ⟨r, h1, h2⟩ := abuild_good (P := P) (w := E.w) (s := s) (ρ := ρ) (fun y hy => hρ y (by simpa [Op.operands] using hy)) h
    simp only [execOp, Sem.run_bind, h1, Result.andThen_ok, Sem.run_pure]
    exact ⟨h2, Or.inl rfl⟩
  case extract y i =>
    split at h
    · rename_i vs ha
      obtain ⟨h, _⟩ := map_pair h
      obtain ⟨r, h1, h2⟩ := extract_good (P := P) (w := E.w) h (by rw [← ha]; exact hρ y (by simp [Op.operands]))
      simp only [execOp, Sem.run_bind, h1, Result.andThen_ok, Sem.run_pure]
      exact ⟨h2, Or.inl rfl⟩
    · cases h
  case call c =>
    obtain ⟨callee, args, argTypes⟩ := c
    have main : ∀ (_ : (match acallee P s ⟨callee, args, argTypes⟩ with
        | some (f, args) => cond (noOwns args) ((T.f f args).map fun y => (true, y)) none
        | none => none) = some (true, x)), Good P E x ((execOp ρ ⟨dst, .call ⟨callee, args, argTypes⟩, type, pos, after, guard⟩).run P E.w) := by
      intro h
      have hargs1 : ∀ (_ : ∀ y, y ∈ args.toList → y ∈ (Op.call ⟨callee, args, argTypes⟩).operands.toList), rels E (args.toList.map (aeval s)) (args.map ρ).toList := fun hsub => by
        have := rels_of (E := E) (s := s) (ρ := ρ) (ys := args.toList) (fun y hy => hρ y (hsub y hy))
        simpa using this
      have hkeep : ∀ b, ¬ E.A b → ∀ ob, E.w.heap[b]? = some ob → ¬ E.A b ∧ E.w.heap[b]? = some ob := fun b h1 ob h2 => ⟨h1, h2⟩
      have fin : ∀ {f : Nat} {as : List AV} {cargs : Array Value}, noOwns as = true → T.f f as = some x → rels E as cargs.toList → (FSpec P f as x ∧ Calls P f cargs E.w fun e w'' => ∃ v, e = .returned v ∧ rel { E with w := w'' } x v ∧ Below E.w.heap.size E.w w'') ∨ XSpec P f as x := by
        intro f as cargs hno hTf hr
        rcases hT.1 f as x hTf with hs | hs
        · left
          refine ⟨hs, ?_⟩
          have hr' : rels ⟨E.w, E.A, fun _ => none⟩ as cargs.toList := rels_noOwn hr hno hkeep
          refine (hs.2 E.A E.w cargs hA hr' (glob_O hg _)).mono fun e w' ⟨v, g1, g2, g3⟩ => ⟨v, g1, ?_, g3⟩
          exact rel_le (E := ⟨w', E.A, fun _ => none⟩) (E' := { E with w := w' }) ⟨fun b h1 ob h2 => ⟨h1, h2⟩, fun k b hb => by cases hb⟩ g2
        · exact Or.inr hs
      cases callee with
      | value fo =>
        obtain ⟨f, hfo, h⟩ : ∃ f, aeval s fo = .fn (.func f) [] [] ∧ cond (noOwns (args.toList.map (aeval s))) ((T.f f (args.toList.map (aeval s))).map fun y => (true, y)) none = some (true, x) := by
          simp only [acallee] at h
          split at h
          · rename_i f as hm
            split at hm
            · rename_i f' hfo
              simp only [Option.some.injEq, Prod.mk.injEq] at hm
              obtain ⟨rfl, rfl⟩ := hm
              exact ⟨_, hfo, h⟩
            · cases hm
          · cases h
        have hfv : ρ fo = .func (.func f) #[] #[] := by
          have h1 := hρ fo (by simp [Op.operands, Call.operands])
          rw [hfo] at h1
          obtain ⟨va, vb, e, h2, h3⟩ := rel_fn.1 h1
          have e1 : va = #[] := Array.toList_eq_nil_iff.1 (rels_nil.1 h2)
          have e2 : vb = #[] := Array.toList_eq_nil_iff.1 (rels_nil.1 h3)
          rw [e, e1, e2]
        cases hno : noOwns (args.toList.map (aeval s))
        · rw [hno] at h; cases h
        · rw [hno] at h
          simp only [cond_true] at h
          obtain ⟨h, _⟩ := map_pair h
          have hr := hargs1 (fun y hy => by simp [Op.operands, Call.operands]; exact Or.inr (by simpa using hy))
          rcases fin hno h hr with ⟨⟨⟨fn, h1, h2, h3⟩, _⟩, hc⟩ | hs
          · simp only [execOp, resolve, hfv, Deferred.ofValue, Sem.run_bind, Sem.run_pure, Result.andThen_ok, invoke, callFunc, run_program, h1, h2, h3, Array.append_empty, Array.empty_append, Bool.false_eq_true, if_false]
            exact ⟨rfl, hc⟩
          · obtain ⟨u, w', h1, h2, h3⟩ := hs E (args.map ρ) hr
            simp only [execOp, resolve, hfv, Deferred.ofValue, Sem.run_bind, Sem.run_pure, Result.andThen_ok, invoke, Array.append_empty, Array.empty_append, h1]
            exact ⟨h3, dr_of h2⟩
      | builtin b => simp [acallee] at h
      | invoke rc name =>
        simp only [acallee] at h
        cases hrc : aeval s rc with
        | ifc t v =>
          rw [hrc] at h
          simp only at h
          cases hmeth : aMethod P t name with
          | none => rw [hmeth] at h; cases h
          | some f =>
            rw [hmeth] at h
            simp only at h
            cases hno : noOwns (v :: args.toList.map (aeval s))
            · rw [hno] at h; cases h
            · rw [hno] at h
              simp only [cond_true] at h
              obtain ⟨h, _⟩ := map_pair h
              have hr := hρ rc (by simp [Op.operands, Call.operands])
              rw [hrc] at hr
              obtain ⟨u', hru, hcr⟩ := rel_ifc.1 hr
              have hargs2 := hargs1 (fun y hy => by simp [Op.operands, Call.operands]; exact Or.inr (by simpa using hy))
              have hargs : rels E (v :: args.toList.map (aeval s)) (#[u'] ++ args.map ρ).toList := by
                rw [Array.toList_append]
                exact rels_cons.2 ⟨u', _, rfl, hcr, hargs2⟩
              have hdep : ∃ k, P.types.size + Made.depth = k + 1 := ⟨P.types.size + (Made.depth - 1), by have : Made.depth = Made.depth - 1 + 1 := rfl; omega⟩
              obtain ⟨k, hk⟩ := hdep
              have hget : (#[Value.iface t u'] ++ Array.map ρ args)[0]? = some (.iface t u') := by
                rw [Array.getElem?_append_left (by simp)]; rfl
              have hext : (#[Value.iface t u'] ++ Array.map ρ args).extract 1 (#[Value.iface t u'] ++ Array.map ρ args).size = Array.map ρ args := by
                apply Array.ext'
                rw [Array.toList_extract, Array.toList_append]
                simp only [List.extract, List.cons_append, List.nil_append, Array.toList_map]
                simp only [Array.size_append, List.size_toArray, List.length_cons, List.length_nil, Array.size_map, List.drop_succ_cons, List.drop_zero, Nat.zero_add, Nat.add_sub_cancel_left]
                exact List.take_of_length_le (by simp)
              rcases fin hno h hargs with ⟨⟨⟨fn, h1, h2, h3⟩, _⟩, hc⟩ | hs
              · have hrun : (execOp ρ ⟨dst, .call ⟨.invoke rc name, args, argTypes⟩, type, pos, after, guard⟩).run P E.w = .ok (.enter f (#[u'] ++ args.map ρ)) E.w := by
                  simp only [execOp, resolve, hru, Sem.run_bind, Sem.run_pure, Result.andThen_ok, invoke, hget, hext, callMethod, run_program, hk, aMethod_good hmeth, callFunc, h1, h2, h3, Bool.false_eq_true, if_false]
                rw [hrun]
                exact ⟨rfl, hc⟩
              · obtain ⟨u, w', h1, h2, h3⟩ := hs E (#[u'] ++ args.map ρ) hargs
                have hrun : (execOp ρ ⟨dst, .call ⟨.invoke rc name, args, argTypes⟩, type, pos, after, guard⟩).run P E.w = .ok (.value u) w' := by
                  simp only [execOp, resolve, hru, Sem.run_bind, Sem.run_pure, Result.andThen_ok, invoke, hget, hext, callMethod, run_program, hk, aMethod_good hmeth, h1]
                rw [hrun]
                exact ⟨h3, dr_of h2⟩
        | _ => rw [hrc] at h; cases h
    split at h
    · rename_i hc
      simp only at hc
      subst hc
      split at h
      · rename_i x0 t hargs hty
        obtain ⟨h, _⟩ := map_pair h
        simp only at hargs hty
        have hav : rels E (args.toList.map (aeval s)) (args.map ρ).toList := by
          have := rels_of (E := E) (s := s) (ρ := ρ) (ys := args.toList) (fun y hy => hρ y (by simp [Op.operands, Call.operands]; simpa using hy))
          simpa using this
        rw [hargs] at hav
        obtain ⟨v, vs', hvs, hv, hnil⟩ := rels_cons.1 hav
        rw [rels_nil.1 hnil] at hvs
        have hmap : args.map ρ = #[v] := by apply Array.ext'; exact hvs
        have ht : argTypes = #[t] := by cases argTypes; simpa using hty
        subst ht
        unfold alen at h
        cases hun : P.underlying t with
        | none => rw [hun] at h; cases h
        | some d =>
          rw [hun] at h
          cases d <;> simp only at h <;> first | (cases h; done) | skip
          · split at h
            · cases h
              rename_i s' 
              rw [rel_x.1 hv] at hmap
              simp only [execOp, resolve, hmap, Sem.run_bind, Sem.run_pure, Result.andThen_ok, invoke, builtin, Builtin.len_, List.getElem?_toArray, List.getElem?_cons_zero, run_underlying hun]
              exact ⟨rel_x.2 rfl, Or.inl rfl⟩
            · cases h
          obtain ⟨a', n', c', rfl, hx⟩ : ∃ a' n' c', v = .slice a' n' c' ∧ x = .x (.int .i64 n') := by
            split at h
            · cases h; obtain ⟨a, c, rfl, _⟩ := rel_sl.1 hv; exact ⟨_, _, _, rfl, rfl⟩
            · cases h; rcases rel_osl.1 hv with ⟨_, rfl, rfl⟩ | ⟨b, c, n, _, _, _, rfl⟩ <;> exact ⟨_, _, _, rfl, rfl⟩
            · cases h; obtain ⟨a, c, rfl, _⟩ := rel_view.1 hv; exact ⟨_, _, _, rfl, rfl⟩
            · cases h; rw [rel_x.1 hv]; exact ⟨_, _, _, rfl, rfl⟩
            · cases h
          subst hx
          simp only [execOp, resolve, hmap, Sem.run_bind, Sem.run_pure, Result.andThen_ok, invoke, builtin, Builtin.len_, List.getElem?_toArray, List.getElem?_cons_zero, run_underlying hun]
          exact ⟨rel_x.2 rfl, Or.inl rfl⟩
      · cases h
    · rename_i hc
      simp only at hc
      subst hc
      split at h
      · rename_i us hus
        simp only at hus
        cases hp : pureOf P (Builtin.min_ argTypes type us.toArray) with
        | none => simp [hp] at h
        | some r =>
          simp only [hp, Option.map_some, Option.some.injEq, Prod.mk.injEq, true_and] at h
          have hav : rels E (args.toList.map (aeval s)) (args.map ρ).toList := by
            have := rels_of (E := E) (s := s) (ρ := ρ) (ys := args.toList) (fun y hy => hρ y (by simp [Op.operands, Call.operands]; simpa using hy))
            simpa using this
          have e1 := plains_rel hus hav
          have hmap : args.map ρ = us.toArray := by apply Array.ext'; simpa using e1
          simp only [execOp, resolve, hmap, Sem.run_bind, Sem.run_pure, Result.andThen_ok, invoke, builtin, run_of_pureOf E.w hp]
          exact ⟨by rw [← h]; exact rel_canR E r, Or.inl rfl⟩
      · cases h
    · rename_i hc
      simp only at hc
      subst hc
      split at h
      · rename_i us hus
        simp only at hus
        cases hp : pureOf P (Builtin.max_ argTypes type us.toArray) with
        | none => simp [hp] at h
        | some r =>
          simp only [hp, Option.map_some, Option.some.injEq, Prod.mk.injEq, true_and] at h
          have hav : rels E (args.toList.map (aeval s)) (args.map ρ).toList := by
            have := rels_of (E := E) (s := s) (ρ := ρ) (ys := args.toList) (fun y hy => hρ y (by simp [Op.operands, Call.operands]; simpa using hy))
            simpa using this
          have e1 := plains_rel hus hav
          have hmap : args.map ρ = us.toArray := by apply Array.ext'; simpa using e1
          simp only [execOp, resolve, hmap, Sem.run_bind, Sem.run_pure, Result.andThen_ok, invoke, builtin, run_of_pureOf E.w hp]
          exact ⟨by rw [← h]; exact rel_canR E r, Or.inl rfl⟩
      · cases h
    · rename_i hc
      simp only at hc
      subst hc
      split at h
      · rename_i a b hargs
        simp only at hargs
        simp only [Option.some.injEq, Prod.mk.injEq, true_and] at h
        have hav : rels E (args.toList.map (aeval s)) (args.map ρ).toList := by
          have := rels_of (E := E) (s := s) (ρ := ρ) (ys := args.toList) (fun y hy => hρ y (by simp [Op.operands, Call.operands]; simpa using hy))
          simpa using this
        rw [hargs] at hav
        obtain ⟨v, vs', hvs, hv, hav⟩ := rels_cons.1 hav
        obtain ⟨v2, vs2, hvs2, hv2, hnil⟩ := rels_cons.1 hav
        rw [rels_nil.1 hnil] at hvs2
        rw [hvs2] at hvs
        have hmap : args.map ρ = #[v, v2] := by apply Array.ext'; exact hvs
        obtain ⟨p, rfl, hp⟩ := rel_f.1 hv
        obtain ⟨q, rfl, hq⟩ := rel_f.1 hv2
        have hbi : Builtin.complex_ argTypes type #[.float .f64 p, .float .f64 q] = pure (.complex .f64 p q) := rfl
        simp only [execOp, resolve, hmap, Sem.run_bind, Sem.run_pure, Result.andThen_ok, invoke, builtin, hbi]
        exact ⟨by rw [← h]; unfold rel; rw [relA]; exact ⟨p, q, rfl, hp, hq⟩, Or.inl rfl⟩
      · cases h
    · rename_i hc
      simp only at hc
      subst hc
      split at h
      · rename_i a b hargs
        simp only at hargs
        simp only [Option.some.injEq, Prod.mk.injEq, true_and] at h
        have hav : rels E (args.toList.map (aeval s)) (args.map ρ).toList := by
          have := rels_of (E := E) (s := s) (ρ := ρ) (ys := args.toList) (fun y hy => hρ y (by simp [Op.operands, Call.operands]; simpa using hy))
          simpa using this
        rw [hargs] at hav
        obtain ⟨v, vs', hvs, hv, hnil⟩ := rels_cons.1 hav
        rw [rels_nil.1 hnil] at hvs
        have hmap : args.map ρ = #[v] := by apply Array.ext'; exact hvs
        unfold rel at hv
        rw [relA] at hv
        obtain ⟨p, q, rfl, hp, hq⟩ := hv
        have hbi : Builtin.real_ argTypes type #[.complex .f64 p q] = pure (.float .f64 p) := rfl
        simp only [execOp, resolve, hmap, Sem.run_bind, Sem.run_pure, Result.andThen_ok, invoke, builtin, hbi]
        exact ⟨by rw [← h]; exact rel_f.2 ⟨_, rfl, hp⟩, Or.inl rfl⟩
      · cases h
    · rename_i hc
      simp only at hc
      subst hc
      split at h
      · rename_i a b hargs
        simp only at hargs
        simp only [Option.some.injEq, Prod.mk.injEq, true_and] at h
        have hav : rels E (args.toList.map (aeval s)) (args.map ρ).toList := by
          have := rels_of (E := E) (s := s) (ρ := ρ) (ys := args.toList) (fun y hy => hρ y (by simp [Op.operands, Call.operands]; simpa using hy))
          simpa using this
        rw [hargs] at hav
        obtain ⟨v, vs', hvs, hv, hnil⟩ := rels_cons.1 hav
        rw [rels_nil.1 hnil] at hvs
        have hmap : args.map ρ = #[v] := by apply Array.ext'; exact hvs
        unfold rel at hv
        rw [relA] at hv
        obtain ⟨p, q, rfl, hp, hq⟩ := hv
        have hbi : Builtin.imag_ argTypes type #[.complex .f64 p q] = pure (.float .f64 q) := rfl
        simp only [execOp, resolve, hmap, Sem.run_bind, Sem.run_pure, Result.andThen_ok, invoke, builtin, hbi]
        exact ⟨by rw [← h]; exact rel_f.2 ⟨_, rfl, hq⟩, Or.inl rfl⟩
      · cases h
    · exact main h
end
end Go.Gv
