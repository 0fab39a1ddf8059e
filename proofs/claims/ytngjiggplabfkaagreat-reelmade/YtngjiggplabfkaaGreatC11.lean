/-
  Calls that are handed rows of ours: a contract over rows that are numbered from nought, and what it says where it is called.
-/
import Derived.Test.YtngjiggplabfkaaGreatC6
namespace Go.Gv
open Go.RowKit Go.Ev
noncomputable section

/-- A call that is handed rows: what it gives, and the rows behind it: those it was handed, then a new one or none. -/
def GSpec (P : Program) (f : Nat) (args : List AV) (mem : List Row) (v : AV) (mem1 : List Row) : Prop :=
  Entered P f ∧ ∀ (R : Nat → Prop) (E : Env) (cargs : Array Value), Pins mem.length E.A R E → Wd E.A R E E mem → glob E → rels E args cargs.toList →
    Calls P f cargs E.w fun e w' => ∃ u E', e = .returned u ∧ E'.w = w' ∧ Wd E.A R E E' mem1 ∧ rel E' v u

def Row.pure : Row → Bool
  | .c l => noOwns l
  | .a _ _ _ _ => true
  | .dead => true
  | .z _ _ _ _ => true
theorem preA_noOwn : ∀ (xs : List AV) {E E' : Env}, (∀ b, ¬ E.A b → ∀ ob, E.w.heap[b]? = some ob → ¬ E'.A b ∧ E'.w.heap[b]? = some ob) → noOwns xs = true → ∀ (us : List Value), preA xs E us → preA xs E' us
  | [], _, _, _, _, _, _ => by unfold preA; trivial
  | x :: xs, _, _, h, hn, u :: us, hr => by
    unfold preA at *
    unfold noOwns at hn
    simp only [Bool.and_eq_true] at hn
    exact ⟨relA_noOwn x h hn.1 u hr.1, preA_noOwn xs h hn.2 us hr.2⟩
  | _ :: _, _, _, _, _, [], hr => by unfold preA at hr; exact hr.elim
theorem rowRel_pure {E E' : Env} (hw : E'.w = E.w) (hA : ∀ b, E'.A b ↔ E.A b) {b : Nat} {c : Nat × Nat} {row : Row} (hp : row.pure = true) (h : rowRel E b c row) : rowRel E' b c row := by
  have hk : ∀ b, ¬ E.A b → ∀ ob, E.w.heap[b]? = some ob → ¬ E'.A b ∧ E'.w.heap[b]? = some ob := fun b h1 ob h2 => ⟨fun h3 => h1 ((hA b).1 h3), by rw [hw]; exact h2⟩
  cases row with
  | c l =>
    obtain ⟨cs, e, h1, h2⟩ := h
    exact ⟨cs, e, by rw [hw]; exact h1, preA_noOwn l hk hp _ h2⟩
  | a e sz n el =>
    obtain ⟨cs, h1, h2, h3, h4, h5, h6⟩ := h
    exact ⟨cs, by rw [hw]; exact h1, h2, h3, h4, h5, fun i hi => ⟨(h6 i hi).1, preA_le (el i) (E := E.fz) (E' := E'.fz) ⟨hk, fun k b hb => by cases hb⟩ _ (h6 i hi).2⟩⟩
  | dead => trivial
  | z e sz n el =>
    obtain ⟨cs, fz, h1, h2, h3⟩ := h
    exact ⟨cs, fz, by rw [hw]; exact h1, h2, fun i hi => ⟨(h3 i hi).1, preA_le (el i) (E := E.fz) (E' := E'.fz) ⟨hk, fun k b hb => by cases hb⟩ _ (h3 i hi).2⟩⟩
end
end Go.Gv
