/-
  From the first evaluator to the second: a contract with arguments and results that hold no address holds in both.
-/
import Derived.Test.YtbmggfmifopddaaGe
import Derived.Test.YtbmggfmifopddaaEv7
namespace Go.Gv
open Go.RowKit
noncomputable section

abbrev noTok : Go.Ev.Tok := ⟨fun _ => 0, fun _ => 0⟩
/-- One cell, and whether it holds no address. -/
def cellA : Value → AV
  | .float .f64 a => .f a
  | v => .x v
def cellOk : Value → Bool
  | .float .f64 _ => true
  | .int _ _ => true
  | .bool _ => true
  | _ => false
def partA : Value → AV
  | .agg xs => .agg (xs.toList.map cellA)
  | v => cellA v
def partOk : Value → Bool
  | .agg xs => xs.toList.all cellOk
  | v => cellOk v
def wholeA : Value → AV
  | .tuple xs => .tup (xs.toList.map partA)
  | v => partA v
def wholeOk : Value → Bool
  | .tuple xs => xs.toList.all partOk
  | v => partOk v

theorem cell_to {x v : Value} {E : Env} (h : cellOk x = true) (hr : relA (cellA x) E v) : @Go.Ev.srel noTok [] x v := by
  unfold cellOk at h
  split at h
  · unfold cellA relA at hr; exact hr
  · unfold cellA relA at hr; exact hr
  · unfold cellA relA at hr; exact hr
  · cases h
theorem cell_from {x v : Value} {E : Env} (h : cellOk x = true) (hr : @Go.Ev.srel noTok [] x v) : relA (cellA x) E v := by
  unfold cellOk at h
  split at h
  · unfold cellA relA; exact hr
  · unfold cellA relA; exact hr
  · unfold cellA relA; exact hr
  · cases h
theorem row_to {E : Env} : ∀ {xs vs : List Value}, xs.all cellOk = true → relsA (xs.map cellA) E vs → @Go.Ev.rowrel noTok [] xs vs
  | [], [], _, _ => trivial
  | x :: xs, v :: vs, h, hr => by
    simp only [List.all_cons, Bool.and_eq_true] at h
    simp only [List.map_cons] at hr
    unfold relsA at hr
    exact ⟨cell_to h.1 hr.1, row_to h.2 hr.2⟩
  | [], _ :: _, _, hr => by simp only [List.map_nil] at hr; unfold relsA at hr; exact hr.elim
  | _ :: _, [], _, hr => by simp only [List.map_cons] at hr; unfold relsA at hr; exact hr.elim
theorem row_from {E : Env} : ∀ {xs vs : List Value}, xs.all cellOk = true → @Go.Ev.rowrel noTok [] xs vs → relsA (xs.map cellA) E vs
  | [], [], _, _ => by simp only [List.map_nil]; unfold relsA; trivial
  | x :: xs, v :: vs, h, hr => by
    simp only [List.all_cons, Bool.and_eq_true] at h
    simp only [List.map_cons]
    unfold relsA
    exact ⟨cell_from h.1 hr.1, row_from h.2 hr.2⟩
  | [], _ :: _, _, hr => hr.elim
  | _ :: _, [], _, hr => hr.elim
theorem part_to {x v : Value} {E : Env} (h : partOk x = true) (hr : relA (partA x) E v) : @Go.Ev.arel noTok [] x v := by
  unfold partOk at h
  split at h
  · unfold partA relA at hr
    obtain ⟨vs, h1, h2⟩ := hr
    exact ⟨vs, h1, row_to h h2⟩
  · rename_i hx
    have e : partA x = cellA x := by unfold partA; split <;> simp_all
    rw [e] at hr
    have h2 := cell_to h hr
    unfold cellOk at h
    split at h
    · exact h2
    · exact h2
    · exact h2
    · cases h
theorem part_from {x v : Value} {E : Env} (h : partOk x = true) (hr : @Go.Ev.arel noTok [] x v) : relA (partA x) E v := by
  unfold partOk at h
  split at h
  · unfold partA relA
    obtain ⟨vs, h1, h2⟩ := hr
    exact ⟨vs, h1, row_from h h2⟩
  · rename_i hx
    have e : partA x = cellA x := by unfold partA; split <;> simp_all
    rw [e]
    refine cell_from h ?_
    unfold cellOk at h
    split at h
    · exact hr
    · exact hr
    · exact hr
    · cases h
theorem parts_to {E : Env} : ∀ {xs vs : List Value}, xs.all partOk = true → relsA (xs.map partA) E vs → @Go.Ev.arows noTok [] xs vs
  | [], [], _, _ => trivial
  | x :: xs, v :: vs, h, hr => by
    simp only [List.all_cons, Bool.and_eq_true] at h
    simp only [List.map_cons] at hr
    unfold relsA at hr
    exact ⟨part_to h.1 hr.1, parts_to h.2 hr.2⟩
  | [], _ :: _, _, hr => by simp only [List.map_nil] at hr; unfold relsA at hr; exact hr.elim
  | _ :: _, [], _, hr => by simp only [List.map_cons] at hr; unfold relsA at hr; exact hr.elim
theorem parts_from {E : Env} : ∀ {xs vs : List Value}, xs.all partOk = true → @Go.Ev.arows noTok [] xs vs → relsA (xs.map partA) E vs
  | [], [], _, _ => by simp only [List.map_nil]; unfold relsA; trivial
  | x :: xs, v :: vs, h, hr => by
    simp only [List.all_cons, Bool.and_eq_true] at h
    simp only [List.map_cons]
    unfold relsA
    exact ⟨part_from h.1 hr.1, parts_from h.2 hr.2⟩
  | [], _ :: _, _, hr => hr.elim
  | _ :: _, [], _, hr => hr.elim
theorem args_to {E : Env} : ∀ {xs vs : List Value}, xs.all partOk = true → relsA (xs.map partA) E vs → @Go.Ev.vrows noTok [] xs vs
  | [], [], _, _ => trivial
  | x :: xs, v :: vs, h, hr => by
    simp only [List.all_cons, Bool.and_eq_true] at h
    simp only [List.map_cons] at hr
    unfold relsA at hr
    refine ⟨?_, args_to h.2 hr.2⟩
    have h2 := part_to h.1 hr.1
    cases x <;> first | exact h2 | (exact absurd h.1 (by simp [partOk, cellOk]))
  | [], _ :: _, _, hr => by simp only [List.map_nil] at hr; unfold relsA at hr; exact hr.elim
  | _ :: _, [], _, hr => by simp only [List.map_cons] at hr; unfold relsA at hr; exact hr.elim
theorem whole_from {x v : Value} {E : Env} (h : wholeOk x = true) (hr : @Go.Ev.vrel noTok [] x v) : relA (wholeA x) E v := by
  unfold wholeOk at h
  split at h
  · unfold wholeA relA
    obtain ⟨vs, h1, h2⟩ := hr
    exact ⟨vs, h1, parts_from h h2⟩
  · rename_i hx
    have e : wholeA x = partA x := by unfold wholeA; split <;> simp_all
    rw [e]
    refine part_from h ?_
    cases x <;> first | exact hr | (exact absurd rfl (hx _))
/-- A contract of the first evaluator is one of the second. -/
theorem bridge {P : Program} {f : Nat} {args : List Value} {r : Value} (h : @Go.Ev.FSpec noTok P f [] args r) (ha : args.all partOk = true) (hr : wholeOk r = true) : FSpec P f (args.map partA) (wholeA r) := by
  refine ⟨h.1, fun A w cargs hA hargs _ => ?_⟩
  refine Go.Calls.mono (h.2 [] w cargs ⟨rfl, fun i b cells hb _ => by simp at hb⟩ (args_to ha hargs)) ?_
  rintro e w' ⟨v, h1, h2, h3⟩
  exact ⟨v, h1, whole_from hr h2, h3⟩
end
end Go.Gv
