/-
  Entries of the second evaluator out of contracts of the first.
-/
import Derived.Test.YtenaeijehjnfeaaGl
import Derived.Test.YtenaeijehjnfeaaShE
namespace Go.Proofs.Ytenaeijehjnfeaa
open Go.Gv

/-- Values as the second evaluator has them. -/
def iA (n : Int) : AV := .x (.int .i64 n)
def bA (b : Bool) : AV := .x (.bool b)
def gF : AV → Option Nat
  | .f a => some a
  | _ => none
def gV : AV → Option (Nat → Nat)
  | .agg [.f a, .f b, .f c] => some (ls [a, b, c])
  | _ => none
def gB : AV → Option (Nat → Nat)
  | .agg [.f a, .f b, .f c, .f d, .f e, .f f] => some (ls [a, b, c, d, e, f])
  | _ => none
def gY : AV → Option (Nat → Nat)
  | .agg [.f a, .f b, .f c, .f d, .f e, .f f, .f g] => some (ls [a, b, c, d, e, f, g])
  | _ => none
theorem gF_some {x : AV} {a : Nat} (h : gF x = some a) : x = partA (Ev.F a) := by
  unfold gF at h; split at h
  · cases h; rfl
  · cases h
theorem gV_some {x : AV} {a : Nat → Nat} (h : gV x = some a) : x = partA (Ev.V (a 0) (a 1) (a 2)) := by
  unfold gV at h; split at h
  · cases h; rfl
  · cases h
theorem gB_some {x : AV} {a : Nat → Nat} (h : gB x = some a) : x = partA (BX a) := by
  unfold gB at h; split at h
  · cases h; rfl
  · cases h
theorem gY_some {x : AV} {a : Nat → Nat} (h : gY x = some a) : x = partA (RY a) := by
  unfold gY at h; split at h
  · cases h; rfl
  · cases h
def g1 {α : Type} (as : AV → Option α) (g : α → Value) : List AV → Option AV
  | [x] => match as x with
    | some a => some (wholeA (g a))
    | none => none
  | _ => none
def g2 {α β : Type} (as : AV → Option α) (bs : AV → Option β) (g : α → β → Value) : List AV → Option AV
  | [x, y] => match as x, bs y with
    | some a, some b => some (wholeA (g a b))
    | _, _ => none
  | _ => none
theorem g1_ok {P : Program} {f : Nat} {α : Type} {as : AV → Option α} {mk : α → Value} {g : α → Value} (h1 : ∀ {x a}, as x = some a → x = partA (mk a)) (h2 : ∀ a, partOk (mk a) = true) (h3 : ∀ a, wholeOk (g a) = true) (h : ∀ a, @Ev.FSpec noTok P f [] [mk a] (g a)) : EOk P ⟨f, g1 as g⟩ := by
  intro args r hr
  simp only [g1] at hr
  split at hr
  · split at hr
    · rename_i a ha
      cases hr
      rw [h1 ha]
      exact Or.inl (bridge (h a) (by simp [h2]) (h3 a))
    · cases hr
  · cases hr
theorem g2_ok {P : Program} {f : Nat} {α β : Type} {as : AV → Option α} {bs : AV → Option β} {mk : α → Value} {mk' : β → Value} {g : α → β → Value} (h1 : ∀ {x a}, as x = some a → x = partA (mk a)) (h1' : ∀ {x a}, bs x = some a → x = partA (mk' a)) (h2 : ∀ a, partOk (mk a) = true) (h2' : ∀ a, partOk (mk' a) = true)
    (h3 : ∀ a b, wholeOk (g a b) = true) (h : ∀ a b, @Ev.FSpec noTok P f [] [mk a, mk' b] (g a b)) : EOk P ⟨f, g2 as bs g⟩ := by
  intro args r hr
  simp only [g2] at hr
  split at hr
  · split at hr
    · rename_i a b ha hb
      cases hr
      rw [h1 ha, h1' hb]
      exact Or.inl (bridge (h a b) (by simp [h2, h2']) (h3 a b))
    · cases hr
  · cases hr
theorem e_nil {P : Program} : ∀ e, e ∈ ([] : List Entry) → EOk P e := fun _ h => by cases h
theorem k_nil {P : Program} : ∀ e, e ∈ ([] : List KEntry) → KOk P e := fun _ h => by cases h
theorem e_cons {P : Program} {e : Entry} {l : List Entry} (h : EOk P e) (hl : ∀ e, e ∈ l → EOk P e) : ∀ e', e' ∈ e :: l → EOk P e' := fun e' he => by
  rcases List.mem_cons.1 he with rfl | he
  · exact h
  · exact hl e' he
theorem k_cons {P : Program} {e : KEntry} {l : List KEntry} (h : KOk P e) (hl : ∀ e, e ∈ l → KOk P e) : ∀ e', e' ∈ e :: l → KOk P e' := fun e' he => by
  rcases List.mem_cons.1 he with rfl | he
  · exact h
  · exact hl e' he
end Go.Proofs.Ytenaeijehjnfeaa
