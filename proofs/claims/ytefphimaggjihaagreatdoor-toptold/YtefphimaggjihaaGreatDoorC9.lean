/-
  Calls that are handed rows of ours: a contract over rows that are numbered from nought, and what it says where it is called.
-/
import Derived.Test.YtefphimaggjihaaGreatDoorC8
namespace Go.Gv
open Go.RowKit Go.Ev
noncomputable section

/-- A call that is handed rows: what it gives, and the rows behind it: those it was handed, then a new one or none. -/
def GSpec (P : Program) (f : Nat) (args : List AV) (mem : List Row) (v : AV) (mem1 : List Row) : Prop :=
  Entered P f ∧ ∀ (R : Nat → Prop) (E : Env) (cargs : Array Value), Pins mem.length E.A R E → Wd E.A R E E mem → glob E → rels E args cargs.toList →
    Calls P f cargs E.w fun e w' => ∃ u E', e = .returned u ∧ E'.w = w' ∧ Wd E.A R E E' mem1 ∧ rel E' v u

def Row.pure : Row → Bool
  | .c l => noOwns l
  | .a _ _ _ _ => true
  | .dead => true
  | .t _ l => noOwns l
  | .z _ _ _ _ _ => true
  | .i _ _ _ => true
def ixOf (l : List Nat) (k : Nat) : Option Nat := l.findIdx? (· == k)
theorem ixOf_some {l : List Nat} {k i : Nat} (h : ixOf l k = some i) : l[i]? = some k := by
  unfold ixOf at h
  rw [List.findIdx?_eq_some_iff_getElem] at h
  obtain ⟨h1, h2, _⟩ := h
  rw [List.getElem?_eq_getElem h1]
  simpa using h2
def nodupB : List Nat → Bool
  | [] => true
  | k :: l => !(l.contains k) && nodupB l
theorem nodupB_get : ∀ {l : List Nat}, nodupB l = true → ∀ (i j k : Nat), l[i]? = some k → l[j]? = some k → i = j
  | [], _, i, j, k, h, _ => by simp at h
  | k0 :: l, hd, i, j, k, hi, hj => by
    simp only [nodupB, Bool.and_eq_true, Bool.not_eq_true'] at hd
    have hno : ∀ n, l[n]? ≠ some k0 := fun n hn => by
      have : l.contains k0 = true := List.contains_iff_mem.2 (List.mem_of_getElem? hn)
      rw [hd.1] at this; cases this
    cases i with
    | zero =>
      simp at hi
      subst hi
      cases j with
      | zero => rfl
      | succ j => exact absurd (by simpa using hj) (hno j)
    | succ i =>
      cases j with
      | zero =>
        simp at hj
        subst hj
        exact absurd (by simpa using hi) (hno i)
      | succ j => rw [nodupB_get hd.2 i j k (by simpa using hi) (by simpa using hj)]
end
end Go.Gv
