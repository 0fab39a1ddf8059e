/-
  Rows of ours that are lent to a call: it reads them as what is not ours, and hands back nothing that points.
-/
import Derived.Test.YtcdhdnfkcmjnpaaDoorC14
import Derived.Test.YtcdhdnfkcmjnpaaDoorC11
namespace Go.Gv
open Go.RowKit Go.Ev
noncomputable section

/-- A CONTRACT OVER WHAT IS NOT OURS IS ONE OVER ROWS THAT ARE LENT. -/
theorem lend_spec {P : Program} {f : Nat} {args : List AV} {mem : List Row} {r : AV} (h : FSpec P f (lendL mem args) r) (hb : lendBL mem args = true) (hp : plainA r = true) : GSpec P f args mem r mem := by
  refine ⟨h.1, fun R E cargs _ hW hg hr => ?_⟩
  have hg' : glob (Env.shut E) := glob_O (glob_le (E := E) (E' := ⟨E.w, fun _ => False, E.O⟩) ⟨fun _ _ _ hob => ⟨id, hob⟩, fun _ _ h => h⟩ hg) _
  refine (h.2 (fun _ => False) E.w cargs (fun _ h => h.elim) (lend_rels args hW.rows hb hr) hg').mono ?_
  rintro e w' ⟨v, rfl, hv, hbel⟩
  obtain ⟨h1, _⟩ := hW.on hbel
  exact ⟨v, _, rfl, rfl, h1, plain_rel r hp hv⟩
/-- A contract that is asked for where it is used, of rows that are lent. -/
def lendC (P : Program) (f : Nat) (g : List AV → AV) : List AV → List Row → Option (Bool × AV × List Row) := fun args rs => cond (plainA (g (lendL rs args))) (some (propB (FSpec P f (lendL rs args) (g (lendL rs args))) && lendBL rs args, g (lendL rs args), rs)) none
def mS (P : Program) (f : Nat) (g : List AV → AV) : MEntry := ⟨f, liftM none (lendC P f g), none⟩
theorem mS_ok {P : Program} {f : Nat} {g : List AV → AV} : MEOk P (mS P f g) := by
  refine ⟨liftM_ok fun args rs v mem1 hc => ?_, fun _ h => by cases h⟩
  unfold lendC at hc
  cases hp : plainA (g (lendL rs args))
  · rw [hp] at hc; cases hc
  · rw [hp] at hc
    simp only [cond_true, Option.some.injEq, Prod.mk.injEq, Bool.and_eq_true] at hc
    obtain ⟨⟨h1, h2⟩, rfl, rfl⟩ := hc
    have h1 : FSpec P f (lendL rs args) (g (lendL rs args)) := propB_of h1
    exact ⟨lend_spec h1 h2 hp, fun _ _ _ => rfl⟩
end
end Go.Gv
