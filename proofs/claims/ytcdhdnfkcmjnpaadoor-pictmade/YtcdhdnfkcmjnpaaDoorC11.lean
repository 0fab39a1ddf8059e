/-
  Contracts that ask something of their arguments; several loops told at once.
-/
import Derived.Test.YtcdhdnfkcmjnpaaDoorC8
namespace Go.Gv
open Go.RowKit Go.Ev
noncomputable section

/-- A contract that asks something of its arguments. -/
def kIf (f:Nat) (c:List AV→Bool) (g:List AV→AV):KEntry:=⟨f,fun args k=>cond (c args) (k (g args)) none⟩
theorem kIf_ok {P:Program} {f:Nat} {c:List AV→Bool} {g:List AV→AV} (h:∀ args,c args=true→FSpec P f args (g args)):KOk P (kIf f c g):=by
  constructor
  · intro args k o ho
    simp only [kIf] at ho ⊢
    cases hc:c args
    · rw [hc] at ho; cases ho
    · rw [hc] at ho
      exact ⟨g args,ho,fun k'=>rfl⟩
  · intro args v hv
    have h1:=hv fun x=>some (Out.of x)
    simp only [kIf] at h1
    cases hc:c args
    · rw [hc] at h1; cases h1
    · rw [hc] at h1
      simp only [cond_true,Option.some.injEq,Out.of,Out.mk.injEq,true_and] at h1
      subst h1
      exact Or.inl (h args hc)
/-- Where a loop is left by its exit. -/
def finE (keep:List Nat) (τ:List (Option Nat)):Kont:=fun e s=>match e with
  | .exit i=>finF keep τ (.exit i) s
  | _=>none
theorem finE_sub (keep:List Nat) (τ:List (Option Nat)):KSub (finE keep τ):=fun e s o h=>by
  unfold finE at h
  cases e<;>simp only at h<;>first | (cases h; done) | exact finF_sub keep τ _ s o h
/-- A contract that asks something of its arguments, and that they are these. -/
noncomputable def kIfP (f:Nat) (p:List AV→Prop) (c:List AV→Bool) (g:List AV→AV):KEntry:=⟨f,fun args k=>gate (p args) (cond (c args) (k (g args)) none)⟩
theorem kIfP_ok {P:Program} {f:Nat} {p:List AV→Prop} {c:List AV→Bool} {g:List AV→AV} (h:∀ args,p args→c args=true→FSpec P f args (g args)):KOk P (kIfP f p c g):=by
  constructor
  · intro args k o ho
    simp only [kIfP] at ho ⊢
    obtain ⟨hp,ho⟩:=gate_some ho
    cases hc:c args
    · rw [hc] at ho; cases ho
    · rw [hc] at ho
      exact ⟨g args,ho,fun k'=>by rw [gate_pos hp]; rfl⟩
  · intro args v hv
    have h1:=hv fun x=>some (Out.of x)
    simp only [kIfP] at h1
    obtain ⟨hp,h1⟩:=gate_some h1
    cases hc:c args
    · rw [hc] at h1; cases h1
    · rw [hc] at h1
      simp only [cond_true,Option.some.injEq,Out.of,Out.mk.injEq,true_and] at h1
      subst h1
      exact Or.inl (h args hp hc)
end
end Go.Gv
