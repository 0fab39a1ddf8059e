/-
  Loops that are told, in a call that was handed rows.
-/
import Derived.Test.YtefphimaggjihaaGreatDoorC13
import Derived.Test.YtefphimaggjihaaGreatDoorC11
namespace Go.Gv
open Go.RowKit Go.Ev
noncomputable section

def KSubN (np : Nat) (k : Kont) : Prop := ∀ e s o, k e s = some o → o.e = e ∧ SubN np s o.s
theorem fgt_subN {np : Nat} {keep : List Nat} {τ : List (Option Nat)} {s : St} (hp : pinT np τ = true) (h : fgtOk τ s = true) : SubN np s (fgt keep τ s) := by
  unfold fgtOk at h
  simp only [Bool.and_eq_true] at h
  exact sub_ofN τ (pinT_get hp) h.1 (keepS_sub 0 s.slots) (keepR_sub τ h.2)
theorem finF_subN {np : Nat} (keep : List Nat) {τ : List (Option Nat)} (hp : pinT np τ = true) : KSubN np (finF keep τ) := fun e s o h => by
  unfold finF at h
  cases hf : fgtOk τ s
  · rw [hf] at h; cases h
  · rw [hf] at h
    simp only [cond_true, Option.some.injEq] at h
    subst h
    exact ⟨rfl, fgt_subN hp hf⟩
theorem finN_subN {np : Nat} (keep : List Nat) {τ : List (Option Nat)} (hp : pinT np τ = true) : KSubN np (finN keep τ) := fun e s o h => by
  unfold finN at h
  cases e <;> simp only at h <;> first | (cases h; done) | exact finF_subN keep hp _ s o h
theorem finE_subN {np : Nat} (keep : List Nat) {τ : List (Option Nat)} (hp : pinT np τ = true) : KSubN np (finE keep τ) := fun e s o h => by
  unfold finE at h
  cases e <;> simp only at h <;> first | (cases h; done) | exact finF_subN keep hp _ s o h
theorem leads_ofKN {np : Nat} {P : Program} {T : Tab} {D : List Oper → St → SK → Option Out} {L : Nat → Option LFun} {N : Nat} {c : Code} {s s' : St} {e : Exit} {k : Kont} (hk : KSubN np k) (hT : TOk P T) (hD : DOk P D) (hL : LOkN np P L c) (h : aCode P T D L N c s k = some ⟨e, s', .any⟩) : LeadsN np P c s e s' := fun A0 R w0 E a hp hI => by
  refine Go.Code.wp_mono ?_ (aCode_wp hp hT hD N c hL hI h)
  rintro e' a' w' ⟨E', s1, rfl, hI', he⟩
  obtain ⟨h1, h2⟩ := hk e' s1 _ he
  obtain ⟨E2, e2, h3⟩ := h2 A0 R w0 E' a' hp hI'
  exact ⟨h1.symm, E2, e2, h3⟩
/-- A loop that is told. -/
def toldP (np : Nat) (keep : List Nat) (τ : List (Option Nat)) (s0 : St) (e : Exit) (sf : St) : LFun := fun s k => cond (fgtOk τ s) (gate (SubN np (fgt keep τ s) s0) (k e sf)) none
theorem toldP_sound {np : Nat} {P : Program} {c : Code} {keep : List Nat} {τ : List (Option Nat)} {s0 sf : St} {e : Exit} (hp : pinT np τ = true) (h : LeadsN np P (.loop c) s0 e sf) : LSoundN np P c (toldP np keep τ s0 e sf) := by
  have get : ∀ {s : St} {k : Kont} {r : Out}, toldP np keep τ s0 e sf s k = some r → SubN np s s0 ∧ k e sf = some r := fun {s k r} hr => by
    unfold toldP at hr
    cases hf : fgtOk τ s
    · rw [hf] at hr; cases hr
    · rw [hf] at hr
      simp only [cond_true] at hr
      obtain ⟨h2, h3⟩ := gate_some hr
      exact ⟨(fgt_subN hp hf).trans h2, h3⟩
  have eq : ∀ {s : St} {k : Kont} {r : Out}, toldP np keep τ s0 e sf s k = some r → ∀ k', toldP np keep τ s0 e sf s k' = k' e sf := fun {s k r} hr k' => by
    unfold toldP at hr ⊢
    cases hf : fgtOk τ s
    · rw [hf] at hr; cases hr
    · rw [hf] at hr
      simp only [cond_true] at hr ⊢
      rw [gate_pos (gate_some hr).1]
  constructor
  · intro s k r hr
    exact ⟨e, sf, (get hr).2, eq hr⟩
  · intro s s' e' hk A0 R w0 E a hp' hI
    have h0 := hk (fun e s => some ⟨e, s, .any⟩)
    obtain ⟨hs, he⟩ := get h0
    simp only [Option.some.injEq, Out.mk.injEq, and_true] at he
    obtain ⟨rfl, rfl⟩ := he
    obtain ⟨E1, e1, hI1⟩ := hs A0 R w0 E a hp' hI
    have := h A0 R w0 E1 a hp' hI1
    rw [e1] at this
    exact this
theorem lokN_one {np : Nat} {P : Program} {c : Code} {i : Nat} {g : LFun} (m : Nat) (hlen : (loopsOf c).length = m) (h : ∀ j, j < m → firstId ((loopsOf c).getD j .skip) = some i → LSoundN np P ((loopsOf c).getD j .skip) g) : LOkN np P (oneL i g) c := by
  intro c' hc i' g' hi hg
  obtain ⟨j, hj, rfl⟩ := List.mem_iff_getElem.1 hc
  unfold oneL at hg
  cases hb : Nat.beq i' i
  · rw [hb] at hg; cases hg
  · rw [hb] at hg
    cases hg
    have e1 := Nat.eq_of_beq_eq_true hb
    subst e1
    have e2 : (loopsOf c).getD j .skip = (loopsOf c)[j] := by rw [List.getD_eq_getElem?_getD, List.getElem?_eq_getElem hj]; rfl
    have := h j (by omega) (by rw [e2]; exact hi)
    rw [e2] at this
    exact this
theorem noL_okN {np : Nat} {P : Program} {c : Code} : LOkN np P noL c := fun _ _ _ _ _ h => by cases h
end
end Go.Gv
