/-
  A row of ours that is not written any more: frozen.
-/
import Derived.Test.YtefphimaggjihaaGreatDoorC8
namespace Go.Gv
open Go.RowKit Go.Ev

/-- Of these cells those that are the row k are told as a slice that is not ours. -/
def FrzL (k sz n : Nat) (el : Nat → List AV) : List AV → List AV → Prop
  | [], [] => True
  | x :: xs, y :: ys => (y = x ∨ (x = .osl k sz 0 n ∧ y = .sl sz n el)) ∧ FrzL k sz n el xs ys
  | _, _ => False
theorem frzL_pre {E E' : Env} {k sz n : Nat} {el : Nat → List AV} (hle : E.le E') (hrow : ∀ u, rel E (.osl k sz 0 n) u → rel E' (.sl sz n el) u) : ∀ {l l' : List AV} {us : List Value}, FrzL k sz n el l l' → pre E l us → pre E' l' us
  | [], [], _, _, _ => pre_nil
  | x :: xs, y :: ys, us, h, hp => by
    obtain ⟨u, us', rfl, h1, h2⟩ := pre_cons.1 hp
    refine pre_cons.2 ⟨u, us', rfl, ?_, frzL_pre hle hrow h.2 h2⟩
    rcases h.1 with rfl | ⟨rfl, rfl⟩
    · exact rel_le hle h1
    · exact hrow u h1
  | [], _ :: _, _, h, _ => h.elim
  | _ :: _, [], _, h, _ => h.elim
/-- TO FREEZE A ROW, and to tell it so in the slots. -/
theorem sub_freezeSN {np : Nat} {slots slots' : List (AV × Chain)} {mem mem' : List Row} {k : Nat} {e : TypeId} {sz n : Nat} {el : Nat → List AV} (hk : mem[k]? = some (.a e sz n el))
    (hM : ∀ j row, mem[j]? = some row → ∃ row', mem'[j]? = some row' ∧ ((j = k ∧ row' = .dead) ∨ (j ≠ k ∧ (row' = row ∨ ∃ l l', row = .c l ∧ row' = .c l' ∧ FrzL k sz n el l l')))) 
    (hlen : slots'.length = slots.length) (hch : ∀ t, (slots.getD t dflt).2 = []) (hS : ∀ t, slots'.getD t dflt = slots.getD t dflt ∨ ((slots.getD t dflt).1 = .osl k sz 0 n ∧ slots'.getD t dflt = (.sl sz n el, [])))
    (hnp : np ≤ k) (hlv : ∀ j, j < np → liveAt mem j = true) : SubN np ⟨slots, mem⟩ ⟨slots', mem'⟩ := by
  intro A0 R w0 E a hp0 hI
  have hwd : Wd A0 R w0 E mem := hI.wd
  have hlk : liveAt mem k = true := by unfold liveAt; rw [hk]; rfl
  let E' : Env := { E with A := fun b => E.A b ∧ ∀ c, E.O k ≠ some (b, c) }
  have hle : E.le E' := ⟨fun b hb ob hob => ⟨fun h => hb h.1, hob⟩, fun _ _ h => h⟩
  have hrow : ∀ u, rel E (.osl k sz 0 n) u → rel E' (.sl sz n el) u := fun u hu => by
    rcases rel_osl.1 hu with ⟨_, h0, rfl⟩ | ⟨b, c, n0, hO, h1, h2, rfl⟩
    · exact rel_sl.2 ⟨none, 0, by rw [h0], by omega, Or.inl h0⟩
    · obtain ⟨row, g1, g2⟩ := hwd.rows k b (c, n0) hO
      rw [hk] at g1
      cases g1
      obtain ⟨cs, h3, h4, h5, h6, h7, h8⟩ := g2
      refine rel_sl.2 ⟨_, _, rfl, by omega, Or.inr ⟨b, 0, cs, e, (0, 0), by rw [Nat.zero_mul], fun h => h.2 _ hO, h3, fun i hi => ?_⟩⟩
      obtain ⟨h9, h10⟩ := h8 i hi
      refine ⟨h9, ?_⟩
      rw [Nat.zero_add]
      exact pre_le hle.fz h10
  have hlive : ∀ j, liveAt mem' j = true → (∃ p, E.O j = some p) → j ≠ k ∧ liveAt mem j = true := fun j hj ⟨p, hp⟩ => by
    obtain ⟨row, g1, _⟩ := hwd.rows j p.1 p.2 hp
    obtain ⟨row', g2, g3⟩ := hM j row g1
    unfold liveAt at hj ⊢
    rw [g2] at hj
    rw [g1]
    rcases g3 with ⟨_, rfl⟩ | ⟨hne, rfl | ⟨l, l', rfl, rfl, _⟩⟩
    · cases hj
    · exact ⟨hne, hj⟩
    · exact ⟨hne, rfl⟩
  have hfr : frel E' slots' slots' a.tmps := by
    have h0 := hI.frame
    refine ⟨⟨by rw [hlen]; exact h0.1.1, glob_le hle h0.1.2⟩, fun t => ?_⟩
    have h1 := h0.2 t
    rcases hS t with h2 | ⟨h2, h3⟩
    · rw [h2, hch t]
      have h1 : (tru slots (slots.getD t dflt).2 = true → rel E (slots.getD t dflt).1 (a.tmps.getD t undef)) ∧ _ := h1
      rw [hch t] at h1
      exact ⟨fun _ => rel_le hle (h1.1 rfl), fun h => by cases h⟩
    · rw [h3]
      have h1 : (tru slots (slots.getD t dflt).2 = true → rel E (slots.getD t dflt).1 (a.tmps.getD t undef)) ∧ _ := h1
      rw [hch t, h2] at h1
      exact ⟨fun _ => hrow _ (h1.1 rfl), fun h => by cases h⟩
  refine ⟨E', rfl, hI.defers, hfr, ⟨fun j b c hb => ?_, fun b hb => hwd.small b hb.1, fun b hb => ⟨hwd.old b hb, fun c hc => ?_⟩, fun j b c hb hl => ?_, fun j j' b c c' hb hb' hl hl' => ?_, hwd.below, ⟨fun b hb ob hob => ?_, hwd.le0.own⟩⟩⟩
  · obtain ⟨row, g1, g2⟩ := hwd.rows j b c hb
    obtain ⟨row', g3, g4⟩ := hM j row g1
    refine ⟨row', g3, ?_⟩
    rcases g4 with ⟨_, rfl⟩ | ⟨hne, rfl | ⟨l, l', rfl, rfl, hf⟩⟩
    · trivial
    · exact rowRel_keep hle g2 fun _ => rfl
    · obtain ⟨cs, e0, h3, h4⟩ := g2
      exact ⟨cs, e0, h3, frzL_pre hle hrow hf h4⟩
  · have h2 := hp0.2.2
    have h3 := (hwd.own k b c hc hlk).2
    have h4 := h2 b hb
    rcases h3 with h3 | h3
    · obtain ⟨j, c', hj, hO⟩ := hp0.2.1 b h3
      have := hwd.one k j b c c' hc (hwd.le0.own j _ hO) hlk (hlv j hj)
      omega
    · omega
  · obtain ⟨hne, hl2⟩ := hlive j hl ⟨_, hb⟩
    obtain ⟨h1, h2⟩ := hwd.own j b c hb hl2
    exact ⟨⟨h1, fun c' hc => hne (hwd.one j k b c c' hb hc hl2 hlk)⟩, h2⟩
  · exact hwd.one j j' b c c' hb hb' (hlive j hl ⟨_, hb⟩).2 (hlive j' hl' ⟨_, hb'⟩).2
  · obtain ⟨h1, h2⟩ := hwd.le0.keep b hb ob hob
    exact ⟨fun h => h1 h.1, h2⟩
theorem sub_freezeS {slots slots' : List (AV × Chain)} {mem mem' : List Row} {k : Nat} {e : TypeId} {sz n : Nat} {el : Nat → List AV} (hk : mem[k]? = some (.a e sz n el))
    (hM : ∀ j row, mem[j]? = some row → ∃ row', mem'[j]? = some row' ∧ ((j = k ∧ row' = .dead) ∨ (j ≠ k ∧ (row' = row ∨ ∃ l l', row = .c l ∧ row' = .c l' ∧ FrzL k sz n el l l')))) 
    (hlen : slots'.length = slots.length) (hch : ∀ t, (slots.getD t dflt).2 = []) (hS : ∀ t, slots'.getD t dflt = slots.getD t dflt ∨ ((slots.getD t dflt).1 = .osl k sz 0 n ∧ slots'.getD t dflt = (.sl sz n el, []))) : Sub ⟨slots, mem⟩ ⟨slots', mem'⟩ := sub_freezeSN hk hM hlen hch hS (Nat.zero_le _) fun j hj => absurd hj (Nat.not_lt_zero j)
end Go.Gv
