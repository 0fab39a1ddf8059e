/-
  Calls that are handed all of our rows, calls that look at rows of ours; texts one part behind the other.
-/
import Derived.Test.YtefphimaggjihaaGreatDoorC14
namespace Go.Gv
open Go.RowKit Go.Ev
noncomputable section

structure WEntry where
  f : Nat
  g : WFun
structure REntry where
  f : Nat
  g : RFun
def findW : List WEntry → Nat → Option WFun
  | [], _ => none
  | e :: l, f => cond (Nat.beq e.f f) (some e.g) (findW l f)
def findR : List REntry → Nat → Option RFun
  | [], _ => none
  | e :: l, f => cond (Nat.beq e.f f) (some e.g) (findR l f)
def tabW (l : List Entry) (ks : List KEntry) (ms : List MEntry) (ws : List WEntry) (rs : List REntry) : Tab := ⟨findE l, findK ks, findM ms, findN ms, findW ws, findR rs⟩
def WEOk (P : Program) (e : WEntry) : Prop := WOk P e.f e.g
def REOk (P : Program) (e : REntry) : Prop := ROk P e.f e.g
theorem findW_ok {P : Program} {f : Nat} {g : WFun} : ∀ (ws : List WEntry), (∀ e, e ∈ ws → WEOk P e) → findW ws f = some g → WOk P f g
  | [], _, h => by cases h
  | e :: l, hw, h => by
    simp only [findW] at h
    cases hb : Nat.beq e.f f
    · rw [hb] at h; exact findW_ok l (fun e' he' => hw e' (by simp [he'])) h
    · rw [hb] at h
      simp only [cond_true, Option.some.injEq] at h
      have e1 := Nat.eq_of_beq_eq_true hb
      rw [← h, ← e1]
      exact hw e (by simp)
theorem findR_ok {P : Program} {f : Nat} {g : RFun} : ∀ (ws : List REntry), (∀ e, e ∈ ws → REOk P e) → findR ws f = some g → ROk P f g
  | [], _, h => by cases h
  | e :: l, hw, h => by
    simp only [findR] at h
    cases hb : Nat.beq e.f f
    · rw [hb] at h; exact findR_ok l (fun e' he' => hw e' (by simp [he'])) h
    · rw [hb] at h
      simp only [cond_true, Option.some.injEq] at h
      have e1 := Nat.eq_of_beq_eq_true hb
      rw [← h, ← e1]
      exact hw e (by simp)
theorem tabW_ok {P : Program} {l : List Entry} {ks : List KEntry} {ms : List MEntry} {ws : List WEntry} {rs : List REntry} (hl : ∀ e, e ∈ l → EOk P e) (hk : ∀ e, e ∈ ks → KOk P e) (hm : ∀ e, e ∈ ms → MEOk P e) (hw : ∀ e, e ∈ ws → WEOk P e) (hr : ∀ e, e ∈ rs → REOk P e) : TOk P (tabW l ks ms ws rs) := by
  obtain ⟨_, h2, h3, _⟩ := tabM_ok (P := P) (l := l) (ks := ks) (ms := ms) hl hk hm
  exact ⟨tab_ok0 hl hk, h2, h3, fun _ _ h => findW_ok ws hw h, fun _ _ h => findR_ok rs hr h⟩
def evCW (P : Program) (l : List Entry) (ks : List KEntry) (ms : List MEntry) (ws : List WEntry) (rs : List REntry) (L : Nat → Option LFun) (c : Code) (s : St) (k : Kont) : Option Out := aCode P (tabW l ks ms ws rs) (drawnK P (tabW l ks ms ws rs)) L 40 c s k
def evGW (P : Program) (l : List Entry) (ks : List KEntry) (ms : List MEntry) (ws : List WEntry) (rs : List REntry) (L : Nat → Option LFun) (fn : Func) (args : List AV) (mem : List Row) (τ : List (Option Nat)) : Option Out := abodyG P (tabW l ks ms ws rs) (drawnK P (tabW l ks ms ws rs)) L 40 fn args mem τ
theorem wspec_of {P : Program} {f : Nat} {args : List AV} {mem mem1 : List Row} {v : AV} (h : GSpec P f args mem v mem1) : WSpec P f args mem v mem1 := by
  refine ⟨h.1, fun A0 R w0 E cargs hW hg hr => ?_⟩
  let R' : Nat → Prop := fun b => ∃ k c, E.O k = some (b, c) ∧ liveAt mem k = true
  have hW1 : Wd E.A R' E E mem := ⟨hW.rows, hW.small, fun _ h => h, fun k b c hb hl => ⟨(hW.own k b c hb hl).1, Or.inl ⟨k, c, hb, hl⟩⟩, hW.one, BelowR.refl _ _, Env.le.refl _⟩
  have hp : Pins mem.length E.A R' E := by
    refine ⟨fun k hk => ?_, fun b ⟨k, c, hb, _⟩ => ⟨k, c, hW.dom k b c hb, hb⟩, hW.small⟩
    cases hO : E.O k with
    | none => rfl
    | some p => have := hW.dom k p.1 p.2 hO; omega
  refine (h.2 R' E cargs hp hW1 hg hr).mono ?_
  rintro e w' ⟨u, E', rfl, rfl, hW2, hu⟩
  refine ⟨u, E', rfl, rfl, hW2.le0, ⟨hW2.rows, hW2.small, fun b hb => hW2.old b (hW.old b hb), fun k b c hb hl => ?_, hW2.one, ?_, hW.le0.trans hW2.le0⟩, hu⟩
  · obtain ⟨h1, h2⟩ := hW2.own k b c hb hl
    refine ⟨h1, ?_⟩
    rcases h2 with ⟨k', c', hb', hl'⟩ | h2
    · exact (hW.own k' b c' hb' hl').2
    · exact Or.inr (Nat.le_trans hW.below.size h2)
  · refine ⟨hW2.below.os.trans hW.below.os, hW2.below.tape.trans hW.below.tape, hW2.below.output.trans hW.below.output, Nat.le_trans hW.below.size hW2.below.size, fun b hb hn => (hW2.below.block b (Nat.lt_of_lt_of_le hb hW.below.size) ?_).trans (hW.below.block b hb hn)⟩
    rintro ⟨k, c, hb', hl⟩
    rcases (hW.own k b c hb' hl).2 with h | h
    · exact hn h
    · omega
def renRow (σ : Nat → Option Nat) : Row → Row
  | .c l => .c (renL σ l)
  | .t e l => .t e (renL σ l)
  | r => r
theorem renRow_live (σ : Nat → Option Nat) (r : Row) : (renRow σ r).live = r.live := by cases r <;> rfl
theorem pre_ren : ∀ (xs : List AV) {σ : Nat → Option Nat} {E : Env} {O' : Nat → Option (Nat × Nat × Nat)} (_ : ∀ k k' p, σ k = some k' → E.O k = some p → O' k' = some p) (us : List Value), pre E xs us → pre { E with O := O' } (renL σ xs) us
  | [], _, _, _, _, _, _ => by rw [renL]; exact pre_nil
  | x :: xs, σ, E, O', h, us, hp => by
    obtain ⟨u, us', rfl, h1, h2⟩ := pre_cons.1 hp
    rw [renL]
    exact pre_cons.2 ⟨u, us', rfl, relA_ren x h u h1, pre_ren xs h us' h2⟩
theorem renRow_rel {σ : Nat → Option Nat} {E : Env} {O' : Nat → Option (Nat × Nat × Nat)} (h : ∀ k k' p, σ k = some k' → E.O k = some p → O' k' = some p) {b : Nat} {c : Nat × Nat} {row : Row} (hr : rowRel E b c row) : rowRel { E with O := O' } b c (renRow σ row) := by
  cases row with
  | c l =>
    obtain ⟨cs, e, h1, h2⟩ := hr
    exact ⟨cs, e, h1, pre_ren l h _ h2⟩
  | a e sz n el => exact hr
  | dead => trivial
  | z x e sz n el => exact hr
  | i s p e => exact hr
  | t e l =>
    obtain ⟨cs, h1, h2, h3⟩ := hr
    exact ⟨cs, h1, pre_ren l h _ h2, by rw [renL_length]; exact h3⟩
end
end Go.Gv
