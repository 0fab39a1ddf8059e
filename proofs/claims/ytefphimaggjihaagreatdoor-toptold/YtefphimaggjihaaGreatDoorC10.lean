/-
  A contract over rows, out of a function's text.
-/
import Derived.Test.YtefphimaggjihaaGreatDoorC9
namespace Go.Gv
open Go.RowKit Go.Ev
noncomputable section

theorem wd_ofN {np : Nat} {A0 R : Nat → Prop} {w0 E : Env} {mem mem' : List Row} (τ : List (Option Nat)) (hpin : ∀ k, k < np → τ[k]? = some (some k)) (hd : distinct τ = true) (hp0 : Pins np A0 R w0) (hW : Wd A0 R w0 E mem) (h2 : RowSubs τ mem τ mem') :
    ∃ O', Wd A0 R w0 { E with O := O' } mem' ∧ ∀ k k' p, renOf τ k = some k' → E.O k = some p → O' k' = some p := by
  let O' : Nat → Option (Nat × Nat × Nat) := fun k' => (τ[k']?).bind fun o => o.bind E.O
  have hO : ∀ k k' p, renOf τ k = some k' → E.O k = some p → O' k' = some p := fun k k' p hk hp => by
    show ((τ[k']?).bind fun o => o.bind E.O) = some p
    rw [renOf_some hk]
    exact hp
  have back : ∀ k' p, O' k' = some p → ∃ k, τ[k']? = some (some k) ∧ E.O k = some p := fun k' p hp => by
    have hp' : ((τ[k']?).bind fun o => o.bind E.O) = some p := hp
    cases hx : τ[k']? with
    | none => rw [hx] at hp'; cases hp'
    | some o =>
      rw [hx] at hp'
      cases o with
      | none => cases hp'
      | some k => exact ⟨k, rfl, hp'⟩
  have lives : ∀ k' k, τ[k']? = some (some k) → liveAt mem' k' = true → liveAt mem k = true := fun k' k hk hl => by
    obtain ⟨row, row', g1, g2, g3⟩ := h2.get k' k hk
    unfold liveAt at hl ⊢
    rw [g2] at hl
    rw [g1]
    exact g3.live hl
  refine ⟨O', ⟨?_, hW.small, hW.old, ?_, ?_, hW.below, ⟨hW.le0.keep, fun k p hk => ?_⟩⟩, hO⟩
  · intro k' b c hb
    obtain ⟨k, hk, hb'⟩ := back k' _ hb
    obtain ⟨row, row', g1, g2, g3⟩ := h2.get k' k hk
    obtain ⟨row0, g4, g5⟩ := hW.rows k b c hb'
    rw [g1] at g4
    cases g4
    exact ⟨row', g2, g3.rel hO g5⟩
  · intro k' b c hb hl
    obtain ⟨k, hk, hb'⟩ := back k' _ hb
    exact hW.own k b c hb' (lives k' k hk hl)
  · intro k' k'' b c c' hb hb' hl hl'
    obtain ⟨k, hk, hbk⟩ := back k' _ hb
    obtain ⟨k2, hk2, hbk2⟩ := back k'' _ hb'
    have := hW.one k k2 b c c' hbk hbk2 (lives k' k hk hl) (lives k'' k2 hk2 hl')
    subst this
    exact distinct_get hd k' k'' k hk hk2
  · have hlt : k < np := Nat.lt_of_not_le fun hc => by rw [hp0.1 k hc] at hk; cases hk
    show ((τ[k]?).bind fun o => o.bind E.O) = some p
    rw [hpin k hlt]
    exact hW.le0.own k p hk
/-- What is handed back: the rows that are kept. -/
def outG (P : Program) (fn : Func) (τ : List (Option Nat)) (s : St) : Option Out := cond (fgtOk τ s) (match aresultsL P s fn.results.toList with
  | some [v] => some ⟨.normal, ⟨[], keepR τ s.mem τ⟩, renA (renOf τ) v⟩
  | some vs => some ⟨.normal, ⟨[], keepR τ s.mem τ⟩, .tup (renL (renOf τ) vs)⟩
  | none => none) none
def retG (P : Program) (fn : Func) (τ : List (Option Nat)) : Kont := fun e s => match e with
  | .normal => outG P fn τ s
  | .ret => outG P fn τ s
  | _ => none
def abodyG (P : Program) (T : Tab) (D : List Oper → St → SK → Option Out) (L : Nat → Option LFun) (N : Nat) (fn : Func) (args : List AV) (mem : List Row) (τ : List (Option Nat)) : Option Out :=
  match fn.body with
  | some c => aCode P T D L N c (start fn mem args) (retG P fn τ)
  | none => none
def pinT (np : Nat) (τ : List (Option Nat)) : Bool := (List.range np).all fun k => match τ[k]? with
  | some (some k') => Nat.beq k' k
  | _ => false
theorem pinT_get {np : Nat} {τ : List (Option Nat)} (h : pinT np τ = true) : ∀ k, k < np → τ[k]? = some (some k) := fun k hk => by
  unfold pinT at h
  have := List.all_eq_true.1 h k (List.mem_range.2 hk)
  split at this
  · rename_i k' hx
    have e := Nat.eq_of_beq_eq_true this
    subst e
    exact hx
  · cases this
theorem outG_run {P : Program} {fn : Func} {A0 R : Nat → Prop} {w0 E : Env} {s : St} {a : Act} {np : Nat} {τ : List (Option Nat)} (hpin : pinT np τ = true) (hp0 : Pins np A0 R w0) (hI : Inv A0 R w0 E s a) {v : AV} {mem1 : List Row} (h : outG P fn τ s = some ⟨.normal, ⟨[], mem1⟩, v⟩) :
    ∃ u E', (results fn a.tmps).run P E.w = .ok u E.w ∧ E'.w = E.w ∧ Wd A0 R w0 E' mem1 ∧ rel E' v u := by
  unfold outG at h
  cases hf : fgtOk τ s
  · rw [hf] at h; cases h
  · rw [hf] at h
    simp only [cond_true] at h
    unfold fgtOk at hf
    simp only [Bool.and_eq_true] at hf
    obtain ⟨O', hW, hO⟩ := wd_ofN τ (pinT_get hpin) hf.1 hp0 hI.wd (keepR_sub τ hf.2)
    cases hl : aresultsL P s fn.results.toList with
    | none => simp [hl] at h
    | some xs =>
      obtain ⟨vs, h1, h2⟩ := aresultsL_run hI hl
      have hlen := rels_length h2
      have hrun : (results fn a.tmps).run P E.w = .ok (if h : vs.toArray.size = 1 then vs.toArray[0] else .tuple vs.toArray) E.w := by
        rw [results_eq]
        simp only [Sem.run_bind, Sem.run_map, h1, Result.andThen_ok, Sem.run_pure]
      rw [hrun]
      rw [hl] at h
      have many : ∀ (_ : vs.length ≠ 1), rel { E with O := O' } (.tup (renL (renOf τ) xs)) (if h : vs.toArray.size = 1 then vs.toArray[0] else .tuple vs.toArray) := by
        intro hne
        rw [dif_neg (by simpa using hne)]
        exact rel_tup.2 ⟨vs.toArray, rfl, relsA_ren xs hO vs h2⟩
      match xs, vs, hlen, h2, h, many with
      | [y], [v'], _, h2, h, _ =>
        simp only [Option.some.injEq, Out.mk.injEq, St.mk.injEq, true_and] at h
        obtain ⟨rfl, rfl⟩ := h
        obtain ⟨v2, _, e1, h3, _⟩ := rels_cons.1 h2
        cases e1
        exact ⟨_, { E with O := O' }, rfl, rfl, hW, relA_ren y hO v' h3⟩
      | [], [], _, _, h, many =>
        simp only [Option.some.injEq, Out.mk.injEq, St.mk.injEq, true_and] at h
        obtain ⟨rfl, rfl⟩ := h
        exact ⟨_, { E with O := O' }, rfl, rfl, hW, many (by simp)⟩
      | _ :: _ :: _, _ :: _ :: _, _, _, h, many =>
        simp only [Option.some.injEq, Out.mk.injEq, St.mk.injEq, true_and] at h
        obtain ⟨rfl, rfl⟩ := h
        exact ⟨_, { E with O := O' }, rfl, rfl, hW, many (by simp)⟩
/-- A CONTRACT OVER ROWS, OUT OF THE TEXT. -/
theorem gspec_of_body {P : Program} {T : Tab} {D : List Oper → St → SK → Option Out} {L : Nat → Option LFun} (hT : TOk P T) (hD : DOk P D) (N : Nat) {f : Nat} {fn : Func} (hf : P.funcs[f]? = some fn) (hnm : (fn.name == "runtime.NumGoroutine") = false) {c : Code} (hb : fn.body = some c)
    {args : List AV} {mem : List Row} (hL : LOkN mem.length P L c) (hlen : Nat.ble args.length fn.ntmps = true) {τ : List (Option Nat)} (hpin : pinT mem.length τ = true) {v : AV} {mem1 : List Row} (h : abodyG P T D L N fn args mem τ = some ⟨.normal, ⟨[], mem1⟩, v⟩) : GSpec P f args mem v mem1 := by
  unfold abodyG at h
  rw [hb] at h
  simp only at h
  refine ⟨⟨fn, hf, hnm, by rw [hb]; rfl⟩, fun R E cargs hp hW hg hv => ?_⟩
  have hlen' : args.length ≤ fn.ntmps := Nat.le_of_ble_eq_true hlen
  refine calls_of_wp hf hb ?_
  have hI : Inv E.A R E E (start fn mem args) { tmps := cargs ++ Array.replicate (fn.ntmps - cargs.size) undef, defers := [] } := ⟨rfl, start_frel hg hv hlen', hW⟩
  refine Go.Code.wp_mono ?_ (aCode_wp hp hT hD N c hL hI h)
  rintro e a' w' ⟨E', s', rfl, hI', he⟩
  cases e <;> simp only [retG] at he <;> first | (cases he; done) | skip
  all_goals
    obtain ⟨u, E2, h1, h2, h3, h4⟩ := outG_run hpin hp hI' he
    exact ⟨hI'.defers, u, h1, u, E2, rfl, h2, h3, h4⟩
def evM (P : Program) (l : List Entry) (ks : List KEntry) (ms : List MEntry) (L : Nat → Option LFun) (fn : Func) (args : List AV) (k : AV → Option Out) : Option Out := abody P (tabM l ks ms) (drawnK P (tabM l ks ms)) L 40 fn args k
def gout (v : AV) (mem1 : List Row) : Option Out := some ⟨.normal, ⟨[], mem1⟩, v⟩
theorem spec_of_evM {P : Program} {l : List Entry} {ks : List KEntry} {ms : List MEntry} {L : Nat → Option LFun} (hl : ∀ e, e ∈ l → EOk P e) (hk : ∀ e, e ∈ ks → KOk P e) (hms : ∀ e, e ∈ ms → MEOk P e) (hm : P.follows .mixedOrders = true) {f : Nat} {fn : Func} (hf : P.funcs[f]? = some fn) (hnm : (fn.name == "runtime.NumGoroutine") = false) {c : Code} (hb : fn.body = some c) (hL : LOk P L c)
    {args : List AV} (hlen : Nat.ble args.length fn.ntmps = true) {r : AV} (h : evM P l ks ms L fn args ret = some (Out.of r)) : FSpec P f args r :=
  spec_of_body (tabM_ok hl hk hms) (drawnK_ok (tabM_ok hl hk hms) hm) 40 hf hnm hb hL hlen h
end
end Go.Gv
