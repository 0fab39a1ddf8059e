/-
  Calls that are handed all of our rows, calls that look at rows of ours; texts one part behind the other.
-/
import Derived.Test.YtcdhdnfkcmjnpaaDoorC20
namespace Go.Gv
open Go.RowKit Go.Ev
noncomputable section

structure WEntry where
  f : Nat
  g : WFun
structure REntry where
  f : Nat
  g : RFun
def findW : List WEntry → Nat → Option WFun
  | [], _ => none
  | e :: l, f => cond (Nat.beq e.f f) (some e.g) (findW l f)
def findR : List REntry → Nat → Option RFun
  | [], _ => none
  | e :: l, f => cond (Nat.beq e.f f) (some e.g) (findR l f)
def tabW (l : List Entry) (ks : List KEntry) (ms : List MEntry) (ws : List WEntry) (rs : List REntry) : Tab := ⟨findE l, findK ks, findM ms, findN ms, findW ws, findR rs⟩
def WEOk (P : Program) (e : WEntry) : Prop := WOk P e.f e.g
def REOk (P : Program) (e : REntry) : Prop := ROk P e.f e.g
theorem findW_ok {P : Program} {f : Nat} {g : WFun} : ∀ (ws : List WEntry), (∀ e, e ∈ ws → WEOk P e) → findW ws f = some g → WOk P f g
  | [], _, h => by cases h
  | e :: l, hw, h => by
    simp only [findW] at h
    cases hb : Nat.beq e.f f
    · rw [hb] at h; exact findW_ok l (fun e' he' => hw e' (by simp [he'])) h
    · rw [hb] at h
      simp only [cond_true, Option.some.injEq] at h
      have e1 := Nat.eq_of_beq_eq_true hb
      rw [← h, ← e1]
      exact hw e (by simp)
theorem findR_ok {P : Program} {f : Nat} {g : RFun} : ∀ (ws : List REntry), (∀ e, e ∈ ws → REOk P e) → findR ws f = some g → ROk P f g
  | [], _, h => by cases h
  | e :: l, hw, h => by
    simp only [findR] at h
    cases hb : Nat.beq e.f f
    · rw [hb] at h; exact findR_ok l (fun e' he' => hw e' (by simp [he'])) h
    · rw [hb] at h
      simp only [cond_true, Option.some.injEq] at h
      have e1 := Nat.eq_of_beq_eq_true hb
      rw [← h, ← e1]
      exact hw e (by simp)
theorem tabW_ok {P : Program} {l : List Entry} {ks : List KEntry} {ms : List MEntry} {ws : List WEntry} {rs : List REntry} (hl : ∀ e, e ∈ l → EOk P e) (hk : ∀ e, e ∈ ks → KOk P e) (hm : ∀ e, e ∈ ms → MEOk P e) (hw : ∀ e, e ∈ ws → WEOk P e) (hr : ∀ e, e ∈ rs → REOk P e) : TOk P (tabW l ks ms ws rs) := by
  obtain ⟨_, h2, h3, _⟩ := tabM_ok (P := P) (l := l) (ks := ks) (ms := ms) hl hk hm
  exact ⟨tab_ok0 hl hk, h2, h3, fun _ _ h => findW_ok ws hw h, fun _ _ h => findR_ok rs hr h⟩
def evW (P : Program) (l : List Entry) (ks : List KEntry) (ms : List MEntry) (ws : List WEntry) (rs : List REntry) (L : Nat → Option LFun) (fn : Func) (args : List AV) (k : AV → Option Out) : Option Out := abody P (tabW l ks ms ws rs) (drawnK P (tabW l ks ms ws rs)) L 40 fn args k
def evCW (P : Program) (l : List Entry) (ks : List KEntry) (ms : List MEntry) (ws : List WEntry) (rs : List REntry) (L : Nat → Option LFun) (c : Code) (s : St) (k : Kont) : Option Out := aCode P (tabW l ks ms ws rs) (drawnK P (tabW l ks ms ws rs)) L 40 c s k
def evGW (P : Program) (l : List Entry) (ks : List KEntry) (ms : List MEntry) (ws : List WEntry) (rs : List REntry) (L : Nat → Option LFun) (fn : Func) (args : List AV) (mem : List Row) (τ : List (Option Nat)) : Option Out := abodyG P (tabW l ks ms ws rs) (drawnK P (tabW l ks ms ws rs)) L 40 fn args mem τ
/-! ### Contracts over all of our rows -/
theorem wspec_of {P : Program} {f : Nat} {args : List AV} {mem mem1 : List Row} {v : AV} (h : GSpec P f args mem v mem1) : WSpec P f args mem v mem1 := by
  refine ⟨h.1, fun A0 R w0 E cargs hW hg hr => ?_⟩
  let R' : Nat → Prop := fun b => ∃ k c, E.O k = some (b, c) ∧ liveAt mem k = true
  have hW1 : Wd E.A R' E E mem := ⟨hW.rows, hW.small, fun _ h => h, fun k b c hb hl => ⟨(hW.own k b c hb hl).1, Or.inl ⟨k, c, hb, hl⟩⟩, hW.one, BelowR.refl _ _, Env.le.refl _⟩
  have hp : Pins mem.length E.A R' E := by
    refine ⟨fun k hk => ?_, fun h0 => ⟨fun b ⟨k, c, hb, _⟩ => ?_, hW.small⟩⟩
    · cases hO : E.O k with
      | none => rfl
      | some p => have := hW.dom k p.1 p.2 hO; omega
    · have := hW.dom k b c hb; omega
  refine (h.2 R' E cargs hp hW1 hg hr).mono ?_
  rintro e w' ⟨u, E', rfl, rfl, hW2, hu⟩
  refine ⟨u, E', rfl, rfl, hW2.le0, ⟨hW2.rows, hW2.small, fun b hb => hW2.old b (hW.old b hb), fun k b c hb hl => ?_, hW2.one, ?_, hW.le0.trans hW2.le0⟩, hu⟩
  · obtain ⟨h1, h2⟩ := hW2.own k b c hb hl
    refine ⟨h1, ?_⟩
    rcases h2 with ⟨k', c', hb', hl'⟩ | h2
    · exact (hW.own k' b c' hb' hl').2
    · exact Or.inr (Nat.le_trans hW.below.size h2)
  · refine ⟨hW2.below.os.trans hW.below.os, hW2.below.tape.trans hW.below.tape, hW2.below.output.trans hW.below.output, Nat.le_trans hW.below.size hW2.below.size, fun b hb hn => (hW2.below.block b (Nat.lt_of_lt_of_le hb hW.below.size) ?_).trans (hW.below.block b hb hn)⟩
    rintro ⟨k, c, hb', hl⟩
    rcases (hW.own k b c hb' hl).2 with h | h
    · exact hn h
    · omega
/-- A contract over all of our rows, asked for where it is used. -/
def wS (P : Program) (f : Nat) (g : List AV → List Row → AV) (m : List AV → List Row → List Row) : WEntry := ⟨f, fun args mem => some (propB (GSpec P f args mem (g args mem) (m args mem)), g args mem, m args mem)⟩
theorem wS_ok {P : Program} {f : Nat} {g : List AV → List Row → AV} {m : List AV → List Row → List Row} : WEOk P (wS P f g m) := fun args mem v mem1 h => by
  have h : some (propB (GSpec P f args mem (g args mem) (m args mem)), g args mem, m args mem) = some (true, v, mem1) := h
  simp only [Option.some.injEq, Prod.mk.injEq] at h
  obtain ⟨h1, rfl, rfl⟩ := h
  exact wspec_of (propB_of h1)
/-! ### A pointer to a row of ours that holds one slice, looked at -/
def lookC (look : Nat → Option Row) : AV → Option (Bool × AV × List Nat)
  | .osl j sz 0 n => match look j with
    | some (.a _ sz' n' el) => some (Nat.beq sz sz' && Nat.ble n n', .sl sz n el, [j])
    | _ => none
  | .x v => some (true, .x v, [])
  | _ => none
def rS (P : Program) (f : Nat) (g : AV → AV) : REntry := ⟨f, fun args look => match args with
  | [.own k 0] => match look k with
    | some (.c [x]) => match lookC look x with
      | some (b, y, rd) => some (propB (FreshSpec P f [.ref [y] 0] (g y) ∧ noOwn (g y) = true) && b, g y, k :: rd)
      | none => none
    | _ => none
  | _ => none⟩
theorem lookC_good {E : Env} {mem : List Row} {look : Nat → Option Row} {x y : AV} {rd : List Nat} {u : Value} (hm : MemRel E mem) (h : lookC look x = some (true, y, rd)) (hl : ∀ k, k ∈ rd → mem[k]? = look k) (hr : rel E x u) : rel E.shut y u := by
  unfold lookC at h
  split at h
  · rename_i j sz n
    split at h
    · rename_i e sz' n' el hj
      simp only [Option.some.injEq, Prod.mk.injEq, Bool.and_eq_true] at h
      obtain ⟨⟨h1, h2⟩, rfl, rfl⟩ := h
      have h1 := Nat.eq_of_beq_eq_true h1
      subst h1
      have h2 := Nat.le_of_ble_eq_true h2
      have hmj : mem[j]? = some (.a e sz n' el) := (hl j (by simp)).trans hj
      rcases rel_osl.1 hr with ⟨_, h3, rfl⟩ | ⟨b, c, m, h3, h4, h5, rfl⟩
      · exact rel_sl.2 ⟨none, 0, by rw [h3], by omega, Or.inl h3⟩
      · obtain ⟨row, g1, g2⟩ := hm j b (c, m) h3
        rw [hmj] at g1
        cases g1
        obtain ⟨cs, k1, _, _, _, _, k6⟩ := g2
        refine rel_sl.2 ⟨_, _, rfl, by omega, Or.inr ⟨b, 0 * sz, cs, e, (0, 0), rfl, fun h => h, k1, fun i hi => ?_⟩⟩
        obtain ⟨k7, k8⟩ := k6 i (by omega)
        refine ⟨k7, ?_⟩
        rw [Nat.zero_mul, Nat.zero_add]
        exact pre_le (E := E.fz) (E' := E.shut.fz) ⟨fun b' hb ob hob => ⟨fun h => h, hob⟩, fun _ _ hb => by cases hb⟩ k8
    · cases h
  · rename_i v
    simp only [Option.some.injEq, Prod.mk.injEq, true_and] at h
    obtain ⟨rfl, rfl⟩ := h
    rw [rel_x.1 hr]
    exact rel_x.2 rfl
  · cases h
theorem lookC_par {look look' : Nat → Option Row} {x y : AV} {b : Bool} {rd : List Nat} (h : lookC look x = some (b, y, rd)) (hl : ∀ k, k ∈ rd → look k = look' k) : lookC look' x = some (b, y, rd) := by
  have h0 := h
  unfold lookC at h ⊢
  split at h
  · rename_i j sz n
    split at h
    · rename_i e sz' n' el hj
      simp only [Option.some.injEq, Prod.mk.injEq] at h
      rw [← hl j (by rw [← h.2.2]; simp), hj]
      simp only [Option.some.injEq, Prod.mk.injEq]
      exact h
    · cases h
  · exact h
  · cases h
theorem rS_ok {P : Program} {f : Nat} {g : AV → AV} : REOk P (rS P f g) := by
  refine ⟨fun args look look' b v rd h hl => ?_, fun args look v rd h => ?_⟩
  · simp only [rS] at h ⊢
    split at h
    · rename_i k
      split at h
      · rename_i x hk
        split at h
        · rename_i b' y rd' hx
          have h' := h
          simp only [Option.some.injEq, Prod.mk.injEq] at h'
          obtain ⟨_, _, rfl⟩ := h'
          rw [← hl k (by simp), hk]
          simp only
          rw [lookC_par hx fun j hj => hl j (by simp [hj])]
          exact h
        · cases h
      · cases h
    · cases h
  · simp only [rS] at h
    split at h
    · rename_i k
      split at h
      · rename_i x hk
        split at h
        · rename_i b' y rd' hx
          simp only [Option.some.injEq, Prod.mk.injEq, Bool.and_eq_true] at h
          obtain ⟨⟨h1, rfl⟩, rfl, rfl⟩ := h
          obtain ⟨hF, hno⟩ := propB_of h1
          refine ⟨hF.1, fun A0 R w0 E mem cargs hW hl hg hr => ?_⟩
          have hg' : glob (Env.shut E) := glob_O (glob_le (E := E) (E' := ⟨E.w, fun _ => False, E.O⟩) ⟨fun _ _ _ hob => ⟨id, hob⟩, fun _ _ h => h⟩ hg) _
          obtain ⟨u, us, e1, r1, r2⟩ := rels_cons.1 hr
          have e2 := rels_nil.1 r2
          subst e2
          obtain ⟨b, c, hO, rfl⟩ := rel_own.1 r1
          obtain ⟨row, g1, g2⟩ := hW.rows k b c hO
          rw [hl k (by simp), hk] at g1
          cases g1
          obtain ⟨cs, e, k1, k2⟩ := g2
          obtain ⟨u0, us0, e3, p1, _⟩ := pre_cons.1 k2
          have p2 := lookC_good hW.rows hx (fun j hj => hl j (by simp [hj])) p1
          have hr' : rels E.shut [.ref [y] 0] cargs.toList := by
            rw [e1]
            refine rels_cons.2 ⟨_, _, rfl, rel_ref.2 ⟨b, 0, cs, e, (0, 0), rfl, fun h => h, k1, ?_⟩, rels_nil.2 rfl⟩
            rw [List.drop_zero, e3]
            exact pre_cons.2 ⟨u0, us0, rfl, p2, pre_nil⟩
          refine (hF.2 E.w cargs hr' hg').mono ?_
          rintro e' w' ⟨v', rfl, hv, hbel⟩
          exact ⟨v', rfl, relA_noOwn (g y) (E := ⟨w', fun b => b < E.w.heap.size, fun _ => none⟩) (E' := { E with w := w' }) (fun b hnb ob hob => ⟨fun hA => hnb (hW.small b hA), hob⟩) hno v' hv, hbel⟩
        · cases h
      · cases h
    · cases h
/-! ### New rows that hold new rows -/
def renRow (σ : Nat → Option Nat) : Row → Row
  | .c l => .c (renL σ l)
  | r => r
theorem renRow_live (σ : Nat → Option Nat) (r : Row) : (renRow σ r).live = r.live := by cases r <;> rfl
theorem pre_ren : ∀ (xs : List AV) {σ : Nat → Option Nat} {E : Env} {O' : Nat → Option (Nat × Nat × Nat)} (_ : ∀ k k' p, σ k = some k' → E.O k = some p → O' k' = some p) (us : List Value), pre E xs us → pre { E with O := O' } (renL σ xs) us
  | [], _, _, _, _, _, _ => by rw [renL]; exact pre_nil
  | x :: xs, σ, E, O', h, us, hp => by
    obtain ⟨u, us', rfl, h1, h2⟩ := pre_cons.1 hp
    rw [renL]
    exact pre_cons.2 ⟨u, us', rfl, relA_ren x h u h1, pre_ren xs h us' h2⟩
theorem renRow_rel {σ : Nat → Option Nat} {E : Env} {O' : Nat → Option (Nat × Nat × Nat)} (h : ∀ k k' p, σ k = some k' → E.O k = some p → O' k' = some p) {b : Nat} {c : Nat × Nat} {row : Row} (hr : rowRel E b c row) : rowRel { E with O := O' } b c (renRow σ row) := by
  cases row with
  | c l =>
    obtain ⟨cs, e, h1, h2⟩ := hr
    exact ⟨cs, e, h1, pre_ren l h _ h2⟩
  | a e sz n el => exact hr
  | dead => trivial
  | z x e sz n el => exact hr
theorem nspec_ofC {P : Program} {f : Nat} {args : List AV} {v : AV} {mem1 : List Row} (h : GSpec P f args [] v mem1) (hno : noOwns args = true) (nk : Nat) : NSpec P f args nk (renA (upA nk mem1.length) v) (mem1.map (renRow (upA nk mem1.length))) := by
  refine ⟨h.1, fun A0 R w0 E mem mem' cargs hW hnk0 hg hr happ0 => ?_⟩
  have hlen : (mem1.map (renRow (upA nk mem1.length))).length = mem1.length := List.length_map ..
  have hnk : ∀ i, i < mem1.length → E.O (nk + i) = none := fun i hi => hnk0 i (by rw [hlen]; exact hi)
  have happ : (∀ k, (k < nk ∨ nk + mem1.length ≤ k) → ∀ b c, E.O k = some (b, c) → mem'[k]? = mem[k]?) ∧ ∀ (i : Nat) (row : Row), mem1[i]? = some row → mem'[nk + i]? = some (renRow (upA nk mem1.length) row) := by
    refine ⟨fun k hk => happ0.1 k (by rw [hlen]; exact hk), fun i row hi => happ0.2 i _ ?_⟩
    rw [List.getElem?_map, hi]
    rfl
  let E1 : Env := { E with O := fun _ => none }
  have hW1 : Wd E1.A (fun _ => False) E1 E1 [] := ⟨fun _ _ _ hb => (by cases hb), hW.small, fun _ h => h, fun _ _ _ hb => (by cases hb), fun _ _ _ _ _ hb => (by cases hb), BelowR.refl _ _, Env.le.refl _⟩
  have hr1 : rels E1 args cargs.toList := relsA_noOwn args (E := E) (E' := E1) (fun b h1 ob h2 => ⟨h1, h2⟩) hno _ hr
  refine (h.2 (fun _ => False) E1 cargs ⟨fun _ _ => rfl, fun _ => ⟨fun _ h => h, hW.small⟩⟩ hW1 (glob_O hg _) hr1).mono ?_
  rintro e w' ⟨u, E', rfl, rfl, hW2, hrel⟩
  let O2 : Nat → Option (Nat × Nat × Nat) := fun k => if nk ≤ k ∧ k < nk + mem1.length then E'.O (k - nk) else E.O k
  let E2 : Env := { E' with O := O2 }
  have lo : ∀ k, ¬ (nk ≤ k ∧ k < nk + mem1.length) → O2 k = E.O k := fun k hk => by show (if nk ≤ k ∧ k < nk + mem1.length then _ else _) = _; rw [if_neg hk]
  have hi : ∀ k, (nk ≤ k ∧ k < nk + mem1.length) → O2 k = E'.O (k - nk) := fun k hk => by show (if nk ≤ k ∧ k < nk + mem1.length then _ else _) = _; rw [if_pos hk]
  have hout : ∀ k p, E.O k = some p → ¬ (nk ≤ k ∧ k < nk + mem1.length) := fun k p hp hk => by
    have := hnk (k - nk) (by omega)
    rw [show nk + (k - nk) = k by omega, hp] at this
    cases this
  have hle : E.le E2 := ⟨hW2.le0.keep, fun k p hp => by show O2 k = some p; rw [lo k (hout k p hp)]; exact hp⟩
  have mlo : ∀ k b c, E.O k = some (b, c) → mem'[k]? = mem[k]? := fun k b c hb => happ.1 k (by have := hout k _ hb; omega) b c hb
  have mhi : ∀ k row, (nk ≤ k ∧ k < nk + mem1.length) → mem1[k - nk]? = some row → mem'[k]? = some (renRow (upA nk mem1.length) row) := fun k row hk hr => by
    have := happ.2 (k - nk) row hr
    rw [show nk + (k - nk) = k by omega] at this
    exact this
  have llo : ∀ k b c, E.O k = some (b, c) → liveAt mem' k = liveAt mem k := fun k b c hb => by unfold liveAt; rw [mlo k b c hb]
  have lhi : ∀ k, (nk ≤ k ∧ k < nk + mem1.length) → liveAt mem' k = liveAt mem1 (k - nk) := fun k hk => by
    have hg : mem1[k - nk]? = some (mem1[k - nk]'(by omega)) := List.getElem?_eq_getElem (by omega)
    unfold liveAt
    rw [mhi k _ hk hg, hg]
    exact renRow_live _ _
  have cross : ∀ k k' b c c', ¬ (nk ≤ k ∧ k < nk + mem1.length) → (nk ≤ k' ∧ k' < nk + mem1.length) → O2 k = some (b, c) → O2 k' = some (b, c') → liveAt mem' k = true → liveAt mem' k' = true → False := by
    intro k k' b c c' hk hk' hb hb' hl hl'
    rw [lo k hk] at hb
    rw [hi k' hk'] at hb'
    rw [llo k b c hb] at hl
    rw [lhi k' hk'] at hl'
    have h1 := hW.small b (hW.own k b c hb hl).1
    rcases (hW2.own _ b c' hb' hl').2 with h2 | h2
    · exact h2
    · have h2 : E.w.heap.size ≤ b := h2
      omega
  refine ⟨u, E2, rfl, rfl, hle, fun k p hp => ?_, ⟨?_, hW2.small, fun b hb => hW2.old b (hW.old b hb), ?_, ?_, ?_, hW.le0.trans hle⟩, relA_ren v (fun i k' p hs hp => by
    have hlt : i < mem1.length := by
      obtain ⟨row, g1, _⟩ := hW2.rows i p.1 p.2 hp
      exact (List.getElem?_eq_some_iff.1 g1).1
    have := upA_some hs
    subst this
    show O2 (nk + i) = some p
    rw [hi _ (by omega), Nat.add_sub_cancel_left]
    exact hp) u hrel⟩
  · have hp : O2 k = some p := hp
    rw [hlen]
    by_cases hk : nk ≤ k ∧ k < nk + mem1.length
    · exact Or.inr hk
    · rw [lo k hk] at hp
      exact Or.inl hp
  · intro k b c hb
    have hb : O2 k = some (b, c) := hb
    by_cases hk : nk ≤ k ∧ k < nk + mem1.length
    · rw [hi k hk] at hb
      obtain ⟨row, g1, g2⟩ := hW2.rows _ b c hb
      exact ⟨_, mhi k row hk g1, renRow_rel (E := E') (fun i k' p hs hp => by
        have hlt : i < mem1.length := by
          obtain ⟨row, g1, _⟩ := hW2.rows i p.1 p.2 hp
          exact (List.getElem?_eq_some_iff.1 g1).1
        have := upA_some hs
        subst this
        show O2 (nk + i) = some p
        rw [hi _ (by omega), Nat.add_sub_cancel_left]
        exact hp) g2⟩
    · rw [lo k hk] at hb
      obtain ⟨row, g1, g2⟩ := hW.rows k b c hb
      refine ⟨row, by rw [mlo k b c hb]; exact g1, rowRel_keep hle g2 fun hlv => ?_⟩
      have hlk : liveAt mem k = true := by unfold liveAt; rw [g1]; exact hlv
      exact hW2.below.block b (hW.small b (hW.own k b c hb hlk).1) (fun h => h)
  · intro k b c hb hl
    have hb : O2 k = some (b, c) := hb
    by_cases hk : nk ≤ k ∧ k < nk + mem1.length
    · rw [hi k hk] at hb
      rw [lhi k hk] at hl
      obtain ⟨g1, g2⟩ := hW2.own _ b c hb hl
      refine ⟨g1, Or.inr ?_⟩
      rcases g2 with g2 | g2
      · exact g2.elim
      · exact Nat.le_trans hW.below.size g2
    · rw [lo k hk] at hb
      rw [llo k b c hb] at hl
      obtain ⟨g1, g2⟩ := hW.own k b c hb hl
      exact ⟨hW2.old b g1, g2⟩
  · intro k k' b c c' hb hb' hl hl'
    have hb : O2 k = some (b, c) := hb
    have hb' : O2 k' = some (b, c') := hb'
    by_cases hk : nk ≤ k ∧ k < nk + mem1.length
    · by_cases hk' : nk ≤ k' ∧ k' < nk + mem1.length
      · rw [hi k hk] at hb
        rw [hi k' hk'] at hb'
        rw [lhi k hk] at hl
        rw [lhi k' hk'] at hl'
        have := hW2.one _ _ b c c' hb hb' hl hl'
        omega
      · exact (cross k' k b c' c hk' hk hb' hb hl' hl).elim
    · by_cases hk' : nk ≤ k' ∧ k' < nk + mem1.length
      · exact (cross k k' b c c' hk hk' hb hb' hl hl').elim
      · rw [lo k hk] at hb
        rw [lo k' hk'] at hb'
        rw [llo k b c hb] at hl
        rw [llo k' b c' hb'] at hl'
        exact hW.one k k' b c c' hb hb' hl hl'
  · exact ⟨hW2.below.os.trans hW.below.os, hW2.below.tape.trans hW.below.tape, hW2.below.output.trans hW.below.output, Nat.le_trans hW.below.size hW2.below.size, fun b hb hn => (hW2.below.block b (Nat.lt_of_lt_of_le hb hW.below.size) (fun h => h)).trans (hW.below.block b hb hn)⟩
def manyCC (P : Program) (f : Nat) (g : List AV → AV) (m : List AV → List Row) : NFun := fun args nk => cond (noOwns args) (some (propB (GSpec P f args [] (g args) (m args)), renA (upA nk (m args).length) (g args), (m args).map (renRow (upA nk (m args).length)))) none
/-- A call that hands several new rows back, which are ours then, and may hold one another. -/
def mRC (P : Program) (f : Nat) (g : List AV → AV) (m : List AV → List Row) : MEntry := ⟨f, fun _ _ _ => none, some (manyCC P f g m)⟩
theorem mRC_ok {P : Program} {f : Nat} {g : List AV → AV} {m : List AV → List Row} : MEOk P (mRC P f g m) := by
  refine ⟨⟨fun _ _ _ _ h => (by cases h), fun _ _ _ _ _ _ h => (by cases h)⟩, fun g' hg' => ?_⟩
  have hg' : some (manyCC P f g m) = some g' := hg'
  simp only [Option.some.injEq] at hg'
  subst hg'
  intro args nk v mem1 h
  unfold manyCC at h
  cases hb : noOwns args
  · rw [hb] at h; cases h
  · rw [hb] at h
    simp only [cond_true, Option.some.injEq, Prod.mk.injEq] at h
    obtain ⟨h1, rfl, rfl⟩ := h
    exact nspec_ofC (propB_of h1) hb nk
/-! ### Texts, one part behind the other -/
theorem leads_seq {np : Nat} {P : Program} {x y : Code} {s s1 s2 : St} {e : Exit} (h1 : LeadsN np P x s .normal s1) (h2 : LeadsN np P y s1 e s2) : LeadsN np P (.seq x y) s e s2 := fun A0 R w0 E a hp hI => by
  refine wp_seq (Go.Code.wp_mono ?_ (h1 A0 R w0 E a hp hI))
  rintro e' a' w' ⟨rfl, E', rfl, hI'⟩
  exact h2 A0 R w0 E' a' hp hI'
theorem leads_block {np : Nat} {P : Program} {id : Nat} {c : Code} {s s1 : St} (h1 : LeadsN np P c s .normal s1) : LeadsN np P (.block id c) s .normal s1 := fun A0 R w0 E a hp hI => by
  refine wp_block (Go.Code.wp_mono ?_ (h1 A0 R w0 E a hp hI))
  rintro e' a' w' ⟨rfl, E', rfl, hI'⟩
  exact ⟨rfl, E', rfl, hI'⟩
def codeL : Code → Code
  | .seq x _ => x
  | .block _ x => x
  | _ => .skip
def codeR : Code → Code
  | .seq _ y => y
  | _ => .skip
end
end Go.Gv
