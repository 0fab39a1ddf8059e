/-
  Helpers of no particular program: entries, loops, numbers, contracts that are asked for where they are used.
-/
import Derived.Test.YtngjiggplabfkaaGreatC10
import Derived.Test.YtngjiggplabfkaaGreatC12
import Derived.Test.YtngjiggplabfkaaGreatC13
import Derived.Test.YtngjiggplabfkaaGreatC14
import Derived.Test.YtngjiggplabfkaaGreatC15
namespace Go.Gv
/-- Where a loop is left by a return. -/
noncomputable def finR (keep : List Nat) (τ : List (Option Nat)) : Kont := fun e s => match e with
  | .ret => finF keep τ .ret s
  | _ => none
theorem finR_sub (keep : List Nat) (τ : List (Option Nat)) : KSub (finR keep τ) := fun e s o h => by
  unfold finR at h
  cases e <;> simp only at h <;> first | (cases h; done) | exact finF_sub keep τ _ s o h
end Go.Gv
namespace Go.Proofs.YtngjiggplabfkaaGreat
open Go.Gv

/-- A row of whole numbers; of bytes. -/
def sI (n : Nat) (g : Nat → Int) : AV := .sl 1 n fun i => [iA (g i)]
def ixB (i : Int) (n : Nat) : Bool := decide (0 ≤ i) && decide (i < n)
theorem ixB_t {i n : Nat} (h : i < n) : ixB (i : Nat) n = true := by unfold ixB; rw [dec_nonneg, dec_lt h]; rfl
def isId (o : Option Nat) (i : Nat) : Bool := match o with | some k => Nat.beq k i | none => false
/-- The loop with this number is told. -/
theorem lok_at {P : Program} {c : Code} {i : Nat} {g : LFun} (j0 m : Nat) (hlen : (loopsOf c).length = m) (hno : ((List.range m).all fun j => Nat.beq j j0 || !(isId (firstId ((loopsOf c).getD j .skip)) i)) = true) (h : LSound P ((loopsOf c).getD j0 .skip) g) : LOk P (oneL i g) c :=
  lok_one m hlen fun j hj hid => by
    rw [List.all_eq_true] at hno
    have := hno j (List.mem_range.2 hj)
    rw [hid] at this
    simp [isId] at this
    subst this
    exact h
theorem lok_none {P : Program} {c : Code} (i : Nat) : LOk P (oneL i fun _ _ => none) c := by
  intro c' _ i' g' _ hg
  unfold oneL at hg
  cases hb : Nat.beq i' i
  · rw [hb] at hg; cases hg
  · rw [hb] at hg
    cases hg
    constructor
    · intro s k r hr; cases hr
    · intro s s' e' hk
      have := hk fun e s => some ⟨e, s, .any⟩
      cases this
/-- A contract that is asked for where it is used. -/
noncomputable def kS (P : Program) (f : Nat) (g : List AV → AV) : KEntry := ⟨f, fun args k => gate (FSpec P f args (g args)) (k (g args))⟩
theorem kS_ok {P : Program} {f : Nat} {g : List AV → AV} : KOk P (kS P f g) := by
  constructor
  · intro args k o ho
    simp only [kS] at ho ⊢
    obtain ⟨hp, ho⟩ := gate_some ho
    exact ⟨g args, ho, fun k' => by rw [gate_pos hp]⟩
  · intro args v hv
    have h1 := hv fun x => some (Out.of x)
    simp only [kS] at h1
    obtain ⟨hp, h1⟩ := gate_some h1
    simp only [Option.some.injEq, Out.of, Out.mk.injEq, true_and] at h1
    subst h1
    exact Or.inl hp
theorem gspecG {l : List Entry} {ks : List KEntry} {ms : List MEntry} {L : Nat → Option LFun} (hl : ∀ e, e ∈ l → EOk Tryz.prog e) (hks : ∀ e, e ∈ ks → KOk Tryz.prog e) (hms : ∀ e, e ∈ ms → MEOk Tryz.prog e) {f : Nat} {fn : Func} (hf : Tryz.prog.funcs[f]? = some fn) (hnm : (fn.name == "runtime.NumGoroutine") = false) (hb : fn.body = some (bodyOf fn))
    {args : List AV} {mem : List Row} (hL : LOkN mem.length Tryz.prog L (bodyOf fn)) (hlen : Nat.ble args.length fn.ntmps = true) {τ : List (Option Nat)} (hpin : pinT mem.length τ = true) {v : AV} {mem1 : List Row} (h : evG Tryz.prog l ks ms L fn args mem τ = gout v mem1) : GSpec Tryz.prog f args mem v mem1 :=
  spec_of_evG hl hks hms (by kernel_rfl) hf hnm hb hL hlen hpin h
theorem m_nil {P : Program} : ∀ e, e ∈ ([] : List MEntry) → MEOk P e := fun _ h => by cases h
theorem m_cons {P : Program} {e : MEntry} {l : List MEntry} (h : MEOk P e) (hl : ∀ e, e ∈ l → MEOk P e) : ∀ e', e' ∈ e :: l → MEOk P e' := fun e' he => by
  rcases List.mem_cons.1 he with rfl | he
  · exact h
  · exact hl e' he
theorem mixI (b : Bool) (a c : Int) : mixL b [iA a] [iA c] = [iA (cond b a c)] := by unfold iA; simp only [mixL, mixA, decide_true, cond_true]
theorem blt_t {a b : Nat} (h : a < b) : Nat.blt a b = true := Nat.ble_eq_true_of_le h
theorem not_blt {q m : Nat} (h : Nat.blt q m = false) : m ≤ q := Nat.le_of_not_lt fun hc => by
  rw [blt_t hc] at h; cases h
/-- The first place at which something holds. -/
theorem first_of (Q : Nat → Prop) : ∀ m, Q m → ∃ K, K ≤ m ∧ Q K ∧ ∀ k, k < K → ¬ Q k := by
  intro m
  induction m using Nat.strongRecOn with
  | ind m ih =>
    intro h
    by_cases hc : ∃ k, k < m ∧ Q k
    · obtain ⟨k, hk, hq⟩ := hc
      obtain ⟨K, h1, h2, h3⟩ := ih k hk hq
      exact ⟨K, by omega, h2, h3⟩
    · exact ⟨m, Nat.le_refl _, h, fun k hk hq => hc ⟨k, hk, hq⟩⟩
/-- All of them, or the first one that isn't. -/
theorem all_or_first (p : Nat → Bool) (n : Nat) : (∀ i, i < n → p i = true) ∨ ∃ K, K < n ∧ p K = false ∧ ∀ i, i < K → p i = true := by
  by_cases h : ∃ i, i < n ∧ p i = false
  · obtain ⟨i, hi, hp⟩ := h
    obtain ⟨K, h1, h2, h3⟩ := first_of (fun k => p k = false) i hp
    exact Or.inr ⟨K, by omega, h2, fun k hk => by simpa using h3 k hk⟩
  · exact Or.inl fun i hi => by
      cases hp : p i
      · exact absurd ⟨i, hi, hp⟩ h
      · rfl
/-- Whether all of the first so many are. -/
def allI (n : Nat) (p : Nat → Bool) : Bool := open Classical in decide (∀ i, i < n → p i = true)
theorem allI_t {n : Nat} {p : Nat → Bool} (h : ∀ i, i < n → p i = true) : allI n p = true := by unfold allI; exact decide_eq_true h
theorem allI_f {n : Nat} {p : Nat → Bool} {K : Nat} (hK : K < n) (h : p K = false) : allI n p = false := by unfold allI; exact decide_eq_false fun hc => by rw [hc K hK] at h; cases h
theorem allI_all {n : Nat} {p : Nat → Bool} (h : allI n p = true) : ∀ i, i < n → p i = true := by unfold allI at h; exact of_decide_eq_true h
theorem FSpec.of_res {P : Program} {f : Nat} {args : List AV} {r r' : AV} (h : FSpec P f args r) (hr : ∀ (E : Env) (v : Value), rel E r v → rel E r' v) : FSpec P f args r' :=
  ⟨h.1, fun A w cargs hA ha hg => (h.2 A w cargs hA ha hg).mono fun _ _ ⟨v, h1, h2, h3⟩ => ⟨v, h1, hr _ _ h2, h3⟩⟩
theorem FSpec.of_args {P : Program} {f : Nat} {args args' : List AV} {r : AV} (h : FSpec P f args r) (ha : ∀ (E : Env) (vs : List Value), rels E args' vs → rels E args vs) : FSpec P f args' r :=
  ⟨h.1, fun A w cargs hA h2 hg => h.2 A w cargs hA (ha _ _ h2) hg⟩
theorem sl_like {E : Env} {sz n : Nat} {el el' : Nat → List AV} {v : Value} (h : rel E (.sl sz n el) v) (he : ∀ i, i < n → el' i = el i) : rel E (.sl sz n el') v := by
  have h : relA _ _ _ := h
  show relA _ _ _
  rw [relA] at h ⊢
  obtain ⟨a, c, h1, h2, h3⟩ := h
  refine ⟨a, c, h1, h2, ?_⟩
  rcases h3 with h3 | ⟨b, o, cs, e, fz, h4, h5, h6, h7⟩
  · exact Or.inl h3
  · exact Or.inr ⟨b, o, cs, e, fz, h4, h5, h6, fun i hi => by rw [he i hi]; exact h7 i hi⟩
/-- Append of one. -/
def apB (c sz : Nat) : Bool := (c == c) && Nat.ble ((c + 1) * sz) 140737488355328
theorem apB_t {c sz : Nat} (h : (c + 1) * sz ≤ 140737488355328) : apB c sz = true := by unfold apB; rw [BEq.rfl, Nat.ble_eq_true_of_le h]; rfl
end Go.Proofs.YtngjiggplabfkaaGreat
