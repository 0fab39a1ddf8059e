/-
  Gy Pk0 Wo0, one behind the other.
-/
import Derived.Test.YtgijfbcfajhmlaaGi
import Derived.Test.YtgijfbcfajhmlaaGq2
import Derived.Test.YtgijfbcfajhmlaaGn
import Derived.Test.YtgijfbcfajhmlaaGz
import Derived.Test.YtgijfbcfajhmlaaGw
namespace Go.Gv
/-- Where a loop is left by a return. -/
noncomputable def finR (keep : List Nat) (τ : List (Option Nat)) : Kont := fun e s => match e with
  | .ret => finF keep τ .ret s
  | _ => none
theorem finR_sub (keep : List Nat) (τ : List (Option Nat)) : KSub (finR keep τ) := fun e s o h => by
  unfold finR at h
  cases e <;> simp only at h <;> first | (cases h; done) | exact finF_sub keep τ _ s o h
end Go.Gv
namespace Go.Proofs.Ytgijfbcfajhmlaa
open Go.Gv

def yA (b : Int) : AV := .x (.int .u8 b)
/-- A row of whole numbers; of bytes. -/
def sI (n : Nat) (g : Nat → Int) : AV := .sl 1 n fun i => [iA (g i)]
def sB (n : Nat) (g : Nat → Int) : AV := .sl 1 n fun i => [yA (g i)]
def skK : Kont := fun e _ => some ⟨e, ⟨[], []⟩, .any⟩
def ixB (i : Int) (n : Nat) : Bool := decide (0 ≤ i) && decide (i < n)
theorem ixB_t {i n : Nat} (h : i < n) : ixB (i : Nat) n = true := by unfold ixB; rw [dec_nonneg, dec_lt h]; rfl
def isId (o : Option Nat) (i : Nat) : Bool := match o with | some k => Nat.beq k i | none => false
/-- Of the loops within, the first is told. -/
theorem lok_hd {P : Program} {c : Code} {i : Nat} {g : LFun} (m : Nat) (hlen : (loopsOf c).length = m + 1) (hno : ((List.range m).all fun j => !(isId (firstId ((loopsOf c).getD (j + 1) .skip)) i)) = true) (h : LSound P ((loopsOf c).getD 0 .skip) g) : LOk P (oneL i g) c :=
  lok_one (m + 1) hlen fun j hj hid => by
    cases j with
    | zero => exact h
    | succ j =>
      rw [List.all_eq_true] at hno
      have := hno j (List.mem_range.2 (by omega))
      rw [hid] at this
      simp [isId] at this
/-- The loop with this number is told. -/
theorem lok_at {P : Program} {c : Code} {i : Nat} {g : LFun} (j0 m : Nat) (hlen : (loopsOf c).length = m) (hno : ((List.range m).all fun j => Nat.beq j j0 || !(isId (firstId ((loopsOf c).getD j .skip)) i)) = true) (h : LSound P ((loopsOf c).getD j0 .skip) g) : LOk P (oneL i g) c :=
  lok_one m hlen fun j hj hid => by
    rw [List.all_eq_true] at hno
    have := hno j (List.mem_range.2 hj)
    rw [hid] at this
    simp [isId] at this
    subst this
    exact h
theorem lok_none {P : Program} {c : Code} (i : Nat) : LOk P (oneL i fun _ _ => none) c := by
  intro c' _ i' g' _ hg
  unfold oneL at hg
  cases hb : Nat.beq i' i
  · rw [hb] at hg; cases hg
  · rw [hb] at hg
    cases hg
    constructor
    · intro s k r hr; cases hr
    · intro s s' e' hk
      have := hk fun e s => some ⟨e, s, .any⟩
      cases this
/-- Two loops are told. -/
theorem lok_two {P : Program} {c : Code} {i i' : Nat} {g g' : LFun} (hg : LOk P (oneL i g) c) (hg' : LOk P (oneL i' g') c) : LOk P (twoL i g i' g') c := by
  intro c' hc j f hj hf
  unfold twoL at hf
  cases hb : Nat.beq j i
  · rw [hb] at hf
    refine hg' c' hc j f hj ?_
    exact hf
  · rw [hb] at hf
    refine hg c' hc j f hj ?_
    unfold oneL
    rw [hb]
    exact hf
theorem kno_ok (f : Nat) : KOk Try.prog ⟨f, fun _ _ => none⟩ := by
  constructor
  · intro args k o h; simp at h
  · intro args v h
    have h1 := h fun x => some (Out.of x)
    simp at h1
/-- A contract that is asked for where it is used. -/
noncomputable def kS (P : Program) (f : Nat) (g : List AV → AV) : KEntry := ⟨f, fun args k => gate (FSpec P f args (g args)) (k (g args))⟩
theorem kS_ok {P : Program} {f : Nat} {g : List AV → AV} : KOk P (kS P f g) := by
  constructor
  · intro args k o ho
    simp only [kS] at ho ⊢
    obtain ⟨hp, ho⟩ := gate_some ho
    exact ⟨g args, ho, fun k' => by rw [gate_pos hp]⟩
  · intro args v hv
    have h1 := hv fun x => some (Out.of x)
    simp only [kS] at h1
    obtain ⟨hp, h1⟩ := gate_some h1
    simp only [Option.some.injEq, Out.of, Out.mk.injEq, true_and] at h1
    subst h1
    exact Or.inl hp
theorem gspecM {l : List Entry} {ks : List KEntry} {ms : List MEntry} {L : Nat → Option LFun} (hl : ∀ e, e ∈ l → EOk Try.prog e) (hks : ∀ e, e ∈ ks → KOk Try.prog e) (hms : ∀ e, e ∈ ms → MEOk Try.prog e) {f : Nat} {fn : Func} (hf : Try.prog.funcs[f]? = some fn) (hnm : (fn.name == "runtime.NumGoroutine") = false) (hb : fn.body = some (bodyOf fn)) (hL : LOk Try.prog L (bodyOf fn))
    {args : List AV} (hlen : Nat.ble args.length fn.ntmps = true) {r : AV} (h : evM Try.prog l ks ms L fn args ret = some (Out.of r)) : FSpec Try.prog f args r := spec_of_evM hl hks hms (by kernel_rfl) hf hnm hb hL hlen h
theorem gspecG {l : List Entry} {ks : List KEntry} {ms : List MEntry} {L : Nat → Option LFun} (hl : ∀ e, e ∈ l → EOk Try.prog e) (hks : ∀ e, e ∈ ks → KOk Try.prog e) (hms : ∀ e, e ∈ ms → MEOk Try.prog e) {f : Nat} {fn : Func} (hf : Try.prog.funcs[f]? = some fn) (hnm : (fn.name == "runtime.NumGoroutine") = false) (hb : fn.body = some (bodyOf fn))
    {args : List AV} {mem : List Row} (hL : LOkN mem.length Try.prog L (bodyOf fn)) (hlen : Nat.ble args.length fn.ntmps = true) {τ : List (Option Nat)} (hpin : pinT mem.length τ = true) {v : AV} {mem1 : List Row} (h : evG Try.prog l ks ms L fn args mem τ = gout v mem1) : GSpec Try.prog f args mem v mem1 :=
  spec_of_evG hl hks hms (by kernel_rfl) hf hnm hb hL hlen hpin h
theorem m_nil {P : Program} : ∀ e, e ∈ ([] : List MEntry) → MEOk P e := fun _ h => by cases h
theorem m_cons {P : Program} {e : MEntry} {l : List MEntry} (h : MEOk P e) (hl : ∀ e, e ∈ l → MEOk P e) : ∀ e', e' ∈ e :: l → MEOk P e' := fun e' he => by
  rcases List.mem_cons.1 he with rfl | he
  · exact h
  · exact hl e' he
theorem leads_evM {l : List Entry} {ks : List KEntry} {ms : List MEntry} {L : Nat → Option LFun} {c : Code} {s s' : St} {e : Exit} {k : Kont} (hk : KSub k) (hl : ∀ e, e ∈ l → EOk Try.prog e) (hks : ∀ e, e ∈ ks → KOk Try.prog e) (hms : ∀ e, e ∈ ms → MEOk Try.prog e) (hL : LOk Try.prog L c) (h : evCM Try.prog l ks ms L c s k = some ⟨e, s', .any⟩) : Leads Try.prog c s e s' :=
  leads_ofK hk (tabM_ok hl hks hms) (drawnK_ok (tabM_ok hl hks hms) (by kernel_rfl)) hL h
theorem mixI (b : Bool) (a c : Int) : mixL b [iA a] [iA c] = [iA (cond b a c)] := by unfold iA; simp only [mixL, mixA, decide_true, cond_true]
theorem mixY (b : Bool) (a c : Int) : mixL b [yA a] [yA c] = [yA (cond b a c)] := by unfold yA; simp only [mixL, mixA, decide_true, cond_true]
theorem blt_t {a b : Nat} (h : a < b) : Nat.blt a b = true := Nat.ble_eq_true_of_le h
theorem not_blt {q m : Nat} (h : Nat.blt q m = false) : m ≤ q := Nat.le_of_not_lt fun hc => by
  rw [blt_t hc] at h; cases h
theorem mulB {x y X Y : Int} (h0 : 0 ≤ x) (h1 : x ≤ X) (g0 : 0 ≤ y) (g1 : y ≤ Y) : 0 ≤ x * y ∧ x * y ≤ X * Y :=
  ⟨Int.mul_nonneg h0 g0, Int.mul_le_mul h1 g1 g0 (Int.le_trans h0 h1)⟩
/-- The first place at which something holds. -/
theorem first_of (Q : Nat → Prop) : ∀ m, Q m → ∃ K, K ≤ m ∧ Q K ∧ ∀ k, k < K → ¬ Q k := by
  intro m
  induction m using Nat.strongRecOn with
  | ind m ih =>
    intro h
    by_cases hc : ∃ k, k < m ∧ Q k
    · obtain ⟨k, hk, hq⟩ := hc
      obtain ⟨K, h1, h2, h3⟩ := ih k hk hq
      exact ⟨K, by omega, h2, h3⟩
    · exact ⟨m, Nat.le_refl _, h, fun k hk hq => hc ⟨k, hk, hq⟩⟩
/-- All of them, or the first one that isn't. -/
theorem all_or_first (p : Nat → Bool) (n : Nat) : (∀ i, i < n → p i = true) ∨ ∃ K, K < n ∧ p K = false ∧ ∀ i, i < K → p i = true := by
  by_cases h : ∃ i, i < n ∧ p i = false
  · obtain ⟨i, hi, hp⟩ := h
    obtain ⟨K, h1, h2, h3⟩ := first_of (fun k => p k = false) i hp
    exact Or.inr ⟨K, by omega, h2, fun k hk => by simpa using h3 k hk⟩
  · exact Or.inl fun i hi => by
      cases hp : p i
      · exact absurd ⟨i, hi, hp⟩ h
      · rfl
/-- Whether all of the first so many are. -/
def allI (n : Nat) (p : Nat → Bool) : Bool := open Classical in decide (∀ i, i < n → p i = true)
theorem allI_t {n : Nat} {p : Nat → Bool} (h : ∀ i, i < n → p i = true) : allI n p = true := by unfold allI; exact decide_eq_true h
theorem allI_f {n : Nat} {p : Nat → Bool} {K : Nat} (hK : K < n) (h : p K = false) : allI n p = false := by unfold allI; exact decide_eq_false fun hc => by rw [hc K hK] at h; cases h
theorem allI_all {n : Nat} {p : Nat → Bool} (h : allI n p = true) : ∀ i, i < n → p i = true := by unfold allI at h; exact of_decide_eq_true h
/-! ### What says the same, or less -/
theorem FSpec.of_res {P : Program} {f : Nat} {args : List AV} {r r' : AV} (h : FSpec P f args r) (hr : ∀ (E : Env) (v : Value), rel E r v → rel E r' v) : FSpec P f args r' :=
  ⟨h.1, fun A w cargs hA ha hg => (h.2 A w cargs hA ha hg).mono fun _ _ ⟨v, h1, h2, h3⟩ => ⟨v, h1, hr _ _ h2, h3⟩⟩
theorem FSpec.of_args {P : Program} {f : Nat} {args args' : List AV} {r : AV} (h : FSpec P f args r) (ha : ∀ (E : Env) (vs : List Value), rels E args' vs → rels E args vs) : FSpec P f args' r :=
  ⟨h.1, fun A w cargs hA h2 hg => h.2 A w cargs hA (ha _ _ h2) hg⟩
theorem nil_like {E : Env} {sz : Nat} {el : Nat → List AV} {v : Value} (h : rel E (.x (.slice none 0 0)) v) : rel E (.sl sz 0 el) v := by
  have := rel_x.1 h
  subst this
  exact rel_sl.2 ⟨none, 0, rfl, Nat.le_refl _, Or.inl rfl⟩
theorem sl_like {E : Env} {sz n : Nat} {el el' : Nat → List AV} {v : Value} (h : rel E (.sl sz n el) v) (he : ∀ i, i < n → el' i = el i) : rel E (.sl sz n el') v := by
  have h : relA _ _ _ := h
  show relA _ _ _
  rw [relA] at h ⊢
  obtain ⟨a, c, h1, h2, h3⟩ := h
  refine ⟨a, c, h1, h2, ?_⟩
  rcases h3 with h3 | ⟨b, o, cs, e, fz, h4, h5, h6, h7⟩
  · exact Or.inl h3
  · exact Or.inr ⟨b, o, cs, e, fz, h4, h5, h6, fun i hi => by rw [he i hi]; exact h7 i hi⟩
theorem tup2_like {E : Env} {a a' b : AV} {v : Value} (h : rel E (.tup [a, b]) v) (ha : ∀ u, rel E a u → rel E a' u) : rel E (.tup [a', b]) v := by
  obtain ⟨vs, h1, h2⟩ := rel_tup.1 h
  refine rel_tup.2 ⟨vs, h1, ?_⟩
  obtain ⟨u0, t0, e0, r0, h2⟩ := rels_cons.1 h2
  exact rels_cons.2 ⟨u0, t0, e0, ha _ r0, h2⟩
/-- A contract that is asked for, of what is not ours. -/
noncomputable def askB (p : Prop) : Bool := ((propB p && true) && true) && true
theorem askB_t {p : Prop} (h : p) : askB p = true := by unfold askB; rw [propB_t h]; rfl
theorem ble_t {a b : Nat} (h : a ≤ b) : Nat.ble a b = true := Nat.ble_eq_true_of_le h
/-- Append of a row that is not ours. -/
def apR (n sz : Nat) : Bool := Nat.blt 0 n && (allB n (fun _ => true) && Nat.ble ((0 + n) * sz) 140737488355328)
theorem apR_t {n sz : Nat} (h0 : 0 < n) (h : n * sz ≤ 140737488355328) : apR n sz = true := by
  unfold apR
  rw [blt_t h0, allB_true fun _ _ => rfl, ble_t (show (0 + n) * sz ≤ 140737488355328 by rw [Nat.zero_add]; exact h)]
  rfl
/-- Append of one. -/
def apB (c sz : Nat) : Bool := (c == c) && Nat.ble ((c + 1) * sz) 140737488355328
theorem apB_t {c sz : Nat} (h : (c + 1) * sz ≤ 140737488355328) : apB c sz = true := by unfold apB; rw [BEq.rfl, Nat.ble_eq_true_of_le h]; rfl
theorem u8_id {n : Int} (h0 : 0 ≤ n) (h1 : n ≤ 255) : IntKind.u8.wrap n = n := by
  have e : IntKind.u8.wrap n = n % 256 := by
    unfold IntKind.wrap
    simp only [IntKind.bits, IntKind.signed, Bool.false_and]
    rfl
  rw [e]
  omega
end Go.Proofs.Ytgijfbcfajhmlaa

namespace Go.Proofs.Ytgijfbcfajhmlaa
open Go.Gv

/-! ### Pick -/
def pk0 (c : Int) : Int := cond (decide (c < 0)) (w64 (0 - w64 (c + 1))) c
def pk (c n : Int) : Int := (pk0 c).tmod n
theorem pick_ev (c n : Int) : ev Try.prog [] [] noL Try.f12 [iA c, iA n] ret = cond (decide (c < 0)) (cond ((!(n == 0)) && true) (some (Out.of (iA ((w64 (0 - w64 (c + 1))).tmod n)))) none) (cond ((!(n == 0)) && true) (some (Out.of (iA (c.tmod n)))) none) := by kernel_rfl
theorem pick_spec {c n : Int} (hn : (!(n == 0)) = true) : FSpec Try.prog 12 [iA c, iA n] (iA (pk c n)) := by
  refine gspec e_nil k_nil Try.func12 (by kernel_rfl) (by kernel_rfl) noL_ok rfl ?_
  rw [pick_ev, hn]
  unfold pk pk0
  cases decide (c < 0) <;> rfl
def pkC : List AV → Bool
  | [.x (.int .i64 _), .x (.int .i64 n)] => !(n == 0)
  | _ => false
def pkG (pf : Int → Int → Int) : List AV → AV
  | [.x (.int .i64 c), .x (.int .i64 n)] => iA (pf c n)
  | _ => .any
def kPick (pf : Int → Int → Int) : KEntry := kIf 12 pkC (pkG pf)
theorem kPick_ok : KOk Try.prog (kPick pk) := kIf_ok fun args h => by
  unfold pkC at h
  split at h
  · exact pick_spec h
  · cases h
theorem pk_nat {c : Int} {n : Nat} (hc : (Lit.int .i64 c).wf = true) (hn : 0 < n) : ∃ k : Nat, pk c n = k ∧ k < n := by
  have h0 : ∃ m : Nat, pk0 c = m := by
    have hr : -9223372036854775808 ≤ c ∧ c ≤ 9223372036854775807 := by
      simp [Lit.wf, IntKind.min, IntKind.max, IntKind.signed, IntKind.bits] at hc
      omega
    unfold pk0
    by_cases h : c < 0
    · rw [decide_eq_true h]
      simp only [cond_true]
      rw [w64_id (n := c + 1) (by omega) (by omega), w64_id (by omega) (by omega)]
      exact ⟨(0 - (c + 1)).toNat, by omega⟩
    · rw [decide_eq_false h]
      exact ⟨c.toNat, by simp only [cond_false]; omega⟩
  obtain ⟨m, hm⟩ := h0
  refine ⟨m % n, ?_, Nat.mod_lt _ hn⟩
  unfold pk
  rw [hm, ← Int.ofNat_tmod]
end Go.Proofs.Ytgijfbcfajhmlaa

namespace Go.Ev

def wB : Nat := 18446744073709551616
theorem wB_pos : 0 < wB := by decide
theorem wB_eq : wB = 18446744073709551616 := rfl
/-- The i-th word. -/
def dg (a i : Nat) : Nat := a / wB ^ i % wB
theorem dg_lt (a i : Nat) : dg a i < wB := Nat.mod_lt _ wB_pos
theorem pw_pos (i : Nat) : 0 < wB ^ i := Nat.pow_pos wB_pos
theorem mod_next (a i : Nat) : a % wB ^ (i + 1) = a % wB ^ i + wB ^ i * dg a i := by
  unfold dg
  rw [Nat.mod_pow_succ]
theorem dg_zero {a i : Nat} (h : a < wB ^ i) : dg a i = 0 := by unfold dg; rw [Nat.div_eq_of_lt h]; rfl
/-- What words make. -/
def vl (f : Nat → Nat) : Nat → Nat
  | 0 => 0
  | n + 1 => vl f n + wB ^ n * f n
theorem vl_lt {f : Nat → Nat} : ∀ {n : Nat}, (∀ i, i < n → f i < wB) → vl f n < wB ^ n
  | 0, _ => by rw [Nat.pow_zero]; exact Nat.zero_lt_one
  | n + 1, h => by
    have h1 := vl_lt (n := n) fun i hi => h i (by omega)
    have h2 : f n + 1 ≤ wB := h n (by omega)
    have h3 : wB ^ n * (f n + 1) ≤ wB ^ n * wB := Nat.mul_le_mul_left _ h2
    show vl f n + wB ^ n * f n < wB ^ (n + 1)
    rw [Nat.pow_succ]
    rw [Nat.mul_add, Nat.mul_one] at h3
    omega
theorem vl_dg (a : Nat) : ∀ n, vl (dg a) n = a % wB ^ n
  | 0 => by rw [Nat.pow_zero, Nat.mod_one]; rfl
  | n + 1 => by
    show vl (dg a) n + wB ^ n * dg a n = _
    rw [vl_dg a n, mod_next]
theorem vl_congr {f g : Nat → Nat} : ∀ {n : Nat}, (∀ i, i < n → f i = g i) → vl f n = vl g n
  | 0, _ => rfl
  | n + 1, h => by
    show vl f n + wB ^ n * f n = vl g n + wB ^ n * g n
    rw [vl_congr fun i hi => h i (by omega), h n (by omega)]
theorem dg_vl {f : Nat → Nat} {n : Nat} (h : ∀ i, i < n → f i < wB) {i : Nat} (hi : i < n) : dg (vl f n) i = f i := by
  induction n with
  | zero => omega
  | succ n ih =>
    have h0 : ∀ i, i < n → f i < wB := fun i hi => h i (by omega)
    have hlt := vl_lt h0
    by_cases e : i = n
    · subst e
      show (vl f i + wB ^ i * f i) / wB ^ i % wB = f i
      rw [Nat.add_mul_div_left _ _ (pw_pos i), Nat.div_eq_of_lt hlt, Nat.zero_add, Nat.mod_eq_of_lt (h i (by omega))]
    · have hin : i < n := by omega
      rw [← ih h0 hin]
      show (vl f n + wB ^ n * f n) / wB ^ i % wB = vl f n / wB ^ i % wB
      obtain ⟨k, rfl⟩ : ∃ k, n = i + 1 + k := ⟨n - (i + 1), by omega⟩
      have e1 : wB ^ (i + 1 + k) * f (i + 1 + k) = wB ^ i * (wB * (wB ^ k * f (i + 1 + k))) := by
        rw [Nat.pow_add, Nat.pow_succ]; simp only [Nat.mul_assoc]
      rw [e1, Nat.add_mul_div_left _ _ (pw_pos i), Nat.add_mul_mod_self_left]
/-- How many words a number has. -/
def nw (a : Nat) : Nat := if a = 0 then 0 else a.log2 / 64 + 1
theorem wB_pow (k : Nat) : wB ^ k = 2 ^ (64 * k) := by
  rw [Nat.pow_mul]
  rfl
theorem nw_lt (a : Nat) : a < wB ^ nw a := by
  unfold nw
  by_cases h : a = 0
  · rw [if_pos h, h, Nat.pow_zero]; exact Nat.zero_lt_one
  · rw [if_neg h, wB_pow]
    have h1 : a < 2 ^ (a.log2 + 1) := Nat.lt_log2_self
    exact Nat.lt_of_lt_of_le h1 (Nat.pow_le_pow_right (by decide) (by omega))
theorem nw_ge {a : Nat} (h : a ≠ 0) : 0 < nw a ∧ wB ^ (nw a - 1) ≤ a := by
  unfold nw
  rw [if_neg h, wB_pow]
  refine ⟨by omega, ?_⟩
  have h1 : 2 ^ a.log2 ≤ a := Nat.log2_self_le h
  exact Nat.le_trans (Nat.pow_le_pow_right (by decide) (by omega)) h1
theorem nw_eq {a k : Nat} (h1 : a < wB ^ k) (h2 : k = 0 ∨ wB ^ (k - 1) ≤ a) : nw a = k := by
  by_cases h : a = 0
  · subst h
    unfold nw
    rw [if_pos rfl]
    rcases h2 with h2 | h2
    · exact h2.symm
    · have := pw_pos (k - 1); omega
  · obtain ⟨g1, g2⟩ := nw_ge h
    have g3 := nw_lt a
    have hk : k ≠ 0 := fun e => by subst e; rw [Nat.pow_zero] at h1; omega
    have h2 := h2.resolve_left hk
    rcases Nat.lt_trichotomy (nw a) k with hlt | e | hgt
    · have : wB ^ nw a ≤ wB ^ (k - 1) := Nat.pow_le_pow_right wB_pos (by omega)
      omega
    · exact e
    · have : wB ^ k ≤ wB ^ (nw a - 1) := Nat.pow_le_pow_right wB_pos (by omega)
      omega
theorem nw_zero : nw 0 = 0 := rfl
theorem nw_le {a k : Nat} (h : a < wB ^ k) : nw a ≤ k := by
  by_cases h0 : a = 0
  · subst h0; exact Nat.zero_le _
  · obtain ⟨g1, g2⟩ := nw_ge h0
    rcases Nat.lt_or_ge k (nw a) with hlt | hge
    · have : wB ^ k ≤ wB ^ (nw a - 1) := Nat.pow_le_pow_right wB_pos (by omega)
      omega
    · exact hge
theorem top_dg {a : Nat} (h : a ≠ 0) : dg a (nw a - 1) ≠ 0 := by
  obtain ⟨g1, g2⟩ := nw_ge h
  have g3 := nw_lt a
  unfold dg
  have h1 : 0 < a / wB ^ (nw a - 1) := Nat.div_pos g2 (pw_pos _)
  have h2 : a / wB ^ (nw a - 1) < wB := by
    rw [Nat.div_lt_iff_lt_mul (pw_pos _), Nat.mul_comm, ← Nat.pow_succ]
    have e : (nw a - 1).succ = nw a := by omega
    rw [e]; exact g3
  rw [Nat.mod_eq_of_lt h2]
  omega
/-! ### Sums -/
def cy (a b i : Nat) : Nat := (a % wB ^ i + b % wB ^ i) / wB ^ i
theorem cy_zero (a b : Nat) : cy a b 0 = 0 := by unfold cy; rw [Nat.pow_zero, Nat.mod_one, Nat.mod_one]
theorem cy_le (a b i : Nat) : cy a b i ≤ 1 := by
  unfold cy
  have h1 := Nat.mod_lt a (pw_pos i)
  have h2 := Nat.mod_lt b (pw_pos i)
  have : (a % wB ^ i + b % wB ^ i) / wB ^ i < 2 := by rw [Nat.div_lt_iff_lt_mul (pw_pos i)]; omega
  omega
theorem cy_next (a b i : Nat) : cy a b (i + 1) = (dg a i + dg b i + cy a b i) / wB := by
  unfold cy
  rw [mod_next, mod_next, Nat.pow_succ, ← Nat.div_div_eq_div_mul]
  congr 1
  rw [show a % wB ^ i + wB ^ i * dg a i + (b % wB ^ i + wB ^ i * dg b i) = a % wB ^ i + b % wB ^ i + wB ^ i * (dg a i + dg b i) by rw [Nat.mul_add]; omega, Nat.add_mul_div_left _ _ (pw_pos i)]
  omega
theorem dg_add (a b i : Nat) : dg (a + b) i = (dg a i + dg b i + cy a b i) % wB := by
  have h : (a + b) / wB ^ i = a / wB ^ i + b / wB ^ i + cy a b i := by
    have e1 := Nat.div_add_mod a (wB ^ i)
    have e2 := Nat.div_add_mod b (wB ^ i)
    have : a + b = a % wB ^ i + b % wB ^ i + wB ^ i * (a / wB ^ i + b / wB ^ i) := by rw [Nat.mul_add]; omega
    rw [this, Nat.add_mul_div_left _ _ (pw_pos i)]
    unfold cy
    omega
  unfold dg
  rw [h]
  rw [Nat.add_mod (a / wB ^ i + b / wB ^ i) (cy a b i) wB, Nat.add_mod (a / wB ^ i) (b / wB ^ i) wB, Nat.add_mod (a / wB ^ i % wB + b / wB ^ i % wB) (cy a b i) wB]
/-! ### Differences -/
def bw (a b i : Nat) : Nat := if a % wB ^ i < b % wB ^ i then 1 else 0
theorem bw_zero (a b : Nat) : bw a b 0 = 0 := by unfold bw; rw [Nat.pow_zero, Nat.mod_one, Nat.mod_one]; rfl
theorem bw_le (a b i : Nat) : bw a b i ≤ 1 := by unfold bw; split <;> omega
theorem bw_step {Q ra rb da db : Nat} (h1 : ra < Q) (h2 : rb < Q) : (if ra + Q * da < rb + Q * db then 1 else 0) = (if da < db + (if ra < rb then 1 else 0) then 1 else 0 : Nat) := by
  rcases Nat.lt_trichotomy da db with h | h | h
  · have : Q * (da + 1) ≤ Q * db := Nat.mul_le_mul_left _ h
    rw [Nat.mul_add, Nat.mul_one] at this
    rw [if_pos (show ra + Q * da < rb + Q * db by omega), if_pos (by omega)]
  · subst h
    by_cases hc : ra < rb
    · rw [if_pos (show ra + Q * da < rb + Q * da by omega), if_pos hc, if_pos (by omega)]
    · rw [if_neg (show ¬ ra + Q * da < rb + Q * da by omega), if_neg hc, if_neg (by omega)]
  · have : Q * (db + 1) ≤ Q * da := Nat.mul_le_mul_left _ h
    rw [Nat.mul_add, Nat.mul_one] at this
    rw [if_neg (show ¬ ra + Q * da < rb + Q * db by omega), if_neg (by split <;> omega)]
theorem bw_next (a b i : Nat) : bw a b (i + 1) = if dg a i < dg b i + bw a b i then 1 else 0 := by
  unfold bw
  rw [mod_next, mod_next]
  exact bw_step (Nat.mod_lt a (pw_pos i)) (Nat.mod_lt b (pw_pos i))
theorem sub_div {Q qa ra qb rb : Nat} (hQ : 0 < Q) (ha : ra < Q) (hb : rb < Q) (h : Q * qb + rb ≤ Q * qa + ra) : (Q * qa + ra - (Q * qb + rb)) / Q = qa - qb - (if ra < rb then 1 else 0) ∧ qb + (if ra < rb then 1 else 0) ≤ qa := by
  by_cases hc : ra < rb
  · rw [if_pos hc]
    have hlt : qb < qa := by
      rcases Nat.lt_or_ge qb qa with h1 | h1
      · exact h1
      · have : Q * qa ≤ Q * qb := Nat.mul_le_mul_left _ h1
        omega
    obtain ⟨k, rfl⟩ : ∃ k, qa = qb + 1 + k := ⟨qa - qb - 1, by omega⟩
    have e : Q * (qb + 1 + k) = Q * qb + Q + Q * k := by rw [Nat.mul_add, Nat.mul_add, Nat.mul_one]
    have e2 : Q * (qb + 1 + k) + ra - (Q * qb + rb) = (Q + ra - rb) + Q * k := by rw [e]; omega
    refine ⟨?_, by omega⟩
    rw [e2, Nat.add_mul_div_left _ _ hQ, Nat.div_eq_of_lt (by omega)]
    omega
  · rw [if_neg hc]
    have hle : qb ≤ qa := by
      rcases Nat.lt_or_ge qa qb with h1 | h1
      · have : Q * (qa + 1) ≤ Q * qb := Nat.mul_le_mul_left _ h1
        rw [Nat.mul_add, Nat.mul_one] at this
        omega
      · exact h1
    obtain ⟨k, rfl⟩ : ∃ k, qa = qb + k := ⟨qa - qb, by omega⟩
    have e : Q * (qb + k) = Q * qb + Q * k := Nat.mul_add _ _ _
    have e2 : Q * (qb + k) + ra - (Q * qb + rb) = (ra - rb) + Q * k := by rw [e]; omega
    refine ⟨?_, by omega⟩
    rw [e2, Nat.add_mul_div_left _ _ hQ, Nat.div_eq_of_lt (by omega)]
    omega
theorem dg_sub {a b : Nat} (hab : b ≤ a) (i : Nat) : dg (a - b) i = (dg a i + wB - dg b i - bw a b i) % wB := by
  have h1 := Nat.mod_lt a (pw_pos i)
  have h2 := Nat.mod_lt b (pw_pos i)
  have hb := bw_le a b i
  have hs := sub_div (qa := a / wB ^ i) (ra := a % wB ^ i) (qb := b / wB ^ i) (rb := b % wB ^ i) (pw_pos i) h1 h2 (by rw [Nat.div_add_mod, Nat.div_add_mod]; exact hab)
  rw [Nat.div_add_mod, Nat.div_add_mod] at hs
  have hq : (a - b) / wB ^ i = a / wB ^ i - b / wB ^ i - bw a b i := hs.1
  have hle : b / wB ^ i + bw a b i ≤ a / wB ^ i := hs.2
  unfold dg
  rw [hq]
  generalize a / wB ^ i = x at *
  generalize b / wB ^ i = y at *
  generalize bw a b i = z at *
  rw [wB_eq]
  omega
end Go.Ev
