/-
  Gy Fm1 Fz Fpl Fmg Fsi Fsh Fm3 Fm4 Fm5, one behind the other.
-/
import Derived.Test.YtephoojaflfajaaGi
import Derived.Test.YtephoojaflfajaaGq2
import Derived.Test.YtephoojaflfajaaGn
import Derived.Test.YtephoojaflfajaaGz
import Derived.Test.YtephoojaflfajaaGw
namespace Go.Gv
/-- Where a loop is left by a return. -/
noncomputable def finR (keep : List Nat) (τ : List (Option Nat)) : Kont := fun e s => match e with
  | .ret => finF keep τ .ret s
  | _ => none
theorem finR_sub (keep : List Nat) (τ : List (Option Nat)) : KSub (finR keep τ) := fun e s o h => by
  unfold finR at h
  cases e <;> simp only at h <;> first | (cases h; done) | exact finF_sub keep τ _ s o h
end Go.Gv
namespace Go.Proofs.Ytephoojaflfajaa
open Go.Gv

def yA (b : Int) : AV := .x (.int .u8 b)
/-- A row of whole numbers; of bytes. -/
def sI (n : Nat) (g : Nat → Int) : AV := .sl 1 n fun i => [iA (g i)]
def sB (n : Nat) (g : Nat → Int) : AV := .sl 1 n fun i => [yA (g i)]
def skK : Kont := fun e _ => some ⟨e, ⟨[], []⟩, .any⟩
def ixB (i : Int) (n : Nat) : Bool := decide (0 ≤ i) && decide (i < n)
theorem ixB_t {i n : Nat} (h : i < n) : ixB (i : Nat) n = true := by unfold ixB; rw [dec_nonneg, dec_lt h]; rfl
def isId (o : Option Nat) (i : Nat) : Bool := match o with | some k => Nat.beq k i | none => false
/-- Of the loops within, the first is told. -/
theorem lok_hd {P : Program} {c : Code} {i : Nat} {g : LFun} (m : Nat) (hlen : (loopsOf c).length = m + 1) (hno : ((List.range m).all fun j => !(isId (firstId ((loopsOf c).getD (j + 1) .skip)) i)) = true) (h : LSound P ((loopsOf c).getD 0 .skip) g) : LOk P (oneL i g) c :=
  lok_one (m + 1) hlen fun j hj hid => by
    cases j with
    | zero => exact h
    | succ j =>
      rw [List.all_eq_true] at hno
      have := hno j (List.mem_range.2 (by omega))
      rw [hid] at this
      simp [isId] at this
/-- The loop with this number is told. -/
theorem lok_at {P : Program} {c : Code} {i : Nat} {g : LFun} (j0 m : Nat) (hlen : (loopsOf c).length = m) (hno : ((List.range m).all fun j => Nat.beq j j0 || !(isId (firstId ((loopsOf c).getD j .skip)) i)) = true) (h : LSound P ((loopsOf c).getD j0 .skip) g) : LOk P (oneL i g) c :=
  lok_one m hlen fun j hj hid => by
    rw [List.all_eq_true] at hno
    have := hno j (List.mem_range.2 hj)
    rw [hid] at this
    simp [isId] at this
    subst this
    exact h
theorem lok_none {P : Program} {c : Code} (i : Nat) : LOk P (oneL i fun _ _ => none) c := by
  intro c' _ i' g' _ hg
  unfold oneL at hg
  cases hb : Nat.beq i' i
  · rw [hb] at hg; cases hg
  · rw [hb] at hg
    cases hg
    constructor
    · intro s k r hr; cases hr
    · intro s s' e' hk
      have := hk fun e s => some ⟨e, s, .any⟩
      cases this
/-- Two loops are told. -/
theorem lok_two {P : Program} {c : Code} {i i' : Nat} {g g' : LFun} (hg : LOk P (oneL i g) c) (hg' : LOk P (oneL i' g') c) : LOk P (twoL i g i' g') c := by
  intro c' hc j f hj hf
  unfold twoL at hf
  cases hb : Nat.beq j i
  · rw [hb] at hf
    refine hg' c' hc j f hj ?_
    exact hf
  · rw [hb] at hf
    refine hg c' hc j f hj ?_
    unfold oneL
    rw [hb]
    exact hf
theorem kno_ok (f : Nat) : KOk Try.prog ⟨f, fun _ _ => none⟩ := by
  constructor
  · intro args k o h; simp at h
  · intro args v h
    have h1 := h fun x => some (Out.of x)
    simp at h1
/-- A contract that is asked for where it is used. -/
noncomputable def kS (P : Program) (f : Nat) (g : List AV → AV) : KEntry := ⟨f, fun args k => gate (FSpec P f args (g args)) (k (g args))⟩
theorem kS_ok {P : Program} {f : Nat} {g : List AV → AV} : KOk P (kS P f g) := by
  constructor
  · intro args k o ho
    simp only [kS] at ho ⊢
    obtain ⟨hp, ho⟩ := gate_some ho
    exact ⟨g args, ho, fun k' => by rw [gate_pos hp]⟩
  · intro args v hv
    have h1 := hv fun x => some (Out.of x)
    simp only [kS] at h1
    obtain ⟨hp, h1⟩ := gate_some h1
    simp only [Option.some.injEq, Out.of, Out.mk.injEq, true_and] at h1
    subst h1
    exact Or.inl hp
theorem gspecM {l : List Entry} {ks : List KEntry} {ms : List MEntry} {L : Nat → Option LFun} (hl : ∀ e, e ∈ l → EOk Try.prog e) (hks : ∀ e, e ∈ ks → KOk Try.prog e) (hms : ∀ e, e ∈ ms → MEOk Try.prog e) {f : Nat} {fn : Func} (hf : Try.prog.funcs[f]? = some fn) (hnm : (fn.name == "runtime.NumGoroutine") = false) (hb : fn.body = some (bodyOf fn)) (hL : LOk Try.prog L (bodyOf fn))
    {args : List AV} (hlen : Nat.ble args.length fn.ntmps = true) {r : AV} (h : evM Try.prog l ks ms L fn args ret = some (Out.of r)) : FSpec Try.prog f args r := spec_of_evM hl hks hms (by kernel_rfl) hf hnm hb hL hlen h
theorem gspecG {l : List Entry} {ks : List KEntry} {ms : List MEntry} {L : Nat → Option LFun} (hl : ∀ e, e ∈ l → EOk Try.prog e) (hks : ∀ e, e ∈ ks → KOk Try.prog e) (hms : ∀ e, e ∈ ms → MEOk Try.prog e) {f : Nat} {fn : Func} (hf : Try.prog.funcs[f]? = some fn) (hnm : (fn.name == "runtime.NumGoroutine") = false) (hb : fn.body = some (bodyOf fn))
    {args : List AV} {mem : List Row} (hL : LOkN mem.length Try.prog L (bodyOf fn)) (hlen : Nat.ble args.length fn.ntmps = true) {τ : List (Option Nat)} (hpin : pinT mem.length τ = true) {v : AV} {mem1 : List Row} (h : evG Try.prog l ks ms L fn args mem τ = gout v mem1) : GSpec Try.prog f args mem v mem1 :=
  spec_of_evG hl hks hms (by kernel_rfl) hf hnm hb hL hlen hpin h
theorem m_nil {P : Program} : ∀ e, e ∈ ([] : List MEntry) → MEOk P e := fun _ h => by cases h
theorem m_cons {P : Program} {e : MEntry} {l : List MEntry} (h : MEOk P e) (hl : ∀ e, e ∈ l → MEOk P e) : ∀ e', e' ∈ e :: l → MEOk P e' := fun e' he => by
  rcases List.mem_cons.1 he with rfl | he
  · exact h
  · exact hl e' he
theorem leads_evM {l : List Entry} {ks : List KEntry} {ms : List MEntry} {L : Nat → Option LFun} {c : Code} {s s' : St} {e : Exit} {k : Kont} (hk : KSub k) (hl : ∀ e, e ∈ l → EOk Try.prog e) (hks : ∀ e, e ∈ ks → KOk Try.prog e) (hms : ∀ e, e ∈ ms → MEOk Try.prog e) (hL : LOk Try.prog L c) (h : evCM Try.prog l ks ms L c s k = some ⟨e, s', .any⟩) : Leads Try.prog c s e s' :=
  leads_ofK hk (tabM_ok hl hks hms) (drawnK_ok (tabM_ok hl hks hms) (by kernel_rfl)) hL h
theorem mixI (b : Bool) (a c : Int) : mixL b [iA a] [iA c] = [iA (cond b a c)] := by unfold iA; simp only [mixL, mixA, decide_true, cond_true]
theorem mixY (b : Bool) (a c : Int) : mixL b [yA a] [yA c] = [yA (cond b a c)] := by unfold yA; simp only [mixL, mixA, decide_true, cond_true]
theorem blt_t {a b : Nat} (h : a < b) : Nat.blt a b = true := Nat.ble_eq_true_of_le h
theorem not_blt {q m : Nat} (h : Nat.blt q m = false) : m ≤ q := Nat.le_of_not_lt fun hc => by
  rw [blt_t hc] at h; cases h
theorem mulB {x y X Y : Int} (h0 : 0 ≤ x) (h1 : x ≤ X) (g0 : 0 ≤ y) (g1 : y ≤ Y) : 0 ≤ x * y ∧ x * y ≤ X * Y :=
  ⟨Int.mul_nonneg h0 g0, Int.mul_le_mul h1 g1 g0 (Int.le_trans h0 h1)⟩
/-- The first place at which something holds. -/
theorem first_of (Q : Nat → Prop) : ∀ m, Q m → ∃ K, K ≤ m ∧ Q K ∧ ∀ k, k < K → ¬ Q k := by
  intro m
  induction m using Nat.strongRecOn with
  | ind m ih =>
    intro h
    by_cases hc : ∃ k, k < m ∧ Q k
    · obtain ⟨k, hk, hq⟩ := hc
      obtain ⟨K, h1, h2, h3⟩ := ih k hk hq
      exact ⟨K, by omega, h2, h3⟩
    · exact ⟨m, Nat.le_refl _, h, fun k hk hq => hc ⟨k, hk, hq⟩⟩
/-- All of them, or the first one that isn't. -/
theorem all_or_first (p : Nat → Bool) (n : Nat) : (∀ i, i < n → p i = true) ∨ ∃ K, K < n ∧ p K = false ∧ ∀ i, i < K → p i = true := by
  by_cases h : ∃ i, i < n ∧ p i = false
  · obtain ⟨i, hi, hp⟩ := h
    obtain ⟨K, h1, h2, h3⟩ := first_of (fun k => p k = false) i hp
    exact Or.inr ⟨K, by omega, h2, fun k hk => by simpa using h3 k hk⟩
  · exact Or.inl fun i hi => by
      cases hp : p i
      · exact absurd ⟨i, hi, hp⟩ h
      · rfl
/-- Whether all of the first so many are. -/
def allI (n : Nat) (p : Nat → Bool) : Bool := open Classical in decide (∀ i, i < n → p i = true)
theorem allI_t {n : Nat} {p : Nat → Bool} (h : ∀ i, i < n → p i = true) : allI n p = true := by unfold allI; exact decide_eq_true h
theorem allI_f {n : Nat} {p : Nat → Bool} {K : Nat} (hK : K < n) (h : p K = false) : allI n p = false := by unfold allI; exact decide_eq_false fun hc => by rw [hc K hK] at h; cases h
theorem allI_all {n : Nat} {p : Nat → Bool} (h : allI n p = true) : ∀ i, i < n → p i = true := by unfold allI at h; exact of_decide_eq_true h
/-! ### What says the same, or less -/
theorem FSpec.of_res {P : Program} {f : Nat} {args : List AV} {r r' : AV} (h : FSpec P f args r) (hr : ∀ (E : Env) (v : Value), rel E r v → rel E r' v) : FSpec P f args r' :=
  ⟨h.1, fun A w cargs hA ha hg => (h.2 A w cargs hA ha hg).mono fun _ _ ⟨v, h1, h2, h3⟩ => ⟨v, h1, hr _ _ h2, h3⟩⟩
theorem FSpec.of_args {P : Program} {f : Nat} {args args' : List AV} {r : AV} (h : FSpec P f args r) (ha : ∀ (E : Env) (vs : List Value), rels E args' vs → rels E args vs) : FSpec P f args' r :=
  ⟨h.1, fun A w cargs hA h2 hg => h.2 A w cargs hA (ha _ _ h2) hg⟩
theorem nil_like {E : Env} {sz : Nat} {el : Nat → List AV} {v : Value} (h : rel E (.x (.slice none 0 0)) v) : rel E (.sl sz 0 el) v := by
  have := rel_x.1 h
  subst this
  exact rel_sl.2 ⟨none, 0, rfl, Nat.le_refl _, Or.inl rfl⟩
theorem sl_like {E : Env} {sz n : Nat} {el el' : Nat → List AV} {v : Value} (h : rel E (.sl sz n el) v) (he : ∀ i, i < n → el' i = el i) : rel E (.sl sz n el') v := by
  have h : relA _ _ _ := h
  show relA _ _ _
  rw [relA] at h ⊢
  obtain ⟨a, c, h1, h2, h3⟩ := h
  refine ⟨a, c, h1, h2, ?_⟩
  rcases h3 with h3 | ⟨b, o, cs, e, fz, h4, h5, h6, h7⟩
  · exact Or.inl h3
  · exact Or.inr ⟨b, o, cs, e, fz, h4, h5, h6, fun i hi => by rw [he i hi]; exact h7 i hi⟩
theorem tup2_like {E : Env} {a a' b : AV} {v : Value} (h : rel E (.tup [a, b]) v) (ha : ∀ u, rel E a u → rel E a' u) : rel E (.tup [a', b]) v := by
  obtain ⟨vs, h1, h2⟩ := rel_tup.1 h
  refine rel_tup.2 ⟨vs, h1, ?_⟩
  obtain ⟨u0, t0, e0, r0, h2⟩ := rels_cons.1 h2
  exact rels_cons.2 ⟨u0, t0, e0, ha _ r0, h2⟩
/-- A contract that is asked for, of what is not ours. -/
noncomputable def askB (p : Prop) : Bool := ((propB p && true) && true) && true
theorem askB_t {p : Prop} (h : p) : askB p = true := by unfold askB; rw [propB_t h]; rfl
theorem ble_t {a b : Nat} (h : a ≤ b) : Nat.ble a b = true := Nat.ble_eq_true_of_le h
/-- Append of a row that is not ours. -/
def apR (n sz : Nat) : Bool := Nat.blt 0 n && (allB n (fun _ => true) && Nat.ble ((0 + n) * sz) 140737488355328)
theorem apR_t {n sz : Nat} (h0 : 0 < n) (h : n * sz ≤ 140737488355328) : apR n sz = true := by
  unfold apR
  rw [blt_t h0, allB_true fun _ _ => rfl, ble_t (show (0 + n) * sz ≤ 140737488355328 by rw [Nat.zero_add]; exact h)]
  rfl
/-- Append of one. -/
def apB (c sz : Nat) : Bool := (c == c) && Nat.ble ((c + 1) * sz) 140737488355328
theorem apB_t {c sz : Nat} (h : (c + 1) * sz ≤ 140737488355328) : apB c sz = true := by unfold apB; rw [BEq.rfl, Nat.ble_eq_true_of_le h]; rfl
theorem u8_id {n : Int} (h0 : 0 ≤ n) (h1 : n ≤ 255) : IntKind.u8.wrap n = n := by
  have e : IntKind.u8.wrap n = n % 256 := by
    unfold IntKind.wrap
    simp only [IntKind.bits, IntKind.signed, Bool.false_and]
    rfl
  rw [e]
  omega
end Go.Proofs.Ytephoojaflfajaa

namespace Go.Proofs.Ytephoojaflfajaa
open Go.Gv

structure Flm where
  W : Int
  H : Int
  n : Nat
  lt : Nat → Int
  m : Nat
  sh : Nat → Int
def Flm.c (f : Flm) : List AV := [iA f.W, iA f.H, sI f.n f.lt, sI f.m f.sh]
def fmS (f : Flm) (k : Nat) (i : Int) : St := mkS 86 [(1, .own 0 0), (k, iA i)] [.c f.c]
def fmE : St := mkS 86 [(2, iA 6)] []
/-- A number that is out of bounds. -/
def ofB (x most : Int) : Bool := cond (decide (x < 0)) true (decide (x > most))
def gdB (i : Int) (n : Nat) (x : Int) : Bool := ixB i n || !(decide (decide (x < 0) = false) && true)
section
variable (f : Flm) (i : Int)
theorem fm1_step : evC Try.prog [] [] noL (loopAt Try.f9 0) (fmS f 3 i) (finN [1, 3] [some 0]) =
    cond (decide (i < f.n)) (cond (ixB i f.n || false) (cond (gdB i f.n (f.lt i.toNat)) (cond (ofB (f.lt i.toNat) 1099511627776) none (some ⟨.normal, fmS f 3 (w64 (i + 1)), .any⟩)) none) none) none := by kernel_rfl
theorem fm1_ret : evC Try.prog [] [] noL (loopAt Try.f9 0) (fmS f 3 i) (finR [2] []) =
    cond (decide (i < f.n)) (cond (ixB i f.n || false) (cond (gdB i f.n (f.lt i.toNat)) (cond (ofB (f.lt i.toNat) 1099511627776) (some ⟨.ret, fmE, .any⟩) none) none) none) none := by kernel_rfl
theorem fm1_end : evC Try.prog [] [] noL (loopAt Try.f9 0) (fmS f 3 i) (finE [1, 3] [some 0]) =
    cond (decide (i < f.n)) (cond (ixB i f.n || false) (cond (gdB i f.n (f.lt i.toNat)) (cond (ofB (f.lt i.toNat) 1099511627776) none none) none) none) (some ⟨.exit 0, fmS f 3 i, .any⟩) := by kernel_rfl
theorem fm2_step : evC Try.prog [] [] noL (loopAt Try.f9 1) (fmS f 4 i) (finN [1, 4] [some 0]) =
    cond (decide (i < f.m)) (cond (ixB i f.m || false) (cond (gdB i f.m (f.sh i.toNat)) (cond (ofB (f.sh i.toNat) 1048576) none (some ⟨.normal, fmS f 4 (w64 (i + 1)), .any⟩)) none) none) none := by kernel_rfl
theorem fm2_ret : evC Try.prog [] [] noL (loopAt Try.f9 1) (fmS f 4 i) (finR [2] []) =
    cond (decide (i < f.m)) (cond (ixB i f.m || false) (cond (gdB i f.m (f.sh i.toNat)) (cond (ofB (f.sh i.toNat) 1048576) (some ⟨.ret, fmE, .any⟩) none) none) none) none := by kernel_rfl
theorem fm2_end : evC Try.prog [] [] noL (loopAt Try.f9 1) (fmS f 4 i) (finE [1, 4] [some 0]) =
    cond (decide (i < f.m)) (cond (ixB i f.m || false) (cond (gdB i f.m (f.sh i.toNat)) (cond (ofB (f.sh i.toNat) 1048576) none none) none) none) (some ⟨.exit 2, fmS f 4 i, .any⟩) := by kernel_rfl
end
theorem gdB_t {i n : Nat} {x : Int} (h : i < n) : gdB (i : Nat) n x = true := by unfold gdB; rw [ixB_t h]; rfl
theorem fm1_good {f : Flm} (hn : f.n ≤ 1000000) (h : ∀ i, i < f.n → ofB (f.lt i) 1099511627776 = false) : Leads Try.prog (.loop (loopAt Try.f9 0)) (fmS f 3 0) (.exit 0) (fmS f 3 (f.n : Nat)) := by
  refine loop_rule (fun k => fmS f 3 (k : Nat)) f.n (.exit 0) _ (by simp) (fun k hk => ?_) ?_
  · refine leads_ev (finN_sub _ _) e_nil k_nil noL_ok ((fm1_step f (k : Nat)).trans ?_)
    rw [dec_lt hk, ixB_t hk, gdB_t hk, Int.toNat_natCast, h k hk, w64_next (by omega)]
    rfl
  · refine leads_ev (finE_sub _ _) e_nil k_nil noL_ok ((fm1_end f (f.n : Nat)).trans ?_)
    rw [dec_self, cond_false]
theorem fm1_bad {f : Flm} (hn : f.n ≤ 1000000) {K : Nat} (hK : K < f.n) (hb : ofB (f.lt K) 1099511627776 = true) (h : ∀ i, i < K → ofB (f.lt i) 1099511627776 = false) : Leads Try.prog (.loop (loopAt Try.f9 0)) (fmS f 3 0) .ret fmE := by
  refine loop_rule (fun k => fmS f 3 (k : Nat)) K .ret _ (by simp) (fun k hk => ?_) ?_
  · refine leads_ev (finN_sub _ _) e_nil k_nil noL_ok ((fm1_step f (k : Nat)).trans ?_)
    have hk' : k < f.n := by omega
    rw [dec_lt hk', ixB_t hk', gdB_t hk', Int.toNat_natCast, h k hk, w64_next (by omega)]
    rfl
  · refine leads_ev (finR_sub _ _) e_nil k_nil noL_ok ((fm1_ret f (K : Nat)).trans ?_)
    rw [dec_lt hK, ixB_t hK, gdB_t hK, Int.toNat_natCast, hb]
    rfl
theorem fm2_good {f : Flm} (hn : f.m ≤ 1000000) (h : ∀ i, i < f.m → ofB (f.sh i) 1048576 = false) : Leads Try.prog (.loop (loopAt Try.f9 1)) (fmS f 4 0) (.exit 2) (fmS f 4 (f.m : Nat)) := by
  refine loop_rule (fun k => fmS f 4 (k : Nat)) f.m (.exit 2) _ (by simp) (fun k hk => ?_) ?_
  · refine leads_ev (finN_sub _ _) e_nil k_nil noL_ok ((fm2_step f (k : Nat)).trans ?_)
    rw [dec_lt hk, ixB_t hk, gdB_t hk, Int.toNat_natCast, h k hk, w64_next (by omega)]
    rfl
  · refine leads_ev (finE_sub _ _) e_nil k_nil noL_ok ((fm2_end f (f.m : Nat)).trans ?_)
    rw [dec_self, cond_false]
theorem fm2_bad {f : Flm} (hn : f.m ≤ 1000000) {K : Nat} (hK : K < f.m) (hb : ofB (f.sh K) 1048576 = true) (h : ∀ i, i < K → ofB (f.sh i) 1048576 = false) : Leads Try.prog (.loop (loopAt Try.f9 1)) (fmS f 4 0) .ret fmE := by
  refine loop_rule (fun k => fmS f 4 (k : Nat)) K .ret _ (by simp) (fun k hk => ?_) ?_
  · refine leads_ev (finN_sub _ _) e_nil k_nil noL_ok ((fm2_step f (k : Nat)).trans ?_)
    have hk' : k < f.m := by omega
    rw [dec_lt hk', ixB_t hk', gdB_t hk', Int.toNat_natCast, h k hk, w64_next (by omega)]
    rfl
  · refine leads_ev (finR_sub _ _) e_nil k_nil noL_ok ((fm2_ret f (K : Nat)).trans ?_)
    rw [dec_lt hK, ixB_t hK, gdB_t hK, Int.toNat_natCast, hb]
    rfl
/-! ### Whether a film may be -/
def fbad (W H : Int) : Bool := cond (cond (cond (decide (W < 1)) true (decide (H < 1))) true (decide (W > 64))) true (decide (H > 64))
def fcnt (f : Flm) : Bool := cond (!((f.n : Int) == w64 (w64 (3 * f.W) * f.H))) true (!((f.m : Int) == w64 (f.W * f.H)))
def fval (f : Flm) : Bool := allI f.n (fun i => !ofB (f.lt i) 1099511627776) && allI f.m (fun i => !ofB (f.sh i) 1048576)
def fmay (f : Flm) : Int := cond (fbad f.W f.H) 4 (cond (fcnt f) 5 (cond (fval f) 0 6))
noncomputable def fmL1 (f : Flm) : LFun := toldF [1, 3] [some 0] (fmS f 3 0) (.exit 0) (fmS f 3 (f.n : Nat))
noncomputable def fmL1r (f : Flm) : LFun := toldF [1, 3] [some 0] (fmS f 3 0) .ret fmE
noncomputable def fmL2 (f : Flm) : LFun := toldF [1, 4] [some 0] (fmS f 4 0) (.exit 2) (fmS f 4 (f.m : Nat))
noncomputable def fmL2r (f : Flm) : LFun := toldF [1, 4] [some 0] (fmS f 4 0) .ret fmE
section
variable (f : Flm)
theorem fmay_ev0 : ev Try.prog [] [] (twoL 6 (fun _ _ => none) 11 (fun _ _ => none)) Try.f9 [.agg f.c] ret = cond (fbad f.W f.H) (some (Out.of (iA 4))) (cond (fcnt f) (some (Out.of (iA 5))) none) := by kernel_rfl
theorem fmay_evG : ev Try.prog [] [] (twoL 6 (fmL1 f) 11 (fmL2 f)) Try.f9 [.agg f.c] ret = cond (fbad f.W f.H) (some (Out.of (iA 4))) (cond (fcnt f) (some (Out.of (iA 5))) (gate (Sub (fmS f 3 0) (fmS f 3 0)) (gate (Sub (fmS f 4 0) (fmS f 4 0)) (some (Out.of (iA 0)))))) := by kernel_rfl
theorem fmay_evR : ev Try.prog [] [] (twoL 6 (fmL1 f) 11 (fmL2r f)) Try.f9 [.agg f.c] ret = cond (fbad f.W f.H) (some (Out.of (iA 4))) (cond (fcnt f) (some (Out.of (iA 5))) (gate (Sub (fmS f 3 0) (fmS f 3 0)) (gate (Sub (fmS f 4 0) (fmS f 4 0)) (some (Out.of (iA 6)))))) := by kernel_rfl
theorem fmay_evL : ev Try.prog [] [] (twoL 6 (fmL1r f) 11 (fun _ _ => none)) Try.f9 [.agg f.c] ret = cond (fbad f.W f.H) (some (Out.of (iA 4))) (cond (fcnt f) (some (Out.of (iA 5))) (gate (Sub (fmS f 3 0) (fmS f 3 0)) (some (Out.of (iA 6))))) := by kernel_rfl
end
theorem fbad_false {W H : Int} (h : fbad W H = false) : 1 ≤ W ∧ W ≤ 64 ∧ 1 ≤ H ∧ H ≤ 64 := by
  unfold fbad at h
  by_cases h1 : W < 1 <;> by_cases h2 : W > 64 <;> by_cases h3 : H < 1 <;> by_cases h4 : H > 64 <;> simp [h1, h2, h3, h4] at h
  omega
theorem fcnt_false {f : Flm} (hb : fbad f.W f.H = false) (h : fcnt f = false) : (f.n : Int) = 3 * (f.W * f.H) ∧ (f.m : Int) = f.W * f.H := by
  obtain ⟨h1, h2, h3, h4⟩ := fbad_false hb
  have hm := mulB (x := f.W) (y := f.H) (X := 64) (Y := 64) (by omega) h2 (by omega) h4
  unfold fcnt at h
  rw [w64_id (n := 3 * f.W) (by omega) (by omega), Int.mul_assoc, w64_id (n := 3 * (f.W * f.H)) (by omega) (by omega), w64_id (n := f.W * f.H) (by omega) (by omega)] at h
  cases e1 : (f.n : Int) == 3 * (f.W * f.H) <;> cases e2 : (f.m : Int) == f.W * f.H <;> rw [e1, e2] at h <;> simp at h
  exact ⟨eq_of_beq e1, eq_of_beq e2⟩
theorem fmayR_spec (f : Flm) : FSpec Try.prog 9 [.agg f.c] (iA (fmay f)) := by
  unfold fmay
  cases hb : fbad f.W f.H
  · cases hc : fcnt f
    · obtain ⟨h1, h2, h3, h4⟩ := fbad_false hb
      obtain ⟨hn, hm⟩ := fcnt_false hb hc
      have hM := mulB (x := f.W) (y := f.H) (X := 64) (Y := 64) (by omega) h2 (by omega) h4
      have hn' : f.n ≤ 1000000 := by omega
      have hm' : f.m ≤ 1000000 := by omega
      rcases all_or_first (fun i => !ofB (f.lt i) 1099511627776) f.n with hl | ⟨K, hK, hp, hq⟩
      · have l1 := lok_at (c := bodyOf Try.f9) (i := 6) 0 2 (by kernel_rfl) (by kernel_rfl) (toldF_sound (keep := [1, 3]) (τ := [some 0]) (fm1_good hn' fun i hi => by simpa using hl i hi))
        rcases all_or_first (fun i => !ofB (f.sh i) 1048576) f.m with hs | ⟨K, hK, hp, hq⟩
        · have l2 := lok_at (c := bodyOf Try.f9) (i := 11) 1 2 (by kernel_rfl) (by kernel_rfl) (toldF_sound (keep := [1, 4]) (τ := [some 0]) (fm2_good hm' fun i hi => by simpa using hs i hi))
          refine gspec e_nil k_nil Try.func9 (by kernel_rfl) (by kernel_rfl) (lok_two l1 l2) rfl ((fmay_evG f).trans ?_)
          unfold fval
          rw [hb, hc, gate_pos (Sub.refl _), gate_pos (Sub.refl _), allI_t hl, allI_t hs]
          rfl
        · have l2 := lok_at (c := bodyOf Try.f9) (i := 11) 1 2 (by kernel_rfl) (by kernel_rfl) (toldF_sound (keep := [1, 4]) (τ := [some 0]) (fm2_bad hm' hK (by simpa using hp) fun i hi => by simpa using hq i hi))
          refine gspec e_nil k_nil Try.func9 (by kernel_rfl) (by kernel_rfl) (lok_two l1 l2) rfl ((fmay_evR f).trans ?_)
          unfold fval
          rw [hb, hc, gate_pos (Sub.refl _), gate_pos (Sub.refl _), allI_t hl, allI_f hK hp]
          rfl
      · have l1 := lok_at (c := bodyOf Try.f9) (i := 6) 0 2 (by kernel_rfl) (by kernel_rfl) (toldF_sound (keep := [1, 3]) (τ := [some 0]) (fm1_bad hn' hK (by simpa using hp) fun i hi => by simpa using hq i hi))
        refine gspec e_nil k_nil Try.func9 (by kernel_rfl) (by kernel_rfl) (lok_two l1 (lok_none 11)) rfl ((fmay_evL f).trans ?_)
        unfold fval
        rw [hb, hc, gate_pos (Sub.refl _), allI_f hK hp]
        rfl
    · refine gspec e_nil k_nil Try.func9 (by kernel_rfl) (by kernel_rfl) (lok_two (lok_none 6) (lok_none 11)) rfl ((fmay_ev0 f).trans ?_)
      rw [hb, hc]
      rfl
  · refine gspec e_nil k_nil Try.func9 (by kernel_rfl) (by kernel_rfl) (lok_two (lok_none 6) (lok_none 11)) rfl ((fmay_ev0 f).trans ?_)
    rw [hb]
    rfl
end Go.Proofs.Ytephoojaflfajaa

namespace Go.Proofs.Ytephoojaflfajaa
open Go.Gv

def zF : Flm := ⟨0, 0, 0, fun _ => 0, 0, fun _ => 0⟩
def flmZ : List AV := [iA 0, iA 0, .x (.slice none 0 0), .x (.slice none 0 0)]
theorem zF_like {E : Env} {v : Value} (h : rel E (.agg flmZ) v) : rel E (.agg zF.c) v := by
  obtain ⟨vs, h1, h2⟩ := rel_agg.1 h
  refine rel_agg.2 ⟨vs, h1, ?_⟩
  obtain ⟨u0, t0, e0, r0, h2⟩ := rels_cons.1 h2
  obtain ⟨u1, t1, e1, r1, h2⟩ := rels_cons.1 h2
  obtain ⟨u2, t2, e2, r2, h2⟩ := rels_cons.1 h2
  obtain ⟨u3, t3, e3, r3, h2⟩ := rels_cons.1 h2
  exact rels_cons.2 ⟨u0, t0, e0, r0, rels_cons.2 ⟨u1, t1, e1, r1, rels_cons.2 ⟨u2, t2, e2, nil_like r2, rels_cons.2 ⟨u3, t3, e3, nil_like r3, h2⟩⟩⟩⟩
/-- A film, and an error beside it. -/
def fOut (f : Flm) (e : Int) : AV := .tup [.agg f.c, iA e]
def fBad (e : Int) : Option Out := some (Out.of (.tup [.agg flmZ, iA e]))
theorem fspec_bad {f : Nat} {args : List AV} {e : Int} (h : FSpec Try.prog f args (.tup [.agg flmZ, iA e])) : FSpec Try.prog f args (fOut zF e) := FSpec.of_res h fun _ _ hr => tup2_like hr fun _ => zF_like

def intOf : List AV → Int
  | [.x (.int .i64 n)] => n
  | _ => 0
abbrev MF : Type := Int → Int → Nat → (Nat → List AV) → Nat → (Nat → List AV) → Int
/-- Whether a film may be, of what stands in it. -/
def fmG (mf : MF) : List AV → AV
  | [.agg [.x (.int .i64 W), .x (.int .i64 H), .sl _ n el, .sl _ m el']] => iA (mf W H n el m el')
  | _ => .any
def MF.of (mf : MF) (f : Flm) : Int := mf f.W f.H f.n (fun i => [iA (f.lt i)]) f.m (fun i => [iA (f.sh i)])
noncomputable def fmE' : MF := fun W H n el m el' => fmay ⟨W, H, n, fun i => intOf (el i), m, fun i => intOf (el' i)⟩
theorem fmE_of (f : Flm) : MF.of fmE' f = fmay f := rfl
abbrev FMok (k : Nat) (mf : MF) (f : Flm) : Prop := FSpec Try.prog k [.agg f.c] (fmG mf [.agg f.c])
theorem FMok_of {k : Nat} (h : ∀ f : Flm, FSpec Try.prog k [.agg f.c] (iA (fmay f))) (f : Flm) : FMok k fmE' f := h f
theorem fmay_zero {f : Flm} (h : fmay f = 0) : fbad f.W f.H = false ∧ fcnt f = false ∧ fval f = true := by
  unfold fmay at h
  cases h1 : fbad f.W f.H <;> cases h2 : fcnt f <;> cases h3 : fval f <;> rw [h1, h2, h3] at h <;> simp at h
  exact ⟨rfl, rfl, rfl⟩
theorem fmay_n {f : Flm} (h : fmay f = 0) : f.n ≤ 1000000 ∧ f.m ≤ 1000000 ∧ (f.n : Int) = 3 * (f.W * f.H) ∧ (f.m : Int) = f.W * f.H := by
  obtain ⟨h1, h2, _⟩ := fmay_zero h
  obtain ⟨a, b, c, d⟩ := fbad_false h1
  have hM := mulB (x := f.W) (y := f.H) (X := 64) (Y := 64) (by omega) b (by omega) d
  obtain ⟨h3, h4⟩ := fcnt_false h1 h2
  exact ⟨by omega, by omega, h3, h4⟩
end Go.Proofs.Ytephoojaflfajaa

namespace Go.Proofs.Ytephoojaflfajaa
open Go.Gv

/-! ### Number and number together -/
def plS (n m : Nat) (a b : Nat → Int) (i : Int) (c : Nat) (el : Nat → List AV) : St := mkS 26 [(0, sI n a), (1, sI m b), (5, .osl 0 1 0 c), (6, iA i)] [.a 3 1 c el]
section
variable (n m : Nat) (a b : Nat → Int) (i : Int) (c : Nat) (el : Nat → List AV)
theorem pl_step : evC Try.prog [] [] noL (loopAt Try.f25 0) (plS n m a b i c el) (finN [0, 1, 5, 6] [some 2]) =
    cond (decide (i < n)) (cond ((ixB i n || false) && ((ixB i m || false) && ((apB c 8 || false) && true))) (some ⟨.normal, plS n m a b (w64 (i + 1)) (c + 1) (fun q => mixL (Nat.blt q c) (el q) [iA (w64 (a i.toNat + b i.toNat))]), .any⟩) none) none := by kernel_rfl
theorem pl_end : evC Try.prog [] [] noL (loopAt Try.f25 0) (plS n m a b i c el) (finE [0, 1, 5, 6] [some 0]) =
    cond (decide (i < n)) (cond ((ixB i n || false) && ((ixB i m || false) && ((apB c 8 || false) && true))) none none) (some ⟨.exit 0, plS n m a b i c el, .any⟩) := by kernel_rfl
end
def sumI (a b : Nat → Int) (i : Nat) : Int := w64 (a i + b i)
theorem pl_leads {n m : Nat} (hn : n ≤ 1000000) (hm : n ≤ m) (a b : Nat → Int) : Leads Try.prog (.loop (loopAt Try.f25 0)) (plS n m a b 0 0 fun q => [iA (sumI a b q)]) (.exit 0) (plS n m a b (n : Nat) n fun q => [iA (sumI a b q)]) := by
  refine loop_rule (fun k => plS n m a b (k : Nat) k fun q => [iA (sumI a b q)]) n (.exit 0) _ (by simp) (fun k hk => ?_) ?_
  · have st := pl_step n m a b (k : Nat) k fun q => [iA (sumI a b q)]
    rw [dec_lt hk, ixB_t hk, ixB_t (show k < m by omega), apB_t (by omega), w64_next (by omega), Int.toNat_natCast] at st
    refine (leads_ev (finN_sub _ _) e_nil k_nil noL_ok st).sub (Sub.refl _) ?_
    refine sub_same ⟨Or.inr ⟨3, 1, k + 1, _, _, rfl, rfl, fun q hq => ?_⟩, trivial⟩
    rw [mixI]
    cases hlt : Nat.blt q k
    · have hge := not_blt hlt
      have : q = k := by omega
      subst this
      rfl
    · rfl
  · refine leads_ev (finE_sub _ _) e_nil k_nil noL_ok ((pl_end n m a b (n : Nat) n _).trans ?_)
    rw [dec_self, cond_false]
noncomputable def plL (n m : Nat) (a b g : Nat → Int) : Nat → Option LFun := oneL 3 (toldN [0, 1, 5, 6] [(5, 0, 1)] (.a 3 1 0 fun q => [iA (g q)]) [none] (plS n m a b 0 0 fun q => [iA (g q)]) (.exit 0) (plS n m a b (n : Nat) n fun q => [iA (g q)]))
theorem pl_ev (n m : Nat) (a b g : Nat → Int) : ev Try.prog [] [] (plL n m a b g) Try.f25 [sI n a, sI m b] ret =
    gate (Sub (plS n m a b 0 0 fun q => [iA (g q)]) (plS n m a b 0 0 fun q => [iA (g q)])) (some (Out.of (sI n fun i => g (0 + i)))) := by kernel_rfl
theorem plus_spec {n m : Nat} (hn : n ≤ 1000000) (hm : n ≤ m) (a b : Nat → Int) : FSpec Try.prog 25 [sI n a, sI m b] (sI n (sumI a b)) := by
  have hL := lok_hd (c := bodyOf Try.f25) (i := 3) 0 (by kernel_rfl) (by kernel_rfl) (toldN_sound (keep := [0, 1, 5, 6]) (nils := [(5, 0, 1)]) (nr := .a 3 1 0 fun q => [iA (sumI a b q)]) (τ := [none]) (pl_leads hn hm a b))
  refine gspec e_nil k_nil Try.func25 (by kernel_rfl) (by kernel_rfl) hL rfl ((pl_ev n m a b (sumI a b)).trans ?_)
  have e : (fun i => sumI a b (0 + i)) = sumI a b := funext fun i => by rw [Nat.zero_add]
  rw [gate_pos (Sub.refl _), e]
abbrev PF : Type := (Nat → List AV) → (Nat → List AV) → Nat → Int
def plG (pf : PF) : List AV → AV
  | [.sl _ n el, .sl _ _ el'] => sI n (pf el el')
  | _ => .any
def PF.of (pf : PF) (a b : Nat → Int) : Nat → Int := pf (fun i => [iA (a i)]) (fun i => [iA (b i)])
def plE : PF := fun el el' i => w64 (intOf (el i) + intOf (el' i))
abbrev PLok (pf : PF) (n m : Nat) (a b : Nat → Int) : Prop := FSpec Try.prog 25 [sI n a, sI m b] (plG pf [sI n a, sI m b])
theorem PLok_of {n m : Nat} (hn : n ≤ 1000000) (hm : n ≤ m) (a b : Nat → Int) : PLok plE n m a b := plus_spec hn hm a b
end Go.Proofs.Ytephoojaflfajaa

namespace Go.Proofs.Ytephoojaflfajaa
open Go.Gv

/-- Two films together. -/
def mrgP (pf : PF) (f g : Flm) : Flm := ⟨f.W, f.H, f.n, pf.of f.lt g.lt, f.m, pf.of f.sh g.sh⟩
def mrg (f g : Flm) : Flm := ⟨f.W, f.H, f.n, sumI f.lt g.lt, f.m, sumI f.sh g.sh⟩
def sideB (f g : Flm) : Bool := cond (!(f.W == g.W)) true (!(f.H == g.H))
noncomputable def mrgE (f g : Flm) : Int := cond (!(fmay f == 0)) (fmay f) (cond (!(fmay g == 0)) (fmay g) (cond (sideB f g) 5 (cond (!(fmay (mrg f g) == 0)) 4 0)))
noncomputable def mrgF (f g : Flm) : Flm := open Classical in if mrgE f g = 0 then mrg f g else zF
theorem mg_ev (mf : MF) (pf : PF) (f g : Flm) : ev Try.prog [] [kS Try.prog 9 (fmG mf), kS Try.prog 25 (plG pf)] noL Try.f12 [.agg f.c, .agg g.c] ret =
    gate (FMok 9 mf f) (cond (!(mf.of f == 0)) (fBad (mf.of f)) (gate (FMok 9 mf g) (cond (!(mf.of g == 0)) (fBad (mf.of g)) (cond (sideB f g) (fBad 5)
      (gate (PLok pf f.n g.n f.lt g.lt) (gate (PLok pf f.m g.m f.sh g.sh) (gate (FMok 9 mf (mrgP pf f g)) (cond (!(mf.of (mrgP pf f g) == 0)) (fBad 4) (some (Out.of (fOut (mrgP pf f g) 0))))))))))) := by kernel_rfl
theorem sideB_false {f g : Flm} (h : sideB f g = false) : f.W = g.W ∧ f.H = g.H := by
  unfold sideB at h
  cases h1 : f.W == g.W <;> cases h2 : f.H == g.H <;> rw [h1, h2] at h <;> simp at h
  exact ⟨eq_of_beq h1, eq_of_beq h2⟩
theorem mergeR_spec (f g : Flm) : FSpec Try.prog 12 [.agg f.c, .agg g.c] (fOut (mrgF f g) (mrgE f g)) := by
  have ok := FMok_of fmayR_spec
  have ks := k_cons (kS_ok (P := Try.prog) (f := 9) (g := fmG fmE')) (k_cons (kS_ok (P := Try.prog) (f := 25) (g := plG plE)) k_nil)
  have hev := mg_ev fmE' plE f g
  rw [gate_pos (ok f), fmE_of, fmE_of] at hev
  have bad : ∀ e : Int, e ≠ 0 → mrgE f g = e → ev Try.prog [] [kS Try.prog 9 (fmG fmE'), kS Try.prog 25 (plG plE)] noL Try.f12 [.agg f.c, .agg g.c] ret = fBad e → FSpec Try.prog 12 [.agg f.c, .agg g.c] (fOut (mrgF f g) (mrgE f g)) := fun e he h1 h2 => by
    have hf : mrgF f g = zF := by unfold mrgF; rw [if_neg (by rw [h1]; exact he)]
    rw [hf, h1]
    exact fspec_bad (gspec e_nil ks Try.func12 (by kernel_rfl) (by kernel_rfl) noL_ok rfl h2)
  by_cases h1 : fmay f = 0
  · rw [h1] at hev
    rw [gate_pos (ok g)] at hev
    by_cases h2 : fmay g = 0
    · rw [h2] at hev
      cases h3 : sideB f g
      · rw [h3] at hev
        obtain ⟨n1, m1, c1, d1⟩ := fmay_n h1
        obtain ⟨n2, m2, c2, d2⟩ := fmay_n h2
        obtain ⟨eW, eH⟩ := sideB_false h3
        rw [eW, eH] at c1 d1
        rw [gate_pos (PLok_of n1 (by omega) f.lt g.lt), gate_pos (PLok_of m1 (by omega) f.sh g.sh), gate_pos (ok (mrgP plE f g)), fmE_of] at hev
        by_cases h4 : fmay (mrg f g) = 0
        · have h4' : fmay (mrgP plE f g) = 0 := h4
          rw [h4'] at hev
          have e1 : mrgE f g = 0 := by unfold mrgE; rw [h1, h2, h3, h4]; rfl
          have e2 : mrgF f g = mrg f g := by unfold mrgF; rw [if_pos e1]
          rw [e1, e2]
          exact gspec e_nil ks Try.func12 (by kernel_rfl) (by kernel_rfl) noL_ok rfl hev
        · have h4' : fmay (mrgP plE f g) ≠ 0 := h4
          rw [beq_false_of_ne h4'] at hev
          exact bad 4 (by decide) (by unfold mrgE; rw [h1, h2, h3, beq_false_of_ne h4]; rfl) hev
      · rw [h3] at hev
        exact bad 5 (by decide) (by unfold mrgE; rw [h1, h2, h3]; rfl) hev
    · rw [beq_false_of_ne h2] at hev
      exact bad (fmay g) h2 (by unfold mrgE; rw [h1, beq_false_of_ne h2]; rfl) hev
  · rw [beq_false_of_ne h1] at hev
    exact bad (fmay f) h1 (by unfold mrgE; rw [beq_false_of_ne h1]; rfl) hev
end Go.Proofs.Ytephoojaflfajaa

namespace Go.Proofs.Ytephoojaflfajaa
open Go.Gv

/-! ### Rows that are the same -/
def siS (n m : Nat) (a b : Nat → Int) (i : Int) : St := mkS 26 [(0, sI n a), (1, sI m b), (5, iA i)] []
section
variable (n m : Nat) (a b : Nat → Int) (i : Int)
def siT : Option Out := cond (decide (i < n)) (cond ((ixB i n || false) && ((ixB i m || false) && true)) (cond (!(a i.toNat == b i.toNat)) none (some ⟨.normal, siS n m a b (w64 (i + 1)), .any⟩)) none) none
def siU : Option Out := cond (decide (i < n)) (cond ((ixB i n || false) && ((ixB i m || false) && true)) (cond (!(a i.toNat == b i.toNat)) none none) none) (some ⟨.exit 0, siS n m a b i, .any⟩)
theorem si_step : evC Try.prog [] [] noL (loopAt Try.f24 0) (siS n m a b i) (finN [0, 1, 5] []) = siT n m a b i := by kernel_rfl
theorem si_end : evC Try.prog [] [] noL (loopAt Try.f24 0) (siS n m a b i) (finE [0, 1, 5] []) = siU n m a b i := by kernel_rfl
end
theorem si_leads {n : Nat} (hn : n ≤ 4611686018427387904) {a b : Nat → Int} (h : ∀ i, i < n → a i = b i) : Leads Try.prog (.loop (loopAt Try.f24 0)) (siS n n a b 0) (.exit 0) (siS n n a b (n : Nat)) := by
  refine loop_rule (fun k => siS n n a b (k : Nat)) n (.exit 0) _ (by simp) (fun k hk => ?_) ?_
  · refine leads_ev (finN_sub _ _) e_nil k_nil noL_ok ((si_step n n a b (k : Nat)).trans ?_)
    unfold siT
    rw [dec_lt hk, ixB_t hk, Int.toNat_natCast, h k hk, BEq.rfl, w64_next (by omega)]
    rfl
  · refine leads_ev (finE_sub _ _) e_nil k_nil noL_ok ((si_end n n a b (n : Nat)).trans ?_)
    unfold siU
    rw [dec_self, cond_false]
noncomputable def siL (n : Nat) (a b : Nat → Int) : Nat → Option LFun := oneL 4 (toldF [0, 1, 5] [] (siS n n a b 0) (.exit 0) (siS n n a b (n : Nat)))
theorem si_ev (n : Nat) (a b : Nat → Int) : ev Try.prog [] [] (siL n a b) Try.f24 [sI n a, sI n b] ret = cond (!((n : Int) == (n : Int))) (some (Out.of (bA false))) (gate (Sub (siS n n a b 0) (siS n n a b 0)) (some (Out.of (bA true)))) := by kernel_rfl
theorem same_ints {n : Nat} (hn : n ≤ 4611686018427387904) {a b : Nat → Int} (h : ∀ i, i < n → a i = b i) : FSpec Try.prog 24 [sI n a, sI n b] (bA true) := by
  have hL := lok_hd (c := bodyOf Try.f24) (i := 4) 0 (by kernel_rfl) (by kernel_rfl) (toldF_sound (keep := [0, 1, 5]) (τ := []) (si_leads hn h))
  refine gspec e_nil k_nil Try.func24 (by kernel_rfl) (by kernel_rfl) hL rfl ((si_ev n a b).trans ?_)
  rw [BEq.rfl, gate_pos (Sub.refl _)]
  rfl
end Go.Proofs.Ytephoojaflfajaa

namespace Go.Proofs.Ytephoojaflfajaa
open Go.Gv

/-! ### Shades -/
/-- The greatest of 0 to k that a light has. -/
def shN (l : Int) : Nat → Nat
  | 0 => 0
  | k + 1 => if ((k + 1 : Nat) : Int) * ((k + 1 : Nat) : Int) * 65536 ≤ l * 65025 then k + 1 else shN l k
def shS (l : Int) : Nat := if l < 0 then 0 else shN l 255
theorem shN_le (l : Int) : ∀ k, shN l k ≤ k
  | 0 => Nat.le_refl _
  | k + 1 => by
    unfold shN
    split
    · exact Nat.le_refl _
    · exact Nat.le_succ_of_le (shN_le l k)
theorem shN_has {l : Int} (h : 0 ≤ l) : ∀ k, ((shN l k : Nat) : Int) * ((shN l k : Nat) : Int) * 65536 ≤ l * 65025
  | 0 => by simp only [shN]; omega
  | k + 1 => by
    unfold shN
    split
    · assumption
    · exact shN_has h k
theorem shN_most {l : Int} {k j : Nat} (h : j ≤ k) (hj : ((j : Nat) : Int) * ((j : Nat) : Int) * 65536 ≤ l * 65025) : j ≤ shN l k := by
  induction k with
  | zero => simp only [shN]; omega
  | succ k ih =>
    unfold shN
    split
    · exact h
    · rename_i hc
      rcases Nat.lt_or_ge j (k + 1) with h1 | h1
      · exact ih (by omega)
      · have : j = k + 1 := by omega
        subst this
        exact absurd hj hc
theorem sq_mono {a b : Nat} (h : a ≤ b) : ((a : Nat) : Int) * ((a : Nat) : Int) ≤ ((b : Nat) : Int) * ((b : Nat) : Int) := by
  exact Int.mul_le_mul (by omega) (by omega) (by omega) (by omega)
/-- What tells it. -/
theorem shS_of {l : Int} {b : Nat} (hb : b ≤ 255) (h1 : b = 0 ∨ (b : Int) * b * 65536 ≤ l * 65025) (h2 : b = 255 ∨ l < 0 ∨ l * 65025 < ((b + 1 : Nat) : Int) * ((b + 1 : Nat) : Int) * 65536) : b = shS l := by
  unfold shS
  by_cases hl : l < 0
  · rw [if_pos hl]
    rcases h1 with h1 | h1
    · exact h1
    · have := mulB (x := (b : Int)) (y := (b : Int)) (X := 255) (Y := 255) (by omega) (by omega) (by omega) (by omega)
      omega
  · rw [if_neg hl]
    have g1 : b ≤ shN l 255 := by
      rcases h1 with h1 | h1
      · omega
      · exact shN_most hb h1
    rcases h2 with h2 | h2 | h2
    · have := shN_le l 255; omega
    · omega
    · have g2 := shN_has (l := l) (by omega) 255
      have g3 : ¬ (b + 1 ≤ shN l 255) := fun hc => by
        have := sq_mono hc
        omega
      omega
theorem shS_le (l : Int) : shS l ≤ 255 := by
  unfold shS; split
  · omega
  · exact shN_le l 255
def shT (l b : Int) : Bool := cond (cond (cond (decide (b < 255)) (decide (l ≥ 0)) false) (decide (w64 (w64 (w64 (b + 1) * w64 (b + 1)) * 65536) ≤ w64 (l * 65025))) false) (decide (l < 1000000)) false
def shLS (l b : Int) : St := mkS 31 [(0, iA l), (3, iA b)] []
section
variable (l b : Int)
theorem sh_step : evC Try.prog [] [] noL (loopAt Try.f14 0) (shLS l b) (finN [0, 3] []) = cond (shT l b) (some ⟨.normal, shLS l (w64 (b + 1)), .any⟩) none := by kernel_rfl
theorem sh_end : evC Try.prog [] [] noL (loopAt Try.f14 0) (shLS l b) (finE [0, 3] []) = cond (shT l b) none (some ⟨.exit 0, shLS l b, .any⟩) := by kernel_rfl
end
theorem shT_eq {l : Int} {b : Nat} (hb : b < 255) (hl : l < 1000000) (hl0 : 0 ≤ l) : shT l (b : Nat) = decide (((b + 1 : Nat) : Int) * ((b + 1 : Nat) : Int) * 65536 ≤ l * 65025) := by
  unfold shT
  have hm := mulB (x := ((b + 1 : Nat) : Int)) (y := ((b + 1 : Nat) : Int)) (X := 255) (Y := 255) (by omega) (by omega) (by omega) (by omega)
  rw [decide_eq_true (show ((b : Nat) : Int) < 255 by omega), decide_eq_true (show l ≥ 0 by omega), decide_eq_true hl, w64_next (by omega), w64_id (n := ((b + 1 : Nat) : Int) * ((b + 1 : Nat) : Int)) (by omega) (by omega), w64_id (n := ((b + 1 : Nat) : Int) * ((b + 1 : Nat) : Int) * 65536) (by omega) (by omega), w64_id (n := l * 65025) (by omega) (by omega)]
  cases decide (((b + 1 : Nat) : Int) * ((b + 1 : Nat) : Int) * 65536 ≤ l * 65025) <;> rfl
theorem shT_no {l : Int} (h : l < 0 ∨ 1000000 ≤ l) (b : Int) : shT l b = false := by
  unfold shT
  rcases h with h | h
  · rw [decide_eq_false (show ¬ l ≥ 0 by omega)]
    cases decide (b < 255) <;> rfl
  · rw [decide_eq_false (show ¬ l < 1000000 by omega)]
    cases (cond (cond (decide (b < 255)) (decide (l ≥ 0)) false) (decide (w64 (w64 (w64 (b + 1) * w64 (b + 1)) * 65536) ≤ w64 (l * 65025))) false) <;> rfl
/-- How far the loop goes. -/
def shK (l : Int) : Nat := if 1000000 ≤ l then 0 else shS l
theorem sh_leads (l : Int) : Leads Try.prog (.loop (loopAt Try.f14 0)) (shLS l 0) (.exit 0) (shLS l (shK l : Nat)) := by
  refine loop_rule (fun k => shLS l (k : Nat)) (shK l) (.exit 0) _ (by simp) (fun k hk => ?_) ?_
  · refine leads_ev (finN_sub _ _) e_nil k_nil noL_ok ((sh_step l (k : Nat)).trans ?_)
    unfold shK at hk
    by_cases h1 : 1000000 ≤ l
    · rw [if_pos h1] at hk; omega
    rw [if_neg h1] at hk
    by_cases h0 : l < 0
    · unfold shS at hk
      rw [if_pos h0] at hk; omega
    have h255 := shS_le l
    have he : shS l = shN l 255 := by unfold shS; rw [if_neg h0]
    have hh := shN_has (l := l) (by omega) 255
    rw [← he] at hh
    have hm := sq_mono (show k + 1 ≤ shS l by omega)
    rw [shT_eq (by omega) (by omega) (by omega), decide_eq_true (by omega), w64_next (by omega)]
    rfl
  · refine leads_ev (finE_sub _ _) e_nil k_nil noL_ok ((sh_end l (shK l : Nat)).trans ?_)
    have hT : shT l (shK l : Nat) = false := by
      by_cases h1 : 1000000 ≤ l
      · exact shT_no (Or.inr h1) _
      by_cases h0 : l < 0
      · exact shT_no (Or.inl h0) _
      have hk : shK l = shS l := by unfold shK; rw [if_neg h1]
      have h255 := shS_le l
      have he : shS l = shN l 255 := by unfold shS; rw [if_neg h0]
      rw [hk]
      rcases Nat.lt_or_ge (shS l) 255 with h2 | h2
      · rw [shT_eq h2 (by omega) (by omega)]
        refine decide_eq_false fun hc => ?_
        have := shN_most (l := l) (k := 255) (j := shS l + 1) (by omega) hc
        omega
      · have : shS l = 255 := by omega
        rw [this]
        rfl
    rw [hT, cond_false]
noncomputable def shL (l : Int) (K : Int) : Nat → Option LFun := oneL 2 (toldF [0, 3] [] (shLS l 0) (.exit 0) (shLS l K))
theorem sh_ev (l K : Int) : ev Try.prog [] [] (shL l K) Try.f14 [iA l] ret = gate (Sub (shLS l 0) (shLS l 0)) (cond (decide (l ≥ 1000000)) (some (Out.of (yA 255))) (some (Out.of (yA (IntKind.u8.wrap K))))) := by kernel_rfl
theorem shS_high {l : Int} (h : 1000000 ≤ l) : shS l = 255 := (shS_of (Nat.le_refl 255) (Or.inr (by omega)) (Or.inl rfl)).symm
theorem shadeR_spec (l : Int) : FSpec Try.prog 14 [iA l] (yA (shS l : Nat)) := by
  have hL := lok_hd (c := bodyOf Try.f14) (i := 2) 0 (by kernel_rfl) (by kernel_rfl) (toldF_sound (keep := [0, 3]) (τ := []) (sh_leads l))
  refine gspec e_nil k_nil Try.func14 (by kernel_rfl) (by kernel_rfl) hL rfl ((sh_ev l (shK l : Nat)).trans ?_)
  rw [gate_pos (Sub.refl _)]
  by_cases h : 1000000 ≤ l
  · rw [decide_eq_true (show l ≥ 1000000 from h), shS_high h]
    rfl
  · have hk : shK l = shS l := by unfold shK; rw [if_neg h]
    have := shS_le l
    rw [decide_eq_false (show ¬ l ≥ 1000000 from h), hk, u8_id (by omega) (by omega)]
    rfl
def gSh (sf : Int → Int) : List AV → Option AV
  | [.x (.int .i64 l)] => some (yA (sf l))
  | _ => none
theorem gSh_ok {f : Nat} {sf : Int → Int} (h : ∀ l, FSpec Try.prog f [iA l] (yA (sf l))) : EOk Try.prog ⟨f, gSh sf⟩ := fun args r hr => by
  simp only [gSh] at hr
  split at hr
  · cases hr; exact Or.inl (h _)
  · cases hr
end Go.Proofs.Ytephoojaflfajaa

namespace Go.Proofs.Ytephoojaflfajaa
open Go.Gv

end Go.Proofs.Ytephoojaflfajaa

namespace Go.Proofs.Ytephoojaflfajaa
open Go.Gv

def pxB (f : Flm) (x y : Int) : Bool := cond (cond (cond (decide (x < 0)) true (decide (y < 0))) true (decide (x ≥ f.W))) true (decide (y ≥ f.H))
def ltB (l : Nat → Int) : Bool := cond (ofB (l 0) 1099511627776) true (cond (ofB (l 1) 1099511627776) true (ofB (l 2) 1099511627776))
def l3 (l : Nat → Int) : List AV := [iA (l 0), iA (l 1), iA (l 2)]
def ptS (l : Nat → Int) (W H at' c : Int) (n m : Nat) (el : Nat → List AV) (g' : Nat → Int) : St := mkS 110 [(8, .own 1 0), (7, .own 0 0), (12, .own 2 0), (13, iA at'), (14, iA c)] [.c (l3 l), .c flmZ, .c [iA W, iA H, .osl 3 1 0 n, .osl 4 1 0 m], .a 3 1 n el, .a 3 1 m fun j => [iA (g' j)]]
def keepPt : List Nat := [7, 8, 12, 13, 14]
def t5 : List (Option Nat) := [some 0, some 1, some 2, some 3, some 4]
def ix3 (a c : Int) : Int := w64 (w64 (3 * a) + c)
def owB (i : Int) (n : Nat) : Bool := (ixB i n || false) && ((Nat.blt (0 + i.toNat) n || false) && ((ixB i n || false) && ((Nat.blt (0 + i.toNat) n || false) && true)))
def putEl (g : Nat → Int) (q : Nat) (v : Int) (j : Nat) : List AV := mixL (j == q) [iA v] [iA (g j)]
section
variable (l : Nat → Int) (W H a : Int) (n m : Nat) (g g' : Nat → Int)
theorem pt_step0 : evC Try.prog [] [] noL (loopAt Try.f7 1) (ptS l W H a 0 n m (fun j => [iA (g j)]) g') (finN keepPt t5) =
    cond (owB (ix3 a 0) n) (some ⟨.normal, ptS l W H a 1 n m (putEl g (0 + (ix3 a 0).toNat) (w64 (g (0 + (ix3 a 0).toNat) + l 0))) g', .any⟩) none := by kernel_rfl
theorem pt_step1 : evC Try.prog [] [] noL (loopAt Try.f7 1) (ptS l W H a 1 n m (fun j => [iA (g j)]) g') (finN keepPt t5) =
    cond (owB (ix3 a 1) n) (some ⟨.normal, ptS l W H a 2 n m (putEl g (0 + (ix3 a 1).toNat) (w64 (g (0 + (ix3 a 1).toNat) + l 1))) g', .any⟩) none := by kernel_rfl
theorem pt_step2 : evC Try.prog [] [] noL (loopAt Try.f7 1) (ptS l W H a 2 n m (fun j => [iA (g j)]) g') (finN keepPt t5) =
    cond (owB (ix3 a 2) n) (some ⟨.normal, ptS l W H a 3 n m (putEl g (0 + (ix3 a 2).toNat) (w64 (g (0 + (ix3 a 2).toNat) + l 2))) g', .any⟩) none := by kernel_rfl
theorem pt_end : evC Try.prog [] [] noL (loopAt Try.f7 1) (ptS l W H a 3 n m (fun j => [iA (g j)]) g') (finE keepPt t5) = some ⟨.exit 2, ptS l W H a 3 n m (fun j => [iA (g j)]) g', .any⟩ := by kernel_rfl
end
noncomputable def ptL (l : Nat → Int) (W H a : Int) (n m : Nat) (g g2 g' : Nat → Int) : Nat → Option LFun := oneL 14 (toldF keepPt [some 1, some 2, some 7, some 4, some 6] (ptS l W H a 0 n m (fun j => [iA (g j)]) g') (.exit 2) (ptS l W H a 3 n m (fun j => [iA (g2 j)]) g'))
def lendX (n m : Nat) : Bool := (Nat.ble (0 + n) n && (Nat.ble (0 + m) m && true)) && true
def witX (n m : Nat) : Bool := (Nat.blt 0 (0 + n) && (Nat.blt 0 (0 + m) && true)) && true
def ptOut (W H : Int) (n m : Nat) (g2 : Nat → Int) (el : Nat → List AV) : List AV := [iA W, iA H, .sl 1 n fun i => [iA (g2 (0 + i))], .sl 1 m fun i => el (0 + i)]
noncomputable def ptTail (mf : MF) (W H a : Int) (n m : Nat) (g2 g' : Nat → Int) : Option Out :=
  cond (ixB a m || false) (cond (Nat.blt (0 + a.toNat) m || false) (cond (ixB a m || false) (cond (Nat.blt (0 + a.toNat) m || false)
    (cond (((propB (FSpec Try.prog 9 [.agg (ptOut W H n m g2 (putEl g' (0 + a.toNat) (w64 (g' (0 + a.toNat) + 1))))] (fmG mf [.agg (ptOut W H n m g2 (putEl g' (0 + a.toNat) (w64 (g' (0 + a.toNat) + 1))))])) && lendX n m) && witX n m) || false)
      (cond (!(mf W H n (fun i => [iA (g2 (0 + i))]) m (fun i => putEl g' (0 + a.toNat) (w64 (g' (0 + a.toNat) + 1)) (0 + i)) == 0)) (fBad 4) (some (Out.of (.tup [.agg (ptOut W H n m g2 (putEl g' (0 + a.toNat) (w64 (g' (0 + a.toNat) + 1)))), iA 0])))) none) none) none) none) none
def atP (f : Flm) (x y : Int) : Int := w64 (w64 (y * f.W) + x)
theorem put_ev (mf : MF) (f : Flm) (l : Nat → Int) (x y W H a : Int) (n m : Nat) (g g2 g' : Nat → Int) : evM Try.prog [] [] [mS Try.prog 9 (fmG mf)] (ptL l W H a n m g g2 g') Try.f7 [.agg f.c, iA x, iA y, .agg (l3 l)] ret =
    cond (askB (FMok 9 mf f)) (cond (!(mf.of f == 0)) (fBad (mf.of f)) (cond (pxB f x y) (fBad 6) (cond (ofB (l 0) 1099511627776) (fBad 6) (cond (ofB (l 1) 1099511627776) (fBad 6) (cond (ofB (l 2) 1099511627776) (fBad 6)
      (cond ((apR f.n 8 || false) && ((apR f.m 8 || false) && true)) (gate (Sub (ptS l f.W f.H (atP f x y) 0 (0 + f.n) (0 + f.m) (fun j => [iA (f.lt (j - 0))]) (fun j => f.sh (j - 0))) (ptS l W H a 0 n m (fun j => [iA (g j)]) g'))
        (ptTail mf W H a n m g2 g')) none)))))) none := by kernel_rfl
theorem put_ev0 (mf : MF) (f : Flm) (l : Nat → Int) (x y : Int) : evM Try.prog [] [] [mS Try.prog 9 (fmG mf)] (oneL 14 fun _ _ => none) Try.f7 [.agg f.c, iA x, iA y, .agg (l3 l)] ret =
    cond (askB (FMok 9 mf f)) (cond (!(mf.of f == 0)) (fBad (mf.of f)) (cond (pxB f x y) (fBad 6) (cond (ofB (l 0) 1099511627776) (fBad 6) (cond (ofB (l 1) 1099511627776) (fBad 6) (cond (ofB (l 2) 1099511627776) (fBad 6)
      (cond ((apR f.n 8 || false) && ((apR f.m 8 || false) && true)) none none)))))) none := by kernel_rfl
end Go.Proofs.Ytephoojaflfajaa

namespace Go.Proofs.Ytephoojaflfajaa
open Go.Gv

def pt3 (g l : Nat → Int) (A k j : Nat) : Int := if 3 * A ≤ j ∧ j < 3 * A + k then w64 (g j + l (j - 3 * A)) else g j
theorem pt3_zero (g l : Nat → Int) (A : Nat) : pt3 g l A 0 = g := funext fun j => by unfold pt3; rw [if_neg (by omega)]
theorem putEl_eq (g : Nat → Int) (q : Nat) (v : Int) (j : Nat) : putEl g q v j = [iA (if j = q then v else g j)] := by
  unfold putEl
  rw [mixI]
  by_cases h : j = q
  · subst h; rw [BEq.rfl, if_pos rfl]; rfl
  · rw [beq_false_of_ne h, if_neg h]; rfl
theorem pt3_step (g l : Nat → Int) (A k j : Nat) : putEl (pt3 g l A k) (0 + (3 * A + k)) (w64 (pt3 g l A k (0 + (3 * A + k)) + l k)) j = [iA (pt3 g l A (k + 1) j)] := by
  rw [putEl_eq, Nat.zero_add]
  by_cases h : j = 3 * A + k
  · subst h
    rw [if_pos rfl]
    unfold pt3
    rw [if_neg (by omega), if_pos (by omega), show 3 * A + k - 3 * A = k by omega]
  · rw [if_neg h]
    unfold pt3
    by_cases h2 : 3 * A ≤ j ∧ j < 3 * A + k
    · rw [if_pos h2, if_pos (by omega)]
    · rw [if_neg h2, if_neg (by omega)]
theorem ix3_eq {A k : Nat} (hA : A ≤ 1000000) (hk : k ≤ 3) : ix3 (A : Nat) (k : Nat) = ((3 * A + k : Nat) : Int) := by
  unfold ix3
  rw [w64_id (n := 3 * ((A : Nat) : Int)) (by omega) (by omega), w64_id (by omega) (by omega)]
  omega
theorem owB_t {i n : Nat} (h : i < n) : owB (i : Nat) n = true := by
  unfold owB
  rw [ixB_t h, Int.toNat_natCast, Nat.zero_add, blt_t h]
  rfl
theorem pt_leads {n m A : Nat} (hA : A ≤ 1000000) (hn : 3 * A + 3 ≤ n) (l : Nat → Int) (W H : Int) (g g' : Nat → Int) :
    Leads Try.prog (.loop (loopAt Try.f7 1)) (ptS l W H (A : Nat) 0 n m (fun j => [iA (g j)]) g') (.exit 2) (ptS l W H (A : Nat) 3 n m (fun j => [iA (pt3 g l A 3 j)]) g') := by
  have h0 : Leads Try.prog (.loop (loopAt Try.f7 1)) (ptS l W H (A : Nat) (0 : Nat) n m (fun j => [iA (pt3 g l A 0 j)]) g') (.exit 2) (ptS l W H (A : Nat) (3 : Nat) n m (fun j => [iA (pt3 g l A 3 j)]) g') := by
    refine loop_rule (fun k => ptS l W H (A : Nat) (k : Nat) n m (fun j => [iA (pt3 g l A k j)]) g') 3 (.exit 2) _ (by simp) (fun k hk => ?_) ?_
    · have hk3 : k = 0 ∨ k = 1 ∨ k = 2 := by omega
      have sub : ∀ k, Sub (ptS l W H (A : Nat) ((k + 1 : Nat) : Int) n m (putEl (pt3 g l A k) (0 + (3 * A + k)) (w64 (pt3 g l A k (0 + (3 * A + k)) + l k))) g') (ptS l W H (A : Nat) ((k + 1 : Nat) : Int) n m (fun j => [iA (pt3 g l A (k + 1) j)]) g') := fun k => by
        have e : putEl (pt3 g l A k) (0 + (3 * A + k)) (w64 (pt3 g l A k (0 + (3 * A + k)) + l k)) = fun j => [iA (pt3 g l A (k + 1) j)] := funext fun j => pt3_step g l A k j
        rw [e]
        exact Sub.refl _
      rcases hk3 with rfl | rfl | rfl
      · have st := pt_step0 l W H (A : Nat) n m (pt3 g l A 0) g'
        rw [show (0 : Int) = ((0 : Nat) : Int) from rfl, ix3_eq hA (by omega), owB_t (by omega), Int.toNat_natCast] at st
        exact (leads_ev (finN_sub _ _) e_nil k_nil noL_ok st).sub (Sub.refl _) (sub 0)
      · have st := pt_step1 l W H (A : Nat) n m (pt3 g l A 1) g'
        rw [show (1 : Int) = ((1 : Nat) : Int) from rfl, ix3_eq hA (by omega), owB_t (by omega), Int.toNat_natCast] at st
        exact (leads_ev (finN_sub _ _) e_nil k_nil noL_ok st).sub (Sub.refl _) (sub 1)
      · have st := pt_step2 l W H (A : Nat) n m (pt3 g l A 2) g'
        rw [show (2 : Int) = ((2 : Nat) : Int) from rfl, ix3_eq hA (by omega), owB_t (by omega), Int.toNat_natCast] at st
        exact (leads_ev (finN_sub _ _) e_nil k_nil noL_ok st).sub (Sub.refl _) (sub 2)
    · exact leads_ev (finE_sub _ _) e_nil k_nil noL_ok (pt_end l W H (A : Nat) n m _ g')
  rw [pt3_zero] at h0
  exact h0
/-! ### What it gives -/
def atN (f : Flm) (x y : Int) : Nat := y.toNat * f.W.toNat + x.toNat
def putF (f : Flm) (x y : Int) (l : Nat → Int) : Flm := ⟨f.W, f.H, f.n, pt3 f.lt l (atN f x y) 3, f.m, fun j => if j = atN f x y then w64 (f.sh j + 1) else f.sh j⟩
noncomputable def putE (f : Flm) (x y : Int) (l : Nat → Int) : Int := cond (!(fmay f == 0)) (fmay f) (cond (pxB f x y) 6 (cond (ltB l) 6 (cond (!(fmay (putF f x y l) == 0)) 4 0)))
noncomputable def putR (f : Flm) (x y : Int) (l : Nat → Int) : Flm := open Classical in if putE f x y l = 0 then putF f x y l else zF
theorem pxB_false {f : Flm} {x y : Int} (h : pxB f x y = false) : 0 ≤ x ∧ 0 ≤ y ∧ x < f.W ∧ y < f.H := by
  unfold pxB at h
  by_cases h1 : x < 0 <;> by_cases h2 : y < 0 <;> by_cases h3 : x ≥ f.W <;> by_cases h4 : y ≥ f.H <;> simp [h1, h2, h3, h4] at h
  omega
theorem at_eq {f : Flm} {x y : Int} (hm : fmay f = 0) (h : pxB f x y = false) : atP f x y = (atN f x y : Nat) ∧ (atN f x y : Nat) < f.m ∧ 3 * atN f x y + 3 ≤ f.n ∧ atN f x y ≤ 1000000 := by
  obtain ⟨hb, _, _⟩ := fmay_zero hm
  obtain ⟨a, b, c, d⟩ := fbad_false hb
  obtain ⟨n1, m1, c1, d1⟩ := fmay_n hm
  obtain ⟨x0, y0, x1, y1⟩ := pxB_false h
  have hM := mulB (x := y) (y := f.W) (X := f.H - 1) (Y := f.W) (by omega) (by omega) (by omega) (by omega)
  have hW : (f.H - 1) * f.W = f.W * f.H - f.W := by rw [Int.sub_mul, Int.one_mul, Int.mul_comm]
  have hM2 := mulB (x := f.W) (y := f.H) (X := 64) (Y := 64) (by omega) b (by omega) d
  have e : ((atN f x y : Nat) : Int) = y * f.W + x := by
    unfold atN
    rw [Int.natCast_add, Int.natCast_mul, Int.toNat_of_nonneg y0, Int.toNat_of_nonneg (show 0 ≤ f.W by omega), Int.toNat_of_nonneg x0]
  refine ⟨?_, by omega, by omega, by omega⟩
  unfold atP
  rw [w64_id (n := y * f.W) (by omega) (by omega), w64_id (by omega) (by omega)]
  exact e.symm
theorem shots_eq (f : Flm) (A j : Nat) : putEl f.sh (0 + A) (w64 (f.sh (0 + A) + 1)) (0 + j) = [iA (if j = A then w64 (f.sh j + 1) else f.sh j)] := by
  rw [putEl_eq, Nat.zero_add, Nat.zero_add]
  by_cases h : j = A
  · subst h; rw [if_pos rfl]
  · rw [if_neg h, if_neg h]
section
variable (f : Flm) (l : Nat → Int) (A : Nat)
theorem pt_e6 : (fun i => putEl f.sh (0 + A) (w64 (f.sh (0 + A) + 1)) (0 + i)) = fun i => [iA (if i = A then w64 (f.sh i + 1) else f.sh i)] := funext fun i => shots_eq f _ i
theorem pt_e7 : (fun i => [iA (pt3 f.lt l A 3 (0 + i))]) = fun i => [iA (pt3 f.lt l A 3 i)] := funext fun i => by rw [Nat.zero_add]
theorem pt_out : ptOut f.W f.H f.n f.m (pt3 f.lt l A 3) (putEl f.sh (0 + A) (w64 (f.sh (0 + A) + 1))) = (⟨f.W, f.H, f.n, pt3 f.lt l A 3, f.m, fun j => if j = A then w64 (f.sh j + 1) else f.sh j⟩ : Flm).c := by
  unfold ptOut
  rw [pt_e6, pt_e7]
  rfl
theorem pt_mf : fmE' f.W f.H f.n (fun i => [iA (pt3 f.lt l A 3 (0 + i))]) f.m (fun i => putEl f.sh (0 + A) (w64 (f.sh (0 + A) + 1)) (0 + i)) = fmay ⟨f.W, f.H, f.n, pt3 f.lt l A 3, f.m, fun j => if j = A then w64 (f.sh j + 1) else f.sh j⟩ := by
  rw [pt_e6, pt_e7]
  rfl
end
theorem putR_spec (f : Flm) (x y : Int) (l : Nat → Int) : FSpec Try.prog 7 [.agg f.c, iA x, iA y, .agg (l3 l)] (fOut (putR f x y l) (putE f x y l)) := by
  have ok := FMok_of fmayR_spec
  have ms : ∀ e, e ∈ [mS Try.prog 9 (fmG fmE')] → MEOk Try.prog e := m_cons mS_ok m_nil
  by_cases hgo : fmay f = 0 ∧ pxB f x y = false
  · obtain ⟨hm, hp⟩ := hgo
    obtain ⟨eA, hAm, hAn, hA6⟩ := at_eq hm hp
    obtain ⟨n1, m1, c1, d1⟩ := fmay_n hm
    obtain ⟨hb, _, _⟩ := fmay_zero hm
    obtain ⟨a, b, c, d⟩ := fbad_false hb
    have hev := put_ev fmE' f l x y f.W f.H (atN f x y : Nat) f.n f.m f.lt (pt3 f.lt l (atN f x y) 3) f.sh
    have hL := lok_at (c := bodyOf Try.f7) (i := 14) 1 2 (by kernel_rfl) (by kernel_rfl) (toldF_sound (keep := keepPt) (τ := [some 1, some 2, some 7, some 4, some 6]) (pt_leads (m := f.m) hA6 hAn l f.W f.H f.lt f.sh))
    have e1 : (fun j => [iA (f.lt (j - 0))]) = fun j => [iA (f.lt j)] := rfl
    have e2 : (fun j => f.sh (j - 0)) = f.sh := rfl
    rw [askB_t (ok f), fmE_of, hm, hp, eA, e1, e2, Nat.zero_add, Nat.zero_add, gate_pos (Sub.refl _), apR_t (by omega) (by omega), apR_t (by omega) (by omega)] at hev
    have bad : ∀ e : Int, e ≠ 0 → putE f x y l = e → evM Try.prog [] [] [mS Try.prog 9 (fmG fmE')] (ptL l f.W f.H (atN f x y : Nat) f.n f.m f.lt (pt3 f.lt l (atN f x y) 3) f.sh) Try.f7 [.agg f.c, iA x, iA y, .agg (l3 l)] ret = fBad e → FSpec Try.prog 7 [.agg f.c, iA x, iA y, .agg (l3 l)] (fOut (putR f x y l) (putE f x y l)) := fun e he h1 h2 => by
      have hf : putR f x y l = zF := by unfold putR; rw [if_neg (by rw [h1]; exact he)]
      rw [hf, h1]
      exact fspec_bad (gspecM e_nil k_nil ms Try.func7 (by kernel_rfl) (by kernel_rfl) hL rfl h2)
    have hpe : putE f x y l = cond (ltB l) 6 (cond (!(fmay (putF f x y l) == 0)) 4 0) := by unfold putE; rw [hm, hp]; rfl
    unfold ltB at hpe
    cases h0 : ofB (l 0) 1099511627776
    · cases h1 : ofB (l 1) 1099511627776
      · cases h2 : ofB (l 2) 1099511627776
        · rw [h0, h1, h2] at hev hpe
          simp only [cond_false] at hpe
          have eo := pt_out f l (atN f x y)
          have e5 := pt_mf f l (atN f x y)
          rw [show (⟨f.W, f.H, f.n, pt3 f.lt l (atN f x y) 3, f.m, fun j => if j = atN f x y then w64 (f.sh j + 1) else f.sh j⟩ : Flm) = putF f x y l from rfl] at eo e5
          unfold ptTail at hev
          simp only [Int.toNat_natCast] at hev
          have hl : lendX f.n f.m = true := by unfold lendX; rw [ble_t (by omega), ble_t (by omega)]; rfl
          have hw : witX f.n f.m = true := by unfold witX; rw [blt_t (by omega), blt_t (by omega)]; rfl
          rw [ixB_t hAm, blt_t (show 0 + atN f x y < f.m by omega), eo, propB_t (ok (putF f x y l)), hl, hw, e5] at hev
          by_cases h4 : fmay (putF f x y l) = 0
          · rw [h4] at hev hpe
            have hpe : putE f x y l = 0 := hpe
            have hf : putR f x y l = putF f x y l := by unfold putR; rw [if_pos hpe]
            rw [hf, hpe]
            exact gspecM e_nil k_nil ms Try.func7 (by kernel_rfl) (by kernel_rfl) hL rfl hev
          · rw [beq_false_of_ne h4] at hev hpe
            exact bad 4 (by decide) hpe hev
        · rw [h0, h1, h2] at hev hpe
          exact bad 6 (by decide) hpe hev
      · rw [h0, h1] at hev hpe
        exact bad 6 (by decide) hpe hev
    · rw [h0] at hev hpe
      exact bad 6 (by decide) hpe hev
  · have hL : LOk Try.prog (oneL 14 fun _ _ => none) (bodyOf Try.f7) := lok_none 14
    have hev := put_ev0 fmE' f l x y
    rw [askB_t (ok f), fmE_of] at hev
    have bad : ∀ e : Int, e ≠ 0 → putE f x y l = e → evM Try.prog [] [] [mS Try.prog 9 (fmG fmE')] (oneL 14 fun _ _ => none) Try.f7 [.agg f.c, iA x, iA y, .agg (l3 l)] ret = fBad e → FSpec Try.prog 7 [.agg f.c, iA x, iA y, .agg (l3 l)] (fOut (putR f x y l) (putE f x y l)) := fun e he h1 h2 => by
      have hf : putR f x y l = zF := by unfold putR; rw [if_neg (by rw [h1]; exact he)]
      rw [hf, h1]
      exact fspec_bad (gspecM e_nil k_nil ms Try.func7 (by kernel_rfl) (by kernel_rfl) hL rfl h2)
    by_cases hm : fmay f = 0
    · have hp : pxB f x y = true := by
        cases h : pxB f x y
        · exact absurd ⟨hm, h⟩ hgo
        · rfl
      rw [hm, hp] at hev
      exact bad 6 (by decide) (by unfold putE; rw [hm, hp]; rfl) hev
    · rw [beq_false_of_ne hm] at hev
      exact bad (fmay f) hm (by unfold putE; rw [beq_false_of_ne hm]; rfl) hev
end Go.Proofs.Ytephoojaflfajaa
