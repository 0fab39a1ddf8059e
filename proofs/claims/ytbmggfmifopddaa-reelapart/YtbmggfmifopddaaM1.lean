/-
  Gy Pc0 Pc1 Ap1 Ap2 Ap3, one behind the other.
-/
import Derived.Test.YtbmggfmifopddaaGi
import Derived.Test.YtbmggfmifopddaaGq2
import Derived.Test.YtbmggfmifopddaaGn
import Derived.Test.YtbmggfmifopddaaGz
import Derived.Test.YtbmggfmifopddaaGw
namespace Go.Gv
/-- Where a loop is left by a return. -/
noncomputable def finR (keep : List Nat) (τ : List (Option Nat)) : Kont := fun e s => match e with
  | .ret => finF keep τ .ret s
  | _ => none
theorem finR_sub (keep : List Nat) (τ : List (Option Nat)) : KSub (finR keep τ) := fun e s o h => by
  unfold finR at h
  cases e <;> simp only at h <;> first | (cases h; done) | exact finF_sub keep τ _ s o h
end Go.Gv
namespace Go.Proofs.Ytbmggfmifopddaa
open Go.Gv

def yA (b : Int) : AV := .x (.int .u8 b)
/-- A row of whole numbers; of bytes. -/
def sI (n : Nat) (g : Nat → Int) : AV := .sl 1 n fun i => [iA (g i)]
def sB (n : Nat) (g : Nat → Int) : AV := .sl 1 n fun i => [yA (g i)]
def skK : Kont := fun e _ => some ⟨e, ⟨[], []⟩, .any⟩
def ixB (i : Int) (n : Nat) : Bool := decide (0 ≤ i) && decide (i < n)
theorem ixB_t {i n : Nat} (h : i < n) : ixB (i : Nat) n = true := by unfold ixB; rw [dec_nonneg, dec_lt h]; rfl
def isId (o : Option Nat) (i : Nat) : Bool := match o with | some k => Nat.beq k i | none => false
/-- Of the loops within, the first is told. -/
theorem lok_hd {P : Program} {c : Code} {i : Nat} {g : LFun} (m : Nat) (hlen : (loopsOf c).length = m + 1) (hno : ((List.range m).all fun j => !(isId (firstId ((loopsOf c).getD (j + 1) .skip)) i)) = true) (h : LSound P ((loopsOf c).getD 0 .skip) g) : LOk P (oneL i g) c :=
  lok_one (m + 1) hlen fun j hj hid => by
    cases j with
    | zero => exact h
    | succ j =>
      rw [List.all_eq_true] at hno
      have := hno j (List.mem_range.2 (by omega))
      rw [hid] at this
      simp [isId] at this
/-- The loop with this number is told. -/
theorem lok_at {P : Program} {c : Code} {i : Nat} {g : LFun} (j0 m : Nat) (hlen : (loopsOf c).length = m) (hno : ((List.range m).all fun j => Nat.beq j j0 || !(isId (firstId ((loopsOf c).getD j .skip)) i)) = true) (h : LSound P ((loopsOf c).getD j0 .skip) g) : LOk P (oneL i g) c :=
  lok_one m hlen fun j hj hid => by
    rw [List.all_eq_true] at hno
    have := hno j (List.mem_range.2 hj)
    rw [hid] at this
    simp [isId] at this
    subst this
    exact h
theorem lok_none {P : Program} {c : Code} (i : Nat) : LOk P (oneL i fun _ _ => none) c := by
  intro c' _ i' g' _ hg
  unfold oneL at hg
  cases hb : Nat.beq i' i
  · rw [hb] at hg; cases hg
  · rw [hb] at hg
    cases hg
    constructor
    · intro s k r hr; cases hr
    · intro s s' e' hk
      have := hk fun e s => some ⟨e, s, .any⟩
      cases this
/-- Two loops are told. -/
theorem lok_two {P : Program} {c : Code} {i i' : Nat} {g g' : LFun} (hg : LOk P (oneL i g) c) (hg' : LOk P (oneL i' g') c) : LOk P (twoL i g i' g') c := by
  intro c' hc j f hj hf
  unfold twoL at hf
  cases hb : Nat.beq j i
  · rw [hb] at hf
    refine hg' c' hc j f hj ?_
    exact hf
  · rw [hb] at hf
    refine hg c' hc j f hj ?_
    unfold oneL
    rw [hb]
    exact hf
theorem kno_ok (f : Nat) : KOk Try.prog ⟨f, fun _ _ => none⟩ := by
  constructor
  · intro args k o h; simp at h
  · intro args v h
    have h1 := h fun x => some (Out.of x)
    simp at h1
/-- A contract that is asked for where it is used. -/
noncomputable def kS (P : Program) (f : Nat) (g : List AV → AV) : KEntry := ⟨f, fun args k => gate (FSpec P f args (g args)) (k (g args))⟩
theorem kS_ok {P : Program} {f : Nat} {g : List AV → AV} : KOk P (kS P f g) := by
  constructor
  · intro args k o ho
    simp only [kS] at ho ⊢
    obtain ⟨hp, ho⟩ := gate_some ho
    exact ⟨g args, ho, fun k' => by rw [gate_pos hp]⟩
  · intro args v hv
    have h1 := hv fun x => some (Out.of x)
    simp only [kS] at h1
    obtain ⟨hp, h1⟩ := gate_some h1
    simp only [Option.some.injEq, Out.of, Out.mk.injEq, true_and] at h1
    subst h1
    exact Or.inl hp
theorem gspecM {l : List Entry} {ks : List KEntry} {ms : List MEntry} {L : Nat → Option LFun} (hl : ∀ e, e ∈ l → EOk Try.prog e) (hks : ∀ e, e ∈ ks → KOk Try.prog e) (hms : ∀ e, e ∈ ms → MEOk Try.prog e) {f : Nat} {fn : Func} (hf : Try.prog.funcs[f]? = some fn) (hnm : (fn.name == "runtime.NumGoroutine") = false) (hb : fn.body = some (bodyOf fn)) (hL : LOk Try.prog L (bodyOf fn))
    {args : List AV} (hlen : Nat.ble args.length fn.ntmps = true) {r : AV} (h : evM Try.prog l ks ms L fn args ret = some (Out.of r)) : FSpec Try.prog f args r := spec_of_evM hl hks hms (by kernel_rfl) hf hnm hb hL hlen h
theorem gspecG {l : List Entry} {ks : List KEntry} {ms : List MEntry} {L : Nat → Option LFun} (hl : ∀ e, e ∈ l → EOk Try.prog e) (hks : ∀ e, e ∈ ks → KOk Try.prog e) (hms : ∀ e, e ∈ ms → MEOk Try.prog e) {f : Nat} {fn : Func} (hf : Try.prog.funcs[f]? = some fn) (hnm : (fn.name == "runtime.NumGoroutine") = false) (hb : fn.body = some (bodyOf fn))
    {args : List AV} {mem : List Row} (hL : LOkN mem.length Try.prog L (bodyOf fn)) (hlen : Nat.ble args.length fn.ntmps = true) {τ : List (Option Nat)} (hpin : pinT mem.length τ = true) {v : AV} {mem1 : List Row} (h : evG Try.prog l ks ms L fn args mem τ = gout v mem1) : GSpec Try.prog f args mem v mem1 :=
  spec_of_evG hl hks hms (by kernel_rfl) hf hnm hb hL hlen hpin h
theorem m_nil {P : Program} : ∀ e, e ∈ ([] : List MEntry) → MEOk P e := fun _ h => by cases h
theorem m_cons {P : Program} {e : MEntry} {l : List MEntry} (h : MEOk P e) (hl : ∀ e, e ∈ l → MEOk P e) : ∀ e', e' ∈ e :: l → MEOk P e' := fun e' he => by
  rcases List.mem_cons.1 he with rfl | he
  · exact h
  · exact hl e' he
theorem leads_evM {l : List Entry} {ks : List KEntry} {ms : List MEntry} {L : Nat → Option LFun} {c : Code} {s s' : St} {e : Exit} {k : Kont} (hk : KSub k) (hl : ∀ e, e ∈ l → EOk Try.prog e) (hks : ∀ e, e ∈ ks → KOk Try.prog e) (hms : ∀ e, e ∈ ms → MEOk Try.prog e) (hL : LOk Try.prog L c) (h : evCM Try.prog l ks ms L c s k = some ⟨e, s', .any⟩) : Leads Try.prog c s e s' :=
  leads_ofK hk (tabM_ok hl hks hms) (drawnK_ok (tabM_ok hl hks hms) (by kernel_rfl)) hL h
theorem mixI (b : Bool) (a c : Int) : mixL b [iA a] [iA c] = [iA (cond b a c)] := by unfold iA; simp only [mixL, mixA, decide_true, cond_true]
theorem mixY (b : Bool) (a c : Int) : mixL b [yA a] [yA c] = [yA (cond b a c)] := by unfold yA; simp only [mixL, mixA, decide_true, cond_true]
theorem blt_t {a b : Nat} (h : a < b) : Nat.blt a b = true := Nat.ble_eq_true_of_le h
theorem not_blt {q m : Nat} (h : Nat.blt q m = false) : m ≤ q := Nat.le_of_not_lt fun hc => by
  rw [blt_t hc] at h; cases h
theorem mulB {x y X Y : Int} (h0 : 0 ≤ x) (h1 : x ≤ X) (g0 : 0 ≤ y) (g1 : y ≤ Y) : 0 ≤ x * y ∧ x * y ≤ X * Y :=
  ⟨Int.mul_nonneg h0 g0, Int.mul_le_mul h1 g1 g0 (Int.le_trans h0 h1)⟩
/-- The first place at which something holds. -/
theorem first_of (Q : Nat → Prop) : ∀ m, Q m → ∃ K, K ≤ m ∧ Q K ∧ ∀ k, k < K → ¬ Q k := by
  intro m
  induction m using Nat.strongRecOn with
  | ind m ih =>
    intro h
    by_cases hc : ∃ k, k < m ∧ Q k
    · obtain ⟨k, hk, hq⟩ := hc
      obtain ⟨K, h1, h2, h3⟩ := ih k hk hq
      exact ⟨K, by omega, h2, h3⟩
    · exact ⟨m, Nat.le_refl _, h, fun k hk hq => hc ⟨k, hk, hq⟩⟩
/-- All of them, or the first one that isn't. -/
theorem all_or_first (p : Nat → Bool) (n : Nat) : (∀ i, i < n → p i = true) ∨ ∃ K, K < n ∧ p K = false ∧ ∀ i, i < K → p i = true := by
  by_cases h : ∃ i, i < n ∧ p i = false
  · obtain ⟨i, hi, hp⟩ := h
    obtain ⟨K, h1, h2, h3⟩ := first_of (fun k => p k = false) i hp
    exact Or.inr ⟨K, by omega, h2, fun k hk => by simpa using h3 k hk⟩
  · exact Or.inl fun i hi => by
      cases hp : p i
      · exact absurd ⟨i, hi, hp⟩ h
      · rfl
/-- Whether all of the first so many are. -/
def allI (n : Nat) (p : Nat → Bool) : Bool := open Classical in decide (∀ i, i < n → p i = true)
theorem allI_t {n : Nat} {p : Nat → Bool} (h : ∀ i, i < n → p i = true) : allI n p = true := by unfold allI; exact decide_eq_true h
theorem allI_f {n : Nat} {p : Nat → Bool} {K : Nat} (hK : K < n) (h : p K = false) : allI n p = false := by unfold allI; exact decide_eq_false fun hc => by rw [hc K hK] at h; cases h
theorem allI_all {n : Nat} {p : Nat → Bool} (h : allI n p = true) : ∀ i, i < n → p i = true := by unfold allI at h; exact of_decide_eq_true h
/-! ### What says the same, or less -/
theorem FSpec.of_res {P : Program} {f : Nat} {args : List AV} {r r' : AV} (h : FSpec P f args r) (hr : ∀ (E : Env) (v : Value), rel E r v → rel E r' v) : FSpec P f args r' :=
  ⟨h.1, fun A w cargs hA ha hg => (h.2 A w cargs hA ha hg).mono fun _ _ ⟨v, h1, h2, h3⟩ => ⟨v, h1, hr _ _ h2, h3⟩⟩
theorem FSpec.of_args {P : Program} {f : Nat} {args args' : List AV} {r : AV} (h : FSpec P f args r) (ha : ∀ (E : Env) (vs : List Value), rels E args' vs → rels E args vs) : FSpec P f args' r :=
  ⟨h.1, fun A w cargs hA h2 hg => h.2 A w cargs hA (ha _ _ h2) hg⟩
theorem nil_like {E : Env} {sz : Nat} {el : Nat → List AV} {v : Value} (h : rel E (.x (.slice none 0 0)) v) : rel E (.sl sz 0 el) v := by
  have := rel_x.1 h
  subst this
  exact rel_sl.2 ⟨none, 0, rfl, Nat.le_refl _, Or.inl rfl⟩
theorem sl_like {E : Env} {sz n : Nat} {el el' : Nat → List AV} {v : Value} (h : rel E (.sl sz n el) v) (he : ∀ i, i < n → el' i = el i) : rel E (.sl sz n el') v := by
  have h : relA _ _ _ := h
  show relA _ _ _
  rw [relA] at h ⊢
  obtain ⟨a, c, h1, h2, h3⟩ := h
  refine ⟨a, c, h1, h2, ?_⟩
  rcases h3 with h3 | ⟨b, o, cs, e, fz, h4, h5, h6, h7⟩
  · exact Or.inl h3
  · exact Or.inr ⟨b, o, cs, e, fz, h4, h5, h6, fun i hi => by rw [he i hi]; exact h7 i hi⟩
theorem tup2_like {E : Env} {a a' b : AV} {v : Value} (h : rel E (.tup [a, b]) v) (ha : ∀ u, rel E a u → rel E a' u) : rel E (.tup [a', b]) v := by
  obtain ⟨vs, h1, h2⟩ := rel_tup.1 h
  refine rel_tup.2 ⟨vs, h1, ?_⟩
  obtain ⟨u0, t0, e0, r0, h2⟩ := rels_cons.1 h2
  exact rels_cons.2 ⟨u0, t0, e0, ha _ r0, h2⟩
/-- A contract that is asked for, of what is not ours. -/
noncomputable def askB (p : Prop) : Bool := ((propB p && true) && true) && true
theorem askB_t {p : Prop} (h : p) : askB p = true := by unfold askB; rw [propB_t h]; rfl
theorem ble_t {a b : Nat} (h : a ≤ b) : Nat.ble a b = true := Nat.ble_eq_true_of_le h
/-- Append of a row that is not ours. -/
def apR (n sz : Nat) : Bool := Nat.blt 0 n && (allB n (fun _ => true) && Nat.ble ((0 + n) * sz) 140737488355328)
theorem apR_t {n sz : Nat} (h0 : 0 < n) (h : n * sz ≤ 140737488355328) : apR n sz = true := by
  unfold apR
  rw [blt_t h0, allB_true fun _ _ => rfl, ble_t (show (0 + n) * sz ≤ 140737488355328 by rw [Nat.zero_add]; exact h)]
  rfl
/-- Append of one. -/
def apB (c sz : Nat) : Bool := (c == c) && Nat.ble ((c + 1) * sz) 140737488355328
theorem apB_t {c sz : Nat} (h : (c + 1) * sz ≤ 140737488355328) : apB c sz = true := by unfold apB; rw [BEq.rfl, Nat.ble_eq_true_of_le h]; rfl
theorem u8_id {n : Int} (h0 : 0 ≤ n) (h1 : n ≤ 255) : IntKind.u8.wrap n = n := by
  have e : IntKind.u8.wrap n = n % 256 := by
    unfold IntKind.wrap
    simp only [IntKind.bits, IntKind.signed, Bool.false_and]
    rfl
  rw [e]
  omega
end Go.Proofs.Ytbmggfmifopddaa

namespace Go.Proofs.Ytbmggfmifopddaa
open Go.Gv

structure Pic where
  W : Int
  H : Int
  n : Nat
  px : Nat → Int
def Pic.c (p : Pic) : List AV := [iA p.W, iA p.H, sB p.n p.px]
def zP : Pic := ⟨0, 0, 0, fun _ => 0⟩
def picZ : List AV := [iA 0, iA 0, .x (.slice none 0 0)]
theorem zP_like {E : Env} {v : Value} (h : rel E (.agg picZ) v) : rel E (.agg zP.c) v := by
  obtain ⟨vs, h1, h2⟩ := rel_agg.1 h
  refine rel_agg.2 ⟨vs, h1, ?_⟩
  obtain ⟨u0, t0, e0, r0, h2⟩ := rels_cons.1 h2
  obtain ⟨u1, t1, e1, r1, h2⟩ := rels_cons.1 h2
  obtain ⟨u2, t2, e2, r2, h2⟩ := rels_cons.1 h2
  exact rels_cons.2 ⟨u0, t0, e0, r0, rels_cons.2 ⟨u1, t1, e1, r1, rels_cons.2 ⟨u2, t2, e2, nil_like r2, h2⟩⟩⟩
def pOut (p : Pic) (e : Int) : AV := .tup [.agg p.c, iA e]
def pBad (e : Int) : Option Out := some (Out.of (.tup [.agg picZ, iA e]))
theorem pspec_bad {f : Nat} {args : List AV} {e : Int} (h : FSpec Try.prog f args (.tup [.agg picZ, iA e])) : FSpec Try.prog f args (pOut zP e) := FSpec.of_res h fun _ _ hr => tup2_like hr fun _ => zP_like
/-! ### Whether one may be -/
def pbad (W H : Int) : Bool := cond (cond (cond (decide (W < 1)) true (decide (H < 1))) true (decide (W > 64))) true (decide (H > 64))
def pcnt (W H : Int) (n : Nat) : Bool := !((n : Int) == w64 (w64 (4 * W) * H))
def pmay (W H : Int) (n : Nat) : Int := cond (pbad W H) 4 (cond (pcnt W H n) 5 0)
theorem pbad_false {W H : Int} (h : pbad W H = false) : 1 ≤ W ∧ W ≤ 64 ∧ 1 ≤ H ∧ H ≤ 64 := by
  unfold pbad at h
  by_cases h1 : W < 1 <;> by_cases h2 : W > 64 <;> by_cases h3 : H < 1 <;> by_cases h4 : H > 64 <;> simp [h1, h2, h3, h4] at h
  omega
theorem pmay_zero {W H : Int} {n : Nat} (h : pmay W H n = 0) : (1 ≤ W ∧ W ≤ 64 ∧ 1 ≤ H ∧ H ≤ 64) ∧ (n : Int) = 4 * (W * H) ∧ n ≤ 16384 := by
  unfold pmay at h
  cases hb : pbad W H
  · rw [hb] at h
    cases hc : pcnt W H n
    · obtain ⟨a, b, c, d⟩ := pbad_false hb
      have hM := mulB (x := W) (y := H) (X := 64) (Y := 64) (by omega) b (by omega) d
      have e : (n : Int) = 4 * (W * H) := by
        unfold pcnt at hc
        rw [w64_id (n := 4 * W) (by omega) (by omega), Int.mul_assoc, w64_id (by omega) (by omega)] at hc
        simpa using hc
      exact ⟨⟨a, b, c, d⟩, e, by omega⟩
    · rw [hc] at h; cases h
  · rw [hb] at h; cases h
end Go.Proofs.Ytbmggfmifopddaa

namespace Go.Proofs.Ytbmggfmifopddaa
open Go.Gv

theorem pmay_ev (W H : Int) (sz n : Nat) (el : Nat → List AV) : ev Try.prog [] [] noL Try.f12 [.agg [iA W, iA H, .sl sz n el]] ret =
    cond (pbad W H) (some (Out.of (iA 4))) (cond (pcnt W H n) (some (Out.of (iA 5))) (some (Out.of (iA 0)))) := by kernel_rfl
theorem pmayR_spec (W H : Int) (sz n : Nat) (el : Nat → List AV) : FSpec Try.prog 12 [.agg [iA W, iA H, .sl sz n el]] (iA (pmay W H n)) := by
  refine gspec e_nil k_nil Try.func12 (by kernel_rfl) (by kernel_rfl) noL_ok rfl ((pmay_ev W H sz n el).trans ?_)
  unfold pmay
  cases pbad W H <;> cases pcnt W H n <;> rfl
def gPm (mf : Int → Int → Nat → Int) : List AV → Option AV
  | [.agg [.x (.int .i64 W), .x (.int .i64 H), .sl _ n _]] => some (iA (mf W H n))
  | _ => none
theorem gPm_ok {f : Nat} {mf : Int → Int → Nat → Int} (h : ∀ W H sz n el, FSpec Try.prog f [.agg [iA W, iA H, .sl sz n el]] (iA (mf W H n))) : EOk Try.prog ⟨f, gPm mf⟩ := fun args r hr => by
  simp only [gPm] at hr
  split at hr
  · cases hr; exact Or.inl (h _ _ _ _ _)
  · cases hr
/-! ### The laws -/
def gHp (hf : Nat → Bool) : List AV → Option AV
  | [.agg [.x (.int .i64 _), .x (.int .i64 _), .sl _ n _]] => some (bA (hf n))
  | _ => none
theorem gHp_ok {f : Nat} {hf : Nat → Bool} (h : ∀ W H sz n el, FSpec Try.prog f [.agg [iA W, iA H, .sl sz n el]] (bA (hf n))) : EOk Try.prog ⟨f, gHp hf⟩ := fun args r hr => by
  simp only [gHp] at hr
  split at hr
  · cases hr; exact Or.inl (h _ _ _ _ _)
  · cases hr
def hpS (n : Nat) : Bool := decide ((n : Int) > 1600)
theorem hp_spec (W H : Int) (sz n : Nat) (el : Nat → List AV) : FSpec Try.prog 5 [.agg [iA W, iA H, .sl sz n el]] (bA (hpS n)) :=
  gspec e_nil k_nil Try.func5 (by kernel_rfl) (by kernel_rfl) noL_ok rfl (by kernel_rfl)
end Go.Proofs.Ytbmggfmifopddaa

namespace Go.Proofs.Ytbmggfmifopddaa
open Go.Gv

def dfc (un mo sq : Int) : List AV := [iA un, iA mo, iA sq]
def inS (a b : Pic) (i c un mo sq : Int) (ul : Bool) : St := mkS 98 [(2, .own 0 0), (3, .own 1 0), (4, .own 2 0), (7, .own 3 0), (8, iA i), (9, bA ul), (10, iA c)] [.c a.c, .c b.c, .c (dfc 0 0 0), .c (dfc un mo sq)]
def keepIn : List Nat := [2, 3, 4, 7, 8, 9, 10]
def otS (a b : Pic) (i un mo sq : Int) : St := mkS 98 [(2, .own 0 0), (3, .own 1 0), (4, .own 2 0), (7, .own 3 0), (8, iA i)] [.c a.c, .c b.c, .c (dfc 0 0 0), .c (dfc un mo sq)]
def keepOt : List Nat := [2, 3, 4, 7, 8]
def row4 : List (Option Nat) := [some 0, some 1, some 2, some 3]
def jx (i c : Int) : Int := w64 (w64 (4 * i) + c)
section
variable (a b : Pic) (i c un mo sq : Int) (ul : Bool)
def apD : Int := w64 (w64 (a.px (jx i c).toNat) - w64 (b.px (jx i c).toNat))
def inX (n : Int) : Option Out := cond (decide (n > mo)) (some ⟨.normal, inS a b i (w64 (c + 1)) un n (w64 (sq + w64 (n * n))) (cond ul true (decide (n > 0))), .any⟩) (some ⟨.normal, inS a b i (w64 (c + 1)) un mo (w64 (sq + w64 (n * n))) (cond ul true (decide (n > 0))), .any⟩)
theorem in_step : evC Try.prog [] [] noL (loopAt Try.f7 1) (inS a b i c un mo sq ul) (finN keepIn row4) =
    cond (decide (c < 4)) (cond ((ixB (jx i c) a.n || false) && ((ixB (jx i c) b.n || false) && true)) (cond (decide (apD a b i c < 0)) (inX a b i c un mo sq ul (w64 (0 - apD a b i c))) (inX a b i c un mo sq ul (apD a b i c))) none) none := by kernel_rfl
theorem in_end : evC Try.prog [] [] noL (loopAt Try.f7 1) (inS a b i 4 un mo sq ul) (finE keepIn row4) = some ⟨.exit 2, inS a b i 4 un mo sq ul, .any⟩ := by kernel_rfl
end
noncomputable def inL (a b : Pic) (i un mo sq mo' sq' : Int) (ul' : Bool) : Nat → Option LFun := oneL 15 (toldF keepIn row4 (inS a b i 0 un mo sq false) (.exit 2) (inS a b i 4 un mo' sq' ul'))
section
variable (a b : Pic) (i un mo sq mo' sq' : Int) (ul' : Bool)
theorem ot_step : evC Try.prog [] [] (inL a b i un mo sq mo' sq' ul') (loopAt Try.f7 0) (otS a b i un mo sq) (finN keepOt row4) =
    cond (decide (i < w64 (a.W * a.H))) (gate (Sub (inS a b i 0 un mo sq false) (inS a b i 0 un mo sq false)) (cond ul' (some ⟨.normal, otS a b (w64 (i + 1)) (w64 (un + 1)) mo' sq', .any⟩) (some ⟨.normal, otS a b (w64 (i + 1)) un mo' sq', .any⟩))) none := by kernel_rfl
theorem ot_end : evC Try.prog [] [] (oneL 15 fun _ _ => none) (loopAt Try.f7 0) (otS a b i un mo sq) (finE keepOt row4) =
    cond (decide (i < w64 (a.W * a.H))) none (some ⟨.exit 0, otS a b i un mo sq, .any⟩) := by kernel_rfl
end
noncomputable def otL (a b : Pic) (i' un mo sq : Int) : Nat → Option LFun := oneL 11 (toldF keepOt row4 (otS a b 0 0 0 0) (.exit 0) (otS a b i' un mo sq))
def dTup (un mo sq e : Int) : AV := .tup [.agg (dfc un mo sq), iA e]
def dBad (e : Int) : Option Out := some (Out.of (dTup 0 0 0 e))
def apS (a b : Pic) : Bool := cond (!(a.W == b.W)) true (!(a.H == b.H))
section
variable (mf : Int → Int → Nat → Int) (a b : Pic) (i' un mo sq : Int)
def apX (R : Option Out) : Option Out := cond (!(mf a.W a.H a.n == 0)) (dBad (mf a.W a.H a.n)) (cond (!(mf b.W b.H b.n == 0)) (dBad (mf b.W b.H b.n)) (cond (apS a b) (dBad 5) R))
theorem ap_ev : ev Try.prog [⟨12, gPm mf⟩] [] (otL a b i' un mo sq) Try.f7 [.agg a.c, .agg b.c] ret =
    apX mf a b (gate (Sub (otS a b 0 0 0 0) (otS a b 0 0 0 0)) (some (Out.of (dTup un mo sq 0)))) := by kernel_rfl
theorem ap_ev0 : ev Try.prog [⟨12, gPm mf⟩] [] (oneL 11 fun _ _ => none) Try.f7 [.agg a.c, .agg b.c] ret = apX mf a b none := by kernel_rfl
end
end Go.Proofs.Ytbmggfmifopddaa

namespace Go.Proofs.Ytbmggfmifopddaa
open Go.Gv

section
variable (a b : Pic)
def apN (k : Nat) : Int := cond (decide (w64 (w64 (a.px k) - w64 (b.px k)) < 0)) (w64 (0 - w64 (w64 (a.px k) - w64 (b.px k)))) (w64 (w64 (a.px k) - w64 (b.px k)))
/-- The most by which two numbers are apart, of the first so many; their squares; whether a pixel is unlike; how many are. -/
def moV : Nat → Int
  | 0 => 0
  | k + 1 => cond (decide (apN a b k > moV k)) (apN a b k) (moV k)
def sqV : Nat → Int
  | 0 => 0
  | k + 1 => w64 (sqV k + w64 (apN a b k * apN a b k))
def ulV (i : Nat) : Nat → Bool
  | 0 => false
  | c + 1 => cond (ulV i c) true (decide (apN a b (4 * i + c) > 0))
def unV : Nat → Int
  | 0 => 0
  | i + 1 => cond (ulV a b i 4) (w64 (unV i + 1)) (unV i)
def apE : Int := cond (!(pmay a.W a.H a.n == 0)) (pmay a.W a.H a.n) (cond (!(pmay b.W b.H b.n == 0)) (pmay b.W b.H b.n) (cond (apS a b) 5 0))
def apU : Int := cond (apE a b == 0) (unV a b (a.n / 4)) 0
def apM : Int := cond (apE a b == 0) (moV a b (4 * (a.n / 4))) 0
def apQ : Int := cond (apE a b == 0) (sqV a b (4 * (a.n / 4))) 0
end
theorem jx_eq {i c : Nat} (hi : i ≤ 1000000) (hc : c ≤ 4) : jx (i : Nat) (c : Nat) = ((4 * i + c : Nat) : Int) := by
  unfold jx
  rw [w64_id (n := 4 * _) (by omega) (by omega), w64_id (by omega) (by omega)]
  omega
theorem in_leads {a b : Pic} {i : Nat} (hi : i ≤ 1000000) (ha : 4 * i + 4 ≤ a.n) (hb : 4 * i + 4 ≤ b.n) (un : Int) : Leads Try.prog (.loop (loopAt Try.f7 1)) (inS a b (i : Nat) 0 un (moV a b (4 * i)) (sqV a b (4 * i)) false) (.exit 2) (inS a b (i : Nat) 4 un (moV a b (4 * (i + 1))) (sqV a b (4 * (i + 1))) (ulV a b i 4)) := by
  refine loop_rule (fun c => inS a b (i : Nat) (c : Nat) un (moV a b (4 * i + c)) (sqV a b (4 * i + c)) (ulV a b i c)) 4 (.exit 2) _ (by simp) (fun c hc => ?_) ?_
  · refine leads_ev (finN_sub _ _) e_nil k_nil noL_ok ((in_step a b (i : Nat) (c : Nat) un _ _ _).trans ?_)
    have e4 : decide ((c : Int) < 4) = true := decide_eq_true (by omega)
    have eD : apD a b (i : Nat) (c : Nat) = w64 (w64 (a.px (4 * i + c)) - w64 (b.px (4 * i + c))) := by unfold apD; rw [jx_eq hi (by omega), Int.toNat_natCast]
    rw [e4, jx_eq hi (by omega), ixB_t (by omega), ixB_t (by omega), eD]
    have key : cond (decide (w64 (w64 (a.px (4 * i + c)) - w64 (b.px (4 * i + c))) < 0)) (inX a b (i : Nat) (c : Nat) un (moV a b (4 * i + c)) (sqV a b (4 * i + c)) (ulV a b i c) (w64 (0 - w64 (w64 (a.px (4 * i + c)) - w64 (b.px (4 * i + c)))))) (inX a b (i : Nat) (c : Nat) un (moV a b (4 * i + c)) (sqV a b (4 * i + c)) (ulV a b i c) (w64 (w64 (a.px (4 * i + c)) - w64 (b.px (4 * i + c))))) = inX a b (i : Nat) (c : Nat) un (moV a b (4 * i + c)) (sqV a b (4 * i + c)) (ulV a b i c) (apN a b (4 * i + c)) := by
      unfold apN
      cases decide (w64 (w64 (a.px (4 * i + c)) - w64 (b.px (4 * i + c))) < 0) <;> rfl
    refine key.trans ?_
    have em : moV a b (4 * i + (c + 1)) = cond (decide (apN a b (4 * i + c) > moV a b (4 * i + c))) (apN a b (4 * i + c)) (moV a b (4 * i + c)) := rfl
    have es : sqV a b (4 * i + (c + 1)) = w64 (sqV a b (4 * i + c) + w64 (apN a b (4 * i + c) * apN a b (4 * i + c))) := rfl
    have eu : ulV a b i (c + 1) = cond (ulV a b i c) true (decide (apN a b (4 * i + c) > 0)) := rfl
    rw [em, es, eu]
    unfold inX
    rw [w64_next (by omega)]
    cases decide (apN a b (4 * i + c) > moV a b (4 * i + c)) <;> rfl
  · exact leads_ev (finE_sub _ _) e_nil k_nil noL_ok (in_end a b (i : Nat) un _ _ _)
theorem ot_leads {a b : Pic} (ha : pmay a.W a.H a.n = 0) (hn : b.n = a.n) : Leads Try.prog (.loop (loopAt Try.f7 0)) (otS a b 0 0 0 0) (.exit 0) (otS a b (a.n / 4 : Nat) (unV a b (a.n / 4)) (moV a b (4 * (a.n / 4))) (sqV a b (4 * (a.n / 4)))) := by
  obtain ⟨⟨w1, w2, h1, h2⟩, e, hN⟩ := pmay_zero ha
  have hM := mulB (x := a.W) (y := a.H) (X := 64) (Y := 64) (by omega) w2 (by omega) h2
  have em : w64 (a.W * a.H) = ((a.n / 4 : Nat) : Int) := by rw [w64_id (by omega) (by omega)]; omega
  refine loop_rule (fun i => otS a b (i : Nat) (unV a b i) (moV a b (4 * i)) (sqV a b (4 * i))) (a.n / 4) (.exit 0) _ (by simp) (fun i hi => ?_) ?_
  · have hl := in_leads (a := a) (b := b) (i := i) (by omega) (by omega) (by omega) (unV a b i)
    have hL := lok_hd (c := loopAt Try.f7 0) (i := 15) 0 (by kernel_rfl) (by kernel_rfl) (toldF_sound (keep := keepIn) (τ := row4) hl)
    refine leads_ev (finN_sub _ _) e_nil k_nil hL ((ot_step a b (i : Nat) (unV a b i) (moV a b (4 * i)) (sqV a b (4 * i)) (moV a b (4 * (i + 1))) (sqV a b (4 * (i + 1))) (ulV a b i 4)).trans ?_)
    have eu : unV a b (i + 1) = cond (ulV a b i 4) (w64 (unV a b i + 1)) (unV a b i) := rfl
    rw [em, dec_lt hi, gate_pos (Sub.refl _), w64_next (by omega), eu]
    cases ulV a b i 4 <;> rfl
  · refine leads_ev (finE_sub _ _) e_nil k_nil (lok_none 15) ((ot_end a b (a.n / 4 : Nat) _ _ _).trans ?_)
    rw [em, dec_self, cond_false]
theorem apartR_spec (a b : Pic) : FSpec Try.prog 7 [.agg a.c, .agg b.c] (dTup (apU a b) (apM a b) (apQ a b) (apE a b)) := by
  have en := e_cons (gPm_ok pmayR_spec) e_nil
  have bad : ∀ e : Int, e ≠ 0 → apE a b = e → apX pmay a b none = dBad e → FSpec Try.prog 7 [.agg a.c, .agg b.c] (dTup (apU a b) (apM a b) (apQ a b) (apE a b)) := fun e he h1 h2 => by
    unfold apU apM apQ
    rw [h1, beq_false_of_ne he]
    refine gspec en k_nil Try.func7 (by kernel_rfl) (by kernel_rfl) (lok_none 11) rfl ((ap_ev0 pmay a b).trans ?_)
    rw [h2]
    rfl
  by_cases ha : pmay a.W a.H a.n = 0
  · by_cases hb : pmay b.W b.H b.n = 0
    · cases hs : apS a b
      · have hE : apE a b = 0 := by unfold apE; rw [ha, hb, hs]; rfl
        obtain ⟨⟨_, _, _, _⟩, e, _⟩ := pmay_zero ha
        obtain ⟨⟨_, _, _, _⟩, e', _⟩ := pmay_zero hb
        have hn : b.n = a.n := by
          unfold apS at hs
          by_cases hw : a.W = b.W <;> by_cases hh : a.H = b.H <;> simp [hw, hh] at hs
          rw [hw, hh] at e
          omega
        have hL := lok_hd (c := bodyOf Try.f7) (i := 11) 1 (by kernel_rfl) (by kernel_rfl) (toldF_sound (keep := keepOt) (τ := row4) (ot_leads ha hn))
        refine gspec en k_nil Try.func7 (by kernel_rfl) (by kernel_rfl) hL rfl ((ap_ev pmay a b (a.n / 4 : Nat) _ _ _).trans ?_)
        unfold apX apU apM apQ
        rw [hE, ha, hb, hs, gate_pos (Sub.refl _)]
        rfl
      · refine bad 5 (by decide) (by unfold apE; rw [ha, hb, hs]; rfl) ?_
        unfold apX; rw [ha, hb, hs]; rfl
    · refine bad (pmay b.W b.H b.n) hb (by unfold apE; rw [ha, beq_false_of_ne hb]; rfl) ?_
      unfold apX; rw [ha, beq_false_of_ne hb]; rfl
  · refine bad (pmay a.W a.H a.n) ha (by unfold apE; rw [beq_false_of_ne ha]; rfl) ?_
    unfold apX; rw [beq_false_of_ne ha]; rfl
end Go.Proofs.Ytbmggfmifopddaa

namespace Go.Proofs.Ytbmggfmifopddaa
open Go.Gv

/-- What the code gives. -/
structure ApartOk : Prop where
  apart : ∀ a b : Pic, (∀ i, i < a.n → 0 ≤ a.px i ∧ a.px i ≤ 255) → (∀ i, i < b.n → 0 ≤ b.px i ∧ b.px i ≤ 255) → FSpec Try.prog 6 [.agg a.c, .agg b.c] (dTup (apU a b) (apM a b) (apQ a b) (apE a b))
theorem ra_ev (hv : Nat → Bool) (a b : Pic) (u m q e : Int) : ev Try.prog [⟨5, gHp hv⟩] [kfix 6 [.agg a.c, .agg b.c] (dTup u m q e), kfix 7 [.agg a.c, .agg b.c] (dTup u m q e)] noL Try.f3 [.agg a.c, .agg b.c] ret =
    cond (cond (hv a.n) true (hv b.n)) (some (Out.of (bA true))) (gate ([AV.agg a.c, .agg b.c] = [AV.agg a.c, .agg b.c]) (gate ([AV.agg a.c, .agg b.c] = [AV.agg a.c, .agg b.c]) (some (Out.of (bA (cond ((u == u) && ((m == m) && ((q == q) && true))) (e == e) false)))))) := by kernel_rfl
theorem apart_law (ok : ApartOk) {a b : Pic} (ha : ∀ i, i < a.n → 0 ≤ a.px i ∧ a.px i ≤ 255) (hb : ∀ i, i < b.n → 0 ≤ b.px i ∧ b.px i ≤ 255) : FSpec Try.prog 3 [.agg a.c, .agg b.c] (bA true) := by
  refine gspec (e_cons (gHp_ok hp_spec) e_nil) (k_cons (kfix_ok (ok.apart a b ha hb)) (k_cons (kfix_ok (apartR_spec a b)) k_nil)) Try.func3 (by kernel_rfl) (by kernel_rfl) noL_ok rfl ((ra_ev hpS a b _ _ _ _).trans ?_)
  rw [gate_pos rfl, gate_pos rfl]
  simp only [BEq.rfl]
  cases cond (hpS a.n) true (hpS b.n) <;> rfl
end Go.Proofs.Ytbmggfmifopddaa
