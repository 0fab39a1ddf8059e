/-
  Gy Fd Fz Cf1 Cf2, one behind the other.
-/
import Derived.Test.YtbmpgaghcncfiaaGi
import Derived.Test.YtbmpgaghcncfiaaGq2
import Derived.Test.YtbmpgaghcncfiaaGn
import Derived.Test.YtbmpgaghcncfiaaGz
import Derived.Test.YtbmpgaghcncfiaaGw
namespace Go.Gv
/-- Where a loop is left by a return. -/
noncomputable def finR (keep : List Nat) (τ : List (Option Nat)) : Kont := fun e s => match e with
  | .ret => finF keep τ .ret s
  | _ => none
theorem finR_sub (keep : List Nat) (τ : List (Option Nat)) : KSub (finR keep τ) := fun e s o h => by
  unfold finR at h
  cases e <;> simp only at h <;> first | (cases h; done) | exact finF_sub keep τ _ s o h
end Go.Gv
namespace Go.Proofs.Ytbmpgaghcncfiaa
open Go.Gv

def yA (b : Int) : AV := .x (.int .u8 b)
/-- A row of whole numbers; of bytes. -/
def sI (n : Nat) (g : Nat → Int) : AV := .sl 1 n fun i => [iA (g i)]
def sB (n : Nat) (g : Nat → Int) : AV := .sl 1 n fun i => [yA (g i)]
def skK : Kont := fun e _ => some ⟨e, ⟨[], []⟩, .any⟩
def ixB (i : Int) (n : Nat) : Bool := decide (0 ≤ i) && decide (i < n)
theorem ixB_t {i n : Nat} (h : i < n) : ixB (i : Nat) n = true := by unfold ixB; rw [dec_nonneg, dec_lt h]; rfl
def isId (o : Option Nat) (i : Nat) : Bool := match o with | some k => Nat.beq k i | none => false
/-- Of the loops within, the first is told. -/
theorem lok_hd {P : Program} {c : Code} {i : Nat} {g : LFun} (m : Nat) (hlen : (loopsOf c).length = m + 1) (hno : ((List.range m).all fun j => !(isId (firstId ((loopsOf c).getD (j + 1) .skip)) i)) = true) (h : LSound P ((loopsOf c).getD 0 .skip) g) : LOk P (oneL i g) c :=
  lok_one (m + 1) hlen fun j hj hid => by
    cases j with
    | zero => exact h
    | succ j =>
      rw [List.all_eq_true] at hno
      have := hno j (List.mem_range.2 (by omega))
      rw [hid] at this
      simp [isId] at this
/-- The loop with this number is told. -/
theorem lok_at {P : Program} {c : Code} {i : Nat} {g : LFun} (j0 m : Nat) (hlen : (loopsOf c).length = m) (hno : ((List.range m).all fun j => Nat.beq j j0 || !(isId (firstId ((loopsOf c).getD j .skip)) i)) = true) (h : LSound P ((loopsOf c).getD j0 .skip) g) : LOk P (oneL i g) c :=
  lok_one m hlen fun j hj hid => by
    rw [List.all_eq_true] at hno
    have := hno j (List.mem_range.2 hj)
    rw [hid] at this
    simp [isId] at this
    subst this
    exact h
theorem lok_none {P : Program} {c : Code} (i : Nat) : LOk P (oneL i fun _ _ => none) c := by
  intro c' _ i' g' _ hg
  unfold oneL at hg
  cases hb : Nat.beq i' i
  · rw [hb] at hg; cases hg
  · rw [hb] at hg
    cases hg
    constructor
    · intro s k r hr; cases hr
    · intro s s' e' hk
      have := hk fun e s => some ⟨e, s, .any⟩
      cases this
/-- Two loops are told. -/
theorem lok_two {P : Program} {c : Code} {i i' : Nat} {g g' : LFun} (hg : LOk P (oneL i g) c) (hg' : LOk P (oneL i' g') c) : LOk P (twoL i g i' g') c := by
  intro c' hc j f hj hf
  unfold twoL at hf
  cases hb : Nat.beq j i
  · rw [hb] at hf
    refine hg' c' hc j f hj ?_
    exact hf
  · rw [hb] at hf
    refine hg c' hc j f hj ?_
    unfold oneL
    rw [hb]
    exact hf
theorem kno_ok (f : Nat) : KOk Try.prog ⟨f, fun _ _ => none⟩ := by
  constructor
  · intro args k o h; simp at h
  · intro args v h
    have h1 := h fun x => some (Out.of x)
    simp at h1
/-- A contract that is asked for where it is used. -/
noncomputable def kS (P : Program) (f : Nat) (g : List AV → AV) : KEntry := ⟨f, fun args k => gate (FSpec P f args (g args)) (k (g args))⟩
theorem kS_ok {P : Program} {f : Nat} {g : List AV → AV} : KOk P (kS P f g) := by
  constructor
  · intro args k o ho
    simp only [kS] at ho ⊢
    obtain ⟨hp, ho⟩ := gate_some ho
    exact ⟨g args, ho, fun k' => by rw [gate_pos hp]⟩
  · intro args v hv
    have h1 := hv fun x => some (Out.of x)
    simp only [kS] at h1
    obtain ⟨hp, h1⟩ := gate_some h1
    simp only [Option.some.injEq, Out.of, Out.mk.injEq, true_and] at h1
    subst h1
    exact Or.inl hp
theorem gspecM {l : List Entry} {ks : List KEntry} {ms : List MEntry} {L : Nat → Option LFun} (hl : ∀ e, e ∈ l → EOk Try.prog e) (hks : ∀ e, e ∈ ks → KOk Try.prog e) (hms : ∀ e, e ∈ ms → MEOk Try.prog e) {f : Nat} {fn : Func} (hf : Try.prog.funcs[f]? = some fn) (hnm : (fn.name == "runtime.NumGoroutine") = false) (hb : fn.body = some (bodyOf fn)) (hL : LOk Try.prog L (bodyOf fn))
    {args : List AV} (hlen : Nat.ble args.length fn.ntmps = true) {r : AV} (h : evM Try.prog l ks ms L fn args ret = some (Out.of r)) : FSpec Try.prog f args r := spec_of_evM hl hks hms (by kernel_rfl) hf hnm hb hL hlen h
theorem gspecG {l : List Entry} {ks : List KEntry} {ms : List MEntry} {L : Nat → Option LFun} (hl : ∀ e, e ∈ l → EOk Try.prog e) (hks : ∀ e, e ∈ ks → KOk Try.prog e) (hms : ∀ e, e ∈ ms → MEOk Try.prog e) {f : Nat} {fn : Func} (hf : Try.prog.funcs[f]? = some fn) (hnm : (fn.name == "runtime.NumGoroutine") = false) (hb : fn.body = some (bodyOf fn))
    {args : List AV} {mem : List Row} (hL : LOkN mem.length Try.prog L (bodyOf fn)) (hlen : Nat.ble args.length fn.ntmps = true) {τ : List (Option Nat)} (hpin : pinT mem.length τ = true) {v : AV} {mem1 : List Row} (h : evG Try.prog l ks ms L fn args mem τ = gout v mem1) : GSpec Try.prog f args mem v mem1 :=
  spec_of_evG hl hks hms (by kernel_rfl) hf hnm hb hL hlen hpin h
theorem m_nil {P : Program} : ∀ e, e ∈ ([] : List MEntry) → MEOk P e := fun _ h => by cases h
theorem m_cons {P : Program} {e : MEntry} {l : List MEntry} (h : MEOk P e) (hl : ∀ e, e ∈ l → MEOk P e) : ∀ e', e' ∈ e :: l → MEOk P e' := fun e' he => by
  rcases List.mem_cons.1 he with rfl | he
  · exact h
  · exact hl e' he
theorem leads_evM {l : List Entry} {ks : List KEntry} {ms : List MEntry} {L : Nat → Option LFun} {c : Code} {s s' : St} {e : Exit} {k : Kont} (hk : KSub k) (hl : ∀ e, e ∈ l → EOk Try.prog e) (hks : ∀ e, e ∈ ks → KOk Try.prog e) (hms : ∀ e, e ∈ ms → MEOk Try.prog e) (hL : LOk Try.prog L c) (h : evCM Try.prog l ks ms L c s k = some ⟨e, s', .any⟩) : Leads Try.prog c s e s' :=
  leads_ofK hk (tabM_ok hl hks hms) (drawnK_ok (tabM_ok hl hks hms) (by kernel_rfl)) hL h
theorem mixI (b : Bool) (a c : Int) : mixL b [iA a] [iA c] = [iA (cond b a c)] := by unfold iA; simp only [mixL, mixA, decide_true, cond_true]
theorem mixY (b : Bool) (a c : Int) : mixL b [yA a] [yA c] = [yA (cond b a c)] := by unfold yA; simp only [mixL, mixA, decide_true, cond_true]
theorem blt_t {a b : Nat} (h : a < b) : Nat.blt a b = true := Nat.ble_eq_true_of_le h
theorem not_blt {q m : Nat} (h : Nat.blt q m = false) : m ≤ q := Nat.le_of_not_lt fun hc => by
  rw [blt_t hc] at h; cases h
theorem mulB {x y X Y : Int} (h0 : 0 ≤ x) (h1 : x ≤ X) (g0 : 0 ≤ y) (g1 : y ≤ Y) : 0 ≤ x * y ∧ x * y ≤ X * Y :=
  ⟨Int.mul_nonneg h0 g0, Int.mul_le_mul h1 g1 g0 (Int.le_trans h0 h1)⟩
/-- The first place at which something holds. -/
theorem first_of (Q : Nat → Prop) : ∀ m, Q m → ∃ K, K ≤ m ∧ Q K ∧ ∀ k, k < K → ¬ Q k := by
  intro m
  induction m using Nat.strongRecOn with
  | ind m ih =>
    intro h
    by_cases hc : ∃ k, k < m ∧ Q k
    · obtain ⟨k, hk, hq⟩ := hc
      obtain ⟨K, h1, h2, h3⟩ := ih k hk hq
      exact ⟨K, by omega, h2, h3⟩
    · exact ⟨m, Nat.le_refl _, h, fun k hk hq => hc ⟨k, hk, hq⟩⟩
/-- All of them, or the first one that isn't. -/
theorem all_or_first (p : Nat → Bool) (n : Nat) : (∀ i, i < n → p i = true) ∨ ∃ K, K < n ∧ p K = false ∧ ∀ i, i < K → p i = true := by
  by_cases h : ∃ i, i < n ∧ p i = false
  · obtain ⟨i, hi, hp⟩ := h
    obtain ⟨K, h1, h2, h3⟩ := first_of (fun k => p k = false) i hp
    exact Or.inr ⟨K, by omega, h2, fun k hk => by simpa using h3 k hk⟩
  · exact Or.inl fun i hi => by
      cases hp : p i
      · exact absurd ⟨i, hi, hp⟩ h
      · rfl
/-- Whether all of the first so many are. -/
def allI (n : Nat) (p : Nat → Bool) : Bool := open Classical in decide (∀ i, i < n → p i = true)
theorem allI_t {n : Nat} {p : Nat → Bool} (h : ∀ i, i < n → p i = true) : allI n p = true := by unfold allI; exact decide_eq_true h
theorem allI_f {n : Nat} {p : Nat → Bool} {K : Nat} (hK : K < n) (h : p K = false) : allI n p = false := by unfold allI; exact decide_eq_false fun hc => by rw [hc K hK] at h; cases h
theorem allI_all {n : Nat} {p : Nat → Bool} (h : allI n p = true) : ∀ i, i < n → p i = true := by unfold allI at h; exact of_decide_eq_true h
/-! ### What says the same, or less -/
theorem FSpec.of_res {P : Program} {f : Nat} {args : List AV} {r r' : AV} (h : FSpec P f args r) (hr : ∀ (E : Env) (v : Value), rel E r v → rel E r' v) : FSpec P f args r' :=
  ⟨h.1, fun A w cargs hA ha hg => (h.2 A w cargs hA ha hg).mono fun _ _ ⟨v, h1, h2, h3⟩ => ⟨v, h1, hr _ _ h2, h3⟩⟩
theorem FSpec.of_args {P : Program} {f : Nat} {args args' : List AV} {r : AV} (h : FSpec P f args r) (ha : ∀ (E : Env) (vs : List Value), rels E args' vs → rels E args vs) : FSpec P f args' r :=
  ⟨h.1, fun A w cargs hA h2 hg => h.2 A w cargs hA (ha _ _ h2) hg⟩
theorem nil_like {E : Env} {sz : Nat} {el : Nat → List AV} {v : Value} (h : rel E (.x (.slice none 0 0)) v) : rel E (.sl sz 0 el) v := by
  have := rel_x.1 h
  subst this
  exact rel_sl.2 ⟨none, 0, rfl, Nat.le_refl _, Or.inl rfl⟩
theorem sl_like {E : Env} {sz n : Nat} {el el' : Nat → List AV} {v : Value} (h : rel E (.sl sz n el) v) (he : ∀ i, i < n → el' i = el i) : rel E (.sl sz n el') v := by
  have h : relA _ _ _ := h
  show relA _ _ _
  rw [relA] at h ⊢
  obtain ⟨a, c, h1, h2, h3⟩ := h
  refine ⟨a, c, h1, h2, ?_⟩
  rcases h3 with h3 | ⟨b, o, cs, e, fz, h4, h5, h6, h7⟩
  · exact Or.inl h3
  · exact Or.inr ⟨b, o, cs, e, fz, h4, h5, h6, fun i hi => by rw [he i hi]; exact h7 i hi⟩
theorem tup2_like {E : Env} {a a' b : AV} {v : Value} (h : rel E (.tup [a, b]) v) (ha : ∀ u, rel E a u → rel E a' u) : rel E (.tup [a', b]) v := by
  obtain ⟨vs, h1, h2⟩ := rel_tup.1 h
  refine rel_tup.2 ⟨vs, h1, ?_⟩
  obtain ⟨u0, t0, e0, r0, h2⟩ := rels_cons.1 h2
  exact rels_cons.2 ⟨u0, t0, e0, ha _ r0, h2⟩
/-- A contract that is asked for, of what is not ours. -/
noncomputable def askB (p : Prop) : Bool := ((propB p && true) && true) && true
theorem askB_t {p : Prop} (h : p) : askB p = true := by unfold askB; rw [propB_t h]; rfl
theorem ble_t {a b : Nat} (h : a ≤ b) : Nat.ble a b = true := Nat.ble_eq_true_of_le h
/-- Append of a row that is not ours. -/
def apR (n sz : Nat) : Bool := Nat.blt 0 n && (allB n (fun _ => true) && Nat.ble ((0 + n) * sz) 140737488355328)
theorem apR_t {n sz : Nat} (h0 : 0 < n) (h : n * sz ≤ 140737488355328) : apR n sz = true := by
  unfold apR
  rw [blt_t h0, allB_true fun _ _ => rfl, ble_t (show (0 + n) * sz ≤ 140737488355328 by rw [Nat.zero_add]; exact h)]
  rfl
/-- Append of one. -/
def apB (c sz : Nat) : Bool := (c == c) && Nat.ble ((c + 1) * sz) 140737488355328
theorem apB_t {c sz : Nat} (h : (c + 1) * sz ≤ 140737488355328) : apB c sz = true := by unfold apB; rw [BEq.rfl, Nat.ble_eq_true_of_le h]; rfl
theorem u8_id {n : Int} (h0 : 0 ≤ n) (h1 : n ≤ 255) : IntKind.u8.wrap n = n := by
  have e : IntKind.u8.wrap n = n % 256 := by
    unfold IntKind.wrap
    simp only [IntKind.bits, IntKind.signed, Bool.false_and]
    rfl
  rw [e]
  omega
end Go.Proofs.Ytbmpgaghcncfiaa

namespace Go.Proofs.Ytbmpgaghcncfiaa
open Go.Gv

structure Flm where
  W : Int
  H : Int
  n : Nat
  lt : Nat → Int
  m : Nat
  sh : Nat → Int
def Flm.c (f : Flm) : List AV := [iA f.W, iA f.H, sI f.n f.lt, sI f.m f.sh]
/-- A number that is out of bounds. -/
def ofB (x most : Int) : Bool := cond (decide (x < 0)) true (decide (x > most))
def fbad (W H : Int) : Bool := cond (cond (cond (decide (W < 1)) true (decide (H < 1))) true (decide (W > 64))) true (decide (H > 64))
def fcnt (f : Flm) : Bool := cond (!((f.n : Int) == w64 (w64 (3 * f.W) * f.H))) true (!((f.m : Int) == w64 (f.W * f.H)))
def fval (f : Flm) : Bool := allI f.n (fun i => !ofB (f.lt i) 1099511627776) && allI f.m (fun i => !ofB (f.sh i) 1048576)
def fmay (f : Flm) : Int := cond (fbad f.W f.H) 4 (cond (fcnt f) 5 (cond (fval f) 0 6))
theorem fbad_false {W H : Int} (h : fbad W H = false) : 1 ≤ W ∧ W ≤ 64 ∧ 1 ≤ H ∧ H ≤ 64 := by
  unfold fbad at h
  by_cases h1 : W < 1 <;> by_cases h2 : W > 64 <;> by_cases h3 : H < 1 <;> by_cases h4 : H > 64 <;> simp [h1, h2, h3, h4] at h
  omega
theorem fcnt_false {f : Flm} (hb : fbad f.W f.H = false) (h : fcnt f = false) : (f.n : Int) = 3 * (f.W * f.H) ∧ (f.m : Int) = f.W * f.H := by
  obtain ⟨h1, h2, h3, h4⟩ := fbad_false hb
  have hm := mulB (x := f.W) (y := f.H) (X := 64) (Y := 64) (by omega) h2 (by omega) h4
  unfold fcnt at h
  rw [w64_id (n := 3 * f.W) (by omega) (by omega), Int.mul_assoc, w64_id (n := 3 * (f.W * f.H)) (by omega) (by omega), w64_id (n := f.W * f.H) (by omega) (by omega)] at h
  cases e1 : (f.n : Int) == 3 * (f.W * f.H) <;> cases e2 : (f.m : Int) == f.W * f.H <;> rw [e1, e2] at h <;> simp at h
  exact ⟨eq_of_beq e1, eq_of_beq e2⟩
end Go.Proofs.Ytbmpgaghcncfiaa

namespace Go.Proofs.Ytbmpgaghcncfiaa
open Go.Gv

def zF : Flm := ⟨0, 0, 0, fun _ => 0, 0, fun _ => 0⟩
def flmZ : List AV := [iA 0, iA 0, .x (.slice none 0 0), .x (.slice none 0 0)]
theorem zF_like {E : Env} {v : Value} (h : rel E (.agg flmZ) v) : rel E (.agg zF.c) v := by
  obtain ⟨vs, h1, h2⟩ := rel_agg.1 h
  refine rel_agg.2 ⟨vs, h1, ?_⟩
  obtain ⟨u0, t0, e0, r0, h2⟩ := rels_cons.1 h2
  obtain ⟨u1, t1, e1, r1, h2⟩ := rels_cons.1 h2
  obtain ⟨u2, t2, e2, r2, h2⟩ := rels_cons.1 h2
  obtain ⟨u3, t3, e3, r3, h2⟩ := rels_cons.1 h2
  exact rels_cons.2 ⟨u0, t0, e0, r0, rels_cons.2 ⟨u1, t1, e1, r1, rels_cons.2 ⟨u2, t2, e2, nil_like r2, rels_cons.2 ⟨u3, t3, e3, nil_like r3, h2⟩⟩⟩⟩
/-- A film, and an error beside it. -/
def fOut (f : Flm) (e : Int) : AV := .tup [.agg f.c, iA e]
def fBad (e : Int) : Option Out := some (Out.of (.tup [.agg flmZ, iA e]))
theorem fspec_bad {f : Nat} {args : List AV} {e : Int} (h : FSpec Try.prog f args (.tup [.agg flmZ, iA e])) : FSpec Try.prog f args (fOut zF e) := FSpec.of_res h fun _ _ hr => tup2_like hr fun _ => zF_like

def intOf : List AV → Int
  | [.x (.int .i64 n)] => n
  | _ => 0
abbrev MF : Type := Int → Int → Nat → (Nat → List AV) → Nat → (Nat → List AV) → Int
/-- Whether a film may be, of what stands in it. -/
def fmG (mf : MF) : List AV → AV
  | [.agg [.x (.int .i64 W), .x (.int .i64 H), .sl _ n el, .sl _ m el']] => iA (mf W H n el m el')
  | _ => .any
def MF.of (mf : MF) (f : Flm) : Int := mf f.W f.H f.n (fun i => [iA (f.lt i)]) f.m (fun i => [iA (f.sh i)])
noncomputable def fmE' : MF := fun W H n el m el' => fmay ⟨W, H, n, fun i => intOf (el i), m, fun i => intOf (el' i)⟩
theorem fmE_of (f : Flm) : MF.of fmE' f = fmay f := rfl
abbrev FMok (k : Nat) (mf : MF) (f : Flm) : Prop := FSpec Try.prog k [.agg f.c] (fmG mf [.agg f.c])
theorem FMok_of {k : Nat} (h : ∀ f : Flm, FSpec Try.prog k [.agg f.c] (iA (fmay f))) (f : Flm) : FMok k fmE' f := h f
theorem fmay_zero {f : Flm} (h : fmay f = 0) : fbad f.W f.H = false ∧ fcnt f = false ∧ fval f = true := by
  unfold fmay at h
  cases h1 : fbad f.W f.H <;> cases h2 : fcnt f <;> cases h3 : fval f <;> rw [h1, h2, h3] at h <;> simp at h
  exact ⟨rfl, rfl, rfl⟩
theorem fmay_n {f : Flm} (h : fmay f = 0) : f.n ≤ 1000000 ∧ f.m ≤ 1000000 ∧ (f.n : Int) = 3 * (f.W * f.H) ∧ (f.m : Int) = f.W * f.H := by
  obtain ⟨h1, h2, _⟩ := fmay_zero h
  obtain ⟨a, b, c, d⟩ := fbad_false h1
  have hM := mulB (x := f.W) (y := f.H) (X := 64) (Y := 64) (by omega) b (by omega) d
  obtain ⟨h3, h4⟩ := fcnt_false h1 h2
  exact ⟨by omega, by omega, h3, h4⟩
end Go.Proofs.Ytbmpgaghcncfiaa

namespace Go.Proofs.Ytbmpgaghcncfiaa
open Go.Gv

def isd (x : Int) : Bool := cond (decide (x ≥ 1)) (decide (x ≤ 64)) false
theorem isd_ev (x : Int) : ev Try.prog [] [] noL Try.f12 [iA x] ret = some (Out.of (bA (isd x))) := by kernel_rfl
theorem isd_spec (x : Int) : FSpec Try.prog 12 [iA x] (bA (isd x)) := gspec e_nil k_nil Try.func12 (by kernel_rfl) (by kernel_rfl) noL_ok rfl (isd_ev x)
def gSd (sd : Int → Bool) : List AV → Option AV
  | [.x (.int .i64 l)] => some (bA (sd l))
  | _ => none
theorem gSd_ok : EOk Try.prog ⟨12, gSd isd⟩ := fun args r hr => by
  simp only [gSd] at hr
  split at hr
  · cases hr; exact Or.inl (isd_spec _)
  · cases hr
/-! ### Numbers up to a most -/
def utS (most : Int) (n : Nat) (g : Nat → Int) (i : Int) : St := mkS 21 [(0, iA most), (7, sI n g), (8, iA n), (9, iA i)] []
def utE : St := mkS 21 [(4, bA false)] []
section
variable (most : Int) (n : Nat) (g : Nat → Int) (i : Int)
theorem ut_step : evC Try.prog [] [] noL (loopAt Try.f17 0) (utS most n g i) (finN [0, 7, 8, 9] []) =
    cond (decide (i < n)) (cond (ixB i n || false) (cond (ofB (g i.toNat) most) none (some ⟨.normal, utS most n g (w64 (i + 1)), .any⟩)) none) none := by kernel_rfl
theorem ut_ret : evC Try.prog [] [] noL (loopAt Try.f17 0) (utS most n g i) (finR [4] []) =
    cond (decide (i < n)) (cond (ixB i n || false) (cond (ofB (g i.toNat) most) (some ⟨.ret, utE, .any⟩) none) none) none := by kernel_rfl
theorem ut_end : evC Try.prog [] [] noL (loopAt Try.f17 0) (utS most n g i) (finE [0, 7, 8, 9] []) =
    cond (decide (i < n)) (cond (ixB i n || false) (cond (ofB (g i.toNat) most) none none) none) (some ⟨.exit 0, utS most n g i, .any⟩) := by kernel_rfl
end
theorem ut_good {most : Int} {n : Nat} {g : Nat → Int} (hn : n ≤ 4611686018427387904) (h : ∀ i, i < n → ofB (g i) most = false) : Leads Try.prog (.loop (loopAt Try.f17 0)) (utS most n g 0) (.exit 0) (utS most n g (n : Nat)) := by
  refine loop_rule (fun k => utS most n g (k : Nat)) n (.exit 0) _ (by simp) (fun k hk => ?_) ?_
  · refine leads_ev (finN_sub _ _) e_nil k_nil noL_ok ((ut_step most n g (k : Nat)).trans ?_)
    rw [dec_lt hk, ixB_t hk, Int.toNat_natCast, h k hk, w64_next (by omega)]
    rfl
  · refine leads_ev (finE_sub _ _) e_nil k_nil noL_ok ((ut_end most n g (n : Nat)).trans ?_)
    rw [dec_self, cond_false]
theorem ut_bad {most : Int} {n : Nat} {g : Nat → Int} (hn : n ≤ 4611686018427387904) {K : Nat} (hK : K < n) (hb : ofB (g K) most = true) (h : ∀ i, i < K → ofB (g i) most = false) : Leads Try.prog (.loop (loopAt Try.f17 0)) (utS most n g 0) .ret utE := by
  refine loop_rule (fun k => utS most n g (k : Nat)) K .ret _ (by simp) (fun k hk => ?_) ?_
  · refine leads_ev (finN_sub _ _) e_nil k_nil noL_ok ((ut_step most n g (k : Nat)).trans ?_)
    have hk' : k < n := by omega
    rw [dec_lt hk', ixB_t hk', Int.toNat_natCast, h k hk, w64_next (by omega)]
    rfl
  · refine leads_ev (finR_sub _ _) e_nil k_nil noL_ok ((ut_ret most n g (K : Nat)).trans ?_)
    rw [dec_lt hK, ixB_t hK, Int.toNat_natCast, hb]
    rfl
noncomputable def utL (most : Int) (n : Nat) (g : Nat → Int) : LFun := toldF [0, 7, 8, 9] [] (utS most n g 0) (.exit 0) (utS most n g (n : Nat))
noncomputable def utLr (most : Int) (n : Nat) (g : Nat → Int) : LFun := toldF [0, 7, 8, 9] [] (utS most n g 0) .ret utE
theorem ut_evG (most : Int) (n : Nat) (g : Nat → Int) : ev Try.prog [] [] (oneL 2 (utL most n g)) Try.f17 [iA most, sI n g] ret = gate (Sub (utS most n g 0) (utS most n g 0)) (some (Out.of (bA true))) := by kernel_rfl
theorem ut_evR (most : Int) (n : Nat) (g : Nat → Int) : ev Try.prog [] [] (oneL 2 (utLr most n g)) Try.f17 [iA most, sI n g] ret = gate (Sub (utS most n g 0) (utS most n g 0)) (some (Out.of (bA false))) := by kernel_rfl
noncomputable def upI (most : Int) (n : Nat) (g : Nat → Int) : Bool := allI n fun i => !ofB (g i) most
theorem ut_spec {most : Int} {n : Nat} {g : Nat → Int} (hn : n ≤ 4611686018427387904) : FSpec Try.prog 17 [iA most, sI n g] (bA (upI most n g)) := by
  unfold upI
  rcases all_or_first (fun i => !ofB (g i) most) n with hl | ⟨K, hK, hp, hq⟩
  · have l1 := lok_at (c := bodyOf Try.f17) (i := 2) 0 1 (by kernel_rfl) (by kernel_rfl) (toldF_sound (keep := [0, 7, 8, 9]) (τ := []) (ut_good (most := most) hn fun i hi => by simpa using hl i hi))
    refine gspec e_nil k_nil Try.func17 (by kernel_rfl) (by kernel_rfl) l1 rfl ((ut_evG most n g).trans ?_)
    rw [gate_pos (Sub.refl _), allI_t hl]
  · have l1 := lok_at (c := bodyOf Try.f17) (i := 2) 0 1 (by kernel_rfl) (by kernel_rfl) (toldF_sound (keep := [0, 7, 8, 9]) (τ := []) (ut_bad (most := most) hn hK (by simpa using hp) fun i hi => by simpa using hq i hi))
    refine gspec e_nil k_nil Try.func17 (by kernel_rfl) (by kernel_rfl) l1 rfl ((ut_evR most n g).trans ?_)
    rw [gate_pos (Sub.refl _), allI_f hK hp]
abbrev UF : Type := Int → Nat → (Nat → List AV) → Bool
def utG (uf : UF) : List AV → AV
  | [.x (.int .i64 most), .sl _ n el] => bA (uf most n el)
  | _ => .any
noncomputable def utF : UF := fun most n el => upI most n fun i => intOf (el i)
abbrev UTok (uf : UF) (most : Int) (n : Nat) (g : Nat → Int) : Prop := FSpec Try.prog 17 [iA most, sI n g] (utG uf [iA most, sI n g])
theorem UTok_of {most : Int} {n : Nat} {g : Nat → Int} (hn : n ≤ 4611686018427387904) : UTok utF most n g := ut_spec hn
end Go.Proofs.Ytbmpgaghcncfiaa

namespace Go.Proofs.Ytbmpgaghcncfiaa
open Go.Gv

def cSd (sd : Int → Bool) (W H : Int) : Bool := cond (!sd W) true (!sd H)
def cCn (f : Flm) : Bool := cond (!((f.n : Int) == w64 (3 * w64 (f.W * f.H)))) true (!((f.m : Int) == w64 (f.W * f.H)))
def cUp (uf : UF) (f : Flm) : Bool := cond (!uf 1099511627776 f.n fun i => [iA (f.lt i)]) true (!uf 1048576 f.m fun i => [iA (f.sh i)])
theorem cmay_ev (sd : Int → Bool) (uf : UF) (f : Flm) : ev Try.prog [⟨12, gSd sd⟩] [kS Try.prog 17 (utG uf)] noL Try.f13 [.agg f.c] ret =
    cond (cSd sd f.W f.H) (some (Out.of (iA 4))) (cond (cCn f) (some (Out.of (iA 5))) (gate (UTok uf 1099511627776 f.n f.lt) (gate (UTok uf 1048576 f.m f.sh) (cond (cUp uf f) (some (Out.of (iA 6))) (some (Out.of (iA 0))))))) := by kernel_rfl
theorem cSd_eq (W H : Int) : cSd isd W H = fbad W H := by
  unfold cSd fbad isd
  by_cases h1 : W < 1 <;> by_cases h2 : W > 64 <;> by_cases h3 : H < 1 <;> by_cases h4 : H > 64 <;> first | (exfalso; omega) | skip
  all_goals (simp only [h1, h2, h3, h4, decide_true, decide_false, cond_true, cond_false, Bool.not_true, Bool.not_false, show (W ≥ 1) = ¬ (W < 1) from propext (by omega), show (W ≤ 64) = ¬ (W > 64) from propext (by omega), show (H ≥ 1) = ¬ (H < 1) from propext (by omega), show (H ≤ 64) = ¬ (H > 64) from propext (by omega), not_true_eq_false, not_false_eq_true])
theorem cCn_eq {f : Flm} (h : fbad f.W f.H = false) : cCn f = fcnt f := by
  obtain ⟨h1, h2, h3, h4⟩ := fbad_false h
  have hm := mulB (x := f.W) (y := f.H) (X := 64) (Y := 64) (by omega) h2 (by omega) h4
  unfold cCn fcnt
  rw [w64_id (n := f.W * f.H) (by omega) (by omega), w64_id (n := 3 * (f.W * f.H)) (by omega) (by omega), w64_id (n := 3 * f.W) (by omega) (by omega), Int.mul_assoc, w64_id (n := 3 * (f.W * f.H)) (by omega) (by omega)]
theorem cUp_eq (f : Flm) : cUp utF f = !fval f := by
  show cond (!upI 1099511627776 f.n f.lt) true (!upI 1048576 f.m f.sh) = _
  unfold fval upI
  cases allI f.n (fun i => !ofB (f.lt i) 1099511627776) <;> rfl
theorem cmay_spec (f : Flm) : FSpec Try.prog 13 [.agg f.c] (iA (fmay f)) := by
  refine gspec (e_cons gSd_ok e_nil) (k_cons (kS_ok (P := Try.prog) (f := 17) (g := utG utF)) k_nil) Try.func13 (by kernel_rfl) (by kernel_rfl) noL_ok rfl ((cmay_ev isd utF f).trans ?_)
  rw [cSd_eq]
  unfold fmay
  cases hb : fbad f.W f.H
  · rw [cCn_eq hb]
    cases hc : fcnt f
    · obtain ⟨hn, hm⟩ := fcnt_false hb hc
      obtain ⟨h1, h2, h3, h4⟩ := fbad_false hb
      have hM := mulB (x := f.W) (y := f.H) (X := 64) (Y := 64) (by omega) h2 (by omega) h4
      rw [gate_pos (UTok_of (by omega)), gate_pos (UTok_of (by omega)), cUp_eq]
      cases fval f <;> rfl
    · rfl
  · rfl
end Go.Proofs.Ytbmpgaghcncfiaa
