/-
  Gy Fsd Cf8 TSh, one behind the other.
-/
import Derived.Test.YtbmpgaghcncfiaaGi
import Derived.Test.YtbmpgaghcncfiaaGq2
import Derived.Test.YtbmpgaghcncfiaaGn
import Derived.Test.YtbmpgaghcncfiaaGz
import Derived.Test.YtbmpgaghcncfiaaGw
namespace Go.Gv
/-- Where a loop is left by a return. -/
noncomputable def finR (keep : List Nat) (τ : List (Option Nat)) : Kont := fun e s => match e with
  | .ret => finF keep τ .ret s
  | _ => none
theorem finR_sub (keep : List Nat) (τ : List (Option Nat)) : KSub (finR keep τ) := fun e s o h => by
  unfold finR at h
  cases e <;> simp only at h <;> first | (cases h; done) | exact finF_sub keep τ _ s o h
end Go.Gv
namespace Go.Proofs.Ytbmpgaghcncfiaa
open Go.Gv

def yA (b : Int) : AV := .x (.int .u8 b)
/-- A row of whole numbers; of bytes. -/
def sI (n : Nat) (g : Nat → Int) : AV := .sl 1 n fun i => [iA (g i)]
def sB (n : Nat) (g : Nat → Int) : AV := .sl 1 n fun i => [yA (g i)]
def skK : Kont := fun e _ => some ⟨e, ⟨[], []⟩, .any⟩
def ixB (i : Int) (n : Nat) : Bool := decide (0 ≤ i) && decide (i < n)
theorem ixB_t {i n : Nat} (h : i < n) : ixB (i : Nat) n = true := by unfold ixB; rw [dec_nonneg, dec_lt h]; rfl
def isId (o : Option Nat) (i : Nat) : Bool := match o with | some k => Nat.beq k i | none => false
/-- Of the loops within, the first is told. -/
theorem lok_hd {P : Program} {c : Code} {i : Nat} {g : LFun} (m : Nat) (hlen : (loopsOf c).length = m + 1) (hno : ((List.range m).all fun j => !(isId (firstId ((loopsOf c).getD (j + 1) .skip)) i)) = true) (h : LSound P ((loopsOf c).getD 0 .skip) g) : LOk P (oneL i g) c :=
  lok_one (m + 1) hlen fun j hj hid => by
    cases j with
    | zero => exact h
    | succ j =>
      rw [List.all_eq_true] at hno
      have := hno j (List.mem_range.2 (by omega))
      rw [hid] at this
      simp [isId] at this
/-- The loop with this number is told. -/
theorem lok_at {P : Program} {c : Code} {i : Nat} {g : LFun} (j0 m : Nat) (hlen : (loopsOf c).length = m) (hno : ((List.range m).all fun j => Nat.beq j j0 || !(isId (firstId ((loopsOf c).getD j .skip)) i)) = true) (h : LSound P ((loopsOf c).getD j0 .skip) g) : LOk P (oneL i g) c :=
  lok_one m hlen fun j hj hid => by
    rw [List.all_eq_true] at hno
    have := hno j (List.mem_range.2 hj)
    rw [hid] at this
    simp [isId] at this
    subst this
    exact h
theorem lok_none {P : Program} {c : Code} (i : Nat) : LOk P (oneL i fun _ _ => none) c := by
  intro c' _ i' g' _ hg
  unfold oneL at hg
  cases hb : Nat.beq i' i
  · rw [hb] at hg; cases hg
  · rw [hb] at hg
    cases hg
    constructor
    · intro s k r hr; cases hr
    · intro s s' e' hk
      have := hk fun e s => some ⟨e, s, .any⟩
      cases this
/-- Two loops are told. -/
theorem lok_two {P : Program} {c : Code} {i i' : Nat} {g g' : LFun} (hg : LOk P (oneL i g) c) (hg' : LOk P (oneL i' g') c) : LOk P (twoL i g i' g') c := by
  intro c' hc j f hj hf
  unfold twoL at hf
  cases hb : Nat.beq j i
  · rw [hb] at hf
    refine hg' c' hc j f hj ?_
    exact hf
  · rw [hb] at hf
    refine hg c' hc j f hj ?_
    unfold oneL
    rw [hb]
    exact hf
theorem kno_ok (f : Nat) : KOk Try.prog ⟨f, fun _ _ => none⟩ := by
  constructor
  · intro args k o h; simp at h
  · intro args v h
    have h1 := h fun x => some (Out.of x)
    simp at h1
/-- A contract that is asked for where it is used. -/
noncomputable def kS (P : Program) (f : Nat) (g : List AV → AV) : KEntry := ⟨f, fun args k => gate (FSpec P f args (g args)) (k (g args))⟩
theorem kS_ok {P : Program} {f : Nat} {g : List AV → AV} : KOk P (kS P f g) := by
  constructor
  · intro args k o ho
    simp only [kS] at ho ⊢
    obtain ⟨hp, ho⟩ := gate_some ho
    exact ⟨g args, ho, fun k' => by rw [gate_pos hp]⟩
  · intro args v hv
    have h1 := hv fun x => some (Out.of x)
    simp only [kS] at h1
    obtain ⟨hp, h1⟩ := gate_some h1
    simp only [Option.some.injEq, Out.of, Out.mk.injEq, true_and] at h1
    subst h1
    exact Or.inl hp
theorem gspecM {l : List Entry} {ks : List KEntry} {ms : List MEntry} {L : Nat → Option LFun} (hl : ∀ e, e ∈ l → EOk Try.prog e) (hks : ∀ e, e ∈ ks → KOk Try.prog e) (hms : ∀ e, e ∈ ms → MEOk Try.prog e) {f : Nat} {fn : Func} (hf : Try.prog.funcs[f]? = some fn) (hnm : (fn.name == "runtime.NumGoroutine") = false) (hb : fn.body = some (bodyOf fn)) (hL : LOk Try.prog L (bodyOf fn))
    {args : List AV} (hlen : Nat.ble args.length fn.ntmps = true) {r : AV} (h : evM Try.prog l ks ms L fn args ret = some (Out.of r)) : FSpec Try.prog f args r := spec_of_evM hl hks hms (by kernel_rfl) hf hnm hb hL hlen h
theorem gspecG {l : List Entry} {ks : List KEntry} {ms : List MEntry} {L : Nat → Option LFun} (hl : ∀ e, e ∈ l → EOk Try.prog e) (hks : ∀ e, e ∈ ks → KOk Try.prog e) (hms : ∀ e, e ∈ ms → MEOk Try.prog e) {f : Nat} {fn : Func} (hf : Try.prog.funcs[f]? = some fn) (hnm : (fn.name == "runtime.NumGoroutine") = false) (hb : fn.body = some (bodyOf fn))
    {args : List AV} {mem : List Row} (hL : LOkN mem.length Try.prog L (bodyOf fn)) (hlen : Nat.ble args.length fn.ntmps = true) {τ : List (Option Nat)} (hpin : pinT mem.length τ = true) {v : AV} {mem1 : List Row} (h : evG Try.prog l ks ms L fn args mem τ = gout v mem1) : GSpec Try.prog f args mem v mem1 :=
  spec_of_evG hl hks hms (by kernel_rfl) hf hnm hb hL hlen hpin h
theorem m_nil {P : Program} : ∀ e, e ∈ ([] : List MEntry) → MEOk P e := fun _ h => by cases h
theorem m_cons {P : Program} {e : MEntry} {l : List MEntry} (h : MEOk P e) (hl : ∀ e, e ∈ l → MEOk P e) : ∀ e', e' ∈ e :: l → MEOk P e' := fun e' he => by
  rcases List.mem_cons.1 he with rfl | he
  · exact h
  · exact hl e' he
theorem leads_evM {l : List Entry} {ks : List KEntry} {ms : List MEntry} {L : Nat → Option LFun} {c : Code} {s s' : St} {e : Exit} {k : Kont} (hk : KSub k) (hl : ∀ e, e ∈ l → EOk Try.prog e) (hks : ∀ e, e ∈ ks → KOk Try.prog e) (hms : ∀ e, e ∈ ms → MEOk Try.prog e) (hL : LOk Try.prog L c) (h : evCM Try.prog l ks ms L c s k = some ⟨e, s', .any⟩) : Leads Try.prog c s e s' :=
  leads_ofK hk (tabM_ok hl hks hms) (drawnK_ok (tabM_ok hl hks hms) (by kernel_rfl)) hL h
theorem mixI (b : Bool) (a c : Int) : mixL b [iA a] [iA c] = [iA (cond b a c)] := by unfold iA; simp only [mixL, mixA, decide_true, cond_true]
theorem mixY (b : Bool) (a c : Int) : mixL b [yA a] [yA c] = [yA (cond b a c)] := by unfold yA; simp only [mixL, mixA, decide_true, cond_true]
theorem blt_t {a b : Nat} (h : a < b) : Nat.blt a b = true := Nat.ble_eq_true_of_le h
theorem not_blt {q m : Nat} (h : Nat.blt q m = false) : m ≤ q := Nat.le_of_not_lt fun hc => by
  rw [blt_t hc] at h; cases h
theorem mulB {x y X Y : Int} (h0 : 0 ≤ x) (h1 : x ≤ X) (g0 : 0 ≤ y) (g1 : y ≤ Y) : 0 ≤ x * y ∧ x * y ≤ X * Y :=
  ⟨Int.mul_nonneg h0 g0, Int.mul_le_mul h1 g1 g0 (Int.le_trans h0 h1)⟩
/-- The first place at which something holds. -/
theorem first_of (Q : Nat → Prop) : ∀ m, Q m → ∃ K, K ≤ m ∧ Q K ∧ ∀ k, k < K → ¬ Q k := by
  intro m
  induction m using Nat.strongRecOn with
  | ind m ih =>
    intro h
    by_cases hc : ∃ k, k < m ∧ Q k
    · obtain ⟨k, hk, hq⟩ := hc
      obtain ⟨K, h1, h2, h3⟩ := ih k hk hq
      exact ⟨K, by omega, h2, h3⟩
    · exact ⟨m, Nat.le_refl _, h, fun k hk hq => hc ⟨k, hk, hq⟩⟩
/-- All of them, or the first one that isn't. -/
theorem all_or_first (p : Nat → Bool) (n : Nat) : (∀ i, i < n → p i = true) ∨ ∃ K, K < n ∧ p K = false ∧ ∀ i, i < K → p i = true := by
  by_cases h : ∃ i, i < n ∧ p i = false
  · obtain ⟨i, hi, hp⟩ := h
    obtain ⟨K, h1, h2, h3⟩ := first_of (fun k => p k = false) i hp
    exact Or.inr ⟨K, by omega, h2, fun k hk => by simpa using h3 k hk⟩
  · exact Or.inl fun i hi => by
      cases hp : p i
      · exact absurd ⟨i, hi, hp⟩ h
      · rfl
/-- Whether all of the first so many are. -/
def allI (n : Nat) (p : Nat → Bool) : Bool := open Classical in decide (∀ i, i < n → p i = true)
theorem allI_t {n : Nat} {p : Nat → Bool} (h : ∀ i, i < n → p i = true) : allI n p = true := by unfold allI; exact decide_eq_true h
theorem allI_f {n : Nat} {p : Nat → Bool} {K : Nat} (hK : K < n) (h : p K = false) : allI n p = false := by unfold allI; exact decide_eq_false fun hc => by rw [hc K hK] at h; cases h
theorem allI_all {n : Nat} {p : Nat → Bool} (h : allI n p = true) : ∀ i, i < n → p i = true := by unfold allI at h; exact of_decide_eq_true h
/-! ### What says the same, or less -/
theorem FSpec.of_res {P : Program} {f : Nat} {args : List AV} {r r' : AV} (h : FSpec P f args r) (hr : ∀ (E : Env) (v : Value), rel E r v → rel E r' v) : FSpec P f args r' :=
  ⟨h.1, fun A w cargs hA ha hg => (h.2 A w cargs hA ha hg).mono fun _ _ ⟨v, h1, h2, h3⟩ => ⟨v, h1, hr _ _ h2, h3⟩⟩
theorem FSpec.of_args {P : Program} {f : Nat} {args args' : List AV} {r : AV} (h : FSpec P f args r) (ha : ∀ (E : Env) (vs : List Value), rels E args' vs → rels E args vs) : FSpec P f args' r :=
  ⟨h.1, fun A w cargs hA h2 hg => h.2 A w cargs hA (ha _ _ h2) hg⟩
theorem nil_like {E : Env} {sz : Nat} {el : Nat → List AV} {v : Value} (h : rel E (.x (.slice none 0 0)) v) : rel E (.sl sz 0 el) v := by
  have := rel_x.1 h
  subst this
  exact rel_sl.2 ⟨none, 0, rfl, Nat.le_refl _, Or.inl rfl⟩
theorem sl_like {E : Env} {sz n : Nat} {el el' : Nat → List AV} {v : Value} (h : rel E (.sl sz n el) v) (he : ∀ i, i < n → el' i = el i) : rel E (.sl sz n el') v := by
  have h : relA _ _ _ := h
  show relA _ _ _
  rw [relA] at h ⊢
  obtain ⟨a, c, h1, h2, h3⟩ := h
  refine ⟨a, c, h1, h2, ?_⟩
  rcases h3 with h3 | ⟨b, o, cs, e, fz, h4, h5, h6, h7⟩
  · exact Or.inl h3
  · exact Or.inr ⟨b, o, cs, e, fz, h4, h5, h6, fun i hi => by rw [he i hi]; exact h7 i hi⟩
theorem tup2_like {E : Env} {a a' b : AV} {v : Value} (h : rel E (.tup [a, b]) v) (ha : ∀ u, rel E a u → rel E a' u) : rel E (.tup [a', b]) v := by
  obtain ⟨vs, h1, h2⟩ := rel_tup.1 h
  refine rel_tup.2 ⟨vs, h1, ?_⟩
  obtain ⟨u0, t0, e0, r0, h2⟩ := rels_cons.1 h2
  exact rels_cons.2 ⟨u0, t0, e0, ha _ r0, h2⟩
/-- A contract that is asked for, of what is not ours. -/
noncomputable def askB (p : Prop) : Bool := ((propB p && true) && true) && true
theorem askB_t {p : Prop} (h : p) : askB p = true := by unfold askB; rw [propB_t h]; rfl
theorem ble_t {a b : Nat} (h : a ≤ b) : Nat.ble a b = true := Nat.ble_eq_true_of_le h
/-- Append of a row that is not ours. -/
def apR (n sz : Nat) : Bool := Nat.blt 0 n && (allB n (fun _ => true) && Nat.ble ((0 + n) * sz) 140737488355328)
theorem apR_t {n sz : Nat} (h0 : 0 < n) (h : n * sz ≤ 140737488355328) : apR n sz = true := by
  unfold apR
  rw [blt_t h0, allB_true fun _ _ => rfl, ble_t (show (0 + n) * sz ≤ 140737488355328 by rw [Nat.zero_add]; exact h)]
  rfl
/-- Append of one. -/
def apB (c sz : Nat) : Bool := (c == c) && Nat.ble ((c + 1) * sz) 140737488355328
theorem apB_t {c sz : Nat} (h : (c + 1) * sz ≤ 140737488355328) : apB c sz = true := by unfold apB; rw [BEq.rfl, Nat.ble_eq_true_of_le h]; rfl
theorem u8_id {n : Int} (h0 : 0 ≤ n) (h1 : n ≤ 255) : IntKind.u8.wrap n = n := by
  have e : IntKind.u8.wrap n = n % 256 := by
    unfold IntKind.wrap
    simp only [IntKind.bits, IntKind.signed, Bool.false_and]
    rfl
  rw [e]
  omega
end Go.Proofs.Ytbmpgaghcncfiaa

namespace Go.Proofs.Ytbmpgaghcncfiaa
open Go.Gv

/-! ### Shades -/
/-- The greatest of 0 to k that a light has. -/
def shN (l : Int) : Nat → Nat
  | 0 => 0
  | k + 1 => if ((k + 1 : Nat) : Int) * ((k + 1 : Nat) : Int) * 65536 ≤ l * 65025 then k + 1 else shN l k
def shS (l : Int) : Nat := if l < 0 then 0 else shN l 255
theorem shN_le (l : Int) : ∀ k, shN l k ≤ k
  | 0 => Nat.le_refl _
  | k + 1 => by
    unfold shN
    split
    · exact Nat.le_refl _
    · exact Nat.le_succ_of_le (shN_le l k)
theorem shN_has {l : Int} (h : 0 ≤ l) : ∀ k, ((shN l k : Nat) : Int) * ((shN l k : Nat) : Int) * 65536 ≤ l * 65025
  | 0 => by simp only [shN]; omega
  | k + 1 => by
    unfold shN
    split
    · assumption
    · exact shN_has h k
theorem shN_most {l : Int} {k j : Nat} (h : j ≤ k) (hj : ((j : Nat) : Int) * ((j : Nat) : Int) * 65536 ≤ l * 65025) : j ≤ shN l k := by
  induction k with
  | zero => simp only [shN]; omega
  | succ k ih =>
    unfold shN
    split
    · exact h
    · rename_i hc
      rcases Nat.lt_or_ge j (k + 1) with h1 | h1
      · exact ih (by omega)
      · have : j = k + 1 := by omega
        subst this
        exact absurd hj hc
theorem sq_mono {a b : Nat} (h : a ≤ b) : ((a : Nat) : Int) * ((a : Nat) : Int) ≤ ((b : Nat) : Int) * ((b : Nat) : Int) := by
  exact Int.mul_le_mul (by omega) (by omega) (by omega) (by omega)
/-- What tells it. -/
theorem shS_of {l : Int} {b : Nat} (hb : b ≤ 255) (h1 : b = 0 ∨ (b : Int) * b * 65536 ≤ l * 65025) (h2 : b = 255 ∨ l < 0 ∨ l * 65025 < ((b + 1 : Nat) : Int) * ((b + 1 : Nat) : Int) * 65536) : b = shS l := by
  unfold shS
  by_cases hl : l < 0
  · rw [if_pos hl]
    rcases h1 with h1 | h1
    · exact h1
    · have := mulB (x := (b : Int)) (y := (b : Int)) (X := 255) (Y := 255) (by omega) (by omega) (by omega) (by omega)
      omega
  · rw [if_neg hl]
    have g1 : b ≤ shN l 255 := by
      rcases h1 with h1 | h1
      · omega
      · exact shN_most hb h1
    rcases h2 with h2 | h2 | h2
    · have := shN_le l 255; omega
    · omega
    · have g2 := shN_has (l := l) (by omega) 255
      have g3 : ¬ (b + 1 ≤ shN l 255) := fun hc => by
        have := sq_mono hc
        omega
      omega
theorem shS_le (l : Int) : shS l ≤ 255 := by
  unfold shS; split
  · omega
  · exact shN_le l 255
theorem shS_high {l : Int} (h : 1000000 ≤ l) : shS l = 255 := (shS_of (Nat.le_refl 255) (Or.inr (by omega)) (Or.inl rfl)).symm
def gSh (sf : Int → Int) : List AV → Option AV
  | [.x (.int .i64 l)] => some (yA (sf l))
  | _ => none
theorem gSh_ok {f : Nat} {sf : Int → Int} (h : ∀ l, FSpec Try.prog f [iA l] (yA (sf l))) : EOk Try.prog ⟨f, gSh sf⟩ := fun args r hr => by
  simp only [gSh] at hr
  split at hr
  · cases hr; exact Or.inl (h _)
  · cases hr
end Go.Proofs.Ytbmpgaghcncfiaa

namespace Go.Proofs.Ytbmpgaghcncfiaa
open Go.Gv

def rchB (l s : Int) : Bool := cond (decide (l > 0)) (decide (w64 (w64 (s * s) * 65536) ≤ w64 (l * 65025))) false
theorem rch_ev (l s : Int) : ev Try.prog [] [] noL Try.f16 [iA l, iA s] ret = some (Out.of (bA (rchB l s))) := by kernel_rfl
theorem rch_spec (l s : Int) : FSpec Try.prog 16 [iA l, iA s] (bA (rchB l s)) := gspec e_nil k_nil Try.func16 (by kernel_rfl) (by kernel_rfl) noL_ok rfl (rch_ev l s)
def gRc (rf : Int → Int → Bool) : List AV → Option AV
  | [.x (.int .i64 l), .x (.int .i64 s)] => some (bA (rf l s))
  | _ => none
theorem gRc_ok : EOk Try.prog ⟨16, gRc rchB⟩ := fun args r hr => by
  simp only [gRc] at hr
  split at hr
  · cases hr; exact Or.inl (rch_spec _ _)
  · cases hr
def cshS (l s b : Int) : St := mkS 21 [(0, iA l), (3, iA s), (4, iA b)] []
section
variable (rf : Int → Int → Bool) (l s b : Int)
theorem csh_step : evC Try.prog [⟨16, gRc rf⟩] [] noL (loopAt Try.f10 0) (cshS l s b) (finN [0, 3, 4] []) = cond (decide (b > 0)) (cond (rf l (w64 (s + b))) (some ⟨.normal, cshS l (w64 (s + b)) (w64 (b.tdiv 2)), .any⟩) (some ⟨.normal, cshS l s (w64 (b.tdiv 2)), .any⟩)) none := by kernel_rfl
theorem csh_end : evC Try.prog [⟨16, gRc rf⟩] [] noL (loopAt Try.f10 0) (cshS l s b) (finE [0, 3, 4] []) = cond (decide (b > 0)) (cond (rf l (w64 (s + b))) none none) (some ⟨.exit 0, cshS l s b, .any⟩) := by kernel_rfl
end
noncomputable def cshL (l' s : Int) : Nat → Option LFun := oneL 4 (toldF [0, 3, 4] [] (cshS l' 0 128) (.exit 0) (cshS l' s 0))
def mnF (l : Int) : Int := if (65536 : Int) < l then 65536 else l
theorem csh_ev (l l' s : Int) : ev Try.prog [] [] (cshL l' s) Try.f10 [iA l] ret = gate (Sub (cshS (mnF l) 0 128) (cshS l' 0 128)) (some (Out.of (yA (IntKind.u8.wrap s)))) := by kernel_rfl
/-! ### What it finds -/
def bk : Nat → Int
  | 0 => 128
  | 1 => 64
  | 2 => 32
  | 3 => 16
  | 4 => 8
  | 5 => 4
  | 6 => 2
  | 7 => 1
  | _ => 0
def sk (l : Int) : Nat → Int
  | 0 => 0
  | k + 1 => cond (rchB l (sk l k + bk k)) (sk l k + bk k) (sk l k)
theorem eight {k : Nat} (h : k < 8) : k = 0 ∨ k = 1 ∨ k = 2 ∨ k = 3 ∨ k = 4 ∨ k = 5 ∨ k = 6 ∨ k = 7 := by omega
theorem bk_step {k : Nat} (h : k < 8) : decide (bk k > 0) = true ∧ w64 ((bk k).tdiv 2) = bk (k + 1) ∧ 0 < bk k ∧ bk k ≤ 128 := by
  rcases eight h with rfl | rfl | rfl | rfl | rfl | rfl | rfl | rfl <;> exact ⟨rfl, by decide, by decide, by decide⟩
/-- Twice the step. -/
def bt (k : Nat) : Int := match k with
  | 0 => 256
  | k + 1 => bk k
theorem bt_step {k : Nat} (h : k < 8) : bt k = 2 * bk k ∧ bt (k + 1) = bk k := by
  rcases eight h with rfl | rfl | rfl | rfl | rfl | rfl | rfl | rfl <;> exact ⟨by decide, rfl⟩
theorem sk_inv (l : Int) : ∀ k, k ≤ 8 → 0 ≤ sk l k ∧ sk l k ≤ 256 - bt k ∧ (sk l k = 0 ∨ rchB l (sk l k) = true) ∧ (sk l k + bt k = 256 ∨ rchB l (sk l k + bt k) = false)
  | 0, _ => ⟨Int.le_refl _, show (0 : Int) ≤ 256 - 256 by decide, Or.inl rfl, Or.inl rfl⟩
  | k + 1, hk => by
    obtain ⟨h1, h2, h3, h4⟩ := sk_inv l k (by omega)
    obtain ⟨e1, e2⟩ := bt_step (k := k) (by omega)
    obtain ⟨_, _, b0, _⟩ := bk_step (k := k) (by omega)
    have e3 : sk l (k + 1) = cond (rchB l (sk l k + bk k)) (sk l k + bk k) (sk l k) := rfl
    cases hr : rchB l (sk l k + bk k)
    · rw [e3, hr, e2, cond_false]
      exact ⟨h1, by omega, h3, Or.inr hr⟩
    · rw [e3, hr, e2, cond_true]
      refine ⟨by omega, by omega, Or.inr hr, ?_⟩
      rw [Int.add_assoc, show bk k + bk k = bt k by omega]
      exact h4
theorem csh_leads (l : Int) : Leads Try.prog (.loop (loopAt Try.f10 0)) (cshS l 0 128) (.exit 0) (cshS l (sk l 8) 0) := by
  refine loop_rule (fun k => cshS l (sk l k) (bk k)) 8 (.exit 0) _ (by simp) (fun k hk => ?_) ?_
  · obtain ⟨h1, h2, _, _⟩ := sk_inv l k (by omega)
    obtain ⟨b1, b2, b3, b4⟩ := bk_step hk
    obtain ⟨t1, _⟩ := bt_step hk
    refine leads_ev (finN_sub _ _) (e_cons gRc_ok e_nil) k_nil noL_ok ((csh_step rchB l (sk l k) (bk k)).trans ?_)
    have e3 : sk l (k + 1) = cond (rchB l (sk l k + bk k)) (sk l k + bk k) (sk l k) := rfl
    rw [b1, b2, w64_id (n := sk l k + bk k) (by omega) (by omega), e3]
    cases rchB l (sk l k + bk k) <;> rfl
  · exact leads_ev (finE_sub _ _) (e_cons gRc_ok e_nil) k_nil noL_ok (csh_end rchB l (sk l 8) 0)
theorem rch_eq {l s : Int} (hl : l ≤ 65536) (h0 : 0 ≤ s) (h1 : s ≤ 256) : rchB l s = (decide (l > 0) && decide (s * s * 65536 ≤ l * 65025)) := by
  unfold rchB
  by_cases h : l > 0
  · have hm := mulB (x := s) (y := s) (X := 256) (Y := 256) h0 h1 h0 h1
    rw [decide_eq_true h, w64_id (n := s * s) (by omega) (by omega), w64_id (n := s * s * 65536) (by omega) (by omega), w64_id (n := l * 65025) (by omega) (by omega)]
    rfl
  · rw [decide_eq_false h]
    rfl
theorem sk_sh (l : Int) : sk (mnF l) 8 = (shS l : Nat) := by
  obtain ⟨h1, h2, h3, h4⟩ := sk_inv (mnF l) 8 (Nat.le_refl _)
  have hb : bt 8 = 1 := rfl
  rw [hb] at h2 h4
  have hm : mnF l ≤ 65536 := by unfold mnF; split <;> omega
  generalize hs : sk (mnF l) 8 = s at h1 h2 h3 h4
  have e : s.toNat = shS l := by
    refine shS_of (by omega) ?_ ?_
    · rcases h3 with h3 | h3
      · exact Or.inl (by omega)
      · right
        rw [rch_eq hm h1 (by omega)] at h3
        simp only [Bool.and_eq_true, decide_eq_true_eq] at h3
        rw [Int.toNat_of_nonneg h1]
        have : mnF l ≤ l := by unfold mnF; split <;> omega
        omega
    · rcases h4 with h4 | h4
      · exact Or.inl (by omega)
      · rw [rch_eq hm (by omega) (by omega)] at h4
        simp only [Bool.and_eq_false_iff, decide_eq_false_iff_not] at h4
        rw [show ((s.toNat + 1 : Nat) : Int) = s + 1 by omega]
        have hq := mulB (x := 1) (y := 1) (X := s + 1) (Y := s + 1) (by omega) (by omega) (by omega) (by omega)
        by_cases hl : (65536 : Int) < l
        · have em : mnF l = 65536 := by unfold mnF; rw [if_pos hl]
          rw [em] at h4
          left
          rcases h4 with h4 | h4
          · omega
          · by_cases hc : s + 1 ≤ 255
            · have := mulB (x := s + 1) (y := s + 1) (X := 255) (Y := 255) (by omega) hc (by omega) hc
              omega
            · omega
        · have em : mnF l = l := by unfold mnF; rw [if_neg hl]
          rw [em] at h4
          right
          rcases h4 with h4 | h4
          · by_cases hl0 : l < 0
            · exact Or.inl hl0
            · right
              omega
          · right
            omega
  omega
theorem cshade_spec (l : Int) : FSpec Try.prog 10 [iA l] (yA (shS l : Nat)) := by
  have hL := lok_hd (c := bodyOf Try.f10) (i := 4) 0 (by kernel_rfl) (by kernel_rfl) (toldF_sound (keep := [0, 3, 4]) (τ := []) (csh_leads (mnF l)))
  refine gspec e_nil k_nil Try.func10 (by kernel_rfl) (by kernel_rfl) hL rfl ((csh_ev l (mnF l) (sk (mnF l) 8)).trans ?_)
  have := shS_le l
  rw [gate_pos (Sub.refl _), sk_sh, u8_id (by omega) (by omega)]
end Go.Proofs.Ytbmpgaghcncfiaa

namespace Go.Proofs.Ytbmpgaghcncfiaa
open Go.Gv

theorem shN_mono {a b : Int} (h : a ≤ b) (k : Nat) : shN a k ≤ shN b k := by
  by_cases ha : 0 ≤ a
  · refine shN_most (shN_le a k) ?_
    have := shN_has ha k
    omega
  · have : ∀ k, shN a k = 0 := fun k => by
      induction k with
      | zero => rfl
      | succ k ih =>
        unfold shN
        rw [if_neg, ih]
        have := mulB (x := ((k + 1 : Nat) : Int)) (y := ((k + 1 : Nat) : Int)) (X := ((k + 1 : Nat) : Int)) (Y := ((k + 1 : Nat) : Int)) (by omega) (by omega) (by omega) (by omega)
        omega
    rw [this k]
    exact Nat.zero_le _
theorem shS_mono {a b : Int} (h : a ≤ b) : shS a ≤ shS b := by
  unfold shS
  by_cases ha : a < 0
  · rw [if_pos ha]; exact Nat.zero_le _
  · rw [if_neg ha, if_neg (by omega)]
    exact shN_mono h 255
theorem shS_0 : shS 0 = 0 := (shS_of (b := 0) (by omega) (Or.inl rfl) (Or.inr (Or.inr (by decide)))).symm
theorem shS_full : shS 65536 = 255 := (shS_of (b := 255) (by omega) (Or.inr (by decide)) (Or.inl rfl)).symm
theorem shS_less : shS 65535 = 254 := (shS_of (b := 254) (by omega) (Or.inr (by decide)) (Or.inr (Or.inr (by decide)))).symm
def tsV (sf : Int → Int) (a b : Int) : Option Out := some (Out.of (bA (cond (cond (cond (decide (sf a ≤ sf b)) (sf 0 == 0) false) (sf 65536 == 255) false) (sf 65535 == 254) false)))
theorem ts_ev (sf : Int → Int) (a b : Int) : ev Try.prog [⟨10, gSh sf⟩] [] noL Try.f4 [iA a, iA b] ret = cond (decide (a > b)) (tsV sf b a) (tsV sf a b) := by kernel_rfl
theorem tsV_ok {a b : Int} (h : a ≤ b) : tsV (fun l => ((shS l : Nat) : Int)) a b = some (Out.of (bA true)) := by
  unfold tsV
  have := shS_mono h
  simp only
  rw [shS_0, shS_full, shS_less, decide_eq_true (show ((shS a : Nat) : Int) ≤ ((shS b : Nat) : Int) by omega)]
  rfl
theorem shade_law (ok : ∀ l : Int, FSpec Try.prog 10 [iA l] (yA (shS l : Nat))) (a b : Int) : FSpec Try.prog 4 [iA a, iA b] (bA true) := by
  refine gspec (e_cons (gSh_ok (sf := fun l => ((shS l : Nat) : Int)) ok) e_nil) k_nil Try.func4 (by kernel_rfl) (by kernel_rfl) noL_ok rfl ((ts_ev _ a b).trans ?_)
  by_cases h : a > b
  · rw [decide_eq_true h, cond_true, tsV_ok (by omega)]
  · rw [decide_eq_false h, cond_false, tsV_ok (by omega)]
end Go.Proofs.Ytbmpgaghcncfiaa
