/-
  Rl2 Rl3 Rl4 Ar3 Rk1 Rk2 Rk3, one behind the other.
-/
import Derived.Test.YtbmggfmifopddaaM2
import Derived.Test.YtbmggfmifopddaaGu
namespace Go.Proofs.Ytbmggfmifopddaa
open Go.Gv

def lEl (T : Nat → Int) (s : Nat → Int) : Nat → List AV := fun q => [iA (T q), iA (s 0), iA (s 1), iA (s 2)]
def lS (n : Nat) (T : Nat → Int) (X : Nat → Nat → Int) (t : Int) (s : Nat → Int) (i : Int) (m : Nat) (el : Nat → List AV) : St := mkS 132 [(0, kSl n T X), (1, iA t), (5, .own 0 0), (13, .osl 1 4 0 m), (14, iA i)] [.c (l3 s), .a 38 4 m el]
def keepL : List Nat := [0, 1, 5, 13, 14]
section
variable (n : Nat) (T : Nat → Int) (X : Nat → Nat → Int) (t : Int) (s : Nat → Int) (i : Int) (m : Nat) (el : Nat → List AV)
def lB : Bool := (ixB i n || false) && ((apB m 32 || false) && true)
theorem rn_step : evC Try.prog [] [] noL (loopAt Try.f4 2) (lS n T X t s i m el) (finN keepL [some 0, some 3]) =
    cond (decide (i < n)) (cond (lB n i m) (some ⟨.normal, lS n T X t s (w64 (i + 1)) (m + 1) (fun q => mixL (Nat.blt q m) (el q) [iA (T i.toNat), iA (s 0), iA (s 1), iA (s 2)]), .any⟩) none) none := by kernel_rfl
theorem rn_end : evC Try.prog [] [] noL (loopAt Try.f4 2) (lS n T X t s i m el) (finE keepL [some 0, some 1]) =
    cond (decide (i < n)) (cond (lB n i m) none none) (some ⟨.exit 4, lS n T X t s i m el, .any⟩) := by kernel_rfl
end
abbrev AF : Type := Nat → (Nat → List AV) → Int → Nat → Int
abbrev AE : Type := Nat → (Nat → List AV) → Int
def atG (fa : AF) (fe : AE) : List AV → AV
  | [.sl _ n el, .x (.int .i64 t)] => .tup [.agg (l3 (fa n el t)), iA (fe n el)]
  | _ => .any
def kmG (fe : AE) : List AV → AV
  | [.sl _ n el] => iA (fe n el)
  | _ => .any
abbrev ATok (fa : AF) (fe : AE) (n : Nat) (el : Nat → List AV) (t : Int) : Prop := FSpec Try.prog 8 [.sl 4 n el, iA t] (.tup [.agg (l3 (fa n el t)), iA (fe n el)])
abbrev MAok (fe : AE) (n : Nat) (el : Nat → List AV) : Prop := FSpec Try.prog 9 [.sl 4 n el] (iA (fe n el))
def eq3 (a s : Nat → Int) : Bool := (a 0 == s 0) && ((a 1 == s 1) && ((a 2 == s 2) && true))
noncomputable def ssQ (p : Prop) (N : Nat) : Bool := ((propB p && (Nat.ble (0 + N) N && true)) && (Nat.blt 0 (0 + N) && true)) || false
noncomputable def rlL (n : Nat) (T : Nat → Int) (X : Nat → Nat → Int) (t : Int) (s a : Nat → Int) : Nat → Option LFun := twoL 7 (toldF keepO two' (outS n T X t s a 0) (.exit 0) (outS n T X t s a 3)) 22 (toldN keepL [(13, 1, 4)] (.a 38 4 0 (lEl T s)) [some 0, none] (lS n T X t s 0 0 (lEl T s)) (.exit 4) (lS n T X t s (n : Nat) n (lEl T s)))
section
variable (fa : AF) (fe fm : AE) (n : Nat) (T : Nat → Int) (X : Nat → Nat → Int) (t : Int) (s : Nat → Int)
noncomputable def rlR : Option Out := gate (Sub (outS n T X t s (fa n (kEl T X) t) 0) (outS n T X t s (fa n (kEl T X) t) 0)) (gate (Sub (lS n T X t s 0 0 (lEl T s)) (lS n T X t s 0 0 (lEl T s)))
  (cond (ssQ (ATok fa fe n (fun i => lEl T s (0 + i)) t) n) (some (Out.of (bA (cond (!(fe n (fun i => lEl T s (0 + i)) == 0)) true (eq3 (fa n (fun i => lEl T s (0 + i)) t) s))))) none))
noncomputable def rlX (R : Option Out) : Option Out := cond (askB (ATok fa fe n (kEl T X) t)) (gate (MAok fm n (kEl T X)) (cond (!(fe n (kEl T X) == fm n (kEl T X))) (some (Out.of (bA false))) (cond (!(fe n (kEl T X) == 0)) (some (Out.of (bA (eq3 (fa n (kEl T X) t) fun _ => 0)))) R))) none
theorem rl_ev : evM Try.prog [] [kS Try.prog 9 (kmG fm)] [mS Try.prog 8 (atG fa fe)] (rlL n T X t s (fa n (kEl T X) t)) Try.f4 [kSl n T X, iA t, .agg (l3 s)] ret = rlX fa fe fm n T X t (rlR fa fe n T X t s) := by kernel_rfl
theorem rl_ev0 : evM Try.prog [] [kS Try.prog 9 (kmG fm)] [mS Try.prog 8 (atG fa fe)] (oneL 7 fun _ _ => none) Try.f4 [kSl n T X, iA t, .agg (l3 s)] ret = rlX fa fe fm n T X t none := by kernel_rfl
end
end Go.Proofs.Ytbmggfmifopddaa

namespace Go.Proofs.Ytbmggfmifopddaa
open Go.Gv

section
variable (T : Nat → Int) (X : Nat → Nat → Int)
/-- What is wrong with a key. -/
def kbad (i : Nat) : Int := cond (decide (T i < 0) || (decide (T i > 1000000) || (decide (0 < i) && decide (T i ≤ T (i - 1))))) 6 (cond (allI 3 fun c => decide (-1000000 ≤ X i c) && decide (X i c ≤ 1000000)) 0 1)
def kmF : Nat → Int
  | 0 => 0
  | i + 1 => cond (kmF i == 0) (kbad T X i) (kmF i)
def kmay (n : Nat) : Int := cond (decide (n < 1) || decide (32 < n)) 5 (kmF T X n)
def ipV (t : Int) (c k : Nat) : Int := X k c + (2 * (X (k + 1) c - X k c) * (t - T k) + (T (k + 1) - T k)) / (2 * (T (k + 1) - T k))
def katR (n : Nat) (t : Int) (c : Nat) : Nat → Nat → Int
  | 0, _ => X (n - 1) c
  | f + 1, i => cond (decide (t < T i)) (ipV T X t c (i - 1)) (katR n t c f (i + 1))
def kat0 (n : Nat) (t : Int) (c : Nat) : Int := cond (decide (t ≤ T 0)) (X 0 c) (katR T X n t c (n - 1) 1)
def kat (n : Nat) (t : Int) (c : Nat) : Int := cond (kmay T X n == 0) (kat0 T X n t c) 0
end
structure KOkK (n : Nat) (T : Nat → Int) : Prop where
  n1 : 1 ≤ n
  n32 : n ≤ 32
  up : ∀ i, i + 1 < n → T i < T (i + 1)
theorem kmF_zero {T : Nat → Int} {X : Nat → Nat → Int} : ∀ n, kmF T X n = 0 → ∀ i, i < n → kbad T X i = 0
  | 0, _, i, hi => absurd hi (Nat.not_lt_zero i)
  | n + 1, h, i, hi => by
    have h : cond (kmF T X n == 0) (kbad T X n) (kmF T X n) = 0 := h
    by_cases h0 : kmF T X n = 0
    · rw [h0] at h
      have h : kbad T X n = 0 := h
      by_cases hin : i = n
      · subst hin; exact h
      · exact kmF_zero n h0 i (by omega)
    · rw [beq_false_of_ne h0] at h
      exact absurd h h0
theorem kmay_zero {n : Nat} {T : Nat → Int} {X : Nat → Nat → Int} (h : kmay T X n = 0) : KOkK n T := by
  unfold kmay at h
  by_cases h1 : n < 1
  · rw [decide_eq_true h1] at h; cases h
  · by_cases h2 : 32 < n
    · rw [decide_eq_false h1, decide_eq_true h2] at h; cases h
    · rw [decide_eq_false h1, decide_eq_false h2] at h
      have h : kmF T X n = 0 := h
      refine ⟨by omega, by omega, fun i hi => ?_⟩
      have hb := kmF_zero n h (i + 1) hi
      unfold kbad at hb
      by_cases hc : T (i + 1) ≤ T i
      · rw [show i + 1 - 1 = i by omega, decide_eq_true hc, decide_eq_true (show 0 < i + 1 by omega)] at hb
        simp at hb
      · omega
theorem up_lt {n : Nat} {T : Nat → Int} (h : KOkK n T) : ∀ {i j : Nat}, i < j → j < n → T i < T j := fun {i j} hij hj => by
  induction j with
  | zero => omega
  | succ j ih =>
    have h1 := h.up j hj
    by_cases e : i = j
    · subst e; exact h1
    · have := ih (by omega) (by omega)
      omega
/-- At a key, or between two. -/
def AtKey (n : Nat) (T : Nat → Int) (X : Nat → Nat → Int) (t : Int) (c : Nat) (v : Int) : Prop :=
  (∃ k, k < n ∧ v = X k c ∧ ∀ j, j < n → T j = t → j = k) ∨ ∃ k, k + 1 < n ∧ T k ≤ t ∧ t < T (k + 1) ∧ v = ipV T X t c k
theorem katR_at {n : Nat} {T : Nat → Int} {X : Nat → Nat → Int} (h : KOkK n T) {t : Int} {c : Nat} : ∀ f i, i + f = n → 1 ≤ i → (∀ j, j < i → T j ≤ t) → AtKey n T X t c (katR T X n t c f i)
  | 0, i, hi, h1, hj => Or.inl ⟨n - 1, by omega, rfl, fun j hjn e => by
      by_cases ej : j = n - 1
      · exact ej
      · have := up_lt h (show j < n - 1 by omega) (by omega)
        have := hj (n - 1) (by omega)
        omega⟩
  | f + 1, i, hi, h1, hj => by
    show AtKey n T X t c (cond (decide (t < T i)) (ipV T X t c (i - 1)) (katR T X n t c f (i + 1)))
    by_cases ht : t < T i
    · rw [decide_eq_true ht]
      refine Or.inr ⟨i - 1, by omega, hj _ (by omega), ?_, rfl⟩
      rw [show i - 1 + 1 = i by omega]; exact ht
    · rw [decide_eq_false ht]
      refine katR_at h f (i + 1) (by omega) (by omega) fun j hj' => ?_
      by_cases e : j = i
      · subst e; omega
      · exact hj j (by omega)
theorem kat0_at {n : Nat} {T : Nat → Int} {X : Nat → Nat → Int} (h : KOkK n T) (t : Int) (c : Nat) : AtKey n T X t c (kat0 T X n t c) := by
  have := h.n1
  unfold kat0
  by_cases ht : t ≤ T 0
  · rw [decide_eq_true ht]
    refine Or.inl ⟨0, by omega, rfl, fun j hj e => ?_⟩
    by_cases ej : j = 0
    · exact ej
    · have := up_lt h (show 0 < j by omega) hj
      omega
  · rw [decide_eq_false ht]
    refine katR_at h (n - 1) 1 (by omega) (by omega) fun j hj => ?_
    have : j = 0 := by omega
    subst this; omega
theorem ip_bounds {D s S : Int} (hs : 0 ≤ s) (hS : s < S) : (0 ≤ D → 0 ≤ (2 * D * s + S) / (2 * S) ∧ (2 * D * s + S) / (2 * S) ≤ D) ∧ (D ≤ 0 → D ≤ (2 * D * s + S) / (2 * S) ∧ (2 * D * s + S) / (2 * S) ≤ 0) := by
  have h2 : (0 : Int) < 2 * S := by omega
  have e : 2 * D * s = 2 * (D * s) := Int.mul_assoc 2 D s
  have eS : D * (2 * S) = 2 * (D * S) := by rw [Int.mul_left_comm]
  constructor
  · intro hD
    have a := Int.mul_nonneg hD hs
    have b := Int.mul_le_mul_of_nonneg_left (Int.le_of_lt hS) hD
    constructor
    · exact Int.ediv_nonneg (by omega) (by omega)
    · refine Int.lt_add_one_iff.1 (Int.ediv_lt_of_lt_mul h2 ?_)
      rw [Int.add_mul, Int.one_mul, eS]
      omega
  · intro hD
    have a := Int.mul_nonneg (show 0 ≤ -D by omega) hs
    have b := Int.mul_le_mul_of_nonneg_left (Int.le_of_lt hS) (show 0 ≤ -D by omega)
    rw [Int.neg_mul] at a
    rw [Int.neg_mul, Int.neg_mul] at b
    constructor
    · refine (Int.le_ediv_iff_mul_le h2).2 ?_
      rw [eS]
      omega
    · refine Int.lt_add_one_iff.1 (Int.ediv_lt_of_lt_mul h2 ?_)
      omega
theorem ip_zero {s S D : Int} (hS : 0 < S) (h : D * s = 0) : (2 * D * s + S) / (2 * S) = 0 := by
  rw [Int.mul_assoc, h, Int.mul_zero, Int.zero_add]
  exact Int.ediv_eq_zero_of_lt (by omega) (by omega)
theorem at_key {n : Nat} {T : Nat → Int} {X : Nat → Nat → Int} {t v : Int} {c : Nat} (h : KOkK n T) (ha : AtKey n T X t c v) {i : Nat} (hi : i < n) (ht : T i = t) : v = X i c := by
  rcases ha with ⟨k, hk, e, hu⟩ | ⟨k, hk, h1, h2, e⟩
  · rw [e, hu i hi ht]
  · have : i = k := by
      by_cases h3 : i < k
      · have := up_lt h h3 (by omega); omega
      · by_cases h4 : k + 1 ≤ i
        · by_cases h5 : i = k + 1
          · subst h5; omega
          · have := up_lt h (show k + 1 < i by omega) hi; omega
        · omega
    subst this
    rw [e]
    unfold ipV
    rw [ip_zero (by omega) (by rw [← ht, Int.sub_self, Int.mul_zero])]
    omega
theorem at_between {n : Nat} {T : Nat → Int} {X : Nat → Nat → Int} {t v lo hi : Int} {c : Nat} (ha : AtKey n T X t c v) (hl : ∀ i, i < n → lo ≤ X i c ∧ X i c ≤ hi) : lo ≤ v ∧ v ≤ hi := by
  rcases ha with ⟨k, hk, e, _⟩ | ⟨k, hk, h1, h2, e⟩
  · rw [e]; exact hl k hk
  · obtain ⟨a1, a2⟩ := hl k (by omega)
    obtain ⟨b1, b2⟩ := hl (k + 1) hk
    obtain ⟨p, q⟩ := ip_bounds (D := X (k + 1) c - X k c) (s := t - T k) (S := T (k + 1) - T k) (by omega) (by omega)
    rw [e]
    unfold ipV
    by_cases hD : 0 ≤ X (k + 1) c - X k c
    · obtain ⟨x, y⟩ := p hD; omega
    · obtain ⟨x, y⟩ := q (by omega); omega
end Go.Proofs.Ytbmggfmifopddaa

namespace Go.Proofs.Ytbmggfmifopddaa
open Go.Gv

def loV (X : Nat → Nat → Int) (c : Nat) : Nat → Int
  | 0 => X 0 c
  | i + 1 => mnI (loV X c i) (X i c)
def hiV (X : Nat → Nat → Int) (c : Nat) : Nat → Int
  | 0 => X 0 c
  | i + 1 => mxI (hiV X c i) (X i c)
theorem lo_hi {X : Nat → Nat → Int} {c : Nat} : ∀ {n i : Nat}, i < n → loV X c n ≤ X i c ∧ X i c ≤ hiV X c n
  | 0, i, h => absurd h (Nat.not_lt_zero i)
  | n + 1, i, h => by
    show mnI (loV X c n) (X n c) ≤ _ ∧ _ ≤ mxI (hiV X c n) (X n c)
    unfold mnI mxI
    by_cases e : i = n
    · subst e
      split <;> split <;> omega
    · obtain ⟨a, b⟩ := lo_hi (X := X) (c := c) (show i < n by omega)
      split <;> split <;> omega
theorem rC_in {n : Nat} {T : Nat → Int} {X : Nat → Nat → Int} {t : Int} {a : Nat → Int} {i q : Nat} (hi : i < n) (hk : T i = t → a q = X i q) {o o' e : Option Out} : rC n T X t a (i : Nat) q o o' e = o := by
  unfold rC
  rw [dec_lt hi, ixB_t hi, Int.toNat_natCast]
  by_cases h : T i = t
  · rw [hk h, h, BEq.rfl, BEq.rfl]; rfl
  · rw [beq_false_of_ne h]; rfl
theorem rl_leads0 {n : Nat} (hn : n ≤ 32) (T : Nat → Int) (X : Nat → Nat → Int) (t : Int) (s a : Nat → Int) (hk : ∀ i, i < n → T i = t → a 0 = X i 0) : Leads Try.prog (.loop (loopAt Try.f4 1)) (rS n T X t s a 0 (X 0 0) (X 0 0) 0) (.exit 2) (rS n T X t s a (n : Nat) (loV X 0 n) (hiV X 0 n) 0) := by
  refine loop_rule (fun i => rS n T X t s a (i : Nat) (loV X 0 i) (hiV X 0 i) 0) n (.exit 2) _ (by simp) (fun i hi => ?_) ?_
  · refine leads_ev (finN_sub _ _) e_nil k_nil noL_ok ((rl_step0 n T X t s a (i : Nat) _ _).trans ?_)
    rw [rC_in hi (hk i hi), w64_next (by omega), Int.toNat_natCast]
    rfl
  · refine leads_ev (finE_sub _ _) e_nil k_nil noL_ok ((rl_end0 n T X t s a (n : Nat) _ _).trans ?_)
    unfold rC
    rw [dec_self, cond_false]
theorem rl_leads1 {n : Nat} (hn : n ≤ 32) (T : Nat → Int) (X : Nat → Nat → Int) (t : Int) (s a : Nat → Int) (hk : ∀ i, i < n → T i = t → a 1 = X i 1) : Leads Try.prog (.loop (loopAt Try.f4 1)) (rS n T X t s a 0 (X 0 1) (X 0 1) 1) (.exit 2) (rS n T X t s a (n : Nat) (loV X 1 n) (hiV X 1 n) 1) := by
  refine loop_rule (fun i => rS n T X t s a (i : Nat) (loV X 1 i) (hiV X 1 i) 1) n (.exit 2) _ (by simp) (fun i hi => ?_) ?_
  · refine leads_ev (finN_sub _ _) e_nil k_nil noL_ok ((rl_step1 n T X t s a (i : Nat) _ _).trans ?_)
    rw [rC_in hi (hk i hi), w64_next (by omega), Int.toNat_natCast]
    rfl
  · refine leads_ev (finE_sub _ _) e_nil k_nil noL_ok ((rl_end1 n T X t s a (n : Nat) _ _).trans ?_)
    unfold rC
    rw [dec_self, cond_false]
theorem rl_leads2 {n : Nat} (hn : n ≤ 32) (T : Nat → Int) (X : Nat → Nat → Int) (t : Int) (s a : Nat → Int) (hk : ∀ i, i < n → T i = t → a 2 = X i 2) : Leads Try.prog (.loop (loopAt Try.f4 1)) (rS n T X t s a 0 (X 0 2) (X 0 2) 2) (.exit 2) (rS n T X t s a (n : Nat) (loV X 2 n) (hiV X 2 n) 2) := by
  refine loop_rule (fun i => rS n T X t s a (i : Nat) (loV X 2 i) (hiV X 2 i) 2) n (.exit 2) _ (by simp) (fun i hi => ?_) ?_
  · refine leads_ev (finN_sub _ _) e_nil k_nil noL_ok ((rl_step2 n T X t s a (i : Nat) _ _).trans ?_)
    rw [rC_in hi (hk i hi), w64_next (by omega), Int.toNat_natCast]
    rfl
  · refine leads_ev (finE_sub _ _) e_nil k_nil noL_ok ((rl_end2 n T X t s a (n : Nat) _ _).trans ?_)
    unfold rC
    rw [dec_self, cond_false]
theorem ro_leads {n : Nat} {T : Nat → Int} {X : Nat → Nat → Int} {t : Int} (s : Nat → Int) {a : Nat → Int} (ok : KOkK n T) (ha : ∀ c, AtKey n T X t c (a c)) : Leads Try.prog (.loop (loopAt Try.f4 0)) (outS n T X t s a 0) (.exit 0) (outS n T X t s a 3) := by
  have hn := ok.n32
  have n1 := ok.n1
  have i0 : ixB 0 n = true := ixB_t (i := 0) (by omega)
  refine loop_rule (fun c => outS n T X t s a (c : Nat)) 3 (.exit 0) _ (by simp) (fun c hc => ?_) (leads_ev (finE_sub _ _) e_nil k_nil noL_ok (ro_end n T X t s a))
  have : c = 0 ∨ c = 1 ∨ c = 2 := by omega
  rcases this with rfl | rfl | rfl
  · have hl := rl_leads0 hn T X t s a fun i hi ht => at_key ok (ha 0) hi ht
    have hL := lok_hd (c := loopAt Try.f4 0) (i := 12) 0 (by kernel_rfl) (by kernel_rfl) (toldF_sound (keep := keepR) (τ := two') hl)
    obtain ⟨b1, b2⟩ := at_between (ha 0) (lo := loV X 0 n) (hi := hiV X 0 n) fun i hi => lo_hi (X := X) (c := 0) hi
    refine leads_ev (finN_sub _ _) e_nil k_nil hL ((ro_step0 n T X t s a (n : Nat) (loV X 0 n) (hiV X 0 n)).trans ?_)
    rw [i0, gate_pos (Sub.refl _), decide_eq_false (show ¬ a 0 < loV X 0 n by omega), decide_eq_false (show ¬ a 0 > hiV X 0 n by omega)]
    rfl
  · have hl := rl_leads1 hn T X t s a fun i hi ht => at_key ok (ha 1) hi ht
    have hL := lok_hd (c := loopAt Try.f4 0) (i := 12) 0 (by kernel_rfl) (by kernel_rfl) (toldF_sound (keep := keepR) (τ := two') hl)
    obtain ⟨b1, b2⟩ := at_between (ha 1) (lo := loV X 1 n) (hi := hiV X 1 n) fun i hi => lo_hi (X := X) (c := 1) hi
    refine leads_ev (finN_sub _ _) e_nil k_nil hL ((ro_step1 n T X t s a (n : Nat) (loV X 1 n) (hiV X 1 n)).trans ?_)
    rw [i0, gate_pos (Sub.refl _), decide_eq_false (show ¬ a 1 < loV X 1 n by omega), decide_eq_false (show ¬ a 1 > hiV X 1 n by omega)]
    rfl
  · have hl := rl_leads2 hn T X t s a fun i hi ht => at_key ok (ha 2) hi ht
    have hL := lok_hd (c := loopAt Try.f4 0) (i := 12) 0 (by kernel_rfl) (by kernel_rfl) (toldF_sound (keep := keepR) (τ := two') hl)
    obtain ⟨b1, b2⟩ := at_between (ha 2) (lo := loV X 2 n) (hi := hiV X 2 n) fun i hi => lo_hi (X := X) (c := 2) hi
    refine leads_ev (finN_sub _ _) e_nil k_nil hL ((ro_step2 n T X t s a (n : Nat) (loV X 2 n) (hiV X 2 n)).trans ?_)
    rw [i0, gate_pos (Sub.refl _), decide_eq_false (show ¬ a 2 < loV X 2 n by omega), decide_eq_false (show ¬ a 2 > hiV X 2 n by omega)]
    rfl
theorem rn_leads {n : Nat} (hn : n ≤ 32) (T : Nat → Int) (X : Nat → Nat → Int) (t : Int) (s : Nat → Int) : Leads Try.prog (.loop (loopAt Try.f4 2)) (lS n T X t s 0 0 (lEl T s)) (.exit 4) (lS n T X t s (n : Nat) n (lEl T s)) := by
  refine loop_rule (fun i => lS n T X t s (i : Nat) i (lEl T s)) n (.exit 4) _ (by simp) (fun i hi => ?_) ?_
  · have st := rn_step n T X t s (i : Nat) i (lEl T s)
    have hB : lB n (i : Nat) i = true := by unfold lB; rw [ixB_t hi, apB_t (by omega)]; rfl
    rw [dec_lt hi, hB, w64_next (by omega), Int.toNat_natCast] at st
    refine (leads_ev (finN_sub _ _) e_nil k_nil noL_ok st).sub (Sub.refl _) ?_
    refine sub_same ⟨Or.inl rfl, Or.inr ⟨38, 4, i + 1, _, _, rfl, rfl, fun q hq => ?_⟩, trivial⟩
    by_cases e : q < i
    · rw [blt_t e]; unfold lEl iA; simp only [mixL, mixA, decide_true, cond_true]
    · have : q = i := by omega
      subst this
      cases hb : Nat.blt q q
      · unfold lEl iA; simp only [mixL, mixA, decide_true, cond_true, cond_false]
      · exact absurd (Nat.le_of_ble_eq_true hb) (by omega)
  · refine leads_ev (finE_sub _ _) e_nil k_nil noL_ok ((rn_end n T X t s (n : Nat) n (lEl T s)).trans ?_)
    rw [dec_self, cond_false]
/-- What the code gives. -/
structure ReelOk : Prop where
  may : ∀ (n : Nat) (T : Nat → Int) (X : Nat → Nat → Int), FSpec Try.prog 9 [kSl n T X] (iA (kmay T X n))
  at' : ∀ (n : Nat) (T : Nat → Int) (X : Nat → Nat → Int) (t : Int), FSpec Try.prog 8 [kSl n T X, iA t] (.tup [.agg (l3 (kat T X n t)), iA (kmay T X n)])
def k1 : AV → Int
  | .x (.int .i64 n) => n
  | _ => 0
def tOf (el : Nat → List AV) (i : Nat) : Int := k1 ((el i).getD 0 .any)
def xOf (el : Nat → List AV) (i c : Nat) : Int := k1 ((el i).getD (c + 1) .any)
def faE : AF := fun n el t => kat (tOf el) (xOf el) n t
def feE : AE := fun n el => kmay (tOf el) (xOf el) n
theorem reel_law0 (ok : ReelOk) (n : Nat) (T : Nat → Int) (X : Nat → Nat → Int) (hX : xOf (kEl T X) = X) (t : Int) (s : Nat → Int) : FSpec Try.prog 4 [kSl n T X, iA t, .agg (l3 s)] (bA true) := by
  have eT : tOf (kEl T X) = T := rfl
  have ea : faE n (kEl T X) t = kat T X n t := by unfold faE; rw [eT, hX]
  have ee : feE n (kEl T X) = kmay T X n := by unfold feE; rw [eT, hX]
  have hA : ATok faE feE n (kEl T X) t := by
    show FSpec _ _ _ (.tup [.agg (l3 (faE n (kEl T X) t)), iA (feE n (kEl T X))])
    rw [ea, ee]
    exact ok.at' n T X t
  have hM : MAok feE n (kEl T X) := by
    show FSpec _ _ _ (iA (feE n (kEl T X)))
    rw [ee]
    exact ok.may n T X
  have ks := k_cons (kS_ok (P := Try.prog) (f := 9) (g := kmG feE)) k_nil
  have ms := m_cons (mS_ok (P := Try.prog) (f := 8) (g := atG faE feE)) m_nil
  by_cases h : kmay T X n = 0
  · have kk := kmay_zero h
    have hn := kk.n32
    have n1 := kk.n1
    have hat : ∀ c, AtKey n T X t c (faE n (kEl T X) t c) := fun c => by
      rw [ea]
      have : kat T X n t c = kat0 T X n t c := by unfold kat; rw [h]; rfl
      rw [this]
      exact kat0_at kk t c
    have L1 := lok_at (c := bodyOf Try.f4) (i := 7) 0 3 (by kernel_rfl) (by kernel_rfl) (toldF_sound (keep := keepO) (τ := two') (ro_leads s kk hat))
    have L2 := lok_at (c := bodyOf Try.f4) (i := 22) 2 3 (by kernel_rfl) (by kernel_rfl) (toldN_sound (keep := keepL) (nils := [(13, 1, 4)]) (nr := .a 38 4 0 (lEl T s)) (τ := [some 0, none]) (rn_leads hn T X t s))
    have eL : (fun i => lEl T s (0 + i)) = lEl T s := funext fun i => by rw [Nat.zero_add]
    have hB : ATok faE feE n (lEl T s) t := ok.at' n T (xOf (lEl T s)) t
    refine gspecM e_nil ks ms Try.func4 (by kernel_rfl) (by kernel_rfl) (lok_two L1 L2) rfl ((rl_ev faE feE feE n T X t s).trans ?_)
    unfold rlX rlR
    rw [askB_t hA, gate_pos hM, eL, gate_pos (Sub.refl _), gate_pos (Sub.refl _), ee, h, BEq.rfl]
    have hS : ssQ (ATok faE feE n (lEl T s) t) n = true := by unfold ssQ; rw [propB_t hB, ble_t (by omega), blt_t (by omega)]; rfl
    rw [hS]
    have fin : cond (!(feE n (lEl T s) == 0)) true (eq3 (faE n (lEl T s) t) s) = true := by
      by_cases h2 : feE n (lEl T s) = 0
      · rw [h2]
        have kk2 : KOkK n T := kk
        have h2' : kmay T (xOf (lEl T s)) n = 0 := h2
        have hv : ∀ c, (∀ i, i < n → xOf (lEl T s) i c = s c) → faE n (lEl T s) t c = s c := fun c hc => by
          have e1 : faE n (lEl T s) t c = kat0 T (xOf (lEl T s)) n t c := by
            show kat T (xOf (lEl T s)) n t c = _
            unfold kat; rw [h2']; rfl
          have := at_between (lo := s c) (hi := s c) (kat0_at (X := xOf (lEl T s)) kk2 t c) fun i hi => by rw [hc i hi]; omega
          rw [e1]
          omega
        have v0 := hv 0 fun i _ => rfl
        have v1 := hv 1 fun i _ => rfl
        have v2 := hv 2 fun i _ => rfl
        unfold eq3
        rw [v0, v1, v2]
        simp only [BEq.rfl]
        rfl
      · rw [beq_false_of_ne h2]; rfl
    rw [fin]
    rfl
  · refine gspecM e_nil ks ms Try.func4 (by kernel_rfl) (by kernel_rfl) (lok_none 7) rfl ((rl_ev0 faE feE feE n T X t s).trans ?_)
    have hz : ∀ c, faE n (kEl T X) t c = 0 := fun c => by rw [ea]; unfold kat; rw [beq_false_of_ne h]; rfl
    unfold rlX eq3
    rw [askB_t hA, gate_pos hM, ee, BEq.rfl, beq_false_of_ne h, hz 0, hz 1, hz 2]
    rfl
theorem reel_law (ok : ReelOk) (n : Nat) (T : Nat → Int) (X : Nat → Nat → Int) (t : Int) (s : Nat → Int) : FSpec Try.prog 4 [kSl n T X, iA t, .agg (l3 s)] (bA true) :=
  reel_law0 ok n T (xOf (kEl T X)) (funext fun _ => funext fun c => match c with | 0 => rfl | 1 => rfl | 2 => rfl | _ + 3 => rfl) t s
end Go.Proofs.Ytbmggfmifopddaa

namespace Go.Proofs.Ytbmggfmifopddaa
open Go.Gv Go.RowKit Go.ChangeShapes Go.WideShapes Go.ChangeAt

theorem fit_keys {E : Env} {a : AV} {v : Value} (h : fitA (.l 4 [.i .i64, .i .i64, .i .i64, .i .i64]) a) (hr : rel E a v) : ∃ n T X, n ≤ maxLen ∧ rel E (kSl n T X) v := by
  rw [fitA] at h
  obtain ⟨n, el, rfl, hn, hel⟩ := h
  refine ⟨n, tOf el, xOf el, hn, sl_like hr fun i hi => ?_⟩
  obtain ⟨x, y, z, u, e, h0, h1, h2, h3⟩ := fitL_n4 (hel i hi)
  obtain ⟨a0, rfl, _⟩ := fit_iw h0
  obtain ⟨a1, rfl, _⟩ := fit_iw h1
  obtain ⟨a2, rfl, _⟩ := fit_iw h2
  obtain ⟨a3, rfl, _⟩ := fit_iw h3
  unfold kEl tOf xOf
  rw [e]
  rfl
theorem open_keys {H : Type} {enc : TypeId × Value → H} {P : Program} {w : World} {r : Reach} {b0 : Nat} {t e : TypeId} {v : Value} {d : DataW H} {p : List MemPlace} (hu : P.underlying t = some (.slice e)) (hk : kds P 6 t = some [.l 4 [.i .i64, .i .i64, .i .i64, .i .i64]]) (hv : Value.okWide P w r b0 t v)
    (h : DataW.Trod enc P w 0 (fun _ => true) true t v d p) : ∃ n T X, n ≤ maxLen ∧ rel (Env.all w) (kSl n T X) v := by
  have hone : v.cells = #[v] := by
    obtain ⟨a, len, cap, rfl⟩ := okWide_slice hu hv
    rfl
  obtain ⟨fuel, hf⟩ := h
  obtain ⟨a, h1, h2⟩ := open_arg hf hk hone
  exact fit_keys h1 h2
end Go.Proofs.Ytbmggfmifopddaa

namespace Go.Proofs.Ytbmggfmifopddaa
open Go.Gv

def dwV (n d : Int) : Int := cond (decide (n.tmod d < 0)) (w64 (w64 (n.tdiv d) - 1)) (w64 (n.tdiv d))
theorem dw_ev (n d : Int) : ev Try.prog [] [] noL Try.f16 [iA n, iA d] ret =
    cond ((!(d == 0)) && true) (cond (decide (n.tmod d < 0)) (cond ((!(d == 0)) && true) (some (Out.of (iA (w64 (w64 (n.tdiv d) - 1))))) none) (cond ((!(d == 0)) && true) (some (Out.of (iA (w64 (n.tdiv d))))) none)) none := by kernel_rfl
theorem dw_spec {n d : Int} (hd : d ≠ 0) : FSpec Try.prog 16 [iA n, iA d] (iA (dwV n d)) := by
  refine gspec e_nil k_nil Try.func16 (by kernel_rfl) (by kernel_rfl) noL_ok rfl ((dw_ev n d).trans ?_)
  rw [beq_false_of_ne hd]
  unfold dwV
  cases decide (n.tmod d < 0) <;> rfl
def dwG (f : Int → Int → Int) : List AV → AV
  | [.x (.int .i64 n), .x (.int .i64 d)] => iA (f n d)
  | _ => .any
theorem ne_ev (f : Int → Int → Int) (n d : Int) : ev Try.prog [] [kS Try.prog 16 (dwG f)] noL Try.f15 [iA n, iA d] ret =
    gate (FSpec Try.prog 16 [iA (w64 (w64 (2 * n) + d)), iA (w64 (2 * d))] (iA (f (w64 (w64 (2 * n) + d)) (w64 (2 * d))))) (some (Out.of (iA (f (w64 (w64 (2 * n) + d)) (w64 (2 * d)))))) := by kernel_rfl
def neV (n d : Int) : Int := (2 * n + d) / (2 * d)
theorem dwV_eq {n d : Int} (hd : 0 < d) (h0 : -4000000000000000000 ≤ n) (h1 : n ≤ 4000000000000000000) : dwV n d = n / d := by
  unfold dwV
  by_cases hn : 0 ≤ n
  · have e1 : n.tmod d = n % d := Int.tmod_eq_emod_of_nonneg hn
    have e2 : n.tdiv d = n / d := Int.tdiv_eq_ediv_of_nonneg hn
    have a := Int.emod_nonneg n (show d ≠ 0 by omega)
    have b := Int.ediv_nonneg hn (show 0 ≤ d by omega)
    have c := Int.ediv_le_self d hn
    rw [e1, e2, decide_eq_false (by omega), cond_false, w64_id (by omega) (by omega)]
  · have e1 : n.tmod d = -((-n) % d) := by rw [← Int.tmod_eq_emod_of_nonneg (show 0 ≤ -n by omega), Int.neg_tmod, Int.neg_neg]
    have e2 : n.tdiv d = -((-n) / d) := by rw [← Int.tdiv_eq_ediv_of_nonneg (show 0 ≤ -n by omega), Int.neg_tdiv, Int.neg_neg]
    have a := Int.emod_nonneg (-n) (show d ≠ 0 by omega)
    have a' := Int.emod_lt_of_pos (-n) hd
    have b := Int.ediv_nonneg (show 0 ≤ -n by omega) (show 0 ≤ d by omega)
    have c := Int.ediv_le_self d (show 0 ≤ -n by omega)
    have m := Int.mul_ediv_add_emod (-n) d
    rw [e1, e2]
    generalize hq : (-n) / d = q at *
    generalize hr : (-n) % d = r at *
    by_cases hz : r = 0
    · subst hz
      rw [decide_eq_false (by omega), cond_false, w64_id (by omega) (by omega)]
      symm
      refine (Int.ediv_eq_iff_of_pos hd).2 ?_
      have : d * -q = -(d * q) := Int.mul_neg d q
      constructor <;> grind
    · rw [decide_eq_true (by omega), cond_true, w64_id (n := -q) (by omega) (by omega), w64_id (by omega) (by omega)]
      symm
      refine (Int.ediv_eq_iff_of_pos hd).2 ?_
      constructor <;> grind
theorem ne_spec {n d : Int} (hd : 0 < d) (hd1 : d ≤ 1000000) (h0 : -2000000000000 ≤ n) (h1 : n ≤ 2000000000000) : FSpec Try.prog 15 [iA n, iA d] (iA (neV n d)) := by
  refine gspec e_nil (k_cons (kS_ok (P := Try.prog) (f := 16) (g := dwG dwV)) k_nil) Try.func15 (by kernel_rfl) (by kernel_rfl) noL_ok rfl ((ne_ev dwV n d).trans ?_)
  rw [w64_id (n := 2 * n) (by omega) (by omega), w64_id (n := 2 * n + d) (by omega) (by omega), w64_id (n := 2 * d) (by omega) (by omega), gate_pos (dw_spec (by omega)), dwV_eq (by omega) (by omega) (by omega)]
  rfl
/-! ### Near -/
def nrB (x : Int) : Bool := cond (decide (x < -1000000)) true (decide (x > 1000000))
def nrV (x y z : Int) : Bool := cond (nrB x) false (cond (nrB y) false (cond (nrB z) false true))
theorem nr_ev (x y z : Int) : ev Try.prog [] [] noL Try.f14 [.agg [iA x, iA y, iA z]] ret =
    cond (nrB x) (some (Out.of (bA false))) (cond (nrB y) (some (Out.of (bA false))) (cond (nrB z) (some (Out.of (bA false))) (some (Out.of (bA true))))) := by kernel_rfl
theorem nr_spec (x y z : Int) : FSpec Try.prog 14 [.agg [iA x, iA y, iA z]] (bA (nrV x y z)) := by
  refine gspec e_nil k_nil Try.func14 (by kernel_rfl) (by kernel_rfl) noL_ok rfl ((nr_ev x y z).trans ?_)
  unfold nrV
  cases nrB x <;> cases nrB y <;> cases nrB z <;> rfl
def nrG (f : Int → Int → Int → Bool) : List AV → Option AV
  | [.agg [.x (.int .i64 x), .x (.int .i64 y), .x (.int .i64 z)]] => some (bA (f x y z))
  | _ => none
theorem nrG_ok : EOk Try.prog ⟨14, nrG nrV⟩ := fun args r hr => by
  simp only [nrG] at hr
  split at hr
  · cases hr; exact Or.inl (nr_spec _ _ _)
  · cases hr
/-! ### Between two keys -/
section
variable (f : Int → Int → Int) (ta a0 a1 a2 tb b0 b1 b2 t : Int)
def neG (f : Int → Int → Int) : List AV → AV
  | [.x (.int .i64 n), .x (.int .i64 d)] => iA (f n d)
  | _ => .any
def bwN (a b : Int) : Int := w64 (w64 (b - a) * w64 (t - ta))
def bwD : Int := w64 (tb - ta)
abbrev NEok (a b : Int) : Prop := FSpec Try.prog 15 [iA (bwN ta t a b), iA (bwD ta tb)] (iA (f (bwN ta t a b) (bwD ta tb)))
def bwV (a b : Int) : Int := w64 (a + f (bwN ta t a b) (bwD ta tb))
theorem bw_ev : ev Try.prog [] [kS Try.prog 15 (neG f)] noL Try.f13 [.agg [iA ta, iA a0, iA a1, iA a2], .agg [iA tb, iA b0, iA b1, iA b2], iA t] ret =
    gate (NEok f ta tb t a0 b0) (gate (NEok f ta tb t a1 b1) (gate (NEok f ta tb t a2 b2) (some (Out.of (.agg [iA (bwV f ta tb t a0 b0), iA (bwV f ta tb t a1 b1), iA (bwV f ta tb t a2 b2)]))))) := by kernel_rfl
end
end Go.Proofs.Ytbmggfmifopddaa

namespace Go.Proofs.Ytbmggfmifopddaa
open Go.Gv

def kmS (n : Nat) (T : Nat → Int) (X : Nat → Nat → Int) (ah i : Int) : St := mkS 36 [(3, iA ah), (14, kSl n T X), (15, iA n), (16, iA i)] []
def kmE (r : Int) : St := mkS 36 [(2, iA r)] []
section
variable (nf : Int → Int → Int → Bool) (n : Nat) (T : Nat → Int) (X : Nat → Nat → Int) (ah i : Int)
def kmC (o6 o1 o0 oe : Option Out) : Option Out := cond (decide (i < n)) (cond (ixB i n || false) (cond (cond (decide (T i.toNat ≤ ah)) true (decide (T i.toNat > 1000000))) o6 (cond (!(nf (X i.toNat 0) (X i.toNat 1) (X i.toNat 2))) o1 o0)) none) oe
theorem km_step : evC Try.prog [⟨14, nrG nf⟩] [] noL (loopAt Try.f9 0) (kmS n T X ah i) (finN [3, 14, 15, 16] []) =
    kmC nf n T X ah i none none (some ⟨.normal, kmS n T X (T i.toNat) (w64 (i + 1)), .any⟩) none := by kernel_rfl
theorem km_ret : evC Try.prog [⟨14, nrG nf⟩] [] noL (loopAt Try.f9 0) (kmS n T X ah i) (finR [2] []) =
    kmC nf n T X ah i (some ⟨.ret, kmE 6, .any⟩) (some ⟨.ret, kmE 1, .any⟩) none none := by kernel_rfl
theorem km_end : evC Try.prog [⟨14, nrG nf⟩] [] noL (loopAt Try.f9 0) (kmS n T X ah i) (finE [3, 14, 15, 16] []) =
    kmC nf n T X ah i none none none (some ⟨.exit 0, kmS n T X ah i, .any⟩) := by kernel_rfl
noncomputable def kmL (ah' : Int) : LFun := toldF [3, 14, 15, 16] [] (kmS n T X (-1) 0) (.exit 0) (kmS n T X ah' (n : Nat))
noncomputable def kmLr (r : Int) : LFun := toldF [3, 14, 15, 16] [] (kmS n T X (-1) 0) .ret (kmE r)
def kmX (R : Option Out) : Option Out := cond (cond (decide ((n : Int) < 1)) true (decide ((n : Int) > 32))) (some (Out.of (iA 5))) R
theorem km_evG (ah' : Int) : ev Try.prog [⟨14, nrG nf⟩] [] (oneL 5 (kmL n T X ah')) Try.f9 [kSl n T X] ret = kmX n (gate (Sub (kmS n T X (-1) 0) (kmS n T X (-1) 0)) (some (Out.of (iA 0)))) := by kernel_rfl
theorem km_evR (r : Int) : ev Try.prog [⟨14, nrG nf⟩] [] (oneL 5 (kmLr n T X r)) Try.f9 [kSl n T X] ret = kmX n (gate (Sub (kmS n T X (-1) 0) (kmS n T X (-1) 0)) (some (Out.of (iA r)))) := by kernel_rfl
end
/-! ### Where it is -/
abbrev BF : Type := (Nat → Int) → (Nat → Int) → Int → Nat → Int
def v4 (l : List AV) (i : Nat) : Int := k1 (l.getD i .any)
def bwG (bf : BF) : List AV → AV
  | [.agg a, .agg b, .x (.int .i64 t)] => .agg (l3 (bf (v4 a) (v4 b) t))
  | _ => .any
def kyL (T : Nat → Int) (X : Nat → Nat → Int) (i : Nat) : List AV := [iA (T i), iA (X i 0), iA (X i 1), iA (X i 2)]
def atS (n : Nat) (T : Nat → Int) (X : Nat → Nat → Int) (t i : Int) : St := mkS 46 [(0, kSl n T X), (1, iA t), (4, .own 0 0), (5, iA 0), (15, kSl n T X), (16, iA n), (17, iA i)] [.c (l3 fun _ => 0)]
def atE (v : Nat → Int) : St := mkS 46 [(4, .own 0 0), (5, iA 0)] [.c (l3 v)]
section
variable (bf : BF) (mf : AE) (n : Nat) (T : Nat → Int) (X : Nat → Nat → Int) (t i : Int)
abbrev BWok : Prop := FSpec Try.prog 13 [.agg (kyL T X (w64 (i - 1)).toNat), .agg (kyL T X i.toNat), iA t] (.agg (l3 (bf (v4 (kyL T X (w64 (i - 1)).toNat)) (v4 (kyL T X i.toNat)) t)))
noncomputable def atC (o0 o1 oc oe : Option Out) : Option Out := cond (decide (i < n)) (cond (ixB i n || false) (cond (decide (T i.toNat < t)) oc (cond (i == 0) o0 (gate (BWok bf T X t i) (cond ((ixB (w64 (i - 1)) n || false) && true) o1 none)))) none) oe
theorem at_step : evC Try.prog [] [kS Try.prog 13 (bwG bf)] noL (loopAt Try.f8 0) (atS n T X t i) (finN [0, 1, 4, 5, 15, 16, 17] [some 0]) =
    atC bf n T X t i none none (some ⟨.normal, atS n T X t (w64 (i + 1)), .any⟩) none := by kernel_rfl
theorem at_ret : evC Try.prog [] [kS Try.prog 13 (bwG bf)] noL (loopAt Try.f8 0) (atS n T X t i) (finR [4, 5] [some 0]) =
    atC bf n T X t i (some ⟨.ret, atE (X i.toNat), .any⟩) (some ⟨.ret, atE (bf (v4 (kyL T X (w64 (i - 1)).toNat)) (v4 (kyL T X i.toNat)) t), .any⟩) none none := by kernel_rfl
theorem at_end : evC Try.prog [] [kS Try.prog 13 (bwG bf)] noL (loopAt Try.f8 0) (atS n T X t i) (finE [0, 1, 4, 5, 15, 16, 17] [some 0]) =
    atC bf n T X t i none none none (some ⟨.exit 0, atS n T X t i, .any⟩) := by kernel_rfl
noncomputable def atL : LFun := toldF [0, 1, 4, 5, 15, 16, 17] [some 0] (atS n T X t 0) (.exit 0) (atS n T X t (n : Nat))
noncomputable def atLr (v : Nat → Int) : LFun := toldF [0, 1, 4, 5, 15, 16, 17] [some 0] (atS n T X t 0) .ret (atE v)
abbrev MYok : Prop := FSpec Try.prog 9 [kSl n T X] (iA (mf n (kEl T X)))
noncomputable def atX (R : Option Out) : Option Out := gate (MYok mf n T X) (cond (!(mf n (kEl T X) == 0)) (some (Out.of (.tup [.agg (l3 fun _ => 0), iA (mf n (kEl T X))]))) R)
theorem at_evG : ev Try.prog [] [kS Try.prog 9 (kmG mf)] (oneL 5 (atL n T X t)) Try.f8 [kSl n T X, iA t] ret = atX mf n T X (gate (Sub (atS n T X t 0) (atS n T X t 0)) (cond ((ixB (w64 ((n : Int) - 1)) n || false)) (some (Out.of (.tup [.agg (l3 (X (w64 ((n : Int) - 1)).toNat)), iA 0]))) none)) := by kernel_rfl
theorem at_evR (v : Nat → Int) : ev Try.prog [] [kS Try.prog 9 (kmG mf)] (oneL 5 (atLr n T X t v)) Try.f8 [kSl n T X, iA t] ret = atX mf n T X (gate (Sub (atS n T X t 0) (atS n T X t 0)) (some (Out.of (.tup [.agg (l3 v), iA 0])))) := by kernel_rfl
theorem at_ev0 : ev Try.prog [] [kS Try.prog 9 (kmG mf)] (oneL 5 fun _ _ => none) Try.f8 [kSl n T X, iA t] ret = atX mf n T X none := by kernel_rfl
end
end Go.Proofs.Ytbmggfmifopddaa

namespace Go.Proofs.Ytbmggfmifopddaa
open Go.Gv

def ahV (T : Nat → Int) : Nat → Int
  | 0 => -1
  | i + 1 => T i
theorem kb6 {T : Nat → Int} {i : Nat} (h : i = 0 ∨ 0 ≤ T (i - 1)) : cond (decide (T i ≤ ahV T i)) true (decide (T i > 1000000)) = (decide (T i < 0) || (decide (T i > 1000000) || (decide (0 < i) && decide (T i ≤ T (i - 1))))) := by
  cases i with
  | zero =>
    show cond (decide (T 0 ≤ -1)) true (decide (T 0 > 1000000)) = (decide (T 0 < 0) || (decide (T 0 > 1000000) || (false && _)))
    by_cases h1 : T 0 < 0
    · rw [decide_eq_true (show T 0 ≤ -1 by omega), decide_eq_true h1]; rfl
    · rw [decide_eq_false (show ¬ T 0 ≤ -1 by omega), decide_eq_false h1]; simp
  | succ i =>
    have h : 0 ≤ T i := by rcases h with h | h; · omega
                           · exact h
    show cond (decide (T (i + 1) ≤ T i)) true (decide (T (i + 1) > 1000000)) = (decide (T (i + 1) < 0) || (decide (T (i + 1) > 1000000) || (decide (0 < i + 1) && decide (T (i + 1) ≤ T i))))
    by_cases h1 : T (i + 1) ≤ T i
    · rw [decide_eq_true h1, decide_eq_true (show 0 < i + 1 by omega)]; simp
    · rw [decide_eq_false h1, decide_eq_false (show ¬ T (i + 1) < 0 by omega)]; simp
theorem nrB_eq (x : Int) : (decide (-1000000 ≤ x) && decide (x ≤ 1000000)) = !nrB x := by
  unfold nrB
  by_cases h1 : x < -1000000
  · rw [decide_eq_true h1, decide_eq_false (by omega)]; rfl
  · rw [decide_eq_false h1, decide_eq_true (by omega)]
    by_cases h2 : x > 1000000
    · rw [decide_eq_true h2, decide_eq_false (by omega)]; rfl
    · rw [decide_eq_false h2, decide_eq_true (by omega)]; rfl
theorem kb1 (g : Nat → Int) : nrV (g 0) (g 1) (g 2) = allI 3 fun c => decide (-1000000 ≤ g c) && decide (g c ≤ 1000000) := by
  unfold nrV
  cases h0 : nrB (g 0)
  · cases h1 : nrB (g 1)
    · cases h2 : nrB (g 2)
      · refine (allI_t fun i hi => ?_).symm
        have : i = 0 ∨ i = 1 ∨ i = 2 := by omega
        rcases this with rfl | rfl | rfl
        · rw [nrB_eq, h0]; rfl
        · rw [nrB_eq, h1]; rfl
        · rw [nrB_eq, h2]; rfl
      · exact (allI_f (K := 2) (by omega) (by rw [nrB_eq, h2]; rfl)).symm
    · exact (allI_f (K := 1) (by omega) (by rw [nrB_eq, h1]; rfl)).symm
  · exact (allI_f (K := 0) (by omega) (by rw [nrB_eq, h0]; rfl)).symm
theorem kbad_eq {T : Nat → Int} {X : Nat → Nat → Int} {i : Nat} (h : i = 0 ∨ 0 ≤ T (i - 1)) : kbad T X i = cond (cond (decide (T i ≤ ahV T i)) true (decide (T i > 1000000))) 6 (cond (!nrV (X i 0) (X i 1) (X i 2)) 1 0) := by
  unfold kbad
  rw [kb6 h, kb1 (X i)]
  cases allI 3 (fun c => decide (-1000000 ≤ X i c) && decide (X i c ≤ 1000000)) <;> rfl
structure KeyIn (T : Nat → Int) (X : Nat → Nat → Int) (i : Nat) : Prop where
  t0 : 0 ≤ T i
  t1 : T i ≤ 1000000
  x : ∀ c, c < 3 → -1000000 ≤ X i c ∧ X i c ≤ 1000000
theorem kbad_in {T : Nat → Int} {X : Nat → Nat → Int} {i : Nat} (h : kbad T X i = 0) : KeyIn T X i := by
  unfold kbad at h
  cases h6 : (decide (T i < 0) || (decide (T i > 1000000) || (decide (0 < i) && decide (T i ≤ T (i - 1)))))
  · rw [h6] at h
    cases h1 : allI 3 (fun c => decide (-1000000 ≤ X i c) && decide (X i c ≤ 1000000))
    · rw [h1] at h; cases h
    · simp only [Bool.or_eq_false_iff, decide_eq_false_iff_not] at h6
      refine ⟨by omega, by omega, fun c hc => ?_⟩
      have := allI_all h1 c hc
      simpa using this
  · rw [h6] at h; cases h
theorem kmF_all {T : Nat → Int} {X : Nat → Nat → Int} : ∀ n, (∀ i, i < n → kbad T X i = 0) → kmF T X n = 0
  | 0, _ => rfl
  | n + 1, h => by
    show cond (kmF T X n == 0) (kbad T X n) (kmF T X n) = 0
    rw [kmF_all n fun i hi => h i (by omega), h n (by omega)]
    rfl
theorem kmF_first {T : Nat → Int} {X : Nat → Nat → Int} {K : Nat} (hK : kbad T X K ≠ 0) (h : ∀ i, i < K → kbad T X i = 0) : ∀ n, K < n → kmF T X n = kbad T X K
  | 0, hn => absurd hn (Nat.not_lt_zero _)
  | n + 1, hn => by
    show cond (kmF T X n == 0) (kbad T X n) (kmF T X n) = _
    by_cases e : K = n
    · subst e
      rw [kmF_all K h]; rfl
    · have := kmF_first hK h n (by omega)
      rw [this, beq_false_of_ne hK]; rfl
theorem prev_in {T : Nat → Int} {X : Nat → Nat → Int} {i : Nat} (h : ∀ j, j < i → kbad T X j = 0) : i = 0 ∨ 0 ≤ T (i - 1) := by
  cases i with
  | zero => exact Or.inl rfl
  | succ i => exact Or.inr (kbad_in (h i (by omega))).t0
theorem kmC_ok {n : Nat} {T : Nat → Int} {X : Nat → Nat → Int} {i : Nat} (hi : i < n) (h : ∀ j, j < i → kbad T X j = 0) {o6 o1 o0 oe : Option Out} : kmC nrV n T X (ahV T i) (i : Nat) o6 o1 o0 oe = cond (kbad T X i == 0) o0 (cond (kbad T X i == 6) o6 o1) := by
  unfold kmC
  rw [dec_lt hi, ixB_t hi, Int.toNat_natCast, kbad_eq (prev_in h)]
  cases cond (decide (T i ≤ ahV T i)) true (decide (T i > 1000000)) <;> cases nrV (X i 0) (X i 1) (X i 2) <;> rfl
theorem km_good {n : Nat} {T : Nat → Int} {X : Nat → Nat → Int} (hn : n ≤ 32) (h : ∀ i, i < n → kbad T X i = 0) : Leads Try.prog (.loop (loopAt Try.f9 0)) (kmS n T X (-1) 0) (.exit 0) (kmS n T X (ahV T n) (n : Nat)) := by
  refine loop_rule (fun k => kmS n T X (ahV T k) (k : Nat)) n (.exit 0) _ (by simp) (fun k hk => ?_) ?_
  · refine leads_ev (finN_sub _ _) (e_cons nrG_ok e_nil) k_nil noL_ok ((km_step nrV n T X (ahV T k) (k : Nat)).trans ?_)
    rw [kmC_ok hk (fun j hj => h j (by omega)), h k hk, w64_next (by omega), Int.toNat_natCast]
    rfl
  · refine leads_ev (finE_sub _ _) (e_cons nrG_ok e_nil) k_nil noL_ok ((km_end nrV n T X (ahV T n) (n : Nat)).trans ?_)
    unfold kmC
    rw [dec_self, cond_false]
theorem km_bad {n : Nat} {T : Nat → Int} {X : Nat → Nat → Int} (hn : n ≤ 32) {K : Nat} (hK : K < n) (hb : kbad T X K ≠ 0) (h : ∀ i, i < K → kbad T X i = 0) : Leads Try.prog (.loop (loopAt Try.f9 0)) (kmS n T X (-1) 0) .ret (kmE (kbad T X K)) := by
  refine loop_rule (fun k => kmS n T X (ahV T k) (k : Nat)) K .ret _ (by simp) (fun k hk => ?_) ?_
  · refine leads_ev (finN_sub _ _) (e_cons nrG_ok e_nil) k_nil noL_ok ((km_step nrV n T X (ahV T k) (k : Nat)).trans ?_)
    rw [kmC_ok (by omega) (fun j hj => h j (by omega)), h k hk, w64_next (by omega), Int.toNat_natCast]
    rfl
  · refine leads_ev (finR_sub _ _) (e_cons nrG_ok e_nil) k_nil noL_ok ((km_ret nrV n T X (ahV T K) (K : Nat)).trans ?_)
    rw [kmC_ok hK h, beq_false_of_ne hb]
    have hv := kbad_eq (X := X) (prev_in h)
    revert hb hv
    generalize kbad T X K = b
    cases cond (decide (T K ≤ ahV T K)) true (decide (T K > 1000000)) <;> cases nrV (X K 0) (X K 1) (X K 2)
    · intro hb hv; have hv : b = 1 := hv; subst hv; rfl
    · intro hb hv; exact absurd hv hb
    · intro hb hv; have hv : b = 6 := hv; subst hv; rfl
    · intro hb hv; have hv : b = 6 := hv; subst hv; rfl
theorem kmX_eq (n : Nat) (T : Nat → Int) (X : Nat → Nat → Int) (R : Option Out) (hR : ¬ (n < 1 ∨ 32 < n) → R = some (Out.of (iA (kmF T X n)))) : kmX n R = some (Out.of (iA (kmay T X n))) := by
  unfold kmX kmay
  by_cases h1 : n < 1
  · rw [decide_eq_true h1, decide_eq_true (show (n : Int) < 1 by omega)]; rfl
  · by_cases h2 : 32 < n
    · rw [decide_eq_false h1, decide_eq_true h2, decide_eq_false (show ¬ (n : Int) < 1 by omega), decide_eq_true (show (n : Int) > 32 by omega)]; rfl
    · rw [decide_eq_false h1, decide_eq_false h2, decide_eq_false (show ¬ (n : Int) < 1 by omega), decide_eq_false (show ¬ (n : Int) > 32 by omega), hR (by omega)]; rfl
theorem km_ev0 (n : Nat) (T : Nat → Int) (X : Nat → Nat → Int) : ev Try.prog [⟨14, nrG nrV⟩] [] (oneL 5 fun _ _ => none) Try.f9 [kSl n T X] ret = kmX n none := by kernel_rfl
theorem km_spec (n : Nat) (T : Nat → Int) (X : Nat → Nat → Int) : FSpec Try.prog 9 [kSl n T X] (iA (kmay T X n)) := by
  by_cases hc : n < 1 ∨ 32 < n
  · refine gspec (e_cons nrG_ok e_nil) k_nil Try.func9 (by kernel_rfl) (by kernel_rfl) (lok_none 5) rfl ((km_ev0 n T X).trans (kmX_eq n T X _ fun h => absurd hc h))
  · have hn : n ≤ 32 := by omega
    rcases all_or_first (fun i => kbad T X i == 0) n with hl | ⟨K, hK, hp, hq⟩
    · have hl' : ∀ i, i < n → kbad T X i = 0 := fun i hi => by simpa using hl i hi
      have l1 := lok_at (c := bodyOf Try.f9) (i := 5) 0 1 (by kernel_rfl) (by kernel_rfl) (toldF_sound (keep := [3, 14, 15, 16]) (τ := []) (km_good hn hl'))
      refine gspec (e_cons nrG_ok e_nil) k_nil Try.func9 (by kernel_rfl) (by kernel_rfl) l1 rfl ((km_evG nrV n T X (ahV T n)).trans (kmX_eq n T X _ fun _ => ?_))
      rw [gate_pos (Sub.refl _), kmF_all n hl']
    · have hb : kbad T X K ≠ 0 := by simpa using hp
      have hq' : ∀ i, i < K → kbad T X i = 0 := fun i hi => by simpa using hq i hi
      have l1 := lok_at (c := bodyOf Try.f9) (i := 5) 0 1 (by kernel_rfl) (by kernel_rfl) (toldF_sound (keep := [3, 14, 15, 16]) (τ := []) (km_bad hn hK hb hq'))
      refine gspec (e_cons nrG_ok e_nil) k_nil Try.func9 (by kernel_rfl) (by kernel_rfl) l1 rfl ((km_evR nrV n T X (kbad T X K)).trans (kmX_eq n T X _ fun _ => ?_))
      rw [gate_pos (Sub.refl _), kmF_first hb hq' n hK]
/-! ### Between two keys -/
theorem div_le {n d B : Int} (hd : 0 < d) (h0 : -B ≤ n) (h1 : n ≤ B) : -B ≤ n / d ∧ n / d ≤ B := by
  constructor
  · refine (Int.le_ediv_iff_mul_le hd).2 (Int.le_trans ?_ h0)
    have : 0 ≤ B := by omega
    have := Int.mul_le_mul_of_nonneg_left (show (1 : Int) ≤ d by omega) this
    rw [Int.neg_mul]; omega
  · refine Int.lt_add_one_iff.1 (Int.ediv_lt_of_lt_mul hd ?_)
    have : 0 ≤ B + 1 := by omega
    have := Int.mul_le_mul_of_nonneg_left (show (1 : Int) ≤ d by omega) this
    omega
theorem mul_abs {a b A B : Int} (h0 : -A ≤ a) (h1 : a ≤ A) (g0 : 0 ≤ b) (g1 : b ≤ B) : -(A * B) ≤ a * b ∧ a * b ≤ A * B := by
  have hA : 0 ≤ A := by omega
  have k1 : a * b ≤ A * b := Int.mul_le_mul_of_nonneg_right h1 g0
  have k2 : A * b ≤ A * B := Int.mul_le_mul_of_nonneg_left g1 hA
  have k3 : -A * b ≤ a * b := Int.mul_le_mul_of_nonneg_right h0 g0
  rw [Int.neg_mul] at k3
  omega
theorem bwV_eq {ta tb t a b : Int} (h0 : 0 ≤ ta) (h1 : tb ≤ 1000000) (h2 : ta < tb) (h3 : ta ≤ t) (h4 : t ≤ tb) (ha : -1000000 ≤ a ∧ a ≤ 1000000) (hb : -1000000 ≤ b ∧ b ≤ 1000000) :
    NEok neV ta tb t a b ∧ bwV neV ta tb t a b = a + (2 * (b - a) * (t - ta) + (tb - ta)) / (2 * (tb - ta)) := by
  have m := mul_abs (a := b - a) (b := t - ta) (A := 2000000) (B := 1000000) (by omega) (by omega) (by omega) (by omega)
  have en : bwN ta t a b = (b - a) * (t - ta) := by
    unfold bwN
    rw [w64_id (n := b - a) (by omega) (by omega), w64_id (n := t - ta) (by omega) (by omega), w64_id (by omega) (by omega)]
  have ed : bwD ta tb = tb - ta := by unfold bwD; rw [w64_id (by omega) (by omega)]
  constructor
  · unfold NEok
    rw [en, ed]
    exact ne_spec (by omega) (by omega) (by omega) (by omega)
  · unfold bwV
    rw [en, ed]
    unfold neV
    have := div_le (n := 2 * ((b - a) * (t - ta)) + (tb - ta)) (d := 2 * (tb - ta)) (B := 4000001000000) (by omega) (by omega) (by omega)
    rw [w64_id (by omega) (by omega), Int.mul_assoc 2 (b - a)]
def bwF : BF := fun a b t c => bwV neV (a 0) (b 0) t (a (c + 1)) (b (c + 1))
theorem bw_spec {T : Nat → Int} {X : Nat → Nat → Int} {k : Nat} {t : Int} (ka : KeyIn T X k) (kb : KeyIn T X (k + 1)) (h2 : T k < T (k + 1)) (h3 : T k ≤ t) (h4 : t ≤ T (k + 1)) :
    FSpec Try.prog 13 [.agg (kyL T X k), .agg (kyL T X (k + 1)), iA t] (.agg (l3 (bwF (v4 (kyL T X k)) (v4 (kyL T X (k + 1))) t))) := by
  have e := fun c hc => bwV_eq ka.t0 kb.t1 h2 h3 h4 (ka.x c hc) (kb.x c hc)
  refine gspec e_nil (k_cons (kS_ok (P := Try.prog) (f := 15) (g := neG neV)) k_nil) Try.func13 (by kernel_rfl) (by kernel_rfl) noL_ok rfl ((bw_ev neV (T k) (X k 0) (X k 1) (X k 2) (T (k + 1)) (X (k + 1) 0) (X (k + 1) 1) (X (k + 1) 2) t).trans ?_)
  rw [gate_pos (e 0 (by omega)).1, gate_pos (e 1 (by omega)).1, gate_pos (e 2 (by omega)).1]
  rfl
theorem bwF_ip {T : Nat → Int} {X : Nat → Nat → Int} {k : Nat} {t : Int} (ka : KeyIn T X k) (kb : KeyIn T X (k + 1)) (h2 : T k < T (k + 1)) (h3 : T k ≤ t) (h4 : t ≤ T (k + 1)) : ∀ c, c < 3 → bwF (v4 (kyL T X k)) (v4 (kyL T X (k + 1))) t c = ipV T X t c k
  | 0, _ => (bwV_eq ka.t0 kb.t1 h2 h3 h4 (ka.x 0 (by omega)) (kb.x 0 (by omega))).2
  | 1, _ => (bwV_eq ka.t0 kb.t1 h2 h3 h4 (ka.x 1 (by omega)) (kb.x 1 (by omega))).2
  | 2, _ => (bwV_eq ka.t0 kb.t1 h2 h3 h4 (ka.x 2 (by omega)) (kb.x 2 (by omega))).2
  | _ + 3, h => absurd h (by omega)
/-! ### Where it is -/
theorem katR_skip {T : Nat → Int} {X : Nat → Nat → Int} {n : Nat} {t : Int} {c : Nat} : ∀ m f i, (∀ j, i ≤ j → j < i + m → ¬ t < T j) → katR T X n t c (m + f) i = katR T X n t c f (i + m)
  | 0, f, i, _ => by rw [Nat.zero_add, Nat.add_zero]
  | m + 1, f, i, h => by
    rw [show m + 1 + f = (m + f) + 1 by omega]
    show cond (decide (t < T i)) _ (katR T X n t c (m + f) (i + 1)) = _
    rw [decide_eq_false (h i (by omega) (by omega)), cond_false, katR_skip m f (i + 1) fun j h1 h2 => h j (by omega) (by omega), show i + 1 + m = i + (m + 1) by omega]
theorem ip_end {T : Nat → Int} {X : Nat → Nat → Int} {k c : Nat} {t : Int} (h2 : T k < T (k + 1)) (ht : t = T (k + 1)) : ipV T X t c k = X (k + 1) c := by
  subst ht
  unfold ipV
  generalize hS : T (k + 1) - T k = S
  generalize hD : X (k + 1) c - X k c = D
  have : (2 * D * S + S) / (2 * S) = D := by
    rw [show 2 * D * S + S = S + 2 * S * D by grind, Int.add_mul_ediv_left _ _ (show 2 * S ≠ 0 by omega), Int.ediv_eq_zero_of_lt (by omega) (by omega)]
    omega
  omega
/-- The first key that is not ahead of the time. -/
theorem kat_first {n : Nat} {T : Nat → Int} {X : Nat → Nat → Int} (ok : KOkK n T) {t : Int} {k : Nat} (hk : k + 1 < n) (h1 : ∀ i, i ≤ k → T i < t) (h2 : t ≤ T (k + 1)) (c : Nat) : kat0 T X n t c = ipV T X t c k := by
  unfold kat0
  have := h1 0 (by omega)
  rw [decide_eq_false (show ¬ t ≤ T 0 by omega), cond_false, show n - 1 = k + (n - 1 - k) by omega]
  rw [katR_skip k (n - 1 - k) 1 fun j g1 g2 => by have := h1 j (by omega); omega, show n - 1 - k = (n - 2 - k) + 1 by omega, show 1 + k = k + 1 by omega]
  show cond (decide (t < T (k + 1))) (ipV T X t c (k + 1 - 1)) (katR T X n t c (n - 2 - k) (k + 1 + 1)) = _
  by_cases e : t < T (k + 1)
  · rw [decide_eq_true e, cond_true, show k + 1 - 1 = k by omega]
  · have et : t = T (k + 1) := by omega
    rw [decide_eq_false e, cond_false, ip_end (ok.up k hk) et]
    by_cases hn : k + 2 = n
    · subst hn
      rw [show k + 2 - 2 - k = 0 by omega]
      show X (k + 2 - 1) c = _
      rw [show k + 2 - 1 = k + 1 by omega]
    · rw [show n - 2 - k = (n - 3 - k) + 1 by omega]
      show cond (decide (t < T (k + 1 + 1))) (ipV T X t c (k + 1 + 1 - 1)) _ = _
      have up := ok.up (k + 1) (by omega)
      rw [decide_eq_true (by omega), cond_true, show k + 1 + 1 - 1 = k + 1 by omega]
      unfold ipV
      rw [ip_zero (by omega) (by rw [et, Int.sub_self, Int.mul_zero])]
      omega
theorem l3_eq {a b : Nat → Int} (h : ∀ c, c < 3 → a c = b c) : l3 a = l3 b := by
  unfold l3
  rw [h 0 (by omega), h 1 (by omega), h 2 (by omega)]
theorem atC_go {n : Nat} {T : Nat → Int} {X : Nat → Nat → Int} {t : Int} {i : Nat} (hi : i < n) (h : T i < t) {o0 o1 oc oe : Option Out} : atC bwF n T X t (i : Nat) o0 o1 oc oe = oc := by
  unfold atC
  rw [dec_lt hi, ixB_t hi, Int.toNat_natCast, decide_eq_true h]
  rfl
theorem at_good {n : Nat} (hn : n ≤ 32) {T : Nat → Int} {X : Nat → Nat → Int} {t : Int} (h : ∀ i, i < n → T i < t) : Leads Try.prog (.loop (loopAt Try.f8 0)) (atS n T X t 0) (.exit 0) (atS n T X t (n : Nat)) := by
  refine loop_rule (fun k => atS n T X t (k : Nat)) n (.exit 0) _ (by simp) (fun k hk => ?_) ?_
  · refine leads_ev (finN_sub _ _) e_nil (k_cons (kS_ok (P := Try.prog) (f := 13) (g := bwG bwF)) k_nil) noL_ok ((at_step bwF n T X t (k : Nat)).trans ?_)
    rw [atC_go hk (h k hk), w64_next (by omega)]
  · refine leads_ev (finE_sub _ _) e_nil (k_cons (kS_ok (P := Try.prog) (f := 13) (g := bwG bwF)) k_nil) noL_ok ((at_end bwF n T X t (n : Nat)).trans ?_)
    unfold atC
    rw [dec_self, cond_false]
theorem at_zero {n : Nat} (hn : 1 ≤ n) {T : Nat → Int} {X : Nat → Nat → Int} {t : Int} (h : t ≤ T 0) : Leads Try.prog (.loop (loopAt Try.f8 0)) (atS n T X t 0) .ret (atE (X 0)) := by
  refine loop_rule (fun k => atS n T X t (k : Nat)) 0 .ret _ (by simp) (fun k hk => absurd hk (by omega)) ?_
  refine leads_ev (finR_sub _ _) e_nil (k_cons (kS_ok (P := Try.prog) (f := 13) (g := bwG bwF)) k_nil) noL_ok ((at_ret bwF n T X t ((0 : Nat) : Int)).trans ?_)
  unfold atC
  rw [dec_lt (show 0 < n by omega), ixB_t (show 0 < n by omega), Int.toNat_natCast, decide_eq_false (by omega)]
  rfl
theorem at_mid {n : Nat} (hn : n ≤ 32) {T : Nat → Int} {X : Nat → Nat → Int} {t : Int} {k : Nat} (hk : k + 1 < n) (ka : KeyIn T X k) (kb : KeyIn T X (k + 1)) (up : T k < T (k + 1)) (h1 : ∀ i, i ≤ k → T i < t) (h2 : t ≤ T (k + 1)) :
    Leads Try.prog (.loop (loopAt Try.f8 0)) (atS n T X t 0) .ret (atE (bwF (v4 (kyL T X k)) (v4 (kyL T X (k + 1))) t)) := by
  refine loop_rule (fun k => atS n T X t (k : Nat)) (k + 1) .ret _ (by simp) (fun j hj => ?_) ?_
  · refine leads_ev (finN_sub _ _) e_nil (k_cons (kS_ok (P := Try.prog) (f := 13) (g := bwG bwF)) k_nil) noL_ok ((at_step bwF n T X t (j : Nat)).trans ?_)
    rw [atC_go (by omega) (h1 j (by omega)), w64_next (by omega)]
  · refine leads_ev (finR_sub _ _) e_nil (k_cons (kS_ok (P := Try.prog) (f := 13) (g := bwG bwF)) k_nil) noL_ok ((at_ret bwF n T X t ((k + 1 : Nat) : Int)).trans ?_)
    have hw : w64 (((k + 1 : Nat) : Int) - 1) = (k : Int) := by rw [w64_id (by omega) (by omega)]; omega
    unfold atC BWok
    rw [hw, dec_lt hk, ixB_t hk, ixB_t (show k < n by omega), Int.toNat_natCast, Int.toNat_natCast, decide_eq_false (by omega), beq_false_of_ne (show ((k + 1 : Nat) : Int) ≠ 0 by omega), gate_pos (bw_spec ka kb up (by have := h1 k (by omega); omega) h2)]
    rfl
theorem MYok_of (n : Nat) (T : Nat → Int) (X : Nat → Nat → Int) (hX : xOf (kEl T X) = X) : feE n (kEl T X) = kmay T X n ∧ MYok feE n T X := by
  have e : feE n (kEl T X) = kmay T X n := by unfold feE; rw [hX]; rfl
  exact ⟨e, by unfold MYok; rw [e]; exact km_spec n T X⟩
theorem at_spec0 (n : Nat) (T : Nat → Int) (X : Nat → Nat → Int) (hX : xOf (kEl T X) = X) (t : Int) : FSpec Try.prog 8 [kSl n T X, iA t] (.tup [.agg (l3 (kat T X n t)), iA (kmay T X n)]) := by
  obtain ⟨e, hM⟩ := MYok_of n T X hX
  have ks := k_cons (kS_ok (P := Try.prog) (f := 9) (g := kmG feE)) k_nil
  by_cases h : kmay T X n = 0
  · have kk := kmay_zero h
    have hn := kk.n32
    have n1 := kk.n1
    have ek : ∀ c, kat T X n t c = kat0 T X n t c := fun c => by unfold kat; rw [h]; rfl
    have hin : ∀ i, i < n → KeyIn T X i := fun i hi => by
      refine kbad_in (kmF_zero n ?_ i hi)
      have h' := h
      unfold kmay at h'
      rw [decide_eq_false (by omega), decide_eq_false (by omega)] at h'
      exact h'
    rcases all_or_first (fun i => decide (T i < t)) n with hl | ⟨K, hK, hp, hq⟩
    · have hl' : ∀ i, i < n → T i < t := fun i hi => by simpa using hl i hi
      have l1 := lok_at (c := bodyOf Try.f8) (i := 5) 0 1 (by kernel_rfl) (by kernel_rfl) (toldF_sound (keep := [0, 1, 4, 5, 15, 16, 17]) (τ := [some 0]) (at_good (X := X) hn hl'))
      have hw : w64 ((n : Int) - 1) = ((n - 1 : Nat) : Int) := by rw [w64_id (by omega) (by omega)]; omega
      have ev : l3 (kat T X n t) = l3 (X (n - 1)) := l3_eq fun c _ => by
        rw [ek]
        unfold kat0
        have := hl' 0 (by omega)
        rw [decide_eq_false (by omega), cond_false]
        have := katR_skip (T := T) (X := X) (n := n) (t := t) (c := c) (n - 1) 0 1 fun j g1 g2 => by have := hl' j (by omega); omega
        rw [Nat.add_zero] at this
        rw [this]
        rfl
      refine gspec e_nil ks Try.func8 (by kernel_rfl) (by kernel_rfl) l1 rfl ((at_evG feE n T X t).trans ?_)
      unfold atX
      rw [gate_pos hM, e, h, gate_pos (Sub.refl _), hw, ixB_t (show n - 1 < n by omega), Int.toNat_natCast, ev]
      rfl
    · have hp' : ¬ T K < t := by simpa using hp
      have hq' : ∀ i, i < K → T i < t := fun i hi => by simpa using hq i hi
      cases K with
      | zero =>
        have l1 := lok_at (c := bodyOf Try.f8) (i := 5) 0 1 (by kernel_rfl) (by kernel_rfl) (toldF_sound (keep := [0, 1, 4, 5, 15, 16, 17]) (τ := [some 0]) (at_zero (T := T) (X := X) (t := t) n1 (by omega)))
        have ev : l3 (kat T X n t) = l3 (X 0) := l3_eq fun c _ => by
          rw [ek]; unfold kat0; rw [decide_eq_true (by omega), cond_true]
        refine gspec e_nil ks Try.func8 (by kernel_rfl) (by kernel_rfl) l1 rfl ((at_evR feE n T X t (X 0)).trans ?_)
        unfold atX
        rw [gate_pos hM, e, h, gate_pos (Sub.refl _), ev]
        rfl
      | succ k =>
        have up := kk.up k hK
        have h1 : ∀ i, i ≤ k → T i < t := fun i hi => hq' i (by omega)
        have h1k := h1 k (by omega)
        have l1 := lok_at (c := bodyOf Try.f8) (i := 5) 0 1 (by kernel_rfl) (by kernel_rfl) (toldF_sound (keep := [0, 1, 4, 5, 15, 16, 17]) (τ := [some 0]) (at_mid (T := T) (X := X) (t := t) hn hK (hin k (by omega)) (hin (k + 1) hK) up h1 (by omega)))
        have ev : l3 (kat T X n t) = l3 (bwF (v4 (kyL T X k)) (v4 (kyL T X (k + 1))) t) := l3_eq fun c hc => by
          rw [ek, kat_first kk hK h1 (by omega), bwF_ip (hin k (by omega)) (hin (k + 1) hK) up (by omega) (by omega) c hc]
        refine gspec e_nil ks Try.func8 (by kernel_rfl) (by kernel_rfl) l1 rfl ((at_evR feE n T X t _).trans ?_)
        unfold atX
        rw [gate_pos hM, e, h, gate_pos (Sub.refl _), ev]
        rfl
  · refine gspec e_nil ks Try.func8 (by kernel_rfl) (by kernel_rfl) (lok_none 5) rfl ((at_ev0 feE n T X t).trans ?_)
    have ev : l3 (kat T X n t) = l3 fun _ => 0 := l3_eq fun c _ => by unfold kat; rw [beq_false_of_ne h]; rfl
    unfold atX
    rw [gate_pos hM, e, beq_false_of_ne h, ev]
    rfl
theorem rok : ReelOk := ⟨km_spec, fun n T X t => by
  have hx : xOf (kEl T (xOf (kEl T X))) = xOf (kEl T X) := funext fun _ => funext fun c => match c with | 0 => rfl | 1 => rfl | 2 => rfl | _ + 3 => rfl
  have h := at_spec0 n T (xOf (kEl T X)) hx t
  have e : ∀ i c, c < 3 → xOf (kEl T X) i c = X i c := fun i c hc => match c, hc with | 0, _ => rfl | 1, _ => rfl | 2, _ => rfl | _ + 3, h => absurd h (by omega)
  have em : kmay T (xOf (kEl T X)) n = kmay T X n := by
    have eb : ∀ i, kbad T (xOf (kEl T X)) i = kbad T X i := fun i => by
      unfold kbad
      rw [← kb1 (xOf (kEl T X) i), ← kb1 (X i), e i 0 (by omega), e i 1 (by omega), e i 2 (by omega)]
    have ef : ∀ m, kmF T (xOf (kEl T X)) m = kmF T X m := fun m => by
      induction m with
      | zero => rfl
      | succ m ih => show cond (kmF T (xOf (kEl T X)) m == 0) (kbad T (xOf (kEl T X)) m) (kmF T (xOf (kEl T X)) m) = cond (kmF T X m == 0) (kbad T X m) (kmF T X m); rw [ih, eb]
    unfold kmay
    rw [ef]
  have ea : ∀ c, c < 3 → kat T (xOf (kEl T X)) n t c = kat T X n t c := fun c hc => by
    have er : ∀ f i, katR T (xOf (kEl T X)) n t c f i = katR T X n t c f i := fun f => by
      induction f with
      | zero => intro i; exact e _ _ hc
      | succ f ih =>
        intro i
        show cond _ (ipV T (xOf (kEl T X)) t c (i - 1)) (katR T (xOf (kEl T X)) n t c f (i + 1)) = cond _ (ipV T X t c (i - 1)) (katR T X n t c f (i + 1))
        rw [ih]
        unfold ipV
        rw [e _ _ hc, e _ _ hc]
    unfold kat kat0
    rw [em, er, e _ _ hc]
  rw [em, l3_eq ea] at h
  exact h⟩
end Go.Proofs.Ytbmggfmifopddaa
