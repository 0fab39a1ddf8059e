/-
  Wm1 Rb8 Tc1 Rc1 Sm1 Sm2 Sm3 Sm4 Sm5 Sm6, one behind the other.
-/
import Derived.Test.YtgijfbcfajhmlaaM1
import Derived.Test.YtgijfbcfajhmlaaM7
namespace Go.Em

section
variable (V A b i : Nat)
def mT (j : Nat) : Nat := V % wB ^ (i + j) + wB ^ i * A * (b % wB ^ j)
def mC (j : Nat) : Nat := mT V A b i j / wB ^ (i + j)
def mS (j : Nat) : Nat := dg V (i + j) + mC V A b i j + A * dg b j
theorem mT_next (j : Nat) : mT V A b i (j + 1) = mT V A b i j + wB ^ (i + j) * (dg V (i + j) + A * dg b j) := by
  unfold mT
  rw [show i + (j + 1) = i + j + 1 by omega, mod_next, mod_next, Nat.pow_add]
  generalize dg V (i + j) = x
  generalize dg b j = y
  generalize V % (wB ^ i * wB ^ j) = u
  generalize b % wB ^ j = v
  generalize wB ^ i = p
  generalize wB ^ j = q
  grind
theorem mT_div (j : Nat) : mT V A b i (j + 1) / wB ^ (i + j) = mS V A b i j := by
  rw [mT_next, Nat.add_mul_div_left _ _ (pw_pos _)]
  unfold mS mC
  omega
theorem mC_next (j : Nat) : mC V A b i (j + 1) = mS V A b i j / wB := by
  rw [← mT_div]
  unfold mC
  rw [show i + (j + 1) = i + j + 1 by omega, Nat.pow_succ, Nat.div_div_eq_div_mul]
theorem mC_zero : mC V A b i 0 = 0 := by
  unfold mC mT
  rw [Nat.pow_zero, Nat.mod_one, Nat.mul_zero, Nat.add_zero, Nat.add_zero]
  exact Nat.div_eq_of_lt (Nat.mod_lt _ (pw_pos _))
theorem mC_le (j : Nat) : mC V A b i j ≤ A := by
  have h1 := Nat.mod_lt V (pw_pos (i + j))
  have h2 := Nat.mod_lt b (pw_pos j)
  have h3 : wB ^ i * A * (b % wB ^ j) ≤ wB ^ i * A * wB ^ j := Nat.mul_le_mul_left _ (Nat.le_of_lt h2)
  have e : wB ^ i * A * wB ^ j = wB ^ (i + j) * A := by rw [Nat.pow_add]; generalize wB ^ i = p; generalize wB ^ j = q; grind
  rw [e] at h3
  have : mC V A b i j < A + 1 := by
    unfold mC mT
    rw [Nat.div_lt_iff_lt_mul (pw_pos _), Nat.add_mul, Nat.one_mul, Nat.mul_comm A]
    omega
  omega
theorem mW_split (j : Nat) : V + wB ^ i * A * b = mT V A b i j + wB ^ (i + j) * (V / wB ^ (i + j) + A * (b / wB ^ j)) := by
  have e1 := Nat.div_add_mod V (wB ^ (i + j))
  have e2 := Nat.div_add_mod b (wB ^ j)
  unfold mT
  rw [Nat.pow_add] at *
  generalize V % (wB ^ i * wB ^ j) = u at *
  generalize V / (wB ^ i * wB ^ j) = u' at *
  generalize b % wB ^ j = v at *
  generalize b / wB ^ j = v' at *
  generalize wB ^ i = p at *
  generalize wB ^ j = q at *
  subst e1 e2
  grind
theorem dg_W (j : Nat) : dg (V + wB ^ i * A * b) (i + j) = mS V A b i j % wB := by
  have h := mW_split V A b i (j + 1)
  unfold dg
  rw [h, show i + (j + 1) = i + j + 1 by omega, Nat.pow_succ, Nat.mul_assoc, Nat.add_mul_div_left _ _ (pw_pos _), mT_div, Nat.add_mul_mod_self_left]
theorem dg_high {j q : Nat} (hb : b < wB ^ j) (hc : mC V A b i j = 0) (hq : i + j ≤ q) : dg (V + wB ^ i * A * b) q = dg V q := by
  have h := mW_split V A b i j
  rw [Nat.div_eq_of_lt hb, Nat.mul_zero, Nat.add_zero] at h
  obtain ⟨d, rfl⟩ := Nat.le.dest hq
  unfold dg
  rw [Nat.pow_add, ← Nat.div_div_eq_div_mul, ← Nat.div_div_eq_div_mul, h, Nat.add_mul_div_left _ _ (pw_pos _)]
  unfold mC at hc
  rw [hc, Nat.zero_add]
theorem mT_le (j : Nat) (hb : b < wB ^ j) : mT V A b i j ≤ V + wB ^ i * A * b := by
  unfold mT
  rw [Nat.mod_eq_of_lt hb]
  have := Nat.mod_le V (wB ^ (i + j))
  omega
end
theorem nw_mul (a b : Nat) : a * b < wB ^ (nw a + nw b) := by
  have h1 := nw_lt a
  have h2 := nw_lt b
  rw [Nat.pow_add]
  exact Nat.mul_lt_mul'' h1 h2
theorem nw_mul_le (a b : Nat) : nw (a * b) ≤ nw a + nw b := nw_le (nw_mul a b)
theorem nw_add_le {a b n : Nat} (ha : nw a ≤ n) (hb : nw b ≤ n) : nw (a + b) ≤ n + 1 := by
  have h1 : a < wB ^ n := Nat.lt_of_lt_of_le (nw_lt a) (Nat.pow_le_pow_right wB_pos ha)
  have h2 : b < wB ^ n := Nat.lt_of_lt_of_le (nw_lt b) (Nat.pow_le_pow_right wB_pos hb)
  refine nw_le ?_
  rw [Nat.pow_succ, wB_eq]
  rw [wB_eq] at h1 h2
  omega
theorem nw_mono {a b : Nat} (h : a ≤ b) : nw a ≤ nw b := nw_le (Nat.lt_of_le_of_lt h (nw_lt b))
end Go.Em

namespace Go.Proofs.Ytgijfbcfajhmlaa
open Go.Gv
open Go.Em (wB wB_pos wB_eq dg dg_lt vl vl_dg nw nw_lt nw_ge nw_le nw_zero dg_zero pw_pos mod_next mT mC mS mC_next mC_zero mC_le dg_W dg_high mT_le nw_mul)

def bmul (x y : Bg) : Bg := (!(x.1 == y.1), x.2 * y.2)
theorem bv_mul (x y : Bg) : bv (bmul x y) = bv x * bv y := by
  obtain ⟨s, a⟩ := x
  obtain ⟨t, b⟩ := y
  cases s <;> cases t <;> simp [bv, bmul, Int.neg_mul, Int.mul_neg]
theorem mkI8_t {n : Nat} (h : n ≤ 35184372088832) : mkI8 (n : Nat) = true := by
  unfold mkI8
  rw [decide_eq_true (by omega), decide_eq_true (by omega), decide_eq_true (by omega)]
  rfl
/-- The parts of a sum half made. -/
def mY (V W k q : Nat) : Int := if q < k then mI W q else mI V q
section
variable {s t : Bool} {a b N : Nat} (hN : N = nw a + nw b + 1) (hs : N ≤ 10000000000000)
include hN hs
theorem mi_leads {i : Nat} (hi : i < nw a) : ∃ J : Nat, Leads Try.prog (.loop (loopAt Try.f27 1)) (bmI s (nw a) (mI a) t (nw b) (mI b) N (i : Nat) 0 0 (mI (a % wB ^ i * b))) (.exit 2) (bmI s (nw a) (mI a) t (nw b) (mI b) N (i : Nat) 0 (J : Nat) (mI (a % wB ^ (i + 1) * b))) := by
  have hW : a % wB ^ (i + 1) * b = a % wB ^ i * b + wB ^ i * dg a i * b := by rw [mod_next, Nat.add_mul]
  have hlt : a % wB ^ (i + 1) * b < wB ^ (i + (nw b + 1)) := by
    have h1 := Nat.mod_lt a (pw_pos (i + 1))
    have h2 := nw_lt b
    rw [show i + (nw b + 1) = i + 1 + nw b by omega, Nat.pow_add wB (i + 1)]
    exact Nat.mul_lt_mul'' h1 h2
  rw [hW] at hlt ⊢
  generalize hV : a % wB ^ i * b = V at *
  have hA := dg_lt a i
  rw [wB_eq] at hA
  generalize hAe : dg a i = A at *
  generalize hWe : V + wB ^ i * A * b = W at *
  have hcend : mC V A b i (nw b + 1) = 0 := by
    unfold mC
    refine Nat.div_eq_of_lt (Nat.lt_of_le_of_lt (mT_le V A b i (nw b + 1) ?_) ?_)
    · exact Nat.lt_of_lt_of_le (nw_lt b) (Nat.pow_le_pow_right wB_pos (by omega))
    · rw [hWe]; exact hlt
  obtain ⟨J, hJ1, hJ2, hJ3, hJ4⟩ : ∃ J, nw b ≤ J ∧ J ≤ nw b + 1 ∧ mC V A b i J = 0 ∧ (J = nw b + 1 → mC V A b i (nw b) ≠ 0) := by
    by_cases h : mC V A b i (nw b) = 0
    · exact ⟨nw b, by omega, by omega, h, fun e => by omega⟩
    · exact ⟨nw b + 1, by omega, by omega, hcend, fun _ => h⟩
  refine ⟨J, ?_⟩
  have hfin : mI W = mY V W (i + J) := funext fun q => by
    unfold mY
    by_cases h : q < i + J
    · rw [if_pos h]
    · rw [if_neg h]
      unfold mI
      rw [← hWe, dg_high V A b i (Nat.lt_of_lt_of_le (nw_lt b) (Nat.pow_le_pow_right wB_pos hJ1)) hJ3 (by omega)]
  have hst : mI V = mY V W (i + 0) := funext fun q => by
    unfold mY
    by_cases h : q < i + 0
    · rw [if_pos h]
      unfold mI
      have e : dg W q = dg V q := by
        rw [← hWe]
        unfold dg
        obtain ⟨d, hd⟩ : ∃ d, i = q + 1 + d := ⟨i - (q + 1), by omega⟩
        have e2 : wB ^ i * A * b = wB ^ q * (wB * (wB ^ d * A * b)) := by
          rw [hd, Nat.pow_add, Nat.pow_succ]; simp only [Nat.mul_assoc]
        rw [e2, Nat.add_mul_div_left _ _ (pw_pos q), Nat.add_mul_mod_self_left]
      rw [e]
    · rw [if_neg h]
  have key : Leads Try.prog (.loop (loopAt Try.f27 1)) (bmI s (nw a) (mI a) t (nw b) (mI b) N (i : Nat) ((mC V A b i 0 : Nat) : Int) ((0 : Nat) : Int) (mY V W (i + 0))) (.exit 2) (bmI s (nw a) (mI a) t (nw b) (mI b) N (i : Nat) ((mC V A b i J : Nat) : Int) (J : Nat) (mY V W (i + J))) := by
    refine loop_rule (fun j => bmI s (nw a) (mI a) t (nw b) (mI b) N (i : Nat) ((mC V A b i j : Nat) : Int) (j : Nat) (mY V W (i + j))) J (.exit 2) _ (by simp) (fun j hj => ?_) ?_
    · have st := mi_step s (nw a) (mI a) t (nw b) (mI b) N (i : Nat) ((mC V A b i j : Nat) : Int) (j : Nat) (mY V W (i + j))
      have hij : i + j < N := by omega
      have ew : w64 (((i : Nat) : Int) + ((j : Nat) : Int)) = ((i + j : Nat) : Int) := by rw [w64_id (by omega) (by omega)]; omega
      have eK : miK (i : Nat) (j : Nat) = i + j := by unfold miK; rw [ew, Int.toNat_natCast]
      have hc := mC_le V A b i j
      have hdV := dg_lt V (i + j)
      have hdb := dg_lt b j
      rw [wB_eq] at hdV hdb
      have eY : mY V W (i + j) (0 + (i + j)) = ((dg V (i + j) : Nat) : Int) := by
        unfold mY
        rw [if_neg (by omega), Nat.zero_add]
        rfl
      have hAb : A * dg b j ≤ 1000000 * 1000000 := Nat.mul_le_mul (by omega) (by omega)
      have eS : miS (i : Nat) ((mC V A b i j : Nat) : Int) (j : Nat) (mY V W (i + j)) = ((dg V (i + j) + mC V A b i j : Nat) : Int) := by
        unfold miS
        rw [eK, eY, w64_id (by omega) (by omega)]
        omega
      have eN := mC_next V A b i j
      have eW : dg W (i + j) = mS V A b i j % wB := by rw [← hWe]; exact dg_W V A b i j
      have hS : mS V A b i j = dg V (i + j) + mC V A b i j + A * dg b j := rfl
      have out : ∀ v : Int, v = ((mS V A b i j : Nat) : Int) → miT s (nw a) (mI a) t (nw b) (mI b) N (i : Nat) (j : Nat) (mY V W (i + j)) v = some ⟨.normal, bmI s (nw a) (mI a) t (nw b) (mI b) N (i : Nat) ((mC V A b i (j + 1) : Nat) : Int) ((j + 1 : Nat) : Int) (mY V W (i + (j + 1))), .any⟩ := fun v hv => by
        have h1 : v.tdiv 1000000 = ((mC V A b i (j + 1) : Nat) : Int) := by rw [hv, eN]; exact (Int.ofNat_tdiv _ 1000000).symm
        have h2 : v.tmod 1000000 = ((dg W (i + j) : Nat) : Int) := by rw [hv, eW]; exact (Int.ofNat_tmod _ 1000000).symm
        have hc2 := mC_le V A b i (j + 1)
        unfold miT
        rw [eK, ew, ixB_t hij, stU_t hij, h1, w64_id (n := ((mC V A b i (j + 1) : Nat) : Int)) (by omega) (by omega), w64_next (by omega)]
        have e3 : miV (i : Nat) (j : Nat) (mY V W (i + j)) v = mY V W (i + (j + 1)) := funext fun q => by
          unfold miV
          rw [eK, h2, Nat.zero_add]
          by_cases hq : q = i + j
          · subst hq
            rw [show (i + j == i + j) = true from BEq.rfl]
            show ((dg W (i + j) : Nat) : Int) = if i + j < i + (j + 1) then mI W (i + j) else mI V (i + j)
            rw [if_pos (by omega)]
            rfl
          · rw [beq_false_of_ne hq]
            show mY V W (i + j) q = _
            unfold mY
            by_cases g : q < i + j
            · rw [if_pos g, if_pos (by omega)]
            · rw [if_neg g, if_neg (by omega)]
        rw [e3]
        rfl
      refine leads_ev (finN_sub _ _) e_nil k_nil noL_ok (st.trans ?_)
      unfold miC
      rw [ew, eK, ixB_t hij, stU_t hij]
      by_cases hjb : j < nw b
      · rw [dec_lt hjb, ixB_t hi, ixB_t hjb, out _ (by
          rw [eS, Int.toNat_natCast, Int.toNat_natCast]
          have e5 : mI a i * mI b j = ((A * dg b j : Nat) : Int) := by unfold mI; rw [hAe]; exact (Int.natCast_mul A (dg b j)).symm
          rw [e5]
          rw [w64_id (n := ((A * dg b j : Nat) : Int)) (by omega) (by omega), w64_id (by omega) (by omega), hS]
          omega)]
        rfl
      · have hjn : j = nw b := by omega
        have hpos : mC V A b i j ≠ 0 := by rw [hjn]; exact hJ4 (by omega)
        have hz : dg b j = 0 := dg_zero (by rw [hjn]; exact nw_lt b)
        rw [show decide (((j : Nat) : Int) < ((nw b : Nat) : Int)) = false from decide_eq_false (by omega), decide_eq_true (show ((mC V A b i j : Nat) : Int) > 0 by omega), out (miS (i : Nat) ((mC V A b i j : Nat) : Int) (j : Nat) (mY V W (i + j))) (by rw [eS, hS, hz]; rfl)]
        rfl
    · refine leads_ev (finE_sub _ _) e_nil k_nil noL_ok ((mi_end s (nw a) (mI a) t (nw b) (mI b) N (i : Nat) ((mC V A b i J : Nat) : Int) (J : Nat) (mY V W (i + J))).trans ?_)
      unfold miC
      rw [show decide (((J : Nat) : Int) < ((nw b : Nat) : Int)) = false from decide_eq_false (by omega), hJ3]
      rfl
  rw [← hst, ← hfin, hJ3, mC_zero] at key
  exact key
theorem mo_leads : Leads Try.prog (.loop (loopAt Try.f27 0)) (bmO s (nw a) (mI a) t (nw b) (mI b) N 0 fun _ => 0) (.exit 0) (bmO s (nw a) (mI a) t (nw b) (mI b) N (nw a : Nat) (mI (a * b))) := by
  have key : Leads Try.prog (.loop (loopAt Try.f27 0)) (bmO s (nw a) (mI a) t (nw b) (mI b) N ((0 : Nat) : Int) (mI (a % wB ^ 0 * b))) (.exit 0) (bmO s (nw a) (mI a) t (nw b) (mI b) N (nw a : Nat) (mI (a % wB ^ nw a * b))) := by
    refine loop_rule (fun i => bmO s (nw a) (mI a) t (nw b) (mI b) N (i : Nat) (mI (a % wB ^ i * b))) (nw a) (.exit 0) _ (by simp) (fun i hi => ?_) ?_
    · obtain ⟨J, inner⟩ := mi_leads (s := s) (t := t) hN hs hi
      have hL : LOk Try.prog (moL s (nw a) (mI a) t (nw b) (mI b) N (i : Nat) (mI (a % wB ^ i * b)) (J : Nat) (mI (a % wB ^ (i + 1) * b))) (loopAt Try.f27 0) := lok_at (i := 7) 0 1 (by kernel_rfl) (by kernel_rfl) (toldF_sound inner)
      have st := mo_step s (nw a) (mI a) t (nw b) (mI b) N (i : Nat) (mI (a % wB ^ i * b)) (J : Nat) (mI (a % wB ^ (i + 1) * b))
      rw [dec_lt hi, gate_pos (Sub.refl _), w64_next (by omega)] at st
      exact leads_ev (finN_sub _ _) e_nil k_nil hL st
    · refine leads_ev (finE_sub _ _) e_nil k_nil (lok_none 7) ((mo_end s (nw a) (mI a) t (nw b) (mI b) N (nw a : Nat) _).trans ?_)
      rw [dec_self, cond_false]
  have e0 : mI (a % wB ^ 0 * b) = fun _ => 0 := funext fun q => by
    rw [Nat.pow_zero, Nat.mod_one, Nat.zero_mul]
    unfold mI
    rw [dg_zero (pw_pos q)]
    rfl
  rw [e0, Nat.mod_eq_of_lt (nw_lt a)] at key
  exact key
end
theorem bm_spec {x y : Bg} (hs : nw x.2 + nw y.2 ≤ 9000000000000) : FSpec Try.prog 27 [bgA x, bgA y] (bgA (bmul x y)) := by
  obtain ⟨s, a⟩ := x
  obtain ⟨t, b⟩ := y
  have hs : nw a + nw b ≤ 9000000000000 := hs
  have hL := lok_at (c := bodyOf Try.f27) (i := 3) 0 2 (by kernel_rfl) (by kernel_rfl) (toldF_sound (keep := keepMO) (τ := [some 0, some 1, some 2, some 3]) (mo_leads (s := s) (t := t) (a := a) (b := b) (N := nw a + nw b + 1) rfl (by omega)))
  refine gspecZ (oneZ_ok (frzK_ok 3)) e_nil (k_cons kS_ok k_nil) m_nil Try.func27 (by kernel_rfl) (by kernel_rfl) hL rfl ((mo_ev s (nw a) (mI a) t (nw b) (mI b) (nw a + nw b + 1) (mI (a * b)) (nw (a * b)) (mI (a * b))).trans ?_)
  have ew : w64 (w64 (((nw a : Nat) : Int) + ((nw b : Nat) : Int)) + 1) = ((nw a + nw b + 1 : Nat) : Int) := by
    rw [w64_id (n := ((nw a : Nat) : Int) + ((nw b : Nat) : Int)) (by omega) (by omega), w64_id (by omega) (by omega)]; omega
  have hc : FSpec Try.prog 48 [sJ (nw a + nw b + 1) (mI (a * b))] (sJ (nw (a * b)) (mI (a * b))) := co_spec (a * b) (by omega) (Nat.lt_of_lt_of_le (nw_mul a b) (Nat.pow_le_pow_right wB_pos (by omega)))
  rw [ew, mkI8_t (by omega), Int.toNat_natCast, gate_pos (Sub.refl _), fz1_t, gate_pos hc]
  rfl
end Go.Proofs.Ytgijfbcfajhmlaa

namespace Go.Proofs.Ytgijfbcfajhmlaa
open Go.Gv
open Go.Em (wB wB_pos wB_eq nw nw_lt nw_le nw_zero nw_mul_le nw_add_le nw_mono)

def bgc (u : Bg) : List AV := [bA u.1, msA u.2]
def boG (l : List AV) : AV := bgA (bOf (decI (a0 l)))
def bmG' (l : List AV) : AV := bgA (bmul (decB (a0 l)) (decB (a1 l)))
def baG (l : List AV) : AV := bgA (badd (decB (a0 l)) (decB (a1 l)))
noncomputable def bigK (P : Program) : List KEntry := [kS P 20 boG, kS P 27 bmG', kS P 28 baG]
def a6S (n : Nat) (p : Nat → Int) (x i : Int) (u v : Bg) : St := mkS 34 [(0, sJ n p), (1, iA x), (5, .own 0 0), (6, .own 1 0), (7, iA i)] [.c (bgc u), .c (bgc v)]
def keepA6 : List Nat := [0, 1, 5, 6, 7]
section
variable (n : Nat) (p : Nat → Int) (x i : Int) (u v : Bg)
def a6m (a b : Bg) : Bg := bmul (decB (bgA a)) (decB (bgA b))
def a6a (a b : Bg) : Bg := badd (decB (bgA a)) (decB (bgA b))
noncomputable def gOf (n : Int) (o : Option Out) : Option Out := gate (FSpec Try.prog 20 [iA n] (bgA (bOf n))) o
noncomputable def gMul (a b : Bg) (o : Option Out) : Option Out := gate (FSpec Try.prog 27 [bgA a, bgA b] (bgA (a6m a b))) o
noncomputable def gAdd (a b : Bg) (o : Option Out) : Option Out := gate (FSpec Try.prog 28 [bgA a, bgA b] (bgA (a6a a b))) o
def a6u : Bg := a6a (a6m u (bOf x)) (a6m (bOf (p i.toNat)) v)
def a6v : Bg := a6m v (bOf 65536)
noncomputable def a6T (y z : Option Out) : Option Out := cond (decide (i ≥ 0)) (gOf x (gMul u (bOf x) (gOf (p i.toNat) (gMul (bOf (p i.toNat)) v (gAdd (a6m u (bOf x)) (a6m (bOf (p i.toNat)) v) (cond ((ixB i n || false) && true) (gOf 65536 (gMul v (bOf 65536) y)) none)))))) z
theorem a6_step : evC Try.prog [] (bigK Try.prog) noL (loopAt Try.f13 0) (a6S n p x i u v) (finN keepA6 [some 0, some 1]) =
    a6T n p x i u v (some ⟨.normal, a6S n p x (w64 (i - 1)) (a6u p x i u v) (a6v v), .any⟩) none := by kernel_rfl
theorem a6_end : evC Try.prog [] (bigK Try.prog) noL (loopAt Try.f13 0) (a6S n p x i u v) (finE keepA6 [some 0, some 1]) =
    a6T n p x i u v none (some ⟨.exit 0, a6S n p x i u v, .any⟩) := by kernel_rfl
theorem a6_ev (i' : Int) (w r : Bg) (e : Int) : ev Try.prog [] (kS Try.prog 31 (fun _ => iA e) :: bigK Try.prog) (oneL 4 (toldF keepA6 [some 0, some 1] (a6S n p x i (bOf 0) (bOf 1)) (.exit 0) (a6S n p x i' w r))) Try.f13 [sJ n p, iA x] ret =
    gOf 0 (gOf 1 (gate (Sub (a6S n p x (w64 ((n : Int) - 1)) (bOf 0) (bOf 1)) (a6S n p x i (bOf 0) (bOf 1))) (gate (FSpec Try.prog 31 [bgA w] (iA e)) (some (Out.of (iA e)))))) := by kernel_rfl
end
end Go.Proofs.Ytgijfbcfajhmlaa

namespace Go.Proofs.Ytgijfbcfajhmlaa
open Go.Gv
open Go.Em (wB wB_pos wB_eq nw nw_lt nw_le nw_zero)

def bpA (n : Nat) (f : Nat → Bg) : AV := .sl 2 n fun i => bgc (f i)
/-- How many there are without noughts at the end. -/
def btl (f : Nat → Bg) (n : Nat) : Nat := tl (fun i => bv (f i)) n
theorem bv_zero {x : Bg} : bv x = 0 ↔ x.2 = 0 := by
  obtain ⟨s, a⟩ := x
  cases s <;> simp [bv]
/-! ### polyCut -/
def pcS (n : Nat) (f : Nat → Bg) : St := mkS 23 [(0, bpA n f)] []
section
variable (n : Nat) (f : Nat → Bg)
def pcB : Bool := cond (decide ((n : Int) > 0)) (((nw (f (w64 ((n : Int) - 1)).toNat).2 : Nat) : Int) == 0) false
theorem pc_step : evC Try.prog [] [] noL (loopAt Try.f25 0) (pcS n f) (finN [0] []) =
    cond (gTr (decide ((n : Int) > 0)) (w64 ((n : Int) - 1)) n) (cond (pcB n f) (cond (sbB none (some (w64 ((n : Int) - 1))) none n || false) (some ⟨.normal, mkS 23 [(0, .sl 2 (sbN none (some (w64 ((n : Int) - 1))) n) fun i => bgc (f (sbL none + i)))] [], .any⟩) none) none) none := by kernel_rfl
theorem pc_end : evC Try.prog [] [] noL (loopAt Try.f25 0) (pcS n f) (finE [0] []) =
    cond (gTr (decide ((n : Int) > 0)) (w64 ((n : Int) - 1)) n) (cond (pcB n f) (cond (sbB none (some (w64 ((n : Int) - 1))) none n || false) none none) (some ⟨.exit 0, pcS n f, .any⟩)) none := by kernel_rfl
theorem pc_ev (m : Nat) : ev Try.prog [] [] (oneL 1 (toldF [0] [] (pcS n f) (.exit 0) (pcS m f))) Try.f25 [bpA n f] ret = gate (Sub (pcS n f) (pcS n f)) (some (Out.of (bpA m f))) := by kernel_rfl
end
theorem pc_spec (f : Nat → Bg) {n : Nat} (hn : n ≤ 35184372088832) : FSpec Try.prog 25 [bpA n f] (bpA (btl f n) f) := by
  have hle : btl f n ≤ n := tl_le _ n
  have hz : ∀ {a : Nat}, ((((nw a : Nat) : Int) == 0) = true ↔ a = 0) := fun {a} => by
    rw [beq_iff_eq]
    constructor
    · intro h; exact nw_eq0.1 (by omega)
    · intro h; rw [h, nw_zero]; rfl
  have key : Leads Try.prog (.loop (loopAt Try.f25 0)) (pcS (n - 0) f) (.exit 0) (pcS (btl f n) f) := by
    refine loop_rule (fun j => pcS (n - j) f) (n - btl f n) (.exit 0) _ (by simp) (fun j hj => ?_) ?_
    · obtain ⟨m, hm⟩ : ∃ m, n - j = m + 1 := ⟨n - j - 1, by omega⟩
      have e1 : n - (j + 1) = m := by omega
      rw [hm, e1]
      have ew : w64 (((m + 1 : Nat) : Int) - 1) = ((m : Nat) : Int) := by rw [w64_id (by omega) (by omega)]; omega
      have h0 : (f m).2 = 0 := bv_zero.1 (tl_zero (fun i => bv (f i)) n m (show tl _ n ≤ m by unfold btl at hj hle; omega) (by omega))
      have st := pc_step (m + 1) f
      have hb : pcB (m + 1) f = true := by
        unfold pcB
        rw [decide_eq_true (show ((m + 1 : Nat) : Int) > 0 by omega), ew, Int.toNat_natCast]
        exact hz.2 h0
      have s1 : sbB none (some ((m : Nat) : Int)) none (m + 1) = true := by
        unfold sbB
        simp only [Option.getD_some, Option.getD_none]
        rw [decide_eq_true (Int.le_refl _), decide_eq_true (show (0 : Int) ≤ ((m : Nat) : Int) by omega), decide_eq_true (show ((m : Nat) : Int) ≤ ((m + 1 : Nat) : Int) by omega), decide_eq_true (Int.le_refl _)]
        rfl
      have s2 : sbN none (some ((m : Nat) : Int)) (m + 1) = m := by
        unfold sbN
        simp only [Option.getD_some, Option.getD_none]
        omega
      have s3 : (fun i => bgc (f (sbL none + i))) = fun i => bgc (f i) := funext fun i => by
        show bgc (f (0 + i)) = _
        rw [Nat.zero_add]
      rw [gTr_t hn (by omega), hb, ew, s1, s2, s3] at st
      exact leads_ev (finN_sub [0] []) e_nil k_nil noL_ok st
    · rw [show n - (n - btl f n) = btl f n by omega]
      refine leads_ev (finE_sub [0] []) e_nil k_nil noL_ok ((pc_end (btl f n) f).trans ?_)
      have hb : pcB (btl f n) f = false := by
        unfold pcB
        by_cases h : btl f n = 0
        · rw [h]; rfl
        · have ht : bv (f (btl f n - 1)) ≠ 0 := tl_top (fun i => bv (f i)) n h
          rw [decide_eq_true (show ((btl f n : Nat) : Int) > 0 by omega), show w64 ((btl f n : Int) - 1) = ((btl f n - 1 : Nat) : Int) by rw [w64_id (by omega) (by omega)]; omega, Int.toNat_natCast, cond_true]
          cases hh : (((nw (f (btl f n - 1)).2 : Nat) : Int) == 0)
          · rfl
          · exact absurd (bv_zero.2 (hz.1 hh)) ht
      rw [gTr_t hn hle, hb]
      rfl
  refine gspec e_nil k_nil Try.func25 (by kernel_rfl) (by kernel_rfl) (lok_at 0 1 (by kernel_rfl) (by kernel_rfl) (toldF_sound key)) rfl ((pc_ev n f (btl f n)).trans ?_)
  rw [gate_pos (Sub.refl _)]
/-! ### Sums: the text -/
def paS (n : Nat) (f : Nat → Bg) (m : Nat) (g : Nat → Bg) (i : Int) (c : Nat) (el : Nat → List AV) : St := mkS 45 [(0, bpA n f), (1, bpA m g), (5, .osl 0 2 0 c), (6, iA i)] [.a 44 2 c el]
def keepPA : List Nat := [0, 1, 5, 6]
def decC (l : List AV) : Bg := decB (.agg l)
section
variable (n : Nat) (f : Nat → Bg) (m : Nat) (g : Nat → Bg) (i : Int) (c : Nat) (el : Nat → List AV)
def paN (v : List AV) : Option Out := cond (apB c 32 || false) (some ⟨.normal, paS n f m g (w64 (i + 1)) (c + 1) (fun q => mixL (Nat.blt q c) (el q) v), .any⟩) none
def paZ : Option Out := cond (apB c 32 || false) none none
noncomputable def paM (x : List AV) (y : List AV → Option Out) : Option Out := cond (decide (i < (m : Int))) (gate (FSpec Try.prog 28 [.agg x, bgA (g i.toNat)] (bgA (badd (decC x) (decB (bgA (g i.toNat)))))) (cond ((ixB i m || false) && true) (y (bgc (badd (decC x) (decB (bgA (g i.toNat)))))) none)) (y x)
noncomputable def paT (y : List AV → Option Out) (z : Option Out) : Option Out := cond (cond (decide (i < (n : Int))) true (decide (i < (m : Int)))) (cond (decide (i < (n : Int))) (cond (ixB i n || false) (paM m g i (bgc (f i.toNat)) y) none) (paM m g i bgZ y)) z
theorem pa_step : evC Try.prog [] [kS Try.prog 28 baG] noL (loopAt Try.f26 0) (paS n f m g i c el) (finN keepPA [some 3]) = paT n f m g i (paN n f m g i c el) none := by kernel_rfl
theorem pa_end : evC Try.prog [] [kS Try.prog 28 baG] noL (loopAt Try.f26 0) (paS n f m g i c el) (finE keepPA [some 0]) = paT n f m g i (fun _ => paZ c) (some ⟨.exit 0, paS n f m g i c el, .any⟩) := by kernel_rfl
theorem pa_ev (h : Nat → Bg) (i' : Int) (k : Nat) (z : Nat → Bg) : evZ Try.prog [] [kS Try.prog 28 baG, kS Try.prog 25 (fun _ => bpA k z)] [] (oneL 3 (toldN keepPA [(5, 0, 2)] (.a 44 2 0 fun q => bgc (h q)) [none] (paS n f m g 0 0 fun q => bgc (h q)) (.exit 0) (paS n f m g i' c fun q => bgc (h q)))) (oneZ 11 (frzK 0)) Try.f26 [bpA n f, bpA m g] ret =
    gate (Sub (paS n f m g 0 0 fun q => bgc (h q)) (paS n f m g 0 0 fun q => bgc (h q))) (cond (fz1 c) (gate (FSpec Try.prog 25 [bpA c h] (bpA k z)) (some (Out.of (bpA k z)))) none) := by kernel_rfl
end
/-! ### Multiples: the text -/
def pbS (n : Nat) (f : Nat → Bg) (k : Bg) (i : Int) (c : Nat) (el : Nat → List AV) : St := mkS 26 [(0, bpA n f), (3, .own 0 0), (5, .osl 1 2 0 c), (6, iA i)] [.c (bgc k), .a 44 2 c el]
def keepPB : List Nat := [0, 3, 5, 6]
section
variable (n : Nat) (f : Nat → Bg) (k : Bg) (i : Int) (c : Nat) (el : Nat → List AV)
noncomputable def pbT (y z : Option Out) : Option Out := cond (decide (i < (n : Int))) (gMul (f i.toNat) k (cond ((ixB i n || false) && true) (cond (apB c 32 || false) y none) none)) z
theorem pb_step : evC Try.prog [] (bigK Try.prog) noL (loopAt Try.f30 0) (pbS n f k i c el) (finN keepPB [some 0, some 4]) = pbT n f k i c (some ⟨.normal, pbS n f k (w64 (i + 1)) (c + 1) (fun q => mixL (Nat.blt q c) (el q) (bgc (a6m (f i.toNat) k))), .any⟩) none := by kernel_rfl
theorem pb_end : evC Try.prog [] (bigK Try.prog) noL (loopAt Try.f30 0) (pbS n f k i c el) (finE keepPB [some 0, some 1]) = pbT n f k i c none (some ⟨.exit 0, pbS n f k i c el, .any⟩) := by kernel_rfl
theorem pb_ev (h : Nat → Bg) (i' : Int) (r : Nat) (z : Nat → Bg) : evZ Try.prog [] (kS Try.prog 25 (fun _ => bpA r z) :: bigK Try.prog) [] (oneL 3 (toldN keepPB [(5, 1, 2)] (.a 44 2 0 fun q => bgc (h q)) [some 0, none] (pbS n f k 0 0 fun q => bgc (h q)) (.exit 0) (pbS n f k i' c fun q => bgc (h q)))) (oneZ 7 (frzK 1)) Try.f30 [bpA n f, bgA k] ret =
    gate (Sub (pbS n f k 0 0 fun q => bgc (h q)) (pbS n f k 0 0 fun q => bgc (h q))) (cond (fz1 c) (gate (FSpec Try.prog 25 [bpA c h] (bpA r z)) (some (Out.of (bpA r z)))) none) := by kernel_rfl
end
/-! ### Slopes: the text -/
def psS (n : Nat) (f : Nat → Bg) (i : Int) (c : Nat) (el : Nat → List AV) : St := mkS 25 [(0, bpA n f), (3, .osl 0 2 0 c), (4, iA i)] [.a 44 2 c el]
def keepPS : List Nat := [0, 3, 4]
section
variable (n : Nat) (f : Nat → Bg) (i : Int) (c : Nat) (el : Nat → List AV)
noncomputable def psT (y z : Option Out) : Option Out := cond (decide (i < (n : Int))) (gOf i (gMul (f i.toNat) (bOf i) (cond ((ixB i n || false) && true) (cond (apB c 32 || false) y none) none))) z
theorem ps_step : evC Try.prog [] (bigK Try.prog) noL (loopAt Try.f57 0) (psS n f i c el) (finN keepPS [some 3]) = psT n f i c (some ⟨.normal, psS n f (w64 (i + 1)) (c + 1) (fun q => mixL (Nat.blt q c) (el q) (bgc (a6m (f i.toNat) (bOf i)))), .any⟩) none := by kernel_rfl
theorem ps_end : evC Try.prog [] (bigK Try.prog) noL (loopAt Try.f57 0) (psS n f i c el) (finE keepPS [some 0]) = psT n f i c none (some ⟨.exit 0, psS n f i c el, .any⟩) := by kernel_rfl
theorem ps_ev (h : Nat → Bg) (i' : Int) (r : Nat) (z : Nat → Bg) : evZ Try.prog [] (kS Try.prog 25 (fun _ => bpA r z) :: bigK Try.prog) [] (oneL 3 (toldN keepPS [(3, 0, 2)] (.a 44 2 0 fun q => bgc (h q)) [none] (psS n f 1 0 fun q => bgc (h q)) (.exit 0) (psS n f i' c fun q => bgc (h q)))) (oneZ 7 (frzK 0)) Try.f57 [bpA n f] ret =
    gate (Sub (psS n f 1 0 fun q => bgc (h q)) (psS n f 1 0 fun q => bgc (h q))) (cond (fz1 c) (gate (FSpec Try.prog 25 [bpA c h] (bpA r z)) (some (Out.of (bpA r z)))) none) := by kernel_rfl
end
end Go.Proofs.Ytgijfbcfajhmlaa

namespace Go.Sturm
abbrev Fn : Type := Rat → Rat

/-- The size of a is at most A. -/
def Ab (a A : Rat) : Prop := -A ≤ a ∧ a ≤ A
theorem Ab.add {a b A B : Rat} (h : Ab a A) (k : Ab b B) : Ab (a + b) (A + B) := ⟨by grind [Ab], by grind [Ab]⟩
theorem Ab.neg {a A : Rat} (h : Ab a A) : Ab (-a) A := ⟨by grind [Ab], by grind [Ab]⟩
theorem Ab.mono {a A B : Rat} (h : Ab a A) (k : A ≤ B) : Ab a B := ⟨by grind [Ab], by grind [Ab]⟩
theorem Ab.nn {a A : Rat} (h : Ab a A) : 0 ≤ A := by grind [Ab]
theorem Ab.mul {a b A B : Rat} (h : Ab a A) (k : Ab b B) : Ab (a * b) (A * B) := by
  have h1 : 0 ≤ (A - a) * (B + b) := Rat.mul_nonneg (by grind [Ab]) (by grind [Ab])
  have h2 : 0 ≤ (A + a) * (B - b) := Rat.mul_nonneg (by grind [Ab]) (by grind [Ab])
  have h3 : 0 ≤ (A - a) * (B - b) := Rat.mul_nonneg (by grind [Ab]) (by grind [Ab])
  have h4 : 0 ≤ (A + a) * (B + b) := Rat.mul_nonneg (by grind [Ab]) (by grind [Ab])
  exact ⟨by grind, by grind⟩
theorem ab_self (x : Rat) : ∃ A, 0 ≤ A ∧ Ab x A := by
  by_cases h : 0 ≤ x
  · exact ⟨x, h, by grind [Ab]⟩
  · exact ⟨-x, by grind, by grind [Ab]⟩
theorem sq_nn (x : Rat) : 0 ≤ x * x := by
  by_cases h : 0 ≤ x
  · exact Rat.mul_nonneg h h
  · have := Rat.mul_nonneg (show 0 ≤ -x by grind) (show 0 ≤ -x by grind)
    grind
theorem ab_sq {x A : Rat} (h : Ab x A) : x * x ≤ A * A := (h.mul h).2
theorem arch (r : Rat) : ∃ n : Nat, 0 < n ∧ r ≤ (n : Rat) := by
  refine ⟨r.ceil.toNat + 1, by omega, Rat.le_trans (Rat.le_ceil (x := r)) ?_⟩
  rw [← Rat.intCast_natCast, Rat.intCast_le_intCast]
  omega

theorem inv_pos {s : Rat} (h : 0 < s) : ∃ i, 0 < i ∧ s * i = 1 := by
  have hi : s * s⁻¹ = 1 := Rat.mul_inv_cancel s (by grind)
  refine ⟨s⁻¹, Decidable.byContradiction fun hh => ?_, hi⟩
  have := Rat.mul_nonneg (show 0 ≤ -s⁻¹ by grind) (show 0 ≤ s by grind)
  grind
theorem small (c : Rat) {d : Rat} (hd : 0 < d) : ∃ t, 0 < t ∧ t ≤ 1 ∧ c * t < d := by
  obtain ⟨A, hA, ha⟩ := ab_self c
  obtain ⟨i, hi, e⟩ := inv_pos (show 0 < d + (A + 1) by grind)
  have h0 := Rat.mul_pos hd hi
  have e2 : d * (d * i) + (A + 1) * (d * i) = d := by
    have : d * (d * i) + (A + 1) * (d * i) = d * ((d + (A + 1)) * i) := by grind
    rw [this, e]; grind
  have h1 := Rat.mul_pos hd h0
  generalize d * i = t at *
  refine ⟨t, h0, Decidable.byContradiction fun hh => ?_, ?_⟩
  · have := Rat.mul_pos (show 0 < t - 1 by grind) (show 0 < d + (A + 1) by grind)
    grind
  · have := Rat.mul_le_mul_of_nonneg_right (show c ≤ A by grind [Ab]) (show 0 ≤ t by grind)
    grind
theorem parts (c : Rat) {d : Rat} (hd : 0 < d) : ∃ (n : Nat) (t : Rat), 0 < t ∧ (1 : Rat) ≤ n ∧ (n : Rat) * t = 1 ∧ c ≤ (n : Rat) * d := by
  obtain ⟨i, hi, e⟩ := inv_pos hd
  obtain ⟨n, hn0, hn1⟩ := arch (c * i)
  have hnp : (1 : Rat) ≤ (n : Rat) := by
    have : ((1 : Nat) : Rat) ≤ (n : Rat) := Rat.natCast_le_natCast.2 hn0
    simpa using this
  obtain ⟨t, ht, et⟩ := inv_pos (show (0 : Rat) < n by grind)
  refine ⟨n, t, ht, hnp, et, ?_⟩
  have h := Rat.mul_le_mul_of_nonneg_right hn1 (show 0 ≤ d by grind)
  have e3 : c * i * d = c := by
    have : c * i * d = c * (d * i) := by grind
    rw [this, e]; grind
  rw [e3] at h; exact h
/-- g is the slope of f. -/
def IsD (f g : Fn) : Prop := ∀ M : Rat, ∃ C : Rat, 0 ≤ C ∧ ∀ x y, Ab x M → Ab y M → Ab (f y - f x - (y - x) * g x) (C * ((y - x) * (y - x)))
def Bdd (f : Fn) : Prop := ∀ M : Rat, ∃ K : Rat, 0 ≤ K ∧ ∀ x, Ab x M → Ab (f x) K

theorem isD_const (c : Rat) : IsD (fun _ => c) (fun _ => 0) := fun M => ⟨0, by grind, fun x y _ _ => by
  show Ab (c - c - (y - x) * 0) (0 * ((y - x) * (y - x)))
  exact ⟨by grind, by grind⟩⟩
theorem IsD.add {f f' g g' : Fn} (h : IsD f f') (k : IsD g g') : IsD (fun x => f x + g x) (fun x => f' x + g' x) := fun M => by
  obtain ⟨C, hC, h⟩ := h M
  obtain ⟨K, hK, k⟩ := k M
  refine ⟨C + K, by grind, fun x y hx hy => ?_⟩
  have := (h x y hx hy).add (k x y hx hy)
  have e1 : f y + g y - (f x + g x) - (y - x) * (f' x + g' x) = f y - f x - (y - x) * f' x + (g y - g x - (y - x) * g' x) := by grind
  have e2 : (C + K) * ((y - x) * (y - x)) = C * ((y - x) * (y - x)) + K * ((y - x) * (y - x)) := by grind
  rw [e2]
  show Ab (f y + g y - (f x + g x) - (y - x) * (f' x + g' x)) _
  rw [e1]; exact this
theorem IsD.smul {f f' : Fn} (c : Rat) (h : IsD f f') : IsD (fun x => c * f x) (fun x => c * f' x) := fun M => by
  obtain ⟨C, hC, h⟩ := h M
  obtain ⟨A, hA, ha⟩ := ab_self c
  refine ⟨A * C, Rat.mul_nonneg hA hC, fun x y hx hy => ?_⟩
  have := ha.mul (h x y hx hy)
  have e1 : c * f y - c * f x - (y - x) * (c * f' x) = c * (f y - f x - (y - x) * f' x) := by grind
  have e2 : A * C * ((y - x) * (y - x)) = A * (C * ((y - x) * (y - x))) := by grind
  rw [e2]
  show Ab (c * f y - c * f x - (y - x) * (c * f' x)) _
  rw [e1]; exact this
theorem IsD.xmul {f f' : Fn} (h : IsD f f') (hb : Bdd f') : IsD (fun x => x * f x) (fun x => f x + x * f' x) := fun M => by
  obtain ⟨C, hC, h⟩ := h M
  obtain ⟨K, hK, hb⟩ := hb M
  by_cases hM : 0 ≤ M
  · refine ⟨M * C + K, by have := Rat.mul_nonneg hM hC; grind, fun x y hx hy => ?_⟩
    have h1 := hy.mul (h x y hx hy)
    have h2 : Ab ((y - x) * (y - x) * f' x) ((y - x) * (y - x) * K) := (show Ab ((y - x) * (y - x)) ((y - x) * (y - x)) from ⟨by have := sq_nn (y - x); grind, Rat.le_refl⟩).mul (hb x hx)
    have e1 : y * f y - x * f x - (y - x) * (f x + x * f' x) = y * (f y - f x - (y - x) * f' x) + (y - x) * (y - x) * f' x := by grind
    have e2 : (M * C + K) * ((y - x) * (y - x)) = M * (C * ((y - x) * (y - x))) + (y - x) * (y - x) * K := by grind
    rw [e2]
    show Ab (y * f y - x * f x - (y - x) * (f x + x * f' x)) _
    rw [e1]; exact h1.add h2
  · exact ⟨0, by grind, fun x y hx _ => absurd hx.nn hM⟩
theorem IsD.unique {f g g' : Fn} (h : IsD f g) (k : IsD f g') : g = g' := by
  have key : ∀ {g g' : Fn}, IsD f g → IsD f g' → ∀ x, g x ≤ g' x := by
    intro g g' h k x
    obtain ⟨A, hA, ha⟩ := ab_self x
    obtain ⟨C, hC, h⟩ := h (A + 1)
    obtain ⟨K, hK, k⟩ := k (A + 1)
    refine Decidable.byContradiction fun hn => ?_
    obtain ⟨t, ht, ht1, hs⟩ := small (C + K) (show 0 < g x - g' x by grind)
    have b1 : Ab x (A + 1) := ha.mono (by grind)
    have b2 : Ab (x + t) (A + 1) := ⟨by grind [Ab], by grind [Ab]⟩
    have h1 := (h x (x + t) b1 b2).1
    have k1 := (k x (x + t) b1 b2).2
    have e : x + t - x = t := by grind
    rw [e] at h1 k1
    have := Rat.mul_pos ht (show 0 < g x - g' x - (C + K) * t by grind)
    clear h k hn hs b1 b2 ha
    grind
  exact funext fun x => Rat.le_antisymm (key h k x) (key k h x)

/-- Polynomials, with their slopes. -/
inductive PD : Fn → Fn → Prop
  | zero : PD (fun _ => 0) (fun _ => 0)
  | cons (a : Rat) {f g : Fn} : PD f g → PD (fun x => a + x * f x) (fun x => f x + x * g x)
def Pol (f : Fn) : Prop := ∃ g, PD f g
theorem Pol.zero : Pol (fun _ => 0) := ⟨_, .zero⟩
theorem Pol.cons (a : Rat) {f : Fn} (h : Pol f) : Pol (fun x => a + x * f x) := by obtain ⟨g, h⟩ := h; exact ⟨_, .cons a h⟩
theorem Pol.ind {P : Fn → Prop} (z : P (fun _ => 0)) (c : ∀ (a : Rat) {f : Fn}, Pol f → P f → P (fun x => a + x * f x)) {f : Fn} (h : Pol f) : P f := by
  obtain ⟨g, h⟩ := h
  induction h with
  | zero => exact z
  | cons a h ih => exact c a ⟨_, h⟩ ih
theorem Pol.bdd {f : Fn} (h : Pol f) : Bdd f := by
  refine h.ind (P := Bdd) (fun M => ⟨0, by grind, fun x _ => ⟨by grind, by grind⟩⟩) fun a f _ ih M => ?_
  obtain ⟨K, hK, ih⟩ := ih M
  obtain ⟨A, hA, ha⟩ := ab_self a
  by_cases hM : 0 ≤ M
  · exact ⟨A + M * K, by have := Rat.mul_nonneg hM hK; grind, fun x hx => ha.add (hx.mul (ih x hx))⟩
  · exact ⟨0, by grind, fun x hx => absurd hx.nn hM⟩
theorem Pol.add {f g : Fn} (h : Pol f) (k : Pol g) : Pol (fun x => f x + g x) := by
  refine h.ind (P := fun f => ∀ {g : Fn}, Pol g → Pol (fun x => f x + g x)) (fun {g} k => ?_) (fun a f hf ih g k => ?_) k
  · rw [show (fun x => 0 + g x) = g from funext fun x => by grind]; exact k
  · refine k.ind (P := fun g => Pol (fun x => a + x * f x + g x)) ?_ fun b g hg _ => ?_
    · rw [show (fun x => a + x * f x + 0) = fun x => a + x * f x from funext fun x => by grind]; exact hf.cons a
    · rw [show (fun x => a + x * f x + (b + x * g x)) = fun x => (a + b) + x * (f x + g x) from funext fun x => by grind]
      exact (ih hg).cons _
theorem Pol.smul {f : Fn} (c : Rat) (h : Pol f) : Pol (fun x => c * f x) := by
  refine h.ind (P := fun f => Pol (fun x => c * f x)) ?_ fun a f _ ih => ?_
  · rw [show (fun _ : Rat => c * 0) = fun _ => 0 from funext fun x => by grind]; exact Pol.zero
  · rw [show (fun x => c * (a + x * f x)) = fun x => c * a + x * (c * f x) from funext fun x => by grind]
    exact ih.cons _
theorem Pol.const (c : Rat) : Pol (fun _ => c) := by
  have := Pol.zero.cons c
  rwa [show (fun x : Rat => c + x * 0) = fun _ => c from funext fun x => by grind] at this
theorem Pol.xmul {f : Fn} (h : Pol f) : Pol (fun x => x * f x) := by
  have := h.cons 0
  rwa [show (fun x : Rat => 0 + x * f x) = fun x => x * f x from funext fun x => by grind] at this
theorem Pol.mul {f g : Fn} (h : Pol f) (k : Pol g) : Pol (fun x => f x * g x) := by
  refine h.ind (P := fun f => Pol (fun x => f x * g x)) ?_ fun a f _ ih => ?_
  · rw [show (fun x => 0 * g x) = fun _ => 0 from funext fun x => by grind]; exact Pol.zero
  · rw [show (fun x => (a + x * f x) * g x) = fun x => a * g x + x * (f x * g x) from funext fun x => by grind]
    exact (k.smul a).add ih.xmul
theorem Pol.sub {f g : Fn} (h : Pol f) (k : Pol g) : Pol (fun x => f x - g x) := by
  have := h.add (k.smul (-1))
  rwa [show (fun x => f x + -1 * g x) = fun x => f x - g x from funext fun x => by grind] at this
theorem PD.pol {f g : Fn} (h : PD f g) : Pol g := by
  induction h with
  | zero => exact Pol.zero
  | cons a h ih => exact (show Pol _ from ⟨_, h⟩).add ih.xmul
theorem PD.isD {f g : Fn} (h : PD f g) : IsD f g := by
  induction h with
  | zero => exact isD_const 0
  | cons a h ih =>
    rename_i f g
    have := (isD_const a).add (ih.xmul h.pol.bdd)
    rwa [show (fun x => 0 + (f x + x * g x)) = fun x => f x + x * g x from funext fun x => by grind] at this
/-- The slope. -/
noncomputable def D (f : Fn) : Fn := open Classical in if h : Pol f then h.choose else fun _ => 0
theorem D_pd {f : Fn} (h : Pol f) : PD f (D f) := by unfold D; rw [dif_pos h]; exact h.choose_spec
theorem D_isD {f : Fn} (h : Pol f) : IsD f (D f) := (D_pd h).isD
theorem Pol.D {f : Fn} (h : Pol f) : Pol (D f) := (D_pd h).pol
theorem D_eq {f g : Fn} (h : Pol f) (k : IsD f g) : D f = g := (D_isD h).unique k
theorem D_const (c : Rat) : D (fun _ => c) = fun _ => 0 := D_eq (Pol.const c) (isD_const c)
theorem D_add {f g : Fn} (h : Pol f) (k : Pol g) : D (fun x => f x + g x) = fun x => D f x + D g x := D_eq (h.add k) ((D_isD h).add (D_isD k))
theorem D_smul {f : Fn} (c : Rat) (h : Pol f) : D (fun x => c * f x) = fun x => c * D f x := D_eq (h.smul c) ((D_isD h).smul c)
theorem D_xmul {f : Fn} (h : Pol f) : D (fun x => x * f x) = fun x => f x + x * D f x := D_eq h.xmul ((D_isD h).xmul h.D.bdd)
theorem D_cons (a : Rat) {f : Fn} (h : Pol f) : D (fun x => a + x * f x) = fun x => f x + x * D f x := by
  rw [D_add (Pol.const a) h.xmul, D_const, D_xmul h]
  exact funext fun x => by grind
theorem D_mul {f g : Fn} (h : Pol f) (k : Pol g) : D (fun x => f x * g x) = fun x => D f x * g x + f x * D g x := by
  refine h.ind (P := fun f => D (fun x => f x * g x) = fun x => D f x * g x + f x * D g x) ?_ fun a f hf ih => ?_
  · rw [D_const, show (fun x => 0 * g x) = fun _ => 0 from funext fun x => by grind, D_const]
    exact funext fun x => by grind
  · rw [show (fun x => (a + x * f x) * g x) = fun x => a * g x + x * (f x * g x) from funext fun x => by grind, D_add (k.smul a) (hf.mul k).xmul, D_smul a k, D_xmul (hf.mul k), ih, D_cons a hf]
    exact funext fun x => by grind
/-! ### What slopes say -/
theorem ab_between {a b x A B : Rat} (ha : Ab a A) (hb : Ab b B) (h1 : a ≤ x) (h2 : x ≤ b) : Ab x (A + B) := by
  have := ha.nn
  have := hb.nn
  exact ⟨by grind [Ab], by grind [Ab]⟩
theorem mono {f : Fn} (hf : Pol f) {a b : Rat} (hab : a ≤ b) (hg : ∀ x, a ≤ x → x ≤ b → 0 ≤ D f x) : f a ≤ f b := by
  obtain ⟨A, hA, ha⟩ := ab_self a
  obtain ⟨B, hB, hb⟩ := ab_self b
  obtain ⟨C, hC, h⟩ := D_isD hf (A + B)
  refine Decidable.byContradiction fun hn => ?_
  obtain ⟨n, t, ht, hnp, hi, hn2⟩ := parts (C * ((b - a) * (b - a)) + 1) (show 0 < f a - f b by grind)
  have hw : 0 ≤ (b - a) * t := Rat.mul_nonneg (by grind) (by grind)
  have step : ∀ k : Nat, k ≤ n → f a - (k : Rat) * (C * ((b - a) * t * ((b - a) * t))) ≤ f (a + (k : Rat) * ((b - a) * t)) := by
    intro k
    induction k with
    | zero => intro _; have e : a + ((0 : Nat) : Rat) * ((b - a) * t) = a := by simp; grind
              rw [e]; simp; grind
    | succ k ih =>
      intro hk
      have ih := ih (by omega)
      have hk1 : ((k : Nat) : Rat) + 1 ≤ (n : Rat) := by
        have : ((k + 1 : Nat) : Rat) ≤ (n : Rat) := Rat.natCast_le_natCast.2 hk
        simpa using this
      have hk0 : (0 : Rat) ≤ (k : Rat) := by
        have : ((0 : Nat) : Rat) ≤ (k : Rat) := Rat.natCast_le_natCast.2 (Nat.zero_le _)
        simpa using this
      have ec : ((k + 1 : Nat) : Rat) = (k : Rat) + 1 := by simp
      rw [ec]
      have l0 : 0 ≤ (k : Rat) * ((b - a) * t) := Rat.mul_nonneg hk0 hw
      have l1 : ((k : Rat) + 1) * ((b - a) * t) ≤ b - a := by
        have := Rat.mul_le_mul_of_nonneg_right hk1 hw
        have : (n : Rat) * ((b - a) * t) = b - a := by grind
        grind
      generalize hx : a + (k : Rat) * ((b - a) * t) = x at ih
      have ey : a + ((k : Rat) + 1) * ((b - a) * t) = x + (b - a) * t := by grind
      rw [ey]
      have hx1 : a ≤ x := by grind
      have hy1 : x + (b - a) * t ≤ b := by grind
      have := (h x (x + (b - a) * t) (ab_between ha hb hx1 (by grind)) (ab_between ha hb (by grind) hy1)).1
      have hp := Rat.mul_nonneg hw (hg x hx1 (by grind))
      grind
  have fin := step n (Nat.le_refl _)
  have e1 : a + (n : Rat) * ((b - a) * t) = b := by grind
  rw [e1] at fin
  have e2 : (n : Rat) * (C * ((b - a) * t * ((b - a) * t))) = C * ((b - a) * (b - a)) * t := by grind
  rw [e2] at fin
  have := Rat.mul_le_mul_of_nonneg_left (show f a - f b ≤ C * ((b - a) * (b - a)) * t by grind) (show (0 : Rat) ≤ n by grind)
  have e3 : (n : Rat) * (C * ((b - a) * (b - a)) * t) = C * ((b - a) * (b - a)) := by grind
  grind
theorem mono_lt {f : Fn} (hf : Pol f) {a b : Rat} (hab : a < b) (hg : ∀ x, a ≤ x → x ≤ b → 0 < D f x) : f a < f b := by
  obtain ⟨A, hA, ha⟩ := ab_self a
  obtain ⟨B, hB, hb⟩ := ab_self b
  obtain ⟨C, hC, h⟩ := D_isD hf (A + B)
  have ga := hg a (by grind) (by grind)
  obtain ⟨t, ht, ht1, hs⟩ := small (C * (b - a)) ga
  have hw : 0 < (b - a) * t := Rat.mul_pos (by grind) ht
  have hw1 : (b - a) * t ≤ b - a := by
    have := Rat.mul_le_mul_of_nonneg_left ht1 (show 0 ≤ b - a by grind)
    grind
  have h1 := (h a (a + (b - a) * t) (ab_between ha hb (by grind) (by grind)) (ab_between ha hb (by grind) (by grind))).1
  have h2 := mono hf (show a + (b - a) * t ≤ b by grind) fun x h1 h2 => Rat.le_of_lt (hg x (by grind) h2)
  have h3 : C * ((b - a) * t) < D f a := by grind
  have h4 := Rat.mul_pos hw (show 0 < D f a - C * ((b - a) * t) by grind)
  grind
theorem lip {f : Fn} (hf : Pol f) (M : Rat) : ∃ K, 0 ≤ K ∧ ∀ x y, Ab x M → Ab y M → x ≤ y → Ab (f y - f x) (K * (y - x)) := by
  obtain ⟨C, hC, h⟩ := D_isD hf M
  obtain ⟨B, hB, hb⟩ := hf.D.bdd M
  by_cases hM : 0 ≤ M
  · refine ⟨B + C * (2 * M), by have := Rat.mul_nonneg hC (show 0 ≤ 2 * M by grind); grind, fun x y hx hy hxy => ?_⟩
    have h1 := h x y hx hy
    have h2 : Ab ((y - x) * D f x) ((y - x) * B) := (show Ab (y - x) (y - x) from ⟨by grind, Rat.le_refl⟩).mul (hb x hx)
    have h3 := (h1.add h2).mono (B := (B + C * (2 * M)) * (y - x)) (by
      have : y - x ≤ 2 * M := by grind [Ab]
      have := Rat.mul_le_mul_of_nonneg_left this (show 0 ≤ C * (y - x) from Rat.mul_nonneg hC (by grind))
      grind)
    rwa [show f y - f x - (y - x) * D f x + (y - x) * D f x = f y - f x by grind] at h3
  · exact ⟨0, by grind, fun x y hx _ _ => absurd hx.nn hM⟩
/-- A polynomial is near its values near by: from above. -/
theorem lim_right {f : Fn} (hf : Pol f) {a b c : Rat} (hab : a < b) (h : ∀ w, a < w → w ≤ b → f w ≤ c) : f a ≤ c := by
  obtain ⟨A, hA, ha⟩ := ab_self a
  obtain ⟨B, hB, hb⟩ := ab_self b
  obtain ⟨K, hK, hl⟩ := lip hf (A + B)
  refine Decidable.byContradiction fun hn => ?_
  obtain ⟨t, ht, ht1, hs⟩ := small (K * (b - a)) (show 0 < f a - c by grind)
  have hw : 0 < (b - a) * t := Rat.mul_pos (by grind) ht
  have hw1 : (b - a) * t ≤ b - a := by
    have := Rat.mul_le_mul_of_nonneg_left ht1 (show 0 ≤ b - a by grind)
    grind
  have h1 := (hl a (a + (b - a) * t) (ab_between ha hb (by grind) (by grind)) (ab_between ha hb (by grind) (by grind)) (by grind)).1
  have h2 := h (a + (b - a) * t) (by grind) (by grind)
  have h3 : K * ((b - a) * t) = K * (b - a) * t := by grind
  clear hl h hn hb ha
  grind
theorem lim_left {f : Fn} (hf : Pol f) {a b c : Rat} (hab : a < b) (h : ∀ w, a ≤ w → w < b → f w ≤ c) : f b ≤ c := by
  obtain ⟨A, hA, ha⟩ := ab_self a
  obtain ⟨B, hB, hb⟩ := ab_self b
  obtain ⟨K, hK, hl⟩ := lip hf (A + B)
  refine Decidable.byContradiction fun hn => ?_
  obtain ⟨t, ht, ht1, hs⟩ := small (K * (b - a)) (show 0 < f b - c by grind)
  have hw : 0 < (b - a) * t := Rat.mul_pos (by grind) ht
  have hw1 : (b - a) * t ≤ b - a := by
    have := Rat.mul_le_mul_of_nonneg_left ht1 (show 0 ≤ b - a by grind)
    grind
  have h1 := (hl (b - (b - a) * t) b (ab_between ha hb (by grind) (by grind)) (ab_between ha hb (by grind) (by grind)) (by grind)).2
  have h2 := h (b - (b - a) * t) (by grind) (by grind)
  have h3 : K * ((b - a) * t) = K * (b - a) * t := by grind
  clear hl h hn hb ha
  grind
end Go.Sturm

namespace Go.Sturm

structure Nest where
  u : Nat → Rat
  v : Nat → Rat
  up : ∀ n, u n ≤ u (n + 1)
  down : ∀ n, v (n + 1) ≤ v n
  lt : ∀ n, u n < v n
  sm : ∀ e : Rat, 0 < e → ∃ n, v n - u n < e
namespace Nest
variable (N : Nest)
def In (n : Nat) (x : Rat) : Prop := N.u n ≤ x ∧ x ≤ N.v n
theorem u_le {m n : Nat} (h : m ≤ n) : N.u m ≤ N.u n := by
  induction h with
  | refl => exact Rat.le_refl
  | step _ ih => exact Rat.le_trans ih (N.up _)
theorem v_le {m n : Nat} (h : m ≤ n) : N.v n ≤ N.v m := by
  induction h with
  | refl => exact Rat.le_refl
  | step _ ih => exact Rat.le_trans (N.down _) ih
theorem u_lt_v (m n : Nat) : N.u m < N.v n := by
  have h1 := N.u_le (Nat.le_max_left m n)
  have h2 := N.v_le (Nat.le_max_right m n)
  have := N.lt (max m n)
  grind
theorem In.mono {m n : Nat} (h : m ≤ n) {x : Rat} (hx : N.In n x) : N.In m x := by
  have h1 := N.u_le h
  have h2 := N.v_le h
  obtain ⟨a, b⟩ := hx
  exact ⟨by grind, by grind⟩
theorem in_u {m n : Nat} (h : m ≤ n) : N.In m (N.u n) := ⟨N.u_le h, Rat.le_of_lt (N.u_lt_v n m)⟩
theorem in_v {m n : Nat} (h : m ≤ n) : N.In m (N.v n) := ⟨Rat.le_of_lt (N.u_lt_v m n), N.v_le h⟩
theorem bnd : ∃ M, ∀ x, N.In 0 x → Ab x M := by
  obtain ⟨A, hA, ha⟩ := ab_self (N.u 0)
  obtain ⟨B, hB, hb⟩ := ab_self (N.v 0)
  exact ⟨A + B, fun x hx => ab_between ha hb hx.1 hx.2⟩
/-- Nought there. -/
def Zr (f : Fn) : Prop := ∀ e : Rat, 0 < e → ∃ n, ∀ x, N.In n x → Ab (f x) e
/-- Above nought there. -/
def Ps (f : Fn) : Prop := ∃ c : Rat, 0 < c ∧ ∃ n, ∀ x, N.In n x → c ≤ f x
/-- Left of it, right of it. -/
def Lf (x : Rat) : Prop := ∃ n, x < N.u n
def Rt (x : Rat) : Prop := ∃ n, N.v n < x
variable {N}
theorem tri {f : Fn} (hf : Pol f) : N.Zr f ∨ N.Ps f ∨ N.Ps (fun x => -f x) := by
  by_cases h1 : N.Ps f
  · exact Or.inr (Or.inl h1)
  by_cases h2 : N.Ps (fun x => -f x)
  · exact Or.inr (Or.inr h2)
  left
  intro e he
  obtain ⟨M, hM⟩ := N.bnd
  obtain ⟨K, hK, hl⟩ := lip hf M
  obtain ⟨i, hi, ei⟩ := inv_pos (show 0 < K + 1 by grind)
  have he4 : 0 < e * i := Rat.mul_pos he hi
  obtain ⟨n, hn⟩ := N.sm (e * i / 4) (by grind)
  have near : ∀ x, N.In n x → Ab (f x - f (N.u n)) (e / 4) := fun x hx => by
    have hx0 := hx.mono N (Nat.zero_le n)
    have := hl (N.u n) x (hM _ (N.in_u (Nat.zero_le n))) (hM _ hx0) hx.1
    refine this.mono ?_
    have h3 : x - N.u n ≤ e * i / 4 := by have := hx.2; grind
    have h4 := Rat.mul_le_mul_of_nonneg_left h3 hK
    have h5 : K * (e * i / 4) ≤ (K + 1) * (e * i / 4) := by grind
    have h6 : (K + 1) * (e * i / 4) = e * ((K + 1) * i) / 4 := by grind
    rw [ei] at h6
    grind
  refine ⟨n, fun x hx => ?_⟩
  have a1 : f (N.u n) ≤ e / 2 := Decidable.byContradiction fun hh => h1 ⟨e / 4, by grind, n, fun y hy => by
    have := (near y hy).1
    grind⟩
  have a2 : -(e / 2) ≤ f (N.u n) := Decidable.byContradiction fun hh => h2 ⟨e / 4, by grind, n, fun y hy => by
    have := (near y hy).2
    show e / 4 ≤ -f y
    grind⟩
  have := near x hx
  exact ⟨by grind [Ab], by grind [Ab]⟩
theorem Zr.not_Ps {f : Fn} (h : N.Zr f) : ¬ N.Ps f := fun ⟨c, hc, n, hp⟩ => by
  obtain ⟨m, hm⟩ := h (c / 2) (by grind)
  have h1 := hp (N.u (max m n)) (N.in_u (Nat.le_max_right m n))
  have h2 := (hm (N.u (max m n)) (N.in_u (Nat.le_max_left m n))).2
  grind
theorem Ps.not_neg {f : Fn} (h : N.Ps f) : ¬ N.Ps (fun x => -f x) := fun ⟨c, hc, n, hp⟩ => by
  obtain ⟨d, hd, m, hq⟩ := h
  have h1 := hp (N.u (max m n)) (N.in_u (Nat.le_max_right m n))
  have h2 := hq (N.u (max m n)) (N.in_u (Nat.le_max_left m n))
  grind
theorem Zr.neg {f : Fn} (h : N.Zr f) : N.Zr (fun x => -f x) := fun e he => by
  obtain ⟨n, h⟩ := h e he
  exact ⟨n, fun x hx => (h x hx).neg⟩
theorem Zr.add {f g : Fn} (h : N.Zr f) (k : N.Zr g) : N.Zr (fun x => f x + g x) := fun e he => by
  obtain ⟨n, h⟩ := h (e / 2) (by grind)
  obtain ⟨m, k⟩ := k (e / 2) (by grind)
  refine ⟨max n m, fun x hx => ?_⟩
  have := (h x (hx.mono N (Nat.le_max_left n m))).add (k x (hx.mono N (Nat.le_max_right n m)))
  rwa [show e / 2 + e / 2 = e by grind] at this
theorem Zr.mul {f g : Fn} (h : N.Zr f) (hg : Pol g) : N.Zr (fun x => f x * g x) := fun e he => by
  obtain ⟨M, hM⟩ := N.bnd
  obtain ⟨K, hK, hb⟩ := hg.bdd M
  obtain ⟨i, hi, ei⟩ := inv_pos (show 0 < K + 1 by grind)
  obtain ⟨n, h⟩ := h (e * i) (Rat.mul_pos he hi)
  refine ⟨n, fun x hx => ((h x hx).mul (hb x (hM x (hx.mono N (Nat.zero_le n))))).mono ?_⟩
  have h1 : e * i * K = e * ((K + 1) * i) - e * i := by grind
  rw [ei] at h1
  have := Rat.mul_pos he hi
  grind
theorem Zr.smul {f : Fn} (c : Rat) (h : N.Zr f) : N.Zr (fun x => c * f x) := by
  have := h.mul (Pol.const c)
  rwa [show (fun x => f x * c) = fun x => c * f x from funext fun x => by grind] at this
theorem zr_zero : N.Zr (fun _ => 0) := fun e he => ⟨0, fun _ _ => ⟨by grind, by grind⟩⟩
theorem Ps.add_zr {f g : Fn} (h : N.Ps f) (k : N.Zr g) : N.Ps (fun x => f x + g x) := by
  obtain ⟨c, hc, n, h⟩ := h
  obtain ⟨m, k⟩ := k (c / 2) (by grind)
  refine ⟨c / 2, by grind, max n m, fun x hx => ?_⟩
  have h1 := h x (hx.mono N (Nat.le_max_left n m))
  have h2 := (k x (hx.mono N (Nat.le_max_right n m))).1
  show c / 2 ≤ f x + g x
  grind
theorem Ps.add {f g : Fn} (h : N.Ps f) (k : N.Ps g) : N.Ps (fun x => f x + g x) := by
  obtain ⟨c, hc, n, h⟩ := h
  obtain ⟨d, hd, m, k⟩ := k
  refine ⟨c, hc, max n m, fun x hx => ?_⟩
  have h1 := h x (hx.mono N (Nat.le_max_left n m))
  have h2 := k x (hx.mono N (Nat.le_max_right n m))
  show c ≤ f x + g x
  grind
theorem Ps.smul {f : Fn} {c : Rat} (hc : 0 < c) (h : N.Ps f) : N.Ps (fun x => c * f x) := by
  obtain ⟨d, hd, n, h⟩ := h
  exact ⟨c * d, Rat.mul_pos hc hd, n, fun x hx => Rat.mul_le_mul_of_nonneg_left (h x hx) (by grind)⟩
theorem Ps.mul {f g : Fn} (h : N.Ps f) (k : N.Ps g) : N.Ps (fun x => f x * g x) := by
  obtain ⟨c, hc, n, h⟩ := h
  obtain ⟨d, hd, m, k⟩ := k
  refine ⟨c * d, Rat.mul_pos hc hd, max n m, fun x hx => ?_⟩
  have h1 := h x (hx.mono N (Nat.le_max_left n m))
  have h2 := k x (hx.mono N (Nat.le_max_right n m))
  have h3 := Rat.mul_le_mul_of_nonneg_left h2 (show 0 ≤ c by grind)
  have h4 := Rat.mul_le_mul_of_nonneg_right h1 (show 0 ≤ g x by grind)
  exact Rat.le_trans h3 h4
theorem zr_mul {f g : Fn} (hf : Pol f) (hg : Pol g) (h : N.Zr (fun x => f x * g x)) : N.Zr f ∨ N.Zr g := by
  rcases tri (N := N) hf with h1 | h1 | h1
  · exact Or.inl h1
  all_goals rcases tri (N := N) hg with h2 | h2 | h2
  · exact Or.inr h2
  · exact absurd (h1.mul h2) h.not_Ps
  · have := h1.mul h2
    rw [show (fun x => f x * -g x) = fun x => -(f x * g x) from funext fun x => by grind] at this
    exact absurd this h.neg.not_Ps
  · exact Or.inr h2
  · have := h1.mul h2
    rw [show (fun x => -f x * g x) = fun x => -(f x * g x) from funext fun x => by grind] at this
    exact absurd this h.neg.not_Ps
  · have := h1.mul h2
    rw [show (fun x => -f x * -g x) = fun x => f x * g x from funext fun x => by grind] at this
    exact absurd this h.not_Ps
/-- What is nought at a place that is no nest's inner point but a rational. -/
theorem Zr.at {f : Fn} (h : N.Zr f) {x : Rat} (hx : ∀ n, N.In n x) : f x = 0 := by
  refine Rat.le_antisymm (Decidable.byContradiction fun hh => ?_) (Decidable.byContradiction fun hh => ?_)
  · obtain ⟨n, hn⟩ := h (f x / 2) (by grind)
    have := (hn x (hx n)).2
    grind
  · obtain ⟨n, hn⟩ := h (-f x / 2) (by grind)
    have := (hn x (hx n)).1
    grind
theorem right_pos {f : Fn} (hf : Pol f) {k : Nat} (hz : N.Zr f) (hd : ∀ x, N.In k x → N.Rt x → 0 < D f x) (x : Rat) (hx : N.In k x) (hr : N.Rt x) : 0 < f x := by
  refine Decidable.byContradiction fun hn => ?_
  obtain ⟨m, hm⟩ := hr
  have hm' : N.v (max m k) < x := by have := N.v_le (Nat.le_max_left m k); grind
  generalize hK : max m k = K at hm'
  have hkK : k ≤ K := by omega
  have hz1 : N.v K < (N.v K + x) / 2 ∧ (N.v K + x) / 2 < x := by grind
  generalize (N.v K + x) / 2 = z at hz1
  have inK : ∀ w, N.v K ≤ w → w ≤ x → N.In k w := fun w h1 h2 => by
    have := N.u_lt_v k K
    exact ⟨by grind, by have := hx.2; grind⟩
  have h1 : f z < f x := mono_lt hf hz1.2 fun w h1 h2 => hd w (inK w (by grind) h2) ⟨K, by grind⟩
  have low : ∀ j, K ≤ j → f (N.v j) ≤ f z := fun j hj => by
    have hvj := N.v_le hj
    refine lim_right hf (b := z) (by grind) fun w h1 h2 => ?_
    refine mono hf h2 fun y h3 h4 => Rat.le_of_lt (hd y ?_ ⟨j, by grind⟩)
    have := N.u_lt_v k j
    have := hx.2
    exact ⟨by grind, by grind⟩
  obtain ⟨j, hj⟩ := hz (-f z) (by grind)
  have h2 := low (max j K) (Nat.le_max_right j K)
  obtain ⟨t, ht⟩ := hz (-f z / 2) (by grind)
  have h3 := (ht (N.v (max t K)) (N.in_v (Nat.le_max_left t K))).1
  have h4 := low (max t K) (Nat.le_max_right t K)
  clear hj h2 hd inK low
  grind
theorem left_pos {f : Fn} (hf : Pol f) {k : Nat} (hz : N.Zr f) (hd : ∀ x, N.In k x → N.Lf x → D f x < 0) (x : Rat) (hx : N.In k x) (hr : N.Lf x) : 0 < f x := by
  refine Decidable.byContradiction fun hn => ?_
  obtain ⟨m, hm⟩ := hr
  have hm' : x < N.u (max m k) := by have := N.u_le (Nat.le_max_left m k); grind
  generalize hK : max m k = K at hm'
  have hkK : k ≤ K := by omega
  have hz1 : x < (N.u K + x) / 2 ∧ (N.u K + x) / 2 < N.u K := by grind
  generalize (N.u K + x) / 2 = z at hz1
  have inK : ∀ w, x ≤ w → w ≤ N.u K → N.In k w := fun w h1 h2 => by
    have := N.u_lt_v K k
    exact ⟨by have := hx.1; grind, by grind⟩
  have hng : Pol (fun x => -1 * f x) := hf.smul (-1)
  have hdn : ∀ w, D (fun x => -1 * f x) w = -D f w := fun w => by rw [D_smul (-1) hf]; grind
  have h1 : -1 * f x < -1 * f z := mono_lt hng hz1.1 fun w h1 h2 => by
    rw [hdn]
    have := hd w (inK w h1 (by grind)) ⟨K, by grind⟩
    grind
  have low : ∀ j, K ≤ j → f (N.u j) ≤ f z := fun j hj => by
    have hvj := N.u_le hj
    refine lim_left hf (a := z) (by grind) fun w h1 h2 => ?_
    have h5 : -1 * f z ≤ -1 * f w := mono hng h1 fun y h3 h4 => by
      have := N.u_lt_v j k
      have h6 := hd y ⟨by have := hx.1; grind, by grind⟩ ⟨j, by grind⟩
      rw [hdn]; grind
    grind
  obtain ⟨t, ht⟩ := hz (-f z / 2) (by grind)
  have h3 := (ht (N.u (max t K)) (N.in_u (Nat.le_max_left t K))).1
  have h4 := low (max t K) (Nat.le_max_right t K)
  clear hd inK low
  grind
end Nest
end Go.Sturm

namespace Go.Sturm

/-- The slope's slope, and so on. -/
noncomputable def Dk : Nat → Fn → Fn
  | 0, f => f
  | k + 1, f => Dk k (D f)
theorem Pol.Dk {f : Fn} (h : Pol f) : ∀ k, Pol (Dk k f)
  | 0 => h
  | k + 1 => Pol.Dk h.D k
theorem Dk_succ (f : Fn) : ∀ k, Dk (k + 1) f = D (Dk k f)
  | 0 => rfl
  | k + 1 => Dk_succ (D f) k
theorem Dk_add {f g : Fn} (h : Pol f) (k : Pol g) : ∀ n, Dk n (fun x => f x + g x) = fun x => Dk n f x + Dk n g x
  | 0 => rfl
  | n + 1 => by show Dk n (D _) = _; rw [D_add h k]; exact Dk_add h.D k.D n
theorem Dk_smul {f : Fn} (c : Rat) (h : Pol f) : ∀ n, Dk n (fun x => c * f x) = fun x => c * Dk n f x
  | 0 => rfl
  | n + 1 => by show Dk n (D _) = _; rw [D_smul c h]; exact Dk_smul c h.D n
theorem Dk_zero : ∀ n, Dk n (fun _ => 0) = fun _ => 0
  | 0 => rfl
  | n + 1 => by show Dk n (D _) = _; rw [D_const]; exact Dk_zero n
theorem neg_smul (f : Fn) : (fun x => -f x) = fun x => -1 * f x := funext fun x => by grind
theorem Pol.neg {f : Fn} (h : Pol f) : Pol (fun x => -f x) := by rw [neg_smul]; exact h.smul _
theorem D_neg {f : Fn} (h : Pol f) : D (fun x => -f x) = fun x => -D f x := by rw [neg_smul, D_smul _ h, neg_smul]
theorem Dk_neg {f : Fn} (h : Pol f) (n : Nat) : Dk n (fun x => -f x) = fun x => -Dk n f x := by rw [neg_smul, Dk_smul _ h, neg_smul]
/-- All slopes end. -/
theorem pol_ends {f : Fn} (h : Pol f) : ∃ k, Dk k f = fun _ => 0 := by
  have key : ∀ k f, Pol f → Dk k f = (fun _ => 0) → Dk (k + 1) (fun x => x * f x) = fun _ => 0 := by
    intro k
    induction k with
    | zero =>
      intro f hf h
      have e : f = fun _ => 0 := h
      rw [e, show (fun x : Rat => x * 0) = fun _ => 0 from funext fun x => by grind]
      exact Dk_zero 1
    | succ k ih =>
      intro f hf h
      show Dk (k + 1) (D fun x => x * f x) = _
      rw [D_xmul hf, Dk_add hf hf.D.xmul, ih (D f) hf.D h, h]
      exact funext fun x => by grind
  refine h.ind (P := fun f => ∃ k, Dk k f = fun _ => 0) ⟨0, rfl⟩ fun a f hf ⟨k, hk⟩ => ?_
  refine ⟨k + 1, ?_⟩
  rw [Dk_add (Pol.const a) hf.xmul, key k f hf hk]
  show (fun x => Dk k (D fun _ => a) x + 0) = _
  rw [D_const, Dk_zero]
  exact funext fun x => by grind
theorem const_of {f : Fn} (hf : Pol f) (h : D f = fun _ => 0) (x y : Rat) : f x = f y := by
  have key : ∀ {f : Fn}, Pol f → D f = (fun _ => 0) → ∀ a b : Rat, a ≤ b → f a ≤ f b := fun hf h a b hab => mono hf hab fun x _ _ => by rw [h]; grind
  have two : ∀ a b : Rat, a ≤ b → f a = f b := fun a b hab => by
    have h1 := key hf h a b hab
    have h2 := key hf.neg (by rw [D_neg hf, h]; exact funext fun _ => by grind) a b hab
    grind
  by_cases hxy : x ≤ y
  · exact two x y hxy
  · exact (two y x (by grind)).symm
namespace Nest
variable {N : Nest}
/-- Nought there at least m times. -/
def Om (N : Nest) (f : Fn) (m : Nat) : Prop := ∀ j, j < m → N.Zr (Dk j f)
theorem Om.D {f : Fn} {m : Nat} (h : N.Om f (m + 1)) : N.Om (D f) m := fun j hj => h (j + 1) (by omega)
theorem om_succ {f : Fn} {m : Nat} (h : N.Zr f) (k : N.Om (D f) m) : N.Om f (m + 1)
  | 0, _ => h
  | j + 1, hj => k j (by omega)
theorem Om.le {f : Fn} {m n : Nat} (h : N.Om f m) (k : n ≤ m) : N.Om f n := fun j hj => h j (by omega)
theorem Om.add {f g : Fn} (hf : Pol f) (hg : Pol g) {m : Nat} (h : N.Om f m) (k : N.Om g m) : N.Om (fun x => f x + g x) m := fun j hj => by
  rw [Dk_add hf hg]; exact (h j hj).add (k j hj)
theorem Om.smul {f : Fn} (c : Rat) (hf : Pol f) {m : Nat} (h : N.Om f m) : N.Om (fun x => c * f x) m := fun j hj => by
  rw [Dk_smul c hf]; exact (h j hj).smul c
theorem om_of_smul {f : Fn} {c : Rat} (hc : c ≠ 0) (hf : Pol f) {m : Nat} (h : N.Om (fun x => c * f x) m) : N.Om f m := by
  have := h.smul (c⁻¹) (hf.smul c)
  rwa [show (fun x => c⁻¹ * (c * f x)) = f from funext fun x => by
    have : c⁻¹ * (c * f x) = c * c⁻¹ * f x := by grind
    rw [this, Rat.mul_inv_cancel c hc]; grind] at this
theorem Om.mul : ∀ {m : Nat} {f g : Fn}, Pol f → Pol g → N.Om f m → N.Om (fun x => f x * g x) m
  | 0, _, _, _, _, _ => fun j hj => by omega
  | m + 1, f, g, hf, hg, h => by
    refine om_succ ((h 0 (by omega)).mul hg) ?_
    rw [D_mul hf hg]
    exact Om.add (hf.D.mul hg) (hf.mul hg.D) (Om.mul hf.D hg h.D) (Om.mul hf hg.D (h.le (by omega)))
theorem Om.mul_r {m : Nat} {f g : Fn} (hf : Pol f) (hg : Pol g) (h : N.Om g m) : N.Om (fun x => f x * g x) m := by
  have := Om.mul hg hf h
  rwa [show (fun x => g x * f x) = fun x => f x * g x from funext fun x => by grind] at this
theorem Om.mul2 : ∀ {s a b : Nat} {f g : Fn}, a + b = s → Pol f → Pol g → N.Om f a → N.Om g b → N.Om (fun x => f x * g x) s
  | 0, _, _, _, _, _, _, _, _, _ => fun j hj => by omega
  | s + 1, a, b, f, g, e, hf, hg, h, k => by
    refine om_succ ?_ ?_
    · by_cases ha : a = 0
      · exact (Om.mul_r hf hg k) 0 (by omega)
      · exact (Om.mul hf hg h) 0 (by omega)
    · rw [D_mul hf hg]
      refine Om.add (hf.D.mul hg) (hf.mul hg.D) ?_ ?_
      · cases a with
        | zero => exact (Om.mul_r hf.D hg k).le (by omega)
        | succ a => exact Om.mul2 (a := a) (b := b) (by omega) hf.D hg h.D k
      · cases b with
        | zero => exact (Om.mul hf hg.D h).le (by omega)
        | succ b => exact Om.mul2 (a := a) (b := b) (by omega) hf hg.D h k.D
theorem lead0 : ∀ {n : Nat} {f g : Fn}, Pol f → Pol g → N.Om g n → N.Zr (fun x => Dk n (fun x => f x * g x) x - f x * Dk n g x)
  | 0, f, g, _, _, _ => by
    rw [show (fun x => Dk 0 (fun x => f x * g x) x - f x * Dk 0 g x) = fun _ => 0 from funext fun x => by show f x * g x - f x * g x = 0; grind]
    exact zr_zero
  | n + 1, f, g, hf, hg, h => by
    show N.Zr (fun x => Dk n (D fun x => f x * g x) x - f x * Dk n (D g) x)
    rw [D_mul hf hg, Dk_add (hf.D.mul hg) (hf.mul hg.D)]
    have h1 := (Om.mul_r hf.D hg h) n (by omega)
    have h2 := lead0 hf hg.D h.D
    have := h1.add h2
    rwa [show (fun x => Dk n (fun x => D f x * g x) x + (Dk n (fun x => f x * D g x) x - f x * Dk n (D g) x)) = fun x => Dk n (fun x => D f x * g x) x + Dk n (fun x => f x * D g x) x - f x * Dk n (D g) x from funext fun x => by grind] at this
/-- Its order is m, and above nought is what comes first. -/
def PO (N : Nest) (f : Fn) (m : Nat) : Prop := N.Om f m ∧ N.Ps (Dk m f)
theorem PO.not_om {f : Fn} {m : Nat} (h : N.PO f m) : ¬ N.Om f (m + 1) := fun k => (k m (by omega)).not_Ps h.2
theorem has_order {f : Fn} (hf : Pol f) (h0 : f ≠ fun _ => 0) : ∃ m, N.PO f m ∨ N.PO (fun x => -f x) m := by
  obtain ⟨k, hk⟩ := pol_ends hf
  have key : ∀ k, ∀ f : Fn, Pol f → f ≠ (fun _ => 0) → Dk k f = (fun _ => 0) → ∃ m, N.PO f m ∨ N.PO (fun x => -f x) m := by
    intro k
    induction k with
    | zero => intro f _ h0 hk; exact absurd hk h0
    | succ k ih =>
      intro f hf h0 hk
      rcases tri (N := N) hf with hz | hp | hn
      · have hD0 : D f ≠ fun _ => 0 := fun e => h0 (funext fun x => by
          have hc := const_of hf e
          refine Decidable.byContradiction fun hne => ?_
          rcases (show f x < 0 ∨ 0 < f x by grind) with h | h
          · exact hz.neg.not_Ps ⟨-f x, by grind, 0, fun y _ => by show -f x ≤ -f y; rw [hc y x]; grind⟩
          · exact hz.not_Ps ⟨f x, h, 0, fun y _ => by rw [hc y x]; grind⟩)
        obtain ⟨m, h⟩ := ih (D f) hf.D hD0 hk
        refine ⟨m + 1, h.imp (fun h => ⟨om_succ hz h.1, h.2⟩) fun h => ⟨om_succ hz.neg ?_, ?_⟩⟩
        · rw [D_neg hf]; exact h.1
        · show N.Ps (Dk m (D fun x => -f x)); rw [D_neg hf]; exact h.2
      · exact ⟨0, Or.inl ⟨fun j hj => by omega, hp⟩⟩
      · exact ⟨0, Or.inr ⟨fun j hj => by omega, hn⟩⟩
  exact key k f hf h0 hk
/-- -1 as often as that. -/
def alt : Nat → Rat
  | 0 => 1
  | n + 1 => -alt n
theorem alt_cases : ∀ n, alt n = 1 ∨ alt n = -1
  | 0 => Or.inl rfl
  | n + 1 => by rcases alt_cases n with h | h <;> simp [alt, h]
theorem pattern : ∀ {m : Nat} {f : Fn}, Pol f → N.PO f m → ∃ k, ∀ x, N.In k x → (N.Lf x → 0 < alt m * f x) ∧ (N.Rt x → 0 < f x)
  | 0, f, hf, h => by
    obtain ⟨c, hc, n, hn⟩ := h.2
    have e : Dk 0 f = f := rfl
    rw [e] at hn
    exact ⟨n, fun x hx => by have := hn x hx; exact ⟨fun _ => by show 0 < 1 * f x; grind, fun _ => by grind⟩⟩
  | m + 1, f, hf, h => by
    obtain ⟨k, hk⟩ := pattern (m := m) hf.D ⟨h.1.D, h.2⟩
    have hz : N.Zr f := h.1 0 (by omega)
    refine ⟨k, fun x hx => ⟨fun hl => ?_, fun hr => ?_⟩⟩
    · rcases alt_cases m with e | e
      · have := left_pos hf.neg (k := k) hz.neg (fun y hy hyl => by
          rw [D_neg hf]
          have := (hk y hy).1 hyl
          rw [e] at this
          grind) x hx hl
        show 0 < -alt m * f x
        rw [e]; grind
      · have := left_pos hf (k := k) hz (fun y hy hyl => by
          have := (hk y hy).1 hyl
          rw [e] at this
          grind) x hx hl
        show 0 < -alt m * f x
        rw [e]; grind
    · exact right_pos hf hz (fun y hy hyr => (hk y hy).2 hyr) x hx hr
end Nest
end Go.Sturm

namespace Go.Sturm

def sg (q : Rat) : Int := if 0 < q then 1 else if q < 0 then -1 else 0
theorem sg_pos {q : Rat} (h : 0 < q) : sg q = 1 := by unfold sg; rw [if_pos h]
theorem sg_neg {q : Rat} (h : q < 0) : sg q = -1 := by unfold sg; rw [if_neg (by grind), if_pos h]
theorem sg_zero : sg 0 = 0 := by unfold sg; rw [if_neg (by grind), if_neg (by grind)]
def alti : Nat → Int
  | 0 => 1
  | n + 1 => -alti n
theorem alti_cases : ∀ n, alti n = 1 ∨ alti n = -1
  | 0 => Or.inl rfl
  | n + 1 => by rcases alti_cases n with h | h <;> simp [alti, h]
theorem alt_alti : ∀ n, (alti n = 1 ∧ Nest.alt n = 1) ∨ (alti n = -1 ∧ Nest.alt n = -1)
  | 0 => Or.inl ⟨rfl, rfl⟩
  | n + 1 => by rcases alt_alti n with ⟨h, k⟩ | ⟨h, k⟩ <;> simp [alti, Nest.alt, h, k]
/-- The first slope that is not nought at a. -/
def FirstAt (f : Fn) (a : Rat) (k : Nat) : Prop := (∀ j, j < k → Dk j f a = 0) ∧ Dk k f a ≠ 0
theorem FirstAt.uniq {f : Fn} {a : Rat} {k l : Nat} (h : FirstAt f a k) (h' : FirstAt f a l) : k = l := by
  rcases Nat.lt_trichotomy k l with g | g | g
  · exact absurd (h'.1 k g) h.2
  · exact g
  · exact absurd (h.1 l g) h'.2
/-- The sign just ahead of a, and just behind it. -/
noncomputable def SA (f : Fn) (a : Rat) : Int := open Classical in if h : ∃ k, FirstAt f a k then sg (Dk h.choose f a) * alti h.choose else 0
noncomputable def SB (f : Fn) (a : Rat) : Int := open Classical in if h : ∃ k, FirstAt f a k then sg (Dk h.choose f a) else 0
theorem SA_of {f : Fn} {a : Rat} {k : Nat} (h : FirstAt f a k) : SA f a = sg (Dk k f a) * alti k := by
  have hx : ∃ k, FirstAt f a k := ⟨k, h⟩
  unfold SA
  rw [dif_pos hx, hx.choose_spec.uniq h]
theorem SB_of {f : Fn} {a : Rat} {k : Nat} (h : FirstAt f a k) : SB f a = sg (Dk k f a) := by
  have hx : ∃ k, FirstAt f a k := ⟨k, h⟩
  unfold SB
  rw [dif_pos hx, hx.choose_spec.uniq h]
namespace Nest
variable {N : Nest}
/-- Its order there, and the sign of what comes first. -/
def Loc (N : Nest) (f : Fn) (m : Nat) (s : Int) : Prop := (s = 1 ∧ N.PO f m) ∨ (s = -1 ∧ N.PO (fun x => -f x) m)
theorem has_loc {f : Fn} (hf : Pol f) (h0 : f ≠ fun _ => 0) : ∃ m s, N.Loc f m s := by
  obtain ⟨m, h | h⟩ := has_order (N := N) hf h0
  · exact ⟨m, 1, Or.inl ⟨rfl, h⟩⟩
  · exact ⟨m, -1, Or.inr ⟨rfl, h⟩⟩
theorem Loc.one {f : Fn} {m : Nat} {s : Int} (h : N.Loc f m s) : s = 1 ∨ s = -1 := h.imp (·.1) (·.1)
theorem Loc.om {f : Fn} (hf : Pol f) {m : Nat} {s : Int} (h : N.Loc f m s) : N.Om f m := by
  rcases h with ⟨_, h⟩ | ⟨_, h⟩
  · exact h.1
  · intro j hj
    have := (h.1 j hj).neg
    rw [Dk_neg hf] at this
    rwa [show (fun x => -(-Dk j f x)) = Dk j f from funext fun x => by grind] at this
theorem om_neg {f : Fn} (hf : Pol f) {m : Nat} (h : N.Om f m) : N.Om (fun x => -f x) m := fun j hj => by rw [Dk_neg hf]; exact (h j hj).neg
theorem Loc.lt {f : Fn} (hf : Pol f) {m n : Nat} {s : Int} (h : N.Loc f m s) (k : N.Om f n) : n ≤ m := by
  refine Nat.le_of_not_lt fun hl => ?_
  rcases h with ⟨_, h⟩ | ⟨_, h⟩
  · exact h.not_om (k.le hl)
  · exact h.not_om ((om_neg hf k).le hl)
theorem Loc.ge {f : Fn} (hf : Pol f) {m n : Nat} {s : Int} (h : N.Loc f m s) (k : n ≤ m) : N.Om f n := (h.om hf).le k
theorem three (x : Rat) : N.Lf x ∨ N.Rt x ∨ ∀ n, N.In n x := by
  by_cases h1 : N.Lf x
  · exact Or.inl h1
  by_cases h2 : N.Rt x
  · exact Or.inr (Or.inl h2)
  refine Or.inr (Or.inr fun n => ⟨?_, ?_⟩)
  · refine Decidable.byContradiction fun h => h1 ⟨n, by grind⟩
  · refine Decidable.byContradiction fun h => h2 ⟨n, by grind⟩
theorem loc_at {f : Fn} (hf : Pol f) {m : Nat} {s : Int} (h : N.Loc f m s) : ∃ k, ∀ x, N.In k x → (N.Lf x → SA f x = s * alti m ∧ SB f x = s * alti m) ∧ (N.Rt x → SA f x = s ∧ SB f x = s) := by
  have fst : ∀ x, f x ≠ 0 → SA f x = sg (f x) ∧ SB f x = sg (f x) := fun x hx => by
    have hF : FirstAt f x 0 := ⟨fun j hj => by omega, hx⟩
    rw [SA_of hF, SB_of hF]
    exact ⟨Int.mul_one _, rfl⟩
  rcases h with ⟨rfl, h⟩ | ⟨rfl, h⟩
  · obtain ⟨k, hk⟩ := pattern hf h
    refine ⟨k, fun x hx => ⟨fun hl => ?_, fun hr => ?_⟩⟩
    · have := (hk x hx).1 hl
      rcases alt_alti m with ⟨e, e'⟩ | ⟨e, e'⟩ <;> rw [e'] at this <;> rw [e]
      · obtain ⟨a, b⟩ := fst x (by grind)
        rw [a, b, sg_pos (by grind)]; exact ⟨rfl, rfl⟩
      · obtain ⟨a, b⟩ := fst x (by grind)
        rw [a, b, sg_neg (by grind)]; exact ⟨rfl, rfl⟩
    · have := (hk x hx).2 hr
      obtain ⟨a, b⟩ := fst x (by grind)
      rw [a, b, sg_pos this]; exact ⟨rfl, rfl⟩
  · obtain ⟨k, hk⟩ := pattern hf.neg h
    refine ⟨k, fun x hx => ⟨fun hl => ?_, fun hr => ?_⟩⟩
    · have := (hk x hx).1 hl
      rcases alt_alti m with ⟨e, e'⟩ | ⟨e, e'⟩ <;> rw [e'] at this <;> rw [e]
      · obtain ⟨a, b⟩ := fst x (by grind)
        rw [a, b, sg_neg (by grind)]; exact ⟨rfl, rfl⟩
      · obtain ⟨a, b⟩ := fst x (by grind)
        rw [a, b, sg_pos (by grind)]; exact ⟨rfl, rfl⟩
    · have := (hk x hx).2 hr
      obtain ⟨a, b⟩ := fst x (by grind)
      rw [a, b, sg_neg (by grind)]; exact ⟨rfl, rfl⟩
theorem loc_on {f : Fn} (hf : Pol f) {m : Nat} {s : Int} (h : N.Loc f m s) {x : Rat} (hx : ∀ n, N.In n x) : FirstAt f x m ∧ SA f x = s * alti m ∧ SB f x = s := by
  have hz : ∀ j, j < m → Dk j f x = 0 := fun j hj => (h.om hf j hj).at hx
  rcases h with ⟨rfl, h⟩ | ⟨rfl, h⟩
  · obtain ⟨c, hc, n, hn⟩ := h.2
    have hp := hn x (hx n)
    have hF : FirstAt f x m := ⟨hz, by grind⟩
    rw [SA_of hF, SB_of hF, sg_pos (by grind)]
    exact ⟨hF, rfl, rfl⟩
  · obtain ⟨c, hc, n, hn⟩ := h.2
    have hp := hn x (hx n)
    rw [Dk_neg hf] at hp
    have hF : FirstAt f x m := ⟨hz, by grind⟩
    rw [SA_of hF, SB_of hF, sg_neg (by grind)]
    exact ⟨hF, rfl, rfl⟩
theorem zr_iff {f : Fn} (hf : Pol f) {m : Nat} {s : Int} (h : N.Loc f m s) : N.Zr f ↔ 0 < m := by
  constructor
  · intro hz
    exact h.lt hf (n := 1) fun j hj => by rw [show j = 0 by omega]; exact hz
  · intro hm; exact h.om hf 0 hm
end Nest
/-! ### How often signs change -/
def ind (a b : Int) : Int := if b = -a then 1 else 0
def cnt (s : Nat → Int) : Nat → Nat → Int
  | _, 0 => 0
  | j, d + 1 => ind (s j) (s (j + 1)) + cnt s (j + 1) d
theorem cnt_congr {s t : Nat → Int} : ∀ {d j : Nat}, (∀ i, j ≤ i → i ≤ j + d → s i = t i) → cnt s j d = cnt t j d
  | 0, _, _ => rfl
  | d + 1, j, h => by
    show ind (s j) (s (j + 1)) + cnt s (j + 1) d = ind (t j) (t (j + 1)) + cnt t (j + 1) d
    rw [h j (by omega) (by omega), h (j + 1) (by omega) (by omega), cnt_congr fun i h1 h2 => h i (by omega) (by omega)]
/-- A chain: each the rest of the two ahead of it. -/
structure Chain0 (p : Nat → Fn) (r : Nat) : Prop where
  pol : ∀ i, i ≤ r → Pol (p i)
  nz : ∀ i, i ≤ r → p i ≠ fun _ => 0
  one : 1 ≤ r
  slope : ∃ c : Rat, 0 < c ∧ ∀ x, p 1 x = c * D (p 0) x
  step : ∀ i, i + 2 ≤ r → ∃ (a b : Rat) (Q : Fn), 0 < a ∧ b ≠ 0 ∧ Pol Q ∧ ∀ x, a * p i x + b * p (i + 2) x = Q x * p (i + 1) x
  last : ∃ (a : Rat) (Q : Fn), 0 < a ∧ Pol Q ∧ ∀ x, a * p (r - 1) x = Q x * p r x
structure Chain (p : Nat → Fn) (r : Nat) : Prop extends Chain0 p r where
  sgn : ∀ i, i + 2 ≤ r → ∃ (a b : Rat) (Q : Fn), 0 < a ∧ 0 < b ∧ Pol Q ∧ ∀ x, a * p i x + b * p (i + 2) x = Q x * p (i + 1) x
section
variable {p : Nat → Fn} {r : Nat} {N : Nest}
theorem om_left {a b : Rat} {f g h Q : Fn} (hf : Pol f) (hg : Pol g) (hh : Pol h) (hQ : Pol Q) (ha : a ≠ 0) (e : ∀ x, a * f x + b * g x = Q x * h x) {n : Nat} (kg : N.Om g n) (kh : N.Om h n) : N.Om f n := by
  have h1 := Nest.Om.add (hQ.mul hh) (hg.smul (-b)) (Nest.Om.mul_r hQ hh kh) (kg.smul (-b) hg)
  rw [show (fun x => Q x * h x + -b * g x) = fun x => a * f x from funext fun x => by rw [← e x]; grind] at h1
  exact Nest.om_of_smul ha hf h1
namespace Chain0
variable (C : Chain0 p r)
include C
theorem om_all {n : Nat} (h : N.Om (p r) n) : ∀ d, d ≤ r → N.Om (p (r - d)) n ∧ (0 < d → N.Om (p (r - d + 1)) n)
  | 0, _ => ⟨h, fun h => by omega⟩
  | d + 1, hd => by
    obtain ⟨h1, h2⟩ := om_all h d (by omega)
    have e1 : r - (d + 1) + 1 = r - d := by omega
    rw [e1]
    refine ⟨?_, fun _ => h1⟩
    by_cases h0 : d = 0
    · subst h0
      obtain ⟨a, Q, ha, hQ, e⟩ := C.last
      exact om_left (a := a) (g := fun _ => 0) (b := 0) (C.pol (r - 1) (by omega)) Pol.zero (C.pol r (Nat.le_refl _)) hQ (by grind) (fun x => by rw [← e x]; grind) (fun j _ => by rw [Dk_zero]; exact Nest.zr_zero) h
    · obtain ⟨a, b, Q, ha, hb, hQ, e⟩ := C.step (r - (d + 1)) (by omega)
      have e2 : r - (d + 1) + 2 = r - d + 1 := by omega
      rw [e1, e2] at e
      exact om_left (C.pol _ (by omega)) (C.pol _ (by omega)) (C.pol _ (by omega)) hQ (by grind) e (h2 (by omega)) h1
theorem om_on {n i : Nat} (h1 : N.Om (p i) n) (h2 : N.Om (p (i + 1)) n) (hi : i + 1 ≤ r) : N.Om (p r) n := by
  have key : ∀ d, i + 1 + d ≤ r → N.Om (p (i + d)) n ∧ N.Om (p (i + 1 + d)) n := by
    intro d
    induction d with
    | zero => intro _; exact ⟨h1, h2⟩
    | succ d ih =>
      intro hd
      obtain ⟨g1, g2⟩ := ih (by omega)
      have e1 : i + (d + 1) = i + 1 + d := by omega
      rw [e1]
      refine ⟨g2, ?_⟩
      obtain ⟨a, b, Q, ha, hb, hQ, e⟩ := C.step (i + d) (by omega)
      have e2 : i + d + 1 = i + 1 + d := by omega
      have e3 : i + d + 2 = i + 1 + (d + 1) := by omega
      rw [e2, e3] at e
      exact om_left (a := b) (b := a) (g := p (i + d)) (C.pol _ (by omega)) (C.pol _ (by omega)) (C.pol _ (by omega)) hQ hb (fun x => by rw [← e x]; grind) g1 g2
  have := (key (r - (i + 1)) (by omega)).2
  rwa [show i + 1 + (r - (i + 1)) = r by omega] at this
/-- The orders of a chain's members. -/
theorem orders {m : Nat → Nat} {s : Nat → Int} (h : ∀ i, i ≤ r → N.Loc (p i) (m i) (s i)) : (∀ i, i ≤ r → m r ≤ m i) ∧ (∀ i, i + 1 ≤ r → m i = m r ∨ m (i + 1) = m r) ∧ (0 < m 0 → m r + 1 = m 0 ∧ m 1 = m r ∧ s 1 = s 0) ∧ (m 0 = 0 → m r = 0) := by
  have hr := h r (Nat.le_refl _)
  have a1 : ∀ i, i ≤ r → m r ≤ m i := fun i hi => by
    have := (C.om_all (hr.om (C.pol r (Nat.le_refl _))) (r - i) (by omega)).1
    rw [show r - (r - i) = i by omega] at this
    exact (h i hi).lt (C.pol i hi) this
  have a2 : ∀ i, i + 1 ≤ r → m i = m r ∨ m (i + 1) = m r := fun i hi => by
    refine Decidable.byContradiction fun hn => ?_
    have g1 := a1 i (by omega)
    have g2 := a1 (i + 1) hi
    have := C.om_on (i := i) (n := m r + 1) ((h i (by omega)).ge (C.pol i (by omega)) (by omega)) ((h (i + 1) hi).ge (C.pol _ hi) (by omega)) hi
    have := hr.lt (C.pol r (Nat.le_refl _)) this
    omega
  refine ⟨a1, a2, fun h0 => ?_, fun h0 => ?_⟩
  · have h1 := C.one
    obtain ⟨c, hc, e⟩ := C.slope
    have p0 := C.pol 0 (Nat.zero_le _)
    have ep : p 1 = fun x => c * D (p 0) x := funext e
    obtain ⟨k, hk⟩ : ∃ k, m 0 = k + 1 := ⟨m 0 - 1, by omega⟩
    have hl : N.Loc (p 1) k (s 0) := by
      have hl0 := h 0 (Nat.zero_le _)
      rw [hk] at hl0
      rw [ep]
      rcases hl0 with ⟨e1, o, q⟩ | ⟨e1, o, q⟩
      · refine Or.inl ⟨e1, o.D.smul c p0.D, ?_⟩
        rw [Dk_smul c p0.D]
        exact q.smul hc
      · refine Or.inr ⟨e1, ?_⟩
        have e2 : (fun x => -(c * D (p 0) x)) = fun x => c * D (fun x => -p 0 x) x := funext fun x => by rw [D_neg p0]; grind
        rw [e2]
        refine ⟨o.D.smul c p0.neg.D, ?_⟩
        rw [Dk_smul c p0.neg.D]
        exact q.smul hc
    have hl1 := h 1 h1
    have q1 := hl.lt (C.pol 1 h1) (hl1.om (C.pol 1 h1))
    have q2 := hl1.lt (C.pol 1 h1) (hl.om (C.pol 1 h1))
    have em : m 1 = k := by omega
    have es : s 1 = s 0 := by
      rw [em] at hl1
      rcases hl1 with ⟨e1, o1⟩ | ⟨e1, o1⟩ <;> rcases hl with ⟨e2, o2⟩ | ⟨e2, o2⟩
      · rw [e1, e2]
      · have := o2.2; rw [Dk_neg (C.pol 1 h1)] at this; exact absurd this o1.2.not_neg
      · have := o1.2; rw [Dk_neg (C.pol 1 h1)] at this; exact absurd this o2.2.not_neg
      · rw [e1, e2]
    have : m 0 = m r ∨ m 1 = m r := a2 0 (by omega)
    have := a1 1 h1
    exact ⟨by omega, by omega, es⟩
  · have := a1 0 (Nat.zero_le _); omega
end Chain0
theorem ind_flip {a b : Int} (k : Nat) : ind (a * alti k) (b * alti k) = ind a b := by
  unfold ind
  rcases alti_cases k with e | e <;> rw [e]
  · rw [Int.mul_one, Int.mul_one]
  · congr 1
    simp only [eq_iff_iff]
    omega
theorem ind_two {a b c : Int} (ha : a = 1 ∨ a = -1) (hb : b = 1 ∨ b = -1) (h : c = -a) : ind a b + ind b c = 1 := by
  subst h
  rcases ha with rfl | rfl <;> rcases hb with rfl | rfl <;> decide
theorem one_mul_alti {s : Int} (h : s = 1 ∨ s = -1) (k : Nat) : s * alti k = 1 ∨ s * alti k = -1 := by
  rcases h with rfl | rfl <;> rcases alti_cases k with e | e <;> rw [e] <;> decide
/-- Sturm's rule at a place. -/
theorem Chain.local (C : Chain p r) {m : Nat → Nat} {s : Nat → Int} (h : ∀ i, i ≤ r → N.Loc (p i) (m i) (s i)) : cnt (fun i => s i * alti (m i)) 0 r = cnt s 0 r + if m 0 = 0 then 0 else 1 := by
  obtain ⟨a1, a2, a3, a4⟩ := C.toChain0.orders h
  have opp : ∀ i, i + 2 ≤ r → m r < m (i + 1) → m i = m r ∧ m (i + 2) = m r ∧ s (i + 2) = -s i := fun i hi hm => by
    have g1 : m i = m r := (a2 i (by omega)).resolve_right (by omega)
    have g2 : m (i + 2) = m r := (a2 (i + 1) (by omega)).resolve_left (by omega)
    refine ⟨g1, g2, ?_⟩
    obtain ⟨a, b, Q, ha, hb, hQ, e⟩ := C.sgn i hi
    have pi := C.pol i (by omega)
    have pj := C.pol (i + 1) (by omega)
    have pk := C.pol (i + 2) hi
    have hz : N.Zr (Dk (m r) (fun x => Q x * p (i + 1) x)) := Nest.Om.mul_r hQ pj ((h (i + 1) (by omega)).ge pj (show m r + 1 ≤ m (i + 1) by omega)) (m r) (by omega)
    rw [show (fun x => Q x * p (i + 1) x) = fun x => a * p i x + b * p (i + 2) x from funext fun x => (e x).symm, Dk_add (pi.smul a) (pk.smul b), Dk_smul a pi, Dk_smul b pk] at hz
    have l1 := h i (by omega)
    have l2 := h (i + 2) hi
    rw [g1] at l1
    rw [g2] at l2
    rcases l1 with ⟨e1, o1⟩ | ⟨e1, o1⟩ <;> rcases l2 with ⟨e2, o2⟩ | ⟨e2, o2⟩
    · exact absurd ((o1.2.smul ha).add (o2.2.smul hb)) hz.not_Ps
    · rw [e1, e2]
    · rw [e1, e2]; decide
    · have q1 := o1.2
      have q2 := o2.2
      rw [Dk_neg pi] at q1
      rw [Dk_neg pk] at q2
      have := (q1.smul ha).add (q2.smul hb)
      rw [show (fun x => a * -Dk (m r) (p i) x + b * -Dk (m r) (p (i + 2)) x) = fun x => -(a * Dk (m r) (p i) x + b * Dk (m r) (p (i + 2)) x) from funext fun x => by grind] at this
      exact absurd this hz.neg.not_Ps
  have one : ∀ i, i ≤ r → s i = 1 ∨ s i = -1 := fun i hi => (h i hi).one
  have tail : ∀ n d j, d ≤ n → j + d = r → m j = m r → cnt (fun i => s i * alti (m i)) j d = cnt s j d := by
    intro n
    induction n with
    | zero => intro d j hd _ _; rw [show d = 0 by omega]; rfl
    | succ n ih =>
      intro d j hd hj hm
      cases d with
      | zero => rfl
      | succ d =>
        show ind (s j * alti (m j)) (s (j + 1) * alti (m (j + 1))) + cnt _ (j + 1) d = ind (s j) (s (j + 1)) + cnt s (j + 1) d
        by_cases h1 : m (j + 1) = m r
        · rw [ih d (j + 1) (by omega) (by omega) h1, hm, h1, ind_flip]
        · have hlt : m r < m (j + 1) := by have := a1 (j + 1) (by omega); omega
          have hd0 : d ≠ 0 := fun e => by subst e; exact h1 (by rw [show j + 1 = r by omega])
          cases d with
          | zero => exact absurd rfl hd0
          | succ d =>
            obtain ⟨g1, g2, g3⟩ := opp j (by omega) hlt
            show ind (s j * alti (m j)) (s (j + 1) * alti (m (j + 1))) + (ind (s (j + 1) * alti (m (j + 1))) (s (j + 2) * alti (m (j + 2))) + cnt _ (j + 2) d) = ind (s j) (s (j + 1)) + (ind (s (j + 1)) (s (j + 2)) + cnt s (j + 2) d)
            rw [ih d (j + 2) (by omega) (by omega) g2]
            have i1 := ind_two (one j (by omega)) (one (j + 1) (by omega)) g3
            have i2 := ind_two (c := s (j + 2) * alti (m (j + 2))) (one_mul_alti (one j (by omega)) (m j)) (one_mul_alti (one (j + 1) (by omega)) (m (j + 1))) (by rw [g1, g2, g3, Int.neg_mul])
            omega
  by_cases h0 : m 0 = 0
  · rw [if_pos h0, tail r r 0 (Nat.le_refl _) (by omega) (by rw [h0, a4 h0]), Int.add_zero]
  · rw [if_neg h0]
    obtain ⟨b1, b2, b3⟩ := a3 (by omega)
    obtain ⟨d, hd⟩ : ∃ d, r = d + 1 := ⟨r - 1, by have := C.one; omega⟩
    have ht := tail d d 1 (Nat.le_refl _) (by omega) b2
    have hc : ∀ t : Nat → Int, cnt t 0 r = ind (t 0) (t 1) + cnt t 1 d := fun t => by rw [hd]; rfl
    rw [hc, hc, ht, b2, ← b1, b3]
    have i1 : ind (s 0 * alti (m r + 1)) (s 0 * alti (m r)) = 1 := by
      unfold ind
      rw [show alti (m r + 1) = -alti (m r) from rfl, Int.mul_neg, Int.neg_neg, if_pos rfl]
    have i2 : ind (s 0) (s 0) = 0 := by
      unfold ind
      rw [if_neg]
      rcases one 0 (Nat.zero_le _) with e | e <;> rw [e] <;> decide
    rw [i1, i2]
    omega
end
end Go.Sturm

namespace Go.Sturm

def pw : Nat → Rat
  | 0 => 1
  | n + 1 => 2 * pw n
theorem pw_ge : ∀ n : Nat, (n : Rat) + 1 ≤ pw n
  | 0 => by show ((0 : Nat) : Rat) + 1 ≤ 1; simp; grind
  | n + 1 => by
    have := pw_ge n
    have h0 : (0 : Rat) ≤ (n : Rat) := by
      have : ((0 : Nat) : Rat) ≤ (n : Rat) := Rat.natCast_le_natCast.2 (Nat.zero_le _)
      simpa using this
    have e : ((n + 1 : Nat) : Rat) = (n : Rat) + 1 := by simp
    rw [e]
    show (n : Rat) + 1 + 1 ≤ 2 * pw n
    grind
section
variable {Bad : Rat → Rat → Prop} {a b : Rat}
def BS (Bad : Rat → Rat → Prop) (a b : Rat) : Type := { q : Rat × Rat // a ≤ q.1 ∧ q.1 < q.2 ∧ q.2 ≤ b ∧ Bad q.1 q.2 }
theorem bnext_ex (st : ∀ u v, a ≤ u → u < v → v ≤ b → Bad u v → Bad u ((u + v) / 2) ∨ Bad ((u + v) / 2) v) (q : BS Bad a b) : ∃ q' : BS Bad a b, q.1.1 ≤ q'.1.1 ∧ q'.1.2 ≤ q.1.2 ∧ 2 * (q'.1.2 - q'.1.1) = q.1.2 - q.1.1 := by
  obtain ⟨⟨u, v⟩, h1, h2, h3, h4⟩ := q
  replace h1 : a ≤ u := h1
  replace h2 : u < v := h2
  replace h3 : v ≤ b := h3
  rcases st u v h1 h2 h3 h4 with h | h
  · exact ⟨⟨(u, (u + v) / 2), h1, by grind, by grind, h⟩, Rat.le_refl, show (u + v) / 2 ≤ v by grind, show 2 * ((u + v) / 2 - u) = v - u by grind⟩
  · exact ⟨⟨((u + v) / 2, v), by grind, by grind, h3, h⟩, show u ≤ (u + v) / 2 by grind, Rat.le_refl, show 2 * (v - (u + v) / 2) = v - u by grind⟩
noncomputable def bnext (st : ∀ u v, a ≤ u → u < v → v ≤ b → Bad u v → Bad u ((u + v) / 2) ∨ Bad ((u + v) / 2) v) (q : BS Bad a b) : BS Bad a b := (bnext_ex st q).choose
theorem bnext_ok (st : ∀ u v, a ≤ u → u < v → v ≤ b → Bad u v → Bad u ((u + v) / 2) ∨ Bad ((u + v) / 2) v) (q : BS Bad a b) : q.1.1 ≤ (bnext st q).1.1 ∧ (bnext st q).1.2 ≤ q.1.2 ∧ 2 * ((bnext st q).1.2 - (bnext st q).1.1) = q.1.2 - q.1.1 := (bnext_ex st q).choose_spec
noncomputable def bseq (st : ∀ u v, a ≤ u → u < v → v ≤ b → Bad u v → Bad u ((u + v) / 2) ∨ Bad ((u + v) / 2) v) (q : BS Bad a b) : Nat → BS Bad a b
  | 0 => q
  | n + 1 => bnext st (bseq st q n)
theorem bseq_len (st : ∀ u v, a ≤ u → u < v → v ≤ b → Bad u v → Bad u ((u + v) / 2) ∨ Bad ((u + v) / 2) v) (q : BS Bad a b) : ∀ n, pw n * ((bseq st q n).1.2 - (bseq st q n).1.1) = q.1.2 - q.1.1
  | 0 => by show 1 * (q.1.2 - q.1.1) = _; grind
  | n + 1 => by
    have h1 := bseq_len st q n
    have h2 := (bnext_ok st (bseq st q n)).2.2
    show 2 * pw n * ((bnext st (bseq st q n)).1.2 - (bnext st (bseq st q n)).1.1) = _
    rw [← h1, ← h2]
    grind
theorem bisect (hab : a < b) (h : Bad a b) (st : ∀ u v, a ≤ u → u < v → v ≤ b → Bad u v → Bad u ((u + v) / 2) ∨ Bad ((u + v) / 2) v) : ∃ N : Nest, (∀ n, Bad (N.u n) (N.v n)) ∧ ∀ n, a ≤ N.u n ∧ N.v n ≤ b := by
  let q : BS Bad a b := ⟨(a, b), Rat.le_refl, hab, Rat.le_refl, h⟩
  refine ⟨⟨fun n => (bseq st q n).1.1, fun n => (bseq st q n).1.2, fun n => (bnext_ok st (bseq st q n)).1, fun n => (bnext_ok st (bseq st q n)).2.1, fun n => (bseq st q n).2.2.1, fun e he => ?_⟩, fun n => (bseq st q n).2.2.2.2, fun n => ⟨(bseq st q n).2.1, (bseq st q n).2.2.2.1⟩⟩
  obtain ⟨n, t, ht, hn, _, hc⟩ := parts (b - a) he
  refine ⟨n, Decidable.byContradiction fun hh => ?_⟩
  have h1 := bseq_len st q n
  have h2 := pw_ge n
  have e0 : q.1.2 - q.1.1 = b - a := rfl
  rw [e0] at h1
  generalize (bseq st q n).1.2 - (bseq st q n).1.1 = l at *
  have h3 := Rat.mul_le_mul_of_nonneg_left (show e ≤ l by grind) (show 0 ≤ pw n by grind)
  have h4 := Rat.mul_le_mul_of_nonneg_right h2 (show 0 ≤ e by grind)
  grind
end
theorem nest_at (a : Rat) : ∃ N : Nest, ∀ n, N.In n a := by
  obtain ⟨N, h, _⟩ := bisect (Bad := fun u v => u ≤ a ∧ a ≤ v) (a := a - 1) (b := a + 1) (by grind) ⟨by grind, by grind⟩ fun u v _ _ _ h => by
    by_cases hm : a ≤ (u + v) / 2
    · exact Or.inl ⟨h.1, hm⟩
    · exact Or.inr ⟨by grind, h.2⟩
  exact ⟨N, h⟩
theorem Nest.ge_u {N : Nest} {x : Rat} (h : ∀ n, N.In n x) {y : Rat} (hy : x < y) : N.Rt y := by
  obtain ⟨n, hn⟩ := N.sm (y - x) (by grind)
  exact ⟨n, by have := (h n).1; grind⟩
theorem Nest.le_v {N : Nest} {x : Rat} (h : ∀ n, N.In n x) {y : Rat} (hy : y < x) : N.Lf y := by
  obtain ⟨n, hn⟩ := N.sm (x - y) (by grind)
  exact ⟨n, by have := (h n).2; grind⟩
/-- How often signs change ahead of a place, and behind it. -/
noncomputable def cA (p : Nat → Fn) (r : Nat) (a : Rat) : Int := cnt (fun i => SA (p i) a) 0 r
noncomputable def cB (p : Nat → Fn) (r : Nat) (a : Rat) : Int := cnt (fun i => SB (p i) a) 0 r
/-- What holds near a place. -/
structure Near (N : Nest) (p : Nat → Fn) (r : Nat) (L R : Int) (k : Nat) : Prop where
  lf : ∀ x, N.In k x → N.Lf x → cA p r x = L ∧ cB p r x = L
  rt : ∀ x, N.In k x → N.Rt x → cA p r x = R ∧ cB p r x = R
  on : ∀ x, (∀ n, N.In n x) → cA p r x = L ∧ cB p r x = R
structure NearS (N : Nest) (f : Fn) (L R : Int) (k : Nat) : Prop where
  lf : ∀ x, N.In k x → N.Lf x → SA f x = L ∧ SB f x = L
  rt : ∀ x, N.In k x → N.Rt x → SA f x = R ∧ SB f x = R
  on : ∀ x, (∀ n, N.In n x) → SA f x = L ∧ SB f x = R
theorem near_s {N : Nest} {f : Fn} (hf : Pol f) (h0 : f ≠ fun _ => 0) : ∃ L R k, NearS N f L R k ∧ (¬ N.Zr f → L = R) := by
  obtain ⟨m, s, hl⟩ := Nest.has_loc (N := N) hf h0
  obtain ⟨k, hk⟩ := Nest.loc_at hf hl
  refine ⟨s * alti m, s, k, ⟨fun x hx h => (hk x hx).1 h, fun x hx h => (hk x hx).2 h, fun x hx => (Nest.loc_on hf hl hx).2⟩, fun hz => ?_⟩
  have : m = 0 := by
    refine Decidable.byContradiction fun h => hz ((Nest.zr_iff hf hl).2 (by omega))
  rw [this]
  show s * 1 = s
  omega
theorem common {P : Nat → Nat → Prop} (mono : ∀ i k l, k ≤ l → P i k → P i l) : ∀ r, (∀ i, i ≤ r → ∃ k, P i k) → ∃ k, ∀ i, i ≤ r → P i k
  | 0, h => by
    obtain ⟨k, hk⟩ := h 0 (Nat.le_refl _)
    exact ⟨k, fun i hi => by rw [show i = 0 by omega]; exact hk⟩
  | r + 1, h => by
    obtain ⟨k, hk⟩ := common mono r fun i hi => h i (by omega)
    obtain ⟨l, hl⟩ := h (r + 1) (Nat.le_refl _)
    refine ⟨max k l, fun i hi => ?_⟩
    by_cases e : i = r + 1
    · subst e; exact mono _ _ _ (Nat.le_max_right _ _) hl
    · exact mono _ _ _ (Nat.le_max_left _ _) (hk i (by omega))
section
variable {p : Nat → Fn} {r : Nat}
theorem Chain.near (C : Chain p r) (N : Nest) : ∃ L R k, Near N p r L R k ∧ ((L = R ∧ ¬ N.Zr (p 0)) ∨ (L = R + 1 ∧ N.Zr (p 0))) := by
  have hex : ∀ i, ∃ q : Nat × Int, i ≤ r → N.Loc (p i) q.1 q.2 := fun i => by
    by_cases hi : i ≤ r
    · obtain ⟨m, s, h⟩ := Nest.has_loc (N := N) (C.pol i hi) (C.nz i hi)
      exact ⟨(m, s), fun _ => h⟩
    · exact ⟨(0, 0), fun h => absurd h hi⟩
  obtain ⟨q, hq⟩ := Classical.axiomOfChoice hex
  have hl : ∀ i, i ≤ r → N.Loc (p i) (q i).1 (q i).2 := fun i hi => hq i hi
  have hloc := C.local (m := fun i => (q i).1) (s := fun i => (q i).2) hl
  obtain ⟨k, hk⟩ := common (P := fun i k => ∀ x, N.In k x → (N.Lf x → SA (p i) x = (q i).2 * alti (q i).1 ∧ SB (p i) x = (q i).2 * alti (q i).1) ∧ (N.Rt x → SA (p i) x = (q i).2 ∧ SB (p i) x = (q i).2)) (fun i k l h hp x hx => hp x (hx.mono N h)) r fun i hi => Nest.loc_at (C.pol i hi) (hl i hi)
  refine ⟨cnt (fun i => (q i).2 * alti (q i).1) 0 r, cnt (fun i => (q i).2) 0 r, k, ⟨fun x hx h => ?_, fun x hx h => ?_, fun x hx => ?_⟩, ?_⟩
  · exact ⟨cnt_congr fun i _ hi => ((hk i (by omega) x hx).1 h).1, cnt_congr fun i _ hi => ((hk i (by omega) x hx).1 h).2⟩
  · exact ⟨cnt_congr fun i _ hi => ((hk i (by omega) x hx).2 h).1, cnt_congr fun i _ hi => ((hk i (by omega) x hx).2 h).2⟩
  · exact ⟨cnt_congr fun i _ hi => (Nest.loc_on (C.pol i (by omega)) (hl i (by omega)) hx).2.1, cnt_congr fun i _ hi => (Nest.loc_on (C.pol i (by omega)) (hl i (by omega)) hx).2.2⟩
  · have hz := Nest.zr_iff (C.pol 0 (Nat.zero_le _)) (hl 0 (Nat.zero_le _))
    by_cases h0 : (q 0).1 = 0
    · rw [if_pos h0, Int.add_zero] at hloc
      exact Or.inl ⟨hloc, fun h => by have := hz.1 h; omega⟩
    · rw [if_neg h0] at hloc
      exact Or.inr ⟨hloc, hz.2 (by omega)⟩
theorem zr_on {N : Nest} {f : Fn} (hf : Pol f) {a : Rat} (ha : ∀ n, N.In n a) : N.Zr f ↔ f a = 0 := by
  refine ⟨fun h => h.at ha, fun h => ?_⟩
  rcases Nest.tri (N := N) hf with g | ⟨c, hc, n, g⟩ | ⟨c, hc, n, g⟩
  · exact g
  · have := g a (ha n); grind
  · have := g a (ha n); grind
variable (C : Chain p r)
include C
theorem Chain.ab (a : Rat) : cA p r a = cB p r a + if p 0 a = 0 then 1 else 0 := by
  obtain ⟨N, hN⟩ := nest_at a
  obtain ⟨L, R, k, hn, h⟩ := C.near N
  obtain ⟨e1, e2⟩ := hn.on a hN
  have hz := zr_on (C.pol 0 (Nat.zero_le _)) hN
  rw [e1, e2]
  rcases h with ⟨h1, h2⟩ | ⟨h1, h2⟩
  · rw [if_neg fun h => h2 (hz.2 h), h1, Int.add_zero]
  · rw [if_pos (hz.1 h2), h1]
theorem Chain.ab_le (a : Rat) : cB p r a ≤ cA p r a := by
  rw [C.ab a]
  by_cases h : p 0 a = 0
  · rw [if_pos h]; omega
  · rw [if_neg h]; omega
theorem Chain.down {a b : Rat} (hab : a < b) : cA p r b ≤ cB p r a := by
  refine Decidable.byContradiction fun hn => ?_
  obtain ⟨N, h, _⟩ := bisect (Bad := fun u v => ¬ cA p r v ≤ cB p r u) hab hn fun u v _ _ _ h => by
    have := C.ab_le ((u + v) / 2)
    by_cases h1 : cA p r ((u + v) / 2) ≤ cB p r u
    · exact Or.inr (by omega)
    · exact Or.inl h1
  obtain ⟨L, R, k, hk, hLR⟩ := C.near N
  have hle : R ≤ L := by rcases hLR with ⟨h, _⟩ | ⟨h, _⟩ <;> omega
  have hb := h k
  have iu := N.in_u (Nat.le_refl k)
  have iv := N.in_v (Nat.le_refl k)
  rcases N.three (N.u k) with hu | ⟨j, hu⟩ | hu
  · rw [(hk.lf _ iu hu).2] at hb
    rcases N.three (N.v k) with ⟨j, hv⟩ | hv | hv
    · exact absurd (N.u_lt_v j k) (by grind)
    · rw [(hk.rt _ iv hv).1] at hb; omega
    · rw [(hk.on _ hv).1] at hb; omega
  · exact absurd (N.u_lt_v k j) (by grind)
  · rw [(hk.on _ hu).2, (hk.rt _ iv (Nest.ge_u hu (N.lt k))).1] at hb
    omega
theorem Chain.mono {a b : Rat} (hab : a ≤ b) : cA p r b ≤ cA p r a := by
  by_cases h : a = b
  · rw [h]; exact Int.le_refl _
  · have := C.down (show a < b by grind)
    have := C.ab_le a
    omega
/-- Where no root is passed, the sign is the same. -/
theorem Chain.same {a b : Rat} (hab : a ≤ b) (h : cA p r a = cA p r b) : SA (p 0) a = SA (p 0) b := by
  by_cases hne : a = b
  · rw [hne]
  refine Decidable.byContradiction fun hn => ?_
  obtain ⟨N, hB, hi⟩ := bisect (Bad := fun u v => SA (p 0) u ≠ SA (p 0) v) (show a < b by grind) hn fun u v _ _ _ h => by
    by_cases h1 : SA (p 0) u = SA (p 0) ((u + v) / 2)
    · exact Or.inr (by rwa [← h1])
    · exact Or.inl h1
  obtain ⟨L, R, k, hk, hLR⟩ := C.near N
  obtain ⟨l, t, k', hk', hz⟩ := near_s (N := N) (C.pol 0 (Nat.zero_le _)) (C.nz 0 (Nat.zero_le _))
  have hb := hB (max k k')
  have iu := N.in_u (Nat.le_max_left k k')
  have iv := N.in_v (Nat.le_max_left k k')
  have iu' := N.in_u (Nat.le_max_right k k')
  have iv' := N.in_v (Nat.le_max_right k k')
  have hlt := N.lt (max k k')
  obtain ⟨i1, i2⟩ := hi (max k k')
  generalize N.u (max k k') = u at *
  generalize N.v (max k k') = v at *
  have m1 := C.mono i1
  have m2 := C.mono i2
  have hA : cA p r u = L ∧ SA (p 0) u = l := by
    rcases N.three u with hu | ⟨j, hu⟩ | hu
    · exact ⟨(hk.lf _ iu hu).1, (hk'.lf _ iu' hu).1⟩
    · exfalso
      rcases N.three v with ⟨i, hv⟩ | ⟨i, hv⟩ | hv
      · have := N.u_lt_v i j; grind
      · refine hb ?_
        rw [(hk'.rt _ iu' ⟨j, hu⟩).1, (hk'.rt _ iv' ⟨i, hv⟩).1]
      · have := (hv j).2; grind
    · exact ⟨(hk.on _ hu).1, (hk'.on _ hu).1⟩
  rcases N.three v with hv | hv | hv
  · exact hb (by rw [hA.2, (hk'.lf _ iv' hv).1])
  · rw [(hk.rt _ iv hv).1] at m2
    rw [hA.1] at m1
    rcases hLR with ⟨e, hz'⟩ | ⟨e, _⟩
    · exact hb (by rw [hA.2, (hk'.rt _ iv' hv).1]; exact hz hz')
    · have := C.mono (Rat.le_of_lt hlt)
      omega
  · exact hb (by rw [hA.2, (hk'.on _ hv).1])
/-- Where there is no root between, no count is passed. -/
theorem Chain.none {a b : Rat} (hab : a < b) (h1 : ∀ x, a < x → x < b → p 0 x ≠ 0) (h2 : ∀ N : Nest, (∀ n, a ≤ N.u n ∧ N.v n ≤ b) → N.Zr (p 0) → (∀ n, N.In n a) ∨ ∀ n, N.In n b) : cB p r a = cA p r b := by
  refine Decidable.byContradiction fun hn => ?_
  obtain ⟨N, hB, hi⟩ := bisect (Bad := fun u v => cB p r u ≠ cA p r v) hab hn fun u v g1 g2 g3 h => by
    have e := C.ab ((u + v) / 2)
    rw [if_neg (h1 _ (by grind) (by grind)), Int.add_zero] at e
    by_cases g : cB p r u = cA p r ((u + v) / 2)
    · exact Or.inr (by rw [← e, ← g]; exact h)
    · exact Or.inl g
  obtain ⟨L, R, k, hk, hLR⟩ := C.near N
  have hb := hB k
  have iu := N.in_u (Nat.le_refl k)
  have iv := N.in_v (Nat.le_refl k)
  have hlt := N.lt k
  obtain ⟨i1, i2⟩ := hi k
  rcases hLR with ⟨e, _⟩ | ⟨e, hz⟩
  · have e1 : cB p r (N.u k) = L := by
      rcases N.three (N.u k) with hu | hu | hu
      · exact (hk.lf _ iu hu).2
      · rw [e]; exact (hk.rt _ iu hu).2
      · rw [e]; exact (hk.on _ hu).2
    have e2 : cA p r (N.v k) = L := by
      rcases N.three (N.v k) with hu | hu | hu
      · exact (hk.lf _ iv hu).1
      · rw [e]; exact (hk.rt _ iv hu).1
      · exact (hk.on _ hu).1
    exact hb (by rw [e1, e2])
  · rcases h2 N hi hz with ha | hb'
    · have eu : N.u k = a := Rat.le_antisymm (ha k).1 i1
      rw [eu] at hlt hb
      exact hb (by rw [(hk.on _ ha).2, (hk.rt _ iv (Nest.ge_u ha hlt)).1])
    · have ev : N.v k = b := Rat.le_antisymm i2 (hb' k).2
      rw [ev] at hlt hb
      exact hb (by rw [(hk.lf _ iu (Nest.le_v hb' hlt)).2, (hk.on _ hb').1])
end
end Go.Sturm

namespace Go.Sturm

/-- The value of so many numbers, from the i-th on. -/
def hq (f : Nat → Int) (x : Rat) : Nat → Nat → Rat
  | _, 0 => 0
  | i, d + 1 => hq f x (i + 1) d * x + (f i : Rat)
theorem hq_pol (f : Nat → Int) : ∀ d i, Pol (fun x => hq f x i d)
  | 0, _ => Pol.zero
  | d + 1, i => by
    have := (hq_pol f d (i + 1)).cons (f i : Rat)
    rwa [show (fun x => (f i : Rat) + x * hq f x (i + 1) d) = fun x => hq f x i (d + 1) from funext fun x => by
      show _ = hq f x (i + 1) d * x + (f i : Rat); grind] at this
/-- Weighted. -/
def eq' (f : Nat → Int) (x : Rat) : Nat → Nat → Rat → Rat
  | 0, _, _ => 0
  | d + 1, i, w => w * (f (i + 1) : Rat) + x * eq' f x d (i + 1) (w + 1)
theorem eq_step (f : Nat → Int) (x : Rat) : ∀ d i w, eq' f x d i (w + 1) = eq' f x d i w + hq f x (i + 1) d
  | 0, _, _ => by show (0 : Rat) = 0 + 0; grind
  | d + 1, i, w => by
    show (w + 1) * (f (i + 1) : Rat) + x * eq' f x d (i + 1) (w + 1 + 1) = w * (f (i + 1) : Rat) + x * eq' f x d (i + 1) (w + 1) + (hq f x (i + 1 + 1) d * x + (f (i + 1) : Rat))
    rw [eq_step f x d (i + 1) (w + 1)]
    grind
theorem D_hq (f : Nat → Int) : ∀ d i, D (fun x => hq f x i (d + 1)) = fun x => eq' f x d i 1
  | 0, i => by
    rw [show (fun x => hq f x i 1) = fun _ => (f i : Rat) from funext fun x => by show (0 : Rat) * x + _ = _; grind, D_const]
    rfl
  | d + 1, i => by
    rw [show (fun x => hq f x i (d + 2)) = fun x => (f i : Rat) + x * hq f x (i + 1) (d + 1) from funext fun x => by
      show hq f x (i + 1) (d + 1) * x + (f i : Rat) = _; grind, D_cons _ (hq_pol f (d + 1) (i + 1)), D_hq f d (i + 1)]
    refine funext fun x => ?_
    show hq f x (i + 1 + 1) d * x + (f (i + 1) : Rat) + x * eq' f x d (i + 1) 1 = 1 * (f (i + 1) : Rat) + x * eq' f x d (i + 1) (1 + 1)
    rw [eq_step f x d (i + 1) 1]
    grind
theorem eq_slope {f g : Nat → Int} (h : ∀ q, g q = f (q + 1) * ((q + 1 : Nat) : Int)) (x : Rat) : ∀ d i, hq g x i d = eq' f x d i ((i : Rat) + 1)
  | 0, _ => rfl
  | d + 1, i => by
    show hq g x (i + 1) d * x + (g i : Rat) = ((i : Rat) + 1) * (f (i + 1) : Rat) + x * eq' f x d (i + 1) ((i : Rat) + 1 + 1)
    rw [eq_slope h x d (i + 1), h i, Rat.intCast_mul, Rat.intCast_natCast]
    have e : ((i + 1 : Nat) : Rat) = (i : Rat) + 1 := by simp
    rw [e]
    grind
theorem D_poly {f g : Nat → Int} (h : ∀ q, g q = f (q + 1) * ((q + 1 : Nat) : Int)) : ∀ n, D (fun x => hq f x 0 n) = fun x => hq g x 0 (n - 1)
  | 0 => D_const 0
  | n + 1 => by
    rw [D_hq]
    refine funext fun x => ?_
    have := eq_slope h x n 0
    rw [show n + 1 - 1 = n by omega, this]
    congr 1
    simp
    grind
theorem hq_int {h : (Nat → Int) → Int → Nat → Nat → Int} (h0 : ∀ f x i, h f x i 0 = 0) (h1 : ∀ f x i d, h f x i (d + 1) = h f x (i + 1) d * x + f i) (f : Nat → Int) (x : Int) : ∀ d i, hq f (x : Rat) i d = ((h f x i d : Int) : Rat)
  | 0, i => by rw [h0]; rfl
  | d + 1, i => by
    show hq f (x : Rat) (i + 1) d * (x : Rat) + (f i : Rat) = _
    rw [hq_int h0 h1 f x d (i + 1), h1, Rat.intCast_add, Rat.intCast_mul]
theorem hq_more {f : Nat → Int} {x : Rat} : ∀ d i k, (∀ j, i + d ≤ j → f j = 0) → hq f x i (d + k) = hq f x i d
  | 0, i, 0, _ => rfl
  | 0, i, k + 1, h => by
    have := hq_more (f := f) (x := x) 0 (i + 1) k fun j hj => h j (by omega)
    rw [Nat.zero_add] at this ⊢
    show hq f x (i + 1) k * x + (f i : Rat) = 0
    rw [this, h i (by omega)]
    show (0 : Rat) * x + ((0 : Int) : Rat) = 0
    grind
  | d + 1, i, k, h => by
    rw [show d + 1 + k = d + k + 1 by omega]
    show hq f x (i + 1) (d + k) * x + (f i : Rat) = hq f x (i + 1) d * x + (f i : Rat)
    rw [hq_more d (i + 1) k fun j hj => h j (by omega)]
theorem hq_len {f : Nat → Int} {x : Rat} {n m : Nat} (h : ∀ j, n ≤ j → f j = 0) (hm : n ≤ m) : hq f x 0 m = hq f x 0 n := by
  obtain ⟨k, rfl⟩ := Nat.le.dest hm
  exact hq_more n 0 k fun j hj => h j (by omega)
theorem hq_congr {f g : Nat → Int} {x : Rat} : ∀ d i, (∀ j, i ≤ j → j < i + d → f j = g j) → hq f x i d = hq g x i d
  | 0, _, _ => rfl
  | d + 1, i, h => by
    show hq f x (i + 1) d * x + (f i : Rat) = hq g x (i + 1) d * x + (g i : Rat)
    rw [hq_congr d (i + 1) fun j h1 h2 => h j (by omega) (by omega), h i (by omega) (by omega)]
theorem hq_add (f g : Nat → Int) (x : Rat) : ∀ d i, hq (fun q => f q + g q) x i d = hq f x i d + hq g x i d
  | 0, _ => by show (0 : Rat) = 0 + 0; grind
  | d + 1, i => by
    show hq (fun q => f q + g q) x (i + 1) d * x + ((f i + g i : Int) : Rat) = hq f x (i + 1) d * x + (f i : Rat) + (hq g x (i + 1) d * x + (g i : Rat))
    rw [hq_add f g x d (i + 1), Rat.intCast_add]
    grind
theorem hq_smul (c : Int) (f : Nat → Int) (x : Rat) : ∀ d i, hq (fun q => f q * c) x i d = hq f x i d * (c : Rat)
  | 0, _ => by show (0 : Rat) = 0 * _; grind
  | d + 1, i => by
    show hq (fun q => f q * c) x (i + 1) d * x + ((f i * c : Int) : Rat) = (hq f x (i + 1) d * x + (f i : Rat)) * (c : Rat)
    rw [hq_smul c f x d (i + 1), Rat.intCast_mul]
    grind
def sh (s : Nat) (g : Nat → Int) (q : Nat) : Int := if s ≤ q then g (q - s) else 0
theorem hq_sh (s : Nat) (g : Nat → Int) (x : Rat) : ∀ d i, hq (sh s g) x (s + i) d = hq g x i d
  | 0, _ => rfl
  | d + 1, i => by
    show hq (sh s g) x (s + i + 1) d * x + ((sh s g (s + i) : Int) : Rat) = hq g x (i + 1) d * x + (g i : Rat)
    rw [show s + i + 1 = s + (i + 1) by omega, hq_sh s g x d (i + 1)]
    unfold sh
    rw [if_pos (by omega), show s + i - s = i by omega]
def xp (x : Rat) : Nat → Rat
  | 0 => 1
  | k + 1 => xp x k * x
theorem xp_pol : ∀ k, Pol (fun x => xp x k)
  | 0 => Pol.const 1
  | k + 1 => by
    have := (xp_pol k).xmul
    rwa [show (fun x => x * xp x k) = fun x => xp x (k + 1) from funext fun x => by show _ = xp x k * x; grind] at this
theorem hq_sh0 (s : Nat) (g : Nat → Int) (x : Rat) (d : Nat) : ∀ k, k ≤ s → hq (sh s g) x (s - k) (k + d) = xp x k * hq g x 0 d
  | 0, _ => by
    have := hq_sh s g x d 0
    rw [Nat.add_zero] at this
    rw [Nat.sub_zero, Nat.zero_add, this]
    show _ = 1 * _
    grind
  | k + 1, hk => by
    rw [show k + 1 + d = k + d + 1 by omega]
    show hq (sh s g) x (s - (k + 1) + 1) (k + d) * x + ((sh s g (s - (k + 1)) : Int) : Rat) = xp x k * x * hq g x 0 d
    rw [show s - (k + 1) + 1 = s - k by omega, hq_sh0 s g x d k (by omega)]
    unfold sh
    rw [if_neg (by omega)]
    show xp x k * hq g x 0 d * x + ((0 : Int) : Rat) = _
    have e : ((0 : Int) : Rat) = 0 := rfl
    rw [e]
    grind
theorem hq_shift (s : Nat) (g : Nat → Int) (x : Rat) (d : Nat) : hq (sh s g) x 0 (s + d) = xp x s * hq g x 0 d := by
  have := hq_sh0 s g x d s (Nat.le_refl _)
  rwa [Nat.sub_self] at this
theorem cnt_snoc (s : Nat → Int) : ∀ d j, cnt s j (d + 1) = cnt s j d + ind (s (j + d)) (s (j + d + 1))
  | 0, j => by show ind (s j) (s (j + 1)) + 0 = 0 + ind (s j) (s (j + 1)); omega
  | d + 1, j => by
    show ind (s j) (s (j + 1)) + cnt s (j + 1) (d + 1) = ind (s j) (s (j + 1)) + cnt s (j + 1) d + _
    rw [cnt_snoc s d (j + 1), show j + 1 + d = j + (d + 1) by omega]
    omega
end Go.Sturm
