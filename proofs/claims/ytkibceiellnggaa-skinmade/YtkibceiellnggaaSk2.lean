/-
  Package skin, and the answer: cells, rounds, what is beyond the sides.
-/
import Derived.Test.YtkibceiellnggaaSk1
namespace Go.Proofs.Ytkibceiellnggaa
open Go.Gv

theorem tmod_neg {n m : Int} (h : n < 0) : n.tmod m = -((-n) % m) ∧ n.tdiv m = -((-n) / m) := by
  have e : n = -(-n) := by omega
  constructor
  · rw [e, Int.neg_tmod, Int.tmod_eq_emod_of_nonneg (by omega)]; simp
  · rw [e, Int.neg_tdiv, Int.tdiv_eq_ediv_of_nonneg (by omega)]; simp
def roS (n f : Int) : Int := (w64 (n.tmod f + f)).tmod f
def inB (n : Int) : Bool := decide (-1099511627776 ≤ n) && decide (n ≤ 1099511627776)
def siB (s : Int) : Bool := decide (1 ≤ s) && decide (s ≤ 64)
theorem inB_rng {n : Int} (h : inB n = true) : -1099511627776 ≤ n ∧ n ≤ 1099511627776 := by unfold inB at h; simpa using h
theorem siB_rng {n : Int} (h : siB n = true) : 1 ≤ n ∧ n ≤ 64 := by unfold siB at h; simpa using h
theorem neg_mod {n f : Int} : (-((-n) % f) + f) % f = n % f := by
  have h := Int.emod_add_mul_ediv (-n) f
  have e : -((-n) % f) + f = n + f * ((-n) / f + 1) := by rw [Int.mul_add, Int.mul_one]; omega
  rw [e, Int.add_mul_emod_self_left]
theorem roS_eq {n f : Int} (hf : 0 < f) (hf' : f ≤ 1000) (hn : inB n = true) : roS n f = n % f := by
  have hn := inB_rng hn
  unfold roS
  by_cases h : n < 0
  · rw [(tmod_neg h).1]
    have h0 := Int.emod_nonneg (-n) (show f ≠ 0 by omega)
    have h1 := Int.emod_lt_of_pos (-n) hf
    rw [w64_id (by omega) (by omega), Int.tmod_eq_emod_of_nonneg (by omega), neg_mod]
  · rw [Int.tmod_eq_emod_of_nonneg (a := n) (by omega)]
    have h0 := Int.emod_nonneg n (show f ≠ 0 by omega)
    have h1 := Int.emod_lt_of_pos n hf
    rw [w64_id (by omega) (by omega), Int.tmod_eq_emod_of_nonneg (by omega), Int.add_emod_right, Int.emod_emod_of_dvd n (Int.dvd_refl f)]
def flR (n m : Int) : Int := cond (decide (n.tmod m < 0)) (w64 (n.tmod m + m)) (n.tmod m)
def flQ (n m : Int) : Int := cond (decide (n.tmod m < 0)) (w64 (w64 (n.tdiv m) - 1)) (w64 (n.tdiv m))
theorem flR_eq {n f : Int} (hf : 0 < f) (hf' : f ≤ 1000) (hn : inB n = true) : flR n f = n % f := by
  have hn := inB_rng hn
  unfold flR
  have h0 := Int.emod_nonneg n (show f ≠ 0 by omega)
  have h1 := Int.emod_lt_of_pos n hf
  by_cases h : n < 0
  · have g0 := Int.emod_nonneg (-n) (show f ≠ 0 by omega)
    have g1 := Int.emod_lt_of_pos (-n) hf
    have hm := neg_mod (n := n) (f := f)
    rw [(tmod_neg h).1]
    by_cases hz : (-n) % f = 0
    · rw [hz, decide_eq_false (show ¬ -(0 : Int) < 0 by omega), cond_false]
      rw [hz] at hm
      simp at hm
      omega
    · rw [decide_eq_true (by omega), cond_true, w64_id (by omega) (by omega)]
      rw [Int.emod_eq_of_lt (a := -((-n) % f) + f) (by omega) (by omega)] at hm
      exact hm
  · rw [Int.tmod_eq_emod_of_nonneg (by omega), decide_eq_false (by omega), cond_false]
theorem flQ_eq {n : Int} (hn : inB n = true) : flQ n 256 = n / 256 := by
  have hn := inB_rng hn
  unfold flQ
  by_cases h : n < 0
  · rw [(tmod_neg h).1, (tmod_neg h).2, w64_id (n := -(-n / 256)) (by omega) (by omega)]
    by_cases hz : -(-n % 256) < 0
    · rw [decide_eq_true hz, cond_true, w64_id (by omega) (by omega)]; omega
    · rw [decide_eq_false hz, cond_false]; omega
  · have e1 : n.tmod 256 = n % 256 := Int.tmod_eq_emod_of_nonneg (by omega)
    have e2 : n.tdiv 256 = n / 256 := Int.tdiv_eq_ediv_of_nonneg (by omega)
    rw [e1, e2, decide_eq_false (by omega), cond_false, w64_id (by omega) (by omega)]
theorem ceQ_eq {n : Int} (hn : inB n = true) : w64 ((w64 (n - roS n 256)).tdiv 256) = n / 256 := by
  have hn' := inB_rng hn
  rw [roS_eq (by decide) (by decide) hn, w64_id (n := n - n % 256) (by omega) (by omega)]
  by_cases h : n - n % 256 < 0
  · rw [(tmod_neg h).2, w64_id (by omega) (by omega)]; omega
  · have e2 : (n - n % 256).tdiv 256 = (n - n % 256) / 256 := Int.tdiv_eq_ediv_of_nonneg (by omega)
    rw [e2, w64_id (by omega) (by omega)]; omega
/-! ### The contracts -/
theorem ro_ev (n f : Int) : ev Try.prog [] [] noL Try.f28 [iA n, iA f] ret = cond ((!(f == 0)) && true) (cond ((!(f == 0)) && true) (some (Out.of (iA (roS n f)))) none) none := by kernel_rfl
def roC : List AV → Bool
  | [.x (.int .i64 _), .x (.int .i64 f)] => !(f == 0)
  | _ => false
def roG : List AV → AV
  | [.x (.int .i64 n), .x (.int .i64 f)] => iA (roS n f)
  | _ => .any
theorem kRo_ok : KOk Try.prog (kIf 28 roC roG) := kIf_ok fun args h => by
  unfold roC at h
  split at h
  · rename_i n f
    exact gspec e_nil k_nil Try.func28 (by kernel_rfl) (by kernel_rfl) noL_ok rfl ((ro_ev n f).trans (by rw [h]; rfl))
  · cases h
theorem ce_ev (n : Int) : ev Try.prog [] [kIf 28 roC roG] noL Try.f18 [iA n] ret = some (Out.of (.tup [iA (w64 ((w64 (n - roS n 256)).tdiv 256)), iA (roS n 256)])) := by kernel_rfl
def ceC : List AV → Bool
  | [.x (.int .i64 n)] => inB n
  | _ => false
def ceG (qf rf : Int → Int) : List AV → AV
  | [.x (.int .i64 n)] => .tup [iA (qf n), iA (rf n)]
  | _ => .any
def q256 (n : Int) : Int := n / 256
def r256 (n : Int) : Int := n % 256
theorem kCe_ok : KOk Try.prog (kIf 18 ceC (ceG q256 r256)) := kIf_ok fun args h => by
  unfold ceC at h
  split at h
  · rename_i n
    refine gspec e_nil (k_cons kRo_ok k_nil) Try.func18 (by kernel_rfl) (by kernel_rfl) noL_ok rfl ((ce_ev n).trans ?_)
    rw [ceQ_eq h, roS_eq (by decide) (by decide) h]
    rfl
  · cases h
theorem fl_ev (n m : Int) : ev Try.prog [] [] noL Try.f23 [iA n, iA m] ret =
    cond ((!(m == 0)) && true) (cond ((!(m == 0)) && true) (cond (decide (n.tmod m < 0)) (some (Out.of (.tup [iA (w64 (w64 (n.tdiv m) - 1)), iA (w64 (n.tmod m + m))]))) (some (Out.of (.tup [iA (w64 (n.tdiv m)), iA (n.tmod m)])))) none) none := by kernel_rfl
theorem fl_spec {n m : Int} (hm : (!(m == 0)) = true) : FSpec Try.prog 23 [iA n, iA m] (.tup [iA (flQ n m), iA (flR n m)]) := by
  refine gspec e_nil k_nil Try.func23 (by kernel_rfl) (by kernel_rfl) noL_ok rfl ?_
  rw [fl_ev, hm]
  unfold flQ flR
  cases decide (n.tmod m < 0) <;> rfl
def flG (qf rf : Int → Int → Int) : List AV → AV
  | [.x (.int .i64 n), .x (.int .i64 m)] => .tup [iA (qf n m), iA (rf n m)]
  | _ => .any
theorem kFl_ok : KOk Try.prog (kIf 23 roC (flG flQ flR)) := kIf_ok fun args h => by
  unfold roC at h
  split at h
  · exact fl_spec h
  · cases h
/-- Beyond the sides. -/
def onP (way n s : Int) : Int := cond (way == 0) (n % s) (cond (way == 1) (cond (decide (n % (2 * s) ≥ s)) (2 * s - 1 - n % (2 * s)) (n % (2 * s))) (cond (decide (n < 0)) 0 (cond (decide (n ≥ s)) (s - 1) n)))
def mn (a b : Int) : Int := if b < a then b else a
def mxx (a b : Int) : Int := if b > a then b else a
section
variable (rf : Int → Int → Int)
def roGG : List AV → AV
  | [.x (.int .i64 n), .x (.int .i64 f)] => iA (rf n f)
  | _ => .any
theorem on_ev (w n s : Int) : ev Try.prog [] [kIf 28 roC (roGG rf)] noL Try.f19 [iA w, iA n, iA s] ret =
    cond (w == 0) (cond (!(s == 0)) (some (Out.of (iA (rf n s)))) none) (cond (w == 1) (cond (!(w64 (2 * s) == 0)) (some (Out.of (iA (mn (rf n (w64 (2 * s))) (w64 (w64 (w64 (2 * s) - 1) - rf n (w64 (2 * s)))))))) none)
      (some (Out.of (iA (mxx 0 (mn n (w64 (s - 1)))))))) := by kernel_rfl
theorem wr_ev (w k n : Int) (qf : Int → Int → Int) : ev Try.prog [] [kIf 23 roC (flG qf rf)] noL Try.f24 [iA w, iA k, iA n] ret =
    cond (w == 0) (cond (!(n == 0)) (some (Out.of (iA (rf k n)))) none) (cond (w == 1) (cond (!(w64 (2 * n) == 0)) (cond (decide (rf k (w64 (2 * n)) ≥ n)) (some (Out.of (iA (w64 (w64 (w64 (2 * n) - 1) - rf k (w64 (2 * n))))))) (some (Out.of (iA (rf k (w64 (2 * n))))))) none)
      (cond (decide (k < 0)) (some (Out.of (iA 0))) (cond (decide (k ≥ n)) (some (Out.of (iA (w64 (n - 1))))) (some (Out.of (iA k)))))) := by kernel_rfl
end
def onC : List AV → Bool
  | [.x (.int .i64 _), .x (.int .i64 n), .x (.int .i64 s)] => inB n && siB s
  | _ => false
def onG (of : Int → Int → Int → Int) : List AV → AV
  | [.x (.int .i64 w), .x (.int .i64 n), .x (.int .i64 s)] => iA (of w n s)
  | _ => .any
theorem kOn_ok : KOk Try.prog (kIf 19 onC (onG onP)) := kIf_ok fun args h => by
  unfold onC at h
  split at h
  · rename_i w n s
    simp only [Bool.and_eq_true] at h
    obtain ⟨hn, hs⟩ := h
    have hs1 := siB_rng hs
    have hn1 := inB_rng hn
    refine gspec e_nil (k_cons kRo_ok k_nil) Try.func19 (by kernel_rfl) (by kernel_rfl) noL_ok rfl ((on_ev roS w n s).trans ?_)
    have e1 : (!(s == 0)) = true := by rw [beq_false_of_ne (show s ≠ 0 by omega)]; rfl
    have e2 : w64 (2 * s) = 2 * s := w64_id (by omega) (by omega)
    have e3 : (!(2 * s == 0)) = true := by rw [beq_false_of_ne (show 2 * s ≠ 0 by omega)]; rfl
    have g0 := Int.emod_nonneg n (show 2 * s ≠ 0 by omega)
    have g1 := Int.emod_lt_of_pos n (show 0 < 2 * s by omega)
    rw [e1, e2, e3, roS_eq (by omega) (by omega) hn, roS_eq (by omega) (by omega) hn, w64_id (n := 2 * s - 1) (by omega) (by omega), w64_id (n := 2 * s - 1 - n % (2 * s)) (by omega) (by omega), w64_id (n := s - 1) (by omega) (by omega)]
    have e4 : mn (n % (2 * s)) (2 * s - 1 - n % (2 * s)) = cond (decide (n % (2 * s) ≥ s)) (2 * s - 1 - n % (2 * s)) (n % (2 * s)) := by
      unfold mn
      by_cases hc : n % (2 * s) ≥ s
      · rw [decide_eq_true hc, cond_true, if_pos (by omega)]
      · rw [decide_eq_false hc, cond_false, if_neg (by omega)]
    have e5 : mxx 0 (mn n (s - 1)) = cond (decide (n < 0)) 0 (cond (decide (n ≥ s)) (s - 1) n) := by
      unfold mn mxx
      by_cases h1 : n < 0
      · rw [decide_eq_true h1, cond_true, if_neg]
        split <;> omega
      · rw [decide_eq_false h1, cond_false]
        by_cases h2 : n ≥ s
        · rw [decide_eq_true h2, cond_true]
          by_cases h3 : s - 1 < n
          · rw [if_pos h3]; split <;> omega
          · omega
        · have h4 : (if s - 1 < n then s - 1 else n) = n := if_neg (by omega)
          rw [decide_eq_false h2, cond_false, h4]; split <;> omega
    rw [e4, e5]
    show _ = some (Out.of (iA (onP w n s)))
    unfold onP
    cases w == 0 <;> cases w == 1 <;> rfl
  · cases h
theorem kWr_ok : KOk Try.prog (kIf 24 onC (onG onP)) := kIf_ok fun args h => by
  unfold onC at h
  split at h
  · rename_i w n s
    simp only [Bool.and_eq_true] at h
    obtain ⟨hn, hs⟩ := h
    have hs1 := siB_rng hs
    have hn1 := inB_rng hn
    refine gspec e_nil (k_cons kFl_ok k_nil) Try.func24 (by kernel_rfl) (by kernel_rfl) noL_ok rfl ((wr_ev flR w n s flQ).trans ?_)
    have e1 : (!(s == 0)) = true := by rw [beq_false_of_ne (show s ≠ 0 by omega)]; rfl
    have e2 : w64 (2 * s) = 2 * s := w64_id (by omega) (by omega)
    have e3 : (!(2 * s == 0)) = true := by rw [beq_false_of_ne (show 2 * s ≠ 0 by omega)]; rfl
    have g0 := Int.emod_nonneg n (show 2 * s ≠ 0 by omega)
    have g1 := Int.emod_lt_of_pos n (show 0 < 2 * s by omega)
    rw [e1, e2, e3, flR_eq (by omega) (by omega) hn, flR_eq (by omega) (by omega) hn, w64_id (n := 2 * s - 1) (by omega) (by omega), w64_id (n := 2 * s - 1 - n % (2 * s)) (by omega) (by omega), w64_id (n := s - 1) (by omega) (by omega)]
    show _ = some (Out.of (iA (onP w n s)))
    unfold onP
    cases w == 0 <;> cases w == 1 <;> cases decide (n % (2 * s) ≥ s) <;> cases decide (n < 0) <;> cases decide (n ≥ s) <;> rfl
  · cases h
theorem onP_rng {w n s : Int} (hs : siB s = true) : 0 ≤ onP w n s ∧ onP w n s < s := by
  have hs1 := siB_rng hs
  unfold onP
  have a0 := Int.emod_nonneg n (show s ≠ 0 by omega)
  have a1 := Int.emod_lt_of_pos n (show 0 < s by omega)
  have g0 := Int.emod_nonneg n (show 2 * s ≠ 0 by omega)
  have g1 := Int.emod_lt_of_pos n (show 0 < 2 * s by omega)
  cases w == 0
  · cases w == 1
    · simp only [cond_false]
      by_cases h1 : n < 0
      · rw [decide_eq_true h1, cond_true]; omega
      · rw [decide_eq_false h1, cond_false]
        by_cases h2 : n ≥ s
        · rw [decide_eq_true h2, cond_true]; omega
        · rw [decide_eq_false h2, cond_false]; omega
    · simp only [cond_false, cond_true]
      by_cases h2 : n % (2 * s) ≥ s
      · rw [decide_eq_true h2, cond_true]; omega
      · rw [decide_eq_false h2, cond_false]; omega
  · exact ⟨a0, a1⟩
end Go.Proofs.Ytkibceiellnggaa
