/-
  A picture of half the sides: the code's loops.
-/
import Derived.Test.YtkibceiellnggaaSk10
namespace Go.Proofs.Ytkibceiellnggaa
open Go.Gv

theorem mix1 (b : Bool) (a c : Int) : mixL b [yA a] [yA c] = [yA (cond b a c)] := by unfold yA; simp only [mixL, mixA, decide_true, cond_true]
def half2 (n : Nat) : Nat := (n + 1) / 2
/-- The bytes of the picture of half the sides. -/
def hpx (p : Pic) (wd ht : Nat) (q : Nat) : Int := hbt p wd ht (2 * (q / 4 % half2 wd)) (2 * (q / 4 / half2 wd)) (q % 4)
def hpic (p : Pic) (wd ht : Nat) : Pic := ⟨(half2 wd : Nat), (half2 ht : Nat), half2 wd * half2 ht * 4, hpx p wd ht⟩
theorem hpx_at {p : Pic} {wd ht X Y k : Nat} (hX : X < half2 wd) (hk : k < 4) : hpx p wd ht ((Y * half2 wd + X) * 4 + k) = hbt p wd ht (2 * X) (2 * Y) k := by
  unfold hpx
  have e1 : ((Y * half2 wd + X) * 4 + k) / 4 = Y * half2 wd + X := by omega
  have e2 : ((Y * half2 wd + X) * 4 + k) % 4 = k := by omega
  have e3 : (Y * half2 wd + X) % half2 wd = X := by rw [Nat.mul_comm, Nat.mul_add_mod]; exact Nat.mod_eq_of_lt hX
  have e4 : (Y * half2 wd + X) / half2 wd = Y := by rw [Nat.mul_comm, Nat.mul_add_div (by omega), Nat.div_eq_of_lt hX]; omega
  rw [e1, e2, e3, e4]
/-- What has been laid so far. -/
def laid (p : Pic) (wd ht t q : Nat) : Int := cond (Nat.blt q (t * 4)) (hpx p wd ht q) 0
theorem blt_t {a b : Nat} (h : a < b) : Nat.blt a b = true := Nat.ble_eq_true_of_le h
theorem blt_f {a b : Nat} (h : b ≤ a) : Nat.blt a b = false := by
  cases hb : Nat.blt a b
  · rfl
  · have : a < b := Nat.le_of_ble_eq_true hb
    omega
theorem lay_eq {p : Pic} {wd ht X Y : Nat} (hX : X < half2 wd) (q : Nat) :
    lay4 (hbt p wd ht (2 * X) (2 * Y) 0) (hbt p wd ht (2 * X) (2 * Y) 1) (hbt p wd ht (2 * X) (2 * Y) 2) (hbt p wd ht (2 * X) (2 * Y) 3) (fun q => [yA (laid p wd ht (Y * half2 wd + X) q)]) ((Y * half2 wd + X) * 4) q = [yA (laid p wd ht (Y * half2 wd + X + 1) q)] := by
  unfold lay4 spread spread spread spread
  simp only [mix1]
  congr 2
  unfold laid
  have e : (Y * half2 wd + X + 1) * 4 = (Y * half2 wd + X) * 4 + 4 := by omega
  rw [e]
  have hk := fun k hk => hpx_at (p := p) (wd := wd) (ht := ht) (Y := Y) hX (k := k) hk
  generalize (Y * half2 wd + X) * 4 = st at hk
  by_cases h1 : q < st
  · rw [blt_t h1, blt_t (show q < st + 4 by omega)]; rfl
  · rw [blt_f (show st ≤ q by omega)]
    by_cases h2 : q < st + 4
    · rw [blt_t h2]
      have : q = st ∨ q = st + 1 ∨ q = st + 2 ∨ q = st + 3 := by omega
      rcases this with hq | hq | hq | hq
      · have h0 := hk 0 (by omega)
        rw [Nat.add_zero] at h0
        rw [hq, blt_t (show st < st + 1 by omega), h0]; rfl
      · rw [hq, blt_f (show st + 1 ≤ st + 1 by omega), blt_t (show st + 1 < st + 2 by omega), hk 1 (by omega)]; rfl
      · rw [hq, blt_f (show st + 1 ≤ st + 2 by omega), blt_f (show st + 2 ≤ st + 2 by omega), blt_t (show st + 2 < st + 3 by omega), hk 2 (by omega)]; rfl
      · rw [hq, blt_f (show st + 1 ≤ st + 3 by omega), blt_f (show st + 2 ≤ st + 3 by omega), blt_f (show st + 3 ≤ st + 3 by omega), hk 3 (by omega)]; rfl
    · rw [blt_f (show st + 4 ≤ q by omega)]; rfl
theorem half2_lt {wd X : Nat} (h : X < half2 wd) : 2 * X < wd := by unfold half2 at h; omega
theorem half2_le {wd : Nat} (h : wd ≤ 64) (h1 : 1 ≤ wd) : 1 ≤ half2 wd ∧ half2 wd ≤ 32 := by unfold half2; omega
theorem hi_leads {p : Pic} {wd ht : Nat} (h : PG p wd ht) {Y : Nat} (hY : Y < half2 ht) :
    Leads Try.prog (.loop (loopAt Try.f25 1)) (hiS p (half2 wd : Nat) (half2 ht : Nat) (Y : Nat) 0 (half2 wd * half2 ht * 4) fun q => [yA (laid p wd ht (Y * half2 wd) q)]) (.exit 2)
      (hiS p (half2 wd : Nat) (half2 ht : Nat) (Y : Nat) (half2 wd : Nat) (half2 wd * half2 ht * 4) fun q => [yA (laid p wd ht (Y * half2 wd + half2 wd) q)]) := by
  obtain ⟨w1, w2⟩ := half2_le h.w64 h.w1
  obtain ⟨h1, h2⟩ := half2_le h.h64 h.h1
  have hn : half2 wd * half2 ht * 4 ≤ 32 * 32 * 4 := Nat.mul_le_mul (Nat.mul_le_mul w2 h2) (Nat.le_refl _)
  have hn0 : 1 * 1 ≤ half2 wd * half2 ht := Nat.mul_le_mul w1 h1
  refine loop_rule (fun X => hiS p (half2 wd : Nat) (half2 ht : Nat) (Y : Nat) (X : Nat) (half2 wd * half2 ht * 4) fun q => [yA (laid p wd ht (Y * half2 wd + X) q)]) (half2 wd) (.exit 2) _ (by simp) (fun X hX => ?_) ?_
  · have hx := half2_lt hX
    have hy := half2_lt hY
    have hsp := mof_spec h hx hy
    have ex : w64 (2 * ((X : Nat) : Int)) = ((2 * X : Nat) : Int) := by rw [w64_id (by omega) (by omega)]; omega
    have ey : w64 (2 * ((Y : Nat) : Int)) = ((2 * Y : Nat) : Int) := by rw [w64_id (by omega) (by omega)]; omega
    rw [← ex, ← ey] at hsp
    have hrow : (Y + 1) * half2 wd ≤ half2 ht * half2 wd := Nat.mul_le_mul_right _ hY
    rw [Nat.succ_mul, Nat.mul_comm (half2 ht)] at hrow
    have epx : pxF ((half2 wd : Nat) : Int) (X : Nat) (Y : Nat) = (((Y * half2 wd + X) * 4 : Nat) : Int) := by
      unfold pxF
      have e1 : ((Y : Nat) : Int) * ((half2 wd : Nat) : Int) = ((Y * half2 wd : Nat) : Int) := by rw [Int.natCast_mul]
      rw [e1, w64_id (n := ((Y * half2 wd : Nat) : Int)) (by omega) (by omega), w64_id (n := ((Y * half2 wd : Nat) : Int) + _) (by omega) (by omega), w64_id (by omega) (by omega)]
      omega
    have ehb : hiB ((half2 wd : Nat) : Int) (Y : Nat) (X : Nat) (half2 wd * half2 ht * 4) = true := by
      unfold hiB pxCB pxB sbB
      rw [epx, Int.toNat_natCast, Nat.beq_refl, blt_t (show 0 < 0 + half2 wd * half2 ht * 4 by omega), Nat.ble_eq_true_of_le (show (Y * half2 wd + X) * 4 + 4 ≤ half2 wd * half2 ht * 4 by omega)]
      have hN : (Y * half2 wd + X) * 4 + 4 ≤ half2 wd * half2 ht * 4 := by omega
      generalize (Y * half2 wd + X) * 4 = N at hN
      generalize half2 wd * half2 ht * 4 = M at hN hn
      rw [w64_id (by omega) (by omega)]
      simp only [Option.getD_some, Bool.and_true, Bool.or_false, Bool.true_and, Bool.and_eq_true, decide_eq_true_eq]
      omega
    have st := hi_step p ((half2 wd : Nat) : Int) ((half2 ht : Nat) : Int) (Y : Nat) (X : Nat) (hbt p wd ht (2 * X) (2 * Y) 0) (hbt p wd ht (2 * X) (2 * Y) 1) (hbt p wd ht (2 * X) (2 * Y) 2) (hbt p wd ht (2 * X) (2 * Y) 3) (half2 wd * half2 ht * 4) fun q => [yA (laid p wd ht (Y * half2 wd + X) q)]
    have elay : (fun q => lay4 (hbt p wd ht (2 * X) (2 * Y) 0) (hbt p wd ht (2 * X) (2 * Y) 1) (hbt p wd ht (2 * X) (2 * Y) 2) (hbt p wd ht (2 * X) (2 * Y) 3) (fun q => [yA (laid p wd ht (Y * half2 wd + X) q)]) ((Y * half2 wd + X) * 4) q) = fun q => [yA (laid p wd ht (Y * half2 wd + X + 1) q)] := funext fun q => lay_eq hX q
    rw [dec_lt hX, gate_pos rfl, ehb, epx, Int.toNat_natCast, elay, w64_next (by omega), cond_true, cond_true] at st
    exact leads_evM (finN_sub keepHi [some 0, some 1, some 2, some 3]) e_nil (k_cons (kfix_ok hsp) k_nil) (m_cons mPix_ok m_nil) noL_ok st
  · have kno : KOk Try.prog ⟨29, fun _ _ => none⟩ := by
      constructor
      · intro args k o h; simp at h
      · intro args v h
        have h1 := h fun x => some (Out.of x)
        simp at h1
    refine leads_evM (finX_sub keepHi [some 0, some 1, some 2, some 3]) e_nil (k_cons kno k_nil) m_nil noL_ok ((hi_end p _ _ _ _ _ _).trans ?_)
    rw [dec_self, cond_false]
end Go.Proofs.Ytkibceiellnggaa
