/-
  The answer: a picture of half the sides: the loops.
-/
import Derived.Test.YtkibceiellnggaaSk14
namespace Go.Proofs.Ytkibceiellnggaa
open Go.Gv

def isId (o : Option Nat) (i : Nat) : Bool := match o with | some k => Nat.beq k i | none => false
/-- Of the loops within, the first is told. -/
theorem lok_hd {P : Program} {c : Code} {i : Nat} {g : LFun} (m : Nat) (hlen : (loopsOf c).length = m + 1) (hno : ((List.range m).all fun j => !(isId (firstId ((loopsOf c).getD (j + 1) .skip)) i)) = true) (h : LSound P ((loopsOf c).getD 0 .skip) g) : LOk P (oneL i g) c :=
  lok_one (m + 1) hlen fun j hj hid => by
    cases j with
    | zero => exact h
    | succ j =>
      rw [List.all_eq_true] at hno
      have := hno j (List.mem_range.2 (by omega))
      rw [hid] at this
      simp [isId] at this
def rkS (p : Pic) (W' H' y x k : Int) (m : Nat) (el : Nat → List AV) : St := mkS 106 [(1, .own 0 0), (2, .own 1 0), (5, .own 2 0), (6, iA y), (7, iA x), (8, iA k)] (rhR p W' H' m el)
def keepRk : List Nat := [1, 2, 5, 6, 7, 8]
def t4n : List (Option Nat) := [some 0, some 1, some 2, some 5]
noncomputable def rkL (p : Pic) (W' H' y x k sum n j' : Int) (m : Nat) (el : Nat → List AV) : Nat → Option LFun := oneL 17 (toldF keepRj t4 (rjS p W' H' y x k 0 0 (w64 (2 * y)) m el) (.exit 6) (rjS p W' H' y x k sum n j' m el))
section
variable (p : Pic) (W' H' y x k sum n j' : Int) (m : Nat) (el : Nat → List AV)
theorem rk_step : evC Try.prog [] [] (rkL p W' H' y x k sum n j' m el) (loopAt Try.f12 2) (rkS p W' H' y x k m el) (finN keepRk t4n) =
    cond (decide (k < 4)) (gate (Sub (rjS p W' H' y x k 0 0 (w64 (2 * y)) m el) (rjS p W' H' y x k 0 0 (w64 (2 * y)) m el)) (cond (((!(w64 (2 * n) == 0)) || false) && ((((m == m) && Nat.ble ((m + 1) * 1) 140737488355328) || false) && true))
      (some ⟨.normal, rkS p W' H' y x (w64 (k + 1)) (m + 1) (fun q => mixL (Nat.blt q m) (el q) [yA (meS sum n)]), .any⟩) none)) none := by kernel_rfl
theorem rk_end : evC Try.prog [] [] (oneL 17 fun _ _ => none) (loopAt Try.f12 2) (rkS p W' H' y x k m el) (finX keepRk t4) = cond (decide (k < 4)) none (some ⟨.exit 4, rkS p W' H' y x k m el, .any⟩) := by kernel_rfl
end
theorem rk_leads {p : Pic} {wd ht : Nat} (h : PG p wd ht) {X Y : Nat} (W' H' : Int) (hX : X < half2 wd) (hY : Y < half2 ht) :
    Leads Try.prog (.loop (loopAt Try.f12 2)) (rkS p W' H' (Y : Nat) (X : Nat) 0 ((Y * half2 wd + X) * 4) fun q => [yA (hpx p wd ht q)]) (.exit 4)
      (rkS p W' H' (Y : Nat) (X : Nat) 4 ((Y * half2 wd + X) * 4 + 4) fun q => [yA (hpx p wd ht q)]) := by
  have hx := half2_lt hX
  have hy := half2_lt hY
  obtain ⟨w1, w2⟩ := half2_le h.w64 h.w1
  obtain ⟨h1, h2⟩ := half2_le h.h64 h.h1
  have hw := h.w64; have hh := h.h64
  have hm : (Y * half2 wd + X) * 4 ≤ (32 * 32 + 32) * 4 := Nat.mul_le_mul (Nat.add_le_add (Nat.mul_le_mul (by omega) (by omega)) (by omega)) (Nat.le_refl _)
  refine loop_rule (fun k => rkS p W' H' (Y : Nat) (X : Nat) (k : Nat) ((Y * half2 wd + X) * 4 + k) fun q => [yA (hpx p wd ht q)]) 4 (.exit 4) _ (by simp) (fun k hk => ?_) ?_
  · have ey : w64 (2 * ((Y : Nat) : Int)) = ((2 * Y : Nat) : Int) := by rw [w64_id (by omega) (by omega)]; omega
    have hl := rj_leads h W' H' ((Y * half2 wd + X) * 4 + k) (fun q => [yA (hpx p wd ht q)]) hx hy hk
    rw [← ey] at hl
    have hL := lok_hd (c := loopAt Try.f12 2) (i := 17) 1 (by kernel_rfl) (by kernel_rfl) (toldF_sound (keep := keepRj) (τ := t4) hl)
    have st := rk_step p W' H' (Y : Nat) (X : Nat) (k : Nat) (accY p wd (2 * X) (2 * Y) (min 2 (wd - 2 * X)) k (min 2 (ht - 2 * Y))) (min 2 (ht - 2 * Y) * min 2 (wd - 2 * X) : Nat) (2 * Y + min 2 (ht - 2 * Y) : Nat) ((Y * half2 wd + X) * 4 + k) fun q => [yA (hpx p wd ht q)]
    have h1 : 1 * 1 ≤ min 2 (ht - 2 * Y) * min 2 (wd - 2 * X) := Nat.mul_le_mul (by omega) (by omega)
    have h2 : min 2 (ht - 2 * Y) * min 2 (wd - 2 * X) ≤ 2 * 2 := Nat.mul_le_mul (by omega) (by omega)
    have e : (!(w64 (2 * ((min 2 (ht - 2 * Y) * min 2 (wd - 2 * X) : Nat) : Int)) == 0)) = true := by
      rw [w64_id (by omega) (by omega), beq_false_of_ne (by omega)]; rfl
    rw [decide_eq_true (show ((k : Nat) : Int) < 4 by omega), gate_pos (Sub.refl _), e, Nat.ble_eq_true_of_le (show ((Y * half2 wd + X) * 4 + k + 1) * 1 ≤ 140737488355328 by omega), w64_next (by omega)] at st
    simp only [BEq.rfl, Bool.and_true, Bool.true_or, cond_true] at st
    refine (leads_ev (finN_sub keepRk t4n) e_nil k_nil hL st).sub (Sub.refl _) ?_
    refine sub_same ⟨Or.inl rfl, Or.inl rfl, Or.inl rfl, Or.inr ⟨5, 1, (Y * half2 wd + X) * 4 + k + 1, _, _, rfl, rfl, fun q hq => ?_⟩, trivial⟩
    have hq0 := hpx_at (p := p) (wd := wd) (ht := ht) (Y := Y) hX hk
    cases hlt : Nat.blt q ((Y * half2 wd + X) * 4 + k)
    · have hge := not_blt hlt
      have : q = (Y * half2 wd + X) * 4 + k := by omega
      subst this
      rw [mix1, cond_false, hq0]
      rfl
    · rw [mix1]; rfl
  · exact leads_ev (finX_sub keepRk t4) e_nil k_nil (lok_none 17) (rk_end p W' H' _ _ 4 _ _)
def rxS (p : Pic) (W' H' y x : Int) (m : Nat) (el : Nat → List AV) : St := mkS 106 [(1, .own 0 0), (2, .own 1 0), (5, .own 2 0), (6, iA y), (7, iA x)] (rhR p W' H' m el)
def keepRx : List Nat := [1, 2, 5, 6, 7]
noncomputable def rxL (p : Pic) (W' H' y x : Int) (m m' : Nat) (el : Nat → List AV) : Nat → Option LFun := oneL 12 (toldF keepRk t4 (rkS p W' H' y x 0 m el) (.exit 4) (rkS p W' H' y x 4 m' el))
section
variable (p : Pic) (W' H' y x : Int) (m m' : Nat) (el : Nat → List AV)
theorem rx_step : evC Try.prog [] [] (rxL p W' H' y x m m' el) (loopAt Try.f12 1) (rxS p W' H' y x m el) (finN keepRx t4) =
    cond (decide (x < W')) (gate (Sub (rkS p W' H' y x 0 m el) (rkS p W' H' y x 0 m el)) (some ⟨.normal, rxS p W' H' y (w64 (x + 1)) m' el, .any⟩)) none := by kernel_rfl
theorem rx_end : evC Try.prog [] [] (oneL 12 fun _ _ => none) (loopAt Try.f12 1) (rxS p W' H' y x m el) (finX keepRx t4) = cond (decide (x < W')) none (some ⟨.exit 2, rxS p W' H' y x m el, .any⟩) := by kernel_rfl
end
theorem rx_leads {p : Pic} {wd ht : Nat} (h : PG p wd ht) {Y : Nat} (H' : Int) (hY : Y < half2 ht) :
    Leads Try.prog (.loop (loopAt Try.f12 1)) (rxS p (half2 wd : Nat) H' (Y : Nat) 0 ((Y * half2 wd) * 4) fun q => [yA (hpx p wd ht q)]) (.exit 2)
      (rxS p (half2 wd : Nat) H' (Y : Nat) (half2 wd : Nat) ((Y * half2 wd + half2 wd) * 4) fun q => [yA (hpx p wd ht q)]) := by
  obtain ⟨w1, w2⟩ := half2_le h.w64 h.w1
  refine loop_rule (fun X => rxS p (half2 wd : Nat) H' (Y : Nat) (X : Nat) ((Y * half2 wd + X) * 4) fun q => [yA (hpx p wd ht q)]) (half2 wd) (.exit 2) _ (by simp) (fun X hX => ?_) ?_
  · have hL := lok_hd (c := loopAt Try.f12 1) (i := 12) 2 (by kernel_rfl) (by kernel_rfl) (toldF_sound (keep := keepRk) (τ := t4) (rk_leads h (half2 wd : Nat) H' hX hY))
    refine leads_ev (finN_sub keepRx t4) e_nil k_nil hL ((rx_step p _ _ _ _ _ _ _).trans ?_)
    rw [dec_lt hX, gate_pos (Sub.refl _), w64_next (by omega)]
    have e : (Y * half2 wd + X) * 4 + 4 = (Y * half2 wd + (X + 1)) * 4 := by omega
    rw [e]
    rfl
  · refine leads_ev (finX_sub keepRx t4) e_nil k_nil (lok_none 12) ((rx_end p _ _ _ _ _ _).trans ?_)
    rw [dec_self, cond_false]
def ryS (p : Pic) (W' H' y : Int) (m : Nat) (el : Nat → List AV) : St := mkS 106 [(1, .own 0 0), (2, .own 1 0), (5, .own 2 0), (6, iA y)] (rhR p W' H' m el)
def keepRy : List Nat := [1, 2, 5, 6]
noncomputable def ryL (p : Pic) (W' H' y x' : Int) (m m' : Nat) (el : Nat → List AV) : Nat → Option LFun := oneL 9 (toldF keepRx t4 (rxS p W' H' y 0 m el) (.exit 2) (rxS p W' H' y x' m' el))
section
variable (p : Pic) (W' H' y x' : Int) (m m' : Nat) (el : Nat → List AV)
theorem ry_step : evC Try.prog [] [] (ryL p W' H' y x' m m' el) (loopAt Try.f12 0) (ryS p W' H' y m el) (finN keepRy t4) =
    cond (decide (y < H')) (gate (Sub (rxS p W' H' y 0 m el) (rxS p W' H' y 0 m el)) (some ⟨.normal, ryS p W' H' (w64 (y + 1)) m' el, .any⟩)) none := by kernel_rfl
theorem ry_end : evC Try.prog [] [] (oneL 9 fun _ _ => none) (loopAt Try.f12 0) (ryS p W' H' y m el) (finX keepRy t4) = cond (decide (y < H')) none (some ⟨.exit 0, ryS p W' H' y m el, .any⟩) := by kernel_rfl
end
theorem ry_leads {p : Pic} {wd ht : Nat} (h : PG p wd ht) :
    Leads Try.prog (.loop (loopAt Try.f12 0)) (ryS p (half2 wd : Nat) (half2 ht : Nat) 0 0 fun q => [yA (hpx p wd ht q)]) (.exit 0)
      (ryS p (half2 wd : Nat) (half2 ht : Nat) (half2 ht : Nat) (half2 ht * half2 wd * 4) fun q => [yA (hpx p wd ht q)]) := by
  obtain ⟨h1, h2⟩ := half2_le h.h64 h.h1
  have h0 : Leads Try.prog (.loop (loopAt Try.f12 0)) (ryS p (half2 wd : Nat) (half2 ht : Nat) (0 : Nat) (0 * half2 wd * 4) fun q => [yA (hpx p wd ht q)]) (.exit 0)
      (ryS p (half2 wd : Nat) (half2 ht : Nat) (half2 ht : Nat) (half2 ht * half2 wd * 4) fun q => [yA (hpx p wd ht q)]) := by
    refine loop_rule (fun Y => ryS p (half2 wd : Nat) (half2 ht : Nat) (Y : Nat) (Y * half2 wd * 4) fun q => [yA (hpx p wd ht q)]) (half2 ht) (.exit 0) _ (by simp) (fun Y hY => ?_) ?_
    · have hL := lok_hd (c := loopAt Try.f12 0) (i := 9) 3 (by kernel_rfl) (by kernel_rfl) (toldF_sound (keep := keepRx) (τ := t4) (rx_leads h (half2 ht : Nat) hY))
      refine leads_ev (finN_sub keepRy t4) e_nil k_nil hL ((ry_step p _ _ _ _ _ _ _).trans ?_)
      rw [dec_lt hY, gate_pos (Sub.refl _), w64_next (by omega), Nat.succ_mul Y]
      rfl
    · refine leads_ev (finX_sub keepRy t4) e_nil k_nil (lok_none 9) ((ry_end p _ _ _ _ _).trans ?_)
      rw [dec_self, cond_false]
  rw [Nat.zero_mul, Nat.zero_mul] at h0
  exact h0
end Go.Proofs.Ytkibceiellnggaa
