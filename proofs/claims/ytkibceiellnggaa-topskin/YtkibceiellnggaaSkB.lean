/-
  Sk13 Sk14 Sk15 Sk16 Sk17 Sk18 Sk19 Sk20 Sk21 Sk22, one behind the other.
-/
import Derived.Test.YtkibceiellnggaaSkA
import Derived.Test.YtkibceiellnggaaGn
namespace Go.Proofs.Ytkibceiellnggaa
open Go.Gv

def rhR (p : Pic) (W' H' : Int) (m : Nat) (el : Nat → List AV) : List Row := [.c p.c, .c picZ, .c [iA W', iA H', .osl 3 1 0 m], .a 5 1 m el]
def riS (p : Pic) (W' H' y x k sum n j i : Int) (m : Nat) (el : Nat → List AV) : St := mkS 106 [(1, .own 0 0), (2, .own 1 0), (5, .own 2 0), (6, iA y), (7, iA x), (8, iA k), (9, iA sum), (10, iA n), (11, iA j), (12, iA i)] (rhR p W' H' m el)
def keepRi : List Nat := [1, 2, 5, 6, 7, 8, 9, 10, 11, 12]
def t4 : List (Option Nat) := [some 0, some 1, some 2, some 3]
section
variable (p : Pic) (W' H' y x k sum n j i : Int) (m : Nat) (el : Nat → List AV)
def riX : Int := w64 (w64 (4 * w64 (w64 (j * p.W) + i)) + k)
def riT : Bool := cond (decide (i < w64 (w64 (2 * x) + 2))) (decide (i < p.W)) false
theorem ri_step : evC Try.prog [] [] noL (loopAt Try.f12 4) (riS p W' H' y x k sum n j i m el) (finN keepRi t4) =
    cond (riT p x i) (cond ((decide (0 ≤ riX p k j i) && decide (riX p k j i < (p.n : Int))) && true) (some ⟨.normal, riS p W' H' y x k (w64 (sum + w64 (p.px (riX p k j i).toNat))) (w64 (n + 1)) j (w64 (i + 1)) m el, .any⟩) none) none := by kernel_rfl
theorem ri_end : evC Try.prog [] [] noL (loopAt Try.f12 4) (riS p W' H' y x k sum n j i m el) (finX keepRi t4) =
    cond (riT p x i) (cond ((decide (0 ≤ riX p k j i) && decide (riX p k j i < (p.n : Int))) && true) none none) (some ⟨.exit 8, riS p W' H' y x k sum n j i m el, .any⟩) := by kernel_rfl
end
end Go.Proofs.Ytkibceiellnggaa

namespace Go.Proofs.Ytkibceiellnggaa
open Go.Gv

theorem riX_eq {p : Pic} {wd ht : Nat} (h : PG p wd ht) {i j k : Nat} (hi : i < wd) (hj : j < ht) (hk : k < 4) : riX p (k : Nat) (j : Nat) (i : Nat) = (((j * wd + i) * 4 + k : Nat) : Int) ∧ (j * wd + i) * 4 + k < p.n := by
  have hlt := h.at_lt hi hj hk
  have hn := h.n_le
  refine ⟨?_, hlt⟩
  unfold riX
  rw [h.W]
  have e1 : (j : Int) * (wd : Int) = ((j * wd : Nat) : Int) := by rw [Int.natCast_mul]
  rw [e1, w64_id (n := ((j * wd : Nat) : Int)) (by omega) (by omega), w64_id (n := ((j * wd : Nat) : Int) + _) (by omega) (by omega), w64_id (n := 4 * _) (by omega) (by omega), w64_id (by omega) (by omega)]
  omega
theorem riT_in {p : Pic} {wd ht : Nat} (h : PG p wd ht) {X i : Nat} (hX : 2 * X < wd) : riT p (X : Nat) (i : Nat) = decide (i < 2 * X + min 2 (wd - 2 * X)) := by
  have hw := h.w64
  unfold riT
  rw [w64_id (n := 2 * ((X : Nat) : Int)) (by omega) (by omega), w64_id (by omega) (by omega), h.W]
  by_cases h1 : ((i : Nat) : Int) < 2 * ((X : Nat) : Int) + 2
  · rw [decide_eq_true h1, cond_true]
    exact decide_eq_decide.2 (by omega)
  · rw [decide_eq_false h1, cond_false, decide_eq_false (by omega)]
theorem ri_leads {p : Pic} {wd ht : Nat} (h : PG p wd ht) {X j k n0 : Nat} (W' H' y sum : Int) (m : Nat) (el : Nat → List AV) (hX : 2 * X < wd) (hj : j < ht) (hk : k < 4) (hn : n0 ≤ 100) (hs : 0 ≤ sum ∧ sum ≤ 10000) :
    Leads Try.prog (.loop (loopAt Try.f12 4)) (riS p W' H' y (X : Nat) (k : Nat) sum (n0 : Nat) (j : Nat) (2 * X : Nat) m el) (.exit 8)
      (riS p W' H' y (X : Nat) (k : Nat) (sum + accX p wd (2 * X) j k (min 2 (wd - 2 * X))) (n0 + min 2 (wd - 2 * X) : Nat) (j : Nat) (2 * X + min 2 (wd - 2 * X) : Nat) m el) := by
  have hw := h.w64
  have h0 : Leads Try.prog (.loop (loopAt Try.f12 4)) (riS p W' H' y (X : Nat) (k : Nat) (sum + accX p wd (2 * X) j k 0) (n0 + 0 : Nat) (j : Nat) (2 * X + 0 : Nat) m el) (.exit 8)
      (riS p W' H' y (X : Nat) (k : Nat) (sum + accX p wd (2 * X) j k (min 2 (wd - 2 * X))) (n0 + min 2 (wd - 2 * X) : Nat) (j : Nat) (2 * X + min 2 (wd - 2 * X) : Nat) m el) := by
    refine loop_rule (fun i => riS p W' H' y (X : Nat) (k : Nat) (sum + accX p wd (2 * X) j k i) (n0 + i : Nat) (j : Nat) (2 * X + i : Nat) m el) (min 2 (wd - 2 * X)) (.exit 8) _ (by simp) (fun i hi => ?_) ?_
    · refine leads_ev (finN_sub keepRi t4) e_nil k_nil noL_ok ((ri_step p W' H' y (X : Nat) (k : Nat) _ (n0 + i : Nat) (j : Nat) (2 * X + i : Nat) m el).trans ?_)
      obtain ⟨q1, q2⟩ := riX_eq h (i := 2 * X + i) (j := j) (k := k) (by omega) hj hk
      have hp := h.px _ q2
      have r := accX_rng h (x := 2 * X) hj hk i (by omega)
      rw [riT_in h hX, decide_eq_true (show 2 * X + i < 2 * X + min 2 (wd - 2 * X) by omega), q1, Int.toNat_natCast, dec_nonneg, dec_lt q2, w64_next (n := n0 + i) (by omega), w64_next (n := 2 * X + i) (by omega), w64_id (n := p.px _) (by omega) (by omega), w64_id (by omega) (by omega), Int.add_assoc]
      rfl
    · refine leads_ev (finX_sub keepRi t4) e_nil k_nil noL_ok ((ri_end p W' H' y (X : Nat) (k : Nat) _ _ (j : Nat) (2 * X + min 2 (wd - 2 * X) : Nat) m el).trans ?_)
      rw [riT_in h hX, decide_eq_false (Nat.lt_irrefl _), cond_false]
  simpa [accX] using h0
def rjS (p : Pic) (W' H' y x k sum n j : Int) (m : Nat) (el : Nat → List AV) : St := mkS 106 [(1, .own 0 0), (2, .own 1 0), (5, .own 2 0), (6, iA y), (7, iA x), (8, iA k), (9, iA sum), (10, iA n), (11, iA j)] (rhR p W' H' m el)
def keepRj : List Nat := [1, 2, 5, 6, 7, 8, 9, 10, 11]
noncomputable def rjL (p : Pic) (W' H' y x k sum n j sum' n' i' : Int) (m : Nat) (el : Nat → List AV) : Nat → Option LFun := oneL 20 (toldF keepRi t4 (riS p W' H' y x k sum n j (w64 (2 * x)) m el) (.exit 8) (riS p W' H' y x k sum' n' j i' m el))
section
variable (p : Pic) (W' H' y x k sum n j sum' n' i' : Int) (m : Nat) (el : Nat → List AV)
def rjT : Bool := cond (decide (j < w64 (w64 (2 * y) + 2))) (decide (j < p.H)) false
theorem rj_step : evC Try.prog [] [] (rjL p W' H' y x k sum n j sum' n' i' m el) (loopAt Try.f12 3) (rjS p W' H' y x k sum n j m el) (finN keepRj t4) =
    cond (rjT p y j) (gate (Sub (riS p W' H' y x k sum n j (w64 (2 * x)) m el) (riS p W' H' y x k sum n j (w64 (2 * x)) m el)) (some ⟨.normal, rjS p W' H' y x k sum' n' (w64 (j + 1)) m el, .any⟩)) none := by kernel_rfl
theorem rj_end : evC Try.prog [] [] (oneL 20 fun _ _ => none) (loopAt Try.f12 3) (rjS p W' H' y x k sum n j m el) (finX keepRj t4) =
    cond (rjT p y j) none (some ⟨.exit 6, rjS p W' H' y x k sum n j m el, .any⟩) := by kernel_rfl
end
theorem rjT_in {p : Pic} {wd ht : Nat} (h : PG p wd ht) {Y j : Nat} (hY : 2 * Y < ht) : rjT p (Y : Nat) (j : Nat) = decide (j < 2 * Y + min 2 (ht - 2 * Y)) := by
  have hh := h.h64
  unfold rjT
  rw [w64_id (n := 2 * ((Y : Nat) : Int)) (by omega) (by omega), w64_id (by omega) (by omega), h.H]
  by_cases h1 : ((j : Nat) : Int) < 2 * ((Y : Nat) : Int) + 2
  · rw [decide_eq_true h1, cond_true]
    exact decide_eq_decide.2 (by omega)
  · rw [decide_eq_false h1, cond_false, decide_eq_false (by omega)]
theorem rj_leads {p : Pic} {wd ht : Nat} (h : PG p wd ht) {X Y k : Nat} (W' H' : Int) (m : Nat) (el : Nat → List AV) (hX : 2 * X < wd) (hY : 2 * Y < ht) (hk : k < 4) :
    Leads Try.prog (.loop (loopAt Try.f12 3)) (rjS p W' H' (Y : Nat) (X : Nat) (k : Nat) 0 0 (2 * Y : Nat) m el) (.exit 6)
      (rjS p W' H' (Y : Nat) (X : Nat) (k : Nat) (accY p wd (2 * X) (2 * Y) (min 2 (wd - 2 * X)) k (min 2 (ht - 2 * Y))) (min 2 (ht - 2 * Y) * min 2 (wd - 2 * X) : Nat) (2 * Y + min 2 (ht - 2 * Y) : Nat) m el) := by
  have hw := h.w64; have hh := h.h64
  have ex : w64 (2 * ((X : Nat) : Int)) = ((2 * X : Nat) : Int) := by rw [w64_id (by omega) (by omega)]; omega
  have h0 : Leads Try.prog (.loop (loopAt Try.f12 3)) (rjS p W' H' (Y : Nat) (X : Nat) (k : Nat) (accY p wd (2 * X) (2 * Y) (min 2 (wd - 2 * X)) k 0) (0 * min 2 (wd - 2 * X) : Nat) (2 * Y + 0 : Nat) m el) (.exit 6)
      (rjS p W' H' (Y : Nat) (X : Nat) (k : Nat) (accY p wd (2 * X) (2 * Y) (min 2 (wd - 2 * X)) k (min 2 (ht - 2 * Y))) (min 2 (ht - 2 * Y) * min 2 (wd - 2 * X) : Nat) (2 * Y + min 2 (ht - 2 * Y) : Nat) m el) := by
    refine loop_rule (fun i => rjS p W' H' (Y : Nat) (X : Nat) (k : Nat) (accY p wd (2 * X) (2 * Y) (min 2 (wd - 2 * X)) k i) (i * min 2 (wd - 2 * X) : Nat) (2 * Y + i : Nat) m el) (min 2 (ht - 2 * Y)) (.exit 6) _ (by simp) (fun i hi => ?_) ?_
    · have hin : i * min 2 (wd - 2 * X) ≤ 2 * 2 := Nat.mul_le_mul (by omega) (by omega)
      have hl := ri_leads h (X := X) (j := 2 * Y + i) (k := k) (n0 := i * min 2 (wd - 2 * X)) W' H' (Y : Nat) (accY p wd (2 * X) (2 * Y) (min 2 (wd - 2 * X)) k i) m el hX (by omega) hk (by omega) (by
        have := accY_rng h (x := 2 * X) (y := 2 * Y) (nx := min 2 (wd - 2 * X)) (k := k) (by omega) (by omega) hk i (by omega)
        omega)
      rw [← ex] at hl
      have hL : LOk Try.prog (rjL p W' H' (Y : Nat) (X : Nat) (k : Nat) (accY p wd (2 * X) (2 * Y) (min 2 (wd - 2 * X)) k i) (i * min 2 (wd - 2 * X) : Nat) (2 * Y + i : Nat) _ _ _ m el) (loopAt Try.f12 3) :=
        lok_one (i := 20) 1 (by kernel_rfl) fun j hj _ => by
          have : j = 0 := by omega
          subst this
          exact toldF_sound hl
      refine leads_ev (finN_sub keepRj t4) e_nil k_nil hL ((rj_step p W' H' _ _ _ _ _ _ _ _ _ m el).trans ?_)
      rw [rjT_in h hY, decide_eq_true (show 2 * Y + i < 2 * Y + min 2 (ht - 2 * Y) by omega), gate_pos (Sub.refl _), w64_next (n := 2 * Y + i) (by omega), Nat.succ_mul i]
      rfl
    · refine leads_ev (finX_sub keepRj t4) e_nil k_nil (lok_none 20) ((rj_end p W' H' _ _ _ _ _ _ m el).trans ?_)
      rw [rjT_in h hY, decide_eq_false (Nat.lt_irrefl _), cond_false]
  simpa [accY] using h0
end Go.Proofs.Ytkibceiellnggaa

namespace Go.Proofs.Ytkibceiellnggaa
open Go.Gv

def isId (o : Option Nat) (i : Nat) : Bool := match o with | some k => Nat.beq k i | none => false
/-- Of the loops within, the first is told. -/
theorem lok_hd {P : Program} {c : Code} {i : Nat} {g : LFun} (m : Nat) (hlen : (loopsOf c).length = m + 1) (hno : ((List.range m).all fun j => !(isId (firstId ((loopsOf c).getD (j + 1) .skip)) i)) = true) (h : LSound P ((loopsOf c).getD 0 .skip) g) : LOk P (oneL i g) c :=
  lok_one (m + 1) hlen fun j hj hid => by
    cases j with
    | zero => exact h
    | succ j =>
      rw [List.all_eq_true] at hno
      have := hno j (List.mem_range.2 (by omega))
      rw [hid] at this
      simp [isId] at this
def rkS (p : Pic) (W' H' y x k : Int) (m : Nat) (el : Nat → List AV) : St := mkS 106 [(1, .own 0 0), (2, .own 1 0), (5, .own 2 0), (6, iA y), (7, iA x), (8, iA k)] (rhR p W' H' m el)
def keepRk : List Nat := [1, 2, 5, 6, 7, 8]
def t4n : List (Option Nat) := [some 0, some 1, some 2, some 5]
noncomputable def rkL (p : Pic) (W' H' y x k sum n j' : Int) (m : Nat) (el : Nat → List AV) : Nat → Option LFun := oneL 17 (toldF keepRj t4 (rjS p W' H' y x k 0 0 (w64 (2 * y)) m el) (.exit 6) (rjS p W' H' y x k sum n j' m el))
section
variable (p : Pic) (W' H' y x k sum n j' : Int) (m : Nat) (el : Nat → List AV)
theorem rk_step : evC Try.prog [] [] (rkL p W' H' y x k sum n j' m el) (loopAt Try.f12 2) (rkS p W' H' y x k m el) (finN keepRk t4n) =
    cond (decide (k < 4)) (gate (Sub (rjS p W' H' y x k 0 0 (w64 (2 * y)) m el) (rjS p W' H' y x k 0 0 (w64 (2 * y)) m el)) (cond (((!(w64 (2 * n) == 0)) || false) && ((((m == m) && Nat.ble ((m + 1) * 1) 140737488355328) || false) && true))
      (some ⟨.normal, rkS p W' H' y x (w64 (k + 1)) (m + 1) (fun q => mixL (Nat.blt q m) (el q) [yA (meS sum n)]), .any⟩) none)) none := by kernel_rfl
theorem rk_end : evC Try.prog [] [] (oneL 17 fun _ _ => none) (loopAt Try.f12 2) (rkS p W' H' y x k m el) (finX keepRk t4) = cond (decide (k < 4)) none (some ⟨.exit 4, rkS p W' H' y x k m el, .any⟩) := by kernel_rfl
end
theorem rk_leads {p : Pic} {wd ht : Nat} (h : PG p wd ht) {X Y : Nat} (W' H' : Int) (hX : X < half2 wd) (hY : Y < half2 ht) :
    Leads Try.prog (.loop (loopAt Try.f12 2)) (rkS p W' H' (Y : Nat) (X : Nat) 0 ((Y * half2 wd + X) * 4) fun q => [yA (hpx p wd ht q)]) (.exit 4)
      (rkS p W' H' (Y : Nat) (X : Nat) 4 ((Y * half2 wd + X) * 4 + 4) fun q => [yA (hpx p wd ht q)]) := by
  have hx := half2_lt hX
  have hy := half2_lt hY
  obtain ⟨w1, w2⟩ := half2_le h.w64 h.w1
  obtain ⟨h1, h2⟩ := half2_le h.h64 h.h1
  have hw := h.w64; have hh := h.h64
  have hm : (Y * half2 wd + X) * 4 ≤ (32 * 32 + 32) * 4 := Nat.mul_le_mul (Nat.add_le_add (Nat.mul_le_mul (by omega) (by omega)) (by omega)) (Nat.le_refl _)
  refine loop_rule (fun k => rkS p W' H' (Y : Nat) (X : Nat) (k : Nat) ((Y * half2 wd + X) * 4 + k) fun q => [yA (hpx p wd ht q)]) 4 (.exit 4) _ (by simp) (fun k hk => ?_) ?_
  · have ey : w64 (2 * ((Y : Nat) : Int)) = ((2 * Y : Nat) : Int) := by rw [w64_id (by omega) (by omega)]; omega
    have hl := rj_leads h W' H' ((Y * half2 wd + X) * 4 + k) (fun q => [yA (hpx p wd ht q)]) hx hy hk
    rw [← ey] at hl
    have hL := lok_hd (c := loopAt Try.f12 2) (i := 17) 1 (by kernel_rfl) (by kernel_rfl) (toldF_sound (keep := keepRj) (τ := t4) hl)
    have st := rk_step p W' H' (Y : Nat) (X : Nat) (k : Nat) (accY p wd (2 * X) (2 * Y) (min 2 (wd - 2 * X)) k (min 2 (ht - 2 * Y))) (min 2 (ht - 2 * Y) * min 2 (wd - 2 * X) : Nat) (2 * Y + min 2 (ht - 2 * Y) : Nat) ((Y * half2 wd + X) * 4 + k) fun q => [yA (hpx p wd ht q)]
    have h1 : 1 * 1 ≤ min 2 (ht - 2 * Y) * min 2 (wd - 2 * X) := Nat.mul_le_mul (by omega) (by omega)
    have h2 : min 2 (ht - 2 * Y) * min 2 (wd - 2 * X) ≤ 2 * 2 := Nat.mul_le_mul (by omega) (by omega)
    have e : (!(w64 (2 * ((min 2 (ht - 2 * Y) * min 2 (wd - 2 * X) : Nat) : Int)) == 0)) = true := by
      rw [w64_id (by omega) (by omega), beq_false_of_ne (by omega)]; rfl
    rw [decide_eq_true (show ((k : Nat) : Int) < 4 by omega), gate_pos (Sub.refl _), e, Nat.ble_eq_true_of_le (show ((Y * half2 wd + X) * 4 + k + 1) * 1 ≤ 140737488355328 by omega), w64_next (by omega)] at st
    simp only [BEq.rfl, Bool.and_true, Bool.true_or, cond_true] at st
    refine (leads_ev (finN_sub keepRk t4n) e_nil k_nil hL st).sub (Sub.refl _) ?_
    refine sub_same ⟨Or.inl rfl, Or.inl rfl, Or.inl rfl, Or.inr ⟨5, 1, (Y * half2 wd + X) * 4 + k + 1, _, _, rfl, rfl, fun q hq => ?_⟩, trivial⟩
    have hq0 := hpx_at (p := p) (wd := wd) (ht := ht) (Y := Y) hX hk
    cases hlt : Nat.blt q ((Y * half2 wd + X) * 4 + k)
    · have hge := not_blt hlt
      have : q = (Y * half2 wd + X) * 4 + k := by omega
      subst this
      rw [mix1, cond_false, hq0]
      rfl
    · rw [mix1]; rfl
  · exact leads_ev (finX_sub keepRk t4) e_nil k_nil (lok_none 17) (rk_end p W' H' _ _ 4 _ _)
def rxS (p : Pic) (W' H' y x : Int) (m : Nat) (el : Nat → List AV) : St := mkS 106 [(1, .own 0 0), (2, .own 1 0), (5, .own 2 0), (6, iA y), (7, iA x)] (rhR p W' H' m el)
def keepRx : List Nat := [1, 2, 5, 6, 7]
noncomputable def rxL (p : Pic) (W' H' y x : Int) (m m' : Nat) (el : Nat → List AV) : Nat → Option LFun := oneL 12 (toldF keepRk t4 (rkS p W' H' y x 0 m el) (.exit 4) (rkS p W' H' y x 4 m' el))
section
variable (p : Pic) (W' H' y x : Int) (m m' : Nat) (el : Nat → List AV)
theorem rx_step : evC Try.prog [] [] (rxL p W' H' y x m m' el) (loopAt Try.f12 1) (rxS p W' H' y x m el) (finN keepRx t4) =
    cond (decide (x < W')) (gate (Sub (rkS p W' H' y x 0 m el) (rkS p W' H' y x 0 m el)) (some ⟨.normal, rxS p W' H' y (w64 (x + 1)) m' el, .any⟩)) none := by kernel_rfl
theorem rx_end : evC Try.prog [] [] (oneL 12 fun _ _ => none) (loopAt Try.f12 1) (rxS p W' H' y x m el) (finX keepRx t4) = cond (decide (x < W')) none (some ⟨.exit 2, rxS p W' H' y x m el, .any⟩) := by kernel_rfl
end
theorem rx_leads {p : Pic} {wd ht : Nat} (h : PG p wd ht) {Y : Nat} (H' : Int) (hY : Y < half2 ht) :
    Leads Try.prog (.loop (loopAt Try.f12 1)) (rxS p (half2 wd : Nat) H' (Y : Nat) 0 ((Y * half2 wd) * 4) fun q => [yA (hpx p wd ht q)]) (.exit 2)
      (rxS p (half2 wd : Nat) H' (Y : Nat) (half2 wd : Nat) ((Y * half2 wd + half2 wd) * 4) fun q => [yA (hpx p wd ht q)]) := by
  obtain ⟨w1, w2⟩ := half2_le h.w64 h.w1
  refine loop_rule (fun X => rxS p (half2 wd : Nat) H' (Y : Nat) (X : Nat) ((Y * half2 wd + X) * 4) fun q => [yA (hpx p wd ht q)]) (half2 wd) (.exit 2) _ (by simp) (fun X hX => ?_) ?_
  · have hL := lok_hd (c := loopAt Try.f12 1) (i := 12) 2 (by kernel_rfl) (by kernel_rfl) (toldF_sound (keep := keepRk) (τ := t4) (rk_leads h (half2 wd : Nat) H' hX hY))
    refine leads_ev (finN_sub keepRx t4) e_nil k_nil hL ((rx_step p _ _ _ _ _ _ _).trans ?_)
    rw [dec_lt hX, gate_pos (Sub.refl _), w64_next (by omega)]
    have e : (Y * half2 wd + X) * 4 + 4 = (Y * half2 wd + (X + 1)) * 4 := by omega
    rw [e]
    rfl
  · refine leads_ev (finX_sub keepRx t4) e_nil k_nil (lok_none 12) ((rx_end p _ _ _ _ _ _).trans ?_)
    rw [dec_self, cond_false]
def ryS (p : Pic) (W' H' y : Int) (m : Nat) (el : Nat → List AV) : St := mkS 106 [(1, .own 0 0), (2, .own 1 0), (5, .own 2 0), (6, iA y)] (rhR p W' H' m el)
def keepRy : List Nat := [1, 2, 5, 6]
noncomputable def ryL (p : Pic) (W' H' y x' : Int) (m m' : Nat) (el : Nat → List AV) : Nat → Option LFun := oneL 9 (toldF keepRx t4 (rxS p W' H' y 0 m el) (.exit 2) (rxS p W' H' y x' m' el))
section
variable (p : Pic) (W' H' y x' : Int) (m m' : Nat) (el : Nat → List AV)
theorem ry_step : evC Try.prog [] [] (ryL p W' H' y x' m m' el) (loopAt Try.f12 0) (ryS p W' H' y m el) (finN keepRy t4) =
    cond (decide (y < H')) (gate (Sub (rxS p W' H' y 0 m el) (rxS p W' H' y 0 m el)) (some ⟨.normal, ryS p W' H' (w64 (y + 1)) m' el, .any⟩)) none := by kernel_rfl
theorem ry_end : evC Try.prog [] [] (oneL 9 fun _ _ => none) (loopAt Try.f12 0) (ryS p W' H' y m el) (finX keepRy t4) = cond (decide (y < H')) none (some ⟨.exit 0, ryS p W' H' y m el, .any⟩) := by kernel_rfl
end
theorem ry_leads {p : Pic} {wd ht : Nat} (h : PG p wd ht) :
    Leads Try.prog (.loop (loopAt Try.f12 0)) (ryS p (half2 wd : Nat) (half2 ht : Nat) 0 0 fun q => [yA (hpx p wd ht q)]) (.exit 0)
      (ryS p (half2 wd : Nat) (half2 ht : Nat) (half2 ht : Nat) (half2 ht * half2 wd * 4) fun q => [yA (hpx p wd ht q)]) := by
  obtain ⟨h1, h2⟩ := half2_le h.h64 h.h1
  have h0 : Leads Try.prog (.loop (loopAt Try.f12 0)) (ryS p (half2 wd : Nat) (half2 ht : Nat) (0 : Nat) (0 * half2 wd * 4) fun q => [yA (hpx p wd ht q)]) (.exit 0)
      (ryS p (half2 wd : Nat) (half2 ht : Nat) (half2 ht : Nat) (half2 ht * half2 wd * 4) fun q => [yA (hpx p wd ht q)]) := by
    refine loop_rule (fun Y => ryS p (half2 wd : Nat) (half2 ht : Nat) (Y : Nat) (Y * half2 wd * 4) fun q => [yA (hpx p wd ht q)]) (half2 ht) (.exit 0) _ (by simp) (fun Y hY => ?_) ?_
    · have hL := lok_hd (c := loopAt Try.f12 0) (i := 9) 3 (by kernel_rfl) (by kernel_rfl) (toldF_sound (keep := keepRx) (τ := t4) (rx_leads h (half2 ht : Nat) hY))
      refine leads_ev (finN_sub keepRy t4) e_nil k_nil hL ((ry_step p _ _ _ _ _ _ _).trans ?_)
      rw [dec_lt hY, gate_pos (Sub.refl _), w64_next (by omega), Nat.succ_mul Y]
      rfl
    · refine leads_ev (finX_sub keepRy t4) e_nil k_nil (lok_none 9) ((ry_end p _ _ _ _ _).trans ?_)
      rw [dec_self, cond_false]
  rw [Nat.zero_mul, Nat.zero_mul] at h0
  exact h0
end Go.Proofs.Ytkibceiellnggaa

namespace Go.Proofs.Ytkibceiellnggaa
open Go.Gv

noncomputable def hrL (p : Pic) (W' H' y' : Int) (m : Nat) (g : Nat → Int) : Nat → Option LFun := oneL 6 (toldC keepRy 2 [(2, 3, 1)] (.a 5 1 0 fun q => [yA (g q)]) [some 0, some 1, some 2, none] (ryS p W' H' 0 0 fun q => [yA (g q)]) (.exit 0) (ryS p W' H' y' m fun q => [yA (g q)]))
theorem hr_ev (mf : Int → Int → Nat → Int) (p : Pic) (W' H' y' : Int) (m : Nat) (g : Nat → Int) : ev Try.prog [⟨10, gPm mf⟩] [] (hrL p W' H' y' m g) Try.f12 [.agg p.c] ret =
    cond (!(mf p.W p.H p.n == 0)) (some (Out.of (.tup [.agg picZ, iA (mf p.W p.H p.n)])))
      (gate (Sub (ryS p (hw p.W) (hw p.H) 0 0 fun q => [yA (g q)]) (ryS p W' H' 0 0 fun q => [yA (g q)])) (some (Out.of (.tup [.agg [iA W', iA H', .sl 1 m fun i => [yA (g (0 + i))]], iA 0])))) := by kernel_rfl
theorem hr_ev0 (mf : Int → Int → Nat → Int) (p : Pic) : ev Try.prog [⟨10, gPm mf⟩] [] (oneL 6 fun _ _ => none) Try.f12 [.agg p.c] ret =
    cond (!(mf p.W p.H p.n == 0)) (some (Out.of (.tup [.agg picZ, iA (mf p.W p.H p.n)]))) none := by kernel_rfl
theorem halfR_bad {p : Pic} (h : mayS p.W p.H p.n ≠ 0) : FSpec Try.prog 12 [.agg p.c] (.tup [.agg picZ, iA (mayS p.W p.H p.n)]) := by
  refine gspec (e_cons (gPm_ok mayR_spec) e_nil) k_nil Try.func12 (by kernel_rfl) (by kernel_rfl) (lok_none 6) rfl ((hr_ev0 mayS p).trans ?_)
  rw [beq_false_of_ne h]
  rfl
theorem may_zero {p : Pic} {wd ht : Nat} (h : PG p wd ht) : mayS p.W p.H p.n = 0 := by
  have h1 := h.w1; have h2 := h.w64; have h3 := h.h1; have h4 := h.h64
  have hn : wd * ht ≤ 64 * 64 := Nat.mul_le_mul h2 h4
  unfold mayS badS
  have e1 : (wd : Int) * (ht : Int) = ((wd * ht : Nat) : Int) := by rw [Int.natCast_mul]
  rw [h.W, h.H, h.n, e1, w64_id (n := ((wd * ht : Nat) : Int)) (by omega) (by omega), w64_id (by omega) (by omega)]
  have e2 : ((wd * ht * 4 : Nat) : Int) = ((wd * ht : Nat) : Int) * 4 := by omega
  have a1 : decide ((wd : Int) < 1) = false := decide_eq_false (by omega)
  have a2 : decide ((wd : Int) > 64) = false := decide_eq_false (by omega)
  have a3 : decide ((ht : Int) < 1) = false := decide_eq_false (by omega)
  have a4 : decide ((ht : Int) > 64) = false := decide_eq_false (by omega)
  rw [e2, BEq.rfl, a1, a2, a3, a4]
  rfl
theorem halfR_good {p : Pic} {wd ht : Nat} (h : PG p wd ht) : FSpec Try.prog 12 [.agg p.c] (.tup [.agg (hpic p wd ht).c, iA 0]) := by
  have hL := lok_hd (c := bodyOf Try.f12) (i := 6) 4 (by kernel_rfl) (by kernel_rfl) (toldC_sound (keep := keepRy) (r0 := 2) (nils := [(2, 3, 1)]) (nr := .a 5 1 0 fun q => [yA (hpx p wd ht q)]) (τ := [some 0, some 1, some 2, none]) (ry_leads h))
  refine gspec (e_cons (gPm_ok mayR_spec) e_nil) k_nil Try.func12 (by kernel_rfl) (by kernel_rfl) hL rfl ((hr_ev mayS p (half2 wd : Nat) (half2 ht : Nat) (half2 ht : Nat) (half2 ht * half2 wd * 4) (hpx p wd ht)).trans ?_)
  have e1 : hw p.W = (half2 wd : Nat) := by rw [h.W]; exact hw_eq h.w64
  have e2 : hw p.H = (half2 ht : Nat) := by rw [h.H]; exact hw_eq h.h64
  have e5 : (fun i => [yA (hpx p wd ht (0 + i))]) = fun i => [yA (hpx p wd ht i)] := funext fun i => by rw [Nat.zero_add]
  rw [may_zero h, e1, e2, gate_pos (Sub.refl _), e5, Nat.mul_comm (half2 ht)]
  rfl
/-! ### The code's Half -/
theorem hf_ev (mf : Int → Int → Nat → Int) (p h : Pic) : ev Try.prog [⟨9, gPm mf⟩] [kfix 25 [.agg p.c] (.agg h.c)] noL Try.f11 [.agg p.c] ret =
    cond (!(mf p.W p.H p.n == 0)) (some (Out.of (.tup [.agg picZ, iA (mf p.W p.H p.n)]))) (gate ([AV.agg p.c] = [AV.agg p.c]) (some (Out.of (.tup [.agg h.c, iA 0])))) := by kernel_rfl
theorem hf_ev0 (mf : Int → Int → Nat → Int) (p : Pic) : ev Try.prog [⟨9, gPm mf⟩] [⟨25, fun _ _ => none⟩] noL Try.f11 [.agg p.c] ret =
    cond (!(mf p.W p.H p.n == 0)) (some (Out.of (.tup [.agg picZ, iA (mf p.W p.H p.n)]))) none := by kernel_rfl
theorem kno_ok (f : Nat) : KOk Try.prog ⟨f, fun _ _ => none⟩ := by
  constructor
  · intro args k o h; simp at h
  · intro args v h
    have h1 := h fun x => some (Out.of x)
    simp at h1
theorem half_bad {p : Pic} (h : mayS p.W p.H p.n ≠ 0) : FSpec Try.prog 11 [.agg p.c] (.tup [.agg picZ, iA (mayS p.W p.H p.n)]) := by
  refine gspec (e_cons (gPm_ok may_spec) e_nil) (k_cons (kno_ok _) k_nil) Try.func11 (by kernel_rfl) (by kernel_rfl) noL_ok rfl ((hf_ev0 mayS p).trans ?_)
  rw [beq_false_of_ne h]
  rfl
theorem half_good {p : Pic} {wd ht : Nat} (h : PG p wd ht) : FSpec Try.prog 11 [.agg p.c] (.tup [.agg (hpic p wd ht).c, iA 0]) := by
  refine gspec (e_cons (gPm_ok may_spec) e_nil) (k_cons (kfix_ok (half_spec h)) k_nil) Try.func11 (by kernel_rfl) (by kernel_rfl) noL_ok rfl ((hf_ev mayS p (hpic p wd ht)).trans ?_)
  rw [may_zero h, gate_pos rfl]
  rfl
/-! ### Half of a picture that may be, may be -/
theorem u8_rng (n : Int) : 0 ≤ IntKind.u8.wrap n ∧ IntKind.u8.wrap n ≤ 255 := by
  have e : IntKind.u8.wrap n = n % 256 := by
    unfold IntKind.wrap
    simp only [IntKind.bits, IntKind.signed, Bool.false_and]
    rfl
  rw [e]
  omega
theorem hpic_pg {p : Pic} {wd ht : Nat} (h : PG p wd ht) : PG (hpic p wd ht) (half2 wd) (half2 ht) := by
  obtain ⟨w1, w2⟩ := half2_le h.w64 h.w1
  obtain ⟨h1, h2⟩ := half2_le h.h64 h.h1
  exact ⟨rfl, rfl, w1, by omega, h1, by omega, rfl, fun i _ => u8_rng _⟩
end Go.Proofs.Ytkibceiellnggaa

namespace Go.Proofs.Ytkibceiellnggaa
open Go.Gv

def sB (n : Nat) (g : Nat → Int) : AV := .sl 1 n fun i => [yA (g i)]
theorem cl_ev (n : Nat) (g : Nat → Int) : ev Try.prog [] [] noL Try.f26 [sB n g] ret =
    cond (Nat.blt 0 n && true) (cond ((Nat.blt 0 n && (allB n (fun _ => true) && Nat.ble ((0 + n) * 1) 140737488355328)) && true) (some (Out.of (sB (0 + n) fun i => g (0 + i - 0)))) none) none := by kernel_rfl
theorem cl_spec {n : Nat} (g : Nat → Int) (h : 0 < n) (h2 : n ≤ 1000000) : FSpec Try.prog 26 [sB n g] (sB n g) := by
  refine gspec e_nil k_nil Try.func26 (by kernel_rfl) (by kernel_rfl) noL_ok rfl ((cl_ev n g).trans ?_)
  have e : (fun i => g (0 + i - 0)) = g := funext fun i => by rw [Nat.zero_add, Nat.sub_zero]
  rw [blt_t h, allB_true fun _ _ => rfl, Nat.ble_eq_true_of_le (show (0 + n) * 1 ≤ 140737488355328 by omega), Nat.zero_add, e]
  rfl
/-- A side that is halved again and again. -/
def hwk (n : Nat) : Nat → Nat
  | 0 => n
  | k + 1 => half2 (hwk n k)
/-- The pictures. -/
def hp (p : Pic) (wd ht : Nat) : Nat → Pic
  | 0 => p
  | k + 1 => hpic (hp p wd ht k) (hwk wd k) (hwk ht k)
theorem hp_pg {p : Pic} {wd ht : Nat} (h : PG p wd ht) : ∀ k, PG (hp p wd ht k) (hwk wd k) (hwk ht k)
  | 0 => h
  | k + 1 => hpic_pg (hp_pg h k)
theorem hwk_one {n : Nat} (h1 : 1 ≤ n) (h : n ≤ 64) : hwk n 6 = 1 := by
  simp only [hwk, half2]
  omega
theorem first_of (Q : Nat → Prop) : ∀ m, Q m → ∃ K, K ≤ m ∧ Q K ∧ ∀ k, k < K → ¬ Q k := by
  intro m
  induction m using Nat.strongRecOn with
  | ind m ih =>
    intro h
    by_cases hc : ∃ k, k < m ∧ Q k
    · obtain ⟨k, hk, hq⟩ := hc
      obtain ⟨K, h1, h2, h3⟩ := ih k hk hq
      exact ⟨K, by omega, h2, h3⟩
    · exact ⟨m, Nat.le_refl _, h, fun k hk hq => hc ⟨k, hk, hq⟩⟩
theorem hK_ex {wd ht : Nat} (w1 : 1 ≤ wd) (w2 : wd ≤ 64) (h1 : 1 ≤ ht) (h2 : ht ≤ 64) : ∃ K, K ≤ 6 ∧ (hwk wd K = 1 ∧ hwk ht K = 1) ∧ ∀ k, k < K → ¬ (hwk wd k = 1 ∧ hwk ht k = 1) :=
  first_of _ 6 ⟨hwk_one w1 w2, hwk_one h1 h2⟩
def haS (q : Pic) (m : Nat) (el : Nat → List AV) : St := mkS 37 [(5, .own 0 0), (6, .osl 1 3 0 m)] [.c q.c, .a 24 3 m el]
section
variable (q h : Pic) (m : Nat) (el : Nat → List AV)
def haT : Bool := cond (decide (q.W > 1)) true (decide (q.H > 1))
theorem ha_step : evC Try.prog [] [kfix 25 [.agg q.c] (.agg h.c)] noL (loopAt Try.f14 0) (haS q m el) (finN [5, 6] [some 0, some 3]) =
    cond (haT q) (gate ([AV.agg q.c] = [AV.agg q.c]) (cond (((m == m) && Nat.ble ((m + 1) * 40) 140737488355328) && true) (some ⟨.normal, haS h (m + 1) (fun j => mixL (Nat.blt j m) (el j) h.c), .any⟩) none)) none := by kernel_rfl
theorem ha_end : evC Try.prog [] [⟨25, fun _ _ => none⟩] noL (loopAt Try.f14 0) (haS q m el) (finX [5, 6] [some 0, some 1]) =
    cond (haT q) none (some ⟨.exit 0, haS q m el, .any⟩) := by kernel_rfl
end
end Go.Proofs.Ytkibceiellnggaa

namespace Go.Proofs.Ytkibceiellnggaa
open Go.Gv

theorem mixPic_t (p q : Pic) : mixL true p.c q.c = p.c := by kernel_rfl
theorem mixPic_f (p q : Pic) : mixL false p.c q.c = q.c := by kernel_rfl
theorem haT_eq {p : Pic} {wd ht : Nat} (h : PG p wd ht) : haT p = !(decide (wd = 1 ∧ ht = 1)) := by
  have := h.w1; have := h.h1
  unfold haT
  rw [h.W, h.H]
  by_cases h1 : wd = 1
  · by_cases h2 : ht = 1
    · rw [decide_eq_false (show ¬ ((wd : Int) > 1) by omega), decide_eq_false (show ¬ ((ht : Int) > 1) by omega), decide_eq_true ⟨h1, h2⟩]; rfl
    · rw [decide_eq_false (show ¬ ((wd : Int) > 1) by omega), decide_eq_true (show ((ht : Int) > 1) by omega), decide_eq_false (show ¬ (wd = 1 ∧ ht = 1) from fun hc => h2 hc.2)]; rfl
  · rw [decide_eq_true (show ((wd : Int) > 1) by omega), decide_eq_false (show ¬ (wd = 1 ∧ ht = 1) from fun hc => h1 hc.1)]; rfl
theorem ha_leads {p : Pic} {wd ht : Nat} (h : PG p wd ht) {K : Nat} (hK : K ≤ 6) (hend : hwk wd K = 1 ∧ hwk ht K = 1) (hbe : ∀ k, k < K → ¬ (hwk wd k = 1 ∧ hwk ht k = 1)) :
    Leads Try.prog (.loop (loopAt Try.f14 0)) (haS p 1 fun j => (hp p wd ht j).c) (.exit 0) (haS (hp p wd ht K) (K + 1) fun j => (hp p wd ht j).c) := by
  refine loop_rule (fun k => haS (hp p wd ht k) (k + 1) fun j => (hp p wd ht j).c) K (.exit 0) _ (by simp) (fun k hk => ?_) ?_
  · have st := ha_step (hp p wd ht k) (hp p wd ht (k + 1)) (k + 1) fun j => (hp p wd ht j).c
    rw [haT_eq (hp_pg h k), decide_eq_false (hbe k hk), gate_pos rfl, Nat.ble_eq_true_of_le (show (k + 1 + 1) * 40 ≤ 140737488355328 by omega)] at st
    simp only [BEq.rfl, Bool.and_true, Bool.not_false, cond_true] at st
    refine (leads_ev (finN_sub [5, 6] [some 0, some 3]) e_nil (k_cons (kfix_ok (half_spec (hp_pg h k))) k_nil) noL_ok st).sub (Sub.refl _) ?_
    refine sub_same ⟨Or.inl rfl, Or.inr ⟨24, 3, k + 1 + 1, _, _, rfl, rfl, fun q hq => ?_⟩, trivial⟩
    cases hlt : Nat.blt q (k + 1)
    · have hge := not_blt hlt
      have : q = k + 1 := by omega
      subst this
      rw [mixPic_f]
    · rw [mixPic_t]
  · refine leads_ev (finX_sub [5, 6] [some 0, some 1]) e_nil (k_cons (kno_ok _) k_nil) noL_ok ((ha_end (hp p wd ht K) (K + 1) _).trans ?_)
    rw [haT_eq (hp_pg h K), decide_eq_true hend]
    rfl
noncomputable def hsL (p q : Pic) (m : Nat) (f : Nat → Pic) : Nat → Option LFun := oneL 6 (toldF [5, 6] [some 1, some 2] (haS p 1 fun j => (f j).c) (.exit 0) (haS q m fun j => (f j).c))
theorem hs_ev (mf : Int → Int → Nat → Int) (p q : Pic) (m : Nat) (f : Nat → Pic) : ev Try.prog [⟨9, gPm mf⟩] [kfix 26 [sB p.n p.px] (sB p.n p.px)] (hsL p q m f) Try.f14 [.agg p.c] ret =
    cond (!(mf p.W p.H p.n == 0)) (some (Out.of (.tup [.x (.slice none 0 0), iA (mf p.W p.H p.n)])))
      (gate ([sB p.n p.px] = [sB p.n p.px]) (gate (Sub (haS p 1 (chunk p.c 3)) (haS p 1 fun j => (f j).c)) (some (Out.of (.tup [.sl 3 m fun j => (f (0 + j)).c, iA 0]))))) := by kernel_rfl
theorem hs_ev0 (mf : Int → Int → Nat → Int) (p : Pic) : ev Try.prog [⟨9, gPm mf⟩] [⟨26, fun _ _ => none⟩] (oneL 6 fun _ _ => none) Try.f14 [.agg p.c] ret =
    cond (!(mf p.W p.H p.n == 0)) (some (Out.of (.tup [.x (.slice none 0 0), iA (mf p.W p.H p.n)]))) none := by kernel_rfl
theorem halves_bad {p : Pic} (h : mayS p.W p.H p.n ≠ 0) : FSpec Try.prog 14 [.agg p.c] (.tup [.x (.slice none 0 0), iA (mayS p.W p.H p.n)]) := by
  refine gspec (e_cons (gPm_ok may_spec) e_nil) (k_cons (kno_ok _) k_nil) Try.func14 (by kernel_rfl) (by kernel_rfl) (lok_none 6) rfl ((hs_ev0 mayS p).trans ?_)
  rw [beq_false_of_ne h]
  rfl
theorem halves_good {p : Pic} {wd ht : Nat} (h : PG p wd ht) {K : Nat} (hK : K ≤ 6) (hend : hwk wd K = 1 ∧ hwk ht K = 1) (hbe : ∀ k, k < K → ¬ (hwk wd k = 1 ∧ hwk ht k = 1)) : FSpec Try.prog 14 [.agg p.c] (.tup [.sl 3 (K + 1) fun j => (hp p wd ht j).c, iA 0]) := by
  have hL := lok_hd (c := bodyOf Try.f14) (i := 6) 0 (by kernel_rfl) (by kernel_rfl) (toldF_sound (keep := [5, 6]) (τ := [some 1, some 2]) (ha_leads h hK hend hbe))
  have hn := h.n_le
  have hn0 : 0 < p.n := by
    have h1 := h.at_lt (x := 0) (y := 0) (k := 0) (by have := h.w1; omega) (by have := h.h1; omega) (by omega)
    omega
  refine gspec (e_cons (gPm_ok may_spec) e_nil) (k_cons (kfix_ok (cl_spec p.px hn0 (by omega))) k_nil) Try.func14 (by kernel_rfl) (by kernel_rfl) hL rfl ((hs_ev mayS p (hp p wd ht K) (K + 1) (hp p wd ht)).trans ?_)
  have e5 : (fun j => (hp p wd ht (0 + j)).c) = fun j => (hp p wd ht j).c := funext fun i => by rw [Nat.zero_add]
  have hs : Sub (haS p 1 (chunk p.c 3)) (haS p 1 fun j => (hp p wd ht j).c) := by
    refine sub_same ⟨Or.inl rfl, Or.inr ⟨24, 3, 1, _, _, rfl, rfl, fun q hq => ?_⟩, trivial⟩
    have : q = 0 := by omega
    subst this
    rfl
  rw [may_zero h, gate_pos rfl, gate_pos hs, e5]
  rfl
end Go.Proofs.Ytkibceiellnggaa

namespace Go.Proofs.Ytkibceiellnggaa
open Go.Gv

def zP : Pic := ⟨0, 0, 0, fun _ => 0⟩
theorem nil_like {E : Env} {sz : Nat} {el : Nat → List AV} {v : Value} (h : rel E (.x (.slice none 0 0)) v) : rel E (.sl sz 0 el) v := by
  have := rel_x.1 h
  subst this
  exact rel_sl.2 ⟨none, 0, rfl, Nat.le_refl _, Or.inl rfl⟩
theorem tup2_like {E : Env} {a a' b : AV} {v : Value} (h : rel E (.tup [a, b]) v) (ha : ∀ u, rel E a u → rel E a' u) : rel E (.tup [a', b]) v := by
  obtain ⟨vs, h1, h2⟩ := rel_tup.1 h
  refine rel_tup.2 ⟨vs, h1, ?_⟩
  obtain ⟨u0, t0, e0, r0, h2⟩ := rels_cons.1 h2
  exact rels_cons.2 ⟨u0, t0, e0, ha _ r0, h2⟩
theorem zP_like {E : Env} {v : Value} (h : rel E (.agg picZ) v) : rel E (.agg zP.c) v := by
  obtain ⟨vs, h1, h2⟩ := rel_agg.1 h
  refine rel_agg.2 ⟨vs, h1, ?_⟩
  obtain ⟨u0, t0, e0, r0, h2⟩ := rels_cons.1 h2
  obtain ⟨u1, t1, e1, r1, h2⟩ := rels_cons.1 h2
  obtain ⟨u2, t2, e2, r2, h2⟩ := rels_cons.1 h2
  exact rels_cons.2 ⟨u0, t0, e0, r0, rels_cons.2 ⟨u1, t1, e1, r1, rels_cons.2 ⟨u2, t2, e2, nil_like r2, h2⟩⟩⟩
theorem half_bad' {p : Pic} (h : mayS p.W p.H p.n ≠ 0) : FSpec Try.prog 11 [.agg p.c] (.tup [.agg zP.c, iA (mayS p.W p.H p.n)]) := FSpec.of_res (half_bad h) fun _ _ hr => tup2_like hr fun _ => zP_like
theorem halfR_bad' {p : Pic} (h : mayS p.W p.H p.n ≠ 0) : FSpec Try.prog 12 [.agg p.c] (.tup [.agg zP.c, iA (mayS p.W p.H p.n)]) := FSpec.of_res (halfR_bad h) fun _ _ hr => tup2_like hr fun _ => zP_like
theorem halves_bad' {p : Pic} (f : Nat → Pic) (h : mayS p.W p.H p.n ≠ 0) : FSpec Try.prog 14 [.agg p.c] (.tup [.sl 3 0 fun j => (f j).c, iA (mayS p.W p.H p.n)]) := FSpec.of_res (halves_bad h) fun _ _ hr => tup2_like hr fun _ => nil_like
theorem atR_bad' {p : Pic} {w u v : Int} (h : matS p.W p.H p.n w u v ≠ 0) : FSpec Try.prog 8 [.agg p.c, iA w, iA u, iA v] (.tup [sB 0 fun _ => 0, iA (matS p.W p.H p.n w u v)]) := FSpec.of_res (atR_bad h) fun _ _ hr => tup2_like hr fun _ => nil_like
theorem strF_congr {n : Nat} {f g : Nat → Int} (h : ∀ i, i < n → f i = g i) : strF n f = strF n g := by
  rw [strF_eq]
  unfold strR
  rw [List.map_congr_left fun i hi => h i (List.mem_range.1 hi)]
theorem sm_ev (p q : Pic) : ev Try.prog [] [] noL Try.f13 [.agg p.c, .agg q.c] ret =
    cond (allB p.n (fun _ => true) || !(decide ((cond (p.W == q.W) (p.H == q.H) false) = true) && true)) (cond (allB q.n (fun _ => true) || !(decide ((cond (p.W == q.W) (p.H == q.H) false) = true) && true))
      (some (Out.of (.x (.bool (cond (cond (p.W == q.W) (p.H == q.H) false) ((strF p.n p.px).toList == (strF q.n q.px).toList) false))))) none) none := by kernel_rfl
theorem same_spec (p : Pic) : FSpec Try.prog 13 [.agg p.c, .agg p.c] (.x (.bool true)) := by
  refine gspec e_nil k_nil Try.func13 (by kernel_rfl) (by kernel_rfl) noL_ok rfl ((sm_ev p p).trans ?_)
  rw [allB_true fun _ _ => rfl, BEq.rfl, BEq.rfl, BEq.rfl]
  rfl
theorem hv_ev (p : Pic) : ev Try.prog [] [] noL Try.f6 [.agg p.c] ret = some (Out.of (.x (.bool (decide ((p.n : Int) > 1600))))) := by kernel_rfl
theorem hv_spec (p : Pic) : FSpec Try.prog 6 [.agg p.c] (.x (.bool (decide ((p.n : Int) > 1600)))) :=
  gspec e_nil k_nil Try.func6 (by kernel_rfl) (by kernel_rfl) noL_ok rfl (hv_ev p)
/-! ### The law's loop -/
def lwS (q : Pic) (M : Nat) (f : Nat → Pic) (k : Int) : St := mkS 136 [(8, .x (.bool false)), (10, iA 0), (15, .sl 3 M fun j => (f j).c), (16, .own 0 0), (17, iA k)] [.c q.c]
def lwE (M : Nat) (f : Nat → Pic) (k : Int) (b : Bool) : St := mkS 136 [(8, .x (.bool b)), (10, iA 0), (15, .sl 3 M fun j => (f j).c), (17, iA k)] []
section
variable (q h : Pic) (M : Nat) (f : Nat → Pic) (k : Int)
theorem lw_step : evC Try.prog [] [kfix 13 [.agg (f k.toNat).c, .agg q.c] (.x (.bool true)), kfix 12 [.agg q.c] (.tup [.agg h.c, iA 0])] noL (loopAt Try.f3 0) (lwS q M f k) (finN [8, 10, 15, 16, 17] [some 0]) =
    cond (decide (k < M)) (gate ([AV.agg (f k.toNat).c, .agg q.c] = [AV.agg (f k.toNat).c, .agg q.c]) (cond (((decide (0 ≤ k) && decide (k < M)) || false) && true) (cond (cond (q.W == 1) (q.H == 1) false) none (gate ([AV.agg q.c] = [AV.agg q.c]) (some ⟨.normal, lwS h M f (w64 (k + 1)), .any⟩))) none)) none := by kernel_rfl
theorem lw_end : evC Try.prog [] [kfix 13 [.agg (f k.toNat).c, .agg q.c] (.x (.bool true)), ⟨12, fun _ _ => none⟩] noL (loopAt Try.f3 0) (lwS q M f k) (finX [8, 10, 15, 17] []) =
    cond (decide (k < M)) (gate ([AV.agg (f k.toNat).c, .agg q.c] = [AV.agg (f k.toNat).c, .agg q.c]) (cond (((decide (0 ≤ k) && decide (k < M)) || false) && true) (cond (cond (q.W == 1) (q.H == 1) false) (some ⟨.ret, lwE M f k (k == w64 ((M : Int) - 1)), .any⟩) none) none)) (some ⟨.exit 0, lwE M f k false, .any⟩) := by kernel_rfl
end
end Go.Proofs.Ytkibceiellnggaa

namespace Go.Proofs.Ytkibceiellnggaa
open Go.Gv

theorem one_eq {p : Pic} {wd ht : Nat} (h : PG p wd ht) : (cond (p.W == 1) (p.H == 1) false) = decide (wd = 1 ∧ ht = 1) := by
  rw [h.W, h.H]
  by_cases h1 : wd = 1
  · subst h1
    by_cases h2 : ht = 1
    · subst h2; rfl
    · rw [beq_false_of_ne (show ((ht : Nat) : Int) ≠ 1 by omega), decide_eq_false (show ¬ (1 = 1 ∧ ht = 1) from fun hc => h2 hc.2)]; rfl
  · rw [beq_false_of_ne (show ((wd : Nat) : Int) ≠ 1 by omega), decide_eq_false (show ¬ (wd = 1 ∧ ht = 1) from fun hc => h1 hc.1)]; rfl
theorem lw_leads {p : Pic} {wd ht : Nat} (h : PG p wd ht) {K : Nat} (hK : K ≤ 6) (hend : hwk wd K = 1 ∧ hwk ht K = 1) (hbe : ∀ k, k < K → ¬ (hwk wd k = 1 ∧ hwk ht k = 1)) :
    Leads Try.prog (.loop (loopAt Try.f3 0)) (lwS p (K + 1) (hp p wd ht) 0) .ret (lwE (K + 1) (hp p wd ht) (K : Nat) true) := by
  refine loop_rule (fun k => lwS (hp p wd ht k) (K + 1) (hp p wd ht) (k : Nat)) K .ret _ (by simp) (fun k hk => ?_) ?_
  · have st := lw_step (hp p wd ht k) (hp p wd ht (k + 1)) (K + 1) (hp p wd ht) (k : Nat)
    rw [dec_lt (show k < K + 1 by omega), dec_nonneg, one_eq (hp_pg h k), decide_eq_false (hbe k hk), gate_pos rfl, gate_pos rfl, w64_next (by omega)] at st
    exact leads_ev (finN_sub _ _) e_nil (k_cons (kfix_ok (same_spec _)) (k_cons (kfix_ok (halfR_good (hp_pg h k))) k_nil)) noL_ok st
  · have st := lw_end (hp p wd ht K) (K + 1) (hp p wd ht) (K : Nat)
    have e : (((K : Nat) : Int) == w64 (((K + 1 : Nat) : Int) - 1)) = true := by
      rw [w64_id (by omega) (by omega), show ((K + 1 : Nat) : Int) - 1 = (K : Nat) by omega, BEq.rfl]
    rw [dec_lt (show K < K + 1 by omega), dec_nonneg, one_eq (hp_pg h K), decide_eq_true hend, gate_pos rfl, e] at st
    exact leads_ev (finX_sub _ _) e_nil (k_cons (kfix_ok (same_spec _)) (k_cons (kno_ok _) k_nil)) noL_ok st
def a4 (p : Pic) (w u v : Int) : List AV := [.agg p.c, iA w, iA u, iA v]
noncomputable def lawL (p : Pic) (M : Nat) (fs : Nat → Pic) (k : Int) : Nat → Option LFun := oneL 16 (toldF [8, 10, 15, 16, 17] [some 4] (lwS p M fs 0) .ret (lwE M fs k true))
def four4 (a b c d : Int) (i : Nat) : Int := Gv.byteOf (([yA a, yA b, yA c, yA d].drop (0 + 0 + i)).take 1)
noncomputable def lawK (p x : Pic) (w u v a b c d e m2 e2 : Int) (m M : Nat) (g : Nat → Int) (fs : Nat → Pic) : List KEntry :=
  [kfix 6 [.agg p.c] (.x (.bool false)), kfix 7 (a4 p w u v) (.tup [.agg [yA a, yA b, yA c, yA d], iA e]), kfix 8 (a4 p w u v) (.tup [sB m g, iA e]), kfix 9 [.agg p.c] (iA m2), kfix 10 [.agg p.c] (iA m2),
    kfix 11 [.agg p.c] (.tup [.agg x.c, iA e2]), kfix 12 [.agg p.c] (.tup [.agg x.c, iA e2]), kfix 13 [.agg x.c, .agg x.c] (.x (.bool true)), kfix 14 [.agg p.c] (.tup [.sl 3 M (fun j => (fs j).c), iA e2])]
/-- All is well. -/
theorem law_ev0 (p x : Pic) (w u v a b c d k : Int) (M : Nat) (g : Nat → Int) (fs : Nat → Pic) : ev Try.prog [] (lawK p x w u v a b c d 0 0 0 4 M g fs) (lawL p M fs k) Try.f3 (a4 p w u v) ret =
    gate ([AV.agg p.c] = [AV.agg p.c]) (gate (a4 p w u v = a4 p w u v) (gate (a4 p w u v = a4 p w u v) (gate ([AV.agg p.c] = [AV.agg p.c]) (gate ([AV.agg p.c] = [AV.agg p.c])
      (cond (cond (!((strF 4 (four4 a b c d)).toList == (strF 4 g).toList)) true false) (some (Out.of (.x (.bool false))))
        (gate ([AV.agg p.c] = [AV.agg p.c]) (gate ([AV.agg p.c] = [AV.agg p.c]) (gate ([AV.agg x.c, .agg x.c] = [AV.agg x.c, .agg x.c]) (gate ([AV.agg p.c] = [AV.agg p.c])
          (gate (Sub (lwS p M fs 0) (lwS p M fs 0)) (some (Out.of (.x (.bool true)))))))))))))) := by kernel_rfl
end Go.Proofs.Ytkibceiellnggaa

namespace Go.Proofs.Ytkibceiellnggaa
open Go.Gv

section
variable (p x : Pic) (w u v k : Int) (M : Nat) (fs : Nat → Pic)
theorem law_ev1 : ev Try.prog [] (lawK p x w u v 0 0 0 0 1 0 0 0 M (fun _ => 0) fs) (lawL p M fs k) Try.f3 (a4 p w u v) ret = gate ([AV.agg p.c] = [AV.agg p.c]) (gate (a4 p w u v = a4 p w u v) (gate (a4 p w u v = a4 p w u v) (gate ([AV.agg p.c] = [AV.agg p.c]) (gate ([AV.agg p.c] = [AV.agg p.c]) (gate ([AV.agg p.c] = [AV.agg p.c]) (gate ([AV.agg p.c] = [AV.agg p.c]) (gate ([AV.agg x.c, .agg x.c] = [AV.agg x.c, .agg x.c]) (gate ([AV.agg p.c] = [AV.agg p.c]) (gate (Sub (lwS p M fs 0) (lwS p M fs 0)) (some (Out.of (.x (.bool true))))))))))))) := by kernel_rfl
theorem law_ev3 : ev Try.prog [] (lawK p x w u v 0 0 0 0 3 0 0 0 M (fun _ => 0) fs) (lawL p M fs k) Try.f3 (a4 p w u v) ret = gate ([AV.agg p.c] = [AV.agg p.c]) (gate (a4 p w u v = a4 p w u v) (gate (a4 p w u v = a4 p w u v) (gate ([AV.agg p.c] = [AV.agg p.c]) (gate ([AV.agg p.c] = [AV.agg p.c]) (gate ([AV.agg p.c] = [AV.agg p.c]) (gate ([AV.agg p.c] = [AV.agg p.c]) (gate ([AV.agg x.c, .agg x.c] = [AV.agg x.c, .agg x.c]) (gate ([AV.agg p.c] = [AV.agg p.c]) (gate (Sub (lwS p M fs 0) (lwS p M fs 0)) (some (Out.of (.x (.bool true))))))))))))) := by kernel_rfl
theorem law_ev4 : ev Try.prog [] (lawK p x w u v 0 0 0 0 4 4 4 0 0 (fun _ => 0) fs) (oneL 16 fun _ _ => none) Try.f3 (a4 p w u v) ret = gate ([AV.agg p.c] = [AV.agg p.c]) (gate (a4 p w u v = a4 p w u v) (gate (a4 p w u v = a4 p w u v) (gate ([AV.agg p.c] = [AV.agg p.c]) (gate ([AV.agg p.c] = [AV.agg p.c]) (gate ([AV.agg p.c] = [AV.agg p.c]) (gate ([AV.agg p.c] = [AV.agg p.c]) (gate ([AV.agg x.c, .agg x.c] = [AV.agg x.c, .agg x.c]) (gate ([AV.agg p.c] = [AV.agg p.c]) (some (Out.of (.x (.bool true)))))))))))) := by kernel_rfl
theorem law_ev5 : ev Try.prog [] (lawK p x w u v 0 0 0 0 5 5 5 0 0 (fun _ => 0) fs) (oneL 16 fun _ _ => none) Try.f3 (a4 p w u v) ret = gate ([AV.agg p.c] = [AV.agg p.c]) (gate (a4 p w u v = a4 p w u v) (gate (a4 p w u v = a4 p w u v) (gate ([AV.agg p.c] = [AV.agg p.c]) (gate ([AV.agg p.c] = [AV.agg p.c]) (gate ([AV.agg p.c] = [AV.agg p.c]) (gate ([AV.agg p.c] = [AV.agg p.c]) (gate ([AV.agg x.c, .agg x.c] = [AV.agg x.c, .agg x.c]) (gate ([AV.agg p.c] = [AV.agg p.c]) (some (Out.of (.x (.bool true)))))))))))) := by kernel_rfl
theorem law_evH : ev Try.prog [] [kfix 6 [.agg p.c] (.x (.bool true)), ⟨7, fun _ _ => none⟩] (oneL 16 fun _ _ => none) Try.f3 (a4 p w u v) ret = gate ([AV.agg p.c] = [AV.agg p.c]) (some (Out.of (.x (.bool true)))) := by kernel_rfl
end
end Go.Proofs.Ytkibceiellnggaa

namespace Go.Proofs.Ytkibceiellnggaa
open Go.Gv

theorem strB_eq (g : Nat → Int) : ((strF 4 (four4 (g 0) (g 1) (g 2) (g 3))).toList == (strF 4 g).toList) = true := by
  have e : strF 4 (four4 (g 0) (g 1) (g 2) (g 3)) = strF 4 g := strF_congr fun i hi => by
    have : i = 0 ∨ i = 1 ∨ i = 2 ∨ i = 3 := by omega
    rcases this with rfl | rfl | rfl | rfl <;> rfl
  rw [e, BEq.rfl]
theorem law_spec {p : Pic} (hpx : ∀ i, i < p.n → 0 ≤ p.px i ∧ p.px i ≤ 255) (w u v : Int) : FSpec Try.prog 3 [.agg p.c, iA w, iA u, iA v] (.x (.bool true)) := by
  by_cases hh : p.n ≤ 1600
  · have hv := hv_spec p
    rw [decide_eq_false (show ¬ ((p.n : Int) > 1600) by omega)] at hv
    by_cases hm : mayS p.W p.H p.n = 0
    · have hg := may_pg hm hpx
      obtain ⟨K, hK, hend, hbe⟩ := hK_ex hg.w1 hg.w64 hg.h1 hg.h64
      have hL := lok_hd (c := bodyOf Try.f3) (i := 16) 0 (by kernel_rfl) (by kernel_rfl) (toldF_sound (keep := [8, 10, 15, 16, 17]) (τ := [some 4]) (lw_leads hg hK hend hbe))
      have hmc := may_spec p.W p.H 1 p.n fun i => [yA (p.px i)]
      have hmr := mayR_spec p.W p.H 1 p.n fun i => [yA (p.px i)]
      rw [hm] at hmc hmr
      have rest := k_cons (kfix_ok (half_good hg)) (k_cons (kfix_ok (halfR_good hg)) (k_cons (kfix_ok (same_spec (hpic p p.W.toNat p.H.toNat))) (k_cons (kfix_ok (halves_good hg hK hend hbe)) k_nil)))
      have rest2 := k_cons (kfix_ok hmc) (k_cons (kfix_ok hmr) rest)
      by_cases ha : matS p.W p.H p.n w u v = 0
      · refine gspec e_nil (k_cons (kfix_ok hv) (k_cons (kfix_ok (at_good ha hpx)) (k_cons (kfix_ok (atR_good ha hpx)) rest2))) Try.func3 (by kernel_rfl) (by kernel_rfl) hL rfl ((law_ev0 p _ w u v _ _ _ _ _ (K + 1) _ _).trans ?_)
        rw [strB_eq]
        simp only [gate_pos trivial, gate_pos (Sub.refl _), Bool.not_true, cond_false]
      · have hb1 := at_bad ha
        have hb2 := atR_bad' ha
        have hv3 : matS p.W p.H p.n w u v = 3 ∨ matS p.W p.H p.n w u v = 1 := by
          revert ha
          unfold matS
          rw [hm]
          cases wayS w <;> cases uvS u v <;> simp
        rcases hv3 with hv3 | hv3
        · rw [hv3] at hb1 hb2
          refine gspec e_nil (k_cons (kfix_ok hv) (k_cons (kfix_ok hb1) (k_cons (kfix_ok hb2) rest2))) Try.func3 (by kernel_rfl) (by kernel_rfl) hL rfl ((law_ev3 p _ w u v _ (K + 1) _).trans ?_)
          simp only [gate_pos trivial, gate_pos (Sub.refl _)]
        · rw [hv3] at hb1 hb2
          refine gspec e_nil (k_cons (kfix_ok hv) (k_cons (kfix_ok hb1) (k_cons (kfix_ok hb2) rest2))) Try.func3 (by kernel_rfl) (by kernel_rfl) hL rfl ((law_ev1 p _ w u v _ (K + 1) _).trans ?_)
          simp only [gate_pos trivial, gate_pos (Sub.refl _)]
    · have hmt : matS p.W p.H p.n w u v = mayS p.W p.H p.n := by
        unfold matS
        rw [beq_false_of_ne hm]
        rfl
      have hmc := may_spec p.W p.H 1 p.n fun i => [yA (p.px i)]
      have hmr := mayR_spec p.W p.H 1 p.n fun i => [yA (p.px i)]
      have hb1 := at_bad (p := p) (w := w) (u := u) (v := v) (by rw [hmt]; exact hm)
      have hb2 := atR_bad' (p := p) (w := w) (u := u) (v := v) (by rw [hmt]; exact hm)
      have hb3 := half_bad' hm
      have hb4 := halfR_bad' hm
      have hb5 := halves_bad' (fun _ => zP) hm
      rw [hmt] at hb1 hb2
      have hv3 : mayS p.W p.H p.n = 4 ∨ mayS p.W p.H p.n = 5 := by
        revert hm
        unfold mayS
        cases badS p.W p.H <;> cases !(((p.n : Nat) : Int) == w64 (w64 (p.W * p.H) * 4)) <;> simp
      rcases hv3 with hv3 | hv3
      · rw [hv3] at hb1 hb2 hb3 hb4 hb5 hmc hmr
        refine gspec e_nil (k_cons (kfix_ok hv) (k_cons (kfix_ok hb1) (k_cons (kfix_ok hb2) (k_cons (kfix_ok hmc) (k_cons (kfix_ok hmr) (k_cons (kfix_ok hb3) (k_cons (kfix_ok hb4) (k_cons (kfix_ok (same_spec zP)) (k_cons (kfix_ok hb5) k_nil))))))))) Try.func3 (by kernel_rfl) (by kernel_rfl) (lok_none 16) rfl ((law_ev4 p zP w u v _).trans ?_)
        simp only [gate_pos trivial]
      · rw [hv3] at hb1 hb2 hb3 hb4 hb5 hmc hmr
        refine gspec e_nil (k_cons (kfix_ok hv) (k_cons (kfix_ok hb1) (k_cons (kfix_ok hb2) (k_cons (kfix_ok hmc) (k_cons (kfix_ok hmr) (k_cons (kfix_ok hb3) (k_cons (kfix_ok hb4) (k_cons (kfix_ok (same_spec zP)) (k_cons (kfix_ok hb5) k_nil))))))))) Try.func3 (by kernel_rfl) (by kernel_rfl) (lok_none 16) rfl ((law_ev5 p zP w u v _).trans ?_)
        simp only [gate_pos trivial]
  · have hv := hv_spec p
    rw [decide_eq_true (show ((p.n : Int) > 1600) by omega)] at hv
    refine gspec e_nil (k_cons (kfix_ok hv) (k_cons (kno_ok _) k_nil)) Try.func3 (by kernel_rfl) (by kernel_rfl) (lok_none 16) rfl ((law_evH p w u v).trans ?_)
    exact gate_pos rfl
end Go.Proofs.Ytkibceiellnggaa
