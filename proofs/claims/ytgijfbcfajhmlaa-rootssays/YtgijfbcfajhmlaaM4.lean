/-
  Ro8 Ro9 Roa Rob Roc Gyl Rod Roe Rof Rog, one behind the other.
-/
import Derived.Test.YtgijfbcfajhmlaaM3
namespace Go.Proofs.Ytgijfbcfajhmlaa
open Go.Gv
open Go.Ev (wB wB_pos wB_eq dg dg_lt vl vl_lt pw_pos)

theorem word_le {a b : Nat} (ha : a < wB) (hb : b < wB) : a * b ≤ 340282366920938463426481119284349108225 := by
  rw [wB_eq] at ha hb
  exact Nat.le_trans (Nat.mul_le_mul (show a ≤ 18446744073709551615 by omega) (show b ≤ 18446744073709551615 by omega)) (by decide)
theorem at_num {p y c : Nat} (hp : p ≤ 340282366920938463426481119284349108225) (hy : y < wB) (hc : c < wB) : ((p % wB + y) % wB + c) % wB = (p + y + c) % wB ∧ ((p / wB + (p % wB + y) / wB) % wB + ((p % wB + y) % wB + c) / wB) % wB = (p + y + c) / wB ∧ (p + y + c) / wB < wB := by
  rw [wB_eq] at *
  omega
/-- What is added up, up to the i-th word. -/
def atN0 (y g : Nat → Nat) (w st i : Nat) : Nat := vl (fun j => y (st + j)) i + w * vl g i
theorem atN0_next (y g : Nat → Nat) (w st i : Nat) : atN0 y g w st (i + 1) = atN0 y g w st i + wB ^ i * (g i * w + y (st + i)) := by
  show vl (fun j => y (st + j)) i + wB ^ i * y (st + i) + w * (vl g i + wB ^ i * g i) = vl (fun j => y (st + j)) i + w * vl g i + wB ^ i * (g i * w + y (st + i))
  generalize wB ^ i = Q
  grind
theorem atN0_div (y g : Nat → Nat) (w st i : Nat) : atN0 y g w st (i + 1) / wB ^ i = g i * w + y (st + i) + atN0 y g w st i / wB ^ i := by
  rw [atN0_next, Nat.add_mul_div_left _ _ (pw_pos i)]
  omega
theorem atN0_div' (y g : Nat → Nat) (w st i : Nat) : atN0 y g w st (i + 1) / wB ^ (i + 1) = (g i * w + y (st + i) + atN0 y g w st i / wB ^ i) / wB := by
  rw [Nat.pow_succ, ← Nat.div_div_eq_div_mul, atN0_div]
section
variable {y g : Nat → Nat} {w st : Nat} (hy : ∀ q, y q < wB) (hg : ∀ q, g q < wB) (hw : w < wB)
include hy hg hw
theorem atN0_lt : ∀ i, atN0 y g w st i / wB ^ i < wB
  | 0 => by
    have : atN0 y g w st 0 = 0 := by unfold atN0 vl; omega
    rw [this, Nat.zero_div]
    exact wB_pos
  | i + 1 => by
    rw [atN0_div']
    exact (at_num (word_le (hg i) hw) (hy _) (atN0_lt i)).2.2
end
def atRw (y g : Nat → Nat) (w st i q : Nat) : Nat := if st ≤ q ∧ q < st + i then dg (atN0 y g w st (q - st + 1)) (q - st) else y q
theorem atRw_next (y g : Nat → Nat) (w st i q : Nat) : (if q = st + i then dg (atN0 y g w st (i + 1)) i else atRw y g w st i q) = atRw y g w st (i + 1) q := by
  unfold atRw
  by_cases h : q = st + i
  · subst h
    rw [if_pos rfl, if_pos (by omega), show st + i - st = i by omega]
  · rw [if_neg h]
    by_cases h2 : st ≤ q ∧ q < st + i
    · rw [if_pos h2, if_pos (by omega)]
    · rw [if_neg h2, if_neg (by omega)]
def nI (f : Nat → Nat) (q : Nat) : Int := ((f q : Nat) : Int)
def muHi : I2 := fun x y => ((x.toNat * y.toNat / wB : Nat) : Int)
def muLo : I2 := fun x y => ((x.toNat * y.toNat % wB : Nat) : Int)
theorem mixVI (q a : Nat) (x z : Nat) : mixL (q == a) [vA (x : Nat)] [vA (z : Nat)] = [vA ((if q = a then x else z : Nat) : Int)] := by
  rw [mixV]
  by_cases h : q = a
  · subst h; rw [BEq.rfl, if_pos rfl]; rfl
  · rw [beq_false_of_ne h, if_neg h]; rfl
section
variable {N m : Nat} {y g : Nat → Nat} {w st : Nat} (hm : m < 4611686018427387904) (hst : st + m ≤ N) (hy : ∀ q, y q < wB) (hg : ∀ q, g q < wB) (hw : w < wB)
include hm hst hy hg hw
theorem at_leads : LeadsN 1 Try.prog (.loop (loopAt Try.f64 0)) (atS N m st (nI g) (w : Nat) 0 0 (nI y)) (.exit 0) (atS N m st (nI g) (w : Nat) ((atN0 y g w st m / wB ^ m : Nat) : Int) (m : Nat) (nI (atRw y g w st m))) := by
  have h0 : atS N m st (nI g) (w : Nat) 0 0 (nI y) = atS N m st (nI g) (w : Nat) ((atN0 y g w st 0 / wB ^ 0 : Nat) : Int) ((0 : Nat) : Int) (nI (atRw y g w st 0)) := by
    have e1 : atN0 y g w st 0 = 0 := by unfold atN0 vl; omega
    have e2 : atRw y g w st 0 = y := funext fun q => by unfold atRw; rw [if_neg (by omega)]
    rw [e1, e2, Nat.zero_div]
    rfl
  rw [h0]
  refine loop_rule (fun i => atS N m st (nI g) (w : Nat) ((atN0 y g w st i / wB ^ i : Nat) : Int) (i : Nat) (nI (atRw y g w st i))) m (.exit 0) _ (by simp) (fun i hi => ?_) ?_
  · have stp := at_step adS adC muHi muLo N m st (nI g) (w : Nat) ((atN0 y g w st i / wB ^ i : Nat) : Int) (i : Nat) (nI (atRw y g w st i))
    have hr : atRw y g w st i (st + i) = y (st + i) := by unfold atRw; rw [if_neg (by omega)]
    have hc := atN0_lt (st := st) hy hg hw i
    obtain ⟨n1, n2, _⟩ := at_num (word_le (hg i) hw) (hy (st + i)) hc
    rw [← atN0_div] at n1 n2
    have e0 : atL0 muLo (nI g) (w : Nat) (i : Nat) = ((g i * w % wB : Nat) : Int) := rfl
    have eY : nI (atRw y g w st i) (st + ((i : Nat) : Int).toNat) = ((y (st + i) : Nat) : Int) := by unfold nI; rw [Int.toNat_natCast, hr]
    have e1 : atL1 adS muLo st (nI g) (w : Nat) (i : Nat) (nI (atRw y g w st i)) = (((g i * w % wB + y (st + i)) % wB : Nat) : Int) := by unfold atL1; rw [e0, eY]; rfl
    have e2 : atL2 adS muLo st (nI g) (w : Nat) ((atN0 y g w st i / wB ^ i : Nat) : Int) (i : Nat) (nI (atRw y g w st i)) = ((dg (atN0 y g w st (i + 1)) i : Nat) : Int) := by
      unfold atL2 dg
      rw [e1, ← n1]
      rfl
    have e3 : atH1 adC muHi muLo st (nI g) (w : Nat) (i : Nat) (nI (atRw y g w st i)) = (((g i * w / wB + (g i * w % wB + y (st + i)) / wB) % wB : Nat) : Int) := by unfold atH1; rw [e0, eY]; rfl
    have e4 : atH2 adS adC muHi muLo st (nI g) (w : Nat) ((atN0 y g w st i / wB ^ i : Nat) : Int) (i : Nat) (nI (atRw y g w st i)) = ((atN0 y g w st (i + 1) / wB ^ (i + 1) : Nat) : Int) := by
      unfold atH2
      rw [e1, e3, Nat.pow_succ, ← Nat.div_div_eq_div_mul, ← n2]
      rfl
    have hmul : FSpec Try.prog 68 [vA (nI g ((i : Nat) : Int).toNat), vA (w : Nat)] (.tup [vA (muHi (nI g ((i : Nat) : Int).toNat) (w : Nat)), vA (muLo (nI g ((i : Nat) : Int).toNat) (w : Nat))]) := mul_spec (hg i) hw
    have hB : atB N st (i : Nat) = true := by unfold atB; rw [Int.toNat_natCast, blt_t (by omega)]; rfl
    unfold atT at stp
    rw [dec_lt hi, ixB_t hi, gate_pos hmul, hB, e0, eY, e1, show c3B ((g i * w % wB : Nat) : Int) ((y (st + i) : Nat) : Int) 0 = true from c3B_t (k := 0) (by omega), show c3B (((g i * w % wB + y (st + i)) % wB : Nat) : Int) ((atN0 y g w st i / wB ^ i : Nat) : Int) 0 = true from c3B_t (k := 0) (by omega)] at stp
    unfold atN at stp
    rw [e2, e4, w64_next (by omega)] at stp
    refine (leads_evMN (finN_subN _ (by rfl)) e_nil (k_cons kS_ok (k_cons kAdd_ok k_nil)) m_nil noL_okN stp).sub (SubN.refl _) ?_
    refine sub_same ⟨Or.inr ⟨83, 1, N, _, _, rfl, rfl, fun q hq => ?_⟩, trivial⟩
    refine Eq.symm ?_
    show mixL (q == st + i) [vA ((dg (atN0 y g w st (i + 1)) i : Nat) : Int)] [vA ((atRw y g w st i q : Nat) : Int)] = [vA ((atRw y g w st (i + 1) q : Nat) : Int)]
    rw [mixVI, atRw_next]
  · refine leads_evMN (finE_subN _ (by rfl)) e_nil (k_cons kS_ok (k_cons kAdd_ok k_nil)) m_nil noL_okN ((at_end adS adC muHi muLo N m st (nI g) (w : Nat) _ (m : Nat) _).trans ?_)
    unfold atT
    rw [dec_self, cond_false]
theorem at_spec : GSpec Try.prog 64 [.view 0 1 st 0 m, vS m (nI g), vA (w : Nat)] [.a 83 1 N fun q => [vA (nI y q)]] (vA ((atN0 y g w st m / wB ^ m : Nat) : Int)) [.a 83 1 N fun q => [vA (nI (atRw y g w st m) q)]] := by
  have hL : LOkN 1 Try.prog (oneL 3 (toldP 1 keepAt [some 0] (atS N m st (nI g) (w : Nat) 0 0 (nI y)) (.exit 0) (atS N m st (nI g) (w : Nat) ((atN0 y g w st m / wB ^ m : Nat) : Int) (m : Nat) (nI (atRw y g w st m))))) (bodyOf Try.f64) := lokN_one 1 (by kernel_rfl) fun j hj _ => by
    have : j = 0 := by omega
    subst this
    exact toldP_sound (by rfl) (at_leads hm hst hy hg hw)
  refine gspecGW e_nil (k_cons kS_ok (k_cons kAdd_ok k_nil)) m_nil w_nil r_nil Try.func64 (by kernel_rfl) (by kernel_rfl) (mem := [.a 83 1 N fun q => [vA (nI y q)]]) hL rfl (τ := [some 0]) (by rfl) ((at_ev adS adC muHi muLo N m st (nI g) (w : Nat) (nI y) _ _).trans ?_)
  rw [gate_pos (SubN.refl _)]
end
end Go.Proofs.Ytgijfbcfajhmlaa

namespace Go.Proofs.Ytgijfbcfajhmlaa
open Go.Gv
open Go.Ev (wB wB_pos wB_eq dg dg_lt vl vl_lt vl_dg vl_congr pw_pos nw nw_lt mod_next dg_zero)

def prS (n : Nat) (f : Nat → Int) (m : Nat) (g : Nat → Int) (N : Nat) (i : Int) (Y : Nat → Int) : St := mkS 40 [(0, vS n f), (1, vS m g), (5, .osl 0 1 0 N), (14, vS n f), (15, iA (n : Nat)), (16, iA i)] [.a 83 1 N fun q => [vA (Y q)]]
def keepPr : List Nat := [0, 1, 5, 14, 15, 16]
section
variable (n : Nat) (f : Nat → Int) (m : Nat) (g : Nat → Int) (N : Nat) (i : Int) (Y Y1 : Nat → Int) (c : Int)
def prM : List Row := [.a 83 1 N fun q => [vA (Y q)]]
def prV : AV := .view 0 1 (0 + sbL (some i)) 0 (sbN (some i) (some (w64 (i + (m : Int)))) N)
abbrev PRok : Prop := GSpec Try.prog 64 [prV m N i, vS m g, vA (f i.toNat)] (prM N Y) (vA c) (prM N Y1)
noncomputable def prT (x y : Option Out) : Option Out := cond (decide (i < (n : Int))) (cond (ixB i n || false) (cond (sbB (some i) (some (w64 (i + (m : Int)))) none N || false) (cond (propB (PRok f m g N i Y Y1 c)) (cond (ixB (w64 (i + (m : Int))) N || false) (cond (stU (w64 (i + (m : Int))).toNat N) x none) none) none) none) none) y
def prN : St := mkS 40 [(0, vS n f), (1, vS m g), (5, .osl 0 1 0 N), (14, vS n f), (15, iA (n : Nat)), (16, iA (w64 (i + 1)))] [.a 83 1 N fun q => mixL (q == 0 + (w64 (i + (m : Int))).toNat) [vA c] [vA (Y1 q)]]
theorem pr_step : evCW Try.prog [] [] [] [wS Try.prog 64 (fun _ _ => vA c) (fun _ _ => prM N Y1)] [] noL (loopAt Try.f59 0) (prS n f m g N i Y) (finN keepPr [some 0]) = prT n f m g N i Y Y1 c (some ⟨.normal, prN n f m g N i Y1 c, .any⟩) none := by kernel_rfl
theorem pr_end : evCW Try.prog [] [] [] [wS Try.prog 64 (fun _ _ => vA c) (fun _ _ => prM N Y1)] [] noL (loopAt Try.f59 0) (prS n f m g N i Y) (finE keepPr [some 0]) = prT n f m g N i Y Y1 c none (some ⟨.exit 0, prS n f m g N i Y, .any⟩) := by kernel_rfl
end
section
variable (n : Nat) (f : Nat → Int) (m : Nat) (g : Nat → Int) (N : Nat) (Y : Nat → Int) (k : Nat) (F : Nat → Int)
def p0T : St := prS n f m g N 0 fun _ => 0
noncomputable def prTail : Option Out := cond (fz1 N) (gate (FSpec Try.prog 65 [.sl 1 N fun q => [vA (Y q)]] (vS k F)) (some (Out.of (vS k F)))) none
theorem pr_ev : evZ Try.prog [] [kS Try.prog 65 (fun _ => vS k F)] [] (oneL 3 (toldF keepPr [some 0] (p0T n f m g N) (.exit 0) (prS n f m g N (n : Nat) Y))) (oneZ 7 (frzK 0)) Try.f59 [vS n f, vS m g] ret =
    cond (mkU (w64 ((n : Int) + (m : Int))) || false) (gate (Sub (prS n f m g (w64 ((n : Int) + (m : Int))).toNat 0 fun _ => 0) (p0T n f m g N)) (prTail N Y k F)) none := by kernel_rfl
end
end Go.Proofs.Ytgijfbcfajhmlaa

namespace Go.Proofs.Ytgijfbcfajhmlaa
open Go.Gv
open Go.Ev (wB wB_pos wB_eq dg dg_lt vl vl_lt vl_dg vl_congr pw_pos nw nw_lt mod_next dg_zero)

theorem dg_low {i q : Nat} (h : q < i) (x k : Nat) : dg (x + wB ^ i * k) q = dg x q := by
  obtain ⟨r, rfl⟩ : ∃ r, i = q + 1 + r := ⟨i - q - 1, by omega⟩
  unfold dg
  have e : wB ^ (q + 1 + r) * k = wB ^ q * (wB * (wB ^ r * k)) := by
    rw [Nat.pow_add, Nat.pow_succ]; simp only [Nat.mul_assoc]
  rw [e, Nat.add_mul_div_left _ _ (pw_pos q), Nat.add_mul_mod_self_left]
theorem dg_hi (x i j : Nat) : dg x (i + j) = dg (x / wB ^ i) j := by
  unfold dg
  rw [Nat.div_div_eq_div_mul, ← Nat.pow_add]
theorem atN0_add (y g : Nat → Nat) (w st j : Nat) : ∀ k, ∃ z, atN0 y g w st (j + k) = atN0 y g w st j + wB ^ j * z
  | 0 => ⟨0, by rw [Nat.mul_zero]; rfl⟩
  | k + 1 => by
    obtain ⟨z, hz⟩ := atN0_add y g w st j k
    refine ⟨z + wB ^ k * (g (j + k) * w + y (st + (j + k))), ?_⟩
    rw [← Nat.add_assoc, atN0_next, hz, Nat.pow_add]
    generalize g (j + k) * w + y (st + (j + k)) = u
    rw [Nat.mul_add, Nat.mul_assoc, Nat.add_assoc]
theorem atN0_dg (y g : Nat → Nat) (w st : Nat) {j m : Nat} (h : j < m) : dg (atN0 y g w st (j + 1)) j = dg (atN0 y g w st m) j := by
  obtain ⟨k, rfl⟩ : ∃ k, m = j + 1 + k := ⟨m - (j + 1), by omega⟩
  obtain ⟨z, hz⟩ := atN0_add y g w st (j + 1) k
  rw [hz, dg_low (by omega)]
/-- What is there after i words of a. -/
def pX (a b i : Nat) : Nat := a % wB ^ i * b
theorem pX_next (a b i : Nat) : pX a b (i + 1) = pX a b i + wB ^ i * (dg a i * b) := by
  unfold pX
  rw [mod_next, Nat.add_mul, Nat.mul_assoc]
theorem pX_lt (a b i : Nat) : pX a b i < wB ^ (i + nw b) := by
  unfold pX
  have h1 := Nat.mod_lt a (pw_pos i)
  have h2 := nw_lt b
  rw [Nat.pow_add]
  rcases Nat.eq_zero_or_pos b with h | h
  · subst h
    rw [Nat.mul_zero]
    exact Nat.mul_pos (pw_pos _) (pw_pos _)
  · exact Nat.lt_of_lt_of_le ((Nat.mul_lt_mul_right h).2 h1) (Nat.mul_le_mul_left _ (by omega))
theorem p_T (a b i : Nat) : atN0 (dg (pX a b i)) (dg b) (dg a i) i (nw b) = pX a b (i + 1) / wB ^ i := by
  have h1 : vl (fun j => dg (pX a b i) (i + j)) (nw b) = pX a b i / wB ^ i := by
    rw [show (fun j => dg (pX a b i) (i + j)) = dg (pX a b i / wB ^ i) from funext fun j => dg_hi _ _ _, vl_dg, Nat.mod_eq_of_lt]
    rw [Nat.div_lt_iff_lt_mul (pw_pos i), ← Nat.pow_add, Nat.add_comm]
    exact pX_lt a b i
  have h2 : vl (dg b) (nw b) = b := by rw [vl_dg, Nat.mod_eq_of_lt (nw_lt b)]
  unfold atN0
  rw [h1, h2, pX_next, Nat.add_mul_div_left _ _ (pw_pos i)]
theorem p_row (a b i q : Nat) : (if q = i + nw b then pX a b (i + 1) / wB ^ i / wB ^ nw b else atRw (dg (pX a b i)) (dg b) (dg a i) i (nw b) q) = dg (pX a b (i + 1)) q := by
  by_cases h : q = i + nw b
  · subst h
    rw [if_pos rfl, dg_hi]
    show _ = pX a b (i + 1) / wB ^ i / wB ^ nw b % wB
    rw [Nat.mod_eq_of_lt]
    rw [Nat.div_div_eq_div_mul, Nat.div_lt_iff_lt_mul (Nat.mul_pos (pw_pos _) (pw_pos _)), ← Nat.pow_add, Nat.mul_comm, ← Nat.pow_succ]
    have := pX_lt a b (i + 1)
    rw [show i + 1 + nw b = (i + nw b).succ by omega] at this
    exact this
  · rw [if_neg h]
    unfold atRw
    by_cases h2 : i ≤ q ∧ q < i + nw b
    · rw [if_pos h2, atN0_dg (m := nw b) _ _ _ _ (by omega), p_T, ← dg_hi, show i + (q - i) = q by omega]
    · rw [if_neg h2]
      by_cases h3 : q < i
      · rw [pX_next, dg_low h3]
      · rw [dg_zero (Nat.lt_of_lt_of_le (pX_lt a b i) (Nat.pow_le_pow_right wB_pos (by omega))), dg_zero (Nat.lt_of_lt_of_le (pX_lt a b (i + 1)) (Nat.pow_le_pow_right wB_pos (by omega)))]
theorem pr_leads {a b : Nat} (hN : nw a + nw b ≤ 35184372088832) : Leads Try.prog (.loop (loopAt Try.f59 0)) (p0T (nw a) (dI a) (nw b) (dI b) (nw a + nw b)) (.exit 0) (prS (nw a) (dI a) (nw b) (dI b) (nw a + nw b) (nw a : Nat) (dI (pX a b (nw a)))) := by
  have h0 : p0T (nw a) (dI a) (nw b) (dI b) (nw a + nw b) = prS (nw a) (dI a) (nw b) (dI b) (nw a + nw b) ((0 : Nat) : Int) (dI (pX a b 0)) := by
    have e : pX a b 0 = 0 := by unfold pX; rw [Nat.pow_zero, Nat.mod_one, Nat.zero_mul]
    have e2 : dI 0 = fun _ => 0 := funext fun q => by unfold dI; rw [dg_zero (pw_pos q)]; rfl
    rw [e, e2]
    rfl
  rw [h0]
  refine loop_rule (fun i => prS (nw a) (dI a) (nw b) (dI b) (nw a + nw b) (i : Nat) (dI (pX a b i))) (nw a) (.exit 0) _ (by simp) (fun i hi => ?_) ?_
  · have stp := pr_step (nw a) (dI a) (nw b) (dI b) (nw a + nw b) (i : Nat) (dI (pX a b i)) (nI (atRw (dg (pX a b i)) (dg b) (dg a i) i (nw b))) ((atN0 (dg (pX a b i)) (dg b) (dg a i) i (nw b) / wB ^ nw b : Nat) : Int)
    have ew : w64 (((i : Nat) : Int) + ((nw b : Nat) : Int)) = ((i + nw b : Nat) : Int) := by rw [w64_id (by omega) (by omega)]; omega
    have ev : prV (nw b) (nw a + nw b) (i : Nat) = .view 0 1 i 0 (nw b) := by
      unfold prV
      rw [ew]
      unfold sbL sbN
      simp only [Option.getD_some, Int.toNat_natCast]
      rw [Nat.zero_add, show (((i + nw b : Nat) : Int) - ((i : Nat) : Int)).toNat = nw b by omega]
    have hP : PRok (dI a) (nw b) (dI b) (nw a + nw b) (i : Nat) (dI (pX a b i)) (nI (atRw (dg (pX a b i)) (dg b) (dg a i) i (nw b))) ((atN0 (dg (pX a b i)) (dg b) (dg a i) i (nw b) / wB ^ nw b : Nat) : Int) := by
      unfold PRok
      rw [ev]
      exact at_spec (by omega) (by omega) (fun q => dg_lt _ _) (fun q => dg_lt _ _) (dg_lt _ _)
    have s1 : sbB (some ((i : Nat) : Int)) (some ((i + nw b : Nat) : Int)) none (nw a + nw b) = true := by
      unfold sbB
      simp only [Option.getD_some, Option.getD_none]
      rw [decide_eq_true (show (0 : Int) ≤ ((i : Nat) : Int) by omega), decide_eq_true (show ((i : Nat) : Int) ≤ ((i + nw b : Nat) : Int) by omega), decide_eq_true (show ((i + nw b : Nat) : Int) ≤ ((nw a + nw b : Nat) : Int) by omega), decide_eq_true (Int.le_refl _)]
      rfl
    unfold prT at stp
    rw [dec_lt hi, ixB_t hi, propB_t hP, ew, s1, ixB_t (show i + nw b < nw a + nw b by omega), Int.toNat_natCast, stU_t (show i + nw b < nw a + nw b by omega)] at stp
    unfold prN at stp
    rw [ew, w64_next (by omega)] at stp
    refine (leads_evW e_nil k_nil m_nil (w_cons wS_ok w_nil) r_nil (finN_sub _ _) noL_ok stp).sub (Sub.refl _) ?_
    refine sub_same ⟨Or.inr ⟨83, 1, nw a + nw b, _, _, rfl, rfl, fun q hq => ?_⟩, trivial⟩
    refine Eq.symm ?_
    rw [Int.toNat_natCast, Nat.zero_add, p_T]
    show mixL (q == i + nw b) [vA ((pX a b (i + 1) / wB ^ i / wB ^ nw b : Nat) : Int)] [vA ((atRw (dg (pX a b i)) (dg b) (dg a i) i (nw b) q : Nat) : Int)] = [vA ((dg (pX a b (i + 1)) q : Nat) : Int)]
    rw [mixVI, p_row]
  · refine leads_evW e_nil k_nil m_nil (w_cons wS_ok w_nil) r_nil (finE_sub _ _) noL_ok ((pr_end (nw a) (dI a) (nw b) (dI b) (nw a + nw b) (nw a : Nat) (dI (pX a b (nw a))) (fun _ => 0) 0).trans ?_)
    unfold prT
    rw [dec_self, cond_false]
theorem p0T_sub (n : Nat) (u : Nat → Int) (m : Nat) (v : Nat → Int) (N : Nat) : Sub (prS n u m v N 0 fun _ => 0) (p0T n u m v N) := by unfold p0T; exact Sub.refl _
theorem pr_spec {a b : Nat} (hN : nw a + nw b ≤ 35184372088832) : FSpec Try.prog 59 [wsA a, wsA b] (wsA (a * b)) := by
  have hL := lok_at (c := bodyOf Try.f59) (i := 3) 0 1 (by kernel_rfl) (by kernel_rfl) (toldF_sound (keep := keepPr) (τ := [some 0]) (pr_leads hN))
  refine gspecZ (oneZ_ok (frzK_ok 0)) e_nil (k_cons kS_ok k_nil) m_nil Try.func59 (by kernel_rfl) (by kernel_rfl) hL rfl ((pr_ev (nw a) (dI a) (nw b) (dI b) (nw a + nw b) (dI (pX a b (nw a))) (nw (a * b)) (dI (a * b))).trans ?_)
  have e : pX a b (nw a) = a * b := by unfold pX; rw [Nat.mod_eq_of_lt (nw_lt a)]
  have hlt := pX_lt a b (nw a)
  rw [e] at hlt
  have ht : FSpec Try.prog 65 [.sl 1 (nw a + nw b) fun q => [vA (dI (a * b) q)]] (vS (nw (a * b)) (dI (a * b))) := trim_spec (a * b) hN hlt
  have ew : w64 (((nw a : Nat) : Int) + ((nw b : Nat) : Int)) = ((nw a + nw b : Nat) : Int) := by rw [w64_id (by omega) (by omega)]; omega
  unfold prTail
  rw [ew, mkU_t hN, Int.toNat_natCast, gate_pos (p0T_sub (nw a) (dI a) (nw b) (dI b) (nw a + nw b)), fz1_t, e, gate_pos ht]
  rfl
end Go.Proofs.Ytgijfbcfajhmlaa

namespace Go.Proofs.Ytgijfbcfajhmlaa
open Go.Gv
open Go.Ev (wB wB_pos wB_eq dg dg_lt vl vl_lt vl_dg vl_congr pw_pos nw nw_lt mod_next dg_zero)

/-- A whole number. -/
def wA (x : Int) : AV := .agg [iA x.sign, wsA x.natAbs]
/-- What a value says. -/
def u64V : List AV → Nat
  | [.x (.int _ z)] => z.toNat
  | _ => 0
def decS : AV → Nat
  | .sl _ n el => vl (fun i => u64V (el i)) n
  | _ => 0
theorem decS_ws (a : Nat) : decS (wsA a) = a := by
  show vl (fun i => (((dg a i : Nat) : Int)).toNat) (nw a) = a
  simp only [Int.toNat_natCast]
  exact (vl_dg a (nw a)).trans (Nat.mod_eq_of_lt (nw_lt a))
def decW : AV → Int
  | .agg [.x (.int _ s), a] => s * (decS a : Nat)
  | _ => 0
theorem decW_w (x : Int) : decW (wA x) = x := by
  show x.sign * ((decS (wsA x.natAbs) : Nat) : Int) = x
  rw [decS_ws, Int.sign_mul_natAbs]
def a0 (l : List AV) : AV := l.getD 0 .any
def a1 (l : List AV) : AV := l.getD 1 .any
def smG (l : List AV) : AV := wsA (decS (a0 l) + decS (a1 l))
def dfG (l : List AV) : AV := wsA (decS (a0 l) - decS (a1 l))
def prG (l : List AV) : AV := wsA (decS (a0 l) * decS (a1 l))
def cpG (cf : Nat → Nat → Int) (l : List AV) : AV := iA (cf (decS (a0 l)) (decS (a1 l)))
def w0 : AV := .agg [iA 0, .x (.slice none 0 0)]
section
variable (x y : Int)
def nX : AV := wsA x.natAbs
theorem mi_ev : ev Try.prog [] [] noL Try.f47 [wA x] ret = some (Out.of (.agg [iA (w64 (0 - x.sign)), nX x])) := by kernel_rfl
theorem ti_ev : ev Try.prog [] [kS Try.prog 59 prG] noL Try.f45 [wA x, wA y] ret =
    cond (cond (x.sign == 0) true (y.sign == 0)) (some (Out.of w0)) (gate (FSpec Try.prog 59 [nX x, nX y] (prG [nX x, nX y])) (some (Out.of (.agg [iA (w64 (x.sign * y.sign)), prG [nX x, nX y]])))) := by kernel_rfl
noncomputable def plT (cf : Nat → Nat → Int) : Option Out := gate (FSpec Try.prog 61 [nX x, nX y] (cpG cf [nX x, nX y])) (cond (cf (decS (nX x)) (decS (nX y)) == 1) (gate (FSpec Try.prog 62 [nX x, nX y] (dfG [nX x, nX y])) (some (Out.of (.agg [iA x.sign, dfG [nX x, nX y]]))))
    (cond (cf (decS (nX x)) (decS (nX y)) == -1) (gate (FSpec Try.prog 62 [nX y, nX x] (dfG [nX y, nX x])) (some (Out.of (.agg [iA y.sign, dfG [nX y, nX x]])))) (some (Out.of w0))))
theorem pl_ev (cf : Nat → Nat → Int) : ev Try.prog [] [kS Try.prog 60 smG, kS Try.prog 61 (cpG cf), kS Try.prog 62 dfG] noL Try.f46 [wA x, wA y] ret =
    cond (x.sign == 0) (some (Out.of (wA y))) (cond (y.sign == 0) (some (Out.of (wA x))) (cond (x.sign == y.sign) (gate (FSpec Try.prog 60 [nX x, nX y] (smG [nX x, nX y])) (some (Out.of (.agg [iA x.sign, smG [nX x, nX y]])))) (plT x y cf))) := by kernel_rfl
end
end Go.Proofs.Ytgijfbcfajhmlaa

namespace Go.Proofs.Ytgijfbcfajhmlaa
open Go.Gv
open Go.Ev (wB wB_pos wB_eq dg dg_lt vl vl_lt vl_dg vl_congr pw_pos nw nw_lt nw_eq mod_next dg_zero)

/-- Few enough words. -/
def Sm (x : Int) : Prop := nw x.natAbs < 17592186044416
theorem w0_like {E : Env} {v : Value} (h : rel E w0 v) : rel E (wA 0) v := by
  obtain ⟨vs, h1, h2⟩ := rel_agg.1 h
  refine rel_agg.2 ⟨vs, h1, ?_⟩
  obtain ⟨u0, t0, e0, r0, h2⟩ := rels_cons.1 h2
  obtain ⟨u1, t1, e1, r1, h2⟩ := rels_cons.1 h2
  exact rels_cons.2 ⟨u0, t0, e0, r0, rels_cons.2 ⟨u1, t1, e1, nil_like r1, h2⟩⟩
theorem sign_cases (x : Int) : (x < 0 ∧ x.sign = -1) ∨ (x = 0 ∧ x.sign = 0) ∨ (0 < x ∧ x.sign = 1) := by
  rcases Int.lt_trichotomy x 0 with h | h | h
  · exact Or.inl ⟨h, Int.sign_eq_neg_one_of_neg h⟩
  · exact Or.inr (Or.inl ⟨h, by rw [h]; rfl⟩)
  · exact Or.inr (Or.inr ⟨h, Int.sign_eq_one_of_pos h⟩)
theorem mi_spec (x : Int) : FSpec Try.prog 47 [wA x] (wA (-x)) := by
  refine gspec e_nil k_nil Try.func47 (by kernel_rfl) (by kernel_rfl) noL_ok rfl ((mi_ev x).trans ?_)
  have e : w64 (0 - x.sign) = (-x).sign := by rcases sign_cases x with ⟨_, h⟩ | ⟨_, h⟩ | ⟨_, h⟩ <;> rw [Int.sign_neg, h] <;> rfl
  unfold wA nX
  rw [e, Int.natAbs_neg]
theorem ti_spec {x y : Int} (hx : Sm x) (hy : Sm y) : FSpec Try.prog 45 [wA x, wA y] (wA (x * y)) := by
  unfold Sm at hx hy
  by_cases hz : x = 0 ∨ y = 0
  · have e : x * y = 0 := by rcases hz with h | h <;> subst h <;> simp
    rw [e]
    refine FSpec.of_res (gspec e_nil (k_cons kS_ok k_nil) Try.func45 (by kernel_rfl) (by kernel_rfl) noL_ok rfl ((ti_ev x y).trans ?_)) fun _ _ => w0_like
    have : cond (x.sign == 0) true (y.sign == 0) = true := by
      rcases hz with h | h <;> subst h
      · rfl
      · cases x.sign == 0 <;> rfl
    rw [this]
    rfl
  · have hx0 : x ≠ 0 := fun h => hz (Or.inl h)
    have hy0 : y ≠ 0 := fun h => hz (Or.inr h)
    refine gspec e_nil (k_cons kS_ok k_nil) Try.func45 (by kernel_rfl) (by kernel_rfl) noL_ok rfl ((ti_ev x y).trans ?_)
    have s1 : (x.sign == 0) = false := beq_false_of_ne fun h => hx0 (Int.sign_eq_zero_iff_zero.1 h)
    have s2 : (y.sign == 0) = false := beq_false_of_ne fun h => hy0 (Int.sign_eq_zero_iff_zero.1 h)
    have e : prG [nX x, nX y] = wsA (x * y).natAbs := by
      show wsA (decS (wsA x.natAbs) * decS (wsA y.natAbs)) = _
      rw [decS_ws, decS_ws, Int.natAbs_mul]
    have hp : FSpec Try.prog 59 [nX x, nX y] (wsA (x * y).natAbs) := by
      rw [Int.natAbs_mul]
      exact pr_spec (by omega)
    have es : w64 (x.sign * y.sign) = (x * y).sign := by
      rw [Int.sign_mul]
      rcases sign_cases x with ⟨_, h⟩ | ⟨_, h⟩ | ⟨_, h⟩ <;> rcases sign_cases y with ⟨_, h'⟩ | ⟨_, h'⟩ | ⟨_, h'⟩ <;> rw [h, h'] <;> rfl
    rw [s1, s2, e, gate_pos hp, es]
    rfl
theorem pl_spec {x y : Int} (hx : Sm x) (hy : Sm y) : FSpec Try.prog 46 [wA x, wA y] (wA (x + y)) := by
  unfold Sm at hx hy
  have ks : ∀ e, e ∈ [kS Try.prog 60 smG, kS Try.prog 61 (cpG cmpI), kS Try.prog 62 dfG] → KOk Try.prog e := k_cons kS_ok (k_cons kS_ok (k_cons kS_ok k_nil))
  have d1 : decS (nX x) = x.natAbs := decS_ws _
  have d2 : decS (nX y) = y.natAbs := decS_ws _
  have eS : smG [nX x, nX y] = wsA (x.natAbs + y.natAbs) := by
    show wsA (decS (nX x) + decS (nX y)) = _
    rw [d1, d2]
  have eD : dfG [nX x, nX y] = wsA (x.natAbs - y.natAbs) := by
    show wsA (decS (nX x) - decS (nX y)) = _
    rw [d1, d2]
  have eD' : dfG [nX y, nX x] = wsA (y.natAbs - x.natAbs) := by
    show wsA (decS (nX y) - decS (nX x)) = _
    rw [d1, d2]
  have eC : cpG cmpI [nX x, nX y] = iA (cmpI x.natAbs y.natAbs) := by
    show iA (cmpI (decS (nX x)) (decS (nX y))) = _
    rw [d1, d2]
  have hS : FSpec Try.prog 60 [nX x, nX y] (wsA (x.natAbs + y.natAbs)) := sum_spec (by omega) (by omega)
  have hC : FSpec Try.prog 61 [nX x, nX y] (iA (cmpI x.natAbs y.natAbs)) := cmp_spec (by omega)
  by_cases hx0 : x = 0
  · subst hx0
    refine gspec e_nil ks Try.func46 (by kernel_rfl) (by kernel_rfl) noL_ok rfl ((pl_ev 0 y cmpI).trans ?_)
    rw [Int.zero_add]
    rfl
  have s1 : (x.sign == 0) = false := beq_false_of_ne fun h => hx0 (Int.sign_eq_zero_iff_zero.1 h)
  by_cases hy0 : y = 0
  · subst hy0
    refine gspec e_nil ks Try.func46 (by kernel_rfl) (by kernel_rfl) noL_ok rfl ((pl_ev x 0 cmpI).trans ?_)
    rw [Int.add_zero, s1]
    rfl
  have s2 : (y.sign == 0) = false := beq_false_of_ne fun h => hy0 (Int.sign_eq_zero_iff_zero.1 h)
  by_cases hs : x.sign = y.sign
  · refine gspec e_nil ks Try.func46 (by kernel_rfl) (by kernel_rfl) noL_ok rfl ((pl_ev x y cmpI).trans ?_)
    have e1 : (x + y).sign = x.sign ∧ (x + y).natAbs = x.natAbs + y.natAbs := by
      rcases sign_cases x with ⟨h1, h⟩ | ⟨h1, h⟩ | ⟨h1, h⟩ <;> rcases sign_cases y with ⟨h1', h'⟩ | ⟨h1', h'⟩ | ⟨h1', h'⟩ <;> rcases sign_cases (x + y) with ⟨h1'', h''⟩ | ⟨h1'', h''⟩ | ⟨h1'', h''⟩ <;> rw [h, h'] at hs <;> omega
    rw [s1, s2, hs, BEq.rfl, eS, gate_pos hS]
    unfold wA
    rw [e1.1, e1.2, hs]
    rfl
  · have s3 : (x.sign == y.sign) = false := beq_false_of_ne hs
    rcases Nat.lt_trichotomy x.natAbs y.natAbs with hl | he | hg
    · refine gspec e_nil ks Try.func46 (by kernel_rfl) (by kernel_rfl) noL_ok rfl ((pl_ev x y cmpI).trans ?_)
      have hD : FSpec Try.prog 62 [nX y, nX x] (wsA (y.natAbs - x.natAbs)) := df_spec (by omega) (by omega)
      have hc : cmpI x.natAbs y.natAbs = -1 := by unfold cmpI; rw [if_neg (by omega), if_pos hl]
      have e1 : (x + y).sign = y.sign ∧ (x + y).natAbs = y.natAbs - x.natAbs := by
        rcases sign_cases x with ⟨h1, h⟩ | ⟨h1, h⟩ | ⟨h1, h⟩ <;> rcases sign_cases y with ⟨h1', h'⟩ | ⟨h1', h'⟩ | ⟨h1', h'⟩ <;> rcases sign_cases (x + y) with ⟨h1'', h''⟩ | ⟨h1'', h''⟩ | ⟨h1'', h''⟩ <;> rw [h, h'] at hs <;> omega
      unfold plT
      rw [s1, s2, s3, eC, gate_pos hC, d1, d2, hc, eD', gate_pos hD]
      unfold wA
      rw [e1.1, e1.2]
      rfl
    · have e0 : x + y = 0 := by rcases sign_cases x with ⟨h1, h⟩ | ⟨h1, h⟩ | ⟨h1, h⟩ <;> rcases sign_cases y with ⟨h1', h'⟩ | ⟨h1', h'⟩ | ⟨h1', h'⟩ <;> rw [h, h'] at hs <;> omega
      rw [e0]
      refine FSpec.of_res (gspec e_nil ks Try.func46 (by kernel_rfl) (by kernel_rfl) noL_ok rfl ((pl_ev x y cmpI).trans ?_)) fun _ _ => w0_like
      have hc : cmpI x.natAbs y.natAbs = 0 := by unfold cmpI; rw [if_neg (by omega), if_neg (by omega)]
      unfold plT
      rw [s1, s2, s3, eC, gate_pos hC, d1, d2, hc]
      rfl
    · refine gspec e_nil ks Try.func46 (by kernel_rfl) (by kernel_rfl) noL_ok rfl ((pl_ev x y cmpI).trans ?_)
      have hD : FSpec Try.prog 62 [nX x, nX y] (wsA (x.natAbs - y.natAbs)) := df_spec (by omega) (by omega)
      have hc : cmpI x.natAbs y.natAbs = 1 := by unfold cmpI; rw [if_pos hg]
      have e1 : (x + y).sign = x.sign ∧ (x + y).natAbs = x.natAbs - y.natAbs := by
        rcases sign_cases x with ⟨h1, h⟩ | ⟨h1, h⟩ | ⟨h1, h⟩ <;> rcases sign_cases y with ⟨h1', h'⟩ | ⟨h1', h'⟩ | ⟨h1', h'⟩ <;> rcases sign_cases (x + y) with ⟨h1'', h''⟩ | ⟨h1'', h''⟩ | ⟨h1'', h''⟩ <;> rw [h, h'] at hs <;> omega
      unfold plT
      rw [s1, s2, s3, eC, gate_pos hC, d1, d2, hc, eD, gate_pos hD]
      unfold wA
      rw [e1.1, e1.2]
      rfl
/-! ### wholeOf -/
def woC (z : Int) (i : Nat) : List AV := chunk [vA z] 1 (0 + i)
theorem wo_ev (x : Int) : ev Try.prog [] [] noL Try.f38 [iA x] ret =
    cond (decide (x < 0)) (some (Out.of (.agg [iA (-1), .sl 1 1 (woC (IntKind.u64.wrap (0 - IntKind.u64.wrap x)))]))) (cond (decide (x > 0)) (some (Out.of (.agg [iA 1, .sl 1 1 (woC (IntKind.u64.wrap x))]))) (some (Out.of w0))) := by kernel_rfl
theorem one_like {E : Env} {v : Value} {s : Int} {z : Nat} (h0 : z ≠ 0) (hz : z < wB) (h : rel E (.agg [iA s, .sl 1 1 (woC (z : Nat))]) v) : rel E (.agg [iA s, wsA z]) v := by
  have hn : nw z = 1 := nw_eq (by rw [Nat.pow_one]; exact hz) (Or.inr (by rw [Nat.sub_self, Nat.pow_zero]; omega))
  obtain ⟨vs, h1, h2⟩ := rel_agg.1 h
  refine rel_agg.2 ⟨vs, h1, ?_⟩
  obtain ⟨u0, t0, e0, r0, h2⟩ := rels_cons.1 h2
  obtain ⟨u1, t1, e1, r1, h2⟩ := rels_cons.1 h2
  refine rels_cons.2 ⟨u0, t0, e0, r0, rels_cons.2 ⟨u1, t1, e1, ?_, h2⟩⟩
  unfold wsA
  rw [hn]
  refine sl_like r1 fun i hi => ?_
  have : i = 0 := by omega
  subst this
  show [vA ((dg z 0 : Nat) : Int)] = [vA ((z : Nat) : Int)]
  have : dg z 0 = z := by unfold dg; rw [Nat.pow_zero, Nat.div_one, Nat.mod_eq_of_lt hz]
  rw [this]
theorem wo_spec {x : Int} (h0 : -9223372036854775808 ≤ x) (h1 : x ≤ 9223372036854775807) : FSpec Try.prog 38 [iA x] (wA x) := by
  have wr : ∀ z : Int, IntKind.u64.wrap z = z % 18446744073709551616 := fun _ => rfl
  rcases sign_cases x with ⟨h, hs⟩ | ⟨h, hs⟩ | ⟨h, hs⟩
  · have e : IntKind.u64.wrap (0 - IntKind.u64.wrap x) = ((x.natAbs : Nat) : Int) := by rw [wr, wr]; omega
    unfold wA
    rw [hs]
    refine FSpec.of_res (gspec e_nil k_nil Try.func38 (by kernel_rfl) (by kernel_rfl) noL_ok rfl ((wo_ev x).trans ?_)) fun _ _ => one_like (z := x.natAbs) (by omega) (by rw [wB_eq]; omega)
    rw [decide_eq_true h, e]
    rfl
  · subst h
    exact FSpec.of_res (gspec e_nil k_nil Try.func38 (by kernel_rfl) (by kernel_rfl) noL_ok rfl (wo_ev 0)) fun _ _ => w0_like
  · have e : IntKind.u64.wrap x = ((x.natAbs : Nat) : Int) := by rw [wr]; omega
    unfold wA
    rw [hs]
    refine FSpec.of_res (gspec e_nil k_nil Try.func38 (by kernel_rfl) (by kernel_rfl) noL_ok rfl ((wo_ev x).trans ?_)) fun _ _ => one_like (z := x.natAbs) (by omega) (by rw [wB_eq]; omega)
    rw [decide_eq_false (show ¬ x < 0 by omega), decide_eq_true h, e]
    rfl
end Go.Proofs.Ytgijfbcfajhmlaa

namespace Go.Gv
open Go.RowKit Go.Ev

/-- Rows that say no more, element by element. -/
def RowLike (row row' : Row) : Prop := row' = row ∨ (∃ e sz n el el', row = .a e sz n el ∧ row' = .a e sz n el' ∧ ∀ i, i < n → (el' i).length = (el i).length ∧ ∀ (E : Env) (cs : List Value), pre E (el i) cs → pre E (el' i) cs) ∨ ∃ l l', row = .c l ∧ row' = .c l' ∧ ∀ (E : Env) (cs : List Value), pre E l cs → pre E l' cs
def RowsLike : List Row → List Row → Prop
  | [], [] => True
  | r :: rs, r' :: rs' => RowLike r r' ∧ RowsLike rs rs'
  | _, _ => False
theorem RowsLike.get : ∀ {rs rs' : List Row}, RowsLike rs rs' → ∀ k : Nat, (rs[k]? = none ∧ rs'[k]? = none) ∨ ∃ r r', rs[k]? = some r ∧ rs'[k]? = some r' ∧ RowLike r r'
  | [], [], _, k => Or.inl ⟨by simp, by simp⟩
  | r :: rs, r' :: rs', h, k => by
    cases k with
    | zero => exact Or.inr ⟨r, r', rfl, rfl, h.1⟩
    | succ k => simpa using RowsLike.get h.2 k
  | [], _ :: _, h, _ => h.elim
  | _ :: _, [], h, _ => h.elim
theorem sub_like {np : Nat} {sl : List (AV × Chain)} {mem mem' : List Row} (h : RowsLike mem mem') : SubN np ⟨sl, mem⟩ ⟨sl, mem'⟩ := by
  intro A0 R w0 E a hp0 hI
  have lives : ∀ k, liveAt mem' k = liveAt mem k := fun k => by
    unfold liveAt
    rcases h.get k with ⟨h1, h2⟩ | ⟨r, r', h1, h2, h3⟩
    · rw [h1, h2]
    · rw [h1, h2]
      rcases h3 with rfl | ⟨e, sz, n, el, el', rfl, rfl, _⟩ | ⟨l, l', rfl, rfl, _⟩ <;> rfl
  refine ⟨E, rfl, hI.defers, hI.frame, ⟨fun k b c hb => ?_, hI.wd.small, hI.wd.old, fun k b c hb hl => hI.wd.own k b c hb (by rw [← lives]; exact hl), fun k k' b c c' hb hb' hl hl' => hI.wd.one k k' b c c' hb hb' (by rw [← lives]; exact hl) (by rw [← lives]; exact hl'), hI.wd.below, hI.wd.le0⟩⟩
  obtain ⟨row, h1, h2⟩ := hI.wd.rows k b c hb
  rcases h.get k with ⟨g1, _⟩ | ⟨r, r', g1, g2, g3⟩
  · have : mem[k]? = some row := h1
    rw [g1] at this; cases this
  · have : mem[k]? = some row := h1
    rw [g1] at this
    cases this
    refine ⟨r', g2, ?_⟩
    rcases g3 with rfl | ⟨e, sz, n, el, el', rfl, rfl, g4⟩ | ⟨l, l', rfl, rfl, g4⟩
    · exact h2
    · obtain ⟨cs, k1, k2, k3, k4, k5, k6⟩ := h2
      exact ⟨cs, k1, k2, k3, k4, k5, fun i hi => ⟨(g4 i hi).1.trans (k6 i hi).1, (g4 i hi).2 _ _ (k6 i hi).2⟩⟩
    · obtain ⟨cs, e, k1, k2⟩ := h2
      exact ⟨cs, e, k1, g4 _ _ k2⟩
end Go.Gv

namespace Go.Proofs.Ytgijfbcfajhmlaa
open Go.Gv
open Go.Ev (wB wB_pos wB_eq dg dg_lt vl vl_lt vl_dg vl_congr pw_pos nw nw_lt nw_eq mod_next dg_zero)

/-- The cells of a whole number; a polynomial. -/
def wC (x : Int) : List AV := [iA x.sign, wsA x.natAbs]
def pA (n : Nat) (f : Nat → Int) : AV := .sl 2 n fun i => wC (f i)
theorem mixW (b : Bool) (x y : Int) : mixL b (wC x) (wC y) = wC (cond b x y) := by
  unfold wC iA wsA sW uw
  cases b <;> simp only [mixL, mixA, decide_true, cond_true, cond_false, Nat.beq_refl]
/-- How many are left without the noughts at the end. -/
def tl (f : Nat → Int) : Nat → Nat
  | 0 => 0
  | n + 1 => if f n = 0 then tl f n else n + 1
theorem tl_le (f : Nat → Int) : ∀ n, tl f n ≤ n
  | 0 => Nat.le_refl _
  | n + 1 => by
    unfold tl
    split
    · exact Nat.le_trans (tl_le f n) (by omega)
    · exact Nat.le_refl _
theorem tl_zero (f : Nat → Int) : ∀ n i, tl f n ≤ i → i < n → f i = 0
  | 0, i, _, h => by omega
  | n + 1, i, h1, h2 => by
    unfold tl at h1
    by_cases h : f n = 0
    · rw [if_pos h] at h1
      by_cases e : i = n
      · rw [e]; exact h
      · exact tl_zero f n i h1 (by omega)
    · rw [if_neg h] at h1; omega
theorem tl_top (f : Nat → Int) : ∀ n, tl f n ≠ 0 → f (tl f n - 1) ≠ 0
  | 0, h => absurd rfl h
  | n + 1, h => by
    unfold tl at h ⊢
    by_cases h0 : f n = 0
    · rw [if_pos h0] at h ⊢; exact tl_top f n h
    · rw [if_neg h0]; exact h0
/-! ### polyOf -/
def poS (n : Nat) (f : Nat → Int) : St := mkS 22 [(0, pA n f)] []
section
variable (n : Nat) (f : Nat → Int)
def poB : Bool := cond (decide ((n : Int) > 0)) ((f (w64 ((n : Int) - 1)).toNat).sign == 0) false
theorem po_step : evC Try.prog [] [] noL (loopAt Try.f17 0) (poS n f) (finN [0] []) =
    cond (gTr (decide ((n : Int) > 0)) (w64 ((n : Int) - 1)) n) (cond (poB n f) (cond (sbB none (some (w64 ((n : Int) - 1))) none n || false) (some ⟨.normal, mkS 22 [(0, .sl 2 (sbN none (some (w64 ((n : Int) - 1))) n) fun i => wC (f (sbL none + i)))] [], .any⟩) none) none) none := by kernel_rfl
theorem po_end : evC Try.prog [] [] noL (loopAt Try.f17 0) (poS n f) (finE [0] []) =
    cond (gTr (decide ((n : Int) > 0)) (w64 ((n : Int) - 1)) n) (cond (poB n f) (cond (sbB none (some (w64 ((n : Int) - 1))) none n || false) none none) (some ⟨.exit 0, poS n f, .any⟩)) none := by kernel_rfl
theorem po_ev (m : Nat) : ev Try.prog [] [] (oneL 1 (toldF [0] [] (poS n f) (.exit 0) (poS m f))) Try.f17 [pA n f] ret = gate (Sub (poS n f) (poS n f)) (some (Out.of (pA m f))) := by kernel_rfl
end
theorem gTr_t {m n : Nat} (hn : n ≤ 35184372088832) (hm : m ≤ n) : gTr (decide ((m : Int) > 0)) (w64 ((m : Int) - 1)) m = true := by
  unfold gTr
  by_cases h : m = 0
  · subst h; rfl
  · obtain ⟨j, rfl⟩ : ∃ j, m = j + 1 := ⟨m - 1, by omega⟩
    rw [show w64 (((j + 1 : Nat) : Int) - 1) = ((j : Nat) : Int) by rw [w64_id (by omega) (by omega)]; omega, ixB_t (by omega)]
    rfl
theorem po_leads (f : Nat → Int) {N : Nat} (hn : N ≤ 35184372088832) : ∀ n, n ≤ N → Leads Try.prog (.loop (loopAt Try.f17 0)) (poS n f) (.exit 0) (poS (tl f n) f) := fun n hN => by
  have hle := tl_le f n
  have key : Leads Try.prog (.loop (loopAt Try.f17 0)) (poS (n - 0) f) (.exit 0) (poS (tl f n) f) := by
    refine loop_rule (fun j => poS (n - j) f) (n - tl f n) (.exit 0) _ (by simp) (fun j hj => ?_) ?_
    · obtain ⟨m, hm⟩ : ∃ m, n - j = m + 1 := ⟨n - j - 1, by omega⟩
      have e1 : n - (j + 1) = m := by omega
      rw [hm, e1]
      have ew : w64 (((m + 1 : Nat) : Int) - 1) = ((m : Nat) : Int) := by rw [w64_id (by omega) (by omega)]; omega
      have hz : f m = 0 := tl_zero f n m (by omega) (by omega)
      have st := po_step (m + 1) f
      have hb : poB (m + 1) f = true := by
        unfold poB
        rw [decide_eq_true (show ((m + 1 : Nat) : Int) > 0 by omega), ew, Int.toNat_natCast, hz]
        rfl
      have s1 : sbB none (some ((m : Nat) : Int)) none (m + 1) = true := by
        unfold sbB
        simp only [Option.getD_some, Option.getD_none]
        rw [decide_eq_true (Int.le_refl _), decide_eq_true (show (0 : Int) ≤ ((m : Nat) : Int) by omega), decide_eq_true (show ((m : Nat) : Int) ≤ ((m + 1 : Nat) : Int) by omega), decide_eq_true (Int.le_refl _)]
        rfl
      have s2 : sbN none (some ((m : Nat) : Int)) (m + 1) = m := by
        unfold sbN
        simp only [Option.getD_some, Option.getD_none]
        omega
      have s3 : (fun i => wC (f (sbL none + i))) = fun i => wC (f i) := funext fun i => by
        show wC (f (0 + i)) = _
        rw [Nat.zero_add]
      rw [gTr_t hn (by omega), hb, ew, s1, s2, s3] at st
      exact leads_ev (finN_sub [0] []) e_nil k_nil noL_ok st
    · rw [show n - (n - tl f n) = tl f n by omega]
      refine leads_ev (finE_sub [0] []) e_nil k_nil noL_ok ((po_end (tl f n) f).trans ?_)
      have hb : poB (tl f n) f = false := by
        unfold poB
        by_cases h : tl f n = 0
        · rw [h]; rfl
        · have := tl_top f n h
          rw [decide_eq_true (show ((tl f n : Nat) : Int) > 0 by omega), show w64 ((tl f n : Int) - 1) = ((tl f n - 1 : Nat) : Int) by rw [w64_id (by omega) (by omega)]; omega, Int.toNat_natCast, cond_true]
          exact beq_false_of_ne fun h => this (Int.sign_eq_zero_iff_zero.1 h)
      rw [gTr_t hn (show tl f n ≤ N by omega), hb]
      rfl
  exact key
theorem po_spec (f : Nat → Int) {n : Nat} (hn : n ≤ 35184372088832) : FSpec Try.prog 17 [pA n f] (pA (tl f n) f) := by
  refine gspec e_nil k_nil Try.func17 (by kernel_rfl) (by kernel_rfl) (lok_at 0 1 (by kernel_rfl) (by kernel_rfl) (toldF_sound (po_leads f hn n (Nat.le_refl _)))) rfl ((po_ev n f (tl f n)).trans ?_)
  rw [gate_pos (Sub.refl _)]
/-! ### wholes -/
def sJ (n : Nat) (u : Nat → Int) : AV := .sl 1 n fun i => [iA (u i)]
def wz : List AV := [iA 0, .x (.slice none 0 0)]
def whS (n : Nat) (u : Nat → Int) (i : Int) (Y : Nat → List AV) : St := mkS 23 [(0, sJ n u), (3, .osl 0 2 0 n), (9, sJ n u), (10, iA (n : Nat)), (11, iA i)] [.a 68 2 n Y]
def keepWh : List Nat := [0, 3, 9, 10, 11]
def mk32 (n : Int) : Bool := decide (0 ≤ n) && (decide (n ≤ n) && decide (((32 : Nat) : Int) * n ≤ 281474976710656))
def decI : AV → Int
  | .x (.int _ z) => z
  | _ => 0
def woG (l : List AV) : AV := wA (decI (a0 l))
section
variable (n : Nat) (u : Nat → Int) (i : Int) (y : Nat → Int)
noncomputable def whT (x z : Option Out) : Option Out := cond (decide (i < (n : Int))) (cond (ixB i n || false) (gate (FSpec Try.prog 38 [iA (u i.toNat)] (wA (u i.toNat))) (cond (ixB i n || false) (cond (stU i.toNat n) x none) none)) none) z
theorem wh_step : evC Try.prog [] [kS Try.prog 38 woG] noL (loopAt Try.f18 0) (whS n u i fun q => wC (y q)) (finN keepWh [some 0]) = whT n u i (some ⟨.normal, whS n u (w64 (i + 1)) fun q => mixL (q == 0 + i.toNat) (wC (u i.toNat)) (wC (y q)), .any⟩) none := by kernel_rfl
theorem wh_end : evC Try.prog [] [kS Try.prog 38 woG] noL (loopAt Try.f18 0) (whS n u i fun q => wC (y q)) (finE keepWh [some 0]) = whT n u i none (some ⟨.exit 0, whS n u i fun q => wC (y q), .any⟩) := by kernel_rfl
theorem wh_ev : ev Try.prog [] [⟨38, fun _ _ => none⟩] (oneL 3 (toldF keepWh [some 0] (whS n u 0 fun _ => wC 0) (.exit 0) (whS n u (n : Nat) fun q => wC (y q)))) Try.f18 [sJ n u] ret =
    cond (mk32 (n : Nat) || false) (gate (Sub (whS n u 0 fun _ => wz) (whS n u 0 fun _ => wC 0)) (some (Out.of (.sl 2 n fun j => wC (y (0 + j)))))) none := by kernel_rfl
end
end Go.Proofs.Ytgijfbcfajhmlaa

namespace Go.Proofs.Ytgijfbcfajhmlaa
open Go.Gv

theorem wz_like : (wC 0).length = wz.length ∧ ∀ (E : Env) (cs : List Value), pre E wz cs → pre E (wC 0) cs := ⟨rfl, fun E cs h => by
  obtain ⟨u0, t0, e0, r0, h⟩ := pre_cons.1 h
  obtain ⟨u1, t1, e1, r1, h⟩ := pre_cons.1 h
  exact pre_cons.2 ⟨u0, t0, e0, r0, pre_cons.2 ⟨u1, t1, e1, nil_like r1, h⟩⟩⟩
theorem wz_sub {sl : List (AV × Chain)} {e : TypeId} {n : Nat} : Sub ⟨sl, [.a e 2 n fun _ => wz]⟩ ⟨sl, [.a e 2 n fun _ => wC 0]⟩ :=
  sub_like ⟨Or.inr (Or.inl ⟨e, 2, n, _, _, rfl, rfl, fun _ _ => wz_like⟩), trivial⟩
theorem mk32_t {n : Nat} (h : n ≤ 8796093022208) : mk32 (n : Nat) = true := by
  unfold mk32
  rw [decide_eq_true (show (0 : Int) ≤ (n : Int) by omega), decide_eq_true (Int.le_refl _), decide_eq_true (show ((32 : Nat) : Int) * (n : Int) ≤ 281474976710656 by omega)]
  rfl
def upTo (z : Nat → Int) (i q : Nat) : Int := if q < i then z q else 0
theorem upTo_next (z : Nat → Int) (i q : Nat) : (cond (q == 0 + i) (z i) (upTo z i q)) = upTo z (i + 1) q := by
  unfold upTo
  rw [Nat.zero_add]
  by_cases h : q = i
  · subst h; rw [BEq.rfl, cond_true, if_pos (Nat.lt_succ_self q)]
  · rw [beq_false_of_ne h]
    by_cases h2 : q < i
    · rw [if_pos h2, if_pos (by omega)]; rfl
    · rw [if_neg h2, if_neg (by omega)]; rfl
theorem upTo_zero (z : Nat → Int) : (fun q => wC (upTo z 0 q)) = fun _ => wC 0 := funext fun q => by unfold upTo; rw [if_neg (by omega)]
theorem wh_leads {n : Nat} {u : Nat → Int} (hn : n ≤ 8796093022208) (hu : ∀ i, i < n → -9223372036854775808 ≤ u i ∧ u i ≤ 9223372036854775807) : Leads Try.prog (.loop (loopAt Try.f18 0)) (whS n u 0 fun _ => wC 0) (.exit 0) (whS n u (n : Nat) fun q => wC (upTo u n q)) := by
  have key : Leads Try.prog (.loop (loopAt Try.f18 0)) (whS n u ((0 : Nat) : Int) fun q => wC (upTo u 0 q)) (.exit 0) (whS n u (n : Nat) fun q => wC (upTo u n q)) := by
    refine loop_rule (fun i => whS n u (i : Nat) fun q => wC (upTo u i q)) n (.exit 0) _ (by simp) (fun i hi => ?_) ?_
    · have st := wh_step n u (i : Nat) (upTo u i)
      unfold whT at st
      rw [dec_lt hi, ixB_t hi, Int.toNat_natCast, gate_pos (wo_spec (hu i hi).1 (hu i hi).2), stU_t hi, w64_next (by omega)] at st
      refine (leads_ev (finN_sub _ _) e_nil (k_cons kS_ok k_nil) noL_ok st).sub (Sub.refl _) ?_
      refine sub_same ⟨Or.inr ⟨68, 2, n, _, _, rfl, rfl, fun q hq => ?_⟩, trivial⟩
      rw [mixW, upTo_next]
    · refine leads_ev (finE_sub _ _) e_nil (k_cons kS_ok k_nil) noL_ok ((wh_end n u (n : Nat) (upTo u n)).trans ?_)
      unfold whT
      rw [dec_self, cond_false]
  rw [upTo_zero] at key
  exact key
theorem wh_spec {n : Nat} {u : Nat → Int} (hn : n ≤ 8796093022208) (hu : ∀ i, i < n → -9223372036854775808 ≤ u i ∧ u i ≤ 9223372036854775807) : FSpec Try.prog 18 [sJ n u] (pA n u) := by
  refine FSpec.of_res (r := .sl 2 n fun j => wC (upTo u n (0 + j))) (gspec e_nil (k_cons (kno_ok _) k_nil) Try.func18 (by kernel_rfl) (by kernel_rfl) (lok_at (i := 3) 0 1 (by kernel_rfl) (by kernel_rfl) (toldF_sound (keep := keepWh) (τ := [some 0]) (wh_leads hn hu))) rfl ((wh_ev n u (upTo u n)).trans ?_)) fun E v h => sl_like h fun i hi => ?_
  · rw [mk32_t hn, gate_pos (show Sub (whS n u 0 fun _ => wz) (whS n u 0 fun _ => wC 0) from wz_sub)]
    rfl
  · show wC (u i) = wC (upTo u n (0 + i))
    unfold upTo
    rw [Nat.zero_add, if_pos hi]
/-! ### plus -/
def ppS (n : Nat) (f : Nat → Int) (m : Nat) (g : Nat → Int) (N : Nat) (i : Int) (Y : Nat → List AV) : St := mkS 42 [(0, pA n f), (1, pA m g), (5, .osl 0 2 0 N), (18, pA n f), (19, iA (n : Nat)), (20, iA i)] [.a 68 2 N Y]
def keepPp : List Nat := [0, 1, 5, 18, 19, 20]
def plG (l : List AV) : AV := wA (decW (a0 l) + decW (a1 l))
def tiG (l : List AV) : AV := wA (decW (a0 l) * decW (a1 l))
section
variable (n : Nat) (f : Nat → Int) (m : Nat) (g : Nat → Int) (N : Nat) (i : Int) (y : Nat → Int)
def ppV : Int := decW (wA (f i.toNat)) + decW (wA (g i.toNat))
noncomputable def ppT (x1 x2 z : Option Out) : Option Out := cond (decide (i < (n : Int))) (cond (ixB i n || false) (cond (decide (i < (m : Int))) (gate (FSpec Try.prog 46 [wA (f i.toNat), wA (g i.toNat)] (wA (ppV f g i))) (cond ((ixB i m || false) && true) (cond (ixB i N || false) (cond (stU i.toNat N) x1 none) none) none)) (cond (ixB i N || false) (cond (stU i.toNat N) x2 none) none)) none) z
def ppN (v : Int) : Option Out := some ⟨.normal, ppS n f m g N (w64 (i + 1)) fun q => mixL (q == 0 + i.toNat) (wC v) (wC (y q)), .any⟩
theorem pp_step : evC Try.prog [] [kS Try.prog 46 plG] noL (loopAt Try.f44 0) (ppS n f m g N i fun q => wC (y q)) (finN keepPp [some 0]) = ppT n f m g N i (ppN n f m g N i y (ppV f g i)) (ppN n f m g N i y (f i.toNat)) none := by kernel_rfl
theorem pp_end : evC Try.prog [] [kS Try.prog 46 plG] noL (loopAt Try.f44 0) (ppS n f m g N i fun q => wC (y q)) (finE keepPp [some 0]) = ppT n f m g N i none none (some ⟨.exit 0, ppS n f m g N i fun q => wC (y q), .any⟩) := by kernel_rfl
variable (k : Nat)
noncomputable def ppTail : Option Out := cond (fz1 n) (gate (FSpec Try.prog 17 [.sl 2 n fun q => wC (y q)] (pA k y)) (some (Out.of (pA k y)))) none
noncomputable def ppH (n0 : Nat) (f0 : Nat → Int) (m0 : Nat) (g0 : Nat → Int) (x : Option Out) : Option Out := cond (mk32 (n : Nat) || false) (gate (Sub (ppS n f m g n 0 fun _ => wz) (ppS n0 f0 m0 g0 n0 0 fun _ => wC 0)) x) none
theorem pp_ev (n0 : Nat) (f0 : Nat → Int) (m0 : Nat) (g0 : Nat → Int) : evZ Try.prog [] [kS Try.prog 17 (fun _ => pA k y), ⟨46, fun _ _ => none⟩] [] (oneL 5 (toldF keepPp [some 0] (ppS n0 f0 m0 g0 n0 0 fun _ => wC 0) (.exit 0) (ppS n0 f0 m0 g0 n0 (n0 : Nat) fun q => wC (y q)))) (oneZ 11 (frzK 0)) Try.f44 [pA n f, pA m g] ret =
    cond (decide ((n : Int) < (m : Int))) (ppH m g n f n0 f0 m0 g0 (ppTail n0 y k)) (ppH n f m g n0 f0 m0 g0 (ppTail n0 y k)) := by kernel_rfl
end
end Go.Proofs.Ytgijfbcfajhmlaa

namespace Go.Proofs.Ytgijfbcfajhmlaa
open Go.Gv

/-- Nothing beyond the n-th. -/
def Cn (n : Nat) (f : Nat → Int) : Prop := ∀ i, n ≤ i → f i = 0
theorem Cn.upTo {n : Nat} {f : Nat → Int} (h : Cn n f) : upTo f n = f := funext fun q => by
  unfold Proofs.Ytgijfbcfajhmlaa.upTo
  by_cases hq : q < n
  · rw [if_pos hq]
  · rw [if_neg hq, h q (by omega)]
theorem tl_Cn {n : Nat} {f : Nat → Int} (h : Cn n f) : Cn (tl f n) f := fun i hi => by
  by_cases hn : i < n
  · exact tl_zero f n i hi hn
  · exact h i (by omega)
theorem tl_congr {f g : Nat → Int} : ∀ {n : Nat}, (∀ i, i < n → f i = g i) → tl f n = tl g n
  | 0, _ => rfl
  | n + 1, h => by unfold tl; rw [h n (by omega), tl_congr fun i hi => h i (by omega)]
theorem tl_more {f : Nat → Int} {n : Nat} (h : Cn n f) : ∀ k, tl f (n + k) = tl f n
  | 0 => rfl
  | k + 1 => by
    show (if f (n + k) = 0 then tl f (n + k) else n + k + 1) = _
    rw [if_pos (h (n + k) (by omega)), tl_more h k]
def padd (f g : Nat → Int) (q : Nat) : Int := f q + g q
theorem padd_comm (f g : Nat → Int) : padd f g = padd g f := funext fun _ => Int.add_comm _ _
theorem pp_leads {n m : Nat} {f g : Nat → Int} (hnm : m ≤ n) (hn : n ≤ 8796093022208) (hf : Cn n f) (hg : Cn m g) (sf : ∀ i, Sm (f i)) (sg : ∀ i, Sm (g i)) : Leads Try.prog (.loop (loopAt Try.f44 0)) (ppS n f m g n 0 fun _ => wC 0) (.exit 0) (ppS n f m g n (n : Nat) fun q => wC (padd f g q)) := by
  have hc : Cn n (padd f g) := fun i hi => by unfold padd; rw [hf i hi, hg i (by omega)]; rfl
  have key : Leads Try.prog (.loop (loopAt Try.f44 0)) (ppS n f m g n ((0 : Nat) : Int) fun q => wC (upTo (padd f g) 0 q)) (.exit 0) (ppS n f m g n (n : Nat) fun q => wC (upTo (padd f g) n q)) := by
    refine loop_rule (fun i => ppS n f m g n (i : Nat) fun q => wC (upTo (padd f g) i q)) n (.exit 0) _ (by simp) (fun i hi => ?_) ?_
    · have st := pp_step n f m g n (i : Nat) (upTo (padd f g) i)
      have ev : ppV f g (i : Nat) = padd f g i := by unfold ppV padd; rw [decW_w, decW_w]; rfl
      have go : ppT n f m g n (i : Nat) (ppN n f m g n (i : Nat) (upTo (padd f g) i) (ppV f g (i : Nat))) (ppN n f m g n (i : Nat) (upTo (padd f g) i) (f ((i : Nat) : Int).toNat)) none = ppN n f m g n (i : Nat) (upTo (padd f g) i) (padd f g i) := by
        unfold ppT
        rw [dec_lt hi, ixB_t hi, Int.toNat_natCast, stU_t hi, ev]
        by_cases hm : i < m
        · rw [dec_lt hm, ixB_t hm, gate_pos (show FSpec Try.prog 46 [wA (f i), wA (g i)] (wA (padd f g i)) from pl_spec (sf i) (sg i))]
          rfl
        · rw [decide_eq_false (show ¬ ((i : Nat) : Int) < ((m : Nat) : Int) by omega), show f i = padd f g i by unfold padd; rw [hg i (by omega), Int.add_zero]]
          rfl
      rw [go] at st
      unfold ppN at st
      rw [Int.toNat_natCast, w64_next (by omega)] at st
      refine (leads_ev (finN_sub _ _) e_nil (k_cons kS_ok k_nil) noL_ok st).sub (Sub.refl _) ?_
      refine sub_same ⟨Or.inr ⟨68, 2, n, _, _, rfl, rfl, fun q hq => ?_⟩, trivial⟩
      rw [mixW, upTo_next]
    · refine leads_ev (finE_sub _ _) e_nil (k_cons kS_ok k_nil) noL_ok ((pp_end n f m g n (n : Nat) (upTo (padd f g) n)).trans ?_)
      unfold ppT
      rw [dec_self, cond_false]
  rw [upTo_zero, hc.upTo] at key
  exact key
theorem pp_go {n m n0 m0 : Nat} {f g f0 g0 : Nat → Int} (hnm : m0 ≤ n0) (hn : n0 ≤ 8796093022208) (hf : Cn n0 f0) (hg : Cn m0 g0) (sf : ∀ i, Sm (f0 i)) (sg : ∀ i, Sm (g0 i))
    (h : (n < m ∧ n0 = m ∧ f0 = g ∧ m0 = n ∧ g0 = f) ∨ (¬ n < m ∧ n0 = n ∧ f0 = f ∧ m0 = m ∧ g0 = g)) : FSpec Try.prog 44 [pA n f, pA m g] (pA (tl (padd f0 g0) n0) (padd f0 g0)) := by
  have hL := lok_at (c := bodyOf Try.f44) (i := 5) 0 1 (by kernel_rfl) (by kernel_rfl) (toldF_sound (keep := keepPp) (τ := [some 0]) (pp_leads hnm hn hf hg sf sg))
  refine gspecZ (oneZ_ok (frzK_ok 0)) e_nil (k_cons kS_ok (k_cons (kno_ok _) k_nil)) m_nil Try.func44 (by kernel_rfl) (by kernel_rfl) hL rfl ((pp_ev n f m g (padd f0 g0) (tl (padd f0 g0) n0) n0 f0 m0 g0).trans ?_)
  have ht : ppTail n0 (padd f0 g0) (tl (padd f0 g0) n0) = some (Out.of (pA (tl (padd f0 g0) n0) (padd f0 g0))) := by
    unfold ppTail
    rw [fz1_t, gate_pos (show FSpec Try.prog 17 [.sl 2 n0 fun q => wC (padd f0 g0 q)] _ from po_spec (padd f0 g0) (by omega))]
    rfl
  have hs : ∀ (a : Nat) (u : Nat → Int) (b : Nat) (v : Nat → Int), Sub (ppS a u b v a 0 fun _ => wz) (ppS a u b v a 0 fun _ => wC 0) := fun a u b v => wz_sub
  rcases h with ⟨h, rfl, rfl, rfl, rfl⟩ | ⟨h, rfl, rfl, rfl, rfl⟩
  · rw [dec_lt h, ht]
    unfold ppH
    rw [mk32_t hn, gate_pos (hs _ _ _ _)]
    rfl
  · rw [decide_eq_false (show ¬ ((n0 : Nat) : Int) < ((m0 : Nat) : Int) by omega), ht]
    unfold ppH
    rw [mk32_t hn, gate_pos (hs _ _ _ _)]
    rfl
theorem pp_spec {n m : Nat} {f g : Nat → Int} (hn : n ≤ 8796093022208) (hm : m ≤ 8796093022208) (hf : Cn n f) (hg : Cn m g) (sf : ∀ i, Sm (f i)) (sg : ∀ i, Sm (g i)) : FSpec Try.prog 44 [pA n f, pA m g] (pA (tl (padd f g) (max n m)) (padd f g)) := by
  by_cases h : n < m
  · have := pp_go (n := n) (m := m) (f := f) (g := g) (Nat.le_of_lt h) hm hg hf sg sf (Or.inl ⟨h, rfl, rfl, rfl, rfl⟩)
    rw [Nat.max_eq_right (Nat.le_of_lt h), padd_comm f g]
    exact this
  · have := pp_go (n := n) (m := m) (f := f) (g := g) (by omega) hn hf hg sf sg (Or.inr ⟨h, rfl, rfl, rfl, rfl⟩)
    rw [Nat.max_eq_left (by omega)]
    exact this
end Go.Proofs.Ytgijfbcfajhmlaa

namespace Go.Proofs.Ytgijfbcfajhmlaa
open Go.Gv

/-! ### signAt -/
def saS (n : Nat) (f : Nat → Int) (x : Int) (i : Int) (c : List AV) : St := mkS 24 [(0, pA n f), (3, .own 0 0), (5, .own 1 0), (6, iA i)] [.c (wC x), .c c]
def keepSa : List Nat := [0, 3, 5, 6]
section
variable (n : Nat) (f : Nat → Int) (x v i : Int)
def saV1 : Int := decW (wA v) * decW (wA x)
def saV2 : Int := decW (wA (saV1 x v)) + decW (wA (f i.toNat))
noncomputable def saT (y z : Option Out) : Option Out := cond (decide (i ≥ 0)) (gate (FSpec Try.prog 45 [wA v, wA x] (wA (saV1 x v))) (gate (FSpec Try.prog 46 [wA (saV1 x v), wA (f i.toNat)] (wA (saV2 f x v i))) (cond ((ixB i n || false) && true) y none))) z
theorem sa_step : evC Try.prog [] [kS Try.prog 45 tiG, kS Try.prog 46 plG] noL (loopAt Try.f63 0) (saS n f x i (wC v)) (finN keepSa [some 0, some 1]) = saT n f x v i (some ⟨.normal, saS n f x (w64 (i - 1)) (wC (saV2 f x v i)), .any⟩) none := by kernel_rfl
theorem sa_end : evC Try.prog [] [kS Try.prog 45 tiG, kS Try.prog 46 plG] noL (loopAt Try.f63 0) (saS n f x i (wC v)) (finE keepSa [some 0, some 1]) = saT n f x v i none (some ⟨.exit 0, saS n f x i (wC v), .any⟩) := by kernel_rfl
theorem sa_ev (j : Int) : ev Try.prog [] [⟨45, fun _ _ => none⟩] (oneL 3 (toldF keepSa [some 0, some 1] (saS n f x i (wC 0)) (.exit 0) (saS n f x j (wC v)))) Try.f63 [pA n f, wA x] ret =
    gate (Sub (saS n f x (w64 ((n : Int) - 1)) wz) (saS n f x i (wC 0))) (some (Out.of (iA v.sign))) := by kernel_rfl
end
/-! ### slope -/
def slS (n : Nat) (f : Nat → Int) (i : Int) (m : Nat) (Y : Nat → List AV) : St := mkS 24 [(3, .osl 0 2 0 m), (6, pA n f), (7, iA (n : Nat)), (8, iA i)] [.a 68 2 m Y]
def keepSl : List Nat := [3, 6, 7, 8]
section
variable (n : Nat) (f : Nat → Int) (i : Int) (m : Nat) (y : Nat → Int)
def slV : Int := decW (wA (f i.toNat)) * decW (wA i)
theorem sl_step0 : evC Try.prog [] [kS Try.prog 45 tiG, kS Try.prog 38 woG] noL (loopAt Try.f52 0) (slS n f 0 m fun q => wC (y q)) (finN keepSl [some 0]) = cond (decide ((0 : Int) < (n : Int))) (cond (ixB 0 n || false) (some ⟨.normal, slS n f 1 m fun q => wC (y q), .any⟩) none) none := by kernel_rfl
noncomputable def slT (a z : Option Out) : Option Out := cond (decide (i < (n : Int))) (cond (ixB i n || false) (cond (decide (i > 0)) (gate (FSpec Try.prog 38 [iA i] (wA i)) (gate (FSpec Try.prog 45 [wA (f i.toNat), wA i] (wA (slV f i))) (cond ((apB m 32 || false) && true) a none))) none) none) z
theorem sl_step : evC Try.prog [] [kS Try.prog 45 tiG, kS Try.prog 38 woG] noL (loopAt Try.f52 0) (slS n f i m fun q => wC (y q)) (finN keepSl [some 3]) = slT n f i m (some ⟨.normal, slS n f (w64 (i + 1)) (m + 1) fun q => mixL (Nat.blt q m) (wC (y q)) (wC (slV f i)), .any⟩) none := by kernel_rfl
theorem sl_end : evC Try.prog [] [kS Try.prog 45 tiG, kS Try.prog 38 woG] noL (loopAt Try.f52 0) (slS n f i m fun q => wC (y q)) (finE keepSl [some 0]) = slT n f i m none (some ⟨.exit 0, slS n f i m fun q => wC (y q), .any⟩) := by kernel_rfl
theorem sl_ev (n' : Int) : ev Try.prog [] [⟨45, fun _ _ => none⟩] (oneL 3 (toldN keepSl [(3, 0, 2)] (.a 68 2 0 fun q => wC (y q)) [none] (slS n f 0 0 fun q => wC (y q)) (.exit 0) (slS n f n' m fun q => wC (y q)))) Try.f52 [pA n f] ret =
    gate (Sub (slS n f 0 0 fun q => wC (y q)) (slS n f 0 0 fun q => wC (y q))) (some (Out.of (.sl 2 m fun j => wC (y (0 + j))))) := by kernel_rfl
end
end Go.Proofs.Ytgijfbcfajhmlaa
