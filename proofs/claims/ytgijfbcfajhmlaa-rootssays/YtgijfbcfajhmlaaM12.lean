/-
  Tc6 Rdaa Arg0, one behind the other.
-/
import Derived.Test.YtgijfbcfajhmlaaM11
import Derived.Test.YtgijfbcfajhmlaaM1
namespace Go.Proofs.Ytgijfbcfajhmlaa
open Go.Gv

/-- The polynomial that is asked about. -/
def cQ (n : Nat) (p : Nat → Int) (k : Nat) : Int := if k < n then pk (p k) 2001 - 1000 else 0
def tfH : TF := fun n q x => (hor (pfin q n) x 0 n).sign
section
variable {n : Nat} {p : Nat → Int} (hb : ∀ i, i < n → (Lit.int .i64 (p i)).wf = true)
theorem cQ_Cn (n : Nat) (p : Nat → Int) : Cn n (cQ n p) := fun i hi => by unfold cQ; rw [if_neg (by omega)]
include hb in
theorem cQ_bd (k : Nat) : (cQ n p k).natAbs ≤ 1000 := by
  unfold cQ
  by_cases h : k < n
  · rw [if_pos h]
    have := pk_rng 2001 (hb k h) (by decide)
    omega
  · rw [if_neg h]; decide
include hb in
theorem tcA_leads (hn : n ≤ 5) (lo sp at' : Int) : Leads Try.prog (.loop (loopAt Try.f6 0)) (tcA n p lo sp at' 0 0 fun k => [iA (cQ n p k)]) (.exit 0) (tcA n p lo sp at' (n : Nat) n fun k => [iA (cQ n p k)]) := by
  refine loop_rule (fun i => tcA n p lo sp at' (i : Nat) i fun k => [iA (cQ n p k)]) n (.exit 0) _ (by simp) (fun i hi => ?_) ?_
  · have st := tcA_step n p lo sp at' (i : Nat) i (fun k => [iA (cQ n p k)]) pk
    have hr := pk_rng 2001 (hb i hi) (by decide)
    have e : tcQ p (i : Nat) pk = cQ n p i := by
      unfold tcQ cQ
      rw [if_pos hi, Int.toNat_natCast, w64_id (by omega) (by omega)]
    rw [dec_lt hi, ixB_t hi, apB_t (by omega), e, w64_next (by omega)] at st
    refine (leads_ev (finN_sub _ _) e_nil (k_cons kPick_ok k_nil) noL_ok st).sub (Sub.refl _) ?_
    exact sub_same ⟨Or.inr ⟨3, 1, i + 1, _, _, rfl, rfl, fun q hq => (app_i' hq rfl).symm ▸ rfl⟩, trivial⟩
  · refine leads_ev (finE_sub _ _) e_nil (k_cons kPick_ok k_nil) noL_ok ((tcA_end n p lo sp at' (n : Nat) n _ pk).trans ?_)
    rw [dec_self, cond_false]
end
theorem tcB_leads {n : Nat} {q : Nat → Int} {lo sp at' : Int} {L : List Int} (h : CertOk L lo (lo + sp)) (hl : lo.natAbs ≤ 10000) (hs : sp.natAbs ≤ 10000) (hL : L.length ≤ 1000000) : Leads Try.prog (.loop (loopAt Try.f6 1)) (tcB n q lo sp at' L.length (fun k => L.getD k 0) 0) (.exit 2) (tcB n q lo sp at' L.length (fun k => L.getD k 0) (L.length : Nat)) := by
  refine loop_rule (fun i => tcB n q lo sp at' L.length (fun k => L.getD k 0) (i : Nat)) L.length (.exit 2) _ (by simp) (fun i hi => ?_) ?_
  · have st := tcB_step n q lo sp at' L.length (fun k => L.getD k 0) (i : Nat)
    obtain ⟨r1, r2⟩ := h.at hi
    have t1 : tb1 lo (fun k => L.getD k 0) (i : Nat) = false := by unfold tb1; rw [Int.toNat_natCast]; exact decide_eq_false (show ¬ L.getD i 0 < lo by omega)
    have t2 : tb2 lo sp (fun k => L.getD k 0) (i : Nat) = false := by
      unfold tb2
      rw [t1, cond_false, Int.toNat_natCast, w64_id (by omega) (by omega)]
      exact decide_eq_false (show ¬ L.getD i 0 > lo + sp by omega)
    have t3 : tb3 lo sp (fun k => L.getD k 0) (i : Nat) = false ∧ tbC lo sp L.length (fun k => L.getD k 0) (i : Nat) = true := by
      unfold tb3 tbC
      rw [t1, t2, ixB_t hi]
      cases i with
      | zero => exact ⟨rfl, rfl⟩
      | succ i =>
        have ew : w64 (((i + 1 : Nat) : Int) - 1) = ((i : Nat) : Int) := by rw [w64_id (by omega) (by omega)]; omega
        have hs := h.step hi
        rw [ew, ixB_t (show i < L.length by omega), Int.toNat_natCast, Int.toNat_natCast]
        refine ⟨?_, rfl⟩
        show cond false true (cond _ (decide (L.getD (i + 1) 0 < L.getD i 0)) false) = false
        rw [decide_eq_false (show ¬ L.getD (i + 1) 0 < L.getD i 0 by omega)]
        cases decide (((i + 1 : Nat) : Int) > 0) <;> rfl
    rw [dec_lt hi, t3.2, t3.1, w64_next (by omega)] at st
    exact leads_ev (finN_sub _ _) e_nil k_nil noL_ok st
  · refine leads_ev (finE_sub _ _) e_nil k_nil noL_ok ((tcB_end n q lo sp at' L.length _ (L.length : Nat)).trans ?_)
    rw [dec_self, cond_false]
theorem tdX_t {i m : Nat} (h : i < m) (A : Nat → Int) (x : Int) : tdX (i : Nat) m A x = true := by unfold tdX; rw [ixB_t h]; rfl
theorem tcD_leads {n : Nat} {q : Nat → Int} {m : Nat} {A : Nat → Int} {x : Int} (hm : m ≤ 1000000) (h : ∀ i, i < m → tdC (i : Nat) A x = false) : Leads Try.prog (.loop (loopAt Try.f6 2)) (tcD n q m A x 0) (.exit 4) (tcD n q m A x (m : Nat)) := by
  refine loop_rule (fun i => tcD n q m A x (i : Nat)) m (.exit 4) _ (by simp) (fun i hi => ?_) ?_
  · have st := tcD_step n q (i : Nat) m A x
    rw [dec_lt hi, ixB_t hi, tdX_t hi, h i hi, w64_next (by omega)] at st
    exact leads_ev (finN_sub _ _) e_nil k_nil noL_ok st
  · refine leads_ev (finE_sub _ _) e_nil k_nil noL_ok ((tcD_end n q (m : Nat) m A x).trans ?_)
    rw [dec_self, cond_false]
theorem tcD_leadsR {n : Nat} {q : Nat → Int} {m : Nat} {A : Nat → Int} {x : Int} (hm : m ≤ 1000000) {K : Nat} (hK : K < m) (hk : tdC (K : Nat) A x = true) (h : ∀ i, i < K → tdC (i : Nat) A x = false) : Leads Try.prog (.loop (loopAt Try.f6 2)) (tcD n q m A x 0) .ret tcR := by
  refine loop_rule (fun i => tcD n q m A x (i : Nat)) K .ret _ (by simp) (fun i hi => ?_) ?_
  · have st := tcD_step n q (i : Nat) m A x
    rw [dec_lt (show i < m by omega), ixB_t (show i < m by omega), tdX_t (show i < m by omega), h i hi, w64_next (by omega)] at st
    exact leads_ev (finN_sub _ _) e_nil k_nil noL_ok st
  · refine leads_ev (finR_sub _ _) e_nil k_nil noL_ok ((tcD_ret n q (K : Nat) m A x).trans ?_)
    rw [dec_lt hK, ixB_t hK, tdX_t hK, hk]
    rfl
/-- All numbers behind the first are nought. -/
def zq (q : Nat → Int) : Nat → Bool
  | 0 => true
  | d + 1 => cond (zq q d) (q (1 + d) == 0) false
theorem zq_iff {q : Nat → Int} {d : Nat} : zq q d = true ↔ ∀ i, i < d → q (1 + i) = 0 := by
  induction d with
  | zero => exact ⟨fun _ i hi => absurd hi (Nat.not_lt_zero i), fun _ => rfl⟩
  | succ d ih =>
    show cond (zq q d) (q (1 + d) == 0) false = true ↔ _
    cases h : zq q d with
    | false =>
      refine ⟨fun h => (by cases h), fun g => ?_⟩
      have := ih.2 fun i hi => g i (by omega)
      rw [h] at this; cases this
    | true =>
      have h0 := ih.1 h
      constructor
      · intro g i hi
        by_cases e : i = d
        · subst e; exact eq_of_beq g
        · exact h0 i (by omega)
      · intro g
        show (q (1 + d) == 0) = true
        rw [g d (by omega)]
        rfl
theorem tcE_leads {n : Nat} {q : Nat → Int} {s t : Int} (hn : 1 ≤ n) (hn2 : n ≤ 1000) : Leads Try.prog (.loop (loopAt Try.f6 3)) (tcE n q s t true 1) (.exit 6) (tcE n q s t (zq q (n - 1)) (n : Nat)) := by
  have key : Leads Try.prog (.loop (loopAt Try.f6 3)) (tcE n q s t (zq q 0) ((1 + 0 : Nat) : Int)) (.exit 6) (tcE n q s t (zq q (n - 1)) ((1 + (n - 1) : Nat) : Int)) := by
    refine loop_rule (fun d => tcE n q s t (zq q d) ((1 + d : Nat) : Int)) (n - 1) (.exit 6) _ (by simp) (fun d hd => ?_) ?_
    · have st := tcE_step n q ((1 + d : Nat) : Int) s t (zq q d)
      rw [dec_lt (show 1 + d < n by omega), ixB_t (show 1 + d < n by omega), Int.toNat_natCast, w64_next (by omega)] at st
      exact leads_ev (finN_sub _ _) e_nil k_nil noL_ok st
    · refine leads_ev (finE_sub _ _) e_nil k_nil noL_ok ((tcE_end n q ((1 + (n - 1) : Nat) : Int) s t _).trans ?_)
      rw [show 1 + (n - 1) = n by omega, dec_self, cond_false]
  rw [show 1 + (n - 1) = n by omega] at key
  exact key
/-! ### The first question -/
def rs0 (j : Nat) : Int := if j = 0 then 1 else -1
theorem sl3_prd : elI sl3 = prd 1 rs0 2 := funext fun k => by
  match k with
  | 0 => rfl
  | 1 => rfl
  | 2 => rfl
  | k + 3 =>
    rw [prd_Cn 1 rs0 2 (k + 3) (by omega)]
    show hdI (chunk [iA (-1), iA 0, iA 1] 1 (k + 3)) = 0
    unfold chunk
    rw [List.drop_eq_nil_of_le (by show 3 ≤ (k + 3) * 1; omega)]
    rfl
theorem tO1_eq : tO1 rtOut = ([-65536, 65536], 0) := by
  unfold tO1
  rw [sl3_prd]
  have h := rt_prd (c := 1) (by decide) (by decide) (rs := rs0) (n := 2) (by decide) (fun j hj => by unfold rs0; split <;> decide) (lo := -1) (hi := 1) (by decide) (by decide)
  rw [show (65536 : Int) * -1 = -65536 from rfl, show (65536 : Int) * 1 = 65536 from rfl] at h
  rw [h]
  rfl
theorem r1_spec : FSpec Try.prog 7 [sl3, iA (-65536), iA 65536] (rtA (tO1 rtOut)) := by
  have h := roots_spec (n := 3) (p := elI sl3) (lo := -65536) (hi := 65536) (by decide) (by rw [sl3_prd]; exact prd_Cn 1 rs0 2)
  refine FSpec.of_args h fun E vs hr => ?_
  obtain ⟨u0, t0, e0, r0, hr⟩ := rels_cons.1 hr
  refine rels_cons.2 ⟨u0, t0, e0, ?_, hr⟩
  refine sl_like (el := chunk [iA (-1), iA 0, iA 1] 1) r0 fun i hi => ?_
  match i, hi with
  | 0, _ => rfl
  | 1, _ => rfl
  | 2, _ => rfl
theorem tcHead_eq (x : Option Out) : tcHead rtOut x = x := by
  unfold tcHead
  rw [fz1_t, cond_true, gate_pos r1_spec]
  have e1 : tc1 rtOut = false := by unfold tc1; rw [tO1_eq]; rfl
  have e2 : tc2 rtOut = false := by unfold tc2 tn1; rw [e1, tO1_eq]; rfl
  have e3 : tc3 rtOut = false := by unfold tc3 tl1; rw [e2, tO1_eq]; rfl
  have e4 : tc4 rtOut = false := by unfold tc4 tl1; rw [e3, tO1_eq]; rfl
  have en : tn1 rtOut = 2 := by unfold tn1; rw [tO1_eq]; rfl
  rw [e4, en]
  rfl
theorem can_len {N : Int → Int} (mono : ∀ x y, x ≤ y → N y ≤ N x) : ∀ (d : Nat) (a : Int), ((can N a d).length : Int) = N a - N (a + (d : Nat))
  | 0, a => by show ((0 : Nat) : Int) = N a - N (a + ((0 : Nat) : Int)); rw [show a + ((0 : Nat) : Int) = a by omega]; omega
  | d + 1, a => by
    have ih := can_len mono d (a + 1)
    have m := mono a (a + 1) (by omega)
    show ((List.replicate (N a - N (a + 1)).toNat a ++ can N (a + 1) d).length : Int) = _
    rw [List.length_append, List.length_replicate, show a + ((d + 1 : Nat) : Int) = a + 1 + (d : Nat) by omega]
    omega
theorem plcP_len {p : Ply} (h2 : 2 ≤ p.1) (h5 : p.1 ≤ 5) (hc : Cn p.1 p.2) (ht : Tp p) {lo hi : Int} (hlh : lo ≤ hi) : (plcP p lo hi).length ≤ 10 := by
  have h := can_len (N := rtN (finP p)) (fun x y hxy => rt_mono (P := finP p) h2 (fin_Cn hc) (fin_Tp ht) hxy) (hi - lo).toNat lo
  have hk := chN'_le (finP p) (show 0 < p.1 by omega)
  have hk2 : (finP p).1 = p.1 := rfl
  have b : ∀ a, 0 ≤ rtN (finP p) a ∧ rtN (finP p) a ≤ 5 := fun a => by
    have := cgC_le (fun q => sgSd (-1) (cq (finP p) q) a) (chN' (finP p) + 1)
    unfold rtN Nsd
    omega
  have b1 := b lo
  have b2 := b (lo + ((hi - lo).toNat : Nat))
  rw [plcP_can h2 hc ht hlh, List.length_append]
  split
  · show _ + 1 ≤ 10; omega
  · show _ + 0 ≤ 10; omega
theorem topCertain_law {n : Nat} {p : Nat → Int} {lo sp at' : Int} (hb : ∀ i, i < n → (Lit.int .i64 (p i)).wf = true) (hlo : (Lit.int .i64 lo).wf = true) (hsp : (Lit.int .i64 sp).wf = true) (hat : (Lit.int .i64 at').wf = true) : FSpec Try.prog 6 [sJ n p, iA lo, iA sp, iA at'] (bA true) := by
  have ks : ∀ e, e ∈ tcK rtOut tfH pk → KOk Try.prog e := k_cons kPick_ok (k_cons kS_ok (k_cons kS_ok k_nil))
  have hZ : ∀ j g, twoZ 1001 (frzK 0) 13 (frzK 0) j = some g → ZSoundN 0 g := twoZ_ok (frzK_ok 0) (frzK_ok 0)
  by_cases hn : 1 ≤ n ∧ n ≤ 5
  · have q1 := pk_rng 4000 hlo (by decide)
    have q2 := pk_rng 3000 hsp (by decide)
    have eL : tcLo pk lo = pk lo 4000 - 2000 := by unfold tcLo; rw [w64_id (by omega) (by omega)]
    have eS : tcSp pk sp = 1 + pk sp 3000 := by unfold tcSp; rw [w64_id (by omega) (by omega)]
    have eH : tcHi pk lo sp = tcLo pk lo + tcSp pk sp := by unfold tcHi; rw [w64_id (by omega) (by omega)]
    have q3 := pk_rng (tcSp pk sp) hat (by omega)
    have eX : tcX pk lo sp at' = tcLo pk lo + pk at' (tcSp pk sp) := by unfold tcX; rw [w64_id (by omega) (by omega)]
    have hbd := cQ_bd hb
    have hCn := cQ_Cn n p
    have hO : tO2 rtOut pk n lo sp (cQ n p) = (rtL n (cQ n p) (tcLo pk lo) (tcHi pk lo sp), 0) := by
      unfold tO2 rtOut
      have hmb : mbI n (cQ n p) = true := allI_t fun i _ => by
        have := hbd i
        unfold mbB
        rw [decide_eq_false (by omega), decide_eq_false (by omega)]
        rfl
      have hms : msI (tcLo pk lo) (tcHi pk lo sp) = true := by
        unfold msI
        rw [decide_eq_true (by omega), decide_eq_true (by omega)]
        rfl
      have hB : rtB n (cQ n p) (tcLo pk lo) (tcHi pk lo sp) = false := by unfold rtB; rw [hmb, hms]; rfl
      rw [decide_eq_false (show ¬ ((n : Int) > 5) by omega), hB]
      rfl
    have hR : FSpec Try.prog 7 [sJ n (cQ n p), iA (tcLo pk lo), iA (tcHi pk lo sp)] (rtA (tO2 rtOut pk n lo sp (cQ n p))) := roots_spec (by omega) hCn
    have hTp : Tp (rtP n (cQ n p)) := by
      by_cases g : tl (cQ n p) n = 0
      · exact Or.inl g
      · exact Or.inr (tl_top _ n g)
    have hpl : tl (cQ n p) n < 2 ∧ rtL n (cQ n p) (tcLo pk lo) (tcHi pk lo sp) = [] ∨ 2 ≤ tl (cQ n p) n ∧ rtL n (cQ n p) (tcLo pk lo) (tcHi pk lo sp) = plcP (rtP n (cQ n p)) (tcLo pk lo) (tcHi pk lo sp) := by
      unfold rtL plB
      by_cases g : tl (cQ n p) n < 2
      · rw [decide_eq_true (show ((tl (cQ n p) n : Nat) : Int) < 2 by omega)]
        exact Or.inl ⟨g, rfl⟩
      · rw [decide_eq_false (show ¬ ((tl (cQ n p) n : Nat) : Int) < 2 by omega), decide_eq_false (show ¬ tcLo pk lo > tcHi pk lo sp by omega)]
        exact Or.inr ⟨by omega, rfl⟩
    have hlh : tcLo pk lo ≤ tcHi pk lo sp := by omega
    have hCO : CertOk (rtL n (cQ n p) (tcLo pk lo) (tcHi pk lo sp)) (tcLo pk lo) (tcHi pk lo sp) := by
      rcases hpl with ⟨_, e⟩ | ⟨g, e⟩ <;> rw [e]
      · exact ⟨fun y hy => (by cases hy), List.Pairwise.nil⟩
      · exact plcP_ok (p := rtP n (cQ n p)) g (tl_Cn hCn) hTp hlh
    have hlen : (rtL n (cQ n p) (tcLo pk lo) (tcHi pk lo sp)).length ≤ 10 := by
      have hle := tl_le (cQ n p) n
      rcases hpl with ⟨_, e⟩ | ⟨g, e⟩ <;> rw [e]
      · exact Nat.zero_le _
      · exact plcP_len (p := rtP n (cQ n p)) g (show tl (cQ n p) n ≤ 5 by omega) (tl_Cn hCn) hTp hlh
    have hM : tcM2 rtOut pk n lo sp (cQ n p) = (rtL n (cQ n p) (tcLo pk lo) (tcHi pk lo sp)).length := by unfold tcM2; rw [hO]
    have hA : tcA2 rtOut pk n lo sp (cQ n p) = fun k => (rtL n (cQ n p) (tcLo pk lo) (tcHi pk lo sp)).getD k 0 := by unfold tcA2; rw [hO]
    have lA := tcA_leads hb hn.2 lo sp at'
    have hCO' : CertOk (rtL n (cQ n p) (tcLo pk lo) (tcHi pk lo sp)) (tcLo pk lo) (tcLo pk lo + tcSp pk sp) := by rw [← eH]; exact hCO
    have lB := tcB_leads (n := n) (q := cQ n p) (lo := tcLo pk lo) (sp := tcSp pk sp) (at' := at') (L := rtL n (cQ n p) (tcLo pk lo) (tcHi pk lo sp)) hCO' (by omega) (by omega) (by omega)
    rw [← hM, ← hA] at lB
    have mid : ∀ x : Option Out, tcMid rtOut pk n p lo sp at' (cQ n p) x = x := fun x => by
      unfold tcMid
      rw [tcHead_eq, decide_eq_false (show ¬ (n : Int) < 1 by omega), decide_eq_false (show ¬ (n : Int) > 5 by omega), gate_pos (Sub.refl _), fz1_t, gate_pos hR, hO, beq_false_of_ne (show tcSp pk sp ≠ 0 by omega), gate_pos (Sub.refl _), gate_pos (Sub.refl _)]
      rfl
    have e1 : w64 (tcX pk lo sp at' + 1) = tcX pk lo sp at' + 1 := w64_id (by omega) (by omega)
    rcases all_or_first (fun i => !(tdC (i : Nat) (tcA2 rtOut pk n lo sp (cQ n p)) (tcX pk lo sp at'))) (tcM2 rtOut pk n lo sp (cQ n p)) with hall | ⟨K, hK, hk, hq⟩
    · have hall' : ∀ i, i < tcM2 rtOut pk n lo sp (cQ n p) → tdC (i : Nat) (tcA2 rtOut pk n lo sp (cQ n p)) (tcX pk lo sp at') = false := fun i hi => by simpa using hall i hi
      have lD := tcD_leads (n := n) (q := cQ n p) (m := tcM2 rtOut pk n lo sp (cQ n p)) (A := tcA2 rtOut pk n lo sp (cQ n p)) (x := tcX pk lo sp at') (by omega) hall'
      have lE := tcE_leads (n := n) (q := cQ n p) (s := tS tfH pk n lo sp at' (cQ n p)) (t := tT tfH pk n lo sp at' (cQ n p)) hn.1 (by omega)
      have lB' : Leads Try.prog (.loop (loopAt Try.f6 1)) (tcB n (cQ n p) (tcLo pk lo) (tcSp pk sp) at' (tcM2 rtOut pk n lo sp (cQ n p)) (tcA2 rtOut pk n lo sp (cQ n p)) 0) (.exit 2) (tcB n (cQ n p) (tcLo pk lo) (tcSp pk sp) at' (tcM2 rtOut pk n lo sp (cQ n p)) (tcA2 rtOut pk n lo sp (cQ n p)) ((tcM2 rtOut pk n lo sp (cQ n p) : Nat) : Int)) := lB
      have hL : LOk Try.prog (lsL [(8, l1 n p lo sp at' (cQ n p)), (17, l2 rtOut pk n lo sp at' (cQ n p) ((tcM2 rtOut pk n lo sp (cQ n p) : Nat) : Int)), (23, l3e rtOut pk n lo sp at' (cQ n p) ((tcM2 rtOut pk n lo sp (cQ n p) : Nat) : Int)), (31, l4 tfH pk n lo sp at' (cQ n p) (n : Nat) (zq (cQ n p) (n - 1)))]) (bodyOf Try.f6) :=
        lok_cons (lok_at (i := 8) 0 4 (by kernel_rfl) (by kernel_rfl) (toldN_sound lA)) (lok_cons (lok_at (i := 17) 1 4 (by kernel_rfl) (by kernel_rfl) (toldF_sound lB')) (lok_cons (lok_at (i := 23) 2 4 (by kernel_rfl) (by kernel_rfl) (toldF_sound lD)) (lok_cons (lok_at (i := 31) 3 4 (by kernel_rfl) (by kernel_rfl) (toldF_sound lE)) lok_nil)))
      refine gspecZ hZ e_nil ks m_nil Try.func6 (by kernel_rfl) (by kernel_rfl) hL rfl ((tc_evE rtOut tfH pk n p lo sp at' (cQ n p) _ _ _).trans ?_)
      rw [mid]
      unfold tcTail
      have hi64 : ∀ i, i < n → I64 (cQ n p i) := fun i _ => by have := hbd i; exact ⟨by omega, by omega⟩
      have s1 : FSpec Try.prog 13 [sJ n (cQ n p), iA (tcX pk lo sp at')] (iA (tS tfH pk n lo sp at' (cQ n p))) := a6_spec (by omega) hi64 ⟨by omega, by omega⟩
      have s2 : FSpec Try.prog 13 [sJ n (cQ n p), iA (w64 (tcX pk lo sp at' + 1))] (iA (tT tfH pk n lo sp at' (cQ n p))) := a6_spec (by omega) hi64 (by rw [e1]; exact ⟨by omega, by omega⟩)
      rw [gate_pos s1, gate_pos s2, gate_pos (Sub.refl _)]
      cases hz : zq (cQ n p) (n - 1) with
      | true => rfl
      | false =>
        have hge : 2 ≤ tl (cQ n p) n := by
          refine Decidable.byContradiction fun hlt => ?_
          have : zq (cQ n p) (n - 1) = true := zq_iff.2 fun i hi => tl_zero (cQ n p) n (1 + i) (by omega) (by omega)
          rw [hz] at this; cases this
        have hLe : rtL n (cQ n p) (tcLo pk lo) (tcHi pk lo sp) = plcP (rtP n (cQ n p)) (tcLo pk lo) (tcHi pk lo sp) := by
          rcases hpl with ⟨g, _⟩ | ⟨_, e⟩
          · omega
          · exact e
        have out : ∀ y, (y = tcX pk lo sp at' ∨ y = tcX pk lo sp at' + 1) → y ∉ plcP (rtP n (cQ n p)) (tcLo pk lo) (tcHi pk lo sp) := fun y hy hmem => by
          rw [← hLe] at hmem
          obtain ⟨i, hi, ei⟩ := mem_getD hmem
          have := hall' i (by rw [hM]; exact hi)
          unfold tdC at this
          rw [Int.toNat_natCast, hA, e1] at this
          replace this : cond ((rtL n (cQ n p) (tcLo pk lo) (tcHi pk lo sp)).getD i 0 == tcX pk lo sp at') true ((rtL n (cQ n p) (tcLo pk lo) (tcHi pk lo sp)).getD i 0 == tcX pk lo sp at' + 1) = false := this
          rw [ei] at this
          rcases hy with rfl | rfl
          · rw [BEq.rfl] at this; cases this
          · rw [BEq.rfl] at this
            cases hh : (tcX pk lo sp at' + 1 == tcX pk lo sp at') <;> rw [hh] at this <;> cases this
        obtain ⟨z1, z2, z3⟩ := plcP_none (p := rtP n (cQ n p)) hge (tl_Cn hCn) hTp hlh (x := tcX pk lo sp at') (by omega) (by omega) (out _ (Or.inl rfl)) (out _ (Or.inr rfl))
        have hle := tl_le (cQ n p) n
        have f1 : tS tfH pk n lo sp at' (cQ n p) = (hor (finP (rtP n (cQ n p))).2 (tcX pk lo sp at') 0 (finP (rtP n (cQ n p))).1).sign := sign_longer (tl_Cn hCn) hle _
        have f2 : tT tfH pk n lo sp at' (cQ n p) = (hor (finP (rtP n (cQ n p))).2 (tcX pk lo sp at' + 1) 0 (finP (rtP n (cQ n p))).1).sign := by
          unfold tT; rw [e1]; exact sign_longer (tl_Cn hCn) hle _
        rw [f1, f2, ← z3, BEq.rfl, beq_false_of_ne (fun e => z1 (Int.sign_eq_zero_iff_zero.1 e))]
        rfl
    · have lD := tcD_leadsR (n := n) (q := cQ n p) (m := tcM2 rtOut pk n lo sp (cQ n p)) (A := tcA2 rtOut pk n lo sp (cQ n p)) (x := tcX pk lo sp at') (by omega) hK (by simpa using hk) fun i hi => by simpa using hq i hi
      have lB' : Leads Try.prog (.loop (loopAt Try.f6 1)) (tcB n (cQ n p) (tcLo pk lo) (tcSp pk sp) at' (tcM2 rtOut pk n lo sp (cQ n p)) (tcA2 rtOut pk n lo sp (cQ n p)) 0) (.exit 2) (tcB n (cQ n p) (tcLo pk lo) (tcSp pk sp) at' (tcM2 rtOut pk n lo sp (cQ n p)) (tcA2 rtOut pk n lo sp (cQ n p)) ((tcM2 rtOut pk n lo sp (cQ n p) : Nat) : Int)) := lB
      have hL : LOk Try.prog (lsL [(8, l1 n p lo sp at' (cQ n p)), (17, l2 rtOut pk n lo sp at' (cQ n p) ((tcM2 rtOut pk n lo sp (cQ n p) : Nat) : Int)), (23, l3r rtOut pk n lo sp at' (cQ n p))]) (bodyOf Try.f6) :=
        lok_cons (lok_at (i := 8) 0 4 (by kernel_rfl) (by kernel_rfl) (toldN_sound lA)) (lok_cons (lok_at (i := 17) 1 4 (by kernel_rfl) (by kernel_rfl) (toldF_sound lB')) (lok_cons (lok_at (i := 23) 2 4 (by kernel_rfl) (by kernel_rfl) (toldF_sound lD)) lok_nil))
      refine gspecZ hZ e_nil ks m_nil Try.func6 (by kernel_rfl) (by kernel_rfl) hL rfl ((tc_evR rtOut tfH pk n p lo sp at' (cQ n p) _).trans ?_)
      rw [mid]
  · refine gspecZ hZ e_nil ks m_nil Try.func6 (by kernel_rfl) (by kernel_rfl) (lok_cons (lok_none 8) lok_nil) rfl ((tc_ev0 rtOut tfH pk n p lo sp at').trans ?_)
    rw [tcHead_eq]
    have : cond (decide ((n : Int) < 1)) true (decide ((n : Int) > 5)) = true := by
      by_cases g : (n : Int) < 1
      · rw [decide_eq_true g]; rfl
      · rw [decide_eq_false g, decide_eq_true (show (n : Int) > 5 by omega)]; rfl
    rw [this]
    rfl
end Go.Proofs.Ytgijfbcfajhmlaa

namespace Go.Proofs.Ytgijfbcfajhmlaa
open Go.Gv

section
variable (n : Nat) (f : Nat → Int) (lo hi : Int) (L : List Int) (e : Int)
theorem rs_ev : ev Try.prog [] [kS Try.prog 7 (fun _ => rtA (L, e)), kS Try.prog 8 (fun _ => rtA (L, e)), kS Try.prog 9 (fun _ => bA true)] noL Try.f3 [sJ n f, iA lo, iA hi] ret =
    cond (decide ((n : Int) > 8)) (some (Out.of (bA true))) (gate (FSpec Try.prog 7 [sJ n f, iA lo, iA hi] (rtA (L, e))) (gate (FSpec Try.prog 8 [sJ n f, iA lo, iA hi] (rtA (L, e))) (gate (FSpec Try.prog 9 [lsJ L, lsJ L] (bA true)) (some (Out.of (bA (cond (e == e) true false))))))) := by kernel_rfl
end
def cnI (n : Nat) (f : Nat → Int) (i : Nat) : Int := if i < n then f i else 0
theorem cnI_lt {n : Nat} {f : Nat → Int} {i : Nat} (h : i < n) : cnI n f i = f i := by unfold cnI; rw [if_pos h]
theorem cnI_Cn (n : Nat) (f : Nat → Int) : Cn n (cnI n f) := fun i hi => by unfold cnI; rw [if_neg (by omega)]
theorem wf_I64 {x : Int} (h : (Lit.int .i64 x).wf = true) : I64 x := by
  simp [Lit.wf, IntKind.min, IntKind.max, IntKind.signed, IntKind.bits] at h
  exact ⟨by omega, by omega⟩
theorem rtL_len {n : Nat} {f : Nat → Int} {lo hi : Int} (hn : n ≤ 5) (hc : Cn n f) : (rtL n f lo hi).length ≤ 10 := by
  unfold rtL
  cases hB : plB (tl f n) lo hi
  · have g : 2 ≤ tl f n ∧ lo ≤ hi := by
      unfold plB at hB
      by_cases g : ((tl f n : Nat) : Int) < 2
      · rw [decide_eq_true g] at hB; cases hB
      · rw [decide_eq_false g, cond_false] at hB
        have := of_decide_eq_false hB
        omega
    have hle := tl_le f n
    refine plcP_len (p := rtP n f) g.1 (show tl f n ≤ 5 by omega) (tl_Cn hc) ?_ g.2
    by_cases g : tl f n = 0
    · exact Or.inl g
    · exact Or.inr (tl_top f n g)
  · exact Nat.zero_le _
theorem rtOut_len {n : Nat} {f : Nat → Int} {lo hi : Int} (hc : Cn n f) : (rtOut n f lo hi).1.length ≤ 10 := by
  unfold rtOut
  by_cases h5 : (n : Int) > 5
  · rw [decide_eq_true h5]; exact Nat.zero_le _
  · rw [decide_eq_false h5, cond_false]
    cases rtB n f lo hi
    · exact rtL_len (by omega) hc
    · exact Nat.zero_le _
theorem rootsSays_law {n : Nat} {f : Nat → Int} {lo hi : Int} (hb : ∀ i, i < n → (Lit.int .i64 (f i)).wf = true) : FSpec Try.prog 3 [sJ n f, iA lo, iA hi] (bA true) := by
  have key : FSpec Try.prog 3 [sJ n (cnI n f), iA lo, iA hi] (bA true) := by
    refine gspec e_nil (k_cons kS_ok (k_cons kS_ok (k_cons kS_ok k_nil))) Try.func3 (by kernel_rfl) (by kernel_rfl) noL_ok rfl ((rs_ev n (cnI n f) lo hi (rtOut n (cnI n f) lo hi).1 (rtOut n (cnI n f) lo hi).2).trans ?_)
    by_cases h8 : (n : Int) > 8
    · rw [decide_eq_true h8]
      rfl
    · rw [decide_eq_false h8, cond_false]
      have hc := cnI_Cn n f
      have h1 : FSpec Try.prog 7 [sJ n (cnI n f), iA lo, iA hi] (rtA ((rtOut n (cnI n f) lo hi).1, (rtOut n (cnI n f) lo hi).2)) := roots_spec (by omega) hc
      have h2 : FSpec Try.prog 8 [sJ n (cnI n f), iA lo, iA hi] (rtA ((rtOut n (cnI n f) lo hi).1, (rtOut n (cnI n f) lo hi).2)) := rrO_spec (fun i hi => by rw [cnI_lt hi]; exact wf_I64 (hb i hi)) hc
      have hl := rtOut_len (lo := lo) (hi := hi) hc
      rw [gate_pos h1, gate_pos h2, gate_pos (same_ints (by omega)), BEq.rfl]
      rfl
  refine FSpec.of_args key fun E vs h => ?_
  obtain ⟨v, ws, rfl, h1, h2⟩ := rels_cons.1 h
  exact rels_cons.2 ⟨v, ws, rfl, sl_like h1 fun i hi => by rw [cnI_lt hi], h2⟩
end Go.Proofs.Ytgijfbcfajhmlaa

namespace Go.Proofs.Ytgijfbcfajhmlaa
open Go.Gv Go.RowKit Go.ChangeShapes Go.WideShapes Go.ChangeAt

def rsl (n : Nat) (hs : Nat → Int) : AV := .sl 1 n fun i => [iA (hs i)]
theorem open_num {H : Type} {enc : TypeId × Value → H} {P : Program} {w : World} {r : Reach} {b0 : Nat} {t : TypeId} {v : Value} {d : DataW H} {p : List MemPlace} {k : IntKind} (hu : P.underlying t = some (.int k)) (hk : kds P 1 t = some [.i k]) (hv : Value.okWide P w r b0 t v)
    (h : DataW.Trod enc P w 0 (fun _ => true) true t v d p) : ∃ n, rel (Env.all w) (.x (.int k n)) v ∧ (Lit.int k n).wf = true := by
  have hone : v.cells = #[v] := by
    obtain ⟨n, rfl, _⟩ := okWide_int hu hv
    rfl
  obtain ⟨fuel, hf⟩ := h
  obtain ⟨a, h1, h2⟩ := open_arg hf hk hone
  rw [fitA] at h1
  obtain ⟨n, rfl, hw⟩ := h1
  exact ⟨n, h2, hw⟩
def numOf (el : Nat → List AV) (i : Nat) : Int := match el i with
  | [.x (.int .i64 h)] => h
  | _ => 0
theorem sl_same {E : Env} {sz n : Nat} {el el' : Nat → List AV} {v : Value} (h : rel E (.sl sz n el) v) (he : ∀ i, i < n → el' i = el i) : rel E (.sl sz n el') v := by
  have h : relA _ _ _ := h
  show relA _ _ _
  rw [relA] at h ⊢
  obtain ⟨a, c, h1, h2, h3⟩ := h
  refine ⟨a, c, h1, h2, ?_⟩
  rcases h3 with h3 | ⟨b, o, cs, e, fz, h4, h5, h6, h7⟩
  · exact Or.inl h3
  · exact Or.inr ⟨b, o, cs, e, fz, h4, h5, h6, fun i hi => by rw [he i hi]; exact h7 i hi⟩
theorem fitL_single {k : Kd} {zs : List AV} (h : fitL [k] zs) : ∃ a, zs = [a] ∧ fitA k a := by
  match zs, h with
  | [a], h => exact ⟨a, rfl, (fitL_cons.1 h).1⟩
  | [], h => have := fitL_length h; simp at this
  | _ :: _ :: _, h => have := fitL_length h; simp at this
/-- A row of whole numbers that came in: as many, each a number of 64 bits. -/
theorem open_raw {H : Type} {enc : TypeId × Value → H} {P : Program} {w : World} {r : Reach} {b0 : Nat} {t e : TypeId} {v : Value} {d : DataW H} {p : List MemPlace} (hu : P.underlying t = some (.slice e)) (hk : kds P 2 t = some [.l 1 [.i .i64]]) (hv : Value.okWide P w r b0 t v)
    (h : DataW.Trod enc P w 0 (fun _ => true) true t v d p) : ∃ n hs, rel (Env.all w) (rsl n hs) v ∧ ∀ i, i < n → (Lit.int .i64 (hs i)).wf = true := by
  have hone : v.cells = #[v] := by
    obtain ⟨a, len, cap, rfl⟩ := okWide_slice hu hv
    rfl
  obtain ⟨fuel, hf⟩ := h
  obtain ⟨a, h1, h2⟩ := open_arg hf hk hone
  rw [fitA] at h1
  obtain ⟨n, el, rfl, _, hel⟩ := h1
  have key : ∀ i, i < n → el i = [iA (numOf el i)] ∧ (Lit.int .i64 (numOf el i)).wf = true := fun i hi => by
    obtain ⟨a, ha, hf⟩ := fitL_single (hel i hi)
    rw [fitA] at hf
    obtain ⟨m, rfl, hw⟩ := hf
    have e : numOf el i = m := by unfold numOf; rw [ha]
    rw [e]
    exact ⟨ha, hw⟩
  exact ⟨n, numOf el, sl_same h2 fun i hi => (key i hi).1.symm, fun i hi => (key i hi).2⟩
end Go.Proofs.Ytgijfbcfajhmlaa
