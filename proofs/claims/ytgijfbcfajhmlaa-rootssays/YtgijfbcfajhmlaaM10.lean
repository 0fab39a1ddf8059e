/-
  Rc8 Rc9 Rd1a Rd2a Rd3a Sm7 Rd4a Rd5a Rd6a Rd7a, one behind the other.
-/
import Derived.Test.YtgijfbcfajhmlaaM9
import Derived.Test.YtgijfbcfajhmlaaM8
namespace Go.Proofs.Ytgijfbcfajhmlaa
open Go.Gv
open Go.Em (wB wB_pos wB_eq nw nw_lt nw_le nw_zero)

def decP : AV → BP
  | .sl _ n el => (n, fun i => decC (el i))
  | _ => (0, fun _ => (false, 0))
theorem decP_bp (p : BP) : decP (bpP p) = p := by
  show (p.1, fun i => decC (bgc (p.2 i))) = p
  rw [show (fun i => decC (bgc (p.2 i))) = p.2 from funext fun i => decB_b (p.2 i)]
def byF : BF' := fun l => bBy (decP (a0 l)) (decB (a1 l))
def adF : BF' := fun l => bAdd (decP (a0 l)) (decP (a1 l))
def muF : BF' := fun l => bMul (decP (a0 l)) (decP (a1 l))
theorem byF_eq (p : BP) (k : Bg) : byF [bpP p, bgA k] = bBy p k := by show bBy (decP (bpP p)) (decB (bgA k)) = _; rw [decP_bp, decB_b]
theorem adF_eq (p q : BP) : adF [bpP p, bpP q] = bAdd p q := by show bAdd (decP (bpP p)) (decP (bpP q)) = _; rw [decP_bp, decP_bp]
theorem muF_eq (p q : BP) : muF [bpP p, bpP q] = bMul p q := by show bMul (decP (bpP p)) (decP (bpP q)) = _; rw [decP_bp, decP_bp]
theorem byS {p : BP} {k : Bg} {B : Nat} (hn : p.1 ≤ 1000) (hB : B ≤ 100000000000) (h : PBP p B) (hk : nw k.2 ≤ B) : FSpec Try.prog 30 [bpP p, bgA k] (bpP (bBy p k)) := pb_spec hn hB h hk
theorem adS' {p q : BP} {B : Nat} (hn : p.1 ≤ 1000) (hm : q.1 ≤ 1000) (hB : B ≤ 100000000000) (h : PBP p B) (g : PBP q B) : FSpec Try.prog 26 [bpP p, bpP q] (bpP (bAdd p q)) := pa_spec hn hm hB h g
theorem muS {p q : BP} {B : Nat} (hn : p.1 ≤ 1000) (hm : q.1 ≤ 1000) (hB : B ≤ 100000000000) (h : PBP p B) (g : PBP q B) : FSpec Try.prog 24 [bpP p, bpP q] (bpP (bMul p q)) := pm_spec hn hm hB h g
theorem slS' {p : BP} {B : Nat} (hn : p.1 ≤ 1000) (hB : B ≤ 100000000000) (h : PBP p B) : FSpec Try.prog 57 [bpP p] (bpP (bSl p)) := ps_spec hn hB h
section
variable {a b : BP} {M : Nat} (hb : 1 ≤ b.1) (ha5 : a.1 ≤ 5) (hb5 : b.1 ≤ 5) (hM : M ≤ 1000000000) (pa : PBP a M) (pb : PBP b M)
include hb ha5 hb5 hM pa pb
theorem dv_leads : Leads Try.prog (.loop (loopAt Try.f58 0)) (pdS a b (b.2 (b.1 - 1)) (bpP q0)) (.exit 0) (pdS (dvP a b).1 b (b.2 (b.1 - 1)) (bpP (dvP a b).2)) := by
  have hZ : ∀ j g, twoZ 9 (zlike 3) 10 (frzK 3) j = some g → ZSoundN 0 g := twoZ_ok (zlike_ok 3) (frzK_ok 3)
  have ks : ∀ e, e ∈ divK byF adF muF → KOk Try.prog e := k_cons kS_ok (k_cons kS_ok (k_cons kS_ok (k_cons kS_ok (k_cons kS_ok k_nil))))
  have hld : nw (b.2 (b.1 - 1)).2 ≤ M := pb (b.1 - 1) (by omega)
  have i1 : I64 (-1) := ⟨by decide, by decide⟩
  have n1 := nw_of i1
  refine loop_rule (fun k => pdS (dits b (b.2 (b.1 - 1)) (a, q0) k).1 b (b.2 (b.1 - 1)) (bpP (dits b (b.2 (b.1 - 1)) (a, q0) k).2)) (dvN a b) (.exit 0) _ (by simp) (fun k hk => ?_) ?_
  · obtain ⟨h1, h2, h3, h4⟩ := dv_inv hb ha5 hb5 hM pa pb k (by omega)
    have hge := (dcn_ok hb a.1 (a, q0) (Nat.le_refl _)).1 k hk
    have hn5 := dvN_le hb ha5 hb5 hM pa pb
    have hK : k * (M + 10) ≤ 5 * (M + 10) := Nat.mul_le_mul_right _ (by omega)
    show Leads _ _ _ _ (pdS (dst b (b.2 (b.1 - 1)) (dits b (b.2 (b.1 - 1)) (a, q0) k)).1 b (b.2 (b.1 - 1)) (bpP (dst b (b.2 (b.1 - 1)) (dits b (b.2 (b.1 - 1)) (a, q0) k)).2))
    generalize hs : dits b (b.2 (b.1 - 1)) (a, q0) k = s at *
    generalize k * (M + 10) = K at *
    have hc : nw (dC s.1 (b.2 (b.1 - 1))).2 ≤ M + K := by
      have := h3 (s.1.1 - 1) (by omega)
      unfold dC
      split
      · exact this
      · exact this
    have eN : pdN s.1 b = ((s.1.1 - b.1 + 1 : Nat) : Int) := by
      unfold pdN
      rw [w64_id (n := (s.1.1 : Int) - (b.1 : Int)) (by omega) (by omega), w64_id (by omega) (by omega)]
      omega
    have eX : pdX s.1 b = ((s.1.1 - b.1 : Nat) : Int) := by
      unfold pdX
      rw [eN, Int.toNat_natCast, w64_id (by omega) (by omega)]
      omega
    have eC : pdC s.1 = s.1.2 (s.1.1 - 1) := by
      unfold pdC
      rw [show w64 ((s.1.1 : Int) - 1) = ((s.1.1 - 1 : Nat) : Int) by rw [w64_id (by omega) (by omega)]; omega, Int.toNat_natCast]
    have eT : ∀ c, tmA s.1 b c = bpP (tmP (s.1.1 - b.1 + 1) c) := fun c => by
      unfold tmA
      rw [eN, eX, Int.toNat_natCast, Int.toNat_natCast]
      show AV.sl 2 _ _ = AV.sl 2 _ _
      congr 1
      refine funext fun q => ?_
      rw [mixBg, Nat.zero_add]
      show bgc _ = bgc (cond (q == s.1.1 - b.1 + 1 - 1) c (false, 0))
      rw [Nat.add_sub_cancel]
    have body : ∀ (c : Bg) (y : Option Out), c = dC s.1 (b.2 (b.1 - 1)) → pdB byF adF muF s.1 b (b.2 (b.1 - 1)) s.2 c y = y := fun c y hcc => by
      subst hcc
      have t1 : PBP (dTm s.1 b (b.2 (b.1 - 1))) (M + K) := pb_tm hc
      have lt1 : (dTm s.1 b (b.2 (b.1 - 1))).1 ≤ 5 := by show s.1.1 - b.1 + 1 ≤ 5; omega
      have l1 := len_by s.2 (false, (b.2 (b.1 - 1)).2)
      have l2 := len_by s.1 (false, (b.2 (b.1 - 1)).2)
      have l3 := len_mul (dTm s.1 b (b.2 (b.1 - 1))) b
      have l4 := len_by (bMul (dTm s.1 b (b.2 (b.1 - 1))) b) (bOf (-1))
      have g1 := pb_by (k := (false, (b.2 (b.1 - 1)).2)) h3 hld
      have g2 := pb_mul t1 pb
      have g3 := pb_by (k := bOf (-1)) g2 n1
      have g4 := pb_by (k := (false, (b.2 (b.1 - 1)).2)) h4 hld
      have s1 := byS (p := s.2) (k := (false, (b.2 (b.1 - 1)).2)) (B := 10000000000) (by omega) (by omega) (h4.le (by omega)) (by show nw (b.2 (b.1 - 1)).2 ≤ _; omega)
      have s2 := adS' (p := bBy s.2 (false, (b.2 (b.1 - 1)).2)) (q := dTm s.1 b (b.2 (b.1 - 1))) (B := 10000000000) (by omega) (by omega) (by omega) (g4.le (by omega)) (t1.le (by omega))
      have s3 := muS (p := dTm s.1 b (b.2 (b.1 - 1))) (q := b) (B := 10000000000) (by omega) (by omega) (by omega) (t1.le (by omega)) (pb.le (by omega))
      have s4 := byS (p := s.1) (k := (false, (b.2 (b.1 - 1)).2)) (B := 10000000000) (by omega) (by omega) (h3.le (by omega)) (by show nw (b.2 (b.1 - 1)).2 ≤ _; omega)
      have s5 := byS (p := bMul (dTm s.1 b (b.2 (b.1 - 1))) b) (k := bOf (-1)) (B := 10000000000) (by omega) (by omega) (g2.le (by omega)) (by omega)
      have s6 := adS' (p := bBy s.1 (false, (b.2 (b.1 - 1)).2)) (q := bBy (bMul (dTm s.1 b (b.2 (b.1 - 1))) b) (bOf (-1))) (B := 10000000000) (by omega) (by omega) (by omega) (g1.le (by omega)) (g3.le (by omega))
      have eTm : tmA s.1 b (dC s.1 (b.2 (b.1 - 1))) = bpP (dTm s.1 b (b.2 (b.1 - 1))) := eT _
      unfold pdB pda3 pda2 pda1 pdpt pdq2 pdq1 gP
      rw [eTm, byF_eq, adF_eq, muF_eq, byF_eq, byF_eq, adF_eq, eN, eX, Int.toNat_natCast, Int.toNat_natCast, mk32_t (by omega), gate_pos (fun _ _ => rfl), ixB_t (by omega), stU_t (by omega), fz4_t, gate_pos s1, gate_pos s2, gate_pos s3, gate_pos s4, gOf_pos i1, gate_pos s5, gate_pos s6]
      rfl
    have eA : ∀ c, c = dC s.1 (b.2 (b.1 - 1)) → pda3 byF adF muF s.1 b (b.2 (b.1 - 1)) c = dA s.1 b (b.2 (b.1 - 1)) ∧ pdq2 byF adF s.1 b (b.2 (b.1 - 1)) s.2 c = dQ s.1 b (b.2 (b.1 - 1)) s.2 := fun c hcc => by
      subst hcc
      have eTm : tmA s.1 b (dC s.1 (b.2 (b.1 - 1))) = bpP (dTm s.1 b (b.2 (b.1 - 1))) := eT _
      unfold pda3 pda2 pda1 pdpt pdq2 pdq1
      rw [eTm, byF_eq, muF_eq, byF_eq, adF_eq, byF_eq, adF_eq]
      exact ⟨rfl, rfl⟩
    have st := pd_step byF adF muF s.1 b (b.2 (b.1 - 1)) s.2
    refine leads_evZ hZ e_nil ks m_nil (finN_sub keepPD [some 0, some 1]) noL_ok (st.trans ?_)
    unfold pdT
    rw [decide_eq_true (show (s.1.1 : Int) ≥ (b.1 : Int) by omega), show w64 ((s.1.1 : Int) - 1) = ((s.1.1 - 1 : Nat) : Int) by rw [w64_id (by omega) (by omega)]; omega, ixB_t (show s.1.1 - 1 < s.1.1 by omega), decB_b, eC]
    cases hneg : (b.2 (b.1 - 1)).1
    · have ec : s.1.2 (s.1.1 - 1) = dC s.1 (b.2 (b.1 - 1)) := by unfold dC; rw [hneg]; rfl
      rw [body _ _ ec]
      dsimp only
      rw [(eA _ ec).1, (eA _ ec).2]
      rfl
    · have ec : bneg (s.1.2 (s.1.1 - 1)) = dC s.1 (b.2 (b.1 - 1)) := by unfold dC; rw [hneg]; rfl
      rw [body _ _ ec]
      dsimp only
      rw [(eA _ ec).1, (eA _ ec).2, gate_pos (bn_spec _)]
      rfl
  · have h2 := (dcn_ok hb a.1 (a, q0) (Nat.le_refl _)).2
    refine leads_evZ hZ e_nil ks m_nil (finE_sub keepPD [some 0, some 1]) noL_ok ((pd_end byF adF muF _ b (b.2 (b.1 - 1)) _).trans ?_)
    unfold pdT
    rw [decide_eq_false (show ¬ (((dits b (b.2 (b.1 - 1)) (a, q0) (dvN a b)).1.1 : Int) ≥ (b.1 : Int)) by unfold dvN; omega), cond_false]
    rfl
theorem dv_spec : FSpec Try.prog 58 [bpP a, bpP b] (.tup [bpP (dvP a b).2, bpP (dvP a b).1]) := by
  have hL := lok_at (c := bodyOf Try.f58) (i := 4) 0 1 (by kernel_rfl) (by kernel_rfl) (toldF_sound (keep := keepPD) (τ := [some 0, some 1]) (dv_leads hb ha5 hb5 hM pa pb))
  refine gspec e_nil k_nil Try.func58 (by kernel_rfl) (by kernel_rfl) hL rfl ((pd_ev a b (b.2 (b.1 - 1)) (dvP a b).1 (dvP a b).2 q0).trans ?_)
  have hs : Sub (pdS a b (b.2 (b.1 - 1)) nilA) (pdS a b (b.2 (b.1 - 1)) (bpP q0)) := by
    exact sub_mk1 (l := [(0, bpP a), (1, bpP b), (6, .own 0 0), (7, .own 1 0)]) fun E v h => nil_like h
  rw [show w64 ((b.1 : Int) - 1) = ((b.1 - 1 : Nat) : Int) by rw [w64_id (by omega) (by omega)]; omega, ixB_t (show b.1 - 1 < b.1 by omega), Int.toNat_natCast, gate_pos hs]
  rfl
end
end Go.Proofs.Ytgijfbcfajhmlaa

namespace Go.Proofs.Ytgijfbcfajhmlaa
open Go.Gv

abbrev DF : Type := List AV → BP × BP
def dvA (s : BP × BP) : AV := .tup [bpP s.2, bpP s.1]
noncomputable def gD (a b : BP) (s : BP × BP) (o : Option Out) : Option Out := gate (FSpec Try.prog 58 [bpP a, bpP b] (dvA s)) o
/-! ### once -/
def onS (p a b : BP) : St := mkS 34 [(0, bpP p), (3, bpP a), (4, bpP b)] []
def keepOn : List Nat := [0, 3, 4]
section
variable (df : DF) (p a b : BP)
noncomputable def onK : List KEntry := [kS Try.prog 58 (fun l => dvA (df l))]
theorem on_step : evC Try.prog [] (onK df) noL (loopAt Try.f39 0) (onS p a b) (finN keepOn []) = cond (decide ((b.1 : Int) > 0)) (gD a b (df [bpP a, bpP b]) (some ⟨.normal, onS p b (df [bpP a, bpP b]).1, .any⟩)) none := by kernel_rfl
theorem on_end : evC Try.prog [] (onK df) noL (loopAt Try.f39 0) (onS p a b) (finE keepOn []) = cond (decide ((b.1 : Int) > 0)) (gD a b (df [bpP a, bpP b]) none) (some ⟨.exit 0, onS p a b, .any⟩) := by kernel_rfl
theorem on_ev (s b' : BP) : ev Try.prog [] (kS Try.prog 57 (fun _ => bpP s) :: onK df) (oneL 3 (toldF keepOn [] (onS p p s) (.exit 0) (onS p a b'))) Try.f39 [bpP p] ret =
    gP 57 [bpP p] s (gate (Sub (onS p p s) (onS p p s)) (cond (decide ((a.1 : Int) < 2)) (some (Out.of (bpP p))) (gD p a (df [bpP p, bpP a]) (some (Out.of (bpP (df [bpP p, bpP a]).2)))))) := by kernel_rfl
end
/-! ### sturm -/
def bcA (c : Nat) (C : Nat → BP) : AV := .sl 1 c fun i => [bpP (C i)]
def stS (c : Nat) (Y : Nat → List AV) : St := mkS 46 [(3, .osl 0 1 0 c)] [.a 41 1 c Y]
def stR (c : Nat) (C : Nat → BP) : St := mkS 46 [(2, .osl 0 1 0 c)] [.a 41 1 c fun i => [bpP (C i)]]
section
variable (df : DF) (by' : BF') (c : Nat) (C : Nat → BP)
def st1 : Nat := (w64 ((c : Int) - 1)).toNat
def st2 : Nat := (w64 ((c : Int) - 2)).toNat
def stA : BP := C (0 + st2 c)
def stB' : BP := C (0 + st1 c)
noncomputable def stuK : List KEntry := [kS Try.prog 58 (fun l => dvA (df l)), kS Try.prog 30 (fun l => bpP (by' l)), kS Try.prog 20 boG]
def stV : BP := (df [bpP (stA c C), bpP (stB' c C)]).1
def stN : BP := by' [bpP (stV df c C), bgA (bOf (-1))]
noncomputable def stT (r y z : Option Out) : Option Out := cond (ixB (w64 ((c : Int) - 1)) c || false) (cond (stU (st1 c) c) (cond (decide (((stB' c C).1 : Int) > 1)) (gD (stA c C) (stB' c C) (df [bpP (stA c C), bpP (stB' c C)]) (cond ((ixB (w64 ((c : Int) - 2)) c || false) && (stU (st2 c) c && ((ixB (w64 ((c : Int) - 1)) c || false) && (stU (st1 c) c && true)))) (cond (((stV df c C).1 : Int) == 0) r (gOf (-1) (gP 30 [bpP (stV df c C), bgA (bOf (-1))] (stN df by' c C) (cond (apB c 24 || false) y none)))) none)) z) none) none
theorem st_step : evC Try.prog [] (stuK df by') noL (loopAt Try.f40 0) (stS c fun i => [bpP (C i)]) (finN [3] [some 2]) = stT df by' c C none (some ⟨.normal, stS (c + 1) (fun q => mixL (Nat.blt q c) [bpP (C q)] [bpP (stN df by' c C)]), .any⟩) none := by kernel_rfl
theorem st_ret : evC Try.prog [] (stuK df by') noL (loopAt Try.f40 0) (stS c fun i => [bpP (C i)]) (finR [2] [some 0]) = stT df by' c C (some ⟨.ret, stR c C, .any⟩) none none := by kernel_rfl
theorem st_end : evC Try.prog [] (stuK df by') noL (loopAt Try.f40 0) (stS c fun i => [bpP (C i)]) (finE [3] [some 0]) = stT df by' c C none none (some ⟨.exit 0, stS c fun i => [bpP (C i)], .any⟩) := by kernel_rfl
variable (p s : BP)
theorem st_evE : ev Try.prog [] [kS Try.prog 57 (fun _ => bpP s)] (oneL 2 (toldF [3] [some 0] (stS 2 fun i => [bpP (C i)]) (.exit 0) (stS c fun i => [bpP (C i)]))) Try.f40 [bpP p] ret =
    gP 57 [bpP p] s (gate (Sub (stS 2 (chunk [bpP p, bpP s] 1)) (stS 2 fun i => [bpP (C i)])) (some (Out.of (.sl 1 c fun i => [bpP (C (0 + i))])))) := by kernel_rfl
theorem st_evR : ev Try.prog [] [kS Try.prog 57 (fun _ => bpP s)] (oneL 2 (toldF [3] [some 0] (stS 2 fun i => [bpP (C i)]) .ret (stR c C))) Try.f40 [bpP p] ret =
    gP 57 [bpP p] s (gate (Sub (stS 2 (chunk [bpP p, bpP s] 1)) (stS 2 fun i => [bpP (C i)])) (some (Out.of (.sl 1 c fun i => [bpP (C (0 + i))])))) := by kernel_rfl
end
/-! ### turns -/
def tnS' (c : Nat) (C : Nat → BP) (x n l i : Int) : St := mkS 34 [(0, bcA c C), (1, iA x), (5, iA n), (6, iA l), (7, iA i)] []
def keepTn' : List Nat := [0, 1, 5, 6, 7]
section
variable (af : List AV → Int) (c : Nat) (C : Nat → BP) (x n l i : Int)
def tnV' : Int := af [bpP (C i.toNat), iA x]
noncomputable def tnT' (y : Int → Int → Option Out) (z : Option Out) : Option Out := cond (decide (i < (c : Int))) (cond (ixB i c || false) (gate (FSpec Try.prog 42 [bpP (C i.toNat), iA x] (iA (tnV' af C x i))) (cond (!(tnV' af C x i == 0)) (cond (cond (!(l == 0)) (!(tnV' af C x i == l)) false) (y (w64 (n + 1)) (tnV' af C x i)) (y n (tnV' af C x i))) (y n l))) none) z
theorem tn'_step : evC Try.prog [] [kS Try.prog 42 (fun l => iA (af l))] noL (loopAt Try.f41 0) (tnS' c C x n l i) (finN keepTn' []) = tnT' af c C x n l i (fun n' l' => some ⟨.normal, tnS' c C x n' l' (w64 (i + 1)), .any⟩) none := by kernel_rfl
theorem tn'_end : evC Try.prog [] [kS Try.prog 42 (fun l => iA (af l))] noL (loopAt Try.f41 0) (tnS' c C x n l i) (finE keepTn' []) = tnT' af c C x n l i (fun _ _ => none) (some ⟨.exit 0, tnS' c C x n l i, .any⟩) := by kernel_rfl
theorem tn'_ev (l' i' : Int) : ev Try.prog [] [] (oneL 4 (toldF keepTn' [] (tnS' c C x 0 0 0) (.exit 0) (tnS' c C x n l' i'))) Try.f41 [bcA c C, iA x] ret = gate (Sub (tnS' c C x 0 0 0) (tnS' c C x 0 0 0)) (some (Out.of (iA n))) := by kernel_rfl
end
end Go.Proofs.Ytgijfbcfajhmlaa

namespace Go.Proofs.Ytgijfbcfajhmlaa
open Go.Gv

/-- Where no new row was made. -/
noncomputable def finS (n : Nat) (keep : List Nat) (τ : List (Option Nat)) : Kont := fun e s => cond (Nat.beq s.mem.length n) (finN keep τ e s) none
theorem finS_sub (n : Nat) (keep : List Nat) (τ : List (Option Nat)) : KSub (finS n keep τ) := fun e s r h => by
  unfold finS at h
  cases hb : Nat.beq s.mem.length n
  · rw [hb] at h; cases h
  · rw [hb] at h; exact finN_sub keep τ e s r h
def qpI (p : BP) (lo hi : Int) (c : Nat) (C : Nat → BP) (bg al : Int) (m : Nat) (Y : Nat → List AV) (i a b : Int) : St := mkS 90 [(0, bpP p), (1, iA lo), (2, iA hi), (7, bcA c C), (8, iA bg), (9, iA al), (10, .osl 0 1 0 m), (11, iA i), (12, iA a), (13, iA b)] [.a 3 1 m Y]
def keepQI : List Nat := [0, 1, 2, 7, 8, 9, 10, 11, 12, 13]
def qpO (p : BP) (lo hi : Int) (c : Nat) (C : Nat → BP) (bg al : Int) (m : Nat) (Y : Nat → List AV) (i : Int) : St := mkS 90 [(0, bpP p), (1, iA lo), (2, iA hi), (7, bcA c C), (8, iA bg), (9, iA al), (10, .osl 0 1 0 m), (11, iA i)] [.a 3 1 m Y]
def keepQO : List Nat := [0, 1, 2, 7, 8, 9, 10, 11]
section
variable (tf : List AV → Int) (af : List AV → Int) (p : BP) (lo hi : Int) (c : Nat) (C : Nat → BP) (bg al : Int) (m : Nat) (Y : Nat → List AV) (i a b : Int)
def qpM : Int := w64 (a + w64 ((w64 (b - a)).tdiv 2))
noncomputable def gTn (x : Int) (o : Option Out) : Option Out := gate (FSpec Try.prog 41 [bcA c C, iA x] (iA (tf [bcA c C, iA x]))) o
noncomputable def qiT (y1 y2 z : Option Out) : Option Out := cond (decide (w64 (b - a) > 1)) (gTn tf c C (qpM a b) (cond (decide (w64 (bg - tf [bcA c C, iA (qpM a b)]) ≥ i)) y1 y2)) z
theorem qi_step : evC Try.prog [] [kS Try.prog 41 (fun l => iA (tf l))] noL (loopAt Try.f22 1) (qpI p lo hi c C bg al m Y i a b) (finN keepQI [some 0]) = qiT tf c C bg i a b (some ⟨.normal, qpI p lo hi c C bg al m Y i a (qpM a b), .any⟩) (some ⟨.normal, qpI p lo hi c C bg al m Y i (qpM a b) b, .any⟩) none := by kernel_rfl
theorem qi_end : evC Try.prog [] [kS Try.prog 41 (fun l => iA (tf l))] noL (loopAt Try.f22 1) (qpI p lo hi c C bg al m Y i a b) (finE keepQI [some 0]) = qiT tf c C bg i a b none none (some ⟨.exit 2, qpI p lo hi c C bg al m Y i a b, .any⟩) := by kernel_rfl
noncomputable def qoL (a' b' : Int) : Nat → Option LFun := oneL 14 (toldF keepQI [some 0] (qpI p lo hi c C bg al m Y i (w64 (lo - 1)) hi) (.exit 2) (qpI p lo hi c C bg al m Y i a' b'))
noncomputable def qoK : List KEntry := [kS Try.prog 41 (fun l => iA (tf l)), kS Try.prog 42 (fun l => iA (af l))]
def qoB (b' : Int) : Bool := cond (af [bpP p, iA b'] == 0) (w64 (bg - tf [bcA c C, iA b']) == i) false
noncomputable def qoT (b' : Int) (y : Int → Option Out) (z : Option Out) : Option Out := cond (decide (i ≤ al)) (gate (Sub (qpI p lo hi c C bg al m Y i (w64 (lo - 1)) hi) (qpI p lo hi c C bg al m Y i (w64 (lo - 1)) hi)) (gate (FSpec Try.prog 42 [bpP p, iA b'] (iA (af [bpP p, iA b']))) (gTn tf c C b' (cond (qoB tf af p c C bg i b') (y b') (y (w64 (b' - 1))))))) z
noncomputable def qoA (at' : Int) (y n : Option Out) : Option Out := cond (decide (at' ≥ lo)) (cond (apB m 8 || false) y none) n
theorem qo_stepA (a' b' : Int) : evC Try.prog [] (qoK tf af) (qoL p lo hi c C bg al m Y i a' b') (loopAt Try.f22 0) (qpO p lo hi c C bg al m Y i) (finN keepQO [some 2]) = qoT tf af p lo hi c C bg al m Y i b' (fun at' => qoA lo m at' (some ⟨.normal, qpO p lo hi c C bg al (m + 1) (fun q => mixL (Nat.blt q m) (Y q) [iA at']) (w64 (i + 1)), .any⟩) none) none := by kernel_rfl
theorem qo_stepS (a' b' : Int) : evC Try.prog [] (qoK tf af) (qoL p lo hi c C bg al m Y i a' b') (loopAt Try.f22 0) (qpO p lo hi c C bg al m Y i) (finS 1 keepQO [some 0]) = qoT tf af p lo hi c C bg al m Y i b' (fun at' => qoA lo m at' none (some ⟨.normal, qpO p lo hi c C bg al m Y (w64 (i + 1)), .any⟩)) none := by kernel_rfl
theorem qo_end : evC Try.prog [] (qoK tf af) (oneL 14 fun _ _ => none) (loopAt Try.f22 0) (qpO p lo hi c C bg al m Y i) (finE keepQO [some 0]) = cond (decide (i ≤ al)) none (some ⟨.exit 0, qpO p lo hi c C bg al m Y i, .any⟩) := by kernel_rfl
end
section
variable (tf : List AV → Int) (p0 p1 p : BP) (lo hi : Int) (c : Nat) (C : Nat → BP) (m : Nat) (h : Nat → Int) (i' : Int)
noncomputable def qpK : List KEntry := [kS Try.prog 25 (fun _ => bpP p1), kS Try.prog 39 (fun _ => bpP p), kS Try.prog 40 (fun _ => bcA c C), kS Try.prog 41 (fun l => iA (tf l))]
def qpG : Int := tf [bcA c C, iA (w64 (lo - 1))]
def qpL : Int := w64 (qpG tf lo c C - tf [bcA c C, iA hi])
noncomputable def qpH (x : Option Out) : Option Out := gP 25 [bpP p0] p1 (cond (cond (decide ((p1.1 : Int) < 2)) true (decide (lo > hi))) (some (Out.of nilA)) (gP 39 [bpP p1] p (gate (FSpec Try.prog 40 [bpP p] (bcA c C)) (gTn tf c C (w64 (lo - 1)) (gTn tf c C hi x)))))
theorem qp_ev : ev Try.prog [] (qpK tf p1 p c C) (oneL 10 (toldN keepQO [(10, 0, 1)] (.a 3 1 0 fun q => [iA (h q)]) [none] (qpO p lo hi c C (qpG tf lo c C) (qpL tf lo hi c C) 0 (fun q => [iA (h q)]) 1) (.exit 0) (qpO p lo hi c C (qpG tf lo c C) (qpL tf lo hi c C) m (fun q => [iA (h q)]) i'))) Try.f22 [bpP p0, iA lo, iA hi] ret =
    qpH tf p0 p1 p lo hi c C (gate (Sub (qpO p lo hi c C (qpG tf lo c C) (qpL tf lo hi c C) 0 (fun q => [iA (h q)]) 1) (qpO p lo hi c C (qpG tf lo c C) (qpL tf lo hi c C) 0 (fun q => [iA (h q)]) 1)) (some (Out.of (.sl 1 m fun j => [iA (h (0 + j))])))) := by kernel_rfl
theorem qp_ev0 : ev Try.prog [] [kS Try.prog 25 (fun _ => bpP p1), ⟨39, fun _ _ => none⟩] (oneL 10 fun _ _ => none) Try.f22 [bpP p0, iA lo, iA hi] ret =
    gP 25 [bpP p0] p1 (cond (cond (decide ((p1.1 : Int) < 2)) true (decide (lo > hi))) (some (Out.of nilA)) none) := by kernel_rfl
end
end Go.Proofs.Ytgijfbcfajhmlaa

namespace Go.Proofs.Ytgijfbcfajhmlaa
open Go.Gv
open Go.Sturm (Pol Chain0 Chain Dk)
open Go.Em (nw)

/-- Rests of rests. -/
def em (p : BP) : Nat → BP × BP
  | 0 => (p, bSl p)
  | k + 1 => ((em p k).2, (dvP (em p k).1 (em p k).2).1)
def ec (p : BP) (k : Nat) : BP := (em p k).1
theorem ec_next (p : BP) (k : Nat) : (em p k).2 = ec p (k + 1) := rfl
theorem ec_two (p : BP) (k : Nat) : ec p (k + 2) = (dvP (ec p k) (ec p (k + 1))).1 := rfl
def oBd (B k : Nat) : Nat := 6 ^ k * (B + 100) - 10
theorem oBd_succ (B k : Nat) : 6 * oBd B k + 50 = oBd B (k + 1) := by
  unfold oBd
  rw [Nat.pow_succ]
  have : 1 ≤ 6 ^ k := Nat.pow_pos (by decide)
  have h2 : 100 ≤ 6 ^ k * (B + 100) := Nat.le_trans (by omega) (Nat.mul_le_mul this (Nat.le_refl (B + 100)))
  rw [Nat.mul_comm (6 ^ k) 6, Nat.mul_assoc]
  omega
theorem oBd_le {B k : Nat} (hB : B ≤ 10000) (hk : k ≤ 5) : oBd B k ≤ 80000000 := by
  unfold oBd
  have h1 : 6 ^ k ≤ 6 ^ 5 := Nat.pow_le_pow_right (by decide) hk
  have h2 : 6 ^ k * (B + 100) ≤ 6 ^ 5 * 10100 := Nat.mul_le_mul h1 (by omega)
  have e : (6 : Nat) ^ 5 * 10100 = 78537600 := by decide
  omega
theorem oBd_mono (B k : Nat) : oBd B k ≤ oBd B (k + 1) := by have := oBd_succ B k; omega
section
variable {p : BP} {B : Nat} (h5 : p.1 ≤ 5) (hB : B ≤ 10000) (hp : PBP p B) (ht : BT p)
include h5 hB hp ht
/-- Sizes and lengths of the chain, as long as it goes on. -/
theorem ec_ok : ∀ k, (∀ j, j < k → 0 < (ec p (j + 1)).1) → k ≤ 5 → (ec p k).1 ≤ 5 ∧ (ec p (k + 1)).1 + (k + 1) ≤ 5 ∧ PBP (ec p k) (oBd B k) ∧ PBP (ec p (k + 1)) (oBd B (k + 1)) ∧ BT (ec p k) ∧ BT (ec p (k + 1)) ∨ (ec p (k + 1)).1 = 0 ∧ (ec p k).1 ≤ 5 ∧ PBP (ec p k) (oBd B k) ∧ BT (ec p k)
  | 0, _, _ => by
    have l := len_sl p
    have g := pb_sl (p := p) (by omega) hp
    have b0 : B ≤ oBd B 0 := by unfold oBd; omega
    have b1 : B + 4 ≤ oBd B 1 := by unfold oBd; omega
    by_cases h0 : p.1 = 0
    · exact Or.inr ⟨by show (bSl p).1 = 0; omega, h5, hp.le b0, ht⟩
    · exact Or.inl ⟨h5, by show (bSl p).1 + 1 ≤ 5; omega, hp.le b0, g.le b1, ht, btl_top _ _⟩
  | k + 1, hk, hk5 => by
    have hpos := hk k (by omega)
    rcases ec_ok k (fun j hj => hk j (by omega)) (by omega) with ⟨l1, l2, b1, b2, t1, t2⟩ | ⟨h, _⟩
    · have hM : oBd B (k + 1) ≤ 1000000000 := by have := oBd_le (k := k + 1) hB hk5; omega
      obtain ⟨d1, _, d3, _⟩ := dv_bound (a := ec p k) (b := ec p (k + 1)) (M := oBd B (k + 1)) hpos l1 (by omega) hM (b1.le (oBd_mono B k)) b2
      refine Or.inl ⟨by omega, by rw [ec_two]; omega, b2, ?_, t2, dv_BT t1⟩
      rw [ec_two, ← oBd_succ]
      exact d3
    · omega
/-- The chain ends. -/
theorem ec_end : ∃ K, K ≤ 4 ∧ (∀ j, j < K → 0 < (ec p (j + 1)).1) ∧ (ec p (K + 1)).1 = 0 := by
  rcases all_or_first (fun j => decide (0 < (ec p (j + 1)).1)) 5 with hl | ⟨K, hK, hz, hq⟩
  · exfalso
    have hl' : ∀ j, j < 5 → 0 < (ec p (j + 1)).1 := fun j hj => by simpa using hl j hj
    rcases ec_ok h5 hB hp ht 4 (fun j hj => hl' j (by omega)) (by omega) with ⟨_, l2, _⟩ | ⟨h, _⟩
    · have := hl' 4 (by omega); omega
    · have := hl' 4 (by omega); omega
  · exact ⟨K, by omega, fun j hj => (by simpa using hq j hj), (by have h : ¬ 0 < (ec p (K + 1)).1 := of_decide_eq_false hz; omega)⟩
theorem ec_all {K : Nat} (hK : K ≤ 4) (hpos : ∀ j, j < K → 0 < (ec p (j + 1)).1) (k : Nat) (hk : k ≤ K) : (ec p k).1 ≤ 5 ∧ PBP (ec p k) (oBd B k) ∧ BT (ec p k) := by
  rcases ec_ok h5 hB hp ht k (fun j hj => hpos j (by omega)) (by omega) with ⟨l1, _, b1, _, t1, _⟩ | ⟨_, l1, b1, t1⟩
  · exact ⟨l1, b1, t1⟩
  · exact ⟨l1, b1, t1⟩
end
def dvF : DF := fun l => dvP (decP (a0 l)) (decP (a1 l))
theorem dvF_eq (a b : BP) : dvF [bpP a, bpP b] = dvP a b := by show dvP (decP (bpP a)) (decP (bpP b)) = _; rw [decP_bp, decP_bp]
theorem gD_pos {a b : BP} {M : Nat} {o : Option Out} (hb : 1 ≤ b.1) (ha5 : a.1 ≤ 5) (hb5 : b.1 ≤ 5) (hM : M ≤ 1000000000) (pa : PBP a M) (pb : PBP b M) : gD a b (dvF [bpP a, bpP b]) o = o := by
  unfold gD
  rw [dvF_eq]
  exact gate_pos (dv_spec hb ha5 hb5 hM pa pb)
/-- What once gives, where the chain ends at K. -/
def onP (p : BP) (K : Nat) : BP := if (ec p K).1 < 2 then p else (dvP p (ec p K)).2
theorem on_spec {p : BP} {B K : Nat} (h5 : p.1 ≤ 5) (h1 : 1 ≤ p.1) (hB : B ≤ 10000) (hp : PBP p B) (ht : BT p) (hK : K ≤ 4) (hpos : ∀ j, j < K → 0 < (ec p (j + 1)).1) (hend : (ec p (K + 1)).1 = 0) : FSpec Try.prog 39 [bpP p] (bpP (onP p K)) := by
  have ks : ∀ e, e ∈ onK dvF → KOk Try.prog e := k_cons kS_ok k_nil
  have all := fun k hk => ec_all h5 hB hp ht hK hpos k hk
  have lead : Leads Try.prog (.loop (loopAt Try.f39 0)) (onS p (ec p 0) (ec p (0 + 1))) (.exit 0) (onS p (ec p K) (ec p (K + 1))) := by
    refine loop_rule (fun k => onS p (ec p k) (ec p (k + 1))) K (.exit 0) _ (by simp) (fun k hk => ?_) ?_
    · have st := on_step dvF p (ec p k) (ec p (k + 1))
      obtain ⟨l1, b1, _⟩ := all k (by omega)
      obtain ⟨l2, b2, _⟩ := all (k + 1) (by omega)
      have hb := oBd_le (k := k + 1) hB (by omega)
      rw [decide_eq_true (show ((ec p (k + 1)).1 : Int) > 0 by have := hpos k hk; omega), gD_pos (M := oBd B (k + 1)) (hpos k hk) l1 l2 (by omega) (b1.le (oBd_mono B k)) b2, dvF_eq] at st
      exact leads_ev (finN_sub _ _) e_nil ks noL_ok st
    · refine leads_ev (finE_sub _ _) e_nil ks noL_ok ((on_end dvF p (ec p K) (ec p (K + 1))).trans ?_)
      rw [hend]
      rfl
  have hL := lok_at (c := bodyOf Try.f39) (i := 3) 0 1 (by kernel_rfl) (by kernel_rfl) (toldF_sound (keep := keepOn) (τ := []) lead)
  refine gspec e_nil (k_cons kS_ok ks) Try.func39 (by kernel_rfl) (by kernel_rfl) hL rfl ((on_ev dvF p (ec p K) (bSl p) (ec p (K + 1))).trans ?_)
  obtain ⟨l1, b1, _⟩ := all K (Nat.le_refl _)
  unfold gP
  rw [gate_pos (slS' (by omega) (by omega) hp), gate_pos (Sub.refl _)]
  unfold onP
  by_cases h2 : (ec p K).1 < 2
  · rw [decide_eq_true (show ((ec p K).1 : Int) < 2 by omega), if_pos h2]
    rfl
  · have hb := oBd_le (k := K) hB (by omega)
    have b0 : B ≤ oBd B K := by
      unfold oBd
      have : 1 ≤ 6 ^ K := Nat.pow_pos (by decide)
      have := Nat.mul_le_mul this (Nat.le_refl (B + 100))
      omega
    rw [decide_eq_false (show ¬ ((ec p K).1 : Int) < 2 by omega), if_neg h2, gD_pos (M := oBd B K) (by omega) h5 l1 (by omega) (hp.le b0) b1, dvF_eq]
    rfl
/-- The chain, as functions. -/
theorem ec_chain {p : BP} {B K : Nat} (h2 : 2 ≤ p.1) (h5 : p.1 ≤ 5) (hB : B ≤ 10000) (hp : PBP p B) (ht : BT p) (hK : K ≤ 4) (hpos : ∀ j, j < K → 0 < (ec p (j + 1)).1) (hend : (ec p (K + 1)).1 = 0) : Chain0 (fun i => fnP (bPly (ec p i))) K := by
  have all := fun k hk => ec_all h5 hB hp ht hK hpos k hk
  have hlen1 : (ec p 1).1 = p.1 - 1 := by
    have e := btl_tl (p.1 - 1) (pslB p.2)
    show btl (pslB p.2) (p.1 - 1) = p.1 - 1
    have hle : btl (pslB p.2) (p.1 - 1) ≤ p.1 - 1 := tl_le _ _
    refine Nat.le_antisymm hle (Nat.le_of_not_lt fun hlt => ?_)
    have hz := tl_zero (fun i => bv (pslB p.2 i)) (p.1 - 1) (p.1 - 2) (show tl _ _ ≤ p.1 - 2 by unfold btl at hlt; omega) (by omega)
    have hz : bv (pslB p.2 (p.1 - 2)) = 0 := hz
    unfold pslB at hz
    rw [bv_mul, bv_of, show p.1 - 2 + 1 = p.1 - 1 by omega] at hz
    exact (Int.mul_ne_zero (ht.resolve_left (by omega)) (by omega)) hz
  have hK1 : 1 ≤ K := Nat.pos_of_ne_zero fun e => by rw [e] at hend; rw [hlen1] at hend; omega
  have hp0 : ∀ k, k ≤ K → 0 < (ec p k).1 := fun k hk => by
    cases k with
    | zero => show 0 < p.1; omega
    | succ k => exact hpos k (by omega)
  have step : ∀ i, i + 1 ≤ K → ∃ c : Rat, 0 < c ∧ ∀ x, c * fnP (bPly (ec p i)) x = fnP (bPly (dvP (ec p i) (ec p (i + 1))).2) x * fnP (bPly (ec p (i + 1))) x + fnP (bPly (ec p (i + 2))) x := fun i hi => dv_fn (hp0 (i + 1) hi) (all (i + 1) hi).2.2
  refine ⟨fun i _ => fnP_pol _, fun i hi => fnP_nz (hp0 i hi) (all i hi).2.2.tp, hK1, ⟨1, by decide, fun x => ?_⟩, fun i hi => ?_, ?_⟩
  · show fnP (bPly (bSl p)) x = 1 * Go.Sturm.D (fnP (bPly p)) x
    rw [fn_sl]
    grind
  · obtain ⟨c, hc, e⟩ := step i (by omega)
    exact ⟨c, -1, _, hc, by decide, fnP_pol (bPly (dvP (ec p i) (ec p (i + 1))).2), fun x => by rw [e x]; grind⟩
  · obtain ⟨c, hc, e⟩ := step (K - 1) (by omega)
    refine ⟨c, _, hc, fnP_pol (bPly (dvP (ec p (K - 1)) (ec p (K - 1 + 1))).2), fun x => ?_⟩
    have h := e x
    rw [show K - 1 + 2 = K + 1 by omega] at h
    have z : fnP (bPly (ec p (K + 1))) x = 0 := by
      show Go.Sturm.hq _ x 0 (ec p (K + 1)).1 = 0
      rw [hend]
      rfl
    rw [z] at h
    rw [h, show K - 1 + 1 = K by omega]
    grind
end Go.Proofs.Ytgijfbcfajhmlaa

namespace Go.Proofs.Ytgijfbcfajhmlaa
open Go.Gv
open Go.Sturm (Pol Chain0 Chain Dk)
open Go.Em (nw)

def sm (p : BP) : Nat → BP × BP
  | 0 => (p, bSl p)
  | k + 1 => ((sm p k).2, bBy (dvP (sm p k).1 (sm p k).2).1 (bOf (-1)))
def sc (p : BP) (k : Nat) : BP := (sm p k).1
theorem sc_next (p : BP) (k : Nat) : (sm p k).2 = sc p (k + 1) := rfl
theorem sc_two (p : BP) (k : Nat) : sc p (k + 2) = bBy (dvP (sc p k) (sc p (k + 1))).1 (bOf (-1)) := rfl
def sBd (B k : Nat) : Nat := 6 ^ k * (B + 100) - 15
theorem sBd_succ (B k : Nat) : 6 * sBd B k + 54 ≤ sBd B (k + 1) := by
  unfold sBd
  rw [Nat.pow_succ]
  have : 1 ≤ 6 ^ k := Nat.pow_pos (by decide)
  have h2 : 100 ≤ 6 ^ k * (B + 100) := Nat.le_trans (by omega) (Nat.mul_le_mul this (Nat.le_refl (B + 100)))
  rw [Nat.mul_comm (6 ^ k) 6, Nat.mul_assoc]
  omega
theorem sBd_mono (B k : Nat) : sBd B k ≤ sBd B (k + 1) := by have := sBd_succ B k; omega
theorem sBd_le {B k : Nat} (hB : B ≤ 700000) (hk : k ≤ 4) : sBd B k ≤ 1000000000 := by
  unfold sBd
  have h1 : 6 ^ k ≤ 6 ^ 4 := Nat.pow_le_pow_right (by decide) hk
  have h2 : 6 ^ k * (B + 100) ≤ 6 ^ 4 * 700100 := Nat.mul_le_mul h1 (by omega)
  have e : (6 : Nat) ^ 4 * 700100 = 907329600 := by decide
  omega
theorem by_zero {p : BP} (ht : BT p) : (bBy p (bOf (-1))).1 = p.1 := by
  have hle := len_by p (bOf (-1))
  refine Nat.le_antisymm hle (Nat.le_of_not_lt fun hlt => ?_)
  have hz : bv (pbyB p.2 (bOf (-1)) (p.1 - 1)) = 0 := tl_zero (fun i => bv (pbyB p.2 (bOf (-1)) i)) p.1 (p.1 - 1) (show tl _ _ ≤ p.1 - 1 by show btl (pbyB p.2 (bOf (-1))) p.1 ≤ p.1 - 1; have : btl (pbyB p.2 (bOf (-1))) p.1 < p.1 := hlt; omega) (by omega)
  unfold pbyB at hz
  rw [bv_mul, bv_of] at hz
  exact (ht.resolve_left (by omega)) (by omega)
section
variable {p : BP} {B : Nat} (h2 : 2 ≤ p.1) (h5 : p.1 ≤ 5) (hB : B ≤ 700000) (hp : PBP p B) (ht : BT p)
include h2 h5 hB hp ht
omit hB hp in
theorem sc_len1 : (sc p 1).1 = p.1 - 1 := by
  show btl (pslB p.2) (p.1 - 1) = p.1 - 1
  have hle : btl (pslB p.2) (p.1 - 1) ≤ p.1 - 1 := tl_le _ _
  refine Nat.le_antisymm hle (Nat.le_of_not_lt fun hlt => ?_)
  have hz : bv (pslB p.2 (p.1 - 2)) = 0 := tl_zero (fun i => bv (pslB p.2 i)) (p.1 - 1) (p.1 - 2) (show tl _ _ ≤ p.1 - 2 by unfold btl at hlt; omega) (by omega)
  unfold pslB at hz
  rw [bv_mul, bv_of, show p.1 - 2 + 1 = p.1 - 1 by omega] at hz
  exact (Int.mul_ne_zero (ht.resolve_left (by omega)) (by omega)) hz
/-- As long as the chain goes on. -/
theorem sc_ok : ∀ k, (∀ j, j ≤ k → 0 < (sc p (j + 1)).1) → k ≤ 3 → (sc p k).1 ≤ 5 ∧ (sc p (k + 1)).1 + (k + 1) ≤ 5 ∧ PBP (sc p k) (sBd B k) ∧ PBP (sc p (k + 1)) (sBd B (k + 1)) ∧ BT (sc p k) ∧ BT (sc p (k + 1))
  | 0, _, _ => by
    have l := len_sl p
    have g := pb_sl (p := p) (by omega) hp
    have b0 : B ≤ sBd B 0 := by unfold sBd; omega
    have b1 : B + 4 ≤ sBd B 1 := by unfold sBd; omega
    exact ⟨h5, by show (bSl p).1 + 1 ≤ 5; omega, hp.le b0, g.le b1, ht, btl_top _ _⟩
  | k + 1, hk, hk3 => by
    obtain ⟨l1, l2, b1, b2, t1, t2⟩ := sc_ok k (fun j hj => hk j (by omega)) (by omega)
    have hpos := hk k (by omega)
    have hM := sBd_le (k := k + 1) hB (by omega)
    obtain ⟨d1, _, d3, _⟩ := dv_bound (a := sc p k) (b := sc p (k + 1)) (M := sBd B (k + 1)) hpos l1 (by omega) hM (b1.le (sBd_mono B k)) b2
    have l3 := len_by (dvP (sc p k) (sc p (k + 1))).1 (bOf (-1))
    refine ⟨by omega, by rw [sc_two]; omega, b2, ?_, t2, btl_top _ _⟩
    rw [sc_two]
    exact (pb_by (k := bOf (-1)) d3 (nw_of (x := -1) ⟨by decide, by decide⟩)).le (by have := sBd_succ B (k + 1); omega)
/-- Where the chain ends: r is its last. -/
theorem sc_end : ∃ r, 1 ≤ r ∧ r ≤ 4 ∧ (∀ j, j < r → 0 < (sc p (j + 1)).1) ∧ (∀ j, 1 ≤ j → j < r → 1 < (sc p j).1 ∧ (dvP (sc p (j - 1)) (sc p j)).1.1 ≠ 0) ∧ ((sc p r).1 ≤ 1 ∨ (dvP (sc p (r - 1)) (sc p r)).1.1 = 0) := by
  have hl1 := sc_len1 h2 h5 ht
  rcases all_or_first (fun j => decide (1 < (sc p (j + 1)).1 ∧ (dvP (sc p j) (sc p (j + 1))).1.1 ≠ 0)) 4 with hl | ⟨K, hK, hz, hq⟩
  · exfalso
    have hl' : ∀ j, j < 4 → 1 < (sc p (j + 1)).1 ∧ (dvP (sc p j) (sc p (j + 1))).1.1 ≠ 0 := fun j hj => of_decide_eq_true (hl j hj)
    have := (sc_ok h2 h5 hB hp ht 3 (fun j hj => by have := (hl' j (by omega)).1; omega) (by omega)).2.1
    have := (hl' 3 (by omega)).1
    omega
  · have hq' : ∀ j, j < K → 1 < (sc p (j + 1)).1 ∧ (dvP (sc p j) (sc p (j + 1))).1.1 ≠ 0 := fun j hj => of_decide_eq_true (hq j hj)
    have hpos : ∀ j, j < K + 1 → 0 < (sc p (j + 1)).1 := fun j hj => by
      by_cases e : j < K
      · have := (hq' j e).1; omega
      · obtain rfl : j = K := by omega
        cases j with
        | zero => rw [hl1]; omega
        | succ j =>
          have hne := (hq' j (by omega)).2
          have hok := sc_ok h2 h5 hB hp ht j (fun i hi => by have := (hq' i (by omega)).1; omega) (by omega)
          rw [sc_two, by_zero (dv_BT hok.2.2.2.2.1)]
          omega
    refine ⟨K + 1, by omega, by omega, hpos, fun j h1 hj => ?_, ?_⟩
    · obtain ⟨i, rfl⟩ : ∃ i, j = i + 1 := ⟨j - 1, by omega⟩
      exact hq' i (by omega)
    · have hz' := of_decide_eq_false hz
      rw [Nat.add_sub_cancel]
      by_cases e : 1 < (sc p (K + 1)).1
      · exact Or.inr (Decidable.byContradiction fun h => hz' ⟨e, h⟩)
      · exact Or.inl (by omega)
end
theorem app_p {C : Nat → BP} {c q : Nat} {v : BP} (hq : q < c + 1) (hv : C c = v) : mixL (Nat.blt q c) [bpP (C q)] [bpP v] = [bpP (C q)] := by
  have key : ∀ (b : Bool) (x y : BP), (b = false → x = y) → mixL b [bpP x] [bpP y] = [bpP x] := fun b x y h => by
    cases b with
    | true =>
      unfold bpP bpA
      have e : (fun i => mixL true (bgc (x.2 i)) (bgc (y.2 i))) = fun i => bgc (x.2 i) := funext fun i => mixBg true _ _
      simp only [mixL, mixA, cond_true, Nat.beq_refl, e]
    | false =>
      rw [h rfl]
      unfold bpP bpA
      have e : (fun i => mixL false (bgc (y.2 i)) (bgc (y.2 i))) = fun i => bgc (y.2 i) := funext fun i => mixBg false _ _
      simp only [mixL, mixA, cond_false, cond_true, Nat.beq_refl, e]
  refine key _ _ _ fun h => ?_
  have := not_blt h
  obtain rfl : q = c := by omega
  exact hv
theorem su'_spec {p : BP} {B r : Nat} (h2 : 2 ≤ p.1) (h5 : p.1 ≤ 5) (hB : B ≤ 700000) (hp : PBP p B) (ht : BT p) (hr1 : 1 ≤ r) (hr4 : r ≤ 4) (hpos : ∀ j, j < r → 0 < (sc p (j + 1)).1) (hgo : ∀ j, 1 ≤ j → j < r → 1 < (sc p j).1 ∧ (dvP (sc p (j - 1)) (sc p j)).1.1 ≠ 0) (hend : (sc p r).1 ≤ 1 ∨ (dvP (sc p (r - 1)) (sc p r)).1.1 = 0) : FSpec Try.prog 40 [bpP p] (bcA (r + 1) (sc p)) := by
  have ks : ∀ e, e ∈ stuK dvF byF → KOk Try.prog e := k_cons kS_ok (k_cons kS_ok (k_cons kS_ok k_nil))
  have ok : ∀ j, 1 ≤ j → j ≤ r → (sc p (j - 1)).1 ≤ 5 ∧ (sc p j).1 + j ≤ 5 ∧ PBP (sc p (j - 1)) (sBd B (j - 1)) ∧ PBP (sc p j) (sBd B j) ∧ BT (sc p (j - 1)) ∧ BT (sc p j) := fun j h1 hj => by
    have := sc_ok h2 h5 hB hp ht (j - 1) (fun i hi => hpos i (by omega)) (by omega)
    rwa [show j - 1 + 1 = j by omega] at this
  have e1 : ∀ j, 1 ≤ j → j ≤ r → st1 (j + 1) = j ∧ st2 (j + 1) = j - 1 ∧ w64 (((j + 1 : Nat) : Int) - 1) = ((j : Nat) : Int) ∧ w64 (((j + 1 : Nat) : Int) - 2) = ((j - 1 : Nat) : Int) := fun j h1 hj => by
    have a1 : w64 (((j + 1 : Nat) : Int) - 1) = ((j : Nat) : Int) := by rw [w64_id (by omega) (by omega)]; omega
    have a2 : w64 (((j + 1 : Nat) : Int) - 2) = ((j - 1 : Nat) : Int) := by rw [w64_id (by omega) (by omega)]; omega
    refine ⟨?_, ?_, a1, a2⟩
    · unfold st1; rw [a1, Int.toNat_natCast]
    · unfold st2; rw [a2, Int.toNat_natCast]
  have div : ∀ j (o : Option Out), 1 ≤ j → j ≤ r → gD (stA (j + 1) (sc p)) (stB' (j + 1) (sc p)) (dvF [bpP (stA (j + 1) (sc p)), bpP (stB' (j + 1) (sc p))]) o = o ∧ stV dvF (j + 1) (sc p) = (dvP (sc p (j - 1)) (sc p j)).1 := fun j o h1 hj => by
    obtain ⟨l1, l2, b1, b2, _, _⟩ := ok j h1 hj
    obtain ⟨a1, a2, _, _⟩ := e1 j h1 hj
    have eA : stA (j + 1) (sc p) = sc p (j - 1) := by unfold stA; rw [a2, Nat.zero_add]
    have eB : stB' (j + 1) (sc p) = sc p j := by unfold stB'; rw [a1, Nat.zero_add]
    have hps : 1 ≤ (sc p j).1 := by have := hpos (j - 1) (by omega); rwa [show j - 1 + 1 = j by omega] at this
    have bm := sBd_mono B (j - 1)
    rw [show j - 1 + 1 = j by omega] at bm
    unfold stV
    rw [eA, eB, dvF_eq]
    refine ⟨?_, rfl⟩
    have := gD_pos (o := o) (M := sBd B j) hps l1 (by omega) (sBd_le hB (by omega)) (b1.le bm) b2
    rwa [dvF_eq] at this
  have step : ∀ j, 1 ≤ j → j < r → Leads Try.prog (loopAt Try.f40 0) (stS (j + 1) fun i => [bpP (sc p i)]) .normal (stS (j + 1 + 1) fun i => [bpP (sc p i)]) := fun j h1 hj => by
    obtain ⟨a1, a2, a3, a4⟩ := e1 j h1 (by omega)
    obtain ⟨g1, g2⟩ := hgo j h1 hj
    have st := st_step dvF byF (j + 1) (sc p)
    have hV := (div j none h1 (by omega)).2
    obtain ⟨l1, l2, b1, b2, t1, t2⟩ := ok j h1 (by omega)
    have hb3 := dv_bound (a := sc p (j - 1)) (b := sc p j) (M := sBd B j) (by omega) l1 (by omega) (sBd_le hB (by omega)) (b1.le (by have := sBd_mono B (j - 1); rwa [show j - 1 + 1 = j by omega] at this)) b2
    have hN : stN dvF byF (j + 1) (sc p) = sc p (j + 1) := by
      unfold stN
      rw [hV, byF_eq]
      obtain ⟨i, rfl⟩ : ∃ i, j = i + 1 := ⟨j - 1, by omega⟩
      rfl
    have hby : FSpec Try.prog 30 [bpP (dvP (sc p (j - 1)) (sc p j)).1, bgA (bOf (-1))] (bpP (sc p (j + 1))) := by
      have := byS (p := (dvP (sc p (j - 1)) (sc p j)).1) (k := bOf (-1)) (B := 6 * sBd B j + 50) (by omega) (by have := sBd_le (k := j) hB (by omega); omega) hb3.2.2.1 (by have := nw_of (x := -1) ⟨by decide, by decide⟩; omega)
      obtain ⟨i, rfl⟩ : ∃ i, j = i + 1 := ⟨j - 1, by omega⟩
      exact this
    have eB : stB' (j + 1) (sc p) = sc p j := by unfold stB'; rw [a1, Nat.zero_add]
    unfold stT gP at st
    rw [(div j _ h1 (by omega)).1, hN, hV, a1, a2, a3, a4, ixB_t (show j < j + 1 by omega), stU_t (show j < j + 1 by omega), eB, decide_eq_true (show ((sc p j).1 : Int) > 1 by omega), ixB_t (show j - 1 < j + 1 by omega), stU_t (show j - 1 < j + 1 by omega), beq_false_of_ne (show (((dvP (sc p (j - 1)) (sc p j)).1.1 : Nat) : Int) ≠ 0 by omega), gOf_pos ⟨by decide, by decide⟩, gate_pos hby, apB_t (by omega)] at st
    refine (leads_ev (finN_sub _ _) e_nil ks noL_ok st).sub (Sub.refl _) ?_
    exact sub_same ⟨Or.inr ⟨41, 1, j + 1 + 1, _, _, rfl, rfl, fun q hq => (app_p hq rfl).symm ▸ rfl⟩, trivial⟩
  have hs : Sub (stS 2 (chunk [bpP p, bpP (bSl p)] 1)) (stS 2 fun i => [bpP (sc p i)]) := sub_same ⟨Or.inr ⟨41, 1, 2, _, _, rfl, rfl, fun q hq => by
    match q, hq with
    | 0, _ => rfl
    | 1, _ => rfl⟩, trivial⟩
  have hsl := slS' (p := p) (B := B) (by omega) (by omega) hp
  have eF : (fun i => [bpP (sc p (0 + i))]) = fun i => [bpP (sc p i)] := funext fun i => by rw [Nat.zero_add]
  obtain ⟨a1, a2, a3, a4⟩ := e1 r hr1 (Nat.le_refl _)
  have eB : stB' (r + 1) (sc p) = sc p r := by unfold stB'; rw [a1, Nat.zero_add]
  by_cases hE : (sc p r).1 ≤ 1
  · have lead : Leads Try.prog (.loop (loopAt Try.f40 0)) (stS (1 + 1 + 0) fun i => [bpP (sc p i)]) (.exit 0) (stS (1 + 1 + (r - 1)) fun i => [bpP (sc p i)]) := by
      refine loop_rule (fun k => stS (1 + 1 + k) fun i => [bpP (sc p i)]) (r - 1) (.exit 0) _ (by simp) (fun k hk => ?_) ?_
      · have := step (k + 1) (by omega) (by omega)
        rwa [show k + 1 + 1 = 1 + 1 + k by omega, show 1 + 1 + k + 1 = 1 + 1 + (k + 1) by omega] at this
      · rw [show 1 + 1 + (r - 1) = r + 1 by omega]
        refine leads_ev (finE_sub _ _) e_nil ks noL_ok ((st_end dvF byF (r + 1) (sc p)).trans ?_)
        unfold stT
        rw [a1, a3, ixB_t (show r < r + 1 by omega), stU_t (show r < r + 1 by omega), eB, decide_eq_false (show ¬ ((sc p r).1 : Int) > 1 by omega)]
        rfl
    rw [show 1 + 1 + (r - 1) = r + 1 by omega] at lead
    have hL := lok_at (c := bodyOf Try.f40) (i := 2) 0 1 (by kernel_rfl) (by kernel_rfl) (toldF_sound (keep := [3]) (τ := [some 0]) lead)
    refine gspec e_nil (k_cons kS_ok k_nil) Try.func40 (by kernel_rfl) (by kernel_rfl) hL rfl ((st_evE (r + 1) (sc p) p (bSl p)).trans ?_)
    unfold gP
    rw [gate_pos hsl, gate_pos hs, eF]
    rfl
  · have hR := hend.resolve_left hE
    have lead : Leads Try.prog (.loop (loopAt Try.f40 0)) (stS (1 + 1 + 0) fun i => [bpP (sc p i)]) .ret (stR (r + 1) (sc p)) := by
      refine loop_rule (fun k => stS (1 + 1 + k) fun i => [bpP (sc p i)]) (r - 1) .ret _ (by simp) (fun k hk => ?_) ?_
      · have := step (k + 1) (by omega) (by omega)
        rwa [show k + 1 + 1 = 1 + 1 + k by omega, show 1 + 1 + k + 1 = 1 + 1 + (k + 1) by omega] at this
      · rw [show 1 + 1 + (r - 1) = r + 1 by omega]
        refine leads_ev (finR_sub _ _) e_nil ks noL_ok ((st_ret dvF byF (r + 1) (sc p)).trans ?_)
        have hV := (div r none hr1 (Nat.le_refl _)).2
        unfold stT
        rw [(div r _ hr1 (Nat.le_refl _)).1, hV, a1, a2, a3, a4, ixB_t (show r < r + 1 by omega), stU_t (show r < r + 1 by omega), eB, decide_eq_true (show ((sc p r).1 : Int) > 1 by omega), ixB_t (show r - 1 < r + 1 by omega), stU_t (show r - 1 < r + 1 by omega), hR]
        rfl
    have hL := lok_at (c := bodyOf Try.f40) (i := 2) 0 1 (by kernel_rfl) (by kernel_rfl) (toldF_sound (keep := [3]) (τ := [some 0]) lead)
    refine gspec e_nil (k_cons kS_ok k_nil) Try.func40 (by kernel_rfl) (by kernel_rfl) hL rfl ((st_evR (r + 1) (sc p) p (bSl p)).trans ?_)
    unfold gP
    rw [gate_pos hsl, gate_pos hs, eF]
    rfl
end Go.Proofs.Ytgijfbcfajhmlaa

namespace Go.Sturm

/-! ### Counts at a place, noughts passed over -/
def tcn (z : Nat → Int) : Nat → Int × Int
  | 0 => (0, 0)
  | i + 1 => if z i ≠ 0 then (if (tcn z i).2 ≠ 0 ∧ z i ≠ (tcn z i).2 then (tcn z i).1 + 1 else (tcn z i).1, z i) else tcn z i
section
variable {p : Nat → Fn} {r : Nat} {N : Nest}
theorem Chain.opp (C : Chain p r) {m : Nat → Nat} {s : Nat → Int} (h : ∀ i, i ≤ r → N.Loc (p i) (m i) (s i)) (i : Nat) (hi : i + 2 ≤ r) (hm : m r < m (i + 1)) : m i = m r ∧ m (i + 2) = m r ∧ s (i + 2) = -s i := by
  obtain ⟨a1, a2, a3, a4⟩ := C.toChain0.orders h
  have g1 : m i = m r := (a2 i (by omega)).resolve_right (by omega)
  have g2 : m (i + 2) = m r := (a2 (i + 1) (by omega)).resolve_left (by omega)
  refine ⟨g1, g2, ?_⟩
  obtain ⟨a, b, Q, ha, hb, hQ, e⟩ := C.sgn i hi
  have pi := C.pol i (by omega)
  have pj := C.pol (i + 1) (by omega)
  have pk := C.pol (i + 2) hi
  have hz : N.Zr (Dk (m r) (fun x => Q x * p (i + 1) x)) := Nest.Om.mul_r hQ pj ((h (i + 1) (by omega)).ge pj (show m r + 1 ≤ m (i + 1) by omega)) (m r) (by omega)
  rw [show (fun x => Q x * p (i + 1) x) = fun x => a * p i x + b * p (i + 2) x from funext fun x => (e x).symm, Dk_add (pi.smul a) (pk.smul b), Dk_smul a pi, Dk_smul b pk] at hz
  have l1 := h i (by omega)
  have l2 := h (i + 2) hi
  rw [g1] at l1
  rw [g2] at l2
  rcases l1 with ⟨e1, o1⟩ | ⟨e1, o1⟩ <;> rcases l2 with ⟨e2, o2⟩ | ⟨e2, o2⟩
  · exact absurd ((o1.2.smul ha).add (o2.2.smul hb)) hz.not_Ps
  · rw [e1, e2]
  · rw [e1, e2]; decide
  · have q1 := o1.2
    have q2 := o2.2
    rw [Dk_neg pi] at q1
    rw [Dk_neg pk] at q2
    have := (q1.smul ha).add (q2.smul hb)
    rw [show (fun x => a * -Dk (m r) (p i) x + b * -Dk (m r) (p (i + 2)) x) = fun x => -(a * Dk (m r) (p i) x + b * Dk (m r) (p (i + 2)) x) from funext fun x => by grind] at this
    exact absurd this hz.neg.not_Ps
theorem Chain.turns (C : Chain p r) {x : Rat} (hx : ∀ n, N.In n x) {m : Nat → Nat} {s : Nat → Int} (h : ∀ i, i ≤ r → N.Loc (p i) (m i) (s i)) (hr : m r = 0) : (tcn (fun i => sg (p i x)) (r + 1)).1 = cB p r x := by
  obtain ⟨a1, a2, a3, a4⟩ := C.toChain0.orders h
  have one : ∀ i, i ≤ r → s i = 1 ∨ s i = -1 := fun i hi => (h i hi).one
  have hB : cB p r x = cnt s 0 r := cnt_congr fun i _ hi => (Nest.loc_on (C.pol i (by omega)) (h i (by omega)) hx).2.2
  have z0 : ∀ i, i ≤ r → m i = 0 → sg (p i x) = s i := fun i hi hm => by
    obtain ⟨hF, _, hb⟩ := Nest.loc_on (C.pol i hi) (h i hi) hx
    rw [hm] at hF
    rw [SB_of hF] at hb
    exact hb
  have z1 : ∀ i, i ≤ r → m i ≠ 0 → sg (p i x) = 0 := fun i hi hm => by
    obtain ⟨hF, _, _⟩ := Nest.loc_on (C.pol i hi) (h i hi) hx
    have : p i x = 0 := hF.1 0 (by omega)
    rw [this]
    exact sg_zero
  have nz : ∀ i, i ≤ r → s i ≠ 0 := fun i hi => by rcases one i hi with e | e <;> rw [e] <;> decide
  have csn : ∀ d, cnt s 0 (d + 1) = cnt s 0 d + ind (s d) (s (d + 1)) := fun d => by have := cnt_snoc s d 0; rwa [Nat.zero_add] at this
  have key : ∀ n j, j ≤ n → j ≤ r → m j = 0 → tcn (fun i => sg (p i x)) (j + 1) = (cnt s 0 j, s j) := by
    intro n
    induction n with
    | zero =>
      intro j hj hjr hm
      obtain rfl : j = 0 := by omega
      show (if sg (p 0 x) ≠ 0 then (if (0 : Int) ≠ 0 ∧ sg (p 0 x) ≠ 0 then (0 : Int) + 1 else 0, sg (p 0 x)) else (0, 0)) = (0, s 0)
      rw [z0 0 hjr hm, if_pos (nz 0 hjr), if_neg (fun h => h.1 rfl)]
    | succ n ih =>
      intro j hj hjr hm
      cases j with
      | zero => exact ih 0 (by omega) hjr hm
      | succ j =>
        have st : ∀ t : Int × Int, tcn (fun i => sg (p i x)) (j + 1) = t → tcn (fun i => sg (p i x)) (j + 1 + 1) = (if t.2 ≠ 0 ∧ s (j + 1) ≠ t.2 then t.1 + 1 else t.1, s (j + 1)) := fun t ht => by
          have e0 : sg (p (j + 1) x) = s (j + 1) := z0 (j + 1) hjr hm
          show (if sg (p (j + 1) x) ≠ 0 then (if (tcn (fun i => sg (p i x)) (j + 1)).2 ≠ 0 ∧ sg (p (j + 1) x) ≠ (tcn (fun i => sg (p i x)) (j + 1)).2 then (tcn (fun i => sg (p i x)) (j + 1)).1 + 1 else (tcn (fun i => sg (p i x)) (j + 1)).1, sg (p (j + 1) x)) else tcn (fun i => sg (p i x)) (j + 1)) = _
          rw [ht, e0, if_pos (nz _ hjr)]
        by_cases hmj : m j = 0
        · rw [st _ (ih j (by omega) (by omega) hmj), csn]
          refine Prod.ext ?_ rfl
          show (if s j ≠ 0 ∧ s (j + 1) ≠ s j then cnt s 0 j + 1 else cnt s 0 j) = cnt s 0 j + ind (s j) (s (j + 1))
          unfold ind
          rcases one j (by omega) with e1 | e1 <;> rcases one (j + 1) hjr with e2 | e2 <;> rw [e1, e2] <;> simp
        · cases j with
          | zero =>
            obtain ⟨_, _, b3⟩ := a3 (by omega)
            have t0 : tcn (fun i => sg (p i x)) (0 + 1) = (0, 0) := by
              show (if sg (p 0 x) ≠ 0 then _ else (0, 0)) = _
              rw [z1 0 (by omega) hmj, if_neg (fun h => h rfl)]
            rw [st _ t0, csn]
            refine Prod.ext ?_ rfl
            show (if (0 : Int) ≠ 0 ∧ s (0 + 1) ≠ 0 then (0 : Int) + 1 else 0) = 0 + ind (s 0) (s (0 + 1))
            rw [if_neg (fun h => h.1 rfl)]
            unfold ind
            have b3' : s (0 + 1) = s 0 := b3
            rw [b3', if_neg]
            · rfl
            · rcases one 0 (by omega) with e | e <;> rw [e] <;> decide
          | succ i =>
            obtain ⟨g1, g2, g3⟩ := C.opp h i (by omega) (by omega)
            have t1 : tcn (fun i => sg (p i x)) (i + 1 + 1) = (cnt s 0 i, s i) := by
              show (if sg (p (i + 1) x) ≠ 0 then _ else tcn (fun i => sg (p i x)) (i + 1)) = _
              rw [z1 (i + 1) (by omega) hmj, if_neg (fun h => h rfl)]
              exact ih i (by omega) (by omega) (by omega)
            rw [st _ t1, csn, csn]
            refine Prod.ext ?_ rfl
            show (if s i ≠ 0 ∧ s (i + 1 + 1) ≠ s i then cnt s 0 i + 1 else cnt s 0 i) = cnt s 0 i + ind (s i) (s (i + 1)) + ind (s (i + 1)) (s (i + 1 + 1))
            have i1 := ind_two (c := s (i + 1 + 1)) (one i (by omega)) (one (i + 1) (by omega)) g3
            rw [if_pos ⟨nz i (by omega), by rw [show s (i + 1 + 1) = -s i from g3]; rcases one i (by omega) with e | e <;> rw [e] <;> decide⟩]
            omega
  rw [key r r (Nat.le_refl _) (Nat.le_refl _) hr, hB]
end
/-! ### Two chains whose first ones have the same roots -/
theorem two_chains {p p' : Nat → Fn} {r r' : Nat} (C : Chain p r) (C' : Chain p' r') (h : ∀ N : Nest, N.Zr (p 0) ↔ N.Zr (p' 0)) {a b : Rat} (hab : a ≤ b) : cB p r a - cB p' r' a = cB p r b - cB p' r' b := by
  by_cases hne : a = b
  · rw [hne]
  refine Decidable.byContradiction fun hn => ?_
  obtain ⟨N, hB, _⟩ := bisect (Bad := fun u v => cB p r u - cB p' r' u ≠ cB p r v - cB p' r' v) (show a < b by grind) hn fun u v _ _ _ h => by
    by_cases h1 : cB p r u - cB p' r' u = cB p r ((u + v) / 2) - cB p' r' ((u + v) / 2)
    · exact Or.inr (by rw [← h1]; exact h)
    · exact Or.inl h1
  obtain ⟨L, R, k, hk, hLR⟩ := C.near N
  obtain ⟨L', R', k', hk', hLR'⟩ := C'.near N
  have hd : L - L' = R - R' := by
    have := h N
    rcases hLR with ⟨e, z⟩ | ⟨e, z⟩ <;> rcases hLR' with ⟨e', z'⟩ | ⟨e', z'⟩
    · omega
    · exact absurd (this.2 z') z
    · exact absurd (this.1 z) z'
    · omega
  have val : ∀ x, N.In (max k k') x → cB p r x - cB p' r' x = R - R' := fun x hx => by
    have i1 := hx.mono N (Nat.le_max_left k k')
    have i2 := hx.mono N (Nat.le_max_right k k')
    rcases N.three x with hl | hr | ho
    · rw [(hk.lf x i1 hl).2, (hk'.lf x i2 hl).2]; exact hd
    · rw [(hk.rt x i1 hr).2, (hk'.rt x i2 hr).2]
    · rw [(hk.on x ho).2, (hk'.on x ho).2]
  exact hB (max k k') (by rw [val _ (N.in_u (Nat.le_refl _)), val _ (N.in_v (Nat.le_refl _))])
/-! ### What has each root once -/
theorem once_zr {p : Nat → Fn} {r : Nat} (C : Chain0 p r) {q : Fn} (hq : Pol q) {c : Rat} (hcz : c ≠ 0) (e : ∀ x, c * p 0 x = q x * p r x) (N : Nest) : (N.Zr (p 0) ↔ N.Zr q) ∧ ¬ N.Om q 2 := by
  have hex : ∀ i, ∃ t : Nat × Int, i ≤ r → N.Loc (p i) t.1 t.2 := fun i => by
    by_cases hi : i ≤ r
    · obtain ⟨m, s, h⟩ := Nest.has_loc (N := N) (C.pol i hi) (C.nz i hi)
      exact ⟨(m, s), fun _ => h⟩
    · exact ⟨(0, 0), fun h => absurd h hi⟩
  obtain ⟨t, ht⟩ := Classical.axiomOfChoice hex
  have hl : ∀ i, i ≤ r → N.Loc (p i) (t i).1 (t i).2 := fun i hi => ht i hi
  obtain ⟨a1, a2, a3, a4⟩ := C.orders hl
  have p0 := C.pol 0 (Nat.zero_le _)
  have pr := C.pol r (Nat.le_refl _)
  have l0 := hl 0 (Nat.zero_le _)
  have lr := hl r (Nat.le_refl _)
  have ef : (fun x => q x * p r x) = fun x => c * p 0 x := funext fun x => (e x).symm
  have back : ∀ {n}, N.Om (fun x => q x * p r x) n → N.Om (p 0) n := fun h => by rw [ef] at h; exact Nest.om_of_smul hcz p0 h
  refine ⟨⟨fun hz => ?_, fun hz => ?_⟩, fun h2 => ?_⟩
  · have hm : 0 < (t 0).1 := (Nest.zr_iff p0 l0).1 hz
    obtain ⟨b1, _, _⟩ := a3 hm
    have o := lr.om pr
    have hlead := Nest.lead0 hq pr o
    have hz1 : N.Zr (Dk (t r).1 (fun x => q x * p r x)) := by
      rw [ef, Dk_smul c p0]
      exact (l0.om p0 (t r).1 (by omega)).smul c
    have hz2 : N.Zr (fun x => q x * Dk (t r).1 (p r) x) := by
      have := hz1.add hlead.neg
      rwa [show (fun x => Dk (t r).1 (fun x => q x * p r x) x + -(Dk (t r).1 (fun x => q x * p r x) x - q x * Dk (t r).1 (p r) x)) = fun x => q x * Dk (t r).1 (p r) x from funext fun x => by grind] at this
    rcases Nest.zr_mul hq (pr.Dk _) hz2 with g | g
    · exact g
    · exfalso
      rcases lr with ⟨_, o2⟩ | ⟨_, o2⟩
      · exact g.not_Ps o2.2
      · have := o2.2
        rw [Dk_neg pr] at this
        exact g.neg.not_Ps this
  · have := back (n := 1) (Nest.Om.mul hq pr (m := 1) fun j hj => by rw [show j = 0 by omega]; exact hz)
    exact this 0 (by omega)
  · have h3 := back (Nest.Om.mul2 (s := 2 + (t r).1) rfl hq pr h2 (lr.om pr))
    have h4 := l0.lt p0 h3
    by_cases hm : 0 < (t 0).1
    · have := (a3 hm).1; omega
    · omega
/-! ### Finer places -/
theorem Pol.comp (k : Rat) {f : Fn} (h : Pol f) : Pol (fun x => f (k * x)) := by
  refine h.ind (P := fun f => Pol (fun x => f (k * x))) Pol.zero fun a f _ ih => ?_
  have := (ih.smul k).cons a
  rwa [show (fun x => a + x * (k * f (k * x))) = fun x => a + k * x * f (k * x) from funext fun x => by grind] at this
theorem D_comp (k : Rat) {f : Fn} (h : Pol f) : D (fun x => f (k * x)) = fun x => k * D f (k * x) := by
  refine h.ind (P := fun f => D (fun x => f (k * x)) = fun x => k * D f (k * x)) ?_ fun a f hf ih => ?_
  · show D (fun _ => 0) = _
    rw [D_const]
    exact funext fun x => by grind
  · rw [show (fun x => a + k * x * f (k * x)) = fun x => a + x * (k * f (k * x)) from funext fun x => by grind, D_cons a ((hf.comp k).smul k), D_smul k (hf.comp k), ih, D_cons a hf]
    exact funext fun x => by grind
def fine (k : Rat) (l : Nat → Rat) (p : Nat → Fn) (i : Nat) : Fn := fun x => l i * p i (k * x)
section
variable {k : Rat} {l : Nat → Rat} {p : Nat → Fn} {r : Nat} (hk : 0 < k) (hl : ∀ i, 0 < l i)
include hk hl
theorem fine_nz {i : Nat} (h : p i ≠ fun _ => 0) : fine k l p i ≠ fun _ => 0 := fun e => h (funext fun x => by
  obtain ⟨t, _, et⟩ := inv_pos hk
  have := congrFun e (t * x)
  unfold fine at this
  rw [show k * (t * x) = k * t * x by grind, et, show (1 : Rat) * x = x by grind] at this
  rcases Rat.mul_eq_zero.1 this with g | g
  · have := hl i; grind
  · exact g)
omit hk in
theorem fine_rel {i j m : Nat} {a b : Rat} {Q : Fn} (ha : 0 < a) (hQ : Pol Q) (e : ∀ x, a * p i x + b * p j x = Q x * p m x) : ∃ (a' b' : Rat) (Q' : Fn), 0 < a' ∧ (0 < b → 0 < b') ∧ (b ≠ 0 → b' ≠ 0) ∧ Pol Q' ∧ ∀ x, a' * fine k l p i x + b' * fine k l p j x = Q' x * fine k l p m x := by
  obtain ⟨u, hu, eu⟩ := inv_pos (hl i)
  obtain ⟨v, hv, ev⟩ := inv_pos (hl j)
  obtain ⟨w, hw, ew⟩ := inv_pos (hl m)
  refine ⟨a * u, b * v, fun x => w * Q (k * x), Rat.mul_pos ha hu, fun h => Rat.mul_pos h hv, fun h g => (Rat.mul_eq_zero.1 g).elim h (fun g => by grind), (hQ.comp k).smul w, fun x => ?_⟩
  unfold fine
  have e1 : a * u * (l i * p i (k * x)) = a * (l i * u) * p i (k * x) := by grind
  have e2 : b * v * (l j * p j (k * x)) = b * (l j * v) * p j (k * x) := by grind
  have e3 : w * Q (k * x) * (l m * p m (k * x)) = (l m * w) * (Q (k * x) * p m (k * x)) := by grind
  rw [e1, e2, e3, eu, ev, ew, ← e (k * x)]
  grind
theorem Chain0.fine (C : Chain0 p r) : Chain0 (fine k l p) r := by
  refine ⟨fun i hi => ((C.pol i hi).comp k).smul _, fun i hi => fine_nz hk hl (C.nz i hi), C.one, ?_, fun i hi => ?_, ?_⟩
  · obtain ⟨c, hc, e⟩ := C.slope
    obtain ⟨u, hu, eu⟩ := inv_pos (Rat.mul_pos (hl 0) hk)
    refine ⟨l 1 * c * u, Rat.mul_pos (Rat.mul_pos (hl 1) hc) hu, fun x => ?_⟩
    have hp0 := C.pol 0 (Nat.zero_le _)
    show l 1 * p 1 (k * x) = l 1 * c * u * D (fun x => l 0 * p 0 (k * x)) x
    rw [D_smul (l 0) (hp0.comp k), D_comp k hp0, e (k * x)]
    have : l 1 * c * u * (l 0 * (k * D (p 0) (k * x))) = l 1 * c * (l 0 * k * u) * D (p 0) (k * x) := by grind
    rw [this, eu]
    grind
  · obtain ⟨a, b, Q, ha, hb, hQ, e⟩ := C.step i hi
    obtain ⟨a', b', Q', h1, _, h3, h4, h5⟩ := fine_rel (k := k) hl ha hQ e
    exact ⟨a', b', Q', h1, h3 hb, h4, h5⟩
  · obtain ⟨a, Q, ha, hQ, e⟩ := C.last
    obtain ⟨a', b', Q', h1, _, _, h4, h5⟩ := fine_rel (k := k) (l := l) (p := p) (i := r - 1) (m := r) (b := 0) (j := r) hl ha hQ (fun x => by rw [← e x]; grind)
    refine ⟨a', fun x => Q' x - b', h1, h4.sub (Pol.const b'), fun x => ?_⟩
    have := h5 x
    grind
theorem Chain.fine (C : Chain p r) : Chain (fine k l p) r := ⟨C.toChain0.fine hk hl, fun i hi => by
  obtain ⟨a, b, Q, ha, hb, hQ, e⟩ := C.sgn i hi
  obtain ⟨a', b', Q', h1, h2, _, h4, h5⟩ := fine_rel (k := k) hl ha hQ e
  exact ⟨a', b', Q', h1, h2 hb, h4, h5⟩⟩
end
/-! ### Degrees -/
theorem deg_mul : ∀ (n : Nat) {a b : Nat} {f g : Fn}, a + b = n → Pol f → Pol g → Dk (a + 1) f = (fun _ => 0) → Dk (b + 1) g = (fun _ => 0) → ∃ c : Rat, 0 < c ∧ ∀ x, Dk n (fun x => f x * g x) x = c * (Dk a f x * Dk b g x)
  | 0, a, b, f, g, e, hf, hg, h1, h2 => by
    obtain ⟨rfl, rfl⟩ : a = 0 ∧ b = 0 := by omega
    exact ⟨1, by decide, fun x => by show f x * g x = 1 * (f x * g x); grind⟩
  | n + 1, a, b, f, g, e, hf, hg, h1, h2 => by
    have hD : Dk (n + 1) (fun x => f x * g x) = fun x => Dk n (fun x => D f x * g x) x + Dk n (fun x => f x * D g x) x := by
      show Dk n (D fun x => f x * g x) = _
      rw [D_mul hf hg, Dk_add (hf.D.mul hg) (hf.mul hg.D)]
    have A : ∃ c : Rat, 0 ≤ c ∧ (1 ≤ a → 0 < c) ∧ ∀ x, Dk n (fun x => D f x * g x) x = c * (Dk a f x * Dk b g x) := by
      cases a with
      | zero =>
        have : D f = fun _ => 0 := h1
        refine ⟨0, by grind, fun h => by omega, fun x => ?_⟩
        rw [this, show (fun x => 0 * g x) = fun _ => 0 from funext fun x => by grind, Dk_zero]
        grind
      | succ a =>
        obtain ⟨c, hc, h⟩ := deg_mul n (a := a) (b := b) (by omega) hf.D hg h1 h2
        exact ⟨c, by grind, fun _ => hc, h⟩
    have B : ∃ c : Rat, 0 ≤ c ∧ (1 ≤ b → 0 < c) ∧ ∀ x, Dk n (fun x => f x * D g x) x = c * (Dk a f x * Dk b g x) := by
      cases b with
      | zero =>
        have : D g = fun _ => 0 := h2
        refine ⟨0, by grind, fun h => by omega, fun x => ?_⟩
        rw [this, show (fun x => f x * 0) = fun _ => 0 from funext fun x => by grind, Dk_zero]
        grind
      | succ b =>
        obtain ⟨c, hc, h⟩ := deg_mul n (a := a) (b := b) (by omega) hf hg.D h1 h2
        exact ⟨c, by grind, fun _ => hc, h⟩
    obtain ⟨c1, n1, p1, e1⟩ := A
    obtain ⟨c2, n2, p2, e2⟩ := B
    refine ⟨c1 + c2, ?_, fun x => ?_⟩
    · rcases (show 1 ≤ a ∨ 1 ≤ b by omega) with g | g
      · have := p1 g; grind
      · have := p2 g; grind
    · rw [hD]
      show Dk n (fun x => D f x * g x) x + Dk n (fun x => f x * D g x) x = _
      rw [e1 x, e2 x]
      grind
/-- A polynomial has a degree. -/
theorem has_deg {f : Fn} (hf : Pol f) (h0 : f ≠ fun _ => 0) : ∃ d, Dk (d + 1) f = (fun _ => 0) ∧ ∀ x, Dk d f x ≠ 0 := by
  obtain ⟨k, hk⟩ := pol_ends hf
  have key : ∀ k, ∀ f : Fn, Pol f → f ≠ (fun _ => 0) → Dk k f = (fun _ => 0) → ∃ d, Dk (d + 1) f = (fun _ => 0) ∧ ∀ x, Dk d f x ≠ 0 := by
    intro k
    induction k with
    | zero => intro f _ h0 hk; exact absurd hk h0
    | succ k ih =>
      intro f hf h0 hk
      by_cases hD : D f = fun _ => 0
      · refine ⟨0, hD, fun x hx => h0 (funext fun y => ?_)⟩
        have hx : f x = 0 := hx
        rw [const_of hf hD y x, hx]
      · obtain ⟨d, h1, h2⟩ := ih (D f) hf.D hD hk
        exact ⟨d + 1, h1, h2⟩
  exact key k f hf h0 hk
end Go.Sturm

namespace Go.Proofs.Ytgijfbcfajhmlaa
open Go.Gv
open Go.Sturm (Pol Chain0 Chain Dk Nest hq fine)
open Go.Em (nw)

theorem oBd_up (B : Nat) {j k : Nat} (h : j ≤ k) : oBd B j ≤ oBd B k := by
  induction h with
  | refl => exact Nat.le_refl _
  | step _ ih => exact Nat.le_trans ih (oBd_mono B _)
theorem neg1 : ((-1 : Int) : Rat) = -1 := rfl
theorem fn_one {p : BP} (h : p.1 = 1) : ∃ k : Rat, ∀ x, fnP (bPly p) x = k := ⟨((bV p 0 : Int) : Rat), fun x => by
  show hq (bV p) x 0 p.1 = _
  rw [h]
  show 0 * x + _ = _
  grind⟩
theorem dv_BT2 (a b : BP) : BT (dvP a b).2 := by
  unfold dvP
  generalize dvN a b = k
  cases k with
  | zero => exact Or.inl rfl
  | succ k => exact btl_top _ _
theorem fn_zero {p : BP} (h : p.1 = 0) (x : Rat) : fnP (bPly p) x = 0 := by
  show hq (bV p) x 0 p.1 = 0
  rw [h]
  rfl
/-- The chain of sturm. -/
theorem sc_chain {p : BP} {B r : Nat} (h2 : 2 ≤ p.1) (h5 : p.1 ≤ 5) (hB : B ≤ 700000) (hp : PBP p B) (ht : BT p) (hr1 : 1 ≤ r) (hr4 : r ≤ 4) (hpos : ∀ j, j < r → 0 < (sc p (j + 1)).1) (hend : (sc p r).1 ≤ 1 ∨ (dvP (sc p (r - 1)) (sc p r)).1.1 = 0) : Chain (fun i => fnP (bPly (sc p i))) r := by
  have ok : ∀ j, j ≤ r → BT (sc p j) ∧ 0 < (sc p j).1 := fun j hj => by
    cases j with
    | zero => exact ⟨ht, by show 0 < p.1; omega⟩
    | succ j => exact ⟨(sc_ok h2 h5 hB hp ht j (fun i hi => hpos i (by omega)) (by omega)).2.2.2.2.2, hpos j (by omega)⟩
  have step : ∀ i, i + 1 ≤ r → ∃ c : Rat, 0 < c ∧ ∀ x, c * fnP (bPly (sc p i)) x = fnP (bPly (dvP (sc p i) (sc p (i + 1))).2) x * fnP (bPly (sc p (i + 1))) x + fnP (bPly (dvP (sc p i) (sc p (i + 1))).1) x := fun i hi => dv_fn (ok (i + 1) hi).2 (ok (i + 1) hi).1
  have st : ∀ i, i + 2 ≤ r → ∃ (a b : Rat) (Q : Go.Sturm.Fn), 0 < a ∧ 0 < b ∧ Pol Q ∧ ∀ x, a * fnP (bPly (sc p i)) x + b * fnP (bPly (sc p (i + 2))) x = Q x * fnP (bPly (sc p (i + 1))) x := fun i hi => by
    obtain ⟨c, hc, e⟩ := step i (by omega)
    refine ⟨c, 1, _, hc, by decide, fnP_pol (bPly (dvP (sc p i) (sc p (i + 1))).2), fun x => ?_⟩
    rw [sc_two, fn_by, bv_of, neg1, e x]
    grind
  refine ⟨⟨fun i _ => fnP_pol _, fun i hi => fnP_nz (ok i hi).2 (ok i hi).1.tp, hr1, ⟨1, by decide, fun x => ?_⟩, fun i hi => ?_, ?_⟩, st⟩
  · show fnP (bPly (bSl p)) x = 1 * Go.Sturm.D (fnP (bPly p)) x
    rw [fn_sl]
    grind
  · obtain ⟨a, b, Q, h1, h3, h4, h5⟩ := st i hi
    exact ⟨a, b, Q, h1, by grind, h4, h5⟩
  · by_cases hE : (sc p r).1 ≤ 1
    · obtain ⟨k, hk⟩ := fn_one (p := sc p r) (by have := (ok r (Nat.le_refl _)).2; omega)
      have hk0 : k ≠ 0 := fun e => fnP_nz (ok r (Nat.le_refl _)).2 (ok r (Nat.le_refl _)).1.tp (funext fun x => by rw [hk x, e])
      refine ⟨1, fun x => k⁻¹ * fnP (bPly (sc p (r - 1))) x, by decide, (fnP_pol _).smul _, fun x => ?_⟩
      show 1 * fnP (bPly (sc p (r - 1))) x = k⁻¹ * fnP (bPly (sc p (r - 1))) x * fnP (bPly (sc p r)) x
      rw [hk x]
      have : k⁻¹ * fnP (bPly (sc p (r - 1))) x * k = k * k⁻¹ * fnP (bPly (sc p (r - 1))) x := by grind
      rw [this, Rat.mul_inv_cancel k hk0]
    · obtain ⟨c, hc, e⟩ := step (r - 1) (by omega)
      refine ⟨c, _, hc, fnP_pol (bPly (dvP (sc p (r - 1)) (sc p (r - 1 + 1))).2), fun x => ?_⟩
      have h := e x
      rw [show r - 1 + 1 = r by omega] at h ⊢
      rw [fn_zero (hend.resolve_left hE)] at h
      rw [h]
      grind
/-! ### once has each root once -/
theorem dk_len {P : Ply} {j : Nat} (h : P.1 ≤ j) : Dk j (fnP P) = fun _ => 0 := by
  rw [fnP_Dk, show P.1 - j = 0 by omega]
  rfl
theorem dk_top {P : Ply} (hp : 0 < P.1) (ht : Tp P) (x : Rat) : Dk (P.1 - 1) (fnP P) x ≠ 0 := by
  rw [fnP_Dk, show P.1 - (P.1 - 1) = 1 by omega]
  obtain ⟨c, h1, h2⟩ := dit_at P.2 (P.1 - 1) 0
  show 0 * x + ((dit P.2 (P.1 - 1) 0 : Int) : Rat) ≠ 0
  rw [h2, Nat.zero_add]
  have : ((P.2 (P.1 - 1) * c : Int) : Rat) ≠ 0 := cast_ne (Int.mul_ne_zero (ht.resolve_left (by omega)) (by omega))
  grind
section
variable {p : BP} {B K : Nat} (h2 : 2 ≤ p.1) (h5 : p.1 ≤ 5) (hB : B ≤ 10000) (hp : PBP p B) (ht : BT p) (hK : K ≤ 4) (hpos : ∀ j, j < K → 0 < (ec p (j + 1)).1) (hend : (ec p (K + 1)).1 = 0)
include h2 h5 hB hp ht hK hpos hend
/-- The last one divides all. -/
theorem ec_div : ∃ (c : Rat) (Q : Go.Sturm.Fn), 0 < c ∧ Pol Q ∧ ∀ x, c * fnP (bPly p) x = Q x * fnP (bPly (ec p K)) x := by
  have C := ec_chain h2 h5 hB hp ht hK hpos hend
  have key : ∀ d, d ≤ K → (∃ (c : Rat) (Q : Go.Sturm.Fn), 0 < c ∧ Pol Q ∧ ∀ x, c * fnP (bPly (ec p (K - d))) x = Q x * fnP (bPly (ec p K)) x) ∧ (0 < d → ∃ (c : Rat) (Q : Go.Sturm.Fn), 0 < c ∧ Pol Q ∧ ∀ x, c * fnP (bPly (ec p (K - d + 1))) x = Q x * fnP (bPly (ec p K)) x) := by
    intro d
    induction d with
    | zero => intro _; exact ⟨⟨1, fun _ => 1, by decide, Pol.const 1, fun x => rfl⟩, fun h => by omega⟩
    | succ d ih =>
      intro hd
      obtain ⟨g1, g2⟩ := ih (by omega)
      have e1 : K - (d + 1) + 1 = K - d := by omega
      rw [e1]
      refine ⟨?_, fun _ => g1⟩
      obtain ⟨c1, Q1, hc1, hQ1, f1⟩ := g1
      by_cases h0 : d = 0
      · subst h0
        obtain ⟨a, Q, ha, hQ, e⟩ := C.last
        exact ⟨a, Q, ha, hQ, e⟩
      · obtain ⟨c2, Q2, hc2, hQ2, f2⟩ := g2 (by omega)
        obtain ⟨a, b, Q, ha, hb, hQ, e⟩ := C.step (K - (d + 1)) (by omega)
        refine ⟨a * c1 * c2, fun x => c2 * (Q x * Q1 x) + -b * c1 * Q2 x, Rat.mul_pos (Rat.mul_pos ha hc1) hc2, ((hQ.mul hQ1).smul c2).add (hQ2.smul _), fun x => ?_⟩
        have h1 := e x
        rw [show K - (d + 1) + 2 = K - d + 1 by omega, show K - (d + 1) + 1 = K - d by omega] at h1
        have h3 := f1 x
        have h4 := f2 x
        generalize fnP (bPly (ec p (K - (d + 1)))) x = y0 at *
        generalize fnP (bPly (ec p (K - d + 1))) x = y2 at *
        generalize fnP (bPly (ec p (K - d))) x = y1 at *
        generalize fnP (bPly (ec p K)) x = z at *
        have : a * c1 * c2 * y0 = c1 * c2 * (a * y0) := by grind
        rw [this, show a * y0 = Q x * y1 - b * y2 by grind]
        have : c1 * c2 * (Q x * y1 - b * y2) = c2 * Q x * (c1 * y1) - b * c1 * (c2 * y2) := by grind
        rw [this, h3, h4]
        grind
  have := (key K (Nat.le_refl _)).1
  rwa [Nat.sub_self] at this
theorem on_div : ∃ c : Rat, c ≠ 0 ∧ ∀ x, c * fnP (bPly p) x = fnP (bPly (onP p K)) x * fnP (bPly (ec p K)) x := by
  have C := ec_chain h2 h5 hB hp ht hK hpos hend
  obtain ⟨l1, b1, t1⟩ := ec_all h5 hB hp ht hK hpos K (Nat.le_refl _)
  have hK1 := C.one
  have hp1 : 0 < (ec p K).1 := by have := hpos (K - 1) (by omega); rwa [show K - 1 + 1 = K by omega] at this
  unfold onP
  by_cases hs : (ec p K).1 < 2
  · rw [if_pos hs]
    obtain ⟨k, hk⟩ := fn_one (p := ec p K) (by omega)
    refine ⟨k, fun e => fnP_nz hp1 t1.tp (funext fun x => by rw [hk x, e]), fun x => ?_⟩
    rw [hk x]
    grind
  · rw [if_neg hs]
    obtain ⟨c, hc, e⟩ := dv_fn (a := p) (b := ec p K) hp1 t1
    refine ⟨c, by grind, fun x => ?_⟩
    rw [e x]
    -- what is left is nought
    have hlen : (dvP p (ec p K)).1.1 < (ec p K).1 := (dcn_ok hp1 p.1 (p, q0) (Nat.le_refl _)).2
    obtain ⟨c2, Q, hc2, hQ, e2⟩ := ec_div h2 h5 hB hp ht hK hpos hend
    obtain ⟨u, hu, eu⟩ := Go.Sturm.inv_pos hc2
    have hS : ∀ x, fnP (bPly (dvP p (ec p K)).1) x = (c * u * Q x - fnP (bPly (dvP p (ec p K)).2) x) * fnP (bPly (ec p K)) x := fun x => by
      have g1 := e x
      have g2 := e2 x
      have : c * u * Q x * fnP (bPly (ec p K)) x = c * u * (c2 * fnP (bPly p) x) := by rw [g2]; grind
      have g3 : c * u * (c2 * fnP (bPly p) x) = c * (c2 * u) * fnP (bPly p) x := by grind
      rw [eu] at g3
      grind
    have hPS : Pol (fun x => c * u * Q x - fnP (bPly (dvP p (ec p K)).2) x) := (hQ.smul (c * u)).sub (fnP_pol _)
    have hS0 : (fun x => c * u * Q x - fnP (bPly (dvP p (ec p K)).2) x) = fun _ => 0 := by
      refine Classical.byContradiction fun hne => ?_
      obtain ⟨d, hd1, hd2⟩ := Go.Sturm.has_deg hPS hne
      obtain ⟨c3, hc3, e3⟩ := Go.Sturm.deg_mul (d + ((ec p K).1 - 1)) rfl hPS (fnP_pol (bPly (ec p K))) hd1 (dk_len (P := bPly (ec p K)) (show (ec p K).1 ≤ (ec p K).1 - 1 + 1 by omega))
      have z := e3 0
      rw [show (fun x => (c * u * Q x - fnP (bPly (dvP p (ec p K)).2) x) * fnP (bPly (ec p K)) x) = fnP (bPly (dvP p (ec p K)).1) from funext fun x => (hS x).symm, dk_len (P := bPly (dvP p (ec p K)).1) (show (dvP p (ec p K)).1.1 ≤ d + ((ec p K).1 - 1) by omega)] at z
      have n1 := hd2 0
      have n2 := dk_top (P := bPly (ec p K)) hp1 t1.tp 0
      have z' : c3 * (Dk d (fun x => c * u * Q x - fnP (bPly (dvP p (ec p K)).2) x) 0 * Dk ((ec p K).1 - 1) (fnP (bPly (ec p K))) 0) = 0 := z.symm
      rcases Rat.mul_eq_zero.1 z' with g | g
      · grind
      · rcases Rat.mul_eq_zero.1 g with g | g
        · exact n1 g
        · exact n2 g
    rw [hS x, show c * u * Q x - fnP (bPly (dvP p (ec p K)).2) x = 0 from congrFun hS0 x]
    grind
theorem on_len : 2 ≤ (onP p K).1 ∧ (onP p K).1 ≤ 5 ∧ BT (onP p K) ∧ PBP (onP p K) (oBd B 4) := by
  have C := ec_chain h2 h5 hB hp ht hK hpos hend
  obtain ⟨l1, b1, t1⟩ := ec_all h5 hB hp ht hK hpos K (Nat.le_refl _)
  have hK1 := C.one
  have hp1 : 0 < (ec p K).1 := by have := hpos (K - 1) (by omega); rwa [show K - 1 + 1 = K by omega] at this
  have hKl : (ec p K).1 + K ≤ 5 ∧ (ec p K).1 ≤ p.1 - 1 := by
    have hmono : ∀ j, j < K → (ec p (j + 1)).1 ≤ p.1 - 1 := fun j hj => by
      induction j with
      | zero => exact len_sl p
      | succ j ih =>
        have h1 := ih (by omega)
        have h3 : (dvP (ec p j) (ec p (j + 1))).1.1 < (ec p (j + 1)).1 := (dcn_ok (hpos j (by omega)) (ec p j).1 (ec p j, q0) (Nat.le_refl _)).2
        rw [ec_two]
        omega
    refine ⟨?_, ?_⟩
    · rcases ec_ok h5 hB hp ht (K - 1) (fun j hj => hpos j (by omega)) (by omega) with ⟨_, l2, _⟩ | ⟨h, _⟩
      · rwa [show K - 1 + 1 = K by omega] at l2
      · rw [show K - 1 + 1 = K by omega] at h; omega
    · have := hmono (K - 1) (by omega); rwa [show K - 1 + 1 = K by omega] at this
  have hge : 2 ≤ (onP p K).1 := by
    refine Nat.le_of_not_lt fun hlt => ?_
    obtain ⟨c, hc, e⟩ := on_div h2 h5 hB hp ht hK hpos hend
    have hk : ∃ k : Rat, ∀ x, fnP (bPly (onP p K)) x = k := by
      rcases (show (onP p K).1 = 0 ∨ (onP p K).1 = 1 by omega) with h | h
      · exact ⟨0, fun x => fn_zero h x⟩
      · exact fn_one h
    obtain ⟨k, hk⟩ := hk
    have ef : (fun x => c * fnP (bPly p) x) = fun x => k * fnP (bPly (ec p K)) x := funext fun x => by rw [e x, hk x]
    have n1 := dk_top (P := bPly p) (by show 0 < p.1; omega) ht.tp 0
    have d1 := Go.Sturm.Dk_smul c (fnP_pol (bPly p)) (p.1 - 1)
    have d2 := Go.Sturm.Dk_smul k (fnP_pol (bPly (ec p K))) (p.1 - 1)
    rw [ef, d2, dk_len (P := bPly (ec p K)) hKl.2] at d1
    have := congrFun d1 0
    have this : k * 0 = c * Dk (p.1 - 1) (fnP (bPly p)) 0 := this
    rcases Rat.mul_eq_zero.1 (show c * Dk (p.1 - 1) (fnP (bPly p)) 0 = 0 by grind) with g | g
    · exact hc g
    · exact n1 g
  refine ⟨hge, ?_⟩
  have hb4 := oBd_le (k := 4) hB (by omega)
  have mono : ∀ k, k ≤ 4 → oBd B k ≤ oBd B 4 := fun k hk => oBd_up B hk
  have b0 : B ≤ oBd B 0 := by unfold oBd; omega
  unfold onP
  by_cases hs : (ec p K).1 < 2
  · rw [if_pos hs]
    exact ⟨h5, ht, hp.le (Nat.le_trans b0 (mono 0 (by omega)))⟩
  · rw [if_neg hs]
    have hK3 : K ≤ 3 := by omega
    have bK : oBd B K ≤ oBd B 3 := oBd_up B hK3
    have b03 : oBd B 0 ≤ oBd B 3 := oBd_up B (by omega)
    obtain ⟨_, d2, _, d4⟩ := dv_bound (a := p) (b := ec p K) (M := oBd B 3) hp1 h5 l1 (by have := mono 3 (by omega); omega) (hp.le (by omega)) (b1.le bK)
    refine ⟨d2, dv_BT2 _ _, ?_⟩
    rw [← oBd_succ]
    exact d4
end
end Go.Proofs.Ytgijfbcfajhmlaa

namespace Go.Proofs.Ytgijfbcfajhmlaa
open Go.Gv
open Go.Sturm (Pol Chain0 Chain Dk Nest hq fine tcn cB)
open Go.Em (nw)

/-! ### turns -/
/-- The sign of a polynomial at a place. -/
def bS (p : BP) (x : Int) : Int := (hor (finP (bPly p)).2 x 0 (finP (bPly p)).1).sign
def atF (l : List AV) : Int := bS (decP (a0 l)) (decI (a1 l))
theorem atF_eq (p : BP) (x : Int) : atF [bpP p, iA x] = bS p x := by show bS (decP (bpP p)) x = _; rw [decP_bp]
theorem at_ok {p : BP} {x : Int} {B : Nat} (hn : p.1 ≤ 1000) (hB : B ≤ 100000000000) (hf : PBP p B) (hx : I64 x) : FSpec Try.prog 42 [bpP p, iA x] (iA (bS p x)) := pv_spec hn hB hf hx
theorem tcn_le (z : Nat → Int) : ∀ i : Nat, 0 ≤ (tcn z i).1 ∧ (tcn z i).1 ≤ i
  | 0 => ⟨Int.le_refl _, Int.le_refl _⟩
  | i + 1 => by
    obtain ⟨h1, h2⟩ := tcn_le z i
    unfold tcn
    split
    · dsimp only
      split <;> omega
    · omega
def tnN (C : Nat → BP) (c : Nat) (x : Int) : Int := (tcn (fun i => bS (C i) x) c).1
theorem tn_spec {c : Nat} {C : Nat → BP} {x : Int} {B : Nat} (hc : c ≤ 1000) (hB : B ≤ 100000000000) (hC : ∀ i, i < c → (C i).1 ≤ 1000 ∧ PBP (C i) B) (hx : I64 x) : FSpec Try.prog 41 [bcA c C, iA x] (iA (tnN C c x)) := by
  have ks : ∀ e, e ∈ [kS Try.prog 42 (fun l => iA (atF l))] → KOk Try.prog e := k_cons kS_ok k_nil
  have lead : Leads Try.prog (.loop (loopAt Try.f41 0)) (tnS' c C x (tcn (fun i => bS (C i) x) 0).1 (tcn (fun i => bS (C i) x) 0).2 ((0 : Nat) : Int)) (.exit 0) (tnS' c C x (tcn (fun i => bS (C i) x) c).1 (tcn (fun i => bS (C i) x) c).2 (c : Nat)) := by
    refine loop_rule (fun i => tnS' c C x (tcn (fun i => bS (C i) x) i).1 (tcn (fun i => bS (C i) x) i).2 (i : Nat)) c (.exit 0) _ (by simp) (fun i hi => ?_) ?_
    · have st := tn'_step atF c C x (tcn (fun i => bS (C i) x) i).1 (tcn (fun i => bS (C i) x) i).2 (i : Nat)
      obtain ⟨l1, l2⟩ := tcn_le (fun i => bS (C i) x) i
      have eV : tnV' atF C x (i : Nat) = bS (C i) x := by unfold tnV'; rw [Int.toNat_natCast, atF_eq]
      refine leads_ev (finN_sub _ _) e_nil ks noL_ok (st.trans ?_)
      unfold tnT'
      rw [eV, Int.toNat_natCast, dec_lt hi, ixB_t hi, gate_pos (at_ok (hC i hi).1 hB (hC i hi).2 hx), w64_next (by omega)]
      have e1 : tcn (fun i => bS (C i) x) (i + 1) = if bS (C i) x ≠ 0 then (if (tcn (fun i => bS (C i) x) i).2 ≠ 0 ∧ bS (C i) x ≠ (tcn (fun i => bS (C i) x) i).2 then (tcn (fun i => bS (C i) x) i).1 + 1 else (tcn (fun i => bS (C i) x) i).1, bS (C i) x) else tcn (fun i => bS (C i) x) i := rfl
      rw [e1]
      generalize tcn (fun i => bS (C i) x) i = t at *
      generalize bS (C i) x = s at *
      rw [show w64 (t.1 + 1) = t.1 + 1 from w64_id (by omega) (by omega)]
      by_cases h0 : s = 0
      · subst h0
        rw [if_neg (fun h => h rfl)]
        rfl
      · rw [if_pos h0, beq_false_of_ne h0]
        by_cases h1 : t.2 = 0
        · rw [if_neg (fun h => h.1 h1), h1]
          rfl
        · rw [beq_false_of_ne h1]
          by_cases h2 : s = t.2
          · rw [if_neg (fun h => h.2 h2), ← h2, BEq.rfl]
            rfl
          · rw [if_pos ⟨h1, h2⟩, beq_false_of_ne h2]
            rfl
    · refine leads_ev (finE_sub _ _) e_nil ks noL_ok ((tn'_end atF c C x _ _ (c : Nat)).trans ?_)
      unfold tnT'
      rw [dec_self, cond_false]
  have hL := lok_at (c := bodyOf Try.f41) (i := 4) 0 1 (by kernel_rfl) (by kernel_rfl) (toldF_sound (keep := keepTn') (τ := []) lead)
  refine gspec e_nil k_nil Try.func41 (by kernel_rfl) (by kernel_rfl) hL rfl ((tn'_ev c C x (tcn (fun i => bS (C i) x) c).1 (tcn (fun i => bS (C i) x) c).2 (c : Nat)).trans ?_)
  rw [gate_pos (Sub.refl _)]
  rfl
/-! ### Finer places -/
def kap : Rat := (65536 : Rat)⁻¹
theorem kap_eq : (65536 : Rat) * kap = 1 := Rat.mul_inv_cancel 65536 (by decide)
theorem kap_pos : 0 < kap := by have := kap_eq; grind
def lam (n : Nat) : Rat := ((65536 ^ (n - 1) : Int) : Rat)
theorem lam_pos (n : Nat) : 0 < lam n := Rat.intCast_lt_intCast.2 (Int.pow_pos (by decide))
theorem hq_fin (f : Nat → Int) (n : Nat) (x : Rat) : ∀ d i, i + d ≤ n → hq (pfin f n) x i d = ((65536 ^ (n - 1 - i) : Int) : Rat) * hq f (kap * x) i d
  | 0, i, _ => by show (0 : Rat) = _ * 0; grind
  | d + 1, i, h => by
    show hq (pfin f n) x (i + 1) d * x + ((f i * 65536 ^ (n - 1 - i) : Int) : Rat) = _ * (hq f (kap * x) (i + 1) d * (kap * x) + (f i : Rat))
    rw [hq_fin f n x d (i + 1) (by omega), Rat.intCast_mul]
    cases d with
    | zero =>
      show _ * 0 * x + _ = _ * (0 * (kap * x) + _)
      grind
    | succ d =>
      rw [show n - 1 - i = n - 1 - (i + 1) + 1 by omega, Int.pow_succ, Rat.intCast_mul]
      generalize hq f (kap * x) (i + 1) (d + 1) = H
      generalize ((65536 ^ (n - 1 - (i + 1)) : Int) : Rat) = w
      have e : ((65536 : Int) : Rat) = 65536 := rfl
      rw [e]
      have : w * 65536 * (H * (kap * x) + (f i : Rat)) = w * H * (65536 * kap) * x + w * 65536 * (f i : Rat) := by grind
      rw [this, kap_eq]
      grind
theorem fin_fn (P : Ply) : fnP (finP P) = fun x => lam P.1 * fnP P (kap * x) := funext fun x => by
  show hq (pfin P.2 P.1) x 0 P.1 = _
  rw [hq_fin P.2 P.1 x P.1 0 (by omega), Nat.sub_zero]
  rfl
theorem bS_sg (p : BP) (x : Int) : bS p x = Go.Sturm.sg (fnP (finP (bPly p)) (x : Rat)) := by
  have e : fnP (finP (bPly p)) (x : Rat) = ((hor (finP (bPly p)).2 x 0 (finP (bPly p)).1 : Int) : Rat) := hq_hor _ _ _ _
  rw [e, sg_cast]
  rfl
/-! ### Beside the code's count -/
section
variable {p : BP} {B K r : Nat} (h2 : 2 ≤ p.1) (h5 : p.1 ≤ 5) (hB : B ≤ 400) (hp : PBP p B) (ht : BT p) (hK : K ≤ 4) (hpos : ∀ j, j < K → 0 < (ec p (j + 1)).1) (hend : (ec p (K + 1)).1 = 0)
  (hr1 : 1 ≤ r) (hr4 : r ≤ 4) (hsp : ∀ j, j < r → 0 < (sc (onP p K) (j + 1)).1) (hse : (sc (onP p K) r).1 ≤ 1 ∨ (dvP (sc (onP p K) (r - 1)) (sc (onP p K) r)).1.1 = 0)
include h2 h5 hB hp ht hK hpos hend
theorem on_zr (N : Nest) : (N.Zr (fnP (finP (bPly p))) ↔ N.Zr (fnP (finP (bPly (onP p K))))) ∧ ¬ N.Om (fnP (finP (bPly (onP p K)))) 2 := by
  have C := (ec_chain h2 h5 (show B ≤ 10000 by omega) hp ht hK hpos hend).fine (k := kap) (l := fun i => lam (ec p i).1) kap_pos (fun i => lam_pos _)
  obtain ⟨c, hc, e⟩ := on_div h2 h5 (show B ≤ 10000 by omega) hp ht hK hpos hend
  obtain ⟨u, hu, eu⟩ := Go.Sturm.inv_pos (lam_pos p.1)
  have key := Go.Sturm.once_zr C (q := fnP (finP (bPly (onP p K)))) (fnP_pol _) (c := lam (onP p K).1 * lam (ec p K).1 * u * c) (fun h => by
    have h1 := Rat.mul_pos (Rat.mul_pos (lam_pos (onP p K).1) (lam_pos (ec p K).1)) hu
    rcases Rat.mul_eq_zero.1 h with g | g
    · grind
    · exact hc g) (fun x => by
    show lam (onP p K).1 * lam (ec p K).1 * u * c * (lam p.1 * fnP (bPly p) (kap * x)) = fnP (finP (bPly (onP p K))) x * (lam (ec p K).1 * fnP (bPly (ec p K)) (kap * x))
    rw [fin_fn]
    show _ = lam (onP p K).1 * fnP (bPly (onP p K)) (kap * x) * _
    have e1 := e (kap * x)
    have : lam (onP p K).1 * lam (ec p K).1 * u * c * (lam p.1 * fnP (bPly p) (kap * x)) = lam (onP p K).1 * lam (ec p K).1 * (lam p.1 * u) * (c * fnP (bPly p) (kap * x)) := by grind
    rw [this, eu, e1]
    grind) N
  have e0 : fine kap (fun i => lam (ec p i).1) (fun i => fnP (bPly (ec p i))) 0 = fnP (finP (bPly p)) := (fin_fn (bPly p)).symm
  rw [e0] at key
  exact key
include hr1 hr4 hsp hse
theorem st_chain : Chain (fun i => fnP (finP (bPly (sc (onP p K) i)))) r := by
  obtain ⟨g1, g2, g3, g4⟩ := on_len h2 h5 (show B ≤ 10000 by omega) hp ht hK hpos hend
  have hb : oBd B 4 ≤ 700000 := by
    unfold oBd
    have e : (6 : Nat) ^ 4 = 1296 := by decide
    rw [e]
    omega
  have C := (sc_chain g1 g2 hb g4 g3 hr1 hr4 hsp hse).fine (k := kap) (l := fun i => lam (sc (onP p K) i).1) kap_pos (fun i => lam_pos _)
  rwa [show fine kap (fun i => lam (sc (onP p K) i).1) (fun i => fnP (bPly (sc (onP p K) i))) = fun i => fnP (finP (bPly (sc (onP p K) i))) from funext fun i => (fin_fn (bPly (sc (onP p K) i))).symm] at C
theorem tnN_cB (x : Int) : tnN (sc (onP p K)) (r + 1) x = cB (fun i => fnP (finP (bPly (sc (onP p K) i)))) r (x : Rat) := by
  have C := st_chain h2 h5 hB hp ht hK hpos hend hr1 hr4 hsp hse
  obtain ⟨N, hN⟩ := Go.Sturm.nest_at (x : Rat)
  have hex : ∀ i, ∃ t : Nat × Int, i ≤ r → N.Loc (fnP (finP (bPly (sc (onP p K) i)))) t.1 t.2 := fun i => by
    by_cases hi : i ≤ r
    · obtain ⟨m, s, h⟩ := Nest.has_loc (N := N) (C.pol i hi) (C.nz i hi)
      exact ⟨(m, s), fun _ => h⟩
    · exact ⟨(0, 0), fun h => absurd h hi⟩
  obtain ⟨t, ht'⟩ := Classical.axiomOfChoice hex
  have hl : ∀ i, i ≤ r → N.Loc (fnP (finP (bPly (sc (onP p K) i)))) (t i).1 (t i).2 := fun i hi => ht' i hi
  obtain ⟨a1, a2, a3, a4⟩ := C.toChain0.orders (m := fun i => (t i).1) (s := fun i => (t i).2) hl
  have hno := (on_zr h2 h5 hB hp ht hK hpos hend N).2
  have hm0 : (t 0).1 ≤ 1 := Nat.le_of_not_lt fun hlt => hno (((hl 0 (Nat.zero_le _)).om (C.pol 0 (Nat.zero_le _))).le (by omega))
  have hmr : (t r).1 = 0 := by
    by_cases h : (t 0).1 = 0
    · exact a4 h
    · have := (a3 (by omega)).1; omega
  have key := C.turns hN (m := fun i => (t i).1) (s := fun i => (t i).2) hl hmr
  rw [← key]
  unfold tnN
  congr 2
  exact funext fun i => bS_sg _ _
/-- The answer's count and the code's differ by the same number everywhere. -/
theorem counts {a b : Int} (hab : a ≤ b) : rtC (finP (bPly p)) a - tnN (sc (onP p K)) (r + 1) a = rtC (finP (bPly p)) b - tnN (sc (onP p K)) (r + 1) b := by
  have hF2 : 2 ≤ (finP (bPly p)).1 := h2
  have hFt := fin_Tp ht.tp
  have C1 := cq_chain hF2 (fin_Cn (bV_Cn p)) hFt
  have C2 := st_chain h2 h5 hB hp ht hK hpos hend hr1 hr4 hsp hse
  rw [tnN_cB h2 h5 hB hp ht hK hpos hend hr1 hr4 hsp hse, tnN_cB h2 h5 hB hp ht hK hpos hend hr1 hr4 hsp hse, rtC_eq hF2 hFt, rtC_eq hF2 hFt]
  exact Go.Sturm.two_chains C1 C2 (fun N => (on_zr h2 h5 hB hp ht hK hpos hend N).1) (Rat.intCast_le_intCast.2 hab)
omit hr1 hr4 hsp hse in
theorem bS_zero (x : Int) : bS (onP p K) x = 0 ↔ hor (finP (bPly p)).2 x 0 (finP (bPly p)).1 = 0 := by
  obtain ⟨N, hN⟩ := Go.Sturm.nest_at (x : Rat)
  have h := (on_zr h2 h5 hB hp ht hK hpos hend N).1
  rw [Go.Sturm.zr_on (fnP_pol _) hN, Go.Sturm.zr_on (fnP_pol _) hN] at h
  have e1 : fnP (finP (bPly p)) (x : Rat) = ((hor (finP (bPly p)).2 x 0 (finP (bPly p)).1 : Int) : Rat) := hq_hor _ _ _ _
  have e2 : fnP (finP (bPly (onP p K))) (x : Rat) = ((hor (finP (bPly (onP p K))).2 x 0 (finP (bPly (onP p K))).1 : Int) : Rat) := hq_hor _ _ _ _
  have c0 : ∀ n : Int, ((n : Int) : Rat) = 0 ↔ n = 0 := fun n => ⟨fun h => Decidable.byContradiction fun g => cast_ne g h, fun h => by rw [h]; rfl⟩
  rw [e1, e2, c0, c0] at h
  unfold bS
  rw [Int.sign_eq_zero_iff_zero]
  exact h.symm
end
end Go.Proofs.Ytgijfbcfajhmlaa

namespace Go.Proofs.Ytgijfbcfajhmlaa
open Go.Gv
open Go.Em (nw)

section
variable (T : Int → Int) (z : Int → Bool) (lo hi : Int)
/-- The i-th root is at or ahead of x. -/
def gS (i x : Int) : Int := if T (lo - 1) - T x ≥ i then 1 else 0
def gR (i : Int) : Int × Int := sgi (gS T lo i) 0 (sgn (gS T lo i) 0 (hi - (lo - 1)).toNat (lo - 1, hi)) (lo - 1, hi)
def gAt (i : Int) : Int := cond (cond (z (gR T lo hi i).2) (T (lo - 1) - T (gR T lo hi i).2 == i) false) (gR T lo hi i).2 ((gR T lo hi i).2 - 1)
def lst : Nat → List Int
  | 0 => []
  | k + 1 => lst k ++ if gAt T z lo hi ((k + 1 : Nat) : Int) ≥ lo then [gAt T z lo hi ((k + 1 : Nat) : Int)] else []
end
theorem lst_pre (T : Int → Int) (z : Int → Bool) (lo hi : Int) (k : Nat) : ∀ d, ∃ R, lst T z lo hi (k + d) = lst T z lo hi k ++ R
  | 0 => ⟨[], (List.append_nil _).symm⟩
  | d + 1 => by
    obtain ⟨R, h⟩ := lst_pre T z lo hi k d
    refine ⟨R ++ (if gAt T z lo hi ((k + d + 1 : Nat) : Int) ≥ lo then [gAt T z lo hi ((k + d + 1 : Nat) : Int)] else []), ?_⟩
    show lst T z lo hi (k + d) ++ (if gAt T z lo hi ((k + d + 1 : Nat) : Int) ≥ lo then [gAt T z lo hi ((k + d + 1 : Nat) : Int)] else []) = _
    rw [h, List.append_assoc]
theorem lst_len (T : Int → Int) (z : Int → Bool) (lo hi : Int) : ∀ k, (lst T z lo hi k).length ≤ k
  | 0 => Nat.le_refl _
  | k + 1 => by
    have := lst_len T z lo hi k
    show (lst T z lo hi k ++ _).length ≤ k + 1
    rw [List.length_append]
    split
    · show _ + 1 ≤ _; omega
    · show _ + 0 ≤ _; omega
theorem gR_ok {T : Int → Int} {lo hi i : Int} (hlh : lo ≤ hi) (h1 : 1 ≤ i) (h2 : i ≤ T (lo - 1) - T hi) : lo ≤ (gR T lo hi i).2 ∧ (gR T lo hi i).2 ≤ hi ∧ (gR T lo hi i).1 = (gR T lo hi i).2 - 1 ∧ T (lo - 1) - T ((gR T lo hi i).2 - 1) < i ∧ i ≤ T (lo - 1) - T (gR T lo hi i).2 := by
  obtain ⟨_, g2, g3⟩ := sgn_ok (gS T lo i) 0 (hi - (lo - 1)).toNat (lo - 1, hi) (by show lo - 1 < hi; omega) (Nat.le_refl _)
  obtain ⟨k1, k2, k3⟩ := g3 _ (Nat.le_refl _)
  have s1 : gS T lo i (lo - 1) = 0 := by unfold gS; rw [if_neg (by omega)]
  have s2 : gS T lo i hi ≠ 0 := by unfold gS; rw [if_pos h2]; decide
  obtain ⟨q1, q2⟩ := sgi_sg (S := gS T lo i) (s := 0) (sgn (gS T lo i) 0 (hi - (lo - 1)).toNat (lo - 1, hi)) (lo - 1, hi) s1 s2
  have e : gR T lo hi i = sgi (gS T lo i) 0 (sgn (gS T lo i) 0 (hi - (lo - 1)).toNat (lo - 1, hi)) (lo - 1, hi) := rfl
  rw [← e] at g2 k1 k2 k3 q1 q2
  replace k1 : lo - 1 ≤ (gR T lo hi i).1 := k1
  replace k2 : (gR T lo hi i).2 ≤ hi := k2
  have e1 : (gR T lo hi i).1 = (gR T lo hi i).2 - 1 := by omega
  refine ⟨by omega, k2, e1, ?_, ?_⟩
  · rw [← e1]
    unfold gS at q1
    by_cases h : T (lo - 1) - T (gR T lo hi i).1 ≥ i
    · rw [if_pos h] at q1; cases q1
    · omega
  · unfold gS at q2
    by_cases h : T (lo - 1) - T (gR T lo hi i).2 ≥ i
    · exact h
    · rw [if_neg h] at q2; exact absurd rfl q2
theorem qpM_eq {a b : Int} (h : a < b) (h1 : -2000000000000000 ≤ a) (h2 : b ≤ 2000000000000000) : qpM a b = mdI a b := by
  unfold qpM mdI
  rw [w64_id (n := b - a) (by omega) (by omega), show (b - a).tdiv 2 = (b - a) / 2 from Int.tdiv_eq_ediv_of_nonneg (by omega), w64_id (n := (b - a) / 2) (by omega) (by omega), w64_id (by omega) (by omega)]
section
variable {q : BP} {lo hi : Int} {c : Nat} {C : Nat → BP} {T : Int → Int} (hlh : lo ≤ hi) (hlo : -1125899906842624 ≤ lo) (hhi : hi ≤ 1125899906842624)
  (hT : ∀ x, lo - 1 ≤ x → x ≤ hi → FSpec Try.prog 41 [bcA c C, iA x] (iA (T x))) (hTb : ∀ x, 0 ≤ T x ∧ T x ≤ 1000)
def decT (l : List AV) : Int := decI (a1 l)
/-- Turns, as a function of what is handed to it. -/
def tfT (T : Int → Int) (l : List AV) : Int := T (decT l)
theorem tfT_eq (c : Nat) (C : Nat → BP) (T : Int → Int) (x : Int) : tfT T [bcA c C, iA x] = T x := rfl
include hlh hlo hhi hT hTb
omit hlh hlo hhi hTb in
theorem gTn_pos {x : Int} {o : Option Out} (h1 : lo - 1 ≤ x) (h2 : x ≤ hi) : gTn (tfT T) c C x o = o := gate_pos (hT x h1 h2)
theorem qi_leads {al : Int} {m : Nat} {Y : Nat → List AV} {i : Int} : Leads Try.prog (.loop (loopAt Try.f22 1)) (qpI q lo hi c C (T (lo - 1)) al m Y i (lo - 1) hi) (.exit 2) (qpI q lo hi c C (T (lo - 1)) al m Y i (gR T lo hi i).1 (gR T lo hi i).2) := by
  have ks : ∀ e, e ∈ [kS Try.prog 41 (fun l => iA (tfT T l))] → KOk Try.prog e := k_cons kS_ok k_nil
  obtain ⟨g1, g2, g3⟩ := sgn_ok (gS T lo i) 0 (hi - (lo - 1)).toNat (lo - 1, hi) (by show lo - 1 < hi; omega) (Nat.le_refl _)
  refine loop_rule (fun j => qpI q lo hi c C (T (lo - 1)) al m Y i (sgi (gS T lo i) 0 j (lo - 1, hi)).1 (sgi (gS T lo i) 0 j (lo - 1, hi)).2) (sgn (gS T lo i) 0 (hi - (lo - 1)).toNat (lo - 1, hi)) (.exit 2) _ (by simp) (fun j hj => ?_) ?_
  · obtain ⟨k1, k2, k3⟩ := g3 j (by omega)
    have k4 := g1 j hj
    replace k1 : lo - 1 ≤ (sgi (gS T lo i) 0 j (lo - 1, hi)).1 := k1
    replace k2 : (sgi (gS T lo i) 0 j (lo - 1, hi)).2 ≤ hi := k2
    rw [sgi_succ]
    generalize sgi (gS T lo i) 0 j (lo - 1, hi) = s at *
    have hm : s.1 < mdI s.1 s.2 ∧ mdI s.1 s.2 < s.2 := by unfold mdI; omega
    have st := qi_step (tfT T) q lo hi c C (T (lo - 1)) al m Y i s.1 s.2
    refine leads_ev (finN_sub _ _) e_nil ks noL_ok (st.trans ?_)
    have t1 := hTb (lo - 1)
    have t2 := hTb (mdI s.1 s.2)
    unfold qiT
    rw [qpM_eq (by omega) (by omega) (by omega), tfT_eq, w64_id (n := s.2 - s.1) (by omega) (by omega), decide_eq_true k4, gTn_pos hT (by omega) (by omega), w64_id (n := T (lo - 1) - T (mdI s.1 s.2)) (by omega) (by omega)]
    unfold sgs gS
    by_cases h : T (lo - 1) - T (mdI s.1 s.2) ≥ i
    · rw [decide_eq_true h, if_pos h, if_neg (by decide)]
      rfl
    · rw [decide_eq_false h, if_neg h, if_pos rfl]
      rfl
  · obtain ⟨k1, k2, k3⟩ := g3 _ (Nat.le_refl _)
    replace k1 : lo - 1 ≤ (sgi (gS T lo i) 0 (sgn (gS T lo i) 0 (hi - (lo - 1)).toNat (lo - 1, hi)) (lo - 1, hi)).1 := k1
    replace k2 : (sgi (gS T lo i) 0 (sgn (gS T lo i) 0 (hi - (lo - 1)).toNat (lo - 1, hi)) (lo - 1, hi)).2 ≤ hi := k2
    refine leads_ev (finE_sub _ _) e_nil ks noL_ok ((qi_end (tfT T) q lo hi c C (T (lo - 1)) al m Y i _ _).trans ?_)
    unfold qiT
    rw [w64_id (by omega) (by omega), decide_eq_false g2, cond_false]
    rfl
variable {z : Int → Bool} (hz : ∀ x, lo - 1 ≤ x → x ≤ hi → FSpec Try.prog 42 [bpP q, iA x] (iA (bS q x))) (hzb : ∀ x, z x = (bS q x == 0))
include hz hzb
theorem qo_leads {n : Nat} (hn : (n : Int) = T (lo - 1) - T hi) : Leads Try.prog (.loop (loopAt Try.f22 0)) (qpO q lo hi c C (T (lo - 1)) (T (lo - 1) - T hi) 0 (fun k => [iA ((lst T z lo hi n).getD k 0)]) 1) (.exit 0) (qpO q lo hi c C (T (lo - 1)) (T (lo - 1) - T hi) (lst T z lo hi n).length (fun k => [iA ((lst T z lo hi n).getD k 0)]) ((n + 1 : Nat) : Int)) := by
  have ks : ∀ e, e ∈ qoK (tfT T) atF → KOk Try.prog e := k_cons kS_ok (k_cons kS_ok k_nil)
  have tb1 := hTb (lo - 1)
  have tb2 := hTb hi
  have key : Leads Try.prog (.loop (loopAt Try.f22 0)) (qpO q lo hi c C (T (lo - 1)) (T (lo - 1) - T hi) (lst T z lo hi 0).length (fun k => [iA ((lst T z lo hi n).getD k 0)]) ((0 + 1 : Nat) : Int)) (.exit 0) (qpO q lo hi c C (T (lo - 1)) (T (lo - 1) - T hi) (lst T z lo hi n).length (fun k => [iA ((lst T z lo hi n).getD k 0)]) ((n + 1 : Nat) : Int)) := by
    refine loop_rule (fun k => qpO q lo hi c C (T (lo - 1)) (T (lo - 1) - T hi) (lst T z lo hi k).length (fun j => [iA ((lst T z lo hi n).getD j 0)]) ((k + 1 : Nat) : Int)) n (.exit 0) _ (by simp) (fun k hk => ?_) ?_
    · have hi1 : (1 : Int) ≤ ((k + 1 : Nat) : Int) := by omega
      have hi2 : ((k + 1 : Nat) : Int) ≤ T (lo - 1) - T hi := by omega
      obtain ⟨r1, r2, r3, r4, r5⟩ := gR_ok hlh hi1 hi2
      have hlen := lst_len T z lo hi k
      have inner := qi_leads (q := q) (c := c) (C := C) (al := T (lo - 1) - T hi) (m := (lst T z lo hi k).length) (Y := fun j => [iA ((lst T z lo hi n).getD j 0)]) (i := ((k + 1 : Nat) : Int)) hlh hlo hhi hT hTb
      have el : w64 (lo - 1) = lo - 1 := w64_id (by omega) (by omega)
      have hL : LOk Try.prog (qoL q lo hi c C (T (lo - 1)) (T (lo - 1) - T hi) (lst T z lo hi k).length (fun j => [iA ((lst T z lo hi n).getD j 0)]) ((k + 1 : Nat) : Int) (gR T lo hi ((k + 1 : Nat) : Int)).1 (gR T lo hi ((k + 1 : Nat) : Int)).2) (loopAt Try.f22 0) := by
        unfold qoL
        rw [el]
        exact lok_at (i := 14) 0 1 (by kernel_rfl) (by kernel_rfl) (toldF_sound inner)
      have t3 := hTb (gR T lo hi ((k + 1 : Nat) : Int)).2
      have hB : qoB (tfT T) atF q c C (T (lo - 1)) ((k + 1 : Nat) : Int) (gR T lo hi ((k + 1 : Nat) : Int)).2 = cond (z (gR T lo hi ((k + 1 : Nat) : Int)).2) (T (lo - 1) - T (gR T lo hi ((k + 1 : Nat) : Int)).2 == ((k + 1 : Nat) : Int)) false := by
        unfold qoB
        rw [atF_eq, tfT_eq, hzb, w64_id (n := T (lo - 1) - _) (by omega) (by omega)]
      have head : ∀ (y : Int → Option Out), qoT (tfT T) atF q lo hi c C (T (lo - 1)) (T (lo - 1) - T hi) (lst T z lo hi k).length (fun j => [iA ((lst T z lo hi n).getD j 0)]) ((k + 1 : Nat) : Int) (gR T lo hi ((k + 1 : Nat) : Int)).2 y none = y (gAt T z lo hi ((k + 1 : Nat) : Int)) := fun y => by
        unfold qoT
        rw [decide_eq_true hi2, gate_pos (Sub.refl _), atF_eq, gate_pos (hz _ (by omega) r2), gTn_pos hT (by omega) r2, hB, w64_id (n := (gR T lo hi ((k + 1 : Nat) : Int)).2 - 1) (by omega) (by omega)]
        unfold gAt
        cases cond (z (gR T lo hi ((k + 1 : Nat) : Int)).2) (T (lo - 1) - T (gR T lo hi ((k + 1 : Nat) : Int)).2 == ((k + 1 : Nat) : Int)) false <;> rfl
      by_cases ha : gAt T z lo hi ((k + 1 : Nat) : Int) ≥ lo
      · have st := qo_stepA (tfT T) atF q lo hi c C (T (lo - 1)) (T (lo - 1) - T hi) (lst T z lo hi k).length (fun j => [iA ((lst T z lo hi n).getD j 0)]) ((k + 1 : Nat) : Int) (gR T lo hi ((k + 1 : Nat) : Int)).1 (gR T lo hi ((k + 1 : Nat) : Int)).2
        rw [head] at st
        unfold qoA at st
        rw [decide_eq_true ha, apB_t (by omega), w64_next (by omega)] at st
        have e1 : lst T z lo hi (k + 1) = lst T z lo hi k ++ [gAt T z lo hi ((k + 1 : Nat) : Int)] := by
          show lst T z lo hi k ++ (if _ then _ else _) = _
          rw [if_pos ha]
        have e2 : (lst T z lo hi (k + 1)).length = (lst T z lo hi k).length + 1 := by rw [e1, List.length_append]; rfl
        rw [e2]
        refine (leads_ev (finN_sub _ _) e_nil ks hL st).sub (Sub.refl _) ?_
        obtain ⟨R, hR⟩ := lst_pre T z lo hi (k + 1) (n - (k + 1))
        rw [show k + 1 + (n - (k + 1)) = n by omega, e1] at hR
        have hget : (lst T z lo hi n).getD (lst T z lo hi k).length 0 = gAt T z lo hi ((k + 1 : Nat) : Int) := by
          rw [hR, List.append_assoc, List.getD_eq_getElem?_getD, List.getElem?_append_right (Nat.le_refl _), Nat.sub_self]
          rfl
        exact sub_same ⟨Or.inr ⟨3, 1, (lst T z lo hi k).length + 1, _, _, rfl, rfl, fun j hj => (app_i' (g := fun j => (lst T z lo hi n).getD j 0) hj hget).symm ▸ rfl⟩, trivial⟩
      · have st := qo_stepS (tfT T) atF q lo hi c C (T (lo - 1)) (T (lo - 1) - T hi) (lst T z lo hi k).length (fun j => [iA ((lst T z lo hi n).getD j 0)]) ((k + 1 : Nat) : Int) (gR T lo hi ((k + 1 : Nat) : Int)).1 (gR T lo hi ((k + 1 : Nat) : Int)).2
        rw [head] at st
        unfold qoA at st
        rw [decide_eq_false ha, w64_next (by omega)] at st
        have e1 : lst T z lo hi (k + 1) = lst T z lo hi k := by
          show lst T z lo hi k ++ (if _ then _ else _) = _
          rw [if_neg ha, List.append_nil]
        rw [e1]
        exact leads_ev (finS_sub _ _ _) e_nil ks hL st
    · refine leads_ev (finE_sub _ _) e_nil ks (lok_none 14) ((qo_end (tfT T) atF q lo hi c C (T (lo - 1)) (T (lo - 1) - T hi) _ _ ((n + 1 : Nat) : Int)).trans ?_)
      rw [decide_eq_false (show ¬ ((n + 1 : Nat) : Int) ≤ T (lo - 1) - T hi by omega), cond_false]
  exact key
end
end Go.Proofs.Ytgijfbcfajhmlaa

namespace Go.Proofs.Ytgijfbcfajhmlaa
open Go.Gv
open Go.Em (nw)

def zI (b : Bool) : Int := cond b 1 0
section
variable (T : Int → Int) (z : Int → Bool) (lo : Int)
/-- The places, going up. -/
def Xl : Nat → List Int
  | 0 => []
  | d + 1 => Xl d ++ ((if 1 ≤ d then List.replicate (T (lo + (d : Nat) - 1) - T (lo + (d : Nat)) - zI (z (lo + (d : Nat)))).toNat (lo + (d : Nat) - 1) else []) ++ cond (z (lo + (d : Nat))) [lo + ((d : Nat) : Int)] [])
end
section
variable {T : Int → Int} {z : Int → Bool} {lo hi : Int} (hlh : lo ≤ hi) (mono : ∀ x y, lo - 1 ≤ x → x ≤ y → y ≤ hi → T y ≤ T x) (hz : ∀ x, lo ≤ x → x ≤ hi → z x = true → T x + 1 ≤ T (x - 1))
include hlh mono hz
theorem lst_X : ∀ d : Nat, lo - 1 + (d : Nat) ≤ hi → lst T z lo hi (T (lo - 1) - T (lo - 1 + (d : Nat))).toNat = Xl T z lo d
  | 0, _ => by rw [show lo - 1 + ((0 : Nat) : Int) = lo - 1 by omega, Int.sub_self]; rfl
  | d + 1, hd => by
    have ih := lst_X d (by omega)
    generalize hb : lo + ((d : Nat) : Int) = b
    have eb1 : lo - 1 + ((d : Nat) : Int) = b - 1 := by omega
    have eb2 : lo - 1 + ((d + 1 : Nat) : Int) = b := by omega
    rw [eb1] at ih
    rw [eb2]
    have m1 := mono (lo - 1) (b - 1) (by omega) (by omega) (by omega)
    have m2 := mono (b - 1) b (by omega) (by omega) (by omega)
    have m3 := mono b hi (by omega) (by omega) (by omega)
    have uniq : ∀ i : Int, T (lo - 1) - T (b - 1) < i → i ≤ T (lo - 1) - T b → (gR T lo hi i).2 = b := fun i h1 h2 => by
      obtain ⟨r1, r2, r3, r4, r5⟩ := gR_ok (T := T) (i := i) hlh (by omega) (by omega)
      rcases Int.lt_trichotomy (gR T lo hi i).2 b with h | h | h
      · have := mono (gR T lo hi i).2 (b - 1) (by omega) (by omega) (by omega); omega
      · exact h
      · have := mono b ((gR T lo hi i).2 - 1) (by omega) (by omega) (by omega); omega
    obtain ⟨c, hc⟩ : ∃ c : Nat, T (lo - 1) - T (b - 1) = (c : Int) := ⟨(T (lo - 1) - T (b - 1)).toNat, by omega⟩
    obtain ⟨e, he⟩ : ∃ e : Nat, T (b - 1) - T b = (e : Int) := ⟨(T (b - 1) - T b).toNat, by omega⟩
    have hce : (T (lo - 1) - T b).toNat = c + e := by omega
    rw [hc, Int.toNat_natCast] at ih
    rw [hce]
    have part : ∀ j, j ≤ e → (j < e ∨ z b = false) → lst T z lo hi (c + j) = Xl T z lo d ++ (if 1 ≤ d then List.replicate j (b - 1) else []) := fun j => by
      induction j with
      | zero =>
        intro _ _
        rw [Nat.add_zero, ih]
        split
        · exact (List.append_nil _).symm
        · exact (List.append_nil _).symm
      | succ j ihj =>
        intro hj hor
        have hp := ihj (by omega) (by rcases hor with h | h; · exact Or.inl (by omega)
                                      · exact Or.inr h)
        have hg : gAt T z lo hi ((c + j + 1 : Nat) : Int) = b - 1 := by
          have hu := uniq ((c + j + 1 : Nat) : Int) (by omega) (by omega)
          unfold gAt
          rw [hu]
          have : cond (z b) (T (lo - 1) - T b == ((c + j + 1 : Nat) : Int)) false = false := by
            rcases hor with h | h
            · rw [beq_false_of_ne (show T (lo - 1) - T b ≠ ((c + j + 1 : Nat) : Int) by omega)]
              cases z b <;> rfl
            · rw [h]; rfl
          rw [this]
          rfl
        show lst T z lo hi (c + j) ++ (if gAt T z lo hi ((c + j + 1 : Nat) : Int) ≥ lo then [gAt T z lo hi ((c + j + 1 : Nat) : Int)] else []) = _
        rw [hp, hg, List.append_assoc]
        congr 1
        by_cases h1 : 1 ≤ d
        · rw [if_pos h1, if_pos h1, if_pos (by omega), List.replicate_succ']
        · rw [if_neg h1, if_neg h1, if_neg (by omega)]
          rfl
    show _ = Xl T z lo d ++ ((if 1 ≤ d then List.replicate (T (lo + ((d : Nat) : Int) - 1) - T (lo + ((d : Nat) : Int)) - zI (z (lo + ((d : Nat) : Int)))).toNat (lo + ((d : Nat) : Int) - 1) else []) ++ cond (z (lo + ((d : Nat) : Int))) [lo + ((d : Nat) : Int)] [])
    rw [hb, he]
    cases hzb : z b with
    | false =>
      rw [part e (Nat.le_refl _) (Or.inr hzb)]
      show _ = _ ++ (_ ++ [])
      rw [List.append_nil, show ((e : Int) - zI false).toNat = e by show ((e : Int) - 0).toNat = e; omega]
    | true =>
      have h1 := hz b (by omega) (by omega) hzb
      obtain ⟨e', rfl⟩ : ∃ e', e = e' + 1 := ⟨e - 1, by omega⟩
      have hp := part e' (by omega) (Or.inl (by omega))
      have hu := uniq ((c + e' + 1 : Nat) : Int) (by omega) (by omega)
      have hg : gAt T z lo hi ((c + e' + 1 : Nat) : Int) = b := by
        unfold gAt
        rw [hu, hzb, show (T (lo - 1) - T b == ((c + e' + 1 : Nat) : Int)) = true from by rw [beq_iff_eq]; omega]
        rfl
      show lst T z lo hi (c + e') ++ (if gAt T z lo hi ((c + e' + 1 : Nat) : Int) ≥ lo then [gAt T z lo hi ((c + e' + 1 : Nat) : Int)] else []) = _
      rw [hp, hg, if_pos (show b ≥ lo by omega), List.append_assoc]
      show _ = Xl T z lo d ++ ((if 1 ≤ d then List.replicate (((e' + 1 : Nat) : Int) - 1).toNat (b - 1) else []) ++ [b])
      rw [show (((e' + 1 : Nat) : Int) - 1).toNat = e' by omega]
variable {N : Int → Int} {k : Int} (hN : ∀ x, lo ≤ x → x ≤ hi → N x = T x + k + zI (z x))
include hN
omit hlh in
theorem X_can : ∀ d : Nat, lo + (d : Nat) ≤ hi → Xl T z lo (d + 1) = can N lo d ++ cond (z (lo + (d : Nat))) [lo + ((d : Nat) : Int)] []
  | 0, _ => by
    show [] ++ ((if 1 ≤ 0 then _ else []) ++ _) = [] ++ _
    rw [if_neg (by decide)]
    rfl
  | d + 1, hd => by
    have ih := X_can d (by omega)
    show Xl T z lo (d + 1) ++ ((if 1 ≤ d + 1 then List.replicate (T (lo + ((d + 1 : Nat) : Int) - 1) - T (lo + ((d + 1 : Nat) : Int)) - zI (z (lo + ((d + 1 : Nat) : Int)))).toNat (lo + ((d + 1 : Nat) : Int) - 1) else []) ++ cond (z (lo + ((d + 1 : Nat) : Int))) [lo + ((d + 1 : Nat) : Int)] []) = _
    rw [if_pos (by omega), ih, can_app N d lo 1]
    have e1 : lo + ((d + 1 : Nat) : Int) - 1 = lo + (d : Nat) := by omega
    have e2 : lo + (d : Nat) + 1 = lo + ((d + 1 : Nat) : Int) := by omega
    rw [e1]
    have n1 := hN (lo + (d : Nat)) (by omega) (by omega)
    have n2 := hN (lo + ((d + 1 : Nat) : Int)) (by omega) (by omega)
    have m := mono (lo + (d : Nat)) (lo + ((d + 1 : Nat) : Int)) (by omega) (by omega) hd
    have hc1 : can N (lo + (d : Nat)) 1 = cond (z (lo + (d : Nat))) [lo + ((d : Nat) : Int)] [] ++ List.replicate (T (lo + ((d : Nat) : Int)) - T (lo + ((d + 1 : Nat) : Int)) - zI (z (lo + ((d + 1 : Nat) : Int)))).toNat (lo + ((d : Nat) : Int)) := by
      show List.replicate (N (lo + (d : Nat)) - N (lo + (d : Nat) + 1)).toNat (lo + (d : Nat)) ++ [] = _
      have h3 : z (lo + ((d + 1 : Nat) : Int)) = true → T (lo + ((d + 1 : Nat) : Int)) + 1 ≤ T (lo + (d : Nat)) := fun h => by have := hz _ (by omega) hd h; rwa [e1] at this
      rw [List.append_nil, e2, n1, n2]
      cases h1 : z (lo + (d : Nat)) <;> cases h2 : z (lo + ((d + 1 : Nat) : Int))
      · show List.replicate (T (lo + ((d : Nat) : Int)) + k + 0 - (T (lo + ((d + 1 : Nat) : Int)) + k + 0)).toNat _ = [] ++ List.replicate (T (lo + ((d : Nat) : Int)) - T (lo + ((d + 1 : Nat) : Int)) - 0).toNat _
        rw [List.nil_append]
        congr 1
        omega
      · show List.replicate (T (lo + ((d : Nat) : Int)) + k + 0 - (T (lo + ((d + 1 : Nat) : Int)) + k + 1)).toNat _ = [] ++ List.replicate (T (lo + ((d : Nat) : Int)) - T (lo + ((d + 1 : Nat) : Int)) - 1).toNat _
        rw [List.nil_append]
        congr 1
        omega
      · show List.replicate (T (lo + ((d : Nat) : Int)) + k + 1 - (T (lo + ((d + 1 : Nat) : Int)) + k + 0)).toNat _ = [lo + ((d : Nat) : Int)] ++ List.replicate (T (lo + ((d : Nat) : Int)) - T (lo + ((d + 1 : Nat) : Int)) - 0).toNat _
        rw [show (T (lo + ((d : Nat) : Int)) + k + 1 - (T (lo + ((d + 1 : Nat) : Int)) + k + 0)).toNat = (T (lo + ((d : Nat) : Int)) - T (lo + ((d + 1 : Nat) : Int)) - 0).toNat + 1 by omega]
        rfl
      · have := h3 h2
        show List.replicate (T (lo + ((d : Nat) : Int)) + k + 1 - (T (lo + ((d + 1 : Nat) : Int)) + k + 1)).toNat _ = [lo + ((d : Nat) : Int)] ++ List.replicate (T (lo + ((d : Nat) : Int)) - T (lo + ((d + 1 : Nat) : Int)) - 1).toNat _
        rw [show (T (lo + ((d : Nat) : Int)) + k + 1 - (T (lo + ((d + 1 : Nat) : Int)) + k + 1)).toNat = (T (lo + ((d : Nat) : Int)) - T (lo + ((d + 1 : Nat) : Int)) - 1).toNat + 1 by omega]
        rfl
    rw [hc1, List.append_assoc, List.append_assoc, List.append_assoc]
theorem lst_can : lst T z lo hi (T (lo - 1) - T hi).toNat = can N lo (hi - lo).toNat ++ cond (z hi) [hi] [] := by
  have h1 := lst_X hlh mono hz ((hi - lo).toNat + 1) (by omega)
  have h2 := X_can mono hz hN (hi - lo).toNat (by omega)
  rw [show lo - 1 + (((hi - lo).toNat + 1 : Nat) : Int) = hi by omega] at h1
  rw [show lo + ((hi - lo).toNat : Int) = hi by omega] at h2
  rw [h1, h2]
end
/-! ### places -/
theorem pl'_spec {p0 : BP} {B : Nat} {lo hi : Int} (h5 : p0.1 ≤ 5) (hB : B ≤ 400) (hp : PBP p0 B) (hlo : -1125899906842624 ≤ lo) (hhi : hi ≤ 1125899906842624) : FSpec Try.prog 22 [bpP p0, iA lo, iA hi] (lsJ (cond (plB (btl p0.2 p0.1) lo hi) [] (plcP (btl p0.2 p0.1, bval p0.1 p0.2) lo hi))) := by
  have hcut : FSpec Try.prog 25 [bpP p0] (bpP (btl p0.2 p0.1, p0.2)) := pc_spec p0.2 (by omega)
  have hle : btl p0.2 p0.1 ≤ p0.1 := tl_le _ _
  have ebad : ∀ h : plB (btl p0.2 p0.1) lo hi = true, cond (decide (((btl p0.2 p0.1 : Nat) : Int) < 2)) true (decide (lo > hi)) = true := fun h => h
  cases hb : plB (btl p0.2 p0.1) lo hi with
  | true =>
    refine FSpec.of_res (r := nilA) (gspec e_nil (k_cons kS_ok (k_cons (kno_ok _) k_nil)) Try.func22 (by kernel_rfl) (by kernel_rfl) (lok_none 10) rfl ((qp_ev0 p0 (btl p0.2 p0.1, p0.2) lo hi).trans ?_)) fun _ _ => nil_like
    unfold gP
    rw [gate_pos hcut, show cond (decide ((((btl p0.2 p0.1, p0.2) : BP).1 : Int) < 2)) true (decide (lo > hi)) = true from hb]
    rfl
  | false =>
    have hb' : cond (decide (((btl p0.2 p0.1 : Nat) : Int) < 2)) true (decide (lo > hi)) = false := hb
    have g : 2 ≤ btl p0.2 p0.1 ∧ lo ≤ hi := by
      by_cases g : ((btl p0.2 p0.1 : Nat) : Int) < 2
      · rw [decide_eq_true g] at hb'; cases hb'
      · rw [decide_eq_false g, cond_false] at hb'
        have := of_decide_eq_false hb'
        omega
    generalize hpe : ((btl p0.2 p0.1, p0.2) : BP) = p at *
    have h2 : 2 ≤ p.1 := by rw [← hpe]; exact g.1
    have hp5 : p.1 ≤ 5 := by rw [← hpe]; show btl p0.2 p0.1 ≤ 5; omega
    have hpb : PBP p B := by rw [← hpe]; exact fun i hi => hp i (by have : i < btl p0.2 p0.1 := hi; omega)
    have ht : BT p := by rw [← hpe]; exact btl_top _ _
    have hPly : ((btl p0.2 p0.1, bval p0.1 p0.2) : Ply) = bPly p := by
      rw [← hpe]
      show _ = (btl p0.2 p0.1, bval (btl p0.2 p0.1) p0.2)
      rw [bval_cut]
    have hb10 : B ≤ 10000 := by omega
    obtain ⟨K, hK, hpos, hend⟩ := ec_end hp5 hb10 hpb ht
    obtain ⟨q1, q2, q3, q4⟩ := on_len h2 hp5 hb10 hpb ht hK hpos hend
    have hbq : oBd B 4 ≤ 700000 := by
      unfold oBd
      have e : (6 : Nat) ^ 4 = 1296 := by decide
      rw [e]
      omega
    obtain ⟨r, hr1, hr4, hsp, hgo, hse⟩ := sc_end q1 q2 hbq q4 q3
    have hCb : ∀ i, i < r + 1 → (sc (onP p K) i).1 ≤ 1000 ∧ PBP (sc (onP p K) i) 1000000000 := fun i hi => by
      cases i with
      | zero => exact ⟨by show (onP p K).1 ≤ 1000; omega, q4.le (by omega)⟩
      | succ i =>
        obtain ⟨_, l2, _, b2, _⟩ := sc_ok q1 q2 hbq q4 q3 i (fun j hj => hsp j (by omega)) (by omega)
        exact ⟨by omega, b2.le (sBd_le hbq (by omega))⟩
    have hT : ∀ x, lo - 1 ≤ x → x ≤ hi → FSpec Try.prog 41 [bcA (r + 1) (sc (onP p K)), iA x] (iA (tnN (sc (onP p K)) (r + 1) x)) := fun x h1 h3 => tn_spec (by omega) (by omega) hCb ⟨by omega, by omega⟩
    have hTb : ∀ x, 0 ≤ tnN (sc (onP p K)) (r + 1) x ∧ tnN (sc (onP p K)) (r + 1) x ≤ 1000 := fun x => by
      have := tcn_le (fun i => bS (sc (onP p K) i) x) (r + 1)
      unfold tnN
      omega
    have cts := fun {a b : Int} (hab : a ≤ b) => counts h2 hp5 hB hpb ht hK hpos hend hr1 hr4 hsp hse hab
    have hF2 : 2 ≤ (finP (bPly p)).1 := h2
    have hFc : Cn (finP (bPly p)).1 (finP (bPly p)).2 := fin_Cn (bV_Cn p)
    have hFt := fin_Tp ht.tp
    have hz0 := bS_zero h2 hp5 hB hpb ht hK hpos hend
    have hab := fun x => rt_ab hF2 hFc hFt x
    have hzI : ∀ x, (if hor (finP (bPly p)).2 x 0 (finP (bPly p)).1 = 0 then (1 : Int) else 0) = zI (bS (onP p K) x == 0) := fun x => by
      by_cases h : hor (finP (bPly p)).2 x 0 (finP (bPly p)).1 = 0
      · rw [if_pos h, (hz0 x).2 h]; rfl
      · rw [if_neg h, beq_false_of_ne (fun e => h ((hz0 x).1 e))]; rfl
    have mono : ∀ x y, lo - 1 ≤ x → x ≤ y → y ≤ hi → tnN (sc (onP p K)) (r + 1) y ≤ tnN (sc (onP p K)) (r + 1) x := fun x y _ hxy _ => by
      have c1 := cts hxy
      by_cases e : x = y
      · rw [e]; omega
      · have d := rt_down hF2 hFc hFt (show x < y by omega)
        have a := hab y
        rw [hzI y] at a
        have : 0 ≤ zI (bS (onP p K) y == 0) := by cases (bS (onP p K) y == 0) <;> decide
        omega
    have hzz : ∀ x, lo ≤ x → x ≤ hi → (bS (onP p K) x == 0) = true → tnN (sc (onP p K)) (r + 1) x + 1 ≤ tnN (sc (onP p K)) (r + 1) (x - 1) := fun x _ _ h => by
      have c1 := cts (show x - 1 ≤ x by omega)
      have d := rt_down hF2 hFc hFt (show x - 1 < x by omega)
      have a := hab x
      rw [hzI x, h] at a
      have : zI true = 1 := rfl
      omega
    have hNN : ∀ x, lo ≤ x → x ≤ hi → rtN (finP (bPly p)) x = tnN (sc (onP p K)) (r + 1) x + (rtC (finP (bPly p)) lo - tnN (sc (onP p K)) (r + 1) lo) + zI (bS (onP p K) x == 0) := fun x h1 _ => by
      have c1 := cts h1
      have a := hab x
      rw [hzI x] at a
      omega
    have hlist := lst_can (z := fun x => bS (onP p K) x == 0) g.2 mono hzz hNN
    have hcode := plcP_can (p := bPly p) h2 (bV_Cn p) ht.tp g.2
    have hlast : (if rtN (finP (bPly p)) hi > rtC (finP (bPly p)) hi then [hi] else []) = cond (bS (onP p K) hi == 0) [hi] [] := by
      have a := hab hi
      rw [hzI hi] at a
      cases hh : (bS (onP p K) hi == 0) <;> rw [hh] at a
      · rw [if_neg (by have : zI false = 0 := rfl; omega)]; rfl
      · rw [if_pos (by have : zI true = 1 := rfl; omega)]; rfl
    rw [hlast, ← hlist] at hcode
    have tb1 := hTb (lo - 1)
    have tb2 := hTb hi
    have hn : (((tnN (sc (onP p K)) (r + 1) (lo - 1) - tnN (sc (onP p K)) (r + 1) hi).toNat : Nat) : Int) = tnN (sc (onP p K)) (r + 1) (lo - 1) - tnN (sc (onP p K)) (r + 1) hi := by
      have := mono (lo - 1) hi (by omega) (by omega) (Int.le_refl _)
      omega
    have el : w64 (lo - 1) = lo - 1 := w64_id (by omega) (by omega)
    have lead := qo_leads (q := onP p K) (c := r + 1) (C := sc (onP p K)) (T := tnN (sc (onP p K)) (r + 1)) (z := fun x => bS (onP p K) x == 0) g.2 hlo hhi hT hTb (fun x h1 h3 => at_ok (B := oBd B 4) (by omega) (by omega) q4 ⟨by omega, by omega⟩) (fun _ => rfl) hn
    rw [cond_false, hPly, hcode]
    generalize (tnN (sc (onP p K)) (r + 1) (lo - 1) - tnN (sc (onP p K)) (r + 1) hi).toNat = n at *
    generalize lst (tnN (sc (onP p K)) (r + 1)) (fun x => bS (onP p K) x == 0) lo hi n = L at *
    have eG : qpG (tfT (tnN (sc (onP p K)) (r + 1))) lo (r + 1) (sc (onP p K)) = tnN (sc (onP p K)) (r + 1) (lo - 1) := by unfold qpG; rw [el, tfT_eq]
    have eL : qpL (tfT (tnN (sc (onP p K)) (r + 1))) lo hi (r + 1) (sc (onP p K)) = tnN (sc (onP p K)) (r + 1) (lo - 1) - tnN (sc (onP p K)) (r + 1) hi := by unfold qpL; rw [eG, tfT_eq, w64_id (by omega) (by omega)]
    have hL : LOk Try.prog (oneL 10 (toldN keepQO [(10, 0, 1)] (.a 3 1 0 fun q => [iA (L.getD q 0)]) [none] (qpO (onP p K) lo hi (r + 1) (sc (onP p K)) (qpG (tfT (tnN (sc (onP p K)) (r + 1))) lo (r + 1) (sc (onP p K))) (qpL (tfT (tnN (sc (onP p K)) (r + 1))) lo hi (r + 1) (sc (onP p K))) 0 (fun q => [iA (L.getD q 0)]) 1) (.exit 0) (qpO (onP p K) lo hi (r + 1) (sc (onP p K)) (qpG (tfT (tnN (sc (onP p K)) (r + 1))) lo (r + 1) (sc (onP p K))) (qpL (tfT (tnN (sc (onP p K)) (r + 1))) lo hi (r + 1) (sc (onP p K))) L.length (fun q => [iA (L.getD q 0)]) ((n + 1 : Nat) : Int)))) (bodyOf Try.f22) := by
      rw [eG, eL]
      exact lok_at (i := 10) 0 2 (by kernel_rfl) (by kernel_rfl) (toldN_sound lead)
    refine gspec e_nil (k_cons kS_ok (k_cons kS_ok (k_cons kS_ok (k_cons kS_ok k_nil)))) Try.func22 (by kernel_rfl) (by kernel_rfl) hL rfl ((qp_ev (tfT (tnN (sc (onP p K)) (r + 1))) p0 p (onP p K) lo hi (r + 1) (sc (onP p K)) L.length (fun q => L.getD q 0) ((n + 1 : Nat) : Int)).trans ?_)
    unfold qpH gP
    have hb2 : cond (decide ((p.1 : Int) < 2)) true (decide (lo > hi)) = false := by
      rw [decide_eq_false (by omega), decide_eq_false (by omega)]
      rfl
    rw [gate_pos hcut, hb2, cond_false, gate_pos (on_spec hp5 (by omega) hb10 hpb ht hK hpos hend), gate_pos (su'_spec q1 q2 hbq q4 q3 hr1 hr4 hsp hgo hse), el, gTn_pos hT (by omega) (by omega), gTn_pos hT (by omega) (Int.le_refl _), gate_pos (Sub.refl _)]
    have eF : (fun j => [iA (L.getD (0 + j) 0)]) = fun j => [iA (L.getD j 0)] := funext fun j => by rw [Nat.zero_add]
    rw [eF]
    rfl
end Go.Proofs.Ytgijfbcfajhmlaa
