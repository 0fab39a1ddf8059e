/-
  Ld1 Ld2 Ld3 Fsi Sf1 Wk2, one behind the other.
-/
import Derived.Test.YtghfmaciapmmoaaM1
namespace Go.Proofs.Ytghfmaciapmmoaa
open Go.Gv

/-- A piece of the bytes, as a number. -/
abbrev NBok (nf : Nat → (Nat → List AV) → Int) (g : Nat → Int) (lo hi : Option Int) (n : Nat) : Prop := FSpec Try.prog 22 [.sl 1 (sbN lo hi n) (sbE g lo)] (iA (nf (sbN lo hi n) (sbE g lo)))
abbrev SUok (sf : Nat → (Nat → List AV) → Int) (g : Nat → Int) (lo hi : Option Int) (n : Nat) : Prop := FSpec Try.prog 17 [.sl 1 (sbN lo hi n) (sbE g lo)] (iA (sf (sbN lo hi n) (sbE g lo)))
def l1S (n : Nat) (g : Nat → Int) (W H i : Int) (m : Nat) (el : Nat → List AV) : St := mkS 160 [(0, sB n g), (2, .own 0 0), (4, iA W), (5, iA H), (7, .own 1 0), (8, iA i)] [.c flmZ, .c [iA W, iA H, .osl 2 1 0 m, .x (.slice none 0 0)], .a 3 1 m el]
def keepL1 : List Nat := [0, 2, 4, 5, 7, 8]
def l2S (n : Nat) (g : Nat → Int) (W H at' i : Int) (m k : Nat) (el el' : Nat → List AV) : St := mkS 160 [(0, sB n g), (2, .own 0 0), (4, iA W), (5, iA H), (7, .own 1 0), (10, iA at'), (11, iA i)] [.c flmZ, .c [iA W, iA H, .osl 2 1 0 m, .osl 3 1 0 k], .a 3 1 m el, .a 3 1 k el']
def keepL2 : List Nat := [0, 2, 4, 5, 7, 10, 11]
def lo1 (i : Int) : Int := w64 (6 + w64 (6 * i))
def hi1 (i : Int) : Int := w64 (12 + w64 (6 * i))
def lo2 (a i : Int) : Int := w64 (a + w64 (3 * i))
def hi2 (a i : Int) : Int := w64 (w64 (a + w64 (3 * i)) + 3)
section
variable (nf : Nat → (Nat → List AV) → Int) (n : Nat) (g : Nat → Int) (W H a i : Int) (m k : Nat) (el el' : Nat → List AV)
theorem l1_step : evC Try.prog [] [kS Try.prog 22 (nbG nf)] noL (loopAt Try.f10 0) (l1S n g W H i m el) (finN keepL1 [some 0, some 1, some 4]) =
    cond (decide (i < w64 (w64 (3 * W) * H))) (cond (sbB (some (lo1 i)) (some (hi1 i)) none n || false) (gate (NBok nf g (some (lo1 i)) (some (hi1 i)) n) (cond (apB m 8 || false)
      (some ⟨.normal, l1S n g W H (w64 (i + 1)) (m + 1) (fun q => mixL (Nat.blt q m) (el q) [iA (nf (sbN (some (lo1 i)) (some (hi1 i)) n) (sbE g (some (lo1 i))))]), .any⟩) none)) none) none := by kernel_rfl
theorem l1_end : evC Try.prog [] [⟨22, fun _ _ => none⟩] noL (loopAt Try.f10 0) (l1S n g W H i m el) (finE keepL1 [some 0, some 1, some 2]) =
    cond (decide (i < w64 (w64 (3 * W) * H))) (cond (sbB (some (lo1 i)) (some (hi1 i)) none n || false) none none) (some ⟨.exit 0, l1S n g W H i m el, .any⟩) := by kernel_rfl
theorem l2_step : evC Try.prog [] [kS Try.prog 22 (nbG nf)] noL (loopAt Try.f10 1) (l2S n g W H a i m k el el') (finN keepL2 [some 0, some 1, some 2, some 5]) =
    cond (decide (i < w64 (W * H))) (cond (sbB (some (lo2 a i)) (some (hi2 a i)) none n || false) (gate (NBok nf g (some (lo2 a i)) (some (hi2 a i)) n) (cond (apB k 8 || false)
      (some ⟨.normal, l2S n g W H a (w64 (i + 1)) m (k + 1) el (fun q => mixL (Nat.blt q k) (el' q) [iA (nf (sbN (some (lo2 a i)) (some (hi2 a i)) n) (sbE g (some (lo2 a i))))]), .any⟩) none)) none) none := by kernel_rfl
theorem l2_end : evC Try.prog [] [⟨22, fun _ _ => none⟩] noL (loopAt Try.f10 1) (l2S n g W H a i m k el el') (finE keepL2 [some 0, some 1, some 2, some 3]) =
    cond (decide (i < w64 (W * H))) (cond (sbB (some (lo2 a i)) (some (hi2 a i)) none n || false) none none) (some ⟨.exit 2, l2S n g W H a i m k el el', .any⟩) := by kernel_rfl
end
noncomputable def ldL (n : Nat) (g : Nat → Int) (W H a : Int) (i1 i2 : Int) (m k : Nat) (q q' : Nat → Int) : Nat → Option LFun :=
  twoL 18 (toldC keepL1 1 [(2, 2, 1)] (.a 3 1 0 fun j => [iA (q j)]) [some 0, some 1, none] (l1S n g W H 0 0 fun j => [iA (q j)]) (.exit 0) (l1S n g W H i1 m fun j => [iA (q j)]))
    24 (toldC keepL2 1 [(3, 3, 1)] (.a 3 1 0 fun j => [iA (q' j)]) [some 0, some 1, some 2, none] (l2S n g W H a 0 m 0 (fun j => [iA (q j)]) fun j => [iA (q' j)]) (.exit 2) (l2S n g W H a i2 m k (fun j => [iA (q j)]) fun j => [iA (q' j)]))
def ldW (g : Nat → Int) : Int := w64 (g 4)
def ldH (g : Nat → Int) : Int := w64 (g 5)
def ldN (W H : Int) : Int := w64 (w64 (w64 (6 + w64 (w64 (18 * W) * H)) + w64 (w64 (3 * W) * H)) + 4)
def ldA (W H : Int) : Int := w64 (6 + w64 (w64 (18 * W) * H))
section
variable (nf sf : Nat → (Nat → List AV) → Int) (mf : MF) (n : Nat) (g : Nat → Int) (W H a i1 i2 : Int) (m k : Nat) (q q' : Nat → Int)
noncomputable def ldT : Option Out := cond ((((propB (FSpec Try.prog 15 [.agg (lOut W H m k q q')] (fmG mf [.agg (lOut W H m k q q')])) && lendY m k) && witY m k)) || false)
  (cond (!(mf W H m (fun i => [iA (q (0 + i))]) k (fun i => [iA (q' (0 + i))]) == 0)) (fBad (mf W H m (fun i => [iA (q (0 + i))]) k (fun i => [iA (q' (0 + i))]))) (some (Out.of (.tup [.agg (lOut W H m k q q'), iA 0])))) none
def lw4 (g : Nat → Int) : Int := w64 (ldN (ldW g) (ldH g) - 4)
noncomputable def ldR : Option Out :=
  gate (NBok nf g (some (lw4 g)) none n) (gate (SUok sf g none (some (lw4 g)) n) (cond ((sbB (some (lw4 g)) none none n || false) && ((sbB none (some (lw4 g)) none n || false) && true))
    (cond (!(nf (sbN (some (lw4 g)) none n) (sbE g (some (lw4 g))) == sf (sbN none (some (lw4 g)) n) (sbE g none))) (fBad 12)
      (gate (Sub (l1S n g (ldW g) (ldH g) 0 0 fun j => [iA (q j)]) (l1S n g W H 0 0 fun j => [iA (q j)])) (gate (Sub (l2S n g W H (ldA W H) 0 m 0 (fun j => [iA (q j)]) fun j => [iA (q' j)]) (l2S n g W H a 0 m 0 (fun j => [iA (q j)]) fun j => [iA (q' j)])) (ldT mf W H m k q q')))) none))
noncomputable def ldX (R : Option Out) : Option Out := cond (decide ((n : Int) < 6)) (fBad 8) (cond (ixB 0 n || false) (cond (grd 1 n (mg0 g)) (cond (grd 2 n (mg1 g)) (cond (grd 3 n (mg2 g)) (cond (mg3 g) (fBad 11)
    (cond (ixB 4 n || false) (cond (ixB 5 n || false) (cond (fbad (ldW g) (ldH g)) (fBad 4) (cond (decide ((n : Int) < ldN (ldW g) (ldH g))) (fBad 8) (cond (decide ((n : Int) > ldN (ldW g) (ldH g))) (fBad 5) R))) none) none)) none) none) none) none)
theorem ld_ev : evM Try.prog [] [kS Try.prog 22 (nbG nf), kS Try.prog 17 (suG sf)] [mS Try.prog 15 (fmG mf)] (ldL n g W H a i1 i2 m k q q') Try.f10 [sB n g] ret = ldX n g (ldR nf sf mf n g W H a m k q q') := by kernel_rfl
end
end Go.Proofs.Ytghfmaciapmmoaa

namespace Go.Proofs.Ytghfmaciapmmoaa
open Go.Gv

theorem nb_ok (g : Nat → Int) (lo hi : Option Int) (n : Nat) (h : sbN lo hi n ≤ 1000000) : NBok nfE g lo hi n := nb_spec h fun i => g (sbL lo + i)
theorem su_ok (g : Nat → Int) (lo hi : Option Int) (n : Nat) (h : sbN lo hi n ≤ 1000000) : SUok suE g lo hi n := su_spec h fun i => g (sbL lo + i)
/-- So many bytes. -/
structure LG (n : Nat) (g : Nat → Int) (wd ht : Nat) : Prop where
  W : g 4 = (wd : Int)
  H : g 5 = (ht : Int)
  w1 : 1 ≤ wd
  w6 : wd ≤ 64
  h1 : 1 ≤ ht
  h6 : ht ≤ 64
  n : n = 21 * (wd * ht) + 10
theorem LG.p {n : Nat} {g : Nat → Int} {wd ht : Nat} (h : LG n g wd ht) : ldP g = wd * ht := by unfold ldP; rw [h.W, h.H, ← Int.natCast_mul, Int.toNat_natCast]
theorem LG.small {n : Nat} {g : Nat → Int} {wd ht : Nat} (h : LG n g wd ht) : wd * ht ≤ 64 * 64 := Nat.mul_le_mul h.w6 h.h6
theorem LG.m3 {n : Nat} {g : Nat → Int} {wd ht : Nat} (h : LG n g wd ht) : w64 (w64 (3 * (wd : Int)) * (ht : Int)) = ((3 * (wd * ht) : Nat) : Int) := by
  have := h.small; have := h.w6
  rw [w64_id (n := 3 * (wd : Int)) (by omega) (by omega), Int.mul_assoc, ← Int.natCast_mul, w64_id (by omega) (by omega)]
  omega
theorem LG.m1 {n : Nat} {g : Nat → Int} {wd ht : Nat} (h : LG n g wd ht) : w64 ((wd : Int) * (ht : Int)) = ((wd * ht : Nat) : Int) := by
  have := h.small
  rw [← Int.natCast_mul, w64_id (by omega) (by omega)]
theorem LG.m18 {n : Nat} {g : Nat → Int} {wd ht : Nat} (h : LG n g wd ht) : w64 (w64 (18 * (wd : Int)) * (ht : Int)) = ((18 * (wd * ht) : Nat) : Int) := by
  have := h.small; have := h.w6
  rw [w64_id (n := 18 * (wd : Int)) (by omega) (by omega), Int.mul_assoc, ← Int.natCast_mul, w64_id (by omega) (by omega)]
  omega
theorem LG.a {n : Nat} {g : Nat → Int} {wd ht : Nat} (h : LG n g wd ht) : ldA (wd : Int) (ht : Int) = ((6 + 18 * (wd * ht) : Nat) : Int) := by
  have := h.small
  unfold ldA
  rw [h.m18, w64_id (by omega) (by omega)]
  omega
theorem l1_leads {n : Nat} {g : Nat → Int} {wd ht : Nat} (h : LG n g wd ht) : Leads Try.prog (.loop (loopAt Try.f10 0)) (l1S n g (wd : Int) (ht : Int) 0 0 fun j => [iA ((ldF g).lt j)]) (.exit 0) (l1S n g (wd : Int) (ht : Int) (3 * (wd * ht) : Nat) (3 * (wd * ht)) fun j => [iA ((ldF g).lt j)]) := by
  have hP := h.small; have hn := h.n
  refine loop_rule (fun k => l1S n g (wd : Int) (ht : Int) (k : Nat) k fun j => [iA ((ldF g).lt j)]) (3 * (wd * ht)) (.exit 0) _ (by simp) (fun k hk => ?_) ?_
  · have e1 : lo1 (k : Nat) = ((6 + 6 * k : Nat) : Int) := by unfold lo1; rw [w64_id (n := 6 * _) (by omega) (by omega), w64_id (by omega) (by omega)]; omega
    have e2 : hi1 (k : Nat) = ((12 + 6 * k : Nat) : Int) := by unfold hi1; rw [w64_id (n := 6 * _) (by omega) (by omega), w64_id (by omega) (by omega)]; omega
    have st := l1_step nfE n g (wd : Int) (ht : Int) (k : Nat) k fun j => [iA ((ldF g).lt j)]
    have e3 : sbN (some ((6 + 6 * k : Nat) : Int)) (some ((12 + 6 * k : Nat) : Int)) n = 6 := by rw [sbN_eq]; omega
    rw [h.m3, dec_lt hk, e1, e2, sbB_t (by omega) (by omega), gate_pos (nb_ok g _ _ n (by rw [e3]; omega)), apB_t (by omega), w64_next (by omega), e3] at st
    refine (leads_ev (finN_sub _ _) e_nil (k_cons kS_ok k_nil) noL_ok st).sub (Sub.refl _) ?_
    refine sub_same ⟨Or.inl rfl, Or.inl rfl, Or.inr ⟨3, 1, k + 1, _, _, rfl, rfl, fun q hq => (app_i hq ?_).symm ▸ rfl⟩, trivial⟩
    show nbV (fun c => g (6 + 6 * k + c)) 6 = nbV (fun i => u8Of' (sbE g (some ((6 + 6 * k : Nat) : Int)) i)) 6
    congr 1
  · refine leads_ev (finE_sub _ _) e_nil (k_cons (kno_ok _) k_nil) noL_ok ((l1_end n g (wd : Int) (ht : Int) _ _ _).trans ?_)
    rw [h.m3, dec_self, cond_false]
theorem l2_leads {n : Nat} {g : Nat → Int} {wd ht : Nat} (h : LG n g wd ht) (m : Nat) (el : Nat → List AV) : Leads Try.prog (.loop (loopAt Try.f10 1)) (l2S n g (wd : Int) (ht : Int) (6 + 18 * (wd * ht) : Nat) 0 m 0 el fun j => [iA ((ldF g).sh j)]) (.exit 2) (l2S n g (wd : Int) (ht : Int) (6 + 18 * (wd * ht) : Nat) (wd * ht : Nat) m (wd * ht) el fun j => [iA ((ldF g).sh j)]) := by
  have hP := h.small; have hn := h.n
  refine loop_rule (fun k => l2S n g (wd : Int) (ht : Int) (6 + 18 * (wd * ht) : Nat) (k : Nat) m k el fun j => [iA ((ldF g).sh j)]) (wd * ht) (.exit 2) _ (by simp) (fun k hk => ?_) ?_
  · have e1 : lo2 (6 + 18 * (wd * ht) : Nat) (k : Nat) = ((6 + 18 * (wd * ht) + 3 * k : Nat) : Int) := by unfold lo2; rw [w64_id (n := 3 * _) (by omega) (by omega), w64_id (by omega) (by omega)]; omega
    have e2 : hi2 (6 + 18 * (wd * ht) : Nat) (k : Nat) = ((6 + 18 * (wd * ht) + 3 * k + 3 : Nat) : Int) := by
      have e1' : w64 (((6 + 18 * (wd * ht) : Nat) : Int) + w64 (3 * ((k : Nat) : Int))) = ((6 + 18 * (wd * ht) + 3 * k : Nat) : Int) := e1
      unfold hi2
      rw [e1', w64_id (by omega) (by omega)]; omega
    have st := l2_step nfE n g (wd : Int) (ht : Int) (6 + 18 * (wd * ht) : Nat) (k : Nat) m k el fun j => [iA ((ldF g).sh j)]
    have e3 : sbN (some ((6 + 18 * (wd * ht) + 3 * k : Nat) : Int)) (some ((6 + 18 * (wd * ht) + 3 * k + 3 : Nat) : Int)) n = 3 := by rw [sbN_eq]; omega
    rw [h.m1, dec_lt hk, e1, e2, sbB_t (by omega) (by omega), gate_pos (nb_ok g _ _ n (by rw [e3]; omega)), apB_t (by omega), w64_next (by omega), e3] at st
    refine (leads_ev (finN_sub _ _) e_nil (k_cons kS_ok k_nil) noL_ok st).sub (Sub.refl _) ?_
    refine sub_same ⟨Or.inl rfl, Or.inl rfl, Or.inl rfl, Or.inr ⟨3, 1, k + 1, _, _, rfl, rfl, fun q hq => (app_i hq ?_).symm ▸ rfl⟩, trivial⟩
    show nbV (fun c => g (6 + 18 * ldP g + 3 * k + c)) 3 = nbV (fun i => u8Of' (sbE g (some ((6 + 18 * (wd * ht) + 3 * k : Nat) : Int)) i)) 3
    congr 1
    funext c
    show g (6 + 18 * ldP g + 3 * k + c) = g (sbL (some ((6 + 18 * (wd * ht) + 3 * k : Nat) : Int)) + c)
    rw [sbL_eq, h.p]
  · refine leads_ev (finE_sub _ _) e_nil (k_cons (kno_ok _) k_nil) noL_ok ((l2_end n g (wd : Int) (ht : Int) _ _ _ _ _ _).trans ?_)
    rw [h.m1, dec_self, cond_false]
end Go.Proofs.Ytghfmaciapmmoaa

namespace Go.Proofs.Ytghfmaciapmmoaa
open Go.Gv

section
variable (nf sf : Nat → (Nat → List AV) → Int) (mf : MF) (n : Nat) (g : Nat → Int)
noncomputable def ldR0 : Option Out :=
  gate (NBok nf g (some (lw4 g)) none n) (gate (SUok sf g none (some (lw4 g)) n) (cond ((sbB (some (lw4 g)) none none n || false) && ((sbB none (some (lw4 g)) none n || false) && true))
    (cond (!(nf (sbN (some (lw4 g)) none n) (sbE g (some (lw4 g))) == sf (sbN none (some (lw4 g)) n) (sbE g none))) (fBad 12) none) none))
theorem ld_ev0 : evM Try.prog [] [kS Try.prog 22 (nbG nf), kS Try.prog 17 (suG sf)] [mS Try.prog 15 (fmG mf)] (twoL 18 (fun _ _ => none) 24 (fun _ _ => none)) Try.f10 [sB n g] ret = ldX n g (ldR0 nf sf n g) := by kernel_rfl
end
/-- The checks ahead. -/
theorem ldX_go {n : Nat} {g : Nat → Int} (h6 : 6 ≤ n) (R : Option Out) : ldX n g R = cond (mg3 g) (fBad 11) (cond (fbad (ldW g) (ldH g)) (fBad 4) (cond (decide ((n : Int) < ldN (ldW g) (ldH g))) (fBad 8) (cond (decide ((n : Int) > ldN (ldW g) (ldH g))) (fBad 5) R))) := by
  have i0 : ixB 0 n = true := ixB_t (i := 0) (by omega)
  have i1 : ixB 1 n = true := ixB_t (i := 1) (by omega)
  have i2 : ixB 2 n = true := ixB_t (i := 2) (by omega)
  have i3 : ixB 3 n = true := ixB_t (i := 3) (by omega)
  have i4 : ixB 4 n = true := ixB_t (i := 4) (by omega)
  have i5 : ixB 5 n = true := ixB_t (i := 5) (by omega)
  unfold ldX grd
  rw [decide_eq_false (show ¬ (n : Int) < 6 by omega), i0, i1, i2, i3, i4, i5]
  rfl
theorem ld_sides {n : Nat} {g : Nat → Int} (hg : ∀ i, i < n → 0 ≤ g i ∧ g i ≤ 255) (h6 : 6 ≤ n) : ldW g = g 4 ∧ ldH g = g 5 := by
  obtain ⟨a, b⟩ := hg 4 (by omega)
  obtain ⟨c, d⟩ := hg 5 (by omega)
  exact ⟨w64_id (by omega) (by omega), w64_id (by omega) (by omega)⟩
theorem ld_whole {g : Nat → Int} (h : fbad (g 4) (g 5) = false) : ldN (g 4) (g 5) = ((21 * ldP g + 10 : Nat) : Int) ∧ 1 ≤ ldP g ∧ ldP g ≤ 4096 := by
  obtain ⟨a, b, c, d⟩ := fbad_false h
  have hM := mulB (x := g 4) (y := g 5) (X := 64) (Y := 64) (by omega) b (by omega) d
  have hM1 := mulB (x := 1) (y := g 5) (X := g 4) (Y := g 5) (by omega) a (by omega) (by omega)
  have e : ((ldP g : Nat) : Int) = g 4 * g 5 := by unfold ldP; omega
  refine ⟨?_, by omega, by omega⟩
  unfold ldN
  rw [w64_id (n := 18 * g 4) (by omega) (by omega), w64_id (n := 3 * g 4) (by omega) (by omega), Int.mul_assoc, Int.mul_assoc, w64_id (n := 18 * (g 4 * g 5)) (by omega) (by omega), w64_id (n := 3 * (g 4 * g 5)) (by omega) (by omega), w64_id (n := 6 + 18 * (g 4 * g 5)) (by omega) (by omega), w64_id (n := 6 + 18 * (g 4 * g 5) + 3 * (g 4 * g 5)) (by omega) (by omega), w64_id (by omega) (by omega)]
  omega
theorem ld_lg {n : Nat} {g : Nat → Int} (h : fbad (g 4) (g 5) = false) (hn : n = 21 * ldP g + 10) : LG n g (g 4).toNat (g 5).toNat := by
  obtain ⟨a, b, c, d⟩ := fbad_false h
  have e : ldP g = (g 4).toNat * (g 5).toNat := by
    unfold ldP
    have e1 : g 4 = ((g 4).toNat : Int) := by omega
    have e2 : g 5 = ((g 5).toNat : Int) := by omega
    have : g 4 * g 5 = (((g 4).toNat * (g 5).toNat : Nat) : Int) := by rw [Int.natCast_mul, ← e1, ← e2]
    rw [this, Int.toNat_natCast]
  exact ⟨by omega, by omega, by omega, by omega, by omega, by omega, by rw [hn, e]⟩
/-- Behind the checks: the sum. -/
theorem ld_sum {n : Nat} {g : Nat → Int} (hg : ∀ i, i < n → 0 ≤ g i ∧ g i ≤ 255) (h : fbad (g 4) (g 5) = false) (hn : n = 21 * ldP g + 10) (X : Option Out) :
    gate (NBok nfE g (some (lw4 g)) none n) (gate (SUok suE g none (some (lw4 g)) n) (cond ((sbB (some (lw4 g)) none none n || false) && ((sbB none (some (lw4 g)) none n || false) && true))
      (cond (!(nfE (sbN (some (lw4 g)) none n) (sbE g (some (lw4 g))) == suE (sbN none (some (lw4 g)) n) (sbE g none))) (fBad 12) X) none)) = cond (!ldS n g) (fBad 12) X := by
  obtain ⟨eN, p1, p2⟩ := ld_whole h
  obtain ⟨eW, eH⟩ := ld_sides hg (by omega)
  have el : lw4 g = ((n - 4 : Nat) : Int) := by
    unfold lw4
    rw [eW, eH, eN, w64_id (by omega) (by omega)]
    omega
  have b1 : sbB (some ((n - 4 : Nat) : Int)) none none n = true := by
    unfold sbB
    simp only [Option.getD_some, Option.getD_none]
    rw [decide_eq_true (show (0 : Int) ≤ ((n - 4 : Nat) : Int) by omega), decide_eq_true (show ((n - 4 : Nat) : Int) ≤ (n : Int) by omega), decide_eq_true (Int.le_refl _)]
    rfl
  have b2 : sbB none (some ((n - 4 : Nat) : Int)) none n = true := by
    unfold sbB
    simp only [Option.getD_some, Option.getD_none]
    rw [decide_eq_true (show (0 : Int) ≤ (0 : Int) by omega), decide_eq_true (show (0 : Int) ≤ ((n - 4 : Nat) : Int) by omega), decide_eq_true (show ((n - 4 : Nat) : Int) ≤ (n : Int) by omega), decide_eq_true (Int.le_refl _)]
    rfl
  have n1 : sbN (some ((n - 4 : Nat) : Int)) none n = 4 := by unfold sbN; simp only [Option.getD_some, Option.getD_none]; omega
  have n2 : sbN none (some ((n - 4 : Nat) : Int)) n = n - 4 := by unfold sbN; simp only [Option.getD_some, Option.getD_none]; omega
  rw [el, gate_pos (nb_ok g _ _ n (by rw [n1]; omega)), gate_pos (su_ok g _ _ n (by rw [n2]; omega)), b1, b2, n1, n2]
  have e1 : nfE 4 (sbE g (some ((n - 4 : Nat) : Int))) = nbV (fun c => g (n - 4 + c)) 4 := rfl
  have e2 : suE (n - 4) (sbE g none) = w64 (suV g (n - 4)) := by
    unfold suE
    congr 2
    funext i
    show g (sbL none + i) = g i
    rw [show sbL none = 0 from rfl, Nat.zero_add]
  rw [e1, e2]
  rfl
theorem loadR_spec {n : Nat} {g : Nat → Int} (hg : ∀ i, i < n → 0 ≤ g i ∧ g i ≤ 255) : FSpec Try.prog 10 [sB n g] (fOut (ldO n g) (ldE n g)) := by
  have ok := FMok_of fmayR_spec
  have ks := k_cons (kS_ok (P := Try.prog) (f := 22) (g := nbG nfE)) (k_cons (kS_ok (P := Try.prog) (f := 17) (g := suG suE)) k_nil)
  have ms : ∀ e, e ∈ [mS Try.prog 15 (fmG fmE')] → MEOk Try.prog e := m_cons mS_ok m_nil
  have bad : ∀ e : Int, e ≠ 0 → ldE n g = e → ldX n g (ldR0 nfE suE n g) = fBad e → FSpec Try.prog 10 [sB n g] (fOut (ldO n g) (ldE n g)) := fun e he h1 h2 => by
    have hf : ldO n g = zF := by unfold ldO; rw [if_neg (by rw [h1]; exact he)]
    rw [hf, h1]
    exact fspec_bad (gspecM e_nil ks ms Try.func10 (by kernel_rfl) (by kernel_rfl) (lok_two (lok_none 18) (lok_none 24)) rfl ((ld_ev0 nfE suE fmE' n g).trans h2))
  by_cases h6 : n < 6
  · refine bad 8 (by decide) (by unfold ldE; rw [decide_eq_true h6]; rfl) ?_
    unfold ldX
    rw [decide_eq_true (show (n : Int) < 6 by omega)]
    rfl
  have hX := ldX_go (g := g) (show 6 ≤ n by omega)
  obtain ⟨eW, eH⟩ := ld_sides hg (by omega)
  rw [eW, eH] at hX
  have hE : ldE n g = cond (mg3 g) 11 (cond (fbad (g 4) (g 5)) 4 (cond (decide (n < 21 * ldP g + 10)) 8 (cond (decide (n > 21 * ldP g + 10)) 5 (cond (!ldS n g) 12 (fmay (ldF g)))))) := by unfold ldE; rw [decide_eq_false h6]; rfl
  cases hm : mg3 g
  · rw [hm] at hX hE
    cases hb : fbad (g 4) (g 5)
    · rw [hb] at hX hE
      obtain ⟨eN, p1, p2⟩ := ld_whole hb
      rw [eN] at hX
      by_cases hlt : n < 21 * ldP g + 10
      · rw [decide_eq_true hlt] at hE
        refine bad 8 (by decide) hE ((hX _).trans ?_)
        rw [decide_eq_true (show (n : Int) < ((21 * ldP g + 10 : Nat) : Int) by omega)]
        rfl
      by_cases hgt : n > 21 * ldP g + 10
      · rw [decide_eq_false hlt, decide_eq_true hgt] at hE
        refine bad 5 (by decide) hE ((hX _).trans ?_)
        rw [decide_eq_false (show ¬ (n : Int) < ((21 * ldP g + 10 : Nat) : Int) by omega), decide_eq_true (show (n : Int) > ((21 * ldP g + 10 : Nat) : Int) by omega)]
        rfl
      have hn : n = 21 * ldP g + 10 := by omega
      rw [decide_eq_false hlt, decide_eq_false hgt] at hE
      rw [decide_eq_false (show ¬ (n : Int) < ((21 * ldP g + 10 : Nat) : Int) by omega), decide_eq_false (show ¬ (n : Int) > ((21 * ldP g + 10 : Nat) : Int) by omega)] at hX
      simp only [cond_false] at hX hE
      have hsum := ld_sum hg hb hn
      cases hs : ldS n g
      · rw [hs] at hE
        refine bad 12 (by decide) hE ((hX _).trans ((hsum none).trans ?_))
        rw [hs]
        rfl
      · rw [hs] at hE
        simp only [Bool.not_true, cond_false] at hE
        have lg := ld_lg hb hn
        have ew : g 4 = (((g 4).toNat : Nat) : Int) := lg.W
        have eh : g 5 = (((g 5).toNat : Nat) : Int) := lg.H
        have hP := lg.small
        have hL := lok_two (lok_at (c := bodyOf Try.f10) (i := 18) 0 2 (by kernel_rfl) (by kernel_rfl) (toldC_sound (keep := keepL1) (r0 := 1) (nils := [(2, 2, 1)]) (nr := .a 3 1 0 fun j => [iA ((ldF g).lt j)]) (τ := [some 0, some 1, none]) (l1_leads lg)))
          (lok_at (c := bodyOf Try.f10) (i := 24) 1 2 (by kernel_rfl) (by kernel_rfl) (toldC_sound (keep := keepL2) (r0 := 1) (nils := [(3, 3, 1)]) (nr := .a 3 1 0 fun j => [iA ((ldF g).sh j)]) (τ := [some 0, some 1, some 2, none]) (l2_leads lg (3 * ((g 4).toNat * (g 5).toNat)) fun j => [iA ((ldF g).lt j)])))
        have hev := ld_ev nfE suE fmE' n g (((g 4).toNat : Nat) : Int) (((g 5).toNat : Nat) : Int) (6 + 18 * ((g 4).toNat * (g 5).toNat) : Nat) (3 * ((g 4).toNat * (g 5).toNat) : Nat) ((g 4).toNat * (g 5).toNat : Nat) (3 * ((g 4).toNat * (g 5).toNat)) ((g 4).toNat * (g 5).toNat) (ldF g).lt (ldF g).sh
        rw [hX] at hev
        unfold ldR at hev
        rw [hsum, hs, eW, eH, ← ew, ← eh, gate_pos (Sub.refl _)] at hev
        have eA : ldA (g 4) (g 5) = ((6 + 18 * ((g 4).toNat * (g 5).toNat) : Nat) : Int) := by rw [ew, eh]; exact lg.a
        rw [eA, gate_pos (Sub.refl _)] at hev
        have eo : lOut (g 4) (g 5) (3 * ((g 4).toNat * (g 5).toNat)) ((g 4).toNat * (g 5).toNat) (ldF g).lt (ldF g).sh = (ldF g).c := by
          have z1 : (fun i => [iA ((ldF g).lt (0 + i))]) = fun i => [iA ((ldF g).lt i)] := funext fun i => by rw [Nat.zero_add]
          have z2 : (fun i => [iA ((ldF g).sh (0 + i))]) = fun i => [iA ((ldF g).sh i)] := funext fun i => by rw [Nat.zero_add]
          unfold lOut
          rw [z1, z2, ← lg.p]
          rfl
        have em : fmE' (g 4) (g 5) (3 * ((g 4).toNat * (g 5).toNat)) (fun i => [iA ((ldF g).lt (0 + i))]) ((g 4).toNat * (g 5).toNat) (fun i => [iA ((ldF g).sh (0 + i))]) = fmay (ldF g) := by
          have z1 : (fun i => [iA ((ldF g).lt (0 + i))]) = fun i => [iA ((ldF g).lt i)] := funext fun i => by rw [Nat.zero_add]
          have z2 : (fun i => [iA ((ldF g).sh (0 + i))]) = fun i => [iA ((ldF g).sh i)] := funext fun i => by rw [Nat.zero_add]
          rw [z1, z2, ← lg.p]
          rfl
        unfold ldT at hev
        have hl : lendY (3 * ((g 4).toNat * (g 5).toNat)) ((g 4).toNat * (g 5).toNat) = true := by unfold lendY; rw [ble_t (by omega), ble_t (by omega)]; rfl
        have hw : witY (3 * ((g 4).toNat * (g 5).toNat)) ((g 4).toNat * (g 5).toNat) = true := by
          have := lg.p
          unfold witY; rw [blt_t (by omega), blt_t (by omega)]; rfl
        rw [eo, propB_t (ok (ldF g)), hl, hw, em] at hev
        by_cases h4 : fmay (ldF g) = 0
        · rw [h4] at hev hE
          have hf : ldO n g = ldF g := by unfold ldO; rw [if_pos hE]
          rw [hf, hE]
          exact gspecM e_nil ks ms Try.func10 (by kernel_rfl) (by kernel_rfl) hL rfl (by rw [← ew, ← eh]; exact hev)
        · rw [beq_false_of_ne h4] at hev
          have hf : ldO n g = zF := by unfold ldO; rw [if_neg (by rw [hE]; exact h4)]
          rw [hf, hE]
          exact fspec_bad (gspecM e_nil ks ms Try.func10 (by kernel_rfl) (by kernel_rfl) hL rfl (by rw [← ew, ← eh]; exact hev))
    · rw [hb] at hX hE
      exact bad 4 (by decide) hE (hX _)
  · rw [hm] at hX hE
    exact bad 11 (by decide) hE (hX _)
end Go.Proofs.Ytghfmaciapmmoaa

namespace Go.Proofs.Ytghfmaciapmmoaa
open Go.Gv

/-! ### Rows that are the same -/
def siS (n m : Nat) (a b : Nat → Int) (i : Int) : St := mkS 26 [(0, sI n a), (1, sI m b), (5, iA i)] []
section
variable (n m : Nat) (a b : Nat → Int) (i : Int)
def siT : Option Out := cond (decide (i < n)) (cond ((ixB i n || false) && ((ixB i m || false) && true)) (cond (!(a i.toNat == b i.toNat)) none (some ⟨.normal, siS n m a b (w64 (i + 1)), .any⟩)) none) none
def siU : Option Out := cond (decide (i < n)) (cond ((ixB i n || false) && ((ixB i m || false) && true)) (cond (!(a i.toNat == b i.toNat)) none none) none) (some ⟨.exit 0, siS n m a b i, .any⟩)
theorem si_step : evC Try.prog [] [] noL (loopAt Try.f21 0) (siS n m a b i) (finN [0, 1, 5] []) = siT n m a b i := by kernel_rfl
theorem si_end : evC Try.prog [] [] noL (loopAt Try.f21 0) (siS n m a b i) (finE [0, 1, 5] []) = siU n m a b i := by kernel_rfl
end
theorem si_leads {n : Nat} (hn : n ≤ 4611686018427387904) {a b : Nat → Int} (h : ∀ i, i < n → a i = b i) : Leads Try.prog (.loop (loopAt Try.f21 0)) (siS n n a b 0) (.exit 0) (siS n n a b (n : Nat)) := by
  refine loop_rule (fun k => siS n n a b (k : Nat)) n (.exit 0) _ (by simp) (fun k hk => ?_) ?_
  · refine leads_ev (finN_sub _ _) e_nil k_nil noL_ok ((si_step n n a b (k : Nat)).trans ?_)
    unfold siT
    rw [dec_lt hk, ixB_t hk, Int.toNat_natCast, h k hk, BEq.rfl, w64_next (by omega)]
    rfl
  · refine leads_ev (finE_sub _ _) e_nil k_nil noL_ok ((si_end n n a b (n : Nat)).trans ?_)
    unfold siU
    rw [dec_self, cond_false]
noncomputable def siL (n : Nat) (a b : Nat → Int) : Nat → Option LFun := oneL 4 (toldF [0, 1, 5] [] (siS n n a b 0) (.exit 0) (siS n n a b (n : Nat)))
theorem si_ev (n : Nat) (a b : Nat → Int) : ev Try.prog [] [] (siL n a b) Try.f21 [sI n a, sI n b] ret = cond (!((n : Int) == (n : Int))) (some (Out.of (bA false))) (gate (Sub (siS n n a b 0) (siS n n a b 0)) (some (Out.of (bA true)))) := by kernel_rfl
theorem same_ints {n : Nat} (hn : n ≤ 4611686018427387904) {a b : Nat → Int} (h : ∀ i, i < n → a i = b i) : FSpec Try.prog 21 [sI n a, sI n b] (bA true) := by
  have hL := lok_hd (c := bodyOf Try.f21) (i := 4) 0 (by kernel_rfl) (by kernel_rfl) (toldF_sound (keep := [0, 1, 5]) (τ := []) (si_leads hn h))
  refine gspec e_nil k_nil Try.func21 (by kernel_rfl) (by kernel_rfl) hL rfl ((si_ev n a b).trans ?_)
  rw [BEq.rfl, gate_pos (Sub.refl _)]
  rfl
end Go.Proofs.Ytghfmaciapmmoaa

namespace Go.Proofs.Ytghfmaciapmmoaa
open Go.Gv

def gHv (hf : Nat → Nat → Bool) : List AV → Option AV
  | [.agg [.x (.int .i64 _), .x (.int .i64 _), .sl _ n _, .sl _ m _]] => some (bA (hf n m))
  | _ => none
theorem gHv_ok {f : Nat} {hf : Nat → Nat → Bool} (h : ∀ W H sz n el sz' m el', FSpec Try.prog f [.agg [iA W, iA H, .sl sz n el, .sl sz' m el']] (bA (hf n m))) : EOk Try.prog ⟨f, gHv hf⟩ := fun args r hr => by
  simp only [gHv] at hr
  split at hr
  · cases hr; exact Or.inl (h _ _ _ _ _ _ _ _)
  · cases hr
def hvS (n m : Nat) : Bool := decide (w64 ((n : Int) + (m : Int)) > 1200)
theorem hv_ev (W H : Int) (sz n : Nat) (el : Nat → List AV) (sz' m : Nat) (el' : Nat → List AV) : ev Try.prog [] [] noL Try.f5 [.agg [iA W, iA H, .sl sz n el, .sl sz' m el']] ret = some (Out.of (bA (hvS n m))) := by kernel_rfl
theorem hv_spec (W H : Int) (sz n : Nat) (el : Nat → List AV) (sz' m : Nat) (el' : Nat → List AV) : FSpec Try.prog 5 [.agg [iA W, iA H, .sl sz n el, .sl sz' m el']] (bA (hvS n m)) :=
  gspec e_nil k_nil Try.func5 (by kernel_rfl) (by kernel_rfl) noL_ok rfl (hv_ev W H sz n el sz' m el')
/-! ### Films that are the same -/
theorem sfm_ev (f g : Flm) : ev Try.prog [] [kS Try.prog 21 fun _ => bA true] noL Try.f9 [.agg f.c, .agg g.c] ret =
    gate (FSpec Try.prog 21 [sI f.n f.lt, sI g.n g.lt] (bA true)) (gate (FSpec Try.prog 21 [sI f.m f.sh, sI g.m g.sh] (bA true)) (some (Out.of (bA (cond (cond (cond (f.W == g.W) (f.H == g.H) false) true false) true false))))) := by kernel_rfl
theorem same_film {f g : Flm} (hn : f.n ≤ 4611686018427387904) (hm : f.m ≤ 4611686018427387904) (hW : f.W = g.W) (hH : f.H = g.H) (en : f.n = g.n) (em : f.m = g.m) (hl : ∀ i, i < f.n → f.lt i = g.lt i) (hs : ∀ i, i < f.m → f.sh i = g.sh i) : FSpec Try.prog 9 [.agg f.c, .agg g.c] (bA true) := by
  refine gspec e_nil (k_cons kS_ok k_nil) Try.func9 (by kernel_rfl) (by kernel_rfl) noL_ok rfl ((sfm_ev f g).trans ?_)
  have h1 := same_ints hn hl
  have h2 := same_ints hm hs
  rw [en] at h1
  rw [em] at h2
  rw [← en] at h1
  rw [← em] at h2
  have h1' : FSpec Try.prog 21 [sI f.n f.lt, sI g.n g.lt] (bA true) := en ▸ h1
  have h2' : FSpec Try.prog 21 [sI f.m f.sh, sI g.m g.sh] (bA true) := em ▸ h2
  rw [gate_pos h1', gate_pos h2', hW, hH, BEq.rfl, BEq.rfl]
  rfl
theorem sfl_self {f : Flm} (hn : f.n ≤ 4611686018427387904) (hm : f.m ≤ 4611686018427387904) : FSpec Try.prog 9 [.agg f.c, .agg f.c] (bA true) := same_film hn hm rfl rfl rfl rfl (fun _ _ => rfl) fun _ _ => rfl
end Go.Proofs.Ytghfmaciapmmoaa

namespace Go.Proofs.Ytghfmaciapmmoaa
open Go.Gv

/-- What the code gives. -/
structure WorkOk : Prop where
  save : ∀ f : Flm, FSpec Try.prog 6 [.agg f.c] (bOut (savL f) (svF f) (fmay f))
  load : ∀ (n : Nat) (g : Nat → Int), (∀ i, i < n → 0 ≤ g i ∧ g i ≤ 255) → FSpec Try.prog 8 [sB n g] (fOut (ldO n g) (ldE n g))
abbrev SFL (a b : Flm) : Prop := FSpec Try.prog 9 [.agg a.c, .agg b.c] (bA true)
theorem wl_ev (n : Nat) (g : Nat → Int) (F : Flm) (e : Int) : ev Try.prog [] [kfix 8 [sB n g] (fOut F e), kfix 10 [sB n g] (fOut F e), kS Try.prog 9 fun _ => bA true] noL Try.f4 [sB n g] ret =
    cond (decide ((n : Int) > 3000)) (some (Out.of (bA true))) (gate ([sB n g] = [sB n g]) (gate ([sB n g] = [sB n g]) (gate (SFL F F) (some (Out.of (bA (cond (e == e) true false))))))) := by kernel_rfl
theorem ldO_small (n : Nat) (g : Nat → Int) : (ldO n g).n ≤ 4611686018427387904 ∧ (ldO n g).m ≤ 4611686018427387904 := by
  unfold ldO
  split
  · rename_i h
    have hf : fmay (ldF g) = 0 := by
      unfold ldE at h
      cases h1 : decide (n < 6) <;> cases h2 : mg3 g <;> cases h3 : fbad (g 4) (g 5) <;> cases h4 : decide (n < 21 * ldP g + 10) <;> cases h5 : decide (n > 21 * ldP g + 10) <;> cases h6 : ldS n g <;> rw [h1, h2, h3, h4, h5, h6] at h <;> first | exact h | (simp at h)
    obtain ⟨a, b, _, _⟩ := fmay_n hf
    exact ⟨by omega, by omega⟩
  · exact ⟨Nat.zero_le _, Nat.zero_le _⟩
theorem loads_law (ok : WorkOk) {n : Nat} {g : Nat → Int} (hg : ∀ i, i < n → 0 ≤ g i ∧ g i ≤ 255) : FSpec Try.prog 4 [sB n g] (bA true) := by
  refine gspec e_nil (k_cons (kfix_ok (ok.load n g hg)) (k_cons (kfix_ok (loadR_spec hg)) (k_cons kS_ok k_nil))) Try.func4 (by kernel_rfl) (by kernel_rfl) noL_ok rfl ((wl_ev n g _ _).trans ?_)
  obtain ⟨b1, b2⟩ := ldO_small n g
  rw [gate_pos rfl, gate_pos rfl, gate_pos (sfl_self b1 b2), BEq.rfl]
  cases decide ((n : Int) > 3000) <;> rfl
/-! ### Saved -/
def cvB (n : Nat) (t : Bool) : Bool := allB n (fun _ => true) || !(decide (t = false) && true)
theorem ws_ev (hv : Nat → Nat → Bool) (f : Flm) (n : Nat) (g : Nat → Int) (e : Int) (F : Flm) (eF : Int) : ev Try.prog [⟨5, gHv hv⟩] [kfix 6 [.agg f.c] (bOut n g e), kfix 7 [.agg f.c] (bOut n g e), kfix 8 [sB n g] (fOut F eF), kS Try.prog 9 fun _ => bA true] noL Try.f3 [.agg f.c] ret =
    cond (hv f.n f.m) (some (Out.of (bA true))) (gate ([AV.agg f.c] = [AV.agg f.c]) (gate ([AV.agg f.c] = [AV.agg f.c]) (cond (cvB n (!(e == e))) (cond (cvB n (!(e == e))) (cond (cond (!(e == e)) true (!((strF n g).toList == (strF n g).toList))) (some (Out.of (bA false)))
      (cond (!(e == 0)) (some (Out.of (bA ((n : Int) == 0)))) (gate ([sB n g] = [sB n g]) (gate (SFL f F) (some (Out.of (bA (cond (eF == 0) true false)))))))) none) none))) := by kernel_rfl
theorem ws_ev0 (hv : Nat → Nat → Bool) (f : Flm) (n : Nat) (g : Nat → Int) (e : Int) : ev Try.prog [⟨5, gHv hv⟩] [kfix 6 [.agg f.c] (bOut n g e), kfix 7 [.agg f.c] (bOut n g e), ⟨8, fun _ _ => none⟩] noL Try.f3 [.agg f.c] ret =
    cond (hv f.n f.m) (some (Out.of (bA true))) (gate ([AV.agg f.c] = [AV.agg f.c]) (gate ([AV.agg f.c] = [AV.agg f.c]) (cond (cvB n (!(e == e))) (cond (cvB n (!(e == e))) (cond (cond (!(e == e)) true (!((strF n g).toList == (strF n g).toList))) (some (Out.of (bA false)))
      (cond (!(e == 0)) (some (Out.of (bA ((n : Int) == 0)))) none)) none) none))) := by kernel_rfl
theorem cvB_t (n : Nat) (t : Bool) : cvB n t = true := by unfold cvB; rw [allB_true fun _ _ => rfl]; rfl
theorem saves_law (ok : WorkOk) (f : Flm) : FSpec Try.prog 3 [.agg f.c] (bA true) := by
  by_cases h : fmay f = 0
  · obtain ⟨hE, hW, hH, hn, hm, hl, hs⟩ := saved_back h
    have e1 : savL f = svN f + 4 := by unfold savL; rw [if_pos h]
    have hld := ok.load (savL f) (svF f) fun i _ => svF_rng i
    have hO : ldO (savL f) (svF f) = ldF (svF f) := by unfold ldO; rw [if_pos (by rw [e1]; exact hE)]
    rw [hO, show ldE (savL f) (svF f) = 0 by rw [e1]; exact hE] at hld
    obtain ⟨n1, m1, _, _⟩ := fmay_n h
    have hsf : SFL f (ldF (svF f)) := same_film (by omega) (by omega) hW.symm hH.symm hn.symm hm.symm (fun i hi => (hl i hi).symm) fun i hi => (hs i hi).symm
    refine gspec (e_cons (gHv_ok hv_spec) e_nil) (k_cons (kfix_ok (ok.save f)) (k_cons (kfix_ok (saveR_spec f)) (k_cons (kfix_ok hld) (k_cons kS_ok k_nil)))) Try.func3 (by kernel_rfl) (by kernel_rfl) noL_ok rfl ((ws_ev hvS f _ _ _ _ _).trans ?_)
    rw [gate_pos rfl, gate_pos rfl, cvB_t, gate_pos rfl, gate_pos hsf, h]
    simp only [BEq.rfl]
    cases hvS f.n f.m <;> rfl
  · have e1 : savL f = 0 := by unfold savL; rw [if_neg h]
    refine gspec (e_cons (gHv_ok hv_spec) e_nil) (k_cons (kfix_ok (ok.save f)) (k_cons (kfix_ok (saveR_spec f)) (k_cons (kno_ok _) k_nil))) Try.func3 (by kernel_rfl) (by kernel_rfl) noL_ok rfl ((ws_ev0 hvS f _ _ _).trans ?_)
    rw [gate_pos rfl, gate_pos rfl, cvB_t, BEq.rfl, BEq.rfl, beq_false_of_ne h, e1]
    cases hvS f.n f.m <;> rfl
end Go.Proofs.Ytghfmaciapmmoaa
