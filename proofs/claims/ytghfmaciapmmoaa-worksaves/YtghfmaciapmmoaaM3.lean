/-
  Wc1 Wc2 Cf1 Cf2 Wc3 Wc4 Gx Wc5 Wc6 Cf3, one behind the other.
-/
import Derived.Test.YtghfmaciapmmoaaM1
import Derived.Test.YtghfmaciapmmoaaGu
import Derived.Test.YtghfmaciapmmoaaGh
import Derived.Laws.Closers25
namespace Go.Proofs.Ytghfmaciapmmoaa
open Go.Gv

/-! ### How many bytes -/
def sbtI (n m : Nat) : Int := w64 (w64 (w64 (6 + w64 (6 * (n : Int))) + w64 (3 * (m : Int))) + 4)
theorem sbt_ev (f : Flm) : ev Try.prog [] [] noL Try.f12 [.agg f.c] ret = some (Out.of (iA (sbtI f.n f.m))) := by kernel_rfl
theorem sbt_spec (f : Flm) : FSpec Try.prog 12 [.agg f.c] (iA (sbtI f.n f.m)) := gspec e_nil k_nil Try.func12 (by kernel_rfl) (by kernel_rfl) noL_ok rfl (sbt_ev f)
def sbtG (sf : Nat → Nat → Int) : List AV → AV
  | [.agg [_, _, .sl _ n _, .sl _ m _]] => iA (sf n m)
  | _ => .any
/-! ### The sum of bytes -/
def ckS (n : Nat) (g : Nat → Int) (h i : Int) : St := mkS 20 [(3, uA h), (6, sB n g), (7, iA n), (8, iA i)] []
section
variable (n : Nat) (g : Nat → Int) (h i : Int)
theorem ck_step : evC Try.prog [] [] noL (loopAt Try.f14 0) (ckS n g h i) (finN [3, 6, 7, 8] []) = cond (decide (i < n)) (cond (ixB i n || false) (some ⟨.normal, ckS n g (suT h (g i.toNat)) (w64 (i + 1)), .any⟩) none) none := by kernel_rfl
theorem ck_end : evC Try.prog [] [] noL (loopAt Try.f14 0) (ckS n g h i) (finE [3, 6, 7, 8] []) = cond (decide (i < n)) (cond (ixB i n || false) none none) (some ⟨.exit 0, ckS n g h i, .any⟩) := by kernel_rfl
end
theorem ck_leads {n : Nat} (hn : n ≤ 1000000) (g : Nat → Int) : Leads Try.prog (.loop (loopAt Try.f14 0)) (ckS n g 1 0) (.exit 0) (ckS n g (suV g n) (n : Nat)) := by
  refine loop_rule (fun k => ckS n g (suV g k) (k : Nat)) n (.exit 0) _ (by simp) (fun k hk => ?_) ?_
  · refine leads_ev (finN_sub _ _) e_nil k_nil noL_ok ((ck_step n g (suV g k) (k : Nat)).trans ?_)
    rw [dec_lt hk, ixB_t hk, Int.toNat_natCast, w64_next (by omega)]
    rfl
  · refine leads_ev (finE_sub _ _) e_nil k_nil noL_ok ((ck_end n g (suV g n) (n : Nat)).trans ?_)
    rw [dec_self, cond_false]
noncomputable def ckL (n : Nat) (g : Nat → Int) (x : Int) : Nat → Option LFun := oneL 3 (toldF [3, 6, 7, 8] [] (ckS n g 1 0) (.exit 0) (ckS n g x (n : Nat)))
theorem ck_ev (n : Nat) (g : Nat → Int) (x : Int) : ev Try.prog [] [] (ckL n g x) Try.f14 [sB n g] ret = gate (Sub (ckS n g 1 0) (ckS n g 1 0)) (some (Out.of (iA (w64 x)))) := by kernel_rfl
theorem ck_spec {n : Nat} (hn : n ≤ 1000000) (g : Nat → Int) : FSpec Try.prog 14 [sB n g] (iA (w64 (suV g n))) := by
  have hL := lok_hd (c := bodyOf Try.f14) (i := 3) 0 (by kernel_rfl) (by kernel_rfl) (toldF_sound (keep := [3, 6, 7, 8]) (τ := []) (ck_leads hn g))
  refine gspec e_nil k_nil Try.func14 (by kernel_rfl) (by kernel_rfl) hL rfl ((ck_ev n g (suV g n)).trans ?_)
  exact gate_pos (Sub.refl _)
/-! ### Bytes as a number -/
def orI (a b : Int) : Int := IntKind.i64.wrap ((BitVec.ofInt IntKind.i64.bits a ||| BitVec.ofInt IntKind.i64.bits b).toNat : Int)
def cnV (g : Nat → Int) : Nat → Int
  | 0 => 0
  | k + 1 => orI (w64 (cnV g k * 256)) (w64 (g k))
def cnS (n : Nat) (g : Nat → Int) (x i : Int) : St := mkS 19 [(3, iA x), (6, sB n g), (7, iA n), (8, iA i)] []
section
variable (n : Nat) (g : Nat → Int) (x i : Int)
theorem cn_step : evC Try.prog [] [] noL (loopAt Try.f19 0) (cnS n g x i) (finN [3, 6, 7, 8] []) = cond (decide (i < n)) (cond (ixB i n || false) (some ⟨.normal, cnS n g (orI (w64 (x * 256)) (w64 (g i.toNat))) (w64 (i + 1)), .any⟩) none) none := by kernel_rfl
theorem cn_end : evC Try.prog [] [] noL (loopAt Try.f19 0) (cnS n g x i) (finE [3, 6, 7, 8] []) = cond (decide (i < n)) (cond (ixB i n || false) none none) (some ⟨.exit 0, cnS n g x i, .any⟩) := by kernel_rfl
end
theorem cn_leads {n : Nat} (hn : n ≤ 1000000) (g : Nat → Int) : Leads Try.prog (.loop (loopAt Try.f19 0)) (cnS n g 0 0) (.exit 0) (cnS n g (cnV g n) (n : Nat)) := by
  refine loop_rule (fun k => cnS n g (cnV g k) (k : Nat)) n (.exit 0) _ (by simp) (fun k hk => ?_) ?_
  · refine leads_ev (finN_sub _ _) e_nil k_nil noL_ok ((cn_step n g (cnV g k) (k : Nat)).trans ?_)
    rw [dec_lt hk, ixB_t hk, Int.toNat_natCast, w64_next (by omega)]
    rfl
  · refine leads_ev (finE_sub _ _) e_nil k_nil noL_ok ((cn_end n g (cnV g n) (n : Nat)).trans ?_)
    rw [dec_self, cond_false]
noncomputable def cnL (n : Nat) (g : Nat → Int) (x : Int) : Nat → Option LFun := oneL 3 (toldF [3, 6, 7, 8] [] (cnS n g 0 0) (.exit 0) (cnS n g x (n : Nat)))
theorem cn_ev (n : Nat) (g : Nat → Int) (x : Int) : ev Try.prog [] [] (cnL n g x) Try.f19 [sB n g] ret = gate (Sub (cnS n g 0 0) (cnS n g 0 0)) (some (Out.of (iA x))) := by kernel_rfl
theorem cn_spec {n : Nat} (hn : n ≤ 1000000) (g : Nat → Int) : FSpec Try.prog 19 [sB n g] (iA (cnV g n)) := by
  have hL := lok_hd (c := bodyOf Try.f19) (i := 3) 0 (by kernel_rfl) (by kernel_rfl) (toldF_sound (keep := [3, 6, 7, 8]) (τ := []) (cn_leads hn g))
  refine gspec e_nil k_nil Try.func19 (by kernel_rfl) (by kernel_rfl) hL rfl ((cn_ev n g (cnV g n)).trans ?_)
  exact gate_pos (Sub.refl _)
theorem orI_eq {a b : Nat} (ha : a ≤ 140737488355327) (hb : b < 256) : orI ((a * 256 : Nat) : Int) ((b : Nat) : Int) = ((a * 256 + b : Nat) : Int) := by
  unfold orI
  have e1 : (BitVec.ofInt IntKind.i64.bits ((a * 256 : Nat) : Int) ||| BitVec.ofInt IntKind.i64.bits ((b : Nat) : Int)).toNat = a * 256 + b := by
    show (BitVec.ofInt 64 ((a * 256 : Nat) : Int) ||| BitVec.ofInt 64 ((b : Nat) : Int)).toNat = a * 256 + b
    rw [BitVec.toNat_or, BitVec.toNat_ofInt, BitVec.toNat_ofInt]
    have e : ((2 ^ 64 : Nat) : Int) = 18446744073709551616 := rfl
    rw [e, show (((a * 256 : Nat) : Int) % 18446744073709551616).toNat = a * 256 by omega, show (((b : Nat) : Int) % 18446744073709551616).toNat = b by omega]
    have h := Nat.shiftLeft_add_eq_or_of_lt (b := b) (i := 8) (by omega) a
    rw [Nat.shiftLeft_eq] at h
    exact h.symm
  rw [e1]
  exact w64_id (by omega) (by omega)
/-- Of few bytes it is the answer's. -/
theorem cn_nb {g : Nat → Int} : ∀ {k : Nat}, k ≤ 6 → (∀ i, i < k → 0 ≤ g i ∧ g i ≤ 255) → cnV g k = nbV g k ∧ 0 ≤ nbV g k ∧ nbV g k < 256 ^ k
  | 0, _, _ => ⟨rfl, Int.le_refl _, show (0 : Int) < 256 ^ 0 by decide⟩
  | k + 1, hk, hg => by
    obtain ⟨h1, h2, h3⟩ := cn_nb (k := k) (by omega) fun i hi => hg i (by omega)
    obtain ⟨b0, b1⟩ := hg k (by omega)
    have hp : (256 : Int) ^ k ≤ 1099511627776 := by
      have : k = 0 ∨ k = 1 ∨ k = 2 ∨ k = 3 ∨ k = 4 ∨ k = 5 := by omega
      rcases this with rfl | rfl | rfl | rfl | rfl | rfl <;> decide
    have hs := nbV_step (rfl : nbV g k = nbV g k) (rfl : g k = g k) h2 (by omega) b0 b1
    have hpk : (256 : Int) ^ (k + 1) = 256 ^ k * 256 := Int.pow_succ _ _
    refine ⟨?_, by rw [hs]; omega, by rw [hs, hpk]; omega⟩
    rw [hs]
    show orI (w64 (cnV g k * 256)) (w64 (g k)) = _
    rw [h1]
    generalize nbV g k = y at h2 h3
    generalize g k = b at b0 b1
    rw [w64_id (n := y * 256) (by omega) (by omega), w64_id (n := b) (by omega) (by omega)]
    have := orI_eq (a := y.toNat) (b := b.toNat) (by omega) (by omega)
    rw [show ((y.toNat * 256 : Nat) : Int) = y * 256 by omega, show ((b.toNat : Nat) : Int) = b by omega] at this
    rw [this]
    omega
end Go.Proofs.Ytghfmaciapmmoaa

namespace Go.Proofs.Ytghfmaciapmmoaa
open Go.Gv

def bS (n : Int) (s : Nat) : Int := IntKind.u8.wrap (n.fdiv (2 ^ s))
def an6 (n : Int) (j : Nat) : Int := [bS n 40, bS n 32, bS n 24, bS n 16, bS n 8, bS n 0].getD j 0
def an4 (n : Int) (j : Nat) : Int := [bS n 24, bS n 16, bS n 8, bS n 0].getD j 0
def an3 (n : Int) (j : Nat) : Int := [bS n 16, bS n 8, bS n 0].getD j 0
def aY (c : Nat) : Bool := apB c 1 || false
def arR (c : Nat) (el : Nat → List AV) : List Row := [.a 5 1 c el]
section
variable (n : Int) (c : Nat) (el : Nat → List AV)
theorem an3_ev : evG Try.prog [] [] [] noL Try.f13 [.osl 0 1 0 c, iA n, iA 3] (arR c el) [some 0, some 6] =
    cond (aY c) (cond (aY (c + 1)) (cond (aY (c + 2)) (gout (.osl 1 1 0 (c + 3)) [.dead, .a 5 1 (c + 3) (apE (apE (apE el c (bS n 16)) (c + 1) (bS n 8)) (c + 2) (bS n 0))]) none) none) none := by kernel_rfl
theorem an4_ev : evG Try.prog [] [] [] noL Try.f13 [.osl 0 1 0 c, iA n, iA 4] (arR c el) [some 0, some 8] =
    cond (aY c) (cond (aY (c + 1)) (cond (aY (c + 2)) (cond (aY (c + 3)) (gout (.osl 1 1 0 (c + 4)) [.dead, .a 5 1 (c + 4) (apE (apE (apE (apE el c (bS n 24)) (c + 1) (bS n 16)) (c + 2) (bS n 8)) (c + 3) (bS n 0))]) none) none) none) none := by kernel_rfl
theorem an6_ev : evG Try.prog [] [] [] noL Try.f13 [.osl 0 1 0 c, iA n, iA 6] (arR c el) [some 0, some 12] =
    cond (aY c) (cond (aY (c + 1)) (cond (aY (c + 2)) (cond (aY (c + 3)) (cond (aY (c + 4)) (cond (aY (c + 5)) (gout (.osl 1 1 0 (c + 6)) [.dead, .a 5 1 (c + 6) (apE (apE (apE (apE (apE (apE el c (bS n 40)) (c + 1) (bS n 32)) (c + 2) (bS n 24)) (c + 3) (bS n 16)) (c + 4) (bS n 8)) (c + 5) (bS n 0))]) none) none) none) none) none) none := by kernel_rfl
end
end Go.Proofs.Ytghfmaciapmmoaa

namespace Go.Proofs.Ytghfmaciapmmoaa
open Go.Gv

def isd (x : Int) : Bool := cond (decide (x ≥ 1)) (decide (x ≤ 64)) false
theorem isd_ev (x : Int) : ev Try.prog [] [] noL Try.f23 [iA x] ret = some (Out.of (bA (isd x))) := by kernel_rfl
theorem isd_spec (x : Int) : FSpec Try.prog 23 [iA x] (bA (isd x)) := gspec e_nil k_nil Try.func23 (by kernel_rfl) (by kernel_rfl) noL_ok rfl (isd_ev x)
def gSd (sd : Int → Bool) : List AV → Option AV
  | [.x (.int .i64 l)] => some (bA (sd l))
  | _ => none
theorem gSd_ok : EOk Try.prog ⟨23, gSd isd⟩ := fun args r hr => by
  simp only [gSd] at hr
  split at hr
  · cases hr; exact Or.inl (isd_spec _)
  · cases hr
/-! ### Numbers up to a most -/
def utS (most : Int) (n : Nat) (g : Nat → Int) (i : Int) : St := mkS 21 [(0, iA most), (7, sI n g), (8, iA n), (9, iA i)] []
def utE : St := mkS 21 [(4, bA false)] []
section
variable (most : Int) (n : Nat) (g : Nat → Int) (i : Int)
theorem ut_step : evC Try.prog [] [] noL (loopAt Try.f24 0) (utS most n g i) (finN [0, 7, 8, 9] []) =
    cond (decide (i < n)) (cond (ixB i n || false) (cond (ofB (g i.toNat) most) none (some ⟨.normal, utS most n g (w64 (i + 1)), .any⟩)) none) none := by kernel_rfl
theorem ut_ret : evC Try.prog [] [] noL (loopAt Try.f24 0) (utS most n g i) (finR [4] []) =
    cond (decide (i < n)) (cond (ixB i n || false) (cond (ofB (g i.toNat) most) (some ⟨.ret, utE, .any⟩) none) none) none := by kernel_rfl
theorem ut_end : evC Try.prog [] [] noL (loopAt Try.f24 0) (utS most n g i) (finE [0, 7, 8, 9] []) =
    cond (decide (i < n)) (cond (ixB i n || false) (cond (ofB (g i.toNat) most) none none) none) (some ⟨.exit 0, utS most n g i, .any⟩) := by kernel_rfl
end
theorem ut_good {most : Int} {n : Nat} {g : Nat → Int} (hn : n ≤ 4611686018427387904) (h : ∀ i, i < n → ofB (g i) most = false) : Leads Try.prog (.loop (loopAt Try.f24 0)) (utS most n g 0) (.exit 0) (utS most n g (n : Nat)) := by
  refine loop_rule (fun k => utS most n g (k : Nat)) n (.exit 0) _ (by simp) (fun k hk => ?_) ?_
  · refine leads_ev (finN_sub _ _) e_nil k_nil noL_ok ((ut_step most n g (k : Nat)).trans ?_)
    rw [dec_lt hk, ixB_t hk, Int.toNat_natCast, h k hk, w64_next (by omega)]
    rfl
  · refine leads_ev (finE_sub _ _) e_nil k_nil noL_ok ((ut_end most n g (n : Nat)).trans ?_)
    rw [dec_self, cond_false]
theorem ut_bad {most : Int} {n : Nat} {g : Nat → Int} (hn : n ≤ 4611686018427387904) {K : Nat} (hK : K < n) (hb : ofB (g K) most = true) (h : ∀ i, i < K → ofB (g i) most = false) : Leads Try.prog (.loop (loopAt Try.f24 0)) (utS most n g 0) .ret utE := by
  refine loop_rule (fun k => utS most n g (k : Nat)) K .ret _ (by simp) (fun k hk => ?_) ?_
  · refine leads_ev (finN_sub _ _) e_nil k_nil noL_ok ((ut_step most n g (k : Nat)).trans ?_)
    have hk' : k < n := by omega
    rw [dec_lt hk', ixB_t hk', Int.toNat_natCast, h k hk, w64_next (by omega)]
    rfl
  · refine leads_ev (finR_sub _ _) e_nil k_nil noL_ok ((ut_ret most n g (K : Nat)).trans ?_)
    rw [dec_lt hK, ixB_t hK, Int.toNat_natCast, hb]
    rfl
noncomputable def utL (most : Int) (n : Nat) (g : Nat → Int) : LFun := toldF [0, 7, 8, 9] [] (utS most n g 0) (.exit 0) (utS most n g (n : Nat))
noncomputable def utLr (most : Int) (n : Nat) (g : Nat → Int) : LFun := toldF [0, 7, 8, 9] [] (utS most n g 0) .ret utE
theorem ut_evG (most : Int) (n : Nat) (g : Nat → Int) : ev Try.prog [] [] (oneL 2 (utL most n g)) Try.f24 [iA most, sI n g] ret = gate (Sub (utS most n g 0) (utS most n g 0)) (some (Out.of (bA true))) := by kernel_rfl
theorem ut_evR (most : Int) (n : Nat) (g : Nat → Int) : ev Try.prog [] [] (oneL 2 (utLr most n g)) Try.f24 [iA most, sI n g] ret = gate (Sub (utS most n g 0) (utS most n g 0)) (some (Out.of (bA false))) := by kernel_rfl
noncomputable def upI (most : Int) (n : Nat) (g : Nat → Int) : Bool := allI n fun i => !ofB (g i) most
theorem ut_spec {most : Int} {n : Nat} {g : Nat → Int} (hn : n ≤ 4611686018427387904) : FSpec Try.prog 24 [iA most, sI n g] (bA (upI most n g)) := by
  unfold upI
  rcases all_or_first (fun i => !ofB (g i) most) n with hl | ⟨K, hK, hp, hq⟩
  · have l1 := lok_at (c := bodyOf Try.f24) (i := 2) 0 1 (by kernel_rfl) (by kernel_rfl) (toldF_sound (keep := [0, 7, 8, 9]) (τ := []) (ut_good (most := most) hn fun i hi => by simpa using hl i hi))
    refine gspec e_nil k_nil Try.func24 (by kernel_rfl) (by kernel_rfl) l1 rfl ((ut_evG most n g).trans ?_)
    rw [gate_pos (Sub.refl _), allI_t hl]
  · have l1 := lok_at (c := bodyOf Try.f24) (i := 2) 0 1 (by kernel_rfl) (by kernel_rfl) (toldF_sound (keep := [0, 7, 8, 9]) (τ := []) (ut_bad (most := most) hn hK (by simpa using hp) fun i hi => by simpa using hq i hi))
    refine gspec e_nil k_nil Try.func24 (by kernel_rfl) (by kernel_rfl) l1 rfl ((ut_evR most n g).trans ?_)
    rw [gate_pos (Sub.refl _), allI_f hK hp]
abbrev UF : Type := Int → Nat → (Nat → List AV) → Bool
def utG (uf : UF) : List AV → AV
  | [.x (.int .i64 most), .sl _ n el] => bA (uf most n el)
  | _ => .any
noncomputable def utF : UF := fun most n el => upI most n fun i => intOf (el i)
abbrev UTok (uf : UF) (most : Int) (n : Nat) (g : Nat → Int) : Prop := FSpec Try.prog 24 [iA most, sI n g] (utG uf [iA most, sI n g])
theorem UTok_of {most : Int} {n : Nat} {g : Nat → Int} (hn : n ≤ 4611686018427387904) : UTok utF most n g := ut_spec hn
end Go.Proofs.Ytghfmaciapmmoaa

namespace Go.Proofs.Ytghfmaciapmmoaa
open Go.Gv

def cSd (sd : Int → Bool) (W H : Int) : Bool := cond (!sd W) true (!sd H)
def cCn (f : Flm) : Bool := cond (!((f.n : Int) == w64 (3 * w64 (f.W * f.H)))) true (!((f.m : Int) == w64 (f.W * f.H)))
def cUp (uf : UF) (f : Flm) : Bool := cond (!uf 1099511627776 f.n fun i => [iA (f.lt i)]) true (!uf 1048576 f.m fun i => [iA (f.sh i)])
theorem cmay_ev (sd : Int → Bool) (uf : UF) (f : Flm) : ev Try.prog [⟨23, gSd sd⟩] [kS Try.prog 24 (utG uf)] noL Try.f11 [.agg f.c] ret =
    cond (cSd sd f.W f.H) (some (Out.of (iA 4))) (cond (cCn f) (some (Out.of (iA 5))) (gate (UTok uf 1099511627776 f.n f.lt) (gate (UTok uf 1048576 f.m f.sh) (cond (cUp uf f) (some (Out.of (iA 6))) (some (Out.of (iA 0))))))) := by kernel_rfl
theorem cSd_eq (W H : Int) : cSd isd W H = fbad W H := by
  unfold cSd fbad isd
  by_cases h1 : W < 1 <;> by_cases h2 : W > 64 <;> by_cases h3 : H < 1 <;> by_cases h4 : H > 64 <;> first | (exfalso; omega) | skip
  all_goals (simp only [h1, h2, h3, h4, decide_true, decide_false, cond_true, cond_false, Bool.not_true, Bool.not_false, show (W ≥ 1) = ¬ (W < 1) from propext (by omega), show (W ≤ 64) = ¬ (W > 64) from propext (by omega), show (H ≥ 1) = ¬ (H < 1) from propext (by omega), show (H ≤ 64) = ¬ (H > 64) from propext (by omega), not_true_eq_false, not_false_eq_true])
theorem cCn_eq {f : Flm} (h : fbad f.W f.H = false) : cCn f = fcnt f := by
  obtain ⟨h1, h2, h3, h4⟩ := fbad_false h
  have hm := mulB (x := f.W) (y := f.H) (X := 64) (Y := 64) (by omega) h2 (by omega) h4
  unfold cCn fcnt
  rw [w64_id (n := f.W * f.H) (by omega) (by omega), w64_id (n := 3 * (f.W * f.H)) (by omega) (by omega), w64_id (n := 3 * f.W) (by omega) (by omega), Int.mul_assoc, w64_id (n := 3 * (f.W * f.H)) (by omega) (by omega)]
theorem cUp_eq (f : Flm) : cUp utF f = !fval f := by
  show cond (!upI 1099511627776 f.n f.lt) true (!upI 1048576 f.m f.sh) = _
  unfold fval upI
  cases allI f.n (fun i => !ofB (f.lt i) 1099511627776) <;> rfl
theorem cmay_spec (f : Flm) : FSpec Try.prog 11 [.agg f.c] (iA (fmay f)) := by
  refine gspec (e_cons gSd_ok e_nil) (k_cons (kS_ok (P := Try.prog) (f := 24) (g := utG utF)) k_nil) Try.func11 (by kernel_rfl) (by kernel_rfl) noL_ok rfl ((cmay_ev isd utF f).trans ?_)
  rw [cSd_eq]
  unfold fmay
  cases hb : fbad f.W f.H
  · rw [cCn_eq hb]
    cases hc : fcnt f
    · obtain ⟨hn, hm⟩ := fcnt_false hb hc
      obtain ⟨h1, h2, h3, h4⟩ := fbad_false hb
      have hM := mulB (x := f.W) (y := f.H) (X := 64) (Y := 64) (by omega) h2 (by omega) h4
      rw [gate_pos (UTok_of (by omega)), gate_pos (UTok_of (by omega)), cUp_eq]
      cases fval f <;> rfl
    · rfl
  · rfl
end Go.Proofs.Ytghfmaciapmmoaa

namespace Go.Proofs.Ytghfmaciapmmoaa
open Go.Gv

theorem blt_no {a b : Nat} (h : b ≤ a) : Nat.blt a b = false := by
  cases hb : Nat.blt a b
  · rfl
  · have : a < b := Nat.le_of_ble_eq_true hb
    omega
def anB (n s : Int) (j : Nat) : Int := cond (s == 6) (an6 n j) (cond (s == 3) (an3 n j) (an4 n j))
def anF (n s : Int) (g : Nat → Int) (c q : Nat) : Int := cond (Nat.blt q c) (g q) (anB n s (q - c))
theorem aY_t {c : Nat} (h : c < 140737488355328) : aY c = true := by unfold aY; rw [apB_t (by omega)]; rfl
abbrev ANok (n s : Int) (k : Nat) (c : Nat) (g : Nat → Int) : Prop := GSpec Try.prog 13 [.osl 0 1 0 c, iA n, iA s] [.a 5 1 c fun q => [yA (g q)]] (.osl 1 1 0 (c + k)) [.dead, .a 5 1 (c + k) fun q => [yA (anF n s g c q)]]
theorem an3_ok {c : Nat} (hc : c + 6 ≤ 140737488355328) (n : Int) (g : Nat → Int) : ANok n 3 3 c g := by
  have hev := an3_ev n c fun q => [yA (g q)]
  rw [aY_t (by omega), aY_t (by omega), aY_t (by omega), apE_fun, apE_fun, apE_fun] at hev
  refine (gspecG (mem := arR c fun q => [yA (g q)]) e_nil k_nil m_nil Try.func13 (by kernel_rfl) (by kernel_rfl) (fun _ _ _ _ _ h => by cases h) rfl (by kernel_rfl) hev).of_rows ⟨Or.inl rfl, Or.inr ⟨5, 1, c + 3, _, _, rfl, rfl, fun q hq => ?_⟩, trivial⟩
  unfold anF
  by_cases h : q < c
  · rw [blt_t h, blt_t (show q < c + 1 by omega), blt_t (show q < c + 2 by omega)]; rfl
  · obtain ⟨j, rfl⟩ : ∃ j, q = c + j := ⟨q - c, by omega⟩
    rw [blt_no (show c ≤ c + j by omega), Nat.add_sub_cancel_left]
    have : j = 0 ∨ j = 1 ∨ j = 2 := by omega
    rcases this with rfl | rfl | rfl
    · rw [blt_t (show c + 0 < c + 1 by omega), blt_t (show c + 0 < c + 2 by omega)]; rfl
    · rw [blt_no (show c + 1 ≤ c + 1 by omega), blt_t (show c + 1 < c + 2 by omega)]; rfl
    · rw [blt_no (show c + 2 ≤ c + 2 by omega)]; rfl
theorem an4_ok {c : Nat} (hc : c + 6 ≤ 140737488355328) (n : Int) (g : Nat → Int) : ANok n 4 4 c g := by
  have hev := an4_ev n c fun q => [yA (g q)]
  rw [aY_t (by omega), aY_t (by omega), aY_t (by omega), aY_t (by omega), apE_fun, apE_fun, apE_fun, apE_fun] at hev
  refine (gspecG (mem := arR c fun q => [yA (g q)]) e_nil k_nil m_nil Try.func13 (by kernel_rfl) (by kernel_rfl) (fun _ _ _ _ _ h => by cases h) rfl (by kernel_rfl) hev).of_rows ⟨Or.inl rfl, Or.inr ⟨5, 1, c + 4, _, _, rfl, rfl, fun q hq => ?_⟩, trivial⟩
  unfold anF
  by_cases h : q < c
  · rw [blt_t h, blt_t (show q < c + 1 by omega), blt_t (show q < c + 2 by omega), blt_t (show q < c + 3 by omega)]; rfl
  · obtain ⟨j, rfl⟩ : ∃ j, q = c + j := ⟨q - c, by omega⟩
    rw [blt_no (show c ≤ c + j by omega), Nat.add_sub_cancel_left]
    have : j = 0 ∨ j = 1 ∨ j = 2 ∨ j = 3 := by omega
    rcases this with rfl | rfl | rfl | rfl
    · rw [blt_t (show c + 0 < c + 1 by omega), blt_t (show c + 0 < c + 2 by omega), blt_t (show c + 0 < c + 3 by omega)]; rfl
    · rw [blt_no (show c + 1 ≤ c + 1 by omega), blt_t (show c + 1 < c + 2 by omega), blt_t (show c + 1 < c + 3 by omega)]; rfl
    · rw [blt_no (show c + 2 ≤ c + 2 by omega), blt_t (show c + 2 < c + 3 by omega)]; rfl
    · rw [blt_no (show c + 3 ≤ c + 3 by omega)]; rfl
theorem an6_ok {c : Nat} (hc : c + 6 ≤ 140737488355328) (n : Int) (g : Nat → Int) : ANok n 6 6 c g := by
  have hev := an6_ev n c fun q => [yA (g q)]
  rw [aY_t (by omega), aY_t (by omega), aY_t (by omega), aY_t (by omega), aY_t (by omega), aY_t (by omega), apE_fun, apE_fun, apE_fun, apE_fun, apE_fun, apE_fun] at hev
  refine (gspecG (mem := arR c fun q => [yA (g q)]) e_nil k_nil m_nil Try.func13 (by kernel_rfl) (by kernel_rfl) (fun _ _ _ _ _ h => by cases h) rfl (by kernel_rfl) hev).of_rows ⟨Or.inl rfl, Or.inr ⟨5, 1, c + 6, _, _, rfl, rfl, fun q hq => ?_⟩, trivial⟩
  unfold anF
  by_cases h : q < c
  · rw [blt_t h, blt_t (show q < c + 1 by omega), blt_t (show q < c + 2 by omega), blt_t (show q < c + 3 by omega), blt_t (show q < c + 4 by omega), blt_t (show q < c + 5 by omega)]; rfl
  · obtain ⟨j, rfl⟩ : ∃ j, q = c + j := ⟨q - c, by omega⟩
    rw [blt_no (show c ≤ c + j by omega), Nat.add_sub_cancel_left]
    have : j = 0 ∨ j = 1 ∨ j = 2 ∨ j = 3 ∨ j = 4 ∨ j = 5 := by omega
    rcases this with rfl | rfl | rfl | rfl | rfl | rfl
    · rw [blt_t (show c + 0 < c + 1 by omega), blt_t (show c + 0 < c + 2 by omega), blt_t (show c + 0 < c + 3 by omega), blt_t (show c + 0 < c + 4 by omega), blt_t (show c + 0 < c + 5 by omega)]; rfl
    · rw [blt_no (show c + 1 ≤ c + 1 by omega), blt_t (show c + 1 < c + 2 by omega), blt_t (show c + 1 < c + 3 by omega), blt_t (show c + 1 < c + 4 by omega), blt_t (show c + 1 < c + 5 by omega)]; rfl
    · rw [blt_no (show c + 2 ≤ c + 2 by omega), blt_t (show c + 2 < c + 3 by omega), blt_t (show c + 2 < c + 4 by omega), blt_t (show c + 2 < c + 5 by omega)]; rfl
    · rw [blt_no (show c + 3 ≤ c + 3 by omega), blt_t (show c + 3 < c + 4 by omega), blt_t (show c + 3 < c + 5 by omega)]; rfl
    · rw [blt_no (show c + 4 ≤ c + 4 by omega), blt_t (show c + 4 < c + 5 by omega)]; rfl
    · rw [blt_no (show c + 5 ≤ c + 5 by omega)]; rfl
abbrev AF : Type := Int → Int → (Nat → Int) → Nat → Nat → Int
noncomputable def anC (af : AF) : List AV → List Row → Option (Bool × AV × List Row)
  | [.osl 0 1 0 c, .x (.int .i64 n), .x (.int .i64 s)], [.a e sz m el] => some (propB (GSpec Try.prog 13 [.osl 0 1 0 c, iA n, iA s] [.a e sz m el] (.osl 1 1 0 (c + s.toNat)) [.dead, .a 5 1 (c + s.toNat) fun q => [yA (af n s (fun q => u8Of' (el q)) c q)]]), .osl 1 1 0 (c + s.toNat), [.dead, .a 5 1 (c + s.toNat) fun q => [yA (af n s (fun q => u8Of' (el q)) c q)]])
  | _, _ => none
noncomputable def mA (af : AF) : MEntry := ⟨13, liftM (some 0) (anC af), none⟩
theorem mA_ok {af : AF} : MEOk Try.prog (mA af) := by
  refine ⟨liftM_ok fun args rs v mem1 hc => ?_, fun _ h => by cases h⟩
  unfold anC at hc
  split at hc
  · simp only [Option.some.injEq, Prod.mk.injEq] at hc
    obtain ⟨h1, rfl, rfl⟩ := hc
    refine ⟨propB_of h1, fun i hi hw => ?_⟩
    have : i = 0 := by simpa using hi
    subst this
    exact absurd rfl hw
  · cases hc
/-! ### Save -/
def wsS (f : Flm) (c : Nat) (g : Nat → Int) (i : Int) : St := mkS 55 [(1, .own 0 0), (5, .osl 1 1 0 c), (30, sI f.n f.lt), (31, iA f.n), (32, iA i)] [.c f.c, .a 5 1 c fun q => [yA (g q)]]
def wtS (f : Flm) (c : Nat) (g : Nat → Int) (i : Int) : St := mkS 55 [(1, .own 0 0), (5, .osl 1 1 0 c), (41, sI f.m f.sh), (42, iA f.m), (43, iA i)] [.c f.c, .a 5 1 c fun q => [yA (g q)]]
def keepWs : List Nat := [1, 5, 30, 31, 32]
def keepWt : List Nat := [1, 5, 41, 42, 43]
abbrev ANa (af : AF) (n s : Int) (k c : Nat) (g : Nat → Int) : Prop := GSpec Try.prog 13 [.osl 0 1 0 c, iA n, iA s] [.a 5 1 c fun q => [yA (g q)]] (.osl 1 1 0 (c + k)) [.dead, .a 5 1 (c + k) fun q => [yA (af n s g c q)]]
noncomputable def anQ (p : Prop) (c : Nat) : Bool := (propB p && (Nat.blt 0 (0 + c) && true)) || false
section
variable (af : AF) (f : Flm) (c : Nat) (g : Nat → Int) (i : Int)
theorem ws_step : evCM Try.prog [] [] [mA af] noL (loopAt Try.f6 0) (wsS f c g i) (finN keepWs [some 0, some 2]) =
    cond (decide (i < f.n)) (cond (ixB i f.n || false) (cond (anQ (ANa af (f.lt i.toNat) 6 6 c g) c) (some ⟨.normal, wsS f (c + 6) (af (f.lt i.toNat) 6 g c) (w64 (i + 1)), .any⟩) none) none) none := by kernel_rfl
theorem ws_end : evCM Try.prog [] [] [mA af] noL (loopAt Try.f6 0) (wsS f c g i) (finE keepWs [some 0, some 1]) =
    cond (decide (i < f.n)) (cond (ixB i f.n || false) (cond (anQ (ANa af (f.lt i.toNat) 6 6 c g) c) none none) none) (some ⟨.exit 0, wsS f c g i, .any⟩) := by kernel_rfl
theorem wt_step : evCM Try.prog [] [] [mA af] noL (loopAt Try.f6 1) (wtS f c g i) (finN keepWt [some 0, some 2]) =
    cond (decide (i < f.m)) (cond (ixB i f.m || false) (cond (anQ (ANa af (f.sh i.toNat) 3 3 c g) c) (some ⟨.normal, wtS f (c + 3) (af (f.sh i.toNat) 3 g c) (w64 (i + 1)), .any⟩) none) none) none := by kernel_rfl
theorem wt_end : evCM Try.prog [] [] [mA af] noL (loopAt Try.f6 1) (wtS f c g i) (finE keepWt [some 0, some 1]) =
    cond (decide (i < f.m)) (cond (ixB i f.m || false) (cond (anQ (ANa af (f.sh i.toNat) 3 3 c g) c) none none) none) (some ⟨.exit 2, wtS f c g i, .any⟩) := by kernel_rfl
end
def mkT : ByteArray := { data := #[82, 72, 70, 49] }
def hdE (f : Flm) : Nat → List AV := fun q => mixL (Nat.blt q 4) (mixL (Nat.blt q 0) [yA 0] [yA (byAt mkT (q - 0))]) (spread 4 [[yA (IntKind.u8.wrap f.W)], [yA (IntKind.u8.wrap f.H)]] q)
def wsH (f : Flm) : St := mkS 55 [(1, .own 0 0), (5, .osl 1 1 0 6), (30, sI f.n f.lt), (31, iA f.n), (32, iA 0)] [.c f.c, .a 5 1 6 (hdE f)]
noncomputable def wsL (f : Flm) (N M : Nat) (g : Nat → Int) : Nat → Option LFun := twoL 8 (toldF keepWs [some 0, some 4] (wsS f 6 g 0) (.exit 0) (wsS f N g (f.n : Nat))) 13 (toldF keepWt [some 0, some 1] (wtS f N g 0) (.exit 2) (wtS f M g (f.m : Nat)))
abbrev CKok (sf : Nat → (Nat → List AV) → Int) (n : Nat) (el : Nat → List AV) : Prop := FSpec Try.prog 14 [.sl 1 n el] (iA (sf n el))
abbrev SBok (bf : Nat → Nat → Int) (f : Flm) : Prop := FSpec Try.prog 12 [.agg f.c] (iA (bf f.n f.m))
def mkY (k : Int) : Bool := (decide ((0 : Int) ≤ k) && decide (((1 : Nat) : Int) * k ≤ 281474976710656)) || false
theorem wz_ev (af : AF) (mf : MF) (bf : Nat → Nat → Int) (sf : Nat → (Nat → List AV) → Int) (f : Flm) (N M : Nat) (g : Nat → Int) : evG Try.prog [] [kS Try.prog 11 (fmG mf), kS Try.prog 12 (sbtG bf)] [mA af, mS Try.prog 14 (suG sf)] (wsL f N M g) Try.f6 [.agg f.c] [] [some 2] =
    gate (FMok 11 mf f) (cond (!(mf.of f == 0)) none (gate (SBok bf f) (cond (mkY (bf f.n f.m)) (gate (Sub (wsH f) (wsS f 6 g 0)) (gate (Sub (wtS f N g 0) (wtS f N g 0))
      (cond (ssB (CKok sf M fun i => [yA (g (0 + i))]) M) (cond (anQ (ANa af (sf M fun i => [yA (g (0 + i))]) 4 4 M g) M)
        (gout (.tup [.osl 0 1 0 (M + 4), iA 0]) [.a 5 1 (M + 4) fun q => [yA (af (sf M fun i => [yA (g (0 + i))]) 4 g M q)]]) none) none))) none))) := by kernel_rfl
theorem wz_ev0 (mf : MF) (f : Flm) : ev Try.prog [] [kS Try.prog 11 (fmG mf), ⟨12, fun _ _ => none⟩] noL Try.f6 [.agg f.c] ret =
    gate (FMok 11 mf f) (cond (!(mf.of f == 0)) (bBad (mf.of f)) none) := by kernel_rfl
end Go.Proofs.Ytghfmaciapmmoaa

namespace Go.Proofs.Ytghfmaciapmmoaa
open Go.Gv

theorem bS_eq {x d : Int} {s : Nat} (h0 : 0 ≤ x) (h1 : x ≤ 281474976710655) (hd : (2 : Int) ^ s = d) (hp : 0 < d) : bS x s = byD x d := by
  rw [byD_eq h0 h1 hp]
  unfold bS
  rw [hd, Int.fdiv_eq_ediv_of_nonneg _ (by omega), wrap_u8]
theorem an6_eq {x : Int} (h0 : 0 ≤ x) (h1 : x ≤ 281474976710655) {j : Nat} (hj : j < 6) : an6 x j = f6 x j := by
  have : j = 0 ∨ j = 1 ∨ j = 2 ∨ j = 3 ∨ j = 4 ∨ j = 5 := by omega
  rcases this with rfl | rfl | rfl | rfl | rfl | rfl
  · exact bS_eq (d := 1099511627776) h0 h1 (by decide) (by decide)
  · exact bS_eq (d := 4294967296) h0 h1 (by decide) (by decide)
  · exact bS_eq (d := 16777216) h0 h1 (by decide) (by decide)
  · exact bS_eq (d := 65536) h0 h1 (by decide) (by decide)
  · exact bS_eq (d := 256) h0 h1 (by decide) (by decide)
  · exact bS_eq (d := 1) h0 h1 (by decide) (by decide)
theorem an4_eq {x : Int} (h0 : 0 ≤ x) (h1 : x ≤ 281474976710655) {j : Nat} (hj : j < 4) : an4 x j = f4 x j := by
  have : j = 0 ∨ j = 1 ∨ j = 2 ∨ j = 3 := by omega
  rcases this with rfl | rfl | rfl | rfl
  · exact bS_eq (d := 16777216) h0 h1 (by decide) (by decide)
  · exact bS_eq (d := 65536) h0 h1 (by decide) (by decide)
  · exact bS_eq (d := 256) h0 h1 (by decide) (by decide)
  · exact bS_eq (d := 1) h0 h1 (by decide) (by decide)
theorem an3_eq {x : Int} (h0 : 0 ≤ x) (h1 : x ≤ 281474976710655) {j : Nat} (hj : j < 3) : an3 x j = f3 x j := by
  have : j = 0 ∨ j = 1 ∨ j = 2 := by omega
  rcases this with rfl | rfl | rfl
  · exact bS_eq (d := 65536) h0 h1 (by decide) (by decide)
  · exact bS_eq (d := 256) h0 h1 (by decide) (by decide)
  · exact bS_eq (d := 1) h0 h1 (by decide) (by decide)
theorem anF_same {n s : Int} {g : Nat → Int} {c k q : Nat} (hq : q < c + k) (h : ∀ j, j < k → anB n s j = g (c + j)) : anF n s g c q = g q := by
  unfold anF
  cases hb : Nat.blt q c
  · have hge := not_blt hb
    rw [cond_false, h (q - c) (by omega), show c + (q - c) = q by omega]
  · rfl
theorem anQ_t {p : Prop} {c : Nat} (h : p) (hc : 0 < c) : anQ p c = true := by unfold anQ; rw [propB_t h, blt_t (by omega)]; rfl
theorem ws_leads {f : Flm} (hn : f.n ≤ 1000000) (hl : ∀ i, i < f.n → 0 ≤ f.lt i ∧ f.lt i ≤ 1099511627776) : Leads Try.prog (.loop (loopAt Try.f6 0)) (wsS f 6 (sv0 f) 0) (.exit 0) (wsS f (6 + 6 * f.n) (sv0 f) (f.n : Nat)) := by
  refine loop_rule (fun k => wsS f (6 + 6 * k) (sv0 f) (k : Nat)) f.n (.exit 0) _ (by simp) (fun k hk => ?_) ?_
  · have st := ws_step anF f (6 + 6 * k) (sv0 f) (k : Nat)
    rw [dec_lt hk, ixB_t hk, Int.toNat_natCast, anQ_t (an6_ok (by omega) _ _) (by omega), w64_next (by omega)] at st
    obtain ⟨x0, x1⟩ := hl k hk
    refine (leads_evM (finN_sub _ _) e_nil k_nil (m_cons mA_ok m_nil) noL_ok st).sub (Sub.refl _) ?_
    exact sub_same ⟨Or.inl rfl, Or.inr ⟨5, 1, 6 + 6 * k + 6, _, _, rfl, rfl, fun q hq => by rw [anF_same (n := f.lt k) (s := 6) (g := sv0 f) (k := 6) hq fun j hj => (show an6 (f.lt k) j = _ from (an6_eq x0 (by omega) hj).trans (sv0_l hk hj).symm)]⟩, trivial⟩
  · refine leads_evM (finE_sub _ _) e_nil k_nil (m_cons mA_ok m_nil) noL_ok ((ws_end anF f _ _ (f.n : Nat)).trans ?_)
    rw [dec_self, cond_false]
theorem wt_leads {f : Flm} (hn : f.n ≤ 1000000) (hm : f.m ≤ 1000000) (hs : ∀ i, i < f.m → 0 ≤ f.sh i ∧ f.sh i ≤ 1048576) : Leads Try.prog (.loop (loopAt Try.f6 1)) (wtS f (6 + 6 * f.n) (sv0 f) 0) (.exit 2) (wtS f (svN f) (sv0 f) (f.m : Nat)) := by
  refine loop_rule (fun k => wtS f (6 + 6 * f.n + 3 * k) (sv0 f) (k : Nat)) f.m (.exit 2) _ (by simp) (fun k hk => ?_) ?_
  · have st := wt_step anF f (6 + 6 * f.n + 3 * k) (sv0 f) (k : Nat)
    rw [dec_lt hk, ixB_t hk, Int.toNat_natCast, anQ_t (an3_ok (by omega) _ _) (by omega), w64_next (by omega)] at st
    obtain ⟨x0, x1⟩ := hs k hk
    refine (leads_evM (finN_sub _ _) e_nil k_nil (m_cons mA_ok m_nil) noL_ok st).sub (Sub.refl _) ?_
    exact sub_same ⟨Or.inl rfl, Or.inr ⟨5, 1, 6 + 6 * f.n + 3 * k + 3, _, _, rfl, rfl, fun q hq => by rw [anF_same (n := f.sh k) (s := 3) (g := sv0 f) (k := 3) hq fun j hj => (show an3 (f.sh k) j = _ from (an3_eq x0 (by omega) hj).trans (sv0_s hj).symm)]⟩, trivial⟩
  · refine leads_evM (finE_sub _ _) e_nil k_nil (m_cons mA_ok m_nil) noL_ok ((wt_end anF f _ _ (f.m : Nat)).trans ?_)
    rw [dec_self, cond_false]
    rfl
theorem wsH_sub (f : Flm) : Sub (wsH f) (wsS f 6 (sv0 f) 0) := by
  refine sub_same ⟨Or.inl rfl, Or.inr ⟨5, 1, 6, _, _, rfl, rfl, fun q hq => ?_⟩, trivial⟩
  have : q = 0 ∨ q = 1 ∨ q = 2 ∨ q = 3 ∨ q = 4 ∨ q = 5 := by omega
  rcases this with rfl | rfl | rfl | rfl | rfl | rfl <;> rfl
theorem csave_G {f : Flm} (h : fmay f = 0) : GSpec Try.prog 6 [.agg f.c] [] (.tup [.osl 0 1 0 (svN f + 4), iA 0]) [.a 5 1 (svN f + 4) fun q => [yA (svF f q)]] := by
  have ok := FMok_of cmay_spec
  have mg := mg_of h
  obtain ⟨n1, m1, c1, d1⟩ := fmay_n h
  obtain ⟨a, b, c, d⟩ := fbad_false mg.b
  have hM2 := mulB (x := f.W) (y := f.H) (X := 64) (Y := 64) (by omega) b (by omega) d
  have hL : LOk Try.prog (wsL f (6 + 6 * f.n) (svN f) (sv0 f)) (bodyOf Try.f6) := lok_two (lok_at (c := bodyOf Try.f6) (i := 8) 0 2 (by kernel_rfl) (by kernel_rfl) (toldF_sound (keep := keepWs) (τ := [some 0, some 4]) (ws_leads (f := f) n1 mg.lt))) (lok_at (c := bodyOf Try.f6) (i := 13) 1 2 (by kernel_rfl) (by kernel_rfl) (toldF_sound (keep := keepWt) (τ := [some 0, some 1]) (wt_leads (f := f) n1 m1 mg.sh)))
  have hN : svN f ≤ 1000000 := by unfold svN; omega
  have hN0 : 0 < svN f := by unfold svN; omega
  have e0 : (fun i => [yA (sv0 f (0 + i))]) = fun i => [yA (sv0 f i)] := funext fun i => by rw [Nat.zero_add]
  have e1 : (suE (svN f) fun i => [yA (sv0 f (0 + i))]) = svC f := by rw [e0]; rfl
  have hs : CKok suE (svN f) fun i => [yA (sv0 f (0 + i))] := by
    show FSpec Try.prog 14 [.sl 1 (svN f) fun i => [yA (sv0 f (0 + i))]] (iA (suE (svN f) fun i => [yA (sv0 f (0 + i))]))
    rw [e0]; exact ck_spec hN (sv0 f)
  have hsb : ssB (CKok suE (svN f) fun i => [yA (sv0 f (0 + i))]) (svN f) = true := by unfold ssB; rw [propB_t hs, ble_t (by omega), blt_t (by omega)]; rfl
  have hk : mkY (sbtI f.n f.m) = true := by
    unfold mkY sbtI
    rw [w64_id (n := 6 * (f.n : Int)) (by omega) (by omega), w64_id (n := 6 + 6 * (f.n : Int)) (by omega) (by omega), w64_id (n := 3 * (f.m : Int)) (by omega) (by omega), w64_id (n := 6 + 6 * (f.n : Int) + 3 * (f.m : Int)) (by omega) (by omega), w64_id (by omega) (by omega), decide_eq_true (show (0 : Int) ≤ 6 + 6 * (f.n : Int) + 3 * (f.m : Int) + 4 by omega), decide_eq_true (show ((1 : Nat) : Int) * (6 + 6 * (f.n : Int) + 3 * (f.m : Int) + 4) ≤ 281474976710656 by omega)]
    rfl
  have hev := wz_ev anF fmE' sbtI suE f (6 + 6 * f.n) (svN f) (sv0 f)
  rw [gate_pos (ok f), fmE_of, h, gate_pos (sbt_spec f), hk, gate_pos (wsH_sub f), gate_pos (Sub.refl _), hsb, e1, anQ_t (an4_ok (by omega) _ _) hN0] at hev
  have ks := k_cons (kS_ok (P := Try.prog) (f := 11) (g := fmG fmE')) (k_cons (kS_ok (P := Try.prog) (f := 12) (g := sbtG sbtI)) k_nil)
  refine (gspecG (mem := []) e_nil ks (m_cons mA_ok (m_cons (mS_ok (P := Try.prog) (f := 14) (g := suG suE)) m_nil)) Try.func6 (by kernel_rfl) (by kernel_rfl) hL rfl (by kernel_rfl) hev).of_rows ⟨Or.inr ⟨5, 1, svN f + 4, _, _, rfl, rfl, fun q hq => ?_⟩, trivial⟩
  obtain ⟨r0, r1⟩ := suV_rng (sv0 f) (svN f)
  have hC := svC_eq f
  congr 2
  unfold svF anF
  by_cases hlt : q < svN f
  · rw [if_pos hlt, blt_t hlt]; rfl
  · rw [if_neg hlt, blt_no (by omega), cond_false]
    exact (an4_eq (by omega) (by omega) (by omega)).symm
theorem csave_fresh {f : Flm} (h : fmay f = 0) : FreshSpec Try.prog 6 [.agg f.c] (bOut (svN f + 4) (svF f) 0) := by
  have hF := fresh_rows (csave_G h) (by
    simp only [ownB, ownBL, List.getElem?_cons_zero, iA]
    rw [ble_t (show 0 + (svN f + 4) ≤ svN f + 4 by omega)]
    rfl) (fun k e sz n el hk i hi => by
      match k, hk with
      | 0, hk => cases hk; rfl
      | k + 1, hk => simp at hk)
  have e : frzT [.a 5 1 (svN f + 4) fun q => [yA (svF f q)]] (.tup [.osl 0 1 0 (svN f + 4), iA 0]) = bOut (svN f + 4) (svF f) 0 := by
    show AV.tup [.sl 1 (svN f + 4) fun i => [yA (svF f (0 + i))], iA 0] = AV.tup [.sl 1 (svN f + 4) fun i => [yA (svF f i)], iA 0]
    simp only [Nat.zero_add]
  rw [e] at hF
  exact hF
theorem csave_bad {f : Flm} (h : fmay f ≠ 0) : FSpec Try.prog 6 [.agg f.c] (.tup [.x (.slice none 0 0), iA (fmay f)]) := by
  refine gspec e_nil (k_cons (kS_ok (P := Try.prog) (f := 11) (g := fmG fmE')) (k_cons (kno_ok _) k_nil)) Try.func6 (by kernel_rfl) (by kernel_rfl) noL_ok rfl ((wz_ev0 fmE' f).trans ?_)
  rw [gate_pos (FMok_of cmay_spec f), fmE_of, beq_false_of_ne h]
  rfl
theorem csave_spec (f : Flm) : FSpec Try.prog 6 [.agg f.c] (bOut (savL f) (svF f) (fmay f)) := by
  by_cases h : fmay f = 0
  · have el : savL f = svN f + 4 := by unfold savL; rw [if_pos h]
    rw [el, h]
    exact (csave_fresh h).spec rfl rfl
  · have el : savL f = 0 := by unfold savL; rw [if_neg h]
    rw [el]
    exact bspec_bad (csave_bad h)
end Go.Proofs.Ytghfmaciapmmoaa

namespace Go.Gv
open Go.RowKit Go.Ev
noncomputable section

def KSubN (np : Nat) (k : Kont) : Prop := ∀ e s o, k e s = some o → o.e = e ∧ SubN np s o.s
theorem fgt_subN {np : Nat} {keep : List Nat} {τ : List (Option Nat)} {s : St} (hp : pinT np τ = true) (h : fgtOk τ s = true) : SubN np s (fgt keep τ s) := by
  unfold fgtOk at h
  simp only [Bool.and_eq_true] at h
  exact sub_ofN τ (pinT_get hp) h.1 (keepS_sub 0 s.slots) (keepR_sub τ h.2)
theorem finF_subN {np : Nat} (keep : List Nat) {τ : List (Option Nat)} (hp : pinT np τ = true) : KSubN np (finF keep τ) := fun e s o h => by
  unfold finF at h
  cases hf : fgtOk τ s
  · rw [hf] at h; cases h
  · rw [hf] at h
    simp only [cond_true, Option.some.injEq] at h
    subst h
    exact ⟨rfl, fgt_subN hp hf⟩
theorem finN_subN {np : Nat} (keep : List Nat) {τ : List (Option Nat)} (hp : pinT np τ = true) : KSubN np (finN keep τ) := fun e s o h => by
  unfold finN at h
  cases e <;> simp only at h <;> first | (cases h; done) | exact finF_subN keep hp _ s o h
theorem finE_subN {np : Nat} (keep : List Nat) {τ : List (Option Nat)} (hp : pinT np τ = true) : KSubN np (finE keep τ) := fun e s o h => by
  unfold finE at h
  cases e <;> simp only at h <;> first | (cases h; done) | exact finF_subN keep hp _ s o h
theorem leads_ofKN {np : Nat} {P : Program} {T : Tab} {D : List Oper → St → SK → Option Out} {L : Nat → Option LFun} {N : Nat} {c : Code} {s s' : St} {e : Exit} {k : Kont} (hk : KSubN np k) (hT : TOk P T) (hD : DOk P D) (hL : LOkN np P L c) (h : aCode P T D L N c s k = some ⟨e, s', .any⟩) : LeadsN np P c s e s' := fun A0 R w0 E a hp hI => by
  refine Go.Code.wp_mono ?_ (aCode_wp hp hT hD N c hL hI h)
  rintro e' a' w' ⟨E', s1, rfl, hI', he⟩
  obtain ⟨h1, h2⟩ := hk e' s1 _ he
  obtain ⟨E2, e2, h3⟩ := h2 A0 R w0 E' a' hp hI'
  exact ⟨h1.symm, E2, e2, h3⟩
/-- A loop that is told. -/
def toldP (np : Nat) (keep : List Nat) (τ : List (Option Nat)) (s0 : St) (e : Exit) (sf : St) : LFun := fun s k => cond (fgtOk τ s) (gate (SubN np (fgt keep τ s) s0) (k e sf)) none
theorem toldP_sound {np : Nat} {P : Program} {c : Code} {keep : List Nat} {τ : List (Option Nat)} {s0 sf : St} {e : Exit} (hp : pinT np τ = true) (h : LeadsN np P (.loop c) s0 e sf) : LSoundN np P c (toldP np keep τ s0 e sf) := by
  have get : ∀ {s : St} {k : Kont} {r : Out}, toldP np keep τ s0 e sf s k = some r → SubN np s s0 ∧ k e sf = some r := fun {s k r} hr => by
    unfold toldP at hr
    cases hf : fgtOk τ s
    · rw [hf] at hr; cases hr
    · rw [hf] at hr
      simp only [cond_true] at hr
      obtain ⟨h2, h3⟩ := gate_some hr
      exact ⟨(fgt_subN hp hf).trans h2, h3⟩
  have eq : ∀ {s : St} {k : Kont} {r : Out}, toldP np keep τ s0 e sf s k = some r → ∀ k', toldP np keep τ s0 e sf s k' = k' e sf := fun {s k r} hr k' => by
    unfold toldP at hr ⊢
    cases hf : fgtOk τ s
    · rw [hf] at hr; cases hr
    · rw [hf] at hr
      simp only [cond_true] at hr ⊢
      rw [gate_pos (gate_some hr).1]
  constructor
  · intro s k r hr
    exact ⟨e, sf, (get hr).2, eq hr⟩
  · intro s s' e' hk A0 R w0 E a hp' hI
    have h0 := hk (fun e s => some ⟨e, s, .any⟩)
    obtain ⟨hs, he⟩ := get h0
    simp only [Option.some.injEq, Out.mk.injEq, and_true] at he
    obtain ⟨rfl, rfl⟩ := he
    obtain ⟨E1, e1, hI1⟩ := hs A0 R w0 E a hp' hI
    have := h A0 R w0 E1 a hp' hI1
    rw [e1] at this
    exact this
theorem lokN_one {np : Nat} {P : Program} {c : Code} {i : Nat} {g : LFun} (m : Nat) (hlen : (loopsOf c).length = m) (h : ∀ j, j < m → firstId ((loopsOf c).getD j .skip) = some i → LSoundN np P ((loopsOf c).getD j .skip) g) : LOkN np P (oneL i g) c := by
  intro c' hc i' g' hi hg
  obtain ⟨j, hj, rfl⟩ := List.mem_iff_getElem.1 hc
  unfold oneL at hg
  cases hb : Nat.beq i' i
  · rw [hb] at hg; cases hg
  · rw [hb] at hg
    cases hg
    have e1 := Nat.eq_of_beq_eq_true hb
    subst e1
    have e2 : (loopsOf c).getD j .skip = (loopsOf c)[j] := by rw [List.getD_eq_getElem?_getD, List.getElem?_eq_getElem hj]; rfl
    have := h j (by omega) (by rw [e2]; exact hi)
    rw [e2] at this
    exact this
theorem noL_okN {np : Nat} {P : Program} {c : Code} : LOkN np P noL c := fun _ _ _ _ _ h => by cases h
end
end Go.Gv

namespace Go.Proofs.Ytghfmaciapmmoaa
open Go.Gv

theorem leads_evMN {np : Nat} {l : List Entry} {ks : List KEntry} {ms : List MEntry} {L : Nat → Option LFun} {c : Code} {s s' : St} {e : Exit} {k : Kont} (hk : KSubN np k) (hl : ∀ e, e ∈ l → EOk Try.prog e) (hks : ∀ e, e ∈ ks → KOk Try.prog e) (hms : ∀ e, e ∈ ms → MEOk Try.prog e) (hL : LOkN np Try.prog L c) (h : evCM Try.prog l ks ms L c s k = some ⟨e, s', .any⟩) : LeadsN np Try.prog c s e s' :=
  leads_ofKN hk (tabM_ok hl hks hms) (drawnK_ok (tabM_ok hl hks hms) (by kernel_rfl)) hL h
noncomputable def eqI (n : Nat) (g : Nat → Int) (m : Nat) (h : Nat → Int) : Bool := (strF n g).toList == (strF m h).toList
theorem eq_ev (n m : Nat) (g h : Nat → Int) : ev Try.prog [] [] noL Try.f27 [sB n g, sB m h] ret = cond (allB n (fun _ => true) || false) (cond (allB m (fun _ => true) || false) (some (Out.of (bA ((strF n g).toList == (strF m h).toList)))) none) none := by kernel_rfl
abbrev EF4 : Type := Nat → (Nat → List AV) → Nat → (Nat → List AV) → Bool
def eqG (ef : EF4) : List AV → AV
  | [.sl _ n el, .sl _ m el'] => bA (ef n el m el')
  | _ => .any
def hpB (n m : Nat) : Bool := sbB none (some (m : Int)) none n || !(decide (decide ((n : Int) ≥ (m : Int)) = true) && true)
theorem hp_ev (ef : EF4) (n m : Nat) (g h : Nat → Int) : ev Try.prog [] [kS Try.prog 27 (eqG ef)] noL Try.f25 [sB n g, sB m h] ret =
    cond (hpB n m) (gate (FSpec Try.prog 27 [.sl 1 (sbN none (some (m : Int)) n) (fun i => [yA (g (sbL none + i))]), sB m h] (bA (ef (sbN none (some (m : Int)) n) (fun i => [yA (g (sbL none + i))]) m fun i => [yA (h i)])))
      (some (Out.of (bA (cond (decide ((n : Int) ≥ (m : Int))) (ef (sbN none (some (m : Int)) n) (fun i => [yA (g (sbL none + i))]) m fun i => [yA (h i)]) false))))) none := by kernel_rfl
/-! ### Numbers out of bytes -/
def fiS (N L : Nat) (g : Nat → Int) (s i : Int) (q : Nat → Int) : St := mkS 25 [(0, .osl 0 1 0 N), (1, sB L g), (2, iA s), (9, iA N), (10, iA i)] [.a 3 1 N fun j => [iA (q j)]]
def keepFi : List Nat := [0, 1, 2, 9, 10]
def fiE (g : Nat → Int) : Nat → List AV := fun i => [yA (g (sbL none + i))]
abbrev NBk (nf : Nat → (Nat → List AV) → Int) (g : Nat → Int) (s : Int) (L : Nat) : Prop := FSpec Try.prog 19 [.sl 1 (sbN none (some s) L) (fiE g)] (iA (nf (sbN none (some s) L) (fiE g)))
section
variable (nf : Nat → (Nat → List AV) → Int) (N L : Nat) (g : Nat → Int) (s i : Int) (q : Nat → Int)
def fiN (x : Int) (k : Nat) : St := mkS 25 [(0, .osl 0 1 0 N), (1, sB (sbN (some s) none L) fun j => g (sbL (some s) + j)), (2, iA s), (9, iA N), (10, iA (w64 (i + 1)))] [.a 3 1 N fun j => mixL (j == k) [iA x] [iA (q j)]]
theorem fi_step : evCM Try.prog [] [kS Try.prog 19 (nbG nf)] [] noL (loopAt Try.f20 0) (fiS N L g s i q) (finN keepFi [some 0]) =
    cond (decide (i < N)) (cond (sbB none (some s) none L || false) (gate (NBk nf g s L) (cond (ixB i N || false) (cond (Nat.blt (0 + i.toNat) N || false) (cond (sbB (some s) none none L || false) (some ⟨.normal, fiN N L g s i q (nf (sbN none (some s) L) (fiE g)) (0 + i.toNat), .any⟩) none) none) none)) none) none := by kernel_rfl
theorem fi_end : evCM Try.prog [] [⟨19, fun _ _ => none⟩] [] noL (loopAt Try.f20 0) (fiS N L g s i q) (finE keepFi [some 0]) =
    cond (decide (i < N)) (cond (sbB none (some s) none L || false) none none) (some ⟨.exit 0, fiS N L g s i q, .any⟩) := by kernel_rfl
end
noncomputable def fiL (N L : Nat) (g : Nat → Int) (s : Int) (q : Nat → Int) (L' : Nat) (g' q' : Nat → Int) : Nat → Option LFun := oneL 2 (toldP 1 keepFi [some 0] (fiS N L g s 0 q) (.exit 0) (fiS N L' g' s (N : Nat) q'))
theorem fi_ev (N L : Nat) (g : Nat → Int) (s : Int) (q : Nat → Int) (L' : Nat) (g' q' : Nat → Int) : evG Try.prog [] [⟨19, fun _ _ => none⟩] [] (fiL N L g s q L' g' q') Try.f20 [.osl 0 1 0 N, sB L g, iA s] [.a 3 1 N fun j => [iA (q j)]] [some 0] =
    gate (SubN 1 (fiS N L g s 0 q) (fiS N L g s 0 q)) (gout (sB L' g') [.a 3 1 N fun j => [iA (q' j)]]) := by kernel_rfl
end Go.Proofs.Ytghfmaciapmmoaa

namespace Go.Proofs.Ytghfmaciapmmoaa
open Go.Gv

theorem push_all : ∀ (l : List Int) (acc : ByteArray), (l.foldl (fun r n => r.push (UInt8.ofNat n.toNat)) acc).data.toList = acc.data.toList ++ l.map fun n => UInt8.ofNat n.toNat
  | [], acc => by simp
  | x :: l, acc => by
    rw [List.foldl_cons, push_all l]
    simp [ByteArray.push]
theorem strF_data (n : Nat) (g : Nat → Int) : (strF n g).toList = (List.range n).map fun i => UInt8.ofNat (g i).toNat := by
  rw [ByteArray.toList_eq, strF_eq]
  unfold strR
  rw [push_all, List.map_map]
  rfl
theorem u8_inj {a b : Int} (a0 : 0 ≤ a) (a1 : a ≤ 255) (b0 : 0 ≤ b) (b1 : b ≤ 255) (h : UInt8.ofNat a.toNat = UInt8.ofNat b.toNat) : a = b := by
  have := congrArg UInt8.toNat h
  rw [UInt8.toNat_ofNat', UInt8.toNat_ofNat'] at this
  omega
theorem eqI_t {n : Nat} {g h : Nat → Int} (he : ∀ i, i < n → g i = h i) : eqI n g n h = true := by
  unfold eqI
  rw [strF_data, strF_data, beq_iff_eq]
  exact List.map_congr_left fun i hi => by rw [he i (List.mem_range.1 hi)]
theorem eqI_f {n : Nat} {g h : Nat → Int} (hg : ∀ i, i < n → 0 ≤ g i ∧ g i ≤ 255) (hh : ∀ i, i < n → 0 ≤ h i ∧ h i ≤ 255) {k : Nat} (hk : k < n) (hne : g k ≠ h k) : eqI n g n h = false := by
  cases hb : eqI n g n h
  · rfl
  · exfalso
    unfold eqI at hb
    rw [strF_data, strF_data, beq_iff_eq] at hb
    have := congrArg (fun l : List UInt8 => l[k]?) hb
    simp only [List.getElem?_map, List.getElem?_range hk, Option.map_some, Option.some.injEq] at this
    exact hne (u8_inj (hg k hk).1 (hg k hk).2 (hh k hk).1 (hh k hk).2 this)
noncomputable def eqE : EF4 := fun n el m el' => eqI n (fun i => u8Of' (el i)) m fun i => u8Of' (el' i)
theorem eq_spec (n m : Nat) (g h : Nat → Int) : FSpec Try.prog 27 [sB n g, sB m h] (bA (eqI n g m h)) := by
  refine gspec e_nil k_nil Try.func27 (by kernel_rfl) (by kernel_rfl) noL_ok rfl ((eq_ev n m g h).trans ?_)
  rw [allB_true fun _ _ => rfl, allB_true fun _ _ => rfl]
  rfl
theorem hp_spec {n m : Nat} (hnm : m ≤ n) (g h : Nat → Int) : FSpec Try.prog 25 [sB n g, sB m h] (bA (eqI m g m h)) := by
  refine gspec e_nil (k_cons (kS_ok (P := Try.prog) (f := 27) (g := eqG eqE)) k_nil) Try.func25 (by kernel_rfl) (by kernel_rfl) noL_ok rfl ((hp_ev eqE n m g h).trans ?_)
  have hB : hpB n m = true := by
    unfold hpB sbB
    simp only [Option.getD_some, Option.getD_none]
    rw [decide_eq_true (Int.le_refl 0), decide_eq_true (show (0 : Int) ≤ (m : Int) by omega), decide_eq_true (show (m : Int) ≤ (n : Int) by omega), decide_eq_true (Int.le_refl (n : Int))]
    rfl
  have e1 : sbN none (some (m : Int)) n = m := by unfold sbN; simp only [Option.getD_some, Option.getD_none]; omega
  have e2 : (fun i => [yA (g (sbL none + i))]) = fun i => [yA (g i)] := funext fun i => by
    have : sbL none = 0 := rfl
    rw [this, Nat.zero_add]
  have hq : FSpec Try.prog 27 [.sl 1 m fun i => [yA (g i)], sB m h] (bA (eqE m (fun i => [yA (g i)]) m fun i => [yA (h i)])) := eq_spec m m g h
  rw [hB, e1, e2, gate_pos hq, decide_eq_true (show (n : Int) ≥ (m : Int) by omega)]
  rfl
/-! ### Numbers out of bytes -/
def cfE (n : Nat) (el : Nat → List AV) : Int := cnV (fun i => u8Of' (el i)) n
def fiQ (q : Nat → Int) (g : Nat → Int) (S k j : Nat) : Int := if j < k then cnV (fun c => g (S * j + c)) S else q j
theorem sbT (S L : Nat) (h : S ≤ L) : sbB none (some (S : Int)) none L = true ∧ sbB (some (S : Int)) none none L = true ∧ sbN none (some (S : Int)) L = S ∧ sbN (some (S : Int)) none L = L - S ∧ sbL (some (S : Int)) = S := by
  refine ⟨?_, ?_, ?_, ?_, sbL_eq⟩
  · unfold sbB
    simp only [Option.getD_some, Option.getD_none]
    rw [decide_eq_true (Int.le_refl 0), decide_eq_true (show (0 : Int) ≤ (S : Int) by omega), decide_eq_true (show (S : Int) ≤ (L : Int) by omega), decide_eq_true (Int.le_refl (L : Int))]
    rfl
  · unfold sbB
    simp only [Option.getD_some, Option.getD_none]
    rw [decide_eq_true (show (0 : Int) ≤ (S : Int) by omega), decide_eq_true (show (S : Int) ≤ (L : Int) by omega), decide_eq_true (Int.le_refl (L : Int))]
    rfl
  · unfold sbN; simp only [Option.getD_some, Option.getD_none]; omega
  · unfold sbN; simp only [Option.getD_some, Option.getD_none]; omega
theorem fi_leads {N L S : Nat} (hN : N ≤ 1000000) (hS : S ≤ 6) (hL : S * N ≤ L) (g q : Nat → Int) : LeadsN 1 Try.prog (.loop (loopAt Try.f20 0)) (fiS N L g (S : Nat) 0 q) (.exit 0) (fiS N (L - S * N) (fun j => g (S * N + j)) (S : Nat) (N : Nat) (fiQ q g S N)) := by
  have h0 : LeadsN 1 Try.prog (.loop (loopAt Try.f20 0)) (fiS N (L - S * 0) (fun j => g (S * 0 + j)) (S : Nat) (0 : Nat) (fiQ q g S 0)) (.exit 0) (fiS N (L - S * N) (fun j => g (S * N + j)) (S : Nat) (N : Nat) (fiQ q g S N)) := by
    refine loop_rule (fun k => fiS N (L - S * k) (fun j => g (S * k + j)) (S : Nat) (k : Nat) (fiQ q g S k)) N (.exit 0) _ (by simp) (fun k hk => ?_) ?_
    · have hk1 : S * (k + 1) ≤ S * N := Nat.mul_le_mul_left _ hk
      rw [Nat.mul_succ] at hk1
      obtain ⟨b1, b2, b3, b4, b5⟩ := sbT S (L - S * k) (by omega)
      have st := fi_step cfE N (L - S * k) (fun j => g (S * k + j)) (S : Nat) (k : Nat) (fiQ q g S k)
      have e0 : (fiE fun j => g (S * k + j)) = fun i => [yA (g (S * k + i))] := funext fun i => by
        unfold fiE
        have : sbL none = 0 := rfl
        rw [this, Nat.zero_add]
      have hnb : NBk cfE (fun j => g (S * k + j)) (S : Nat) (L - S * k) := by
        show FSpec Try.prog 19 [.sl 1 (sbN none (some ((S : Nat) : Int)) (L - S * k)) (fiE fun j => g (S * k + j))] (iA (cfE (sbN none (some ((S : Nat) : Int)) (L - S * k)) (fiE fun j => g (S * k + j))))
        rw [b3, e0]
        exact cn_spec (by omega) fun i => g (S * k + i)
      rw [dec_lt hk, b1, gate_pos hnb, ixB_t hk, Int.toNat_natCast, Nat.zero_add, blt_t hk, b2, b3, e0] at st
      refine (leads_evMN (finN_subN _ (by rfl)) e_nil (k_cons kS_ok k_nil) m_nil noL_okN st).sub (SubN.refl _) ?_
      have hst : fiN N (L - S * k) (fun j => g (S * k + j)) (S : Nat) (k : Nat) (fiQ q g S k) (cfE S fun i => [yA (g (S * k + i))]) k = mkS 25 [(0, .osl 0 1 0 N), (1, sB (L - S * (k + 1)) fun j => g (S * (k + 1) + j)), (2, iA (S : Nat)), (9, iA N), (10, iA ((k + 1 : Nat) : Int))] [.a 3 1 N fun j => mixL (j == k) [iA (cfE S fun i => [yA (g (S * k + i))])] [iA (fiQ q g S k j)]] := by
        unfold fiN
        have e6 : (fun j => g (S * k + (S + j))) = fun j => g (S * (k + 1) + j) := funext fun j => by rw [Nat.mul_succ, Nat.add_assoc]
        rw [b4, b5, w64_next (by omega), show L - S * k - S = L - S * (k + 1) by rw [Nat.mul_succ]; omega, e6]
      rw [hst]
      refine sub_same ⟨Or.inr ⟨3, 1, N, _, _, rfl, rfl, fun j hj => ?_⟩, trivial⟩
      rw [mixI]
      unfold fiQ
      by_cases hjk : j = k
      · subst hjk
        rw [BEq.rfl, cond_true, if_pos (by omega)]
        rfl
      · rw [beq_false_of_ne hjk, cond_false]
        by_cases hlt : j < k
        · rw [if_pos hlt, if_pos (by omega)]
        · rw [if_neg hlt, if_neg (by omega)]
    · refine leads_evMN (finE_subN _ (by rfl)) e_nil (k_cons (kno_ok _) k_nil) m_nil noL_okN ((fi_end N _ _ _ _ _).trans ?_)
      rw [dec_self, cond_false]
  have e1 : (fun j => g (S * 0 + j)) = g := funext fun j => by rw [Nat.mul_zero, Nat.zero_add]
  have e2 : fiQ q g S 0 = q := funext fun j => by unfold fiQ; rw [if_neg (by omega)]
  rw [e1, e2, Nat.mul_zero, Nat.sub_zero] at h0
  exact h0
abbrev FIok (N L S : Nat) (g q : Nat → Int) : Prop := GSpec Try.prog 20 [.osl 0 1 0 N, sB L g, iA (S : Nat)] [.a 3 1 N fun j => [iA (q j)]] (sB (L - S * N) fun j => g (S * N + j)) [.a 3 1 N fun j => [iA (cnV (fun c => g (S * j + c)) S)]]
theorem fi_ok {N L S : Nat} (hN : N ≤ 1000000) (hS : S ≤ 6) (hL : S * N ≤ L) (g q : Nat → Int) : FIok N L S g q := by
  have hl : LOkN 1 Try.prog (fiL N L g (S : Nat) q (L - S * N) (fun j => g (S * N + j)) (fiQ q g S N)) (bodyOf Try.f20) := lokN_one 1 (by kernel_rfl) fun j hj hid => by
    have : j = 0 := by omega
    subst this
    exact toldP_sound (keep := keepFi) (τ := [some 0]) (by rfl) (fi_leads hN hS hL g q)
  have hev := fi_ev N L g (S : Nat) q (L - S * N) (fun j => g (S * N + j)) (fiQ q g S N)
  rw [gate_pos (SubN.refl _)] at hev
  refine (gspecG (mem := [.a 3 1 N fun j => [iA (q j)]]) e_nil (k_cons (kno_ok _) k_nil) m_nil Try.func20 (by kernel_rfl) (by kernel_rfl) hl rfl (by kernel_rfl) hev).of_rows ⟨Or.inr ⟨3, 1, N, _, _, rfl, rfl, fun j hj => ?_⟩, trivial⟩
  unfold fiQ
  rw [if_pos hj]
end Go.Proofs.Ytghfmaciapmmoaa

namespace Go.Proofs.Ytghfmaciapmmoaa
open Go.Gv

def mkC (n : Int) : Bool := decide (0 ≤ n) && (decide (n ≤ n) && decide (((8 : Nat) : Int) * n ≤ 281474976710656))
theorem mkC_t {n : Int} (h0 : 0 ≤ n) (h1 : n ≤ 100000) : mkC n = true := by
  unfold mkC
  rw [decide_eq_true h0, decide_eq_true (Int.le_refl n), decide_eq_true (show ((8 : Nat) : Int) * n ≤ 281474976710656 by omega)]
  rfl
def nwN (w h : Int) : Nat := (w64 (w64 (3 * w) * h)).toNat
def nwM (w h : Int) : Nat := (w64 (w * h)).toNat
def nwC (w h : Int) : Bool := (mkC (w64 (w64 (3 * w) * h)) || false) && ((mkC (w64 (w * h)) || false) && true)
def nwA (w h : Int) : AV := .tup [.agg [iA w, iA h, .osl 0 1 0 (nwN w h), .osl 1 1 0 (nwM w h)], iA 0]
def nwR (w h : Int) : List Row := [.a 3 1 (nwN w h) (fun _ => [iA 0]), .a 3 1 (nwM w h) (fun _ => [iA 0])]
theorem nw_ev (sd : Int → Bool) (w h : Int) : evG Try.prog [⟨23, gSd sd⟩] [] [] noL Try.f26 [iA w, iA h] [] [some 1, some 2] = cond (cSd sd w h) none (cond (nwC w h) (gout (nwA w h) (nwR w h)) none) := by kernel_rfl
theorem nw_ev0 (sd : Int → Bool) (w h : Int) : ev Try.prog [⟨23, gSd sd⟩] [] noL Try.f26 [iA w, iA h] ret = cond (cSd sd w h) (fBad 4) (cond (nwC w h) (some (Out.of (.tup [.agg [iA w, iA h, sI (nwN w h) fun _ => 0, sI (nwM w h) fun _ => 0], iA 0]))) none) := by kernel_rfl
theorem nw_eq {w h : Int} (hb : fbad w h = false) : w64 (w64 (3 * w) * h) = 3 * (w * h) ∧ w64 (w * h) = w * h ∧ 1 ≤ w * h ∧ w * h ≤ 4096 := by
  obtain ⟨h1, h2, h3, h4⟩ := fbad_false hb
  have hM := mulB (x := w) (y := h) (X := 64) (Y := 64) (by omega) h2 (by omega) h4
  have hM1 := mulB (x := 1) (y := h) (X := w) (Y := h) (by omega) (by omega) (by omega) (by omega)
  refine ⟨?_, w64_id (by omega) (by omega), by omega, by omega⟩
  rw [w64_id (n := 3 * w) (by omega) (by omega), Int.mul_assoc, w64_id (by omega) (by omega)]
theorem nwC_t {w h : Int} (hb : fbad w h = false) : nwC w h = true := by
  obtain ⟨h1, h2, h3, h4⟩ := nw_eq hb
  unfold nwC
  rw [mkC_t (n := w64 (w64 (3 * w) * h)) (by omega) (by omega), mkC_t (n := w64 (w * h)) (by omega) (by omega)]
  rfl
theorem nw_G {w h : Int} (hb : fbad w h = false) : GSpec Try.prog 26 [iA w, iA h] [] (nwA w h) (nwR w h) := by
  refine gspecG (e_cons gSd_ok e_nil) k_nil m_nil Try.func26 (by kernel_rfl) (by kernel_rfl) (fun _ _ _ _ _ h => by cases h) rfl (by kernel_rfl) ((nw_ev isd w h).trans ?_)
  rw [cSd_eq, hb, nwC_t hb]
  rfl
end Go.Proofs.Ytghfmaciapmmoaa
