/-
  Wx6 Wy1 Wy2 Wy3, one behind the other.
-/
import Derived.Test.YtldbbajakgaajaaM3
import Derived.Test.YtldbbajakgaajaaM6
namespace Go.Proofs.Ytldbbajakgaajaa
open Go.Gv

def isB (n : Int) : Bool := cond (cond (decide (n ≥ 1)) (decide (n ≤ 64)) false) (IntKind.i64.wrap (((BitVec.ofInt IntKind.i64.bits n &&& BitVec.ofInt IntKind.i64.bits (IntKind.i64.wrap (n - 1))).toNat : Nat) : Int) == 0) false
theorem is_ev (n : Int) : ev Try.prog [] [] noL Try.f10 [iA n] ret = some (Out.of (bA (isB n))) := by kernel_rfl
def gIs (lf : Int → Bool) : List AV → Option AV
  | [.x (.int .i64 n)] => some (bA (lf n))
  | _ => none
theorem gIs_ok : EOk Try.prog ⟨10, gIs isB⟩ := fun args r hr => by
  simp only [gIs] at hr
  split at hr
  · cases hr; exact Or.inl (gspec e_nil k_nil Try.func10 (by kernel_rfl) (by kernel_rfl) noL_ok rfl (is_ev _))
  · cases hr
theorem isB_all : ∀ n : Fin 65, isB ((n.val : Nat) : Int) = (n.val == 1 || (n.val == 2 || (n.val == 4 || (n.val == 8 || (n.val == 16 || (n.val == 32 || n.val == 64)))))) := by decide
theorem isB_eq (n : Nat) : isB (n : Int) = (n == 1 || (n == 2 || (n == 4 || (n == 8 || (n == 16 || (n == 32 || n == 64)))))) := by
  by_cases h : n < 65
  · exact isB_all ⟨n, h⟩
  · have e : isB (n : Int) = false := by
      unfold isB
      rw [decide_eq_false (show ¬ (n : Int) ≤ 64 by omega)]
      cases decide ((n : Int) ≥ 1) <;> rfl
    rw [e, beq_false_of_ne (show n ≠ 1 by omega), beq_false_of_ne (show n ≠ 2 by omega), beq_false_of_ne (show n ≠ 4 by omega), beq_false_of_ne (show n ≠ 8 by omega), beq_false_of_ne (show n ≠ 16 by omega), beq_false_of_ne (show n ≠ 32 by omega), beq_false_of_ne (show n ≠ 64 by omega)]
    rfl
theorem isB_pow {m : Nat} (h : m ≤ 6) : isB ((2 ^ m : Nat) : Int) = true := by
  rw [isB_eq]
  have : m = 0 ∨ m = 1 ∨ m = 2 ∨ m = 3 ∨ m = 4 ∨ m = 5 ∨ m = 6 := by omega
  rcases this with rfl | rfl | rfl | rfl | rfl | rfl | rfl <;> decide
end Go.Proofs.Ytldbbajakgaajaa

namespace Go.Proofs.Ytldbbajakgaajaa
open Go.Gv
open Go.Ev (fadd fdiv cn CX cmul cadd csub one64 flr wv)

/-! ### Values -/
def ovB (x : Int) : Bool := cond (decide (x < 0)) true (decide (x > 255))
def avS (n : Nat) (g : Nat → Int) (i : Int) : St := mkS 18 [(5, sI n g), (6, iA (n : Nat)), (7, iA i)] []
def avE : St := mkS 18 [(2, bA false)] []
def keepAv : List Nat := [5, 6, 7]
section
variable (n : Nat) (g : Nat → Int) (i : Int)
def avC (n : Nat) (i x : Int) (bad good fin : Option Out) : Option Out := cond (decide (i < (n : Int))) (cond (ixB i n || false) (cond (ovB x) bad good) none) fin
theorem av_step : evC Try.prog [] [] noL (loopAt Try.f11 0) (avS n g i) (finN keepAv []) = avC n i (g i.toNat) none (some ⟨.normal, avS n g (w64 (i + 1)), .any⟩) none := by kernel_rfl
theorem av_ret : evC Try.prog [] [] noL (loopAt Try.f11 0) (avS n g i) (finR [2] []) = avC n i (g i.toNat) (some ⟨.ret, avE, .any⟩) none none := by kernel_rfl
theorem av_end : evC Try.prog [] [] noL (loopAt Try.f11 0) (avS n g i) (finE keepAv []) = avC n i (g i.toNat) none none (some ⟨.exit 0, avS n g i, .any⟩) := by kernel_rfl
noncomputable def avL (e : Exit) (z : St) : Nat → Option LFun := oneL 2 (toldF keepAv [] (avS n g 0) e z)
theorem av_ev : ev Try.prog [] [] (avL n g (.exit 0) (avS n g (n : Nat))) Try.f11 [sI n g] ret = gate (Sub (avS n g 0) (avS n g 0)) (some (Out.of (bA true))) := by kernel_rfl
theorem av_evR : ev Try.prog [] [] (avL n g .ret avE) Try.f11 [sI n g] ret = gate (Sub (avS n g 0) (avS n g 0)) (some (Out.of (bA false))) := by kernel_rfl
end
theorem av_step1 {n : Nat} (hn : n ≤ 1000) (g : Nat → Int) {i : Nat} (hi : i < n) (hv : ovB (g i) = false) : Leads Try.prog (loopAt Try.f11 0) (avS n g (i : Nat)) .normal (avS n g (i + 1 : Nat)) := by
  refine leads_ev (finN_sub keepAv []) e_nil k_nil noL_ok ((av_step n g (i : Nat)).trans ?_)
  unfold avC
  rw [dec_lt hi, ixB_t hi, Int.toNat_natCast, hv, w64_next (by omega)]
  rfl
theorem av_spec {n : Nat} (hn : n ≤ 1000) (g : Nat → Int) : FSpec Try.prog 11 [sI n g] (bA (allI n fun i => !ovB (g i))) := by
  rcases all_or_first (fun i => !ovB (g i)) n with hl | ⟨K, hK, hq, hr⟩
  · rw [allI_t hl]
    refine gspec e_nil k_nil Try.func11 (by kernel_rfl) (by kernel_rfl) (lok_at 0 1 (by kernel_rfl) (by kernel_rfl) (toldF_sound ?_)) rfl ((av_ev n g).trans (gate_pos (Sub.refl _)))
    refine loop_rule (fun i => avS n g (i : Nat)) n (.exit 0) _ (by simp) (fun i hi => av_step1 hn g hi (by simpa using hl i hi)) ?_
    refine leads_ev (finE_sub keepAv []) e_nil k_nil noL_ok ((av_end n g (n : Nat)).trans ?_)
    unfold avC
    rw [dec_self, cond_false]
  · rw [allI_f hK hq]
    refine gspec e_nil k_nil Try.func11 (by kernel_rfl) (by kernel_rfl) (lok_at 0 1 (by kernel_rfl) (by kernel_rfl) (toldF_sound ?_)) rfl ((av_evR n g).trans (gate_pos (Sub.refl _)))
    refine loop_rule (fun i => avS n g (i : Nat)) K .ret _ (by simp) (fun i hi => av_step1 hn g (by omega) (by simpa using hr i hi)) ?_
    refine leads_ev (finR_sub [2] []) e_nil k_nil noL_ok ((av_ret n g (K : Nat)).trans ?_)
    unfold avC
    have hq' : ovB (g K) = true := by simpa using hq
    rw [dec_lt hK, ixB_t hK, Int.toNat_natCast, hq']
    rfl
/-! ### Complex numbers -/
def cxS (n : Nat) (g : Nat → Int) (i : Int) (Y : Nat → CX) : St := mkS 24 [(3, .osl 0 1 0 n), (9, sI n g), (10, iA (n : Nat)), (11, iA i)] [.a 36 1 n fun q => [cA (Y q)]]
def keepCx : List Nat := [3, 9, 10, 11]
section
variable (n : Nat) (g : Nat → Int) (i : Int) (Y Z : Nat → CX)
def cxC (n : Nat) (i : Int) (o e : Option Out) : Option Out := cond (decide (i < (n : Int))) (cond (ixB i n || false) (cond (ixB i n || false) (cond (stB i.toNat n) o none) none) none) e
def cxN : St := mkS 24 [(3, .osl 0 1 0 n), (9, sI n g), (10, iA (n : Nat)), (11, iA (w64 (i + 1)))] [.a 36 1 n fun q => mixL (q == 0 + i.toNat) [cA (toC (g i.toNat))] [cA (Y q)]]
theorem cx_step : evC Try.prog [] [] noL (loopAt Try.f13 0) (cxS n g i Y) (finN keepCx [some 0]) = cxC n i (some ⟨.normal, cxN n g i Y, .any⟩) none := by kernel_rfl
theorem cx_end : evC Try.prog [] [] noL (loopAt Try.f13 0) (cxS n g i Y) (finE keepCx [some 0]) = cxC n i none (some ⟨.exit 0, cxS n g i Y, .any⟩) := by kernel_rfl
noncomputable def cxL : Nat → Option LFun := oneL 3 (toldF keepCx [some 0] (cxS n g 0 fun _ => (0, 0)) (.exit 0) (cxS n g (n : Nat) Z))
theorem cx_ev : ev Try.prog [] [] (cxL n g Z) Try.f13 [sI n g] ret = cond (mkX (n : Nat) || false) (gate (Sub (cxS n g 0 fun _ => (0, 0)) (cxS n g 0 fun _ => (0, 0))) (some (Out.of (.sl 1 n fun i => [cA (Z (0 + i))])))) none := by kernel_rfl
end
def cxV (g : Nat → Int) (k q : Nat) : CX := cond (Nat.blt q k) (toC (g q)) (0, 0)
theorem cx_spec {n : Nat} (hn : n ≤ 1000) (g : Nat → Int) : FSpec Try.prog 13 [sI n g] (sC n (rdA g)) := by
  have hl : Leads Try.prog (.loop (loopAt Try.f13 0)) (cxS n g 0 fun _ => (0, 0)) (.exit 0) (cxS n g (n : Nat) (cxV g n)) := by
    refine Leads.sub (s1 := cxS n g 0 (cxV g 0)) (s2 := cxS n g (n : Nat) (cxV g n)) ?_ (Sub.refl _) (Sub.refl _)
    refine loop_rule (fun i => cxS n g (i : Nat) (cxV g i)) n (.exit 0) _ (by simp) (fun i hi => ?_) ?_
    · have st := cx_step n g (i : Nat) (cxV g i)
      unfold cxC cxN at st
      rw [dec_lt hi, ixB_t hi, Int.toNat_natCast, stB_t hi, w64_next (by omega)] at st
      refine (leads_ev (finN_sub keepCx [some 0]) e_nil k_nil noL_ok st).sub (Sub.refl _) ?_
      refine sub_same ⟨Or.inr ⟨36, 1, n, _, _, rfl, rfl, fun q hq => ?_⟩, trivial⟩
      rw [mixC, Nat.zero_add]
      unfold cxV
      by_cases e : q = i
      · subst e; rw [BEq.rfl, blt_t (show q < q + 1 by omega)]; rfl
      · rw [beq_false_of_ne e, cond_false]
        by_cases h1 : q < i
        · rw [blt_t h1, blt_t (show q < i + 1 by omega)]
        · rw [bltF h1, bltF (show ¬ q < i + 1 by omega)]
    · refine leads_ev (finE_sub keepCx [some 0]) e_nil k_nil noL_ok ((cx_end n g (n : Nat) (cxV g n)).trans ?_)
      unfold cxC
      rw [dec_self, cond_false]
  have hev := cx_ev n g (cxV g n)
  rw [mkX_t (by omega), gate_pos (Sub.refl _)] at hev
  have h1 := gspec e_nil k_nil Try.func13 (by kernel_rfl) (by kernel_rfl) (lok_at 0 1 (by kernel_rfl) (by kernel_rfl) (toldF_sound hl)) rfl hev
  refine FSpec.of_res h1 fun E v hv => sl_like hv fun i hi => ?_
  unfold cxV
  rw [Nat.zero_add, blt_t hi]
  rfl
/-! ### Round's loops -/
def lrS (n : Nat) (g : Nat → Int) (A B : Nat → CX) (i : Int) : St := mkS 78 [(0, sI n g), (6, .osl 0 1 0 n), (36, .osl 1 1 0 n), (37, iA (n : Nat)), (38, iA i)] [.a 36 1 n fun q => [cA (A q)], .a 36 1 n fun q => [cA (B q)]]
def lrZ (n : Nat) (g : Nat → Int) (A B : Nat → CX) : St := mkS 78 [(0, sI n g), (6, sC n A), (36, .osl 1 1 0 n), (37, iA (n : Nat)), (38, iA (n : Nat))] [.dead, .a 36 1 n fun q => [cA (B q)]]
def keepLr : List Nat := [0, 6, 36, 37, 38]
section
variable (pf : CX → CX → CX) (n : Nat) (g : Nat → Int) (A B : Nat → CX) (i : Int)
def lrC (n : Nat) (i : Int) (o e : Option Out) : Option Out := cond (decide (i < (n : Int))) (cond (ixB i n || false) (cond (stB i.toNat n) (cond (ixB i n || false) (cond (stB i.toNat n) (cond (ixB i n || false) (cond (stB i.toNat n) o none) none) none) none) none) none) e
def lrN : St := mkS 78 [(0, sI n g), (6, .osl 0 1 0 n), (36, .osl 1 1 0 n), (37, iA (n : Nat)), (38, iA (w64 (i + 1)))] [.a 36 1 n fun q => mixL (q == 0 + i.toNat) [cA (pf (A (0 + i.toNat)) (B (0 + i.toNat)))] [cA (A q)], .a 36 1 n fun q => [cA (B q)]]
theorem lr_step : evC Try.prog [⟨15, gC2 pf⟩] [] noL (loopAt Try.f5 0) (lrS n g A B i) (finN keepLr [some 0, some 1]) = lrC n i (some ⟨.normal, lrN pf n g A B i, .any⟩) none := by kernel_rfl
theorem lr_end : evC Try.prog [⟨15, gC2 pf⟩] [] noL (loopAt Try.f5 0) (lrS n g A B i) (finE keepLr [some 0, some 1]) = lrC n i none (some ⟨.exit 0, lrS n g A B i, .any⟩) := by kernel_rfl
end
def lzS (n : Nat) (g : Nat → Int) (C : Nat → CX) (i : Int) (Z : Nat → Int) : St := mkS 78 [(0, sI n g), (9, .osl 0 1 0 n), (57, .osl 1 1 0 n), (58, iA (n : Nat)), (59, iA i)] [.a 3 1 n fun q => [iA (Z q)], .a 36 1 n fun q => [cA (C q)]]
def keepLz : List Nat := [0, 9, 57, 58, 59]
section
variable (fl : Nat → Nat) (n : Nat) (g : Nat → Int) (C : Nat → CX) (i : Int) (Z : Nat → Int)
def lzC (fl : Nat → Nat) (C : Nat → CX) (n : Nat) (i : Int) (o e : Option Out) : Option Out := cond (decide (i < (n : Int))) (cond (ixB i n || false) (cond (stB i.toNat n) (cond (fitI .i64 (fl (rdX n (C (0 + i.toNat)))) || false) (cond (ixB i n || false) (cond (stB i.toNat n) o none) none) none) none) none) e
def lzN : St := mkS 78 [(0, sI n g), (9, .osl 0 1 0 n), (57, .osl 1 1 0 n), (58, iA (n : Nat)), (59, iA (w64 (i + 1)))] [.a 3 1 n fun q => mixL (q == 0 + i.toNat) [iA (f2i .i64 (fl (rdX n (C (0 + i.toNat)))))] [iA (Z q)], .a 36 1 n fun q => [cA (C q)]]
theorem lz_step : evC Try.prog [⟨17, gFl fl⟩] [] noL (loopAt Try.f5 1) (lzS n g C i Z) (finN keepLz [some 0, some 1]) = lzC fl C n i (some ⟨.normal, lzN fl n g C i Z, .any⟩) none := by kernel_rfl
theorem lz_end : evC Try.prog [⟨17, gFl fl⟩] [] noL (loopAt Try.f5 1) (lzS n g C i Z) (finE keepLz [some 0, some 1]) = lzC fl C n i none (some ⟨.exit 2, lzS n g C i Z, .any⟩) := by kernel_rfl
end
end Go.Proofs.Ytldbbajakgaajaa

namespace Go.Proofs.Ytldbbajakgaajaa
open Go.Gv
open Go.Ev (fadd fdiv cn CX cmul cadd csub one64 flr wv)

abbrev AF : Type := Nat → (Nat → List AV) → Bool
def gAv (af : AF) : List AV → AV
  | [.sl _ n el] => bA (af n el)
  | _ => .any
def gCx (cf : WE) : List AV → AV
  | [.sl _ n el] => sC n (cf el)
  | _ => .any
def gWv' : List AV → AV
  | [.sl _ n _, _] => .osl 0 1 0 n
  | _ => .any
def gWm (W : Nat → WE) : List AV → List Row
  | [.sl _ n el, .fn (.func f) _ _] => wxR n (W f el)
  | _ => []
def elI (g : Nat → Int) : Nat → List AV := fun i => [iA (g i)]
def elC (A : Nat → CX) : Nat → List AV := fun i => [cA (A i)]
def cntX (lf : Int → Bool) (n n' : Nat) : Bool := cond (!((n : Int) == (n' : Int))) true (!lf (n : Int))
def mk8 (n : Int) : Bool := decide (0 ≤ n) && (decide (n ≤ n) && decide (((8 : Nat) : Int) * n ≤ 281474976710656))
theorem mk8_t {n : Nat} (h1 : n ≤ 1000) : mk8 (n : Nat) = true := by
  unfold mk8
  rw [decide_eq_true (show (0 : Int) ≤ (n : Int) by omega), decide_eq_true (Int.le_refl _), decide_eq_true (show ((8 : Nat) : Int) * (n : Int) ≤ 281474976710656 by omega)]
  rfl
section
variable (lf : Int → Bool) (af : AF) (cf : WE) (W : Nat → WE) (n n' : Nat) (g h : Nat → Int) (P : Nat → CX) (Z : Nat → Int)
theorem cr_ev0 : evM Try.prog [⟨10, gIs lf⟩] [⟨11, fun _ _ => none⟩] [] noL Try.f5 [sI n g, sI n' h] ret = cond (cntX lf n n') (rBad 5) none := by kernel_rfl
def crA (g : Nat → Int) : Nat → CX := W 14 (elC (cf (elI g)))
def crC : Nat → CX := W 16 (elC P)
noncomputable def crL : Nat → Option LFun := twoL 7 (toldF keepLr [some 0, some 1] (lrS n g (crA cf W g) (crA cf W h) 0) (.exit 0) (lrZ n g P (crA cf W h))) 13 (toldF keepLz [some 2, some 3] (lzS n g (crC W P) 0 fun _ => 0) (.exit 2) (lzS n g (crC W P) (n : Nat) Z))
abbrev AVok (g : Nat → Int) : Prop := FSpec Try.prog 11 [sI n g] (bA (af n (elI g)))
abbrev CXok (g : Nat → Int) : Prop := FSpec Try.prog 13 [sI n g] (sC n (cf (elI g)))
noncomputable def crV (R : Option Out) : Option Out := cond (cntX lf n n) (rBad 5) (gate (AVok af n g) (gate (AVok af n h) (cond (cond (!af n (elI g)) true (!af n (elI h))) (rBad 6) R)))
noncomputable def crT : Option Out := gate (CXok cf n g) (cond (propB (WavesG 14 n (cf (elI g)) (crA cf W g))) (gate (CXok cf n h) (cond (propB (WavesG 14 n (cf (elI h)) (crA cf W h)))
  (gate (Sub (lrS n g (crA cf W g) (crA cf W h) 0) (lrS n g (crA cf W g) (crA cf W h) 0)) (cond (mk8 (n : Nat) || false) (cond (propB (WavesG 16 n P (crC W P)))
    (gate (Sub (lzS n g (crC W P) 0 fun _ => 0) (lzS n g (crC W P) 0 fun _ => 0)) (some (Out.of (.tup [.sl 1 n fun i => [iA (Z (0 + i))], iA 0])))) none) none)) none)) none)
theorem cr_ev6 : evM Try.prog [⟨10, gIs lf⟩] [kS Try.prog 11 (gAv af), ⟨13, fun _ _ => none⟩] [] noL Try.f5 [sI n g, sI n h] ret = crV lf af n g h none := by kernel_rfl
theorem cr_ev : evM Try.prog [⟨10, gIs lf⟩] [kS Try.prog 11 (gAv af), kS Try.prog 13 (gCx cf)] [mR Try.prog 12 gWv' (gWm W)] (crL cf W n g h P Z) Try.f5 [sI n g, sI n h] ret = crV lf af n g h (crT cf W n g h P Z) := by kernel_rfl
end
end Go.Proofs.Ytldbbajakgaajaa

namespace Go.Proofs.Ytldbbajakgaajaa
open Go.Gv
open Go.Ev (fadd fdiv cn CX cmul cadd csub one64 flr wv)

theorem lr_leads {n : Nat} (hn : n ≤ 1000) (g : Nat → Int) (A B : Nat → CX) : Leads Try.prog (.loop (loopAt Try.f5 0)) (lrS n g A B 0) (.exit 0) (lrZ n g (fun q => cmul (A q) (B q)) B) := by
  let V : Nat → Nat → CX := fun k q => cond (Nat.blt q k) (cmul (A q) (B q)) (A q)
  have h1 : Leads Try.prog (.loop (loopAt Try.f5 0)) (lrS n g A B 0) (.exit 0) (lrS n g (fun q => cmul (A q) (B q)) B (n : Nat)) := by
    refine Leads.sub (s1 := lrS n g (V 0) B 0) (s2 := lrS n g (V n) B (n : Nat)) ?_ (sub_same ⟨Or.inr ⟨36, 1, n, _, _, rfl, rfl, fun q hq => ?_⟩, Or.inl rfl, trivial⟩) (sub_same ⟨Or.inr ⟨36, 1, n, _, _, rfl, rfl, fun q hq => ?_⟩, Or.inl rfl, trivial⟩)
    rotate_left
    · show [cA (cond (Nat.blt q 0) (cmul (A q) (B q)) (A q))] = [cA (A q)]
      rw [bltF (show ¬ q < 0 by omega), cond_false]
    · show [cA (cmul (A q) (B q))] = [cA (cond (Nat.blt q n) (cmul (A q) (B q)) (A q))]
      rw [blt_t hq, cond_true]
    refine loop_rule (fun i => lrS n g (V i) B (i : Nat)) n (.exit 0) _ (by simp) (fun i hi => ?_) ?_
    · have st := lr_step cmul n g (V i) B (i : Nat)
      unfold lrC lrN at st
      rw [dec_lt hi, ixB_t hi, Int.toNat_natCast, stB_t hi, w64_next (by omega)] at st
      refine (leads_ev (finN_sub keepLr [some 0, some 1]) (e_cons xPr_ok e_nil) k_nil noL_ok st).sub (Sub.refl _) ?_
      refine sub_same ⟨Or.inr ⟨36, 1, n, _, _, rfl, rfl, fun q hq => ?_⟩, Or.inl rfl, trivial⟩
      rw [mixC, Nat.zero_add]
      show [cA (cond (Nat.blt q (i + 1)) (cmul (A q) (B q)) (A q))] = [cA (cond (q == i) (cmul (cond (Nat.blt i i) (cmul (A i) (B i)) (A i)) (B i)) (cond (Nat.blt q i) (cmul (A q) (B q)) (A q)))]
      by_cases e : q = i
      · subst e; rw [BEq.rfl, blt_t (show q < q + 1 by omega), bltF (show ¬ q < q by omega)]; rfl
      · rw [beq_false_of_ne e, cond_false]
        by_cases h1 : q < i
        · rw [blt_t h1, blt_t (show q < i + 1 by omega)]
        · rw [bltF h1, bltF (show ¬ q < i + 1 by omega)]
    · refine leads_ev (finE_sub keepLr [some 0, some 1]) (e_cons xPr_ok e_nil) k_nil noL_ok ((lr_end cmul n g (V n) B (n : Nat)).trans ?_)
      unfold lrC
      rw [dec_self, cond_false]
  refine h1.sub (Sub.refl _) ?_
  refine sub_freezeM (k := 0) (e := 36) (sz := 1) (n := n) (el := fun q => [cA (cmul (A q) (B q))]) rfl (fun j row hj => ?_) ⟨rfl, Or.inl rfl, rfl, Or.inr ⟨rfl, rfl⟩, rfl, Or.inl rfl, rfl, Or.inl rfl, rfl, Or.inl rfl, trivial⟩
  match j, hj with
  | 0, hj => exact ⟨.dead, rfl, Or.inl ⟨rfl, rfl⟩⟩
  | 1, hj => exact ⟨_, rfl, Or.inr ⟨by decide, Or.inl (by cases hj; rfl)⟩⟩
  | j + 2, hj => cases hj
theorem lz_leads {n : Nat} (hn : n ≤ 1000) (g : Nat → Int) (C : Nat → CX) (hf : ∀ i, i < n → fitI .i64 (flr (rdX n (C i))) = true) : Leads Try.prog (.loop (loopAt Try.f5 1)) (lzS n g C 0 fun _ => 0) (.exit 2) (lzS n g C (n : Nat) fun q => f2i .i64 (flr (rdX n (C q)))) := by
  let V : Nat → Nat → Int := fun k q => cond (Nat.blt q k) (f2i .i64 (flr (rdX n (C q)))) 0
  refine Leads.sub (s1 := lzS n g C 0 (V 0)) (s2 := lzS n g C (n : Nat) (V n)) ?_ (Sub.refl _) (sub_same ⟨Or.inr ⟨3, 1, n, _, _, rfl, rfl, fun q hq => ?_⟩, Or.inl rfl, trivial⟩)
  rotate_left
  · show [iA (f2i .i64 (flr (rdX n (C q))))] = [iA (cond (Nat.blt q n) (f2i .i64 (flr (rdX n (C q)))) 0)]
    rw [blt_t hq, cond_true]
  refine loop_rule (fun i => lzS n g C (i : Nat) (V i)) n (.exit 2) _ (by simp) (fun i hi => ?_) ?_
  · have st := lz_step flr n g C (i : Nat) (V i)
    unfold lzC lzN at st
    rw [dec_lt hi, ixB_t hi, Int.toNat_natCast, stB_t hi, w64_next (by omega), Nat.zero_add, hf i hi] at st
    refine (leads_ev (finN_sub keepLz [some 0, some 1]) (e_cons gFl_ok e_nil) k_nil noL_ok st).sub (Sub.refl _) ?_
    refine sub_same ⟨Or.inr ⟨3, 1, n, _, _, rfl, rfl, fun q hq => ?_⟩, Or.inl rfl, trivial⟩
    rw [mixI]
    show [iA (cond (Nat.blt q (i + 1)) (f2i .i64 (flr (rdX n (C q)))) 0)] = [iA (cond (q == i) (f2i .i64 (flr (rdX n (C i)))) (cond (Nat.blt q i) (f2i .i64 (flr (rdX n (C q)))) 0))]
    by_cases e : q = i
    · subst e; rw [BEq.rfl, blt_t (show q < q + 1 by omega)]; rfl
    · rw [beq_false_of_ne e, cond_false]
      by_cases h1 : q < i
      · rw [blt_t h1, blt_t (show q < i + 1 by omega)]
      · rw [bltF h1, bltF (show ¬ q < i + 1 by omega)]
  · refine leads_ev (finE_sub keepLz [some 0, some 1]) (e_cons gFl_ok e_nil) k_nil noL_ok ((lz_end flr n g C (n : Nat) (V n)).trans ?_)
    unfold lzC
    rw [dec_self, cond_false]
theorem cntX_eq (n n' : Nat) : cntX isB n n' = rdCnt n n' := by
  unfold cntX rdCnt
  cases (n : Int) == (n' : Int)
  · rfl
  · show (!isB (n : Int)) = cntB (n : Int)
    rw [isB_eq]
    unfold cntB
    have e : ∀ k : Nat, ((n : Int) == (k : Int)) = (n == k) := fun k => by
      by_cases h : n = k
      · subst h; rw [BEq.rfl, BEq.rfl]
      · rw [beq_false_of_ne h, beq_false_of_ne (show (n : Int) ≠ (k : Int) by omega)]
    rw [show ((n : Int) == 1) = (n == 1) from e 1, show ((n : Int) == 2) = (n == 2) from e 2, show ((n : Int) == 4) = (n == 4) from e 4, show ((n : Int) == 8) = (n == 8) from e 8, show ((n : Int) == 16) = (n == 16) from e 16, show ((n : Int) == 32) = (n == 32) from e 32, show ((n : Int) == 64) = (n == 64) from e 64]
    cases n == 1 <;> cases n == 2 <;> cases n == 4 <;> cases n == 8 <;> cases n == 16 <;> cases n == 32 <;> cases n == 64 <;> rfl
theorem vB_ov (x y : Int) : vB x y = (ovB x || ovB y) := by
  unfold vB ovB
  cases decide (x < 0) <;> cases decide (x > 255) <;> cases decide (y < 0) <;> cases decide (y > 255) <;> rfl
def iOf (el : Nat → List AV) (q : Nat) : Int := match el q with
  | [.x (.int _ z)] => z
  | _ => 0
/-- What the code gives is what the document asks. -/
theorem roundOk : RoundOk := fun n n' g h _ _ => by
  unfold rdOut rdE0
  cases hc : rdCnt n n'
  · obtain ⟨rfl, m, hm, rfl⟩ := rdCnt_false hc
    have hp : 2 ^ m ≤ 64 := Nat.le_trans (Nat.pow_le_pow_right (by decide) hm) (by decide)
    rw [cond_false]
    let af : AF := fun n el => allI n fun i => !ovB (iOf el i)
    let cf : WE := fun el => rdA (iOf el)
    let W : Nat → WE := fun f el => wv (Nat.beq f 16) m (cxOf el)
    have a1 : AVok af (2 ^ m) g := av_spec (by omega) g
    have a2 : AVok af (2 ^ m) h := av_spec (by omega) h
    have hcx : cntX isB (2 ^ m) (2 ^ m) = false := by rw [cntX_eq]; exact hc
    rcases all_or_first (fun i => !vB (g i) (h i)) (2 ^ m) with hl | ⟨K, hK, hq, hr⟩
    · have hv : ∀ i, i < 2 ^ m → vB (g i) (h i) = false := fun i hi => by simpa using hl i hi
      have ag : af (2 ^ m) (elI g) = true := allI_t fun i hi => by
        have := hv i hi
        rw [vB_ov, Bool.or_eq_false_iff] at this
        show (!ovB (g i)) = true
        rw [this.1]; rfl
      have ah : af (2 ^ m) (elI h) = true := allI_t fun i hi => by
        have := hv i hi
        rw [vB_ov, Bool.or_eq_false_iff] at this
        show (!ovB (h i)) = true
        rw [this.2]; rfl
      have hlog : (2 ^ m).log2 = m := Nat.log2_two_pow
      have l1 := lok_at (c := bodyOf Try.f5) (i := 7) 0 2 (by kernel_rfl) (by kernel_rfl) (toldF_sound (keep := keepLr) (τ := [some 0, some 1]) (lr_leads (n := 2 ^ m) (by omega) g (wv false m (rdA g)) (wv false m (rdA h))))
      have l2 := lok_at (c := bodyOf Try.f5) (i := 13) 1 2 (by kernel_rfl) (by kernel_rfl) (toldF_sound (keep := keepLz) (τ := [some 2, some 3]) (lz_leads (n := 2 ^ m) (by omega) g (wv true m (rdP m g h)) fun i hi => rd_fit hm hv hi))
      have c1 : CXok cf (2 ^ m) g := cx_spec (by omega) g
      have c2 : CXok cf (2 ^ m) h := cx_spec (by omega) h
      have w1 : WavesG 14 (2 ^ m) (cf (elI g)) (crA cf W g) := waves_G false m (by omega) (rdA g)
      have w2 : WavesG 14 (2 ^ m) (cf (elI h)) (crA cf W h) := waves_G false m (by omega) (rdA h)
      have w3 : WavesG 16 (2 ^ m) (rdP m g h) (crC W (rdP m g h)) := waves_G true m (by omega) (rdP m g h)
      have hev := cr_ev isB af cf W (2 ^ m) g h (rdP m g h) (rdV m g h)
      unfold crV crT at hev
      rw [hcx, cond_false, gate_pos a1, gate_pos a2, ag, ah, gate_pos c1, propB_t w1, gate_pos c2, propB_t w2, gate_pos (Sub.refl _), mk8_t (by omega), propB_t w3, gate_pos (Sub.refl _)] at hev
      have h1 := gspecM (e_cons gIs_ok e_nil) (k_cons kS_ok (k_cons kS_ok k_nil)) (m_cons mR_ok m_nil) Try.func5 (by kernel_rfl) (by kernel_rfl) (lok_two l1 l2) rfl hev
      rw [allI_t hl, hlog]
      refine FSpec.of_res h1 fun E v hv => ?_
      refine tup2_like hv fun u hu => sl_like hu fun i hi => ?_
      rw [Nat.zero_add]
    · rw [allI_f hK hq]
      have hq' : vB (g K) (h K) = true := by simpa using hq
      have hb : cond (!af (2 ^ m) (elI g)) true (!af (2 ^ m) (elI h)) = true := by
        rw [vB_ov] at hq'
        cases ho : ovB (g K)
        · rw [ho, Bool.false_or] at hq'
          have : af (2 ^ m) (elI h) = false := allI_f hK (by show (!ovB (h K)) = false; rw [hq']; rfl)
          rw [this]
          cases af (2 ^ m) (elI g) <;> rfl
        · have : af (2 ^ m) (elI g) = false := allI_f hK (by show (!ovB (g K)) = false; rw [ho]; rfl)
          rw [this]
          rfl
      refine rd_nil (gspecM (e_cons gIs_ok e_nil) (k_cons kS_ok (k_cons (kno_ok _) k_nil)) m_nil Try.func5 (by kernel_rfl) (by kernel_rfl) noL_ok rfl ((cr_ev6 isB af (2 ^ m) g h).trans ?_))
      unfold crV
      rw [hcx, cond_false, gate_pos a1, gate_pos a2, hb]
      rfl
  · refine rd_nil (gspecM (e_cons gIs_ok e_nil) (k_cons (kno_ok _) k_nil) m_nil Try.func5 (by kernel_rfl) (by kernel_rfl) noL_ok rfl ((cr_ev0 isB n n' g h).trans ?_))
    rw [cntX_eq, hc]
    rfl
end Go.Proofs.Ytldbbajakgaajaa
