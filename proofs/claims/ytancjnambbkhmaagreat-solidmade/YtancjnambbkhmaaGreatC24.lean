/-
  Sx3 Sx2 Fl9 Fl10 Fl11 Fl12 Fl13 Fl14 Wh0 Fr0 Hg0 Hg1 Sx4 Gyw Gyl Sx5 Sx6 Soj Sok Sol Som Son Soo Gyn Sop Soq Sor Sos, one behind the other.
-/
import Derived.Test.YtancjnambbkhmaaGreatC21
import Derived.Test.YtancjnambbkhmaaGreatC23
import Derived.Test.YtancjnambbkhmaaGreatC19
import Derived.Test.YtancjnambbkhmaaGreatC18
import Derived.Test.YtancjnambbkhmaaGreatC10
import Derived.Test.YtancjnambbkhmaaGreatC16
import Derived.Test.YtancjnambbkhmaaGreatC17
import Derived.Test.YtancjnambbkhmaaGreatC22
namespace Go.Proofs.YtancjnambbkhmaaGreat.Hs.So
open Go.Gv
open Go.Ev (cn fadd fsub fmul fdiv fsqrt fneg feq flt fle fgt fge fabs)

def sfE (n : Nat) (hs : Nat → Int) (N sk i : Int) (m : Nat) (pel : Nat → List AV) (k : Nat) (oel : Nat → List AV) : St := mkS 104 [(0, sI n hs), (1, iA 0), (6, .own 0 0), (7, .own 1 0), (8, iA N), (9, .osl 3 1 0 k), (10, iA i)] [.c [.x (.slice none 0 0), iA 0], .c [.osl 2 16 0 m, iA sk], .a 71 16 m pel, .a 3 1 k oel]
def sfS (n : Nat) (hs : Nat → Int) (N sk i : Int) (m : Nat) (PL : Nat → Prt) (k : Nat) (OL : Nat → Int) : St := sfE n hs N sk i m (fun q => (PL q).c) k fun q => [iA (OL q)]
def sfN (n : Nat) (hs : Nat → Int) (N sk : Int) : St := mkS 104 [(0, sI n hs), (1, iA 0), (6, .own 0 0), (7, .own 1 0), (8, iA N), (9, .x (.slice none 0 0)), (10, iA 0)] [.c [.x (.slice none 0 0), iA 0], .c [.x (.slice none 0 0), iA sk]]
def keepSf : List Nat := [0, 1, 6, 7, 8, 9, 10]
section
variable (n : Nat) (hs : Nat → Int) (pf : Int → Int → Int) (rf : Int → Int) (N sk i : Int) (m : Nat) (PL : Nat → Prt) (k : Nat) (OL : Nat → Int) (K : Int → Int) (A : Int → Nat → Nat) (S : Int → Int)
def sfT : Bool := cond (decide ((k : Int) > 1)) (cond (i == w64 (N - 1)) true (pf (rf (w64 (0 + i))) 2 == 0)) false
def k2 (k : Nat) : Int := w64 ((k : Int) - 2)
def k1 (k : Nat) : Int := w64 ((k : Int) - 1)
def sfC11 : Bool := (ixB (k2 k) k || false) && ((bl' (k2 k) k) && ((ixB (k1 k) k || false) && ((bl' (k1 k) k) && ((apB m 128 || false) && true))))
def sfLn : Nat := sbN none (some (k2 k)) k
def sfC12 : Bool := (sbB none (some (k2 k)) none k || false) && ((((Nat.ble (sfLn k) k) && Nat.ble ((sfLn k + 1) * 8) 140737488355328) || false) && true)
def zsP (op l r : Int) : Prt := ⟨op, l, r, 0, fun _ => 0, 0⟩
def sfP : Prt := zsP (w64 (1 + pf (rf (w64 (w64 (0 + 3) + i))) 3)) (OL (0 + (k2 k).toNat)) (OL (0 + (k1 k).toNat))
noncomputable def sfC (o oe : Option Out) : Option Out := gR n hs rf (w64 (0 + i)) (cond (sfT pf rf N i k) (gR n hs rf (w64 (w64 (0 + 3) + i)) (cond (sfC11 m k) (cond (sfC12 k) o none) none)) oe)
def MP (pf : Int → Int → Int) : List Entry := [⟨36, ePk pf⟩]
theorem sf_in : evC Tryz.prog (MP pf) [rwK rf] noL (loopAt Tryz.f35 1) (sfS n hs N sk i m PL k OL) (finN keepSf [some 0, some 1, some 5, some 7]) = sfC n hs pf rf N i m k (some ⟨.normal, sfE n hs N sk i (m + 1) (fun q => mixL (Nat.blt q m) (PL q).c (sfP pf rf i k OL).c) (sfLn k + 1) (fun q => mixL (Nat.blt q (sfLn k)) [iA (OL q)] [iA (w64 (((m + 1 : Nat) : Int) - 1))]), .any⟩) none := by kernel_rfl
theorem sf_inE : evC Tryz.prog (MP pf) [rwK rf] noL (loopAt Tryz.f35 1) (sfS n hs N sk i m PL k OL) (finE keepSf [some 0, some 1, some 2, some 3]) = sfC n hs pf rf N i m k none (some ⟨.exit 2, sfS n hs N sk i m PL k OL, .any⟩) := by kernel_rfl
/-! ### The outer loop -/
def lkG (K : Int → Int) (A : Int → Nat → Nat) (S : Int → Int) : List AV → AV
  | [_, .x (.int .i64 f)] => SH (K f) (A f) (S f)
  | _ => .any
noncomputable def lkK : KEntry := kS Tryz.prog 80 (lkG K A S)
def sfF (i : Int) : Int := w64 (w64 (0 + 2) + w64 (9 * i))
def lfP (f : Int) : Prt := ⟨0, 0, 0, K f, A f, S f⟩
noncomputable def gLf (f : Int) (o : Option Out) : Option Out := gate (FSpec Tryz.prog 80 [sI n hs, iA f] (SH (K f) (A f) (S f))) o
theorem sf_first : evC Tryz.prog (MP pf) [rwK rf, lkK K A S] noL (loopAt Tryz.f35 0) (sfN n hs N sk) (finN keepSf [some 0, some 1, some 3, some 5]) = cond (decide (0 < N)) (gLf n hs K A S (sfF 0) (gR n hs rf (w64 (0 + 0)) (some ⟨.normal, sfE n hs N sk (w64 (0 + 1)) 1 (fun q => mixL (Nat.blt q 0) [] (lfP K A S (sfF 0)).c) 1 (fun q => mixL (Nat.blt q 0) [] [iA 0]), .any⟩))) none := by kernel_rfl
variable (m2 : Nat) (PL1 PL2 : Nat → Prt) (k2' : Nat) (OL1 OL2 : Nat → Int)
noncomputable def sfL : Nat → Option LFun := oneL 9 (toldF keepSf [some 0, some 1, some 5, some 7] (sfS n hs N sk i (m + 1) PL1 (k + 1) OL1) (.exit 2) (sfS n hs N sk i m2 PL2 k2' OL2))
noncomputable def sfO (o : Option Out) : Option Out := cond ((apB m 128 || false) && true) (cond ((Nat.ble k k && Nat.ble ((k + 1) * 8) 140737488355328) || false) (gate (Sub (sfE n hs N sk i (m + 1) (fun q => mixL (Nat.blt q m) (PL q).c (lfP K A S (sfF i)).c) (k + 1) (fun q => mixL (Nat.blt q k) [iA (OL q)] [iA (w64 (((m + 1 : Nat) : Int) - 1))])) (sfS n hs N sk i (m + 1) PL1 (k + 1) OL1)) o) none) none
theorem sf_step : evC Tryz.prog (MP pf) [rwK rf, lkK K A S] (sfL n hs N sk i m k m2 PL1 PL2 k2' OL1 OL2) (loopAt Tryz.f35 0) (sfS n hs N sk i m PL k OL) (finN keepSf [some 0, some 1, some 2, some 3]) = cond (decide (i < N)) (gLf n hs K A S (sfF i) (sfO n hs N sk i m PL k OL K A S PL1 OL1 (some ⟨.normal, sfS n hs N sk (w64 (i + 1)) m2 PL2 k2' OL2, .any⟩))) none := by kernel_rfl
theorem sf_end : evC Tryz.prog (MP pf) [rwK rf, lkK K A S] (oneL 9 fun _ _ => none) (loopAt Tryz.f35 0) (sfS n hs N sk i m PL k OL) (finE keepSf [some 0, some 1, some 2, some 3]) = cond (decide (i < N)) (gLf n hs K A S (sfF i) (cond ((apB m 128 || false) && true) (cond ((Nat.ble k k && Nat.ble ((k + 1) * 8) 140737488355328) || false) none none) none)) (some ⟨.exit 0, sfS n hs N sk i m PL k OL, .any⟩) := by kernel_rfl
end
end Go.Proofs.YtancjnambbkhmaaGreat.Hs.So

namespace Go.Proofs.YtancjnambbkhmaaGreat.Hs.So
open Go.Gv
open Go.Ev (cn fadd fsub fmul fdiv fsqrt fneg feq flt fle fgt fge fabs)

def q25 : Nat := 4598175219545276416
def half' : Nat := 4602678819172646912
def z13 : List AV := [iA 0, .f 0, .f 0, .f 0, .f 0, .f 0, .f 0, .f 0, .f 0, .f 0, .f 0, .f 0, iA 0]
def llR (raw : AV) (fr : Int) (m : Nat) (el : Nat → List AV) : St := mkS 80 [(0, raw), (1, iA fr), (4, .own 0 0), (5, .osl 1 1 0 m)] [.c z13, .a 3 1 m el]
def llS (raw : AV) (fr : Int) (m : Nat) (X : Nat → Int) : St := llR raw fr m fun q => [iA (X q)]
def keepLl : List Nat := [0, 1, 4, 5]
def aqB (n m : Nat) : Bool := (Nat.ble m n && Nat.ble ((m + 1) * 8) 140737488355328) || false
section
variable (raw : AV) (n : Nat) (hs : Nat → Int) (p : Option Addr) (c : Nat) (rf : Int → Int) (fr : Int) (m : Nat) (X : Nat → Int)
noncomputable def llC (raw : AV) (f : (Nat → List AV) → Option Out) (oe : Option Out) : Option Out := cond (decide ((m : Int) < w64 (fr + 9))) (gate (FSpec Tryz.prog 63 [raw, iA m] (iA (rf m))) (cond (aqB m m) (f fun q => mixL (Nat.blt q m) [iA (X q)] [iA (rf m)]) none)) oe
theorem ll_step : evC Tryz.prog [] [rwK rf] noL (loopAt Tryz.f80 0) (llS (sI n hs) fr m X) (finN keepLl [some 0, some 3]) = llC rf fr m X (sI n hs) (fun el => some ⟨.normal, llR (sI n hs) fr (m + 1) el, .any⟩) none := by kernel_rfl
theorem ll_end : evC Tryz.prog [] [rwK rf] noL (loopAt Tryz.f80 0) (llS (sI n hs) fr m X) (finE keepLl [some 0, some 1]) = llC rf fr m X (sI n hs) (fun _ => none) (some ⟨.exit 0, llS (sI n hs) fr m X, .any⟩) := by kernel_rfl
theorem ll_step0 : evC Tryz.prog [] [rwK rf] noL (loopAt Tryz.f80 0) (llS (xE p c) fr m X) (finN keepLl [some 0, some 3]) = llC rf fr m X (xE p c) (fun el => some ⟨.normal, llR (xE p c) fr (m + 1) el, .any⟩) none := by kernel_rfl
theorem ll_end0 : evC Tryz.prog [] [rwK rf] noL (loopAt Tryz.f80 0) (llS (xE p c) fr m X) (finE keepLl [some 0, some 1]) = llC rf fr m X (xE p c) (fun _ => none) (some ⟨.exit 0, llS (xE p c) fr m X, .any⟩) := by kernel_rfl
end
section
variable (raw : AV) (n : Nat) (hs : Nat → Int) (p : Option Addr) (c : Nat) (fr : Int) (m : Nat) (X : Nat → Int) (k : Int) (a : Nat → Nat) (sk : Int) (rd : Nat → Nat)
def rdG (rd : Nat → Nat) : List AV → AV
  | [.f x] => .f (rd x)
  | _ => .any
noncomputable def gRd (x : Nat) (o : Option Out) : Option Out := gate (FSpec Tryz.prog 113 [.f x] (.f (rd x))) o
def lX (v : Int) : Nat → Int := fun q => cond (q == 0 + fr.toNat) v (X q)
def lA (i : Nat) : Nat := rd (fmul (a i) q25)
def lO (B : Nat → Nat) : Option Out := some (Out.of (.agg [iA k, .f (lA a rd 0), .f (lA a rd 1), .f (lA a rd 2), .f (B 0), .f (B 1), .f (B 2), .f (a 6), .f (a 7), .f (a 8), .f (a 9), .f (a 10), iA sk]))
def lB : Nat → Nat := ls [fadd (lA a rd 0) (fadd (a 9) one), fadd (lA a rd 1) one, fadd (lA a rd 2) half']
noncomputable def lfK' (e : Int) : List KEntry := [kS Tryz.prog 36 fun _ => iA e, kS Tryz.prog 21 fun _ => SH k a sk, kS Tryz.prog 113 (rdG rd)]
def fz3 (m : Nat) : Bool := ((Nat.beq m m) && ((Nat.beq m m) && ((Nat.beq m m) && true))) || false
noncomputable def lfX (e v : Int) : Option Out := ow' fr m (gate (FSpec Tryz.prog 36 [iA (X (0 + fr.toNat)), iA 3] (iA e)) (ow' fr m (cond (fz3 m) (gate (FSpec Tryz.prog 21 [sI m (lX fr X v), iA fr, iA 1] (SH k a sk)) (gRd rd (fmul (a 0) q25) (gRd rd (fmul (a 1) q25) (gRd rd (fmul (a 2) q25)
  (cond (k == 2) (gRd rd (lB a rd 0) (gRd rd (lB a rd 1) (gRd rd (lB a rd 2) (lO k a sk rd (ls [rd (lB a rd 0), rd (lB a rd 1), rd (lB a rd 2)]))))) (lO k a sk rd (ls [a 3, a 4, a 5]))))))) none)))
def lfG (n : Nat) : Bool := ((Nat.ble 0 0) && (Nat.blt 0 n && (allB n (fun _ => true) && Nat.ble ((0 + n) * 8) 140737488355328))) || false
theorem lf_ev0 : evZ Tryz.prog R4 (lfK' k a sk rd 0) [] (oneL 2 (toldF keepLl [some 0, some 2] (llS (sI n hs) fr n X) (.exit 0) (llS (sI n hs) fr m X))) (oneZ 5 (frzK 1)) Tryz.f80 [sI n hs, iA fr] ret = cond (lfG n) (gate (Sub (llR (sI n hs) fr (0 + n) fun q => mixL (Nat.blt q 0) [] [iA (hs (q - 0))]) (llS (sI n hs) fr n X)) (lfX fr m X k a sk rd 0 0)) none := by kernel_rfl
theorem lf_ev1 : evZ Tryz.prog R4 (lfK' k a sk rd 1) [] (oneL 2 (toldF keepLl [some 0, some 2] (llS (sI n hs) fr n X) (.exit 0) (llS (sI n hs) fr m X))) (oneZ 5 (frzK 1)) Tryz.f80 [sI n hs, iA fr] ret = cond (lfG n) (gate (Sub (llR (sI n hs) fr (0 + n) fun q => mixL (Nat.blt q 0) [] [iA (hs (q - 0))]) (llS (sI n hs) fr n X)) (lfX fr m X k a sk rd 1 1)) none := by kernel_rfl
theorem lf_ev2 : evZ Tryz.prog R4 (lfK' k a sk rd 2) [] (oneL 2 (toldF keepLl [some 0, some 2] (llS (sI n hs) fr n X) (.exit 0) (llS (sI n hs) fr m X))) (oneZ 5 (frzK 1)) Tryz.f80 [sI n hs, iA fr] ret = cond (lfG n) (gate (Sub (llR (sI n hs) fr (0 + n) fun q => mixL (Nat.blt q 0) [] [iA (hs (q - 0))]) (llS (sI n hs) fr n X)) (lfX fr m X k a sk rd 2 4)) none := by kernel_rfl
theorem le_ev0 : evZ Tryz.prog R4 (lfK' k a sk rd 0) [] (oneL 2 (toldF keepLl [some 0, some 1] (llS (xE p c) fr 0 X) (.exit 0) (llS (xE p c) fr m X))) (oneZ 5 (frzK 1)) Tryz.f80 [xE p c, iA fr] ret = gate (Sub (llR (xE p c) fr 0 fun _ => []) (llS (xE p c) fr 0 X)) (lfX fr m X k a sk rd 0 0) := by kernel_rfl
theorem le_ev1 : evZ Tryz.prog R4 (lfK' k a sk rd 1) [] (oneL 2 (toldF keepLl [some 0, some 1] (llS (xE p c) fr 0 X) (.exit 0) (llS (xE p c) fr m X))) (oneZ 5 (frzK 1)) Tryz.f80 [xE p c, iA fr] ret = gate (Sub (llR (xE p c) fr 0 fun _ => []) (llS (xE p c) fr 0 X)) (lfX fr m X k a sk rd 1 1) := by kernel_rfl
theorem le_ev2 : evZ Tryz.prog R4 (lfK' k a sk rd 2) [] (oneL 2 (toldF keepLl [some 0, some 1] (llS (xE p c) fr 0 X) (.exit 0) (llS (xE p c) fr m X))) (oneZ 5 (frzK 1)) Tryz.f80 [xE p c, iA fr] ret = gate (Sub (llR (xE p c) fr 0 fun _ => []) (llS (xE p c) fr 0 X)) (lfX fr m X k a sk rd 2 4) := by kernel_rfl
end
end Go.Proofs.YtancjnambbkhmaaGreat.Hs.So

namespace Go.Ev
open Ieee

/-- The word of a power of two, in units of the least float. -/
def pw (n : Nat) : Nat := (n - 51) * 4503599627370496
theorem rv_pw {n : Nat} (h : 52 ≤ n) : rv 52 (pw n) = 2 ^ n := by
  obtain ⟨k, rfl⟩ : ∃ k, n = 52 + k := ⟨n - 52, by omega⟩
  have e : pw (52 + k) = (k + 1) * 4503599627370496 := by unfold pw; congr 1; omega
  rw [e, rv_high (by omega), Nat.mul_mod_left, Nat.mul_div_cancel _ (by decide), Nat.add_zero, Nat.add_sub_cancel, Nat.pow_add]
/-- At most that. -/
def Bd (n x : Nat) : Prop := rung x ≤ pw n
theorem Bd.fin {n x : Nat} (h : Bd n x) (hn : n ≤ 2097) : isFin x = true := by
  unfold Bd pw at h
  unfold isFin
  exact Nat.ble_eq_true_of_le (by show rung x + 1 ≤ _; omega)
theorem Bd.val {n x : Nat} (h : Bd n x) (hn : 52 ≤ n) : (val x).natAbs ≤ 2 ^ n := by
  rw [val_abs, ← rv_pw hn]
  rcases Nat.lt_or_ge (rung x) (pw n) with e | e
  · exact Nat.le_of_lt (rv_lt 52 e)
  · rw [show rung x = pw n from Nat.le_antisymm h e]; exact Nat.le_refl _
theorem key_abs (x : Nat) : (key x).natAbs = rung x := by unfold key; cases sgn x <;> simp only [cond_true, cond_false] <;> omega
theorem KR_abs (v : Int) (g : Nat) : (KR v g).natAbs ≤ rq 52 v.natAbs g := by
  unfold KR
  cases decide (v < 0)
  · rw [cond_false, Int.natAbs_natCast]; exact Nat.min_le_left _ _
  · rw [cond_true, Int.natAbs_neg, Int.natAbs_natCast]; exact Nat.min_le_left _ _
theorem bd_of {x g n : Nat} {v : Int} (hk : key x = KR v g) (hg : 0 < g) (hv : v.natAbs ≤ 2 ^ n * g) (hn : 52 ≤ n) : Bd n x := by
  unfold Bd
  rw [← key_abs, hk]
  refine Nat.le_trans (KR_abs v g) (Nat.le_trans (rq_mono1 52 hv) ?_)
  have := rq_mul 52 (2 ^ n) 1 hg
  rw [Nat.one_mul] at this
  rw [this, ← rv_pw hn, rq_rv]
  exact Nat.le_refl _
theorem Bd.mono {n m x : Nat} (h : Bd n x) (hm : n ≤ m) : Bd m x :=
  Nat.le_trans h (Nat.mul_le_mul_right _ (Nat.sub_le_sub_right hm _))
theorem bd_sub {n x y : Nat} (hx : Bd n x) (hy : Bd n y) (hn : 52 ≤ n) (hn' : n ≤ 2097) : Bd (n + 1) (fsub x y) := by
  refine bd_of (key_sub (hx.fin hn') (hy.fin hn')).1 (by decide) ?_ (by omega)
  have h1 := hx.val hn
  have h2 := hy.val hn
  rw [Nat.mul_one, Nat.pow_succ]
  generalize 2 ^ n = p at *
  omega
theorem bd_add {n x y : Nat} (hx : Bd n x) (hy : Bd n y) (hn : 52 ≤ n) (hn' : n ≤ 2097) : Bd (n + 1) (fadd x y) := by
  refine bd_of (key_add (hx.fin hn') (hy.fin hn')).1 (by decide) ?_ (by omega)
  have h1 := hx.val hn
  have h2 := hy.val hn
  rw [Nat.mul_one, Nat.pow_succ]
  generalize 2 ^ n = p at *
  omega
theorem bd_mul {n m l c x y : Nat} (hc : c = 1074) (hx : Bd n x) (hy : Bd m y) (hn : 52 ≤ n) (hn' : n ≤ 2097) (hm : 52 ≤ m) (hm' : m ≤ 2097) (hl : l + c = n + m) (hl2 : 52 ≤ l) : Bd l (fmul x y) := by
  refine bd_of (key_mul hc (hx.fin hn') (hy.fin hm')).1 (Nat.two_pow_pos _) ?_ hl2
  rw [Int.natAbs_mul, ← Nat.pow_add, hl, Nat.pow_add]
  exact Nat.mul_le_mul (hx.val hn) (hy.val hm)
theorem rv_le {r q : Nat} (h : r ≤ q) : rv 52 r ≤ rv 52 q := by
  rcases Nat.lt_or_ge r q with e | e
  · exact Nat.le_of_lt (rv_lt 52 e)
  · rw [Nat.le_antisymm h e]; exact Nat.le_refl _
theorem val_zero {x : Nat} : val x = 0 ↔ rung x = 0 := by
  constructor
  · intro h
    have h1 := val_abs x
    rw [h, Int.natAbs_zero] at h1
    rcases Nat.eq_zero_or_pos (rung x) with e | e
    · exact e
    · have := rv_lt 52 e; rw [rv_zero] at this; omega
  · intro h
    have h1 := val_abs x
    rw [h, rv_zero] at h1
    omega
theorem bd_div {c x y : Nat} (hc : c = 1074) (hx : isFin x = true) (hy : isFin y = true) (h0 : rung y ≠ 0) (h : rung x ≤ rung y) : Bd c (fdiv x y) := by
  have hv : val y ≠ 0 := fun e => h0 (val_zero.1 e)
  refine bd_of (key_div hc hx hy hv).1 (by omega) ?_ (by omega)
  rw [Int.natAbs_mul, Int.natAbs_mul]
  have e : (sg (val y)).natAbs = 1 := by unfold sg; cases decide (val y < 0) <;> rfl
  rw [e, Nat.mul_one, Int.natAbs_natCast, Nat.mul_comm, val_abs, val_abs]
  exact Nat.mul_le_mul_left _ (rv_le h)

/-! ### A float without its sign -/
theorem rung_fabs {x : Nat} (h : isNan x = false) : rung (fabs x) = rung x := by
  unfold fabs; rw [h]; unfold rung; rw [cond_false, Nat.mod_mod]
theorem sgn_fabs {x : Nat} (h : isNan x = false) : sgn (fabs x) = false := by
  unfold fabs; rw [h]; unfold sgn
  rw [cond_false]
  have : x % 9223372036854775808 / 9223372036854775808 = 0 := Nat.div_eq_of_lt (Nat.mod_lt _ (by decide))
  rw [this]; rfl
theorem nan_fabs (x : Nat) : isNan (fabs x) = isNan x := by
  unfold fabs
  cases h : isNan x
  · rw [cond_false, isNan_low, h]
  · exact isNan_nanB
theorem key_fabs {x : Nat} (h : isNan x = false) : key (fabs x) = rung x := by
  unfold key; rw [sgn_fabs h, rung_fabs h]; rfl
theorem fgt_fabs {x y : Nat} (hx : isNan x = false) (hy : isNan y = false) : fgt (fabs x) (fabs y) = decide (rung y < rung x) := by
  rw [fgt_key (by rw [nan_fabs]; exact hx) (by rw [nan_fabs]; exact hy), key_fabs hx, key_fabs hy]
  by_cases h : rung y < rung x
  · rw [decide_eq_true h, decide_eq_true (by omega)]
  · rw [decide_eq_false h, decide_eq_false (by omega)]
theorem sub_turn {x y : Nat} (hx : isFin x = true) (hy : isFin y = true) : feq (fsub x y) (fneg (fsub y x)) = true := by
  obtain ⟨m, i, h1, _⟩ := read_fin hx
  obtain ⟨n, j, h2, _⟩ := read_fin hy
  exact fsub_turn h1 h2
theorem key_fneg {x : Nat} (h : isNan x = false) : key (fneg x) = - key x ∧ isNan (fneg x) = false := by
  have hx : ∀ s r, r ≤ 9218868437227405312 → key (fneg (double.word s r)) = - key (double.word s r) ∧ isNan (fneg (double.word s r)) = false := fun s r hr => by
    rw [fneg_word s hr, key_word _ hr, key_word _ hr, isNan_word _ hr]
    cases s <;> simp
  have e : fneg x = x ^^^ 9223372036854775808 := by unfold fneg; rw [h]; rfl
  have hr : rung x ≤ 9218868437227405312 := by
    rcases fin_or_inf h with h | h
    · have := isFin_lt h; omega
    · omega
  have hb : (x ^^^ 9223372036854775808) % 9223372036854775808 = x % 9223372036854775808 := by
    rw [show (9223372036854775808 : Nat) = 2 ^ 63 from by decide]
    rw [Nat.xor_mod_two_pow, Nat.mod_self]; simp
  have hs : sgn (x ^^^ 9223372036854775808) = !sgn x := by
    unfold sgn
    have : (x ^^^ 9223372036854775808) / 9223372036854775808 = x / 9223372036854775808 ^^^ 1 := by
      rw [show (9223372036854775808 : Nat) = 2 ^ 63 from by decide, ← Nat.shiftRight_eq_div_pow, ← Nat.shiftRight_eq_div_pow, Nat.shiftRight_xor_distrib]
      rfl
    rw [this]
    have h2 : (x / 9223372036854775808 ^^^ 1) % 2 = (x / 9223372036854775808 % 2) ^^^ 1 := by
      rw [show (2 : Nat) = 2 ^ 1 from rfl, Nat.xor_mod_two_pow]
    rw [h2]
    have : x / 9223372036854775808 % 2 = 0 ∨ x / 9223372036854775808 % 2 = 1 := by omega
    rcases this with e | e <;> rw [e] <;> rfl
  rw [e]
  constructor
  · unfold key
    rw [hs]
    have : rung (x ^^^ 9223372036854775808) = rung x := hb
    rw [this]
    cases sgn x <;> simp
  · unfold isNan at *
    rw [read_isNaN] at *
    rw [hb]; exact h
end Go.Ev

namespace Go.Ev
open Ieee

/-! ### The rung of an exact value that is 2^j times as great -/
theorem log2_unique {x k : Nat} (h1 : 2 ^ k ≤ x) (h2 : x < 2 ^ (k + 1)) : x.log2 = k := by
  have hx : x ≠ 0 := by have := Nat.two_pow_pos k; omega
  have a := (Nat.le_log2 hx).2 h1
  have b := (Nat.log2_lt hx).2 h2
  omega
theorem log2_scale {a g : Nat} (j : Nat) (hg : 0 < g) (h : 1 ≤ a / g) : (a * 2 ^ j / g).log2 = (a / g).log2 + j := by
  have h0 : a / g ≠ 0 := by omega
  have l1 := Nat.log2_self_le h0
  have l2 := Nat.lt_log2_self (n := a / g)
  generalize (a / g).log2 = k at l1 l2
  refine log2_unique ?_ ?_
  · rw [Nat.le_div_iff_mul_le hg, Nat.pow_add]
    rw [Nat.le_div_iff_mul_le hg] at l1
    have := Nat.mul_le_mul_right (2 ^ j) l1
    rw [Nat.mul_right_comm] at this
    exact this
  · rw [Nat.div_lt_iff_lt_mul hg, show k + j + 1 = (k + 1) + j by omega, Nat.pow_add]
    rw [Nat.div_lt_iff_lt_mul hg] at l2
    have := (Nat.mul_lt_mul_right (Nat.two_pow_pos j)).2 l2
    rw [Nat.mul_right_comm] at this
    exact this
theorem rq_scale {a g : Nat} (j : Nat) (hg : 0 < g) (h : 2 ^ 52 ≤ a / g) : rq 52 (a * 2 ^ j) g = rq 52 a g + j * 2 ^ 52 := by
  have h1 : 1 ≤ a / g := Nat.le_trans (Nat.two_pow_pos 52) h
  have h0 : a / g ≠ 0 := by omega
  have hL : 52 ≤ (a / g).log2 := (Nat.le_log2 h0).2 h
  unfold rq
  rw [log2_scale j hg h1]
  generalize (a / g).log2 = k at hL
  rw [show k + j - 52 = (k - 52) + j by omega, Nat.pow_add, ← Nat.mul_assoc g, rnd_mul _ _ (Nat.two_pow_pos j), Nat.add_mul]
  omega
theorem rq_low {a g : Nat} (h : 2 ^ 52 ≤ a / g) : 2 ^ 52 ≤ rq 52 a g := by
  have h0 : a / g ≠ 0 := by have := Nat.two_pow_pos 52; omega
  have l1 := Nat.log2_self_le h0
  unfold rq
  have hL : 52 ≤ (a / g).log2 := (Nat.le_log2 h0).2 h
  have : 2 ^ 52 ≤ rnd a (g * 2 ^ ((a / g).log2 - 52)) := by
    refine Nat.le_trans ?_ (le_rnd _ _)
    rw [← Nat.div_div_eq_div_mul, Nat.le_div_iff_mul_le (Nat.two_pow_pos _), ← Nat.pow_add, show 52 + ((a / g).log2 - 52) = (a / g).log2 by omega]
    exact l1
  omega

/-! ### Twice as great, and so on -/
/-- y is 2^j times x, both nought or both normal numbers, of one sign. -/
structure Sc (j x y : Nat) : Prop where
  s : sgn x = sgn y
  fx : isFin x = true
  fy : isFin y = true
  r : (rung x = 0 ∧ rung y = 0) ∨ (2 ^ 52 ≤ rung x ∧ rung y = rung x + j * 2 ^ 52)
theorem rv_scale {r : Nat} (j : Nat) (h : 2 ^ 52 ≤ r) : rv 52 (r + j * 2 ^ 52) = rv 52 r * 2 ^ j := by
  have p : 0 < 2 ^ 52 := Nat.two_pow_pos 52
  unfold rv
  generalize 2 ^ 52 = b at *
  rw [if_neg (by have : r ≤ r + j * b := Nat.le_add_right _ _; omega), if_neg (by omega), Nat.add_mul_mod_self_right, Nat.add_mul_div_right _ _ p]
  have : 1 ≤ r / b := (Nat.le_div_iff_mul_le p).2 (by omega)
  rw [show r / b + j - 1 = (r / b - 1) + j by omega, Nat.pow_add, Nat.mul_assoc]
theorem Sc.val {j x y : Nat} (h : Sc j x y) : val y = val x * ((2 ^ j : Nat) : Int) := by
  unfold Go.Ev.val
  rw [← h.s]
  have e : rv 52 (rung y) = rv 52 (rung x) * 2 ^ j := by
    rcases h.r with ⟨a, b⟩ | ⟨a, b⟩
    · rw [a, b, rv_zero, Nat.zero_mul]
    · rw [b]; exact rv_scale j a
  rw [e]
  cases sgn x
  · simp only [cond_false]; push_cast; rfl
  · simp only [cond_true]; push_cast; rw [Int.neg_mul]
theorem key_sgn {x : Nat} (h : key x ≠ 0) : sgn x = decide (key x < 0) := by
  have e : key x = cond (sgn x) (-(rung x : Int)) (rung x) := rfl
  cases hs : sgn x
  · rw [hs, cond_false] at e; rw [decide_eq_false (by omega)]
  · rw [hs, cond_true] at e; rw [decide_eq_true (by omega)]
theorem KR_big {v : Int} {g : Nat} (h : rq 52 v.natAbs g < 9218868437227405312) : (KR v g).natAbs = rq 52 v.natAbs g := by
  unfold KR
  rw [Nat.min_eq_left (Nat.le_of_lt h)]
  cases decide (v < 0)
  · rw [cond_false, Int.natAbs_natCast]
  · rw [cond_true, Int.natAbs_neg, Int.natAbs_natCast]
/-- Out of exact values, of which one is 2^j times the other. -/
theorem sc_of {j x y g : Nat} {v : Int} (hg : 0 < g) (kx : key x = KR v g) (ky : key y = KR (v * ((2 ^ j : Nat) : Int)) g) (nx : isFin x = true) (ny : isFin y = true) (h : v ≠ 0 → 2 ^ 52 ≤ v.natAbs / g) (hs : v = 0 → sgn x = sgn y) : Sc j x y := by
  by_cases h0 : v = 0
  · subst h0
    rw [Int.zero_mul, KR_zero hg] at ky
    rw [KR_zero hg] at kx
    have a := key_abs x
    have b := key_abs y
    rw [kx] at a; rw [ky] at b
    exact ⟨hs rfl, nx, ny, Or.inl ⟨a.symm, b.symm⟩⟩
  · have hq := h h0
    have fx := isFin_lt nx
    have fy := isFin_lt ny
    rw [← key_abs, kx] at fx
    rw [← key_abs, ky] at fy
    have cap : ∀ {u : Int}, (KR u g).natAbs < 9218868437227405312 → rq 52 u.natAbs g < 9218868437227405312 := fun {u} hu => by
      unfold KR at hu
      cases hd : decide (u < 0)
      · rw [hd, cond_false, Int.natAbs_natCast] at hu; omega
      · rw [hd, cond_true, Int.natAbs_neg, Int.natAbs_natCast] at hu; omega
    have rx : rung x = rq 52 v.natAbs g := by rw [← key_abs, kx, KR_big (cap fx)]
    have ry : rung y = rq 52 (v.natAbs * 2 ^ j) g := by
      rw [← key_abs, ky, KR_big (cap fy), Int.natAbs_mul, Int.natAbs_natCast]
    have lo := rq_low hq
    have hp : (0 : Int) < ((2 ^ j : Nat) : Int) := by have := Nat.two_pow_pos j; omega
    have px : 0 < rung x := by rw [rx]; have := Nat.two_pow_pos 52; omega
    have py : 0 < rung y := by rw [ry, rq_scale j hg hq]; have := Nat.two_pow_pos 52; omega
    refine ⟨?_, nx, ny, Or.inr ⟨by rw [rx]; exact lo, by rw [ry, rx, rq_scale j hg hq]⟩⟩
    have ax := key_abs x
    have ay := key_abs y
    rw [key_sgn (by omega), key_sgn (by omega)]
    have e1 : key x < 0 ↔ v < 0 := by
      have := KR_sign (v := v) (g := g)
      constructor
      · intro hk; rcases Int.lt_or_le v 0 with e | e
        · exact e
        · have := this.1 e; omega
      · intro hk
        have := this.2 (by omega) hg
        omega
    have e2 : key y < 0 ↔ v < 0 := by
      have := KR_sign (v := v * ((2 ^ j : Nat) : Int)) (g := g)
      constructor
      · intro hk; rcases Int.lt_or_le v 0 with e | e
        · exact e
        · have := this.1 (Int.mul_nonneg e (by omega)); omega
      · intro hk
        have := this.2 (Int.le_of_lt (Int.mul_neg_of_neg_of_pos hk hp)) hg
        omega
    exact decide_eq_decide.2 (e1.trans e2.symm)
end Go.Ev

namespace Go.Ev
open Ieee

/-! ### Signs -/
theorem sgn_word (s : Bool) {r : Nat} (h : r ≤ 9218868437227405312) : sgn (double.word s r) = s := by
  unfold sgn Format.word
  rw [signW]
  cases s
  · have h1 : r / 9223372036854775808 = 0 := Nat.div_eq_of_lt (by omega)
    simp [h1]
  · have h1 : (9223372036854775808 + r) / 9223372036854775808 = 1 := by omega
    simp [h1]
theorem sgn_nearest (s : Bool) (m : Nat) (p : Int) : sgn (double.nearest s m p) = s := by
  obtain ⟨r, hr, hw⟩ := nearest_word s m p
  rw [hw, sgn_word _ hr]
theorem sgn_mul {x y : Nat} (hx : isFin x = true) (hy : isFin y = true) : sgn (fmul x y) = (sgn x ^^ sgn y) := by
  obtain ⟨m, i, hrx, _⟩ := read_fin hx
  obtain ⟨n, j, hry, _⟩ := read_fin hy
  unfold fmul Format.mul
  rw [hrx, hry]
  exact sgn_nearest _ _ _
theorem sgn_div {x y : Nat} (hx : isFin x = true) (hy : isFin y = true) (h0 : val y ≠ 0) : sgn (fdiv x y) = (sgn x ^^ sgn y) := by
  obtain ⟨m, i, hrx, _⟩ := read_fin hx
  obtain ⟨n, j, hry, _, _, hv⟩ := read_fin hy
  have hn : n ≠ 0 := fun e => by
    rw [e, Nat.zero_mul, ← val_abs] at hv
    omega
  unfold fdiv Format.div
  rw [hrx, hry]
  simp only [Datum.quotient, if_neg hn]
  exact sgn_nearest _ _ _
theorem sgn_add0 {x y : Nat} (hx : isFin x = true) (hy : isFin y = true) (h : val x + val y = 0) : sgn (fadd x y) = (sgn x && sgn y) := by
  obtain ⟨m, i, hrx, hi, _, hvx⟩ := read_fin hx
  obtain ⟨n, j, hry, hj, _, hvy⟩ := read_fin hy
  have ea := val_signed hvx (base := min i j) (by omega) (by omega)
  have eb := val_signed hvy (base := min i j) (by omega) (by omega)
  unfold fadd Format.add
  rw [hrx, hry]
  simp only [Datum.sum, Option.map_some, Option.getD_some]
  have h0 : signed (sgn x) m (i - min i j).toNat + signed (sgn y) n (j - min i j).toNat = 0 := by
    rw [ea, eb, ← Int.add_mul] at h
    rcases Int.mul_eq_zero.1 h with e | e
    · exact e
    · exact absurd e (Int.ne_of_gt (Int.pow_pos (by decide)))
  rw [if_pos h0]
  exact sgn_nearest _ _ _
theorem sgn_sub0 {x y : Nat} (hx : isFin x = true) (hy : isFin y = true) (h : val x - val y = 0) : sgn (fsub x y) = (sgn x && !sgn y) := by
  obtain ⟨m, i, hrx, hi, _, hvx⟩ := read_fin hx
  obtain ⟨n, j, hry, hj, _, hvy⟩ := read_fin hy
  have ea := val_signed hvx (base := min i j) (by omega) (by omega)
  have eb := val_signed hvy (base := min i j) (by omega) (by omega)
  unfold fsub Format.sub
  rw [hrx, hry]
  simp only [Datum.opposite, Datum.sum, Option.map_some, Option.getD_some]
  have h0 : signed (sgn x) m (i - min i j).toNat + signed (!sgn y) n (j - min i j).toNat = 0 := by
    rw [signed_neg]
    rw [ea, eb, ← Int.sub_mul] at h
    rcases Int.mul_eq_zero.1 h with e | e
    · omega
    · exact absurd e (Int.ne_of_gt (Int.pow_pos (by decide)))
  rw [if_pos h0]
  exact sgn_nearest _ _ _

/-! ### Operations -/
theorem sc_add {j x x' y y' : Nat} (hx : Sc j x x') (hy : Sc j y y') (f : isFin (fadd x y) = true) (f' : isFin (fadd x' y') = true) (low : val x + val y ≠ 0 → 2 ^ 52 ≤ (val x + val y).natAbs) : Sc j (fadd x y) (fadd x' y') := by
  have e : val x' + val y' = (val x + val y) * ((2 ^ j : Nat) : Int) := by rw [hx.val, hy.val, Int.add_mul]
  refine sc_of (g := 1) (by decide) (key_add hx.fx hy.fx).1 (by rw [(key_add hx.fy hy.fy).1, e]) f f' (fun h => by rw [Nat.div_one]; exact low h) (fun h => ?_)
  rw [sgn_add0 hx.fx hy.fx h, sgn_add0 hx.fy hy.fy (by rw [e, h, Int.zero_mul]), hx.s, hy.s]
theorem sc_sub {j x x' y y' : Nat} (hx : Sc j x x') (hy : Sc j y y') (f : isFin (fsub x y) = true) (f' : isFin (fsub x' y') = true) (low : val x - val y ≠ 0 → 2 ^ 52 ≤ (val x - val y).natAbs) : Sc j (fsub x y) (fsub x' y') := by
  have e : val x' - val y' = (val x - val y) * ((2 ^ j : Nat) : Int) := by rw [hx.val, hy.val, Int.sub_mul]
  refine sc_of (g := 1) (by decide) (key_sub hx.fx hy.fx).1 (by rw [(key_sub hx.fy hy.fy).1, e]) f f' (fun h => by rw [Nat.div_one]; exact low h) (fun h => ?_)
  rw [sgn_sub0 hx.fx hy.fx h, sgn_sub0 hx.fy hy.fy (by rw [e, h, Int.zero_mul]), hx.s, hy.s]
theorem sc_mul {c i j x x' y y' : Nat} (hc : c = 1074) (hx : Sc i x x') (hy : Sc j y y') (f : isFin (fmul x y) = true) (f' : isFin (fmul x' y') = true) (low : val x * val y ≠ 0 → 2 ^ 52 ≤ (val x * val y).natAbs / 2 ^ c) : Sc (i + j) (fmul x y) (fmul x' y') := by
  have e : val x' * val y' = val x * val y * ((2 ^ (i + j) : Nat) : Int) := by
    rw [hx.val, hy.val, Nat.pow_add]; push_cast
    rw [Int.mul_assoc, Int.mul_left_comm _ (val y), ← Int.mul_assoc]
  refine sc_of (g := 2 ^ c) (Nat.two_pow_pos c) (key_mul hc hx.fx hy.fx).1 (by rw [(key_mul hc hx.fy hy.fy).1, e]) f f' low (fun _ => ?_)
  rw [sgn_mul hx.fx hy.fx, sgn_mul hx.fy hy.fy, hx.s, hy.s]
/-- Of which the one is as much greater as the other is less: the product is the same. -/
theorem sc_mulx {c j x x' y y' : Nat} (hc : c = 1074) (hx : Sc j x' x) (hy : Sc j y y') (f : isFin (fmul x y) = true) (f' : isFin (fmul x' y') = true) (low : val x * val y ≠ 0 → 2 ^ 52 ≤ (val x * val y).natAbs / 2 ^ c) : Sc 0 (fmul x y) (fmul x' y') := by
  have e : val x' * val y' = val x * val y * ((2 ^ 0 : Nat) : Int) := by
    rw [hx.val, hy.val]
    simp only [Nat.pow_zero, Int.natCast_one, Int.mul_one]
    rw [Int.mul_assoc, Int.mul_comm (val y)]
  refine sc_of (g := 2 ^ c) (Nat.two_pow_pos c) (key_mul hc hx.fy hy.fx).1 (by rw [(key_mul hc hx.fx hy.fy).1, e]) f f' low (fun _ => ?_)
  rw [sgn_mul hx.fy hy.fx, sgn_mul hx.fx hy.fy, hx.s, hy.s]
theorem KR_mul (v : Int) (g : Nat) {m : Nat} (hm : 0 < m) : KR (v * (m : Int)) (g * m) = KR v g := by
  unfold KR
  have e := rq_mul 52 v.natAbs g hm
  rw [Int.natAbs_mul, Int.natAbs_natCast, e]
  have hg' : (0 : Int) < (m : Int) := by omega
  by_cases h : v < 0
  · rw [decide_eq_true h, decide_eq_true (Int.mul_neg_of_neg_of_pos h hg')]
  · rw [decide_eq_false h, decide_eq_false (Int.not_lt.2 (Int.mul_nonneg (by omega) (by omega)))]
theorem sg_scale (v : Int) {m : Nat} (hm : 0 < m) : sg (v * (m : Int)) = sg v := by
  unfold sg
  have hg' : (0 : Int) < (m : Int) := by omega
  by_cases h : v < 0
  · rw [decide_eq_true h, decide_eq_true (Int.mul_neg_of_neg_of_pos h hg')]
  · rw [decide_eq_false h, decide_eq_false (Int.not_lt.2 (Int.mul_nonneg (by omega) (by omega)))]
theorem sc_div {c k j x x' y y' : Nat} (hc : c = 1074) (hx : Sc (j + k) x x') (hy : Sc j y y') (h0 : val y ≠ 0) (f : isFin (fdiv x y) = true) (f' : isFin (fdiv x' y') = true) (low : val x ≠ 0 → 2 ^ 52 ≤ (val x).natAbs * 2 ^ c / (val y).natAbs) : Sc k (fdiv x y) (fdiv x' y') := by
  have hp : 0 < 2 ^ j := Nat.two_pow_pos j
  have h0' : val y' ≠ 0 := by
    rw [hy.val]; exact Int.mul_ne_zero h0 (by omega)
  have e : KR (val x' * sg (val y') * ((2 ^ c : Nat) : Int)) (val y').natAbs = KR (val x * sg (val y) * ((2 ^ c : Nat) : Int) * ((2 ^ k : Nat) : Int)) (val y).natAbs := by
    rw [hx.val, hy.val, sg_scale _ hp, Int.natAbs_mul, Int.natAbs_natCast, ← KR_mul _ (val y).natAbs hp]
    congr 1
    rw [Nat.pow_add]; push_cast
    simp only [Int.mul_assoc, Int.mul_comm, Int.mul_left_comm]
  have es : (sg (val y)).natAbs = 1 := by unfold sg; cases decide (val y < 0) <;> rfl
  refine sc_of (g := (val y).natAbs) (by omega) (key_div hc hx.fx hy.fx h0).1 (by rw [(key_div hc hx.fy hy.fy h0').1, e]) f f' (fun h => ?_) (fun _ => ?_)
  · rw [Int.natAbs_mul, Int.natAbs_mul, es, Nat.mul_one, Int.natAbs_natCast]
    exact low (fun e => h (by rw [e, Int.zero_mul, Int.zero_mul]))
  · rw [sgn_div hx.fx hy.fx h0, sgn_div hx.fy hy.fy h0', hx.s, hy.s]
/-- What is divided by more is less. -/
theorem sc_divx {c k j x x' y y' : Nat} (hc : c = 1074) (hx : Sc j x x') (hy : Sc (j + k) y y') (h0 : val y ≠ 0) (f : isFin (fdiv x y) = true) (f' : isFin (fdiv x' y') = true) (low : val x' ≠ 0 → 2 ^ 52 ≤ (val x').natAbs * 2 ^ c / (val y').natAbs) : Sc k (fdiv x' y') (fdiv x y) := by
  have hp : 0 < 2 ^ (j + k) := Nat.two_pow_pos _
  have h0' : val y' ≠ 0 := by
    rw [hy.val]; exact Int.mul_ne_zero h0 (by omega)
  have e : KR (val x' * sg (val y') * ((2 ^ c : Nat) : Int) * ((2 ^ k : Nat) : Int)) (val y').natAbs = KR (val x * sg (val y) * ((2 ^ c : Nat) : Int)) (val y).natAbs := by
    rw [hx.val, hy.val, sg_scale _ hp, Int.natAbs_mul, Int.natAbs_natCast, ← KR_mul (val x * sg (val y) * ((2 ^ c : Nat) : Int)) (val y).natAbs hp]
    congr 1
    rw [Nat.pow_add]; push_cast
    simp only [Int.mul_assoc, Int.mul_comm, Int.mul_left_comm]
  have es : (sg (val y')).natAbs = 1 := by unfold sg; cases decide (val y' < 0) <;> rfl
  refine sc_of (g := (val y').natAbs) (by omega) (key_div hc hx.fy hy.fy h0').1 (by rw [(key_div hc hx.fx hy.fx h0).1, e]) f' f (fun h => ?_) (fun _ => ?_)
  · rw [Int.natAbs_mul, Int.natAbs_mul, es, Nat.mul_one, Int.natAbs_natCast]
    exact low (fun e => h (by rw [e, Int.zero_mul, Int.zero_mul]))
  · rw [sgn_div hx.fx hy.fx h0, sgn_div hx.fy hy.fy h0', hx.s, hy.s]
/-- In order as before. -/
theorem sc_key_lt {j x x' y y' : Nat} (hx : Sc j x x') (hy : Sc j y y') : key x' < key y' ↔ key x < key y := by
  rw [← val_lt, ← val_lt, hx.val, hy.val]
  have hp : (0 : Int) < ((2 ^ j : Nat) : Int) := by have := Nat.two_pow_pos j; omega
  exact Int.mul_lt_mul_right hp
end Go.Ev

namespace Go.Ev
open Ieee

theorem rung_word (s : Bool) {r : Nat} (h : r ≤ 9218868437227405312) : rung (double.word s r) = r := by
  unfold rung Format.word
  rw [signW]
  cases s
  · simp only [Bool.false_eq_true, if_false]; exact Nat.mod_eq_of_lt (by omega)
  · simp only [if_true]; omega
theorem sc_nearest {s : Bool} {m j u w : Nat} {p : Int} (hp : p + 1074 = u - w) (hlow : 2 ^ 52 ≤ m * 2 ^ u / 2 ^ w) (hf : isFin (double.nearest s m (p + j)) = true) : Sc j (double.nearest s m p) (double.nearest s m (p + j)) := by
  have e1 := nearest_rq s m u w p hp
  have e2 := nearest_rq s m (u + j) w (p + j) (by omega)
  rw [infR] at e1 e2
  have hs := rq_scale (a := m * 2 ^ u) j (Nat.two_pow_pos w) hlow
  rw [Nat.mul_assoc, ← Nat.pow_add] at hs
  have lo := rq_low hlow
  rw [hs] at e2
  clear hs hlow
  generalize rq 52 (m * 2 ^ u) (2 ^ w) = R at e1 e2 lo
  have h2 := isFin_lt hf
  rw [e2, rung_word s (Nat.min_le_right _ _)] at h2
  have p52 : (2 : Nat) ^ 52 = 4503599627370496 := by decide
  rw [p52] at e2 lo h2
  have h3 : R + j * 4503599627370496 < 9218868437227405312 := by omega
  have h4 : R < 9218868437227405312 := by omega
  have r1 : rung (double.nearest s m p) = R := by rw [e1, rung_word s (Nat.min_le_right _ _), Nat.min_eq_left (Nat.le_of_lt h4)]
  have r2 : rung (double.nearest s m (p + j)) = R + j * 4503599627370496 := by rw [e2, rung_word s (Nat.min_le_right _ _), Nat.min_eq_left (Nat.le_of_lt h3)]
  refine ⟨by rw [sgn_nearest, sgn_nearest], ?_, hf, Or.inr ⟨by rw [r1, p52]; exact lo, by rw [r1, r2, p52]⟩⟩
  unfold isFin
  rw [r1]
  exact Nat.ble_eq_true_of_le (show R + 1 ≤ 9218868437227405312 from h4)
theorem read_norm {x : Nat} (h : isFin x = true) (hn : 2 ^ 52 ≤ rung x) : double.read x = .number (sgn x) (4503599627370496 + rung x % 4503599627370496) (-1074 + ((rung x / 4503599627370496 - 1 : Nat) : Int)) := by
  have hl := isFin_lt h
  unfold rung at hl hn ⊢
  unfold Format.read sgn
  simp only [signW, infR, binadeV, leastP]
  have h1 : ¬ x % 9223372036854775808 < 4503599627370496 := Nat.not_lt.2 hn
  rw [if_neg h1, if_pos hl]
theorem read_nought {x : Nat} (h : rung x = 0) : double.read x = .number (sgn x) 0 (-1074) := by
  unfold rung at h
  unfold Format.read sgn
  simp only [signW, infR, binadeV, leastP]
  rw [h, if_pos (by decide)]
/-- What the root's text gives, of a number above 0. -/
def rootM (m : Nat) (i : Int) : Nat :=
  (m <<< (108 - m.log2 + ((i - ((108 - m.log2 : Nat) : Int)) % 2).toNat))
def rootW (m : Nat) (i : Int) : Nat := 2 * Datum.rootFrom (rootM m i) ((rootM m i).log2 / 2 + 1) 0 + (Datum.rootFrom (rootM m i) ((rootM m i).log2 / 2 + 1) 0 * Datum.rootFrom (rootM m i) ((rootM m i).log2 / 2 + 1) 0 != rootM m i).toNat
def rootE (m : Nat) (i : Int) : Int := (i - ((108 - m.log2 + ((i - ((108 - m.log2 : Nat) : Int)) % 2).toNat : Nat) : Int)) / 2 - 1
theorem fsqrt_text {x m : Nat} {i : Int} (h : double.read x = .number false m i) (hm : m ≠ 0) : fsqrt x = double.nearest false (rootW m i) (rootE m i) := by
  unfold fsqrt Format.sqrt
  rw [h]
  simp only [Datum.root, if_neg hm, Bool.false_eq_true, if_false, Option.map_some, Option.getD_some]
  rfl
theorem root_shift (m : Nat) (i : Int) (j : Nat) : rootW m (i + 2 * j) = rootW m i ∧ rootE m (i + 2 * j) = rootE m i + j := by
  have e : (i + 2 * (j : Int) - ((108 - m.log2 : Nat) : Int)) % 2 = (i - ((108 - m.log2 : Nat) : Int)) % 2 := by omega
  constructor
  · unfold rootW rootM; rw [e]
  · unfold rootE
    rw [e]
    generalize ((i - ((108 - m.log2 : Nat) : Int)) % 2).toNat = q
    generalize 108 - m.log2 = t
    omega
theorem rootW_pos {m : Nat} (hm : m ≠ 0) (i : Int) : 1 ≤ rootW m i := by
  have h : rootM m i ≠ 0 := by
    unfold rootM
    rw [Nat.shiftLeft_eq]
    exact Nat.mul_ne_zero hm (Nat.ne_of_gt (Nat.two_pow_pos _))
  unfold rootW
  generalize rootM m i = n at *
  cases hw : Datum.rootFrom n (n.log2 / 2 + 1) 0 with
  | zero =>
    have : (0 * 0 != n) = true := by
      rw [Nat.zero_mul]
      cases n with
      | zero => exact absurd rfl h
      | succ k => rfl
    rw [this]
    decide
  | succ k => omega
theorem pow_le_pow' {a b : Nat} (h : a ≤ b) : 2 ^ a ≤ 2 ^ b := Nat.pow_le_pow_right (by decide) h
theorem rootE_low (m : Nat) {i : Int} (hi : -1074 ≤ i) : -600 ≤ rootE m i := by
  unfold rootE
  have h1 : ((i - ((108 - m.log2 : Nat) : Int)) % 2).toNat ≤ 1 := by omega
  have h2 : 108 - m.log2 ≤ 108 := Nat.sub_le _ _
  generalize ((i - ((108 - m.log2 : Nat) : Int)) % 2).toNat = q at *
  generalize 108 - m.log2 = t at *
  omega
/-- The root of what is 4^j times as great is 2^j times as great. -/
theorem sc_sqrt {j x x' : Nat} (h : Sc (2 * j) x x') (hs : rung x = 0 ∨ sgn x = false) (f' : isFin (fsqrt x') = true) : Sc j (fsqrt x) (fsqrt x') := by
  rcases h.r with ⟨a, b⟩ | ⟨a, b⟩
  · have r1 := read_nought a
    have r2 := read_nought b
    have e : ∀ {y : Nat} {s : Bool}, double.read y = .number s 0 (-1074) → fsqrt y = double.word s 0 := fun {y s} hy => by
      unfold fsqrt Format.sqrt
      rw [hy]
      simp only [Datum.root, if_true, Option.map_some, Option.getD_some, Format.write, nearest_zero]
    rw [e r1, e r2, h.s]
    have r0 : rung (double.word (sgn x') 0) = 0 := rung_word _ (by decide)
    have f0 : isFin (double.word (sgn x') 0) = true := by unfold isFin; rw [r0]; rfl
    exact ⟨rfl, f0, f0, Or.inl ⟨r0, r0⟩⟩
  · have p52 : (2 : Nat) ^ 52 = 4503599627370496 := by decide
    have hsx : sgn x = false := by
      rcases hs with e | e
      · rw [e, p52] at a; omega
      · exact e
    have hb : 2 ^ 52 ≤ rung x' := by rw [b]; exact Nat.le_trans a (Nat.le_add_right _ _)
    have r1 := read_norm h.fx a
    have r2 := read_norm h.fy hb
    rw [p52] at a b
    rw [← h.s, hsx, b, Nat.add_mul_mod_self_right, Nat.add_mul_div_right _ _ (by decide)] at r2
    rw [hsx] at r1
    have hq : 1 ≤ rung x / 4503599627370496 := (Nat.le_div_iff_mul_le (by decide)).2 (by omega)
    have hi : (-1074 + ((rung x / 4503599627370496 + 2 * j - 1 : Nat) : Int)) = (-1074 + ((rung x / 4503599627370496 - 1 : Nat) : Int)) + 2 * (j : Int) := by omega
    rw [hi] at r2
    generalize hm : 4503599627370496 + rung x % 4503599627370496 = m at r1 r2
    have hi' : -1074 ≤ (-1074 + ((rung x / 4503599627370496 - 1 : Nat) : Int)) := by omega
    generalize (-1074 + ((rung x / 4503599627370496 - 1 : Nat) : Int)) = i at r1 r2 hi'
    have m0 : m ≠ 0 := by omega
    have e1 := fsqrt_text r1 m0
    have e2 := fsqrt_text r2 m0
    rw [(root_shift m i j).1, (root_shift m i j).2] at e2
    rw [e2] at f'
    rw [e1, e2]
    have hl := rootE_low m hi'
    have hw := rootW_pos m0 i
    generalize rootW m i = W at *
    generalize rootE m i = E at *
    refine sc_nearest (u := (E + 1074).toNat) (w := 0) (by omega) ?_ f'
    rw [Nat.pow_zero, Nat.div_one]
    exact Nat.le_trans (pow_le_pow' (show 52 ≤ (E + 1074).toNat by omega)) (Nat.le_mul_of_pos_left _ hw)
end Go.Ev

namespace Go.Ev
open Ieee

theorem rnd_exact {a g : Nat} (hg : 0 < g) (h : g ∣ a) : rnd a g = a / g := by
  obtain ⟨t, rfl⟩ := h
  unfold rnd
  rw [Nat.mul_mod_right, Nat.mul_zero]
  have h1 : decide (g < 0) = false := decide_eq_false (Nat.not_lt_zero _)
  have h2 : (g == 0) = false := by
    cases h3 : g == 0
    · rfl
    · have := eq_of_beq h3; omega
  rw [h1, h2]
  rfl
theorem rnd_lo {a : Nat} (h : 2 ^ 52 ≤ a) : 2 ^ 52 ≤ rnd a (2 ^ (a.log2 - 52)) ∧ rnd a (2 ^ (a.log2 - 52)) ≤ 2 ^ 53 := by
  have h0 : a ≠ 0 := by have := Nat.two_pow_pos 52; omega
  have hL : 52 ≤ a.log2 := (Nat.le_log2 h0).2 h
  have l1 := Nat.log2_self_le h0
  have l2 := Nat.lt_log2_self (n := a)
  constructor
  · refine Nat.le_trans ?_ (le_rnd _ _)
    rw [Nat.le_div_iff_mul_le (Nat.two_pow_pos _), ← Nat.pow_add, show 52 + (a.log2 - 52) = a.log2 by omega]
    exact l1
  · refine Nat.le_trans (rnd_le _ _) ?_
    have : a / 2 ^ (a.log2 - 52) < 2 ^ 53 := by
      rw [Nat.div_lt_iff_lt_mul (Nat.two_pow_pos _), ← Nat.pow_add, show 53 + (a.log2 - 52) = a.log2 + 1 by omega]
      exact l2
    exact this
/-- The value of what is rounded. -/
theorem rv_rq {a : Nat} (h : 2 ^ 52 ≤ a) : rv 52 (rq 52 a 1) = rnd a (2 ^ (a.log2 - 52)) * 2 ^ (a.log2 - 52) := by
  obtain ⟨r1, r2⟩ := rnd_lo h
  unfold rq
  rw [Nat.div_one, Nat.one_mul]
  generalize rnd a (2 ^ (a.log2 - 52)) = R at *
  generalize a.log2 - 52 = k
  have p52 : (2 : Nat) ^ 52 = 4503599627370496 := by decide
  have p53 : (2 : Nat) ^ 53 = 9007199254740992 := by decide
  rw [p52] at r1
  rw [p53] at r2
  rw [p52, rv_high (by omega)]
  rcases Nat.lt_or_ge R 9007199254740992 with e | e
  · have h1 : (k * 4503599627370496 + R) % 4503599627370496 = R - 4503599627370496 := by omega
    have h2 : (k * 4503599627370496 + R) / 4503599627370496 = k + 1 := by omega
    rw [h1, h2, Nat.add_sub_cancel, show 4503599627370496 + (R - 4503599627370496) = R by omega]
  · have h0 : R = 9007199254740992 := by omega
    subst h0
    have h1 : (k * 4503599627370496 + 9007199254740992) % 4503599627370496 = 0 := by omega
    have h2 : (k * 4503599627370496 + 9007199254740992) / 4503599627370496 = k + 2 := by omega
    rw [h1, h2, Nat.add_zero, show k + 2 - 1 = k + 1 by omega, Nat.pow_succ, show (9007199254740992 : Nat) = 4503599627370496 * 2 by decide, Nat.mul_assoc, Nat.mul_comm (2 ^ k) 2]
/-- A multiple of a power of two. -/
def Gr (k x : Nat) : Prop := 2 ^ k ∣ (val x).natAbs
theorem gr_round {k a : Nat} (h : 2 ^ 52 ≤ a) (hd : 2 ^ k ∣ a) : 2 ^ k ∣ rv 52 (rq 52 a 1) := by
  rw [rv_rq h]
  rcases Nat.le_total (a.log2 - 52) k with e | e
  · have hd' : 2 ^ (a.log2 - 52) ∣ a := Nat.dvd_trans (Nat.pow_dvd_pow 2 e) hd
    rw [rnd_exact (Nat.two_pow_pos _) hd', Nat.div_mul_cancel hd']
    exact hd
  · exact Nat.dvd_trans (Nat.pow_dvd_pow 2 e) (Nat.dvd_mul_left _ _)
theorem gr_of {k g z : Nat} {v : Int} (hk : 52 ≤ k) (hg : 0 < g) (hz : key z = KR v g) (f : isFin z = true) (hd : 2 ^ k * g ∣ v.natAbs) : Gr k z := by
  unfold Gr
  rw [val_abs]
  have fz := isFin_lt f
  rw [← key_abs, hz] at fz
  have cap : rq 52 v.natAbs g < 9218868437227405312 := by
    unfold KR at fz
    cases hd : decide (v < 0)
    · rw [hd, cond_false, Int.natAbs_natCast] at fz; omega
    · rw [hd, cond_true, Int.natAbs_neg, Int.natAbs_natCast] at fz; omega
  have rz : rung z = rq 52 v.natAbs g := by rw [← key_abs, hz, KR_big cap]
  obtain ⟨t, ht⟩ := hd
  have e : v.natAbs = 2 ^ k * t * g := by rw [ht, Nat.mul_right_comm]
  have hr : rq 52 v.natAbs g = rq 52 (2 ^ k * t) 1 := by
    rw [e]
    have := rq_mul 52 (2 ^ k * t) 1 hg
    rwa [Nat.one_mul] at this
  rw [rz, hr]
  by_cases h0 : t = 0
  · subst h0
    rw [Nat.mul_zero, rq_zero 52 (by decide), rv_zero]
    exact Nat.dvd_zero _
  · refine gr_round ?_ (Nat.dvd_mul_right _ _)
    exact Nat.le_trans (pow_le_pow' hk) (Nat.le_mul_of_pos_right _ (by omega))
theorem Gr.mono {k l x : Nat} (h : Gr k x) (hl : l ≤ k) : Gr l x := Nat.dvd_trans (Nat.pow_dvd_pow 2 hl) h
theorem Gr.low {k x : Nat} (h : Gr k x) (h0 : val x ≠ 0) : 2 ^ k ≤ (val x).natAbs := Nat.le_of_dvd (by omega) h
theorem gr_add {k x y : Nat} (hk : 52 ≤ k) (hx : Gr k x) (hy : Gr k y) (fx : isFin x = true) (fy : isFin y = true) (f : isFin (fadd x y) = true) : Gr k (fadd x y) ∧ (val x + val y ≠ 0 → 2 ^ 52 ≤ (val x + val y).natAbs) := by
  have hd : 2 ^ k ∣ (val x + val y).natAbs := by
    rw [← Int.ofNat_dvd_left] at *
    exact Int.dvd_add (Int.ofNat_dvd_left.2 hx) (Int.ofNat_dvd_left.2 hy)
  exact ⟨gr_of hk (by decide) (key_add fx fy).1 f (by rw [Nat.mul_one]; exact hd), fun h0 => Nat.le_trans (pow_le_pow' hk) (Nat.le_of_dvd (by omega) hd)⟩
theorem gr_sub {k x y : Nat} (hk : 52 ≤ k) (hx : Gr k x) (hy : Gr k y) (fx : isFin x = true) (fy : isFin y = true) (f : isFin (fsub x y) = true) : Gr k (fsub x y) ∧ (val x - val y ≠ 0 → 2 ^ 52 ≤ (val x - val y).natAbs) := by
  have hd : 2 ^ k ∣ (val x - val y).natAbs := by
    rw [← Int.ofNat_dvd_left] at *
    exact Int.dvd_sub (Int.ofNat_dvd_left.2 hx) (Int.ofNat_dvd_left.2 hy)
  exact ⟨gr_of hk (by decide) (key_sub fx fy).1 f (by rw [Nat.mul_one]; exact hd), fun h0 => Nat.le_trans (pow_le_pow' hk) (Nat.le_of_dvd (by omega) hd)⟩
theorem gr_mul {c k l n x y : Nat} (hc : c = 1074) (hx : Gr k x) (hy : Gr l y) (hn : n + c = k + l) (hk : 52 ≤ n) (fx : isFin x = true) (fy : isFin y = true) (f : isFin (fmul x y) = true) : Gr n (fmul x y) ∧ (val x * val y ≠ 0 → 2 ^ 52 ≤ (val x * val y).natAbs / 2 ^ c) := by
  have hd : 2 ^ n * 2 ^ c ∣ (val x * val y).natAbs := by
    rw [← Nat.pow_add, hn, Nat.pow_add, Int.natAbs_mul]
    exact Nat.mul_dvd_mul hx hy
  refine ⟨gr_of hk (Nat.two_pow_pos c) (key_mul hc fx fy).1 f hd, fun h0 => ?_⟩
  rw [Nat.le_div_iff_mul_le (Nat.two_pow_pos c)]
  exact Nat.le_trans (Nat.mul_le_mul_right _ (pow_le_pow' hk)) (Nat.le_of_dvd (by omega) hd)
/-- What is not small is a multiple of a power of two that is 52 less. -/
theorem gr_low {n x : Nat} (hn : 52 ≤ n) (h : 2 ^ n ≤ (val x).natAbs ∨ val x = 0) : Gr (n - 52) x := by
  unfold Gr
  rcases h with h | h
  · rw [val_abs] at *
    have hr : pw n ≤ rung x := by
      rcases Nat.lt_or_ge (rung x) (pw n) with e | e
      · have := rv_lt 52 e; rw [rv_pw hn] at this; omega
      · exact e
    unfold pw at hr
    have hb : ¬ rung x < 4503599627370496 := by
      have : 1 * 4503599627370496 ≤ (n - 51) * 4503599627370496 := Nat.mul_le_mul_right _ (by omega)
      omega
    rw [rv_high hb]
    have hq : n - 51 ≤ rung x / 4503599627370496 := (Nat.le_div_iff_mul_le (by decide)).2 hr
    exact Nat.dvd_trans (Nat.pow_dvd_pow 2 (by omega)) (Nat.dvd_mul_left _ _)
  · rw [h, Int.natAbs_zero]; exact Nat.dvd_zero _
end Go.Ev

namespace Go.Ev
open Ieee

theorem low_of {l g z : Nat} {v : Int} (hl : 52 ≤ l) (hg : 0 < g) (hz : key z = KR v g) (f : isFin z = true) (h : 2 ^ l * g ≤ v.natAbs) : 2 ^ l ≤ (val z).natAbs := by
  rw [val_abs, ← rv_pw hl]
  refine rv_le ?_
  have fz := isFin_lt f
  rw [← key_abs, hz] at fz
  have cap : rq 52 v.natAbs g < 9218868437227405312 := by
    unfold KR at fz
    cases hd : decide (v < 0)
    · rw [hd, cond_false, Int.natAbs_natCast] at fz; omega
    · rw [hd, cond_true, Int.natAbs_neg, Int.natAbs_natCast] at fz; omega
  rw [← key_abs, hz, KR_big cap]
  have e := rq_mul 52 (2 ^ l) 1 hg
  rw [Nat.one_mul, ← rv_pw hl, rq_rv] at e
  rw [← e, rv_pw hl]
  exact rq_mono1 52 h
theorem val_div0 {c x y : Nat} (hc : c = 1074) (hx : isFin x = true) (hy : isFin y = true) (h0 : val y ≠ 0) (h : val x = 0) : val (fdiv x y) = 0 := by
  have k := (key_div hc hx hy h0).1
  rw [h, Int.zero_mul, Int.zero_mul, KR_zero (by omega)] at k
  exact val_zero.2 (by have := key_abs (fdiv x y); omega)
/-- A quotient: at most 2^(n + c - k), and, where it isn't nought, at least 2^(k' + c - n'). -/
theorem bd_div2 {c n k l x y : Nat} (hc : c = 1074) (hx : Bd n x) (hn : 52 ≤ n) (hn' : n ≤ 2097) (hy : Gr k y) (fy : isFin y = true) (h0 : val y ≠ 0) (hl : l + k = n + c) (hl2 : 52 ≤ l) : Bd l (fdiv x y) := by
  refine bd_of (key_div hc (hx.fin hn') fy h0).1 (by omega) ?_ hl2
  rw [Int.natAbs_mul, Int.natAbs_mul]
  have e : (sg (val y)).natAbs = 1 := by unfold sg; cases decide (val y < 0) <;> rfl
  rw [e, Nat.mul_one, Int.natAbs_natCast]
  refine Nat.le_trans (Nat.mul_le_mul_right _ (hx.val hn)) ?_
  rw [← Nat.pow_add, ← hl, Nat.pow_add]
  exact Nat.mul_le_mul_left _ (hy.low h0)
theorem gr_div {c n k l x y : Nat} (hc : c = 1074) (hx : Gr k x) (fx : isFin x = true) (hy : Bd n y) (hn : 52 ≤ n) (hn' : n ≤ 2097) (h0 : val y ≠ 0) (hl : l + n = k + c) (hl2 : 52 ≤ l) (f : isFin (fdiv x y) = true) : Gr (l - 52) (fdiv x y) ∧ (val x ≠ 0 → 2 ^ 52 ≤ (val x).natAbs * 2 ^ c / (val y).natAbs) := by
  have big : val x ≠ 0 → 2 ^ l * (val y).natAbs ≤ (val x).natAbs * 2 ^ c := fun hv => by
    refine Nat.le_trans (Nat.mul_le_mul_left _ (hy.val hn)) ?_
    rw [← Nat.pow_add, hl, Nat.pow_add]
    exact Nat.mul_le_mul_right _ (hx.low hv)
  have hp : 0 < (val y).natAbs := by omega
  constructor
  · refine gr_low hl2 ?_
    by_cases hv : val x = 0
    · exact Or.inr (val_div0 hc fx (hy.fin hn') h0 hv)
    · left
      refine low_of hl2 hp (key_div hc fx (hy.fin hn') h0).1 f ?_
      rw [Int.natAbs_mul, Int.natAbs_mul]
      have e : (sg (val y)).natAbs = 1 := by unfold sg; cases decide (val y < 0) <;> rfl
      rw [e, Nat.mul_one, Int.natAbs_natCast]
      exact big hv
  · intro hv
    rw [Nat.le_div_iff_mul_le hp]
    exact Nat.le_trans (Nat.mul_le_mul_right _ (pow_le_pow' hl2)) (big hv)

/-! ### Roots -/
theorem rootFrom_lt (n : Nat) : ∀ (k x : Nat), Datum.rootFrom n k x < x + 2 ^ k
  | 0, x => by rw [Datum.rootFrom.eq_1, Nat.pow_zero]; omega
  | k + 1, x => by
    rw [Datum.rootFrom.eq_2, Nat.shiftLeft_eq, Nat.one_mul]
    have p := Nat.two_pow_pos k
    split
    · have := rootFrom_lt n k (x + 2 ^ k)
      rw [Nat.pow_succ]; omega
    · have := rootFrom_lt n k x
      rw [Nat.pow_succ]; omega
theorem rootW_lt (m : Nat) (i : Int) : rootW m i < 2 ^ ((rootM m i).log2 / 2 + 2) := by
  unfold rootW
  have h := rootFrom_lt (rootM m i) ((rootM m i).log2 / 2 + 1) 0
  rw [Nat.zero_add] at h
  rw [show (rootM m i).log2 / 2 + 2 = ((rootM m i).log2 / 2 + 1) + 1 by omega, Nat.pow_succ]
  generalize Datum.rootFrom (rootM m i) ((rootM m i).log2 / 2 + 1) 0 = w at *
  have hb := toNat_le_one (w * w != rootM m i)
  generalize (w * w != rootM m i).toNat = s at hb
  generalize 2 ^ ((rootM m i).log2 / 2 + 1) = p at *
  omega
theorem rootM_log {m : Nat} (hm : m ≠ 0) (i : Int) : (rootM m i).log2 = m.log2 + (108 - m.log2 + ((i - ((108 - m.log2 : Nat) : Int)) % 2).toNat) := by
  unfold rootM; exact log2_shl _ hm
/-- A root: at most about half the power. -/
theorem root_size {m : Nat} (hm : m ≠ 0) (i : Int) : (((rootM m i).log2 / 2 + 2 : Nat) : Int) + rootE m i ≤ ((m.log2 : Int) + i) / 2 + 1 := by
  rw [rootM_log hm]
  unfold rootE
  have hq : ((i - ((108 - m.log2 : Nat) : Int)) % 2).toNat = ((i - ((108 - m.log2 : Nat) : Int)) % 2) := by omega
  generalize hqq : ((i - ((108 - m.log2 : Nat) : Int)) % 2).toNat = q at *
  generalize 108 - m.log2 = t at *
  generalize m.log2 = L at *
  omega
theorem nearest_bd {s : Bool} {m n u : Nat} {p : Int} (hp : p + 1074 = (u : Int)) (h : m * 2 ^ u ≤ 2 ^ n) (hn : 52 ≤ n) : Bd n (double.nearest s m p) := by
  have e := nearest_rq s m u 0 p (by omega)
  unfold Bd
  rw [e, infR, rung_word s (Nat.min_le_right _ _), Nat.pow_zero]
  refine Nat.le_trans (Nat.min_le_left _ _) (Nat.le_trans (rq_mono1 52 h) ?_)
  rw [← rv_pw hn, rq_rv]
  exact Nat.le_refl _
theorem bd_sqrt {n k x : Nat} (hx : Bd n x) (hn : 52 ≤ n) (hn' : n ≤ 2097) (hs : rung x = 0 ∨ sgn x = false) (hk : n + 1076 ≤ 2 * k) (hk2 : 700 ≤ k) : Bd k (fsqrt x) := by
  have fx := hx.fin hn'
  obtain ⟨m, i, hr, hi, _, hv⟩ := read_fin fx
  by_cases m0 : m = 0
  · subst m0
    have e : fsqrt x = double.word (sgn x) 0 := by
      unfold fsqrt Format.sqrt
      rw [hr]
      simp only [Datum.root, if_true, Option.map_some, Option.getD_some, Format.write, nearest_zero]
    unfold Bd
    rw [e, rung_word _ (by decide)]
    exact Nat.zero_le _
  · have hs' : sgn x = false := by
      rcases hs with e | e
      · rw [e, rv_zero] at hv
        have := Nat.mul_ne_zero m0 (Nat.ne_of_gt (Nat.two_pow_pos (i + 1074).toNat))
        omega
      · exact e
    rw [hs'] at hr
    rw [fsqrt_text hr m0]
    have hlow := rootE_low m hi
    have hsz := root_size m0 i
    have hW := rootW_lt m i
    have hL : (m.log2 : Int) + i + 1074 ≤ n := by
      have h1 := hx.val hn
      rw [val_abs, hv] at h1
      have h2 := Nat.log2_self_le m0
      have h3 : 2 ^ (m.log2 + (i + 1074).toNat) ≤ 2 ^ n := by
        rw [Nat.pow_add]; exact Nat.le_trans (Nat.mul_le_mul_right _ h2) h1
      have h4 := (Nat.pow_le_pow_iff_right (by decide)).1 h3
      omega
    generalize rootE m i = E at *
    refine nearest_bd (u := (E + 1074).toNat) (by omega) ?_ (by omega)
    refine Nat.le_trans (Nat.mul_le_mul_right _ (Nat.le_of_lt hW)) ?_
    rw [← Nat.pow_add]
    exact pow_le_pow' (by omega)
/-- A root that isn't nought is not small. -/
theorem gr_sqrt {n x : Nat} (hn : n = 452) (fx : isFin x = true) (hs : rung x = 0 ∨ sgn x = false) (f : isFin (fsqrt x) = true) : Gr (n - 52) (fsqrt x) := by
  obtain ⟨m, i, hr, hi, _, hv⟩ := read_fin fx
  refine gr_low (n := n) (by omega) ?_
  by_cases m0 : m = 0
  · right
    subst m0
    have e : fsqrt x = double.word (sgn x) 0 := by
      unfold fsqrt Format.sqrt
      rw [hr]
      simp only [Datum.root, if_true, Option.map_some, Option.getD_some, Format.write, nearest_zero]
    rw [e]
    exact val_zero.2 (rung_word _ (by decide))
  · left
    have hs' : sgn x = false := by
      rcases hs with e | e
      · rw [e, rv_zero] at hv
        have := Nat.mul_ne_zero m0 (Nat.ne_of_gt (Nat.two_pow_pos (i + 1074).toNat))
        omega
      · exact e
    rw [hs'] at hr
    rw [fsqrt_text hr m0] at f ⊢
    have hlow := rootE_low m hi
    have hw := rootW_pos m0 i
    generalize rootE m i = E at *
    generalize rootW m i = W at *
    have e := nearest_rq false W (E + 1074).toNat 0 E (by omega)
    have fz := isFin_lt f
    rw [e, infR, rung_word _ (Nat.min_le_right _ _), Nat.pow_zero] at fz
    rw [val_abs, e, infR, rung_word _ (Nat.min_le_right _ _), Nat.pow_zero, Nat.min_eq_left (by omega), ← rv_pw (n := n) (by omega)]
    refine rv_le ?_
    have hb : 2 ^ n ≤ W * 2 ^ (E + 1074).toNat := Nat.le_trans (pow_le_pow' (show n ≤ (E + 1074).toNat by omega)) (Nat.le_mul_of_pos_left _ hw)
    have h2 := rq_mono1 52 (g := 1) hb
    rw [← rv_pw (n := n) (by omega), rq_rv] at h2
    exact h2
end Go.Ev

namespace Go.Ev
open Ieee

/-- x is the whole number a (c stands for 1074; of nought the sign is left open). -/
structure Wh (c x : Nat) (a : Int) : Prop where
  fin : isFin x = true
  val : val x = a * ((2 ^ c : Nat) : Int)
theorem wh_KRg (v : Int) {g : Nat} (hg : 0 < g) : KR (v * (g : Int)) g = KR v 1 := by
  have := KR_mul v 1 hg
  rwa [Nat.one_mul] at this
theorem wh_rv {c n : Nat} (hc : 52 ≤ c) (h0 : n ≠ 0) (h : n < 2 ^ 53) : rv 52 (rq 52 (n * 2 ^ c) 1) = n * 2 ^ c := by
  have h52 : 2 ^ 52 ≤ n * 2 ^ c := Nat.le_trans (Nat.pow_le_pow_right (by decide) hc) (Nat.le_mul_of_pos_left _ (by omega))
  have hl : n.log2 < 53 := (Nat.log2_lt h0).2 h
  have hd : 2 ^ ((n * 2 ^ c).log2 - 52) ∣ n * 2 ^ c := by
    rw [log2_mul_pow c h0]
    exact Nat.dvd_trans (Nat.pow_dvd_pow 2 (by omega)) (Nat.dvd_mul_left _ _)
  rw [rv_rq h52, rnd_exact (Nat.two_pow_pos _) hd, Nat.div_mul_cancel hd]
theorem wh_of {c z : Nat} {a : Int} (hc : c = 1074) (hz : key z = KR (a * ((2 ^ c : Nat) : Int)) 1) (ha : a.natAbs < 2 ^ 53) : Wh c z a := by
  have hP : 0 < 2 ^ c := Nat.two_pow_pos c
  have en : (a * ((2 ^ c : Nat) : Int)).natAbs = a.natAbs * 2 ^ c := by rw [Int.natAbs_mul, Int.natAbs_natCast]
  have hb : Bd (53 + c) z := by
    refine bd_of hz (by decide) ?_ (by omega)
    rw [en, Nat.mul_one, Nat.pow_add]
    exact Nat.mul_le_mul_right _ (by omega)
  have hf : isFin z = true := hb.fin (by omega)
  refine ⟨hf, ?_⟩
  by_cases h0 : a = 0
  · subst h0
    rw [Int.zero_mul, KR_zero (by decide)] at hz
    rw [Int.zero_mul]
    refine val_zero.2 ?_
    rw [← key_abs, hz]; rfl
  · have hn : a.natAbs ≠ 0 := by omega
    have hr : rung z = rq 52 (a.natAbs * 2 ^ c) 1 := by
      have hlt : rq 52 (a * ((2 ^ c : Nat) : Int)).natAbs 1 < 9218868437227405312 := by
        rw [en]
        refine Nat.lt_of_le_of_lt (rq_mono1 52 (Nat.mul_le_mul_right _ (Nat.le_of_lt ha))) ?_
        rw [← Nat.pow_add, ← rv_pw (by omega), rq_rv]
        unfold pw
        omega
      rw [← key_abs, hz, KR_big hlt, en]
    have hv : (val z).natAbs = a.natAbs * 2 ^ c := by rw [val_abs, hr, wh_rv (by omega) hn ha]
    have hk0 : key z ≠ 0 := fun e => by
      have e1 : rung z = 0 := by rw [← key_abs, e]; rfl
      have e2 := val_zero.2 e1
      rw [e2] at hv
      have := Nat.mul_pos (Nat.pos_of_ne_zero hn) hP
      have e3 : (0 : Int).natAbs = 0 := rfl
      omega
    generalize (2 ^ c : Nat) = P at *
    rcases Int.lt_or_gt_of_ne h0 with h | h
    · have hk : key z < 0 := by
        have := (KR_sign (v := a * (P : Int)) (g := 1)).2 (by have := Int.mul_neg_of_neg_of_pos h (show (0 : Int) < P by omega); omega) (by decide)
        omega
      have h1 := val_negative.2 hk
      have e : ((a.natAbs * P : Nat) : Int) = -a * P := by rw [Int.natCast_mul, show ((a.natAbs : Nat) : Int) = -a by omega]
      rw [Int.neg_mul] at e
      omega
    · have hk : 0 < key z := by
        have := (KR_sign (v := a * (P : Int)) (g := 1)).1 (by have := Int.mul_pos h (show (0 : Int) < P by omega); omega)
        omega
      have h1 := val_pos.2 hk
      have e : ((a.natAbs * P : Nat) : Int) = a * P := by rw [Int.natCast_mul, show ((a.natAbs : Nat) : Int) = a by omega]
      omega
section
variable {c x y : Nat} {a b : Int} (hc : c = 1074)
include hc
theorem wh_add (hx : Wh c x a) (hy : Wh c y b) (h : (a + b).natAbs < 2 ^ 53) : Wh c (fadd x y) (a + b) :=
  wh_of hc (by rw [(key_add hx.fin hy.fin).1, hx.val, hy.val, Int.add_mul]) h
theorem wh_sub (hx : Wh c x a) (hy : Wh c y b) (h : (a - b).natAbs < 2 ^ 53) : Wh c (fsub x y) (a - b) :=
  wh_of hc (by rw [(key_sub hx.fin hy.fin).1, hx.val, hy.val, Int.sub_mul]) h
theorem wh_mul (hx : Wh c x a) (hy : Wh c y b) (h : (a * b).natAbs < 2 ^ 53) : Wh c (fmul x y) (a * b) :=
  wh_of hc (by
    rw [(key_mul hc hx.fin hy.fin).1, hx.val, hy.val, ← wh_KRg (a * b * _) (Nat.two_pow_pos c)]
    congr 1
    generalize ((2 ^ c : Nat) : Int) = P
    rw [Int.mul_assoc a b P, Int.mul_assoc a P, Int.mul_assoc a, ← Int.mul_assoc P b P, Int.mul_comm P b]) h
theorem wh_div (hx : Wh c x (a * b)) (hy : Wh c y b) (hb : 0 < b) (h : a.natAbs < 2 ^ 53) : Wh c (fdiv x y) a :=
  wh_of hc (by
    have hp : (0 : Int) < val y := by rw [hy.val]; exact Int.mul_pos hb (by have := Nat.two_pow_pos c; omega)
    rw [(key_div hc hx.fin hy.fin (by omega)).1]
    have e1 : sg (val y) = 1 := by unfold sg; rw [decide_eq_false (by omega)]; rfl
    have e2 : (((val y).natAbs : Nat) : Int) = val y := by omega
    rw [e1, Int.mul_one, hx.val, ← wh_KRg (a * _) (show 0 < (val y).natAbs by omega), e2, hy.val]
    congr 1
    generalize ((2 ^ c : Nat) : Int) = P
    rw [Int.mul_assoc, Int.mul_assoc, Int.mul_assoc, ← Int.mul_assoc P b P, Int.mul_comm P b, Int.mul_assoc]) h
theorem wh_neg (hx : Wh c x a) (h : a.natAbs < 2 ^ 53) : Wh c (fneg x) (-a) :=
  wh_of hc (by rw [(key_fneg (fin_not_nan hx.fin)).1, ← KR_val hx.fin, hx.val, Int.neg_mul, KR_neg _ (by decide)]) (by omega)
omit hc
theorem wh_eq (hx : Wh c x a) (hy : Wh c y a) : feq x y = true := by
  rw [feq_key (fin_not_nan hx.fin) (fin_not_nan hy.fin), ← KR_val hx.fin, ← KR_val hy.fin, hx.val, hy.val]
  exact decide_eq_true rfl
end
theorem wh_nearest_def (n : Int) : FloatKind.f64.nearest n = Ieee.double.nearest (decide (n < 0)) n.natAbs 0 := rfl
theorem wh_int {c : Nat} (hc : c = 1074) {n : Int} (h : n.natAbs < 2 ^ 53) : Wh c (FloatKind.f64.nearest n) n :=
  wh_of hc (by
    rw [wh_nearest_def]
    refine key_nearest (u := c) (w := 0) (by decide) (by omega) ?_ ?_
    · rw [Nat.pow_zero, Int.natAbs_mul, Int.natAbs_natCast]
    · intro hv
      have hp : (0 : Int) < ((2 ^ c : Nat) : Int) := by have := Nat.two_pow_pos c; omega
      by_cases h0 : n < 0
      · rw [decide_eq_true h0, decide_eq_true (Int.mul_neg_of_neg_of_pos h0 hp)]
      · rw [decide_eq_false h0, decide_eq_false (by have := Int.mul_nonneg (show 0 ≤ n by omega) (Int.le_of_lt hp); omega)]) h
/-- The noughts and ones of the text. -/
theorem wh_zero {c : Nat} (hc : c = 1074) : Wh c 0 0 := wh_int hc (n := 0) (by decide)
theorem wh_one {c : Nat} (hc : c = 1074) : Wh c 4607182418800017408 1 := by
  have := wh_int hc (n := 1) (by decide)
  rwa [show FloatKind.f64.nearest 1 = 4607182418800017408 by decide +kernel] at this
theorem wh_mone {c : Nat} (hc : c = 1074) : Wh c 13830554455654793216 (-1) := by
  have := wh_int hc (n := -1) (by decide)
  rwa [show FloatKind.f64.nearest (-1) = 13830554455654793216 by decide +kernel] at this
end Go.Ev

namespace Go.Ev
open Ieee

/-- The next whole number below. -/
def flr (a : Nat) : Nat := cond (isNan a) nanB (double.write ((double.read a).integral .down))
theorem quiet_pos (t : Nat) : double.quiet t % 4503599627370496 ≠ 0 := fun h => by
  have h1 : (double.quiet t % 2 ^ 52).testBit 51 = true := by
    rw [Nat.testBit_mod_two_pow]
    show (decide (51 < 52) && (t ||| 2 ^ 51).testBit 51) = true
    rw [Nat.testBit_or, Nat.testBit_two_pow_self]
    simp
  have h2 : double.quiet t % 2 ^ 52 = 0 := h
  rw [h2] at h1
  simp at h1
theorem isNan_quiet (s : Bool) (t : Nat) : isNan (double.write (.nan s (double.quiet t))) = true := by
  have h := quiet_pos t
  have hl : double.quiet t % 4503599627370496 < 4503599627370496 := Nat.mod_lt _ (by decide)
  unfold isNan
  rw [read_isNaN]
  show decide (9218868437227405312 < double.word s (double.infRung + double.quiet t % double.binade) % 9223372036854775808) = true
  rw [infR, binadeV]
  generalize double.quiet t % 4503599627370496 = r at h hl
  unfold Format.word
  rw [signW]
  cases s
  · simp only [Bool.false_eq_true, if_false, decide_eq_true_eq]; omega
  · simp only [if_true, decide_eq_true_eq]; omega
theorem isNaN_integral {d : Datum} (w : Toward) (h : d.isNaN = false) : (d.integral w).isNaN = false := by
  cases d with
  | number s m p => rfl
  | infinity s => rfl
  | nan s f => simp [Datum.isNaN] at h
theorem run_floor (P : Program) (w : World) (name : String) (b : Nat) : ∃ r w', (Extern.MathFloor.toIntegral name .down #[.float .f64 b]).run P w = .ok (.float .f64 r) w' ∧ (w' = w ∨ w' = w.drew) ∧ cn r = flr (cn b) := by
  have e : Extern.MathFloor.toIntegral name .down #[.float .f64 b] = (match double.read b with
    | .nan s t => if double.quiet t = t then (pure (.float .f64 b) : Sem Value) else do
      let kept ← choose (.extern "math.Floor,Ceil,Trunc,RoundToEven.signallingNaN kept" 2)
      pure (.float .f64 (if kept == 1 then b else double.write (.nan s (double.quiet t))))
    | d => pure (.float .f64 (double.write (d.integral .down)))) := rfl
  rw [e]
  cases hd : double.read b with
  | nan s t =>
    have hn : isNan b = true := by unfold isNan; rw [hd]; rfl
    have hf : flr (cn b) = nanB := by unfold flr; rw [isNan_cn, hn]; rfl
    rw [hf]
    by_cases hq : double.quiet t = t
    · refine ⟨b, w, ?_, Or.inl rfl, cn_of_nan hn⟩
      simp only [hq, if_true]
      rfl
    · simp only [hq, if_false]
      have key : ∀ c : Nat, cn (if c == 1 then b else double.write (.nan s (double.quiet t))) = nanB := fun c => by
        cases c == 1
        · exact cn_of_nan (isNan_quiet s t)
        · exact cn_of_nan hn
      refine ⟨_, w.drew, ?_, Or.inr rfl, key (Question.cut (.extern "math.Floor,Ceil,Trunc,RoundToEven.signallingNaN kept" 2) (w.tape w.drawn (.extern "math.Floor,Ceil,Trunc,RoundToEven.signallingNaN kept" 2)))⟩
      simp [Question.forced]
  | number s m p =>
    have hn : isNan b = false := by unfold isNan; rw [hd]; rfl
    have h2 : isNan (double.write ((Datum.number s m p).integral .down)) = false := isNan_write rfl
    refine ⟨_, w, rfl, Or.inl rfl, ?_⟩
    unfold flr
    rw [cn_of_not h2, cn_of_not hn, hn, hd]
    rfl
  | infinity s =>
    have hn : isNan b = false := by unfold isNan; rw [hd]; rfl
    have h2 : isNan (double.write ((Datum.infinity s).integral .down)) = false := isNan_write rfl
    refine ⟨_, w, rfl, Or.inl rfl, ?_⟩
    unfold flr
    rw [cn_of_not h2, cn_of_not hn, hn, hd]
    rfl
end Go.Ev
namespace Go.Proofs.YtancjnambbkhmaaGreat
open Go.Gv
open Go.Ev (flr)

theorem floorX {f : Nat} {fn : Func} {nm : String} (hf : Tryz.prog.funcs[f]? = some fn) (hname : (fn.name == "runtime.NumGoroutine") = false) (hb : fn.body.isNone = true) (hn : Extern.findNext fn = none)
    (he : Extern.find fn = some (Extern.MathFloor.toIntegral nm .down)) (a : Nat) : XSpec Tryz.prog f [.f a] (.f (flr a)) := fun E cargs hv => by
  obtain ⟨l⟩ := cargs
  obtain ⟨v, t, e1, h1, h2⟩ := rels_cons.1 hv
  have e2 := rels_nil.1 h2
  obtain ⟨b, rfl, rfl⟩ := rel_f.1 h1
  have e3 : l = [.float .f64 b] := by rw [e2] at e1; exact e1
  subst e3
  obtain ⟨r, w', g1, g2, g3⟩ := Go.Ev.run_floor Tryz.prog E.w nm b
  refine ⟨.float .f64 r, w', ?_, g2, rel_f.2 ⟨r, rfl, g3⟩⟩
  rw [run_callFunc_extern hf hname hb hn he, g1]
  rfl
def gFl (h : Nat → Nat) : List AV → Option AV
  | [.f a] => some (.f (h a))
  | _ => none
theorem gFl0_ok : EOk Tryz.prog ⟨155, gFl flr⟩ := fun args r hr => by
  simp only [gFl] at hr
  split at hr
  · cases hr; exact Or.inr (floorX (nm := "math.archFloor") Tryz.func155 (by kernel_rfl) rfl (by kernel_rfl) (by kernel_rfl) _)
  · cases hr
theorem fl_ev (h : Nat → Nat) (a : Nat) : ev Tryz.prog [⟨155, gFl h⟩] [] noL Tryz.f137 [.f a] ret = some (Out.of (.f (h a))) := by kernel_rfl
theorem gFl_ok : EOk Tryz.prog ⟨137, gFl flr⟩ := fun args r hr => by
  simp only [gFl] at hr
  split at hr
  · cases hr; exact Or.inl (gspec (e_cons gFl0_ok e_nil) k_nil Tryz.func137 (by kernel_rfl) (by kernel_rfl) noL_ok rfl (fl_ev flr _))
  · cases hr
end Go.Proofs.YtancjnambbkhmaaGreat

namespace Go.Ev
open Ieee

def VB (a j x : Nat) : Prop := isFin x = true ∧ (val x).natAbs ≤ a * 2 ^ j
theorem VB.more {a j a' x : Nat} (h : VB a j x) (ha : a ≤ a') : VB a' j x := ⟨h.1, Nat.le_trans h.2 (Nat.mul_le_mul_right _ ha)⟩
theorem VB.up {a j k x : Nat} (h : VB a j x) (hk : a ≤ 2 ^ k) : VB 1 (j + k) x := ⟨h.1, Nat.le_trans h.2 (by rw [Nat.one_mul, Nat.pow_add, Nat.mul_comm]; exact Nat.mul_le_mul_left _ hk)⟩
theorem vb_of {z g a j : Nat} {v : Int} (hz : key z = KR v g) (hg : 0 < g) (hv : v.natAbs ≤ a * 2 ^ j * g) (ha : a ≠ 0) (ha' : a < 2 ^ 53) (hj : 52 ≤ j) (hj' : j ≤ 2000) : VB a j z := by
  have h1 : rung z ≤ rq 52 (a * 2 ^ j) 1 := by
    rw [← key_abs, hz]
    exact Nat.le_trans (KR_abs v g) (rq_mono 52 hg (by decide) (by rw [Nat.mul_one]; exact hv))
  constructor
  · have h2 : rq 52 (a * 2 ^ j) 1 ≤ pw (53 + j) := by
      refine Nat.le_trans (rq_mono1 52 (Nat.mul_le_mul_right _ (Nat.le_of_lt ha'))) ?_
      rw [← Nat.pow_add, ← rv_pw (by omega), rq_rv]
      exact Nat.le_refl _
    have h3 : Bd (53 + j) z := Nat.le_trans h1 h2
    exact h3.fin (by omega)
  · rw [val_abs]
    have h4 := rv_le h1
    rw [wh_rv hj ha ha'] at h4
    exact h4
theorem vb_zero (a j : Nat) : VB a j 0 := ⟨by decide +kernel, by
  have : val 0 = 0 := val_zero.2 (by decide)
  rw [this]; exact Nat.zero_le _⟩
section
variable {c x y a b i j : Nat} (hc : c = 1074)
theorem vb_add (hx : VB a j x) (hy : VB b j y) (h0 : a + b ≠ 0) (h : a + b < 2 ^ 53) (hj : 52 ≤ j) (hj' : j ≤ 2000) : VB (a + b) j (fadd x y) := by
  refine vb_of (key_add hx.1 hy.1).1 (by decide) ?_ h0 h hj hj'
  have h1 := hx.2
  have h2 := hy.2
  rw [Nat.mul_one, Nat.add_mul]
  generalize a * 2 ^ j = A at *
  generalize b * 2 ^ j = B at *
  omega
theorem vb_sub (hx : VB a j x) (hy : VB b j y) (h0 : a + b ≠ 0) (h : a + b < 2 ^ 53) (hj : 52 ≤ j) (hj' : j ≤ 2000) : VB (a + b) j (fsub x y) := by
  refine vb_of (key_sub hx.1 hy.1).1 (by decide) ?_ h0 h hj hj'
  have h1 := hx.2
  have h2 := hy.2
  rw [Nat.mul_one, Nat.add_mul]
  generalize a * 2 ^ j = A at *
  generalize b * 2 ^ j = B at *
  omega
include hc
theorem vb_mul {k : Nat} (hx : VB a i x) (hy : VB 1 j y) (hk : k + c = i + j) (h0 : a ≠ 0) (h : a < 2 ^ 53) (hj : 52 ≤ k) (hj' : k ≤ 2000) : VB a k (fmul x y) := by
  refine vb_of (key_mul hc hx.1 hy.1).1 (Nat.two_pow_pos _) ?_ h0 h hj hj'
  rw [Int.natAbs_mul, Nat.mul_assoc, ← Nat.pow_add, hk, Nat.pow_add, ← Nat.mul_assoc]
  have := hy.2
  rw [Nat.one_mul] at this
  exact Nat.mul_le_mul hx.2 this
end
theorem cut_le (way : Toward) (s : Bool) (n d : Nat) : way.cut s n d ≤ n + 1 := by
  unfold Toward.cut
  exact Nat.add_le_add (Nat.div_le_self n _) (toNat_le_one _)
/-- A number of no more than 2^54, made whole. -/
theorem whole_le {c j x : Nat} (way : Toward) (hc : c = 1074) (hx : VB 1 (c + j) x) (hj : 53 ≤ j) : ∃ s M, (double.read x).integral way = .number s M 0 ∧ M ≤ 2 ^ j + 1 := by
  obtain ⟨m, i, h1, h2, h3, h4⟩ := read_fin hx.1
  have hv := hx.2
  rw [val_abs, h4, Nat.one_mul] at hv
  rw [h1]
  refine ⟨_, _, rfl, Nat.le_trans (cut_le _ _ _ _) (Nat.add_le_add_right ?_ 1)⟩
  rw [Nat.shiftLeft_eq]
  by_cases hi : 0 ≤ i
  · obtain ⟨u, rfl⟩ : ∃ u : Nat, i = u := ⟨i.toNat, by omega⟩
    rw [show ((u : Int) + 1074).toNat = u + c by omega, Nat.pow_add, ← Nat.mul_assoc, Nat.add_comm c j, Nat.pow_add] at hv
    have := Nat.le_of_mul_le_mul_right hv (Nat.two_pow_pos c)
    rw [Int.toNat_natCast]
    exact this
  · rw [show i.toNat = 0 by omega, Nat.pow_zero, Nat.mul_one]
    have : 2 ^ 53 ≤ 2 ^ j := Nat.pow_le_pow_right (by decide) hj
    have e : 2 ^ 53 = 9007199254740992 := by decide
    omega
theorem vb_flr {c j x : Nat} (hc : c = 1074) (hx : VB 1 (c + j) x) (hj : 53 ≤ j) (hj' : j ≤ 60) : VB 1 (c + (j + 1)) (flr x) := by
  obtain ⟨s, M, h1, h2⟩ := whole_le .down hc hx hj
  unfold flr
  rw [fin_not_nan hx.1, cond_false, h1]
  show VB 1 (c + (j + 1)) (double.nearest s M 0)
  have hb : Bd (c + (j + 1)) (double.nearest s M 0) := by
    refine nearest_bd (u := c) (by omega) ?_ (by omega)
    rw [Nat.add_comm c, Nat.pow_add]
    refine Nat.mul_le_mul_right _ ?_
    rw [Nat.pow_succ]
    have := Nat.two_pow_pos j
    omega
  refine ⟨hb.fin (by omega), ?_⟩
  rw [Nat.one_mul]
  exact hb.val (by omega)
theorem fit_vb {c j x : Nat} (hc : c = 1074) (hx : VB 1 (c + j) x) (hj : 53 ≤ j) (hj' : j ≤ 60) : Go.Gv.fitI .i64 x = true := by
  obtain ⟨s, M, h1, h2⟩ := whole_le .zero hc hx hj
  have hM : M ≤ 2 ^ 60 + 1 := Nat.le_trans h2 (Nat.add_le_add_right (Nat.pow_le_pow_right (by decide) hj') 1)
  have e60 : 2 ^ 60 = 1152921504606846976 := by decide
  unfold Go.Gv.fitI floatToIntVal
  have ht : (FloatKind.f64.decode x).toInt .zero = some (signed s M 0) := by
    show (double.read x).toInt .zero = _
    unfold Datum.toInt
    rw [h1]
  rw [ht]
  have hs : signed s M 0 = cond s (-(M : Int)) (M : Int) := by
    rw [signed_val, Nat.pow_zero, Nat.mul_one]
  have h3 : IntKind.i64.min ≤ signed s M 0 ∧ signed s M 0 ≤ IntKind.i64.max := by
    rw [hs, show IntKind.i64.min = -9223372036854775808 by decide, show IntKind.i64.max = 9223372036854775807 by decide]
    cases s
    · rw [cond_false]; omega
    · rw [cond_true]; omega
  simp only [h3, and_self, if_true]
  rfl
end Go.Ev

namespace Go.Ev
open Ieee
/-- The next whole number above. -/
def cel (a : Nat) : Nat := cond (isNan a) nanB (double.write ((double.read a).integral .up))
theorem run_ceil (P : Program) (w : World) (name : String) (b : Nat) : ∃ r w', (Extern.MathFloor.toIntegral name .up #[.float .f64 b]).run P w = .ok (.float .f64 r) w' ∧ (w' = w ∨ w' = w.drew) ∧ cn r = cel (cn b) := by
  have e : Extern.MathFloor.toIntegral name .up #[.float .f64 b] = (match double.read b with
    | .nan s t => if double.quiet t = t then (pure (.float .f64 b) : Sem Value) else do
      let kept ← choose (.extern "math.Floor,Ceil,Trunc,RoundToEven.signallingNaN kept" 2)
      pure (.float .f64 (if kept == 1 then b else double.write (.nan s (double.quiet t))))
    | d => pure (.float .f64 (double.write (d.integral .up)))) := rfl
  rw [e]
  cases hd : double.read b with
  | nan s t =>
    have hn : isNan b = true := by unfold isNan; rw [hd]; rfl
    have hf : cel (cn b) = nanB := by unfold cel; rw [isNan_cn, hn]; rfl
    rw [hf]
    by_cases hq : double.quiet t = t
    · refine ⟨b, w, ?_, Or.inl rfl, cn_of_nan hn⟩
      simp only [hq, if_true]
      rfl
    · simp only [hq, if_false]
      have key : ∀ c : Nat, cn (if c == 1 then b else double.write (.nan s (double.quiet t))) = nanB := fun c => by
        cases c == 1
        · exact cn_of_nan (isNan_quiet s t)
        · exact cn_of_nan hn
      refine ⟨_, w.drew, ?_, Or.inr rfl, key (Question.cut (.extern "math.Floor,Ceil,Trunc,RoundToEven.signallingNaN kept" 2) (w.tape w.drawn (.extern "math.Floor,Ceil,Trunc,RoundToEven.signallingNaN kept" 2)))⟩
      simp [Question.forced]
  | number s m p =>
    have hn : isNan b = false := by unfold isNan; rw [hd]; rfl
    have h2 : isNan (double.write ((Datum.number s m p).integral .up)) = false := isNan_write rfl
    refine ⟨_, w, rfl, Or.inl rfl, ?_⟩
    unfold cel
    rw [cn_of_not h2, cn_of_not hn, hn, hd]
    rfl
  | infinity s =>
    have hn : isNan b = false := by unfold isNan; rw [hd]; rfl
    have h2 : isNan (double.write ((Datum.infinity s).integral .up)) = false := isNan_write rfl
    refine ⟨_, w, rfl, Or.inl rfl, ?_⟩
    unfold cel
    rw [cn_of_not h2, cn_of_not hn, hn, hd]
    rfl
theorem vb_cel {c j x : Nat} (hc : c = 1074) (hx : VB 1 (c + j) x) (hj : 53 ≤ j) (hj' : j ≤ 60) : VB 1 (c + (j + 1)) (cel x) := by
  obtain ⟨s, M, h1, h2⟩ := whole_le .up hc hx hj
  unfold cel
  rw [fin_not_nan hx.1, cond_false, h1]
  show VB 1 (c + (j + 1)) (double.nearest s M 0)
  have hb : Bd (c + (j + 1)) (double.nearest s M 0) := by
    refine nearest_bd (u := c) (by omega) ?_ (by omega)
    rw [Nat.add_comm c, Nat.pow_add]
    refine Nat.mul_le_mul_right _ ?_
    rw [Nat.pow_succ]
    have := Nat.two_pow_pos j
    omega
  refine ⟨hb.fin (by omega), ?_⟩
  rw [Nat.one_mul]
  exact hb.val (by omega)
theorem vb_exp {j k x : Nat} (h : VB 1 j x) (hk : j ≤ k) : VB 1 k x := ⟨h.1, Nat.le_trans h.2 (Nat.mul_le_mul_left _ (Nat.pow_le_pow_right (by decide) hk))⟩
theorem vb_near {c x : Nat} (hc : c = 1074) (h1 : fge x 13920209183539462144 = true) (h2 : fle x 4696837146684686336 = true) : VB 1 (c + 20) x := by
  obtain ⟨f, k1, k2⟩ := near_fin h1 h2
  refine ⟨f, ?_⟩
  have e1 : key 13920209183539462144 = -4696837146684686336 := by decide +kernel
  have e2 : key 4696837146684686336 = 4696837146684686336 := by decide +kernel
  have a1 := val_le.2 (show key 13920209183539462144 ≤ key x by omega)
  have a2 := val_le.2 (show key x ≤ key 4696837146684686336 by omega)
  have t1 : (val 4696837146684686336).natAbs ≤ 1 * 2 ^ (c + 20) := by subst hc; decide +kernel
  have t2 : (val 13920209183539462144).natAbs ≤ 1 * 2 ^ (c + 20) := by subst hc; decide +kernel
  generalize 1 * 2 ^ (c + 20) = B at *
  omega
theorem vb_const {c j x : Nat} (hc : c = 1074) (h : (isFin x && Nat.ble (val x).natAbs (1 * 2 ^ (1074 + j))) = true) : VB 1 (c + j) x := by
  subst hc
  simp only [Bool.and_eq_true] at h
  exact ⟨h.1, Nat.le_of_ble_eq_true h.2⟩
end Go.Ev
namespace Go.Proofs.YtancjnambbkhmaaGreat
open Go.Gv
open Go.Ev (cel)
theorem ceilX {f : Nat} {fn : Func} {nm : String} (hf : Tryz.prog.funcs[f]? = some fn) (hname : (fn.name == "runtime.NumGoroutine") = false) (hb : fn.body.isNone = true) (hn : Extern.findNext fn = none)
    (he : Extern.find fn = some (Extern.MathFloor.toIntegral nm .up)) (a : Nat) : XSpec Tryz.prog f [.f a] (.f (cel a)) := fun E cargs hv => by
  obtain ⟨l⟩ := cargs
  obtain ⟨v, t, e1, h1, h2⟩ := rels_cons.1 hv
  have e2 := rels_nil.1 h2
  obtain ⟨b, rfl, rfl⟩ := rel_f.1 h1
  have e3 : l = [.float .f64 b] := by rw [e2] at e1; exact e1
  subst e3
  obtain ⟨r, w', g1, g2, g3⟩ := Go.Ev.run_ceil Tryz.prog E.w nm b
  refine ⟨.float .f64 r, w', ?_, g2, rel_f.2 ⟨r, rfl, g3⟩⟩
  rw [run_callFunc_extern hf hname hb hn he, g1]
  rfl
theorem gCe0_ok : EOk Tryz.prog ⟨138, gFl cel⟩ := fun args r hr => by
  simp only [gFl] at hr
  split at hr
  · cases hr; exact Or.inr (ceilX (nm := "math.archCeil") Tryz.func138 (by kernel_rfl) rfl (by kernel_rfl) (by kernel_rfl) _)
  · cases hr
theorem ce_ev (h : Nat → Nat) (a : Nat) : ev Tryz.prog [⟨138, gFl h⟩] [] noL Tryz.f116 [.f a] ret = some (Out.of (.f (h a))) := by kernel_rfl
theorem gCe_ok : EOk Tryz.prog ⟨116, gFl cel⟩ := fun args r hr => by
  simp only [gFl] at hr
  split at hr
  · cases hr; exact Or.inl (gspec (e_cons gCe0_ok e_nil) k_nil Tryz.func116 (by kernel_rfl) (by kernel_rfl) noL_ok rfl (ce_ev cel _))
  · cases hr
end Go.Proofs.YtancjnambbkhmaaGreat
namespace Go.Proofs.YtancjnambbkhmaaGreat.Hs
open Go.Gv
open Go.Ev (cn fadd fsub fmul fdiv fsqrt fneg feq flt fle fgt fge fabs isNan flr cel VB)

abbrev w3 (a b c : Int) : AV := .agg [iA a, iA b, iA c]
def k1024 : Nat := 4652218415073722368
def half : Nat := 4602678819172646912
def k65536 : Nat := 4679240012837945344
def whF (x : Nat) : Nat := flr (fadd (fmul x k1024) half)
/-- In parts of 1024, to the nearest. -/
def whI (x : Nat) : Int := f2i .i64 (whF x)
def whO (x : Nat) : Bool := fitI .i64 (whF x)
def leF (x : Nat) : Nat := cel (fmul x k65536)
theorem wh_fit {c x : Nat} (hc : c = 1074) (h : VB 1 (c + 21) x) : whO x = true := by
  have h1 := Go.Ev.vb_mul hc h (Go.Ev.vb_const (j := 10) (x := k1024) hc (by decide +kernel)) (k := c + 31) (by omega) (by decide) (by decide) (by omega) (by omega)
  have h2 := Go.Ev.vb_exp h1 (show c + 31 ≤ c + 53 by omega)
  have h3 := Go.Ev.vb_add h2 (Go.Ev.vb_const (j := 53) (x := half) hc (by decide +kernel)) (by decide) (by decide) (by omega) (by omega)
  have h4 : VB 1 (c + 54) (fadd (fmul x k1024) half) := Go.Ev.VB.up (k := 1) h3 (by decide)
  have h5 := Go.Ev.vb_flr (j := 54) hc h4 (by omega) (by omega)
  have h6 := Go.Ev.fit_vb (j := 55) hc h5 (by omega) (by omega)
  unfold whO whF
  exact h6
theorem le_fit {c x : Nat} (hc : c = 1074) (h : VB 1 (c + 20) x) : fitI .i64 (leF x) = true := by
  have h1 := Go.Ev.vb_mul hc h (Go.Ev.vb_const (j := 16) (x := k65536) hc (by decide +kernel)) (k := c + 36) (by omega) (by decide) (by decide) (by omega) (by omega)
  have h2 := Go.Ev.vb_exp h1 (show c + 36 ≤ c + 53 by omega)
  have h5 := Go.Ev.vb_cel (j := 53) hc h2 (by omega) (by omega)
  have h6 := Go.Ev.fit_vb (j := 54) hc h5 (by omega) (by omega)
  unfold leF
  exact h6
theorem near_parts {x : Nat} (h : nearS x = true) : fge x 13920209183539462144 = true ∧ fle x 4696837146684686336 = true := by
  unfold nearS at h
  cases h1 : fge x 13920209183539462144
  · rw [h1] at h; cases h
  · rw [h1] at h; exact ⟨rfl, h⟩
theorem wh_near {x : Nat} (h : nearS x = true) : whO x = true := by
  obtain ⟨c, hc⟩ : ∃ c, c = 1074 := ⟨_, rfl⟩
  exact wh_fit hc (Go.Ev.vb_exp (Go.Ev.vb_near hc (near_parts h).1 (near_parts h).2) (by omega))
theorem wh_sub {x y : Nat} (h : nearS x = true) (g : nearS y = true) : whO (fsub x y) = true := by
  obtain ⟨c, hc⟩ : ∃ c, c = 1074 := ⟨_, rfl⟩
  have a := Go.Ev.vb_near hc (near_parts h).1 (near_parts h).2
  have b := Go.Ev.vb_near hc (near_parts g).1 (near_parts g).2
  have d := Go.Ev.vb_sub a b (by decide) (by decide) (by omega) (by omega)
  have d2 : VB 1 (c + 21) (fsub x y) := Go.Ev.VB.up (k := 1) d (by decide)
  exact wh_fit hc d2
theorem wh_zero : whO 0 = true := by
  obtain ⟨c, hc⟩ : ∃ c, c = 1074 := ⟨_, rfl⟩
  exact wh_fit hc (Go.Ev.vb_zero _ _)
theorem le_near {x : Nat} (h : nearS x = true) : fitI .i64 (leF x) = true := by
  obtain ⟨c, hc⟩ : ∃ c, c = 1074 := ⟨_, rfl⟩
  exact le_fit hc (Go.Ev.vb_near hc (near_parts h).1 (near_parts h).2)
/-! ### The code's -/
def Y0 : List Entry := ⟨137, gFl flr⟩ :: ⟨116, gFl cel⟩ :: X2
theorem Y0_ok : ∀ e, e ∈ Y0 → EOk Tryz.prog e := e_cons gFl_ok <| e_cons gCe_ok X2_ok
theorem whole_ev (x : Nat) : ev Tryz.prog Y0 [] noL Tryz.f243 [.f x] ret = cond (whO x || false) (some (Out.of (iA (whI x)))) none := by kernel_rfl
theorem swhole {x : Nat} (h : whO x = true) : FSpec Tryz.prog 243 [.f x] (iA (whI x)) := by
  refine sp Y0_ok Tryz.func243 (by kernel_rfl) (by kernel_rfl) rfl ((whole_ev x).trans ?_)
  rw [h]; rfl
def whG : List AV → AV
  | [.f x] => iA (whI x)
  | _ => .any
noncomputable def whK : KEntry := kS Tryz.prog 243 whG
noncomputable def gWh (x : Nat) (o : Option Out) : Option Out := gate (FSpec Tryz.prog 243 [.f x] (iA (whI x))) o
theorem wholes_ev (a b c : Nat) : ev Tryz.prog Y0 [whK] noL Tryz.f241 [V a b c] ret = gWh a (gWh b (gWh c (some (Out.of (w3 (whI a) (whI b) (whI c)))))) := by kernel_rfl
theorem swholes {a b c : Nat} (ha : whO a = true) (hb : whO b = true) (hc : whO c = true) : FSpec Tryz.prog 241 [V a b c] (w3 (whI a) (whI b) (whI c)) := by
  refine gspec Y0_ok (k_cons kS_ok k_nil) Tryz.func241 (by kernel_rfl) (by kernel_rfl) noL_ok rfl ((wholes_ev a b c).trans ?_)
  unfold gWh
  rw [gate_pos (swhole ha), gate_pos (swhole hb), gate_pos (swhole hc)]
/-! ### The answer's -/
def Y1 : List Entry := ⟨137, gFl flr⟩ :: ⟨116, gFl cel⟩ :: R5
theorem Y1_ok : ∀ e, e ∈ Y1 → EOk Tryz.prog e := e_cons gFl_ok <| e_cons gCe_ok R5_ok
theorem parts_ev (a b c : Nat) : ev Tryz.prog Y1 [] noL Tryz.f115 [V a b c] ret = cond (whO a || false) (cond (whO b || false) (cond (whO c || false) (some (Out.of (w3 (whI a) (whI b) (whI c)))) none) none) none := by kernel_rfl
theorem rparts {a b c : Nat} (ha : whO a = true) (hb : whO b = true) (hc : whO c = true) : FSpec Tryz.prog 115 [V a b c] (w3 (whI a) (whI b) (whI c)) := by
  refine sp Y1_ok Tryz.func115 (by kernel_rfl) (by kernel_rfl) rfl ((parts_ev a b c).trans ?_)
  rw [ha, hb, hc]; rfl
end Go.Proofs.YtancjnambbkhmaaGreat.Hs

namespace Go.Ev
open Ieee
theorem mth_whole {c : Nat} (hc : c = 1074) (n : Int) : key (cn (FloatKind.f64.nearest n)) = KR (n * ((2 ^ c : Nat) : Int)) 1 ∧ isNan (cn (FloatKind.f64.nearest n)) = false := by
  have hd : FloatKind.f64.nearest n = Ieee.double.nearest (decide (n < 0)) n.natAbs 0 := rfl
  have hn : isNan (FloatKind.f64.nearest n) = false := by rw [hd]; exact isNan_nearest _ _ _
  rw [cn_of_not hn]
  refine ⟨?_, hn⟩
  rw [hd]
  refine key_nearest (u := c) (w := 0) (by decide) (by omega) ?_ ?_
  · rw [Int.natAbs_mul, Int.natAbs_natCast, Nat.pow_zero]
  · intro h
    have hp : (0 : Int) < ((2 ^ c : Nat) : Int) := by have := Nat.two_pow_pos c; omega
    by_cases h0 : n < 0
    · rw [decide_eq_true h0, decide_eq_true (Int.mul_neg_of_neg_of_pos h0 hp)]
    · rw [decide_eq_false h0, decide_eq_false (Int.not_lt.2 (Int.mul_nonneg (by omega) (by omega)))]
theorem near_vb {c j : Nat} (hc : c = 1074) (hj : j ≤ 70) {n : Int} (h : n.natAbs ≤ 2 ^ j) : VB 1 (c + j) (cn (FloatKind.f64.nearest n)) := by
  refine vb_of (mth_whole hc n).1 (by decide) ?_ (by decide) (by decide) (by omega) (by omega)
  rw [Int.natAbs_mul, Int.natAbs_natCast, Nat.mul_one, Nat.one_mul, Nat.pow_add, Nat.mul_comm]
  exact Nat.mul_le_mul_left _ h
theorem fneg_vb {j x : Nat} (h : VB 1 j x) : VB 1 j (fneg x) := by
  obtain ⟨e1, e2⟩ := key_fneg (fin_not_nan h.1)
  have er : rung (fneg x) = rung x := by rw [← key_abs, ← key_abs, e1, Int.natAbs_neg]
  refine ⟨?_, ?_⟩
  · have := h.1
    unfold isFin at this ⊢
    rw [er]; exact this
  · have := h.2
    rw [val_abs] at this ⊢
    rw [er]; exact this
theorem f2i_vb {c j x : Nat} (hc : c = 1074) (hx : VB 1 (c + j) x) (hj : 53 ≤ j) (hj' : j ≤ 60) : (Go.Gv.f2i .i64 x).natAbs ≤ 2 ^ j + 1 := by
  obtain ⟨s, M, h1, h2⟩ := whole_le .zero hc hx hj
  have hM : M ≤ 2 ^ 60 + 1 := Nat.le_trans h2 (Nat.add_le_add_right (Nat.pow_le_pow_right (by decide) hj') 1)
  have e60 : 2 ^ 60 = 1152921504606846976 := by decide
  unfold Go.Gv.f2i floatToIntVal
  have ht : (FloatKind.f64.decode x).toInt .zero = some (signed s M 0) := by
    show (double.read x).toInt .zero = _
    unfold Datum.toInt
    rw [h1]
  rw [ht]
  have hs : signed s M 0 = cond s (-(M : Int)) (M : Int) := by
    rw [signed_val, Nat.pow_zero, Nat.mul_one]
  have h3 : IntKind.i64.min ≤ signed s M 0 ∧ signed s M 0 ≤ IntKind.i64.max := by
    rw [hs, show IntKind.i64.min = -9223372036854775808 by decide, show IntKind.i64.max = 9223372036854775807 by decide]
    cases s
    · rw [cond_false]; omega
    · rw [cond_true]; omega
  simp only [h3, and_self, if_true, Option.getD_some]
  rw [hs]
  generalize 2 ^ j = B at *
  cases s
  · rw [cond_false]; omega
  · rw [cond_true]; omega
end Go.Ev
namespace Go.Proofs.YtancjnambbkhmaaGreat.Hs.So
open Go.Gv
open Go.Ev (cn fadd fsub fmul fdiv fsqrt fneg feq flt fle fgt fge fabs VB key isNan isFin val)

theorem mth_vb {c j : Nat} (hc : c = 1074) (hj : j ≤ 60) {n : Int} (h : n.natAbs ≤ 2 ^ (j + 9)) : VB 1 (c + j) (mth n) := by
  have h1 := Go.Ev.near_vb hc (j := j + 9) (by omega) h
  have ev : val k1000 = ((1000 * 2 ^ c : Nat) : Int) := by subst hc; decide +kernel
  have hp := Nat.two_pow_pos c
  have hk := (Go.Ev.key_div hc h1.1 (show isFin k1000 = true by decide +kernel) (by rw [ev]; omega)).1
  unfold mth
  refine Go.Ev.vb_of hk ?_ ?_ (by decide) (by decide) (by omega) (by omega)
  · rw [ev, Int.natAbs_natCast]; omega
  · rw [ev, Int.natAbs_mul, Int.natAbs_mul, Int.natAbs_natCast, Int.natAbs_natCast]
    have es : (Go.Ev.sg ((1000 * 2 ^ c : Nat) : Int)).natAbs = 1 := by
      unfold Go.Ev.sg
      rw [decide_eq_false (by omega)]; rfl
    rw [es, Nat.mul_one, Nat.one_mul, ← Nat.mul_assoc]
    refine Nat.mul_le_mul_right _ (Nat.le_trans h1.2 ?_)
    rw [Nat.one_mul, ← Nat.add_assoc, Nat.pow_add _ _ 9]
    exact Nat.mul_le_mul_left _ (by decide)
theorem rdP_vb {c j x : Nat} (hc : c = 1074) (hj : j ≤ 46) (h : VB 1 (c + j) x) : VB 1 (c + (j + 11)) (rdP x) := by
  have h1 := Go.Ev.vb_mul hc h (Go.Ev.vb_const (j := 10) (x := k1000) hc (by decide +kernel)) (k := c + (j + 10)) (by omega) (by decide) (by decide) (by omega) (by omega)
  have h2 := Go.Ev.vb_exp (Go.Ev.vb_const (j := 0) (x := 4602678819172646912) hc (by decide +kernel)) (show c + 0 ≤ c + (j + 10) by omega)
  have h3 := Go.Ev.vb_add h1 h2 (by decide) (by decide) (by omega) (by omega)
  exact Go.Ev.VB.up (k := 1) h3 (by decide)
theorem rd_fit {c j x : Nat} (hc : c = 1074) (hj : j ≤ 46) (h : VB 1 (c + j) x) : rdB x = true := by
  have go : ∀ {x}, VB 1 (c + j) x → fitI .i64 (rdP x) = true := fun {x} h => Go.Ev.fit_vb (j := 57) hc (Go.Ev.vb_exp (rdP_vb hc hj h) (by omega)) (by omega) (by omega)
  unfold rdB
  cases flt x 0
  · exact go h
  · exact go (Go.Ev.fneg_vb h)
theorem rdI_le {c j x : Nat} (hc : c = 1074) (hj : j ≤ 42) (h : VB 1 (c + j) x) : (rdI x).natAbs ≤ 2 ^ 54 := by
  have e53 : 2 ^ 53 = 9007199254740992 := by decide
  have e54 : 2 ^ 54 = 18014398509481984 := by decide
  have go : ∀ {x}, VB 1 (c + j) x → (f2i .i64 (rdP x)).natAbs ≤ 2 ^ 53 + 1 := fun {x} h => Go.Ev.f2i_vb (j := 53) hc (Go.Ev.vb_exp (rdP_vb hc (by omega) h) (by omega)) (by omega) (by omega)
  unfold rdI
  cases flt x 0
  · have := go h
    rw [cond_false]; omega
  · have := go (Go.Ev.fneg_vb h)
    rw [cond_true, w64_id (by omega) (by omega)]; omega
theorem rd_vb {c j x : Nat} (hc : c = 1074) (hj : j ≤ 42) (h : VB 1 (c + j) x) : VB 1 (c + 45) (mth (rdI x)) := mth_vb hc (by decide) (rdI_le hc hj h)
theorem q25_vb {c j x : Nat} (hc : c = 1074) (hj : j ≤ 60) (h : VB 1 (c + j) x) : VB 1 (c + j) (fmul x 4598175219545276416) :=
  Go.Ev.vb_mul hc h (Go.Ev.vb_const (j := 0) (x := 4598175219545276416) hc (by decide +kernel)) (k := c + j) (by omega) (by decide) (by decide) (by omega) (by omega)
theorem add_vb {c j x y : Nat} (hc : c = 1074) (hj : j ≤ 60) (h : VB 1 (c + j) x) (g : VB 1 (c + j) y) : VB 1 (c + (j + 1)) (fadd x y) := by
  have h3 := Go.Ev.vb_add h g (by decide) (by decide) (by omega) (by omega)
  exact Go.Ev.VB.up (k := 1) h3 (by decide)
end Go.Proofs.YtancjnambbkhmaaGreat.Hs.So

namespace Go.Proofs.YtancjnambbkhmaaGreat
open Go.Gv

theorem w_nil {P : Program} : ∀ e, e ∈ ([] : List WEntry) → WEOk P e := fun _ h => by cases h
theorem r_nil {P : Program} : ∀ e, e ∈ ([] : List REntry) → REOk P e := fun _ h => by cases h
theorem w_cons {P : Program} {e : WEntry} {l : List WEntry} (h : WEOk P e) (hl : ∀ e, e ∈ l → WEOk P e) : ∀ e', e' ∈ e :: l → WEOk P e' := fun e' he => by
  rcases List.mem_cons.1 he with rfl | he
  · exact h
  · exact hl e' he
theorem r_cons {P : Program} {e : REntry} {l : List REntry} (h : REOk P e) (hl : ∀ e, e ∈ l → REOk P e) : ∀ e', e' ∈ e :: l → REOk P e' := fun e' he => by
  rcases List.mem_cons.1 he with rfl | he
  · exact h
  · exact hl e' he
section
variable {l : List Entry} {ks : List KEntry} {ms : List MEntry} {ws : List WEntry} {rs : List REntry} {L : Nat → Option LFun} (hl : ∀ e, e ∈ l → EOk Tryz.prog e) (hks : ∀ e, e ∈ ks → KOk Tryz.prog e) (hms : ∀ e, e ∈ ms → MEOk Tryz.prog e) (hws : ∀ e, e ∈ ws → WEOk Tryz.prog e) (hrs : ∀ e, e ∈ rs → REOk Tryz.prog e)
include hl hks hms hws hrs
theorem gspecW {f : Nat} {fn : Func} (hf : Tryz.prog.funcs[f]? = some fn) (hnm : (fn.name == "runtime.NumGoroutine") = false) (hb : fn.body = some (bodyOf fn)) (hL : LOk Tryz.prog L (bodyOf fn))
    {args : List AV} (hlen : Nat.ble args.length fn.ntmps = true) {r : AV} (h : evW Tryz.prog l ks ms ws rs L fn args ret = some (Out.of r)) : FSpec Tryz.prog f args r :=
  spec_of_body (tabW_ok hl hks hms hws hrs) (drawnK_ok (tabW_ok hl hks hms hws hrs) (by kernel_rfl)) 40 hf hnm hb hL hlen h
theorem gspecGW {f : Nat} {fn : Func} (hf : Tryz.prog.funcs[f]? = some fn) (hnm : (fn.name == "runtime.NumGoroutine") = false) (hb : fn.body = some (bodyOf fn))
    {args : List AV} {mem : List Row} (hL : LOkN mem.length Tryz.prog L (bodyOf fn)) (hlen : Nat.ble args.length fn.ntmps = true) {τ : List (Option Nat)} (hpin : pinT mem.length τ = true) {v : AV} {mem1 : List Row} (h : evGW Tryz.prog l ks ms ws rs L fn args mem τ = gout v mem1) : GSpec Tryz.prog f args mem v mem1 :=
  gspec_of_body (tabW_ok hl hks hms hws hrs) (drawnK_ok (tabW_ok hl hks hms hws hrs) (by kernel_rfl)) 40 hf hnm hb hL hlen hpin h
theorem leads_evW {c : Code} {s s' : St} {e : Exit} {k : Kont} (hk : KSub k) (hL : LOk Tryz.prog L c) (h : evCW Tryz.prog l ks ms ws rs L c s k = some ⟨e, s', .any⟩) : Leads Tryz.prog c s e s' :=
  leads_ofK hk (tabW_ok hl hks hms hws hrs) (drawnK_ok (tabW_ok hl hks hms hws hrs) (by kernel_rfl)) hL h
end
end Go.Proofs.YtancjnambbkhmaaGreat

namespace Go.Gv
open Go.RowKit Go.Ev

/-- Rows that say no more, element by element. -/
def RowLike (row row' : Row) : Prop := row' = row ∨ (∃ e sz n el el', row = .a e sz n el ∧ row' = .a e sz n el' ∧ ∀ i, i < n → (el' i).length = (el i).length ∧ ∀ (E : Env) (cs : List Value), pre E (el i) cs → pre E (el' i) cs) ∨ ∃ l l', row = .c l ∧ row' = .c l' ∧ ∀ (E : Env) (cs : List Value), pre E l cs → pre E l' cs
def RowsLike : List Row → List Row → Prop
  | [], [] => True
  | r :: rs, r' :: rs' => RowLike r r' ∧ RowsLike rs rs'
  | _, _ => False
theorem RowsLike.get : ∀ {rs rs' : List Row}, RowsLike rs rs' → ∀ k : Nat, (rs[k]? = none ∧ rs'[k]? = none) ∨ ∃ r r', rs[k]? = some r ∧ rs'[k]? = some r' ∧ RowLike r r'
  | [], [], _, k => Or.inl ⟨by simp, by simp⟩
  | r :: rs, r' :: rs', h, k => by
    cases k with
    | zero => exact Or.inr ⟨r, r', rfl, rfl, h.1⟩
    | succ k => simpa using RowsLike.get h.2 k
  | [], _ :: _, h, _ => h.elim
  | _ :: _, [], h, _ => h.elim
theorem sub_like {np : Nat} {sl : List (AV × Chain)} {mem mem' : List Row} (h : RowsLike mem mem') : SubN np ⟨sl, mem⟩ ⟨sl, mem'⟩ := by
  intro A0 R w0 E a hp0 hI
  have lives : ∀ k, liveAt mem' k = liveAt mem k := fun k => by
    unfold liveAt
    rcases h.get k with ⟨h1, h2⟩ | ⟨r, r', h1, h2, h3⟩
    · rw [h1, h2]
    · rw [h1, h2]
      rcases h3 with rfl | ⟨e, sz, n, el, el', rfl, rfl, _⟩ | ⟨l, l', rfl, rfl, _⟩ <;> rfl
  refine ⟨E, rfl, hI.defers, hI.frame, ⟨fun k b c hb => ?_, hI.wd.small, hI.wd.old, fun k b c hb hl => hI.wd.own k b c hb (by rw [← lives]; exact hl), fun k k' b c c' hb hb' hl hl' => hI.wd.one k k' b c c' hb hb' (by rw [← lives]; exact hl) (by rw [← lives]; exact hl'), hI.wd.below, hI.wd.le0⟩⟩
  obtain ⟨row, h1, h2⟩ := hI.wd.rows k b c hb
  rcases h.get k with ⟨g1, _⟩ | ⟨r, r', g1, g2, g3⟩
  · have : mem[k]? = some row := h1
    rw [g1] at this; cases this
  · have : mem[k]? = some row := h1
    rw [g1] at this
    cases this
    refine ⟨r', g2, ?_⟩
    rcases g3 with rfl | ⟨e, sz, n, el, el', rfl, rfl, g4⟩ | ⟨l, l', rfl, rfl, g4⟩
    · exact h2
    · obtain ⟨cs, k1, k2, k3, k4, k5, k6⟩ := h2
      exact ⟨cs, k1, k2, k3, k4, k5, fun i hi => ⟨(g4 i hi).1.trans (k6 i hi).1, (g4 i hi).2 _ _ (k6 i hi).2⟩⟩
    · obtain ⟨cs, e, k1, k2⟩ := h2
      exact ⟨cs, e, k1, g4 _ _ k2⟩
end Go.Gv

namespace Go.Proofs.YtancjnambbkhmaaGreat.Hs.So
open Go.Gv
open Go.Ev (cn fadd fsub fmul fdiv fsqrt fneg feq flt fle fgt fge fabs VB)

theorem gspecZ {l : List Entry} {ks : List KEntry} {ms : List MEntry} {L : Nat → Option LFun} {Z : Nat → Option ZFun} (hZ : ∀ i h, Z i = some h → ZSoundN 0 h) (hl : ∀ e, e ∈ l → EOk Tryz.prog e) (hks : ∀ e, e ∈ ks → KOk Tryz.prog e) (hms : ∀ e, e ∈ ms → MEOk Tryz.prog e) {f : Nat} {fn : Func} (hf : Tryz.prog.funcs[f]? = some fn) (hnm : (fn.name == "runtime.NumGoroutine") = false) (hb : fn.body = some (bodyOf fn)) (hL : LOk Tryz.prog L (bodyOf fn))
    {args : List AV} (hlen : Nat.ble args.length fn.ntmps = true) {r : AV} (h : evZ Tryz.prog l ks ms L Z fn args ret = some (Out.of r)) : FSpec Tryz.prog f args r := spec_of_bodyZ hZ (tabM_ok hl hks hms) (drawnK_ok (tabM_ok hl hks hms) (by kernel_rfl)) 40 hf hnm hb hL hlen h
theorem like_eq {l l' : List AV} (h : l = l') : l'.length = l.length ∧ ∀ (E : Env) (cs : List Value), pre E l cs → pre E l' cs := by subst h; exact ⟨rfl, fun _ _ h => h⟩
def Rng (n : Nat) (hs : Nat → Int) : Prop := ∀ i, i < n → -9223372036854775808 ≤ hs i ∧ hs i ≤ 9223372036854775807
theorem xshape {n : Nat} {hs : Nat → Int} (h : Rng n hs) {f : Nat} (hf : f ≤ 200) : ∃ (B C : Nat → Nat) (R Q : Nat), FSpec Tryz.prog 21 [sI n hs, iA (f : Nat), iA 1] (SH (xK mpk (mrw n hs) (f : Nat)) (ls [mve n hs (w64 ((f : Nat) + 1)) 4000 0, mve n hs (w64 ((f : Nat) + 1)) 4000 1, mve n hs (w64 ((f : Nat) + 1)) 4000 2, B 0, B 1, B 2, C 0, C 1, C 2, R, Q]) (mpk (mrw n hs (w64 ((f : Nat) + 7))) 1)) ∧ (xK mpk (mrw n hs) (f : Nat) = 2 → R = 0) := by
  have h : ∀ i, i < n → -9223372036854775808 ≤ hs i ∧ hs i ≤ 9223372036854775807 := h
  have P : ∀ j : Int, 0 ≤ j → j ≤ 20 → 0 ≤ w64 ((f : Int) + j) ∧ w64 ((f : Int) + j) ≤ 1000 := fun j h1 h2 => by rw [w64_id (by omega) (by omega)]; omega
  have p0 : (0 : Int) ≤ (f : Nat) := Int.natCast_nonneg f
  have p1 := P 1 (by decide) (by decide)
  have p4 := P 4 (by decide) (by decide)
  have p5 := P 5 (by decide) (by decide)
  have p6 := P 6 (by decide) (by decide)
  have p7 := P 7 (by decide) (by decide)
  have p8 := P 8 (by decide) (by decide)
  have p9 := P 9 (by decide) (by decide)
  have ax := mpk_range (m := 3) (mrw_range h p6.1).1 (mrw_range h p6.1).2 (by decide)
  have dd := mpk_range (m := 3) (mrw_range h p4.1).1 (mrw_range h p4.1).2 (by decide)
  have hD : xD mpk (mrw n hs) (f : Nat) ≠ 0 := by
    unfold xD
    generalize mpk (mrw n hs (w64 ((f : Nat) + 4))) 3 = z at dd ⊢
    rw [w64_id (by omega) (by omega)]; omega
  obtain ⟨x, y, w, hp⟩ : ∃ x y w, FSpec Tryz.prog 66 [V 0 0 0, iA (mpk (mrw n hs (w64 ((f : Nat) + 6))) 3), .f (mth (w64 (1 + mpk (mrw n hs (w64 ((f : Nat) + 5))) 3000)))] (V x y w) := by
    generalize mth (w64 (1 + mpk (mrw n hs (w64 ((f : Nat) + 5))) 3000)) = t
    have : mpk (mrw n hs (w64 ((f : Nat) + 6))) 3 = 0 ∨ mpk (mrw n hs (w64 ((f : Nat) + 6))) 3 = 1 ∨ mpk (mrw n hs (w64 ((f : Nat) + 6))) 3 = 2 := by omega
    rcases this with e | e | e <;> rw [e]
    · exact ⟨_, _, _, rput0 0 0 0 t⟩
    · exact ⟨_, _, _, rput1 0 0 0 t⟩
    · exact ⟨_, _, _, rput2 0 0 0 t⟩
  have go : ∃ B C R Q, xX n hs mpk mth (mrw n hs) (mve n hs) x y w (f : Nat) = xO mpk (mrw n hs) (mve n hs) (f : Nat) B C R Q ∧ (xK mpk (mrw n hs) (f : Nat) = 2 → R = 0) := by
    have g56 : ∃ B C R Q, x56 n hs mpk mth (mrw n hs) (mve n hs) x y w (f : Nat) = xO mpk (mrw n hs) (mve n hs) (f : Nat) B C R Q := by
      unfold x56 xPu
      rw [gR_pos p6.1, gR_pos p5.1, gate_pos hp, gR_pos p8.1, gR_pos p4.1, beq_false_of_ne hD]
      cases xK mpk (mrw n hs) (f : Nat) == 6
      · exact ⟨_, _, _, _, rfl⟩
      · exact ⟨_, _, _, _, rfl⟩
    unfold xX
    rw [gR_pos p0, gV_pos p1.1 p1.2 (Or.inl rfl), gR_pos p7.1, gV_pos p4.1 p4.2 (Or.inr (Or.inl rfl)), gR_pos p8.1, gR_pos p5.1, gR_pos p6.1, gV_pos p9.1 p9.2 (Or.inl rfl)]
    cases h1 : xK mpk (mrw n hs) (f : Nat) == 1
    · cases h2 : xK mpk (mrw n hs) (f : Nat) == 2
      · have no : ∀ R : Nat, xK mpk (mrw n hs) (f : Nat) = 2 → R = 0 := fun R e => by rw [e] at h2; cases h2
        cases xK mpk (mrw n hs) (f : Nat) == 3
        · cases xK mpk (mrw n hs) (f : Nat) == 5
          · cases xK mpk (mrw n hs) (f : Nat) == 6
            · show ∃ B C R Q, x4 mpk mth (mrw n hs) (mve n hs) (f : Nat) = _ ∧ _
              unfold x4
              cases noughtB (mve n hs (w64 ((f : Nat) + 4)) 3000 0) (mve n hs (w64 ((f : Nat) + 4)) 3000 1) (mve n hs (w64 ((f : Nat) + 4)) 3000 2)
              · exact ⟨_, _, _, _, rfl, no _⟩
              · exact ⟨_, _, _, _, rfl, no _⟩
            · obtain ⟨B, C, R, Q, e⟩ := g56
              exact ⟨B, C, R, Q, e, no _⟩
          · obtain ⟨B, C, R, Q, e⟩ := g56
            exact ⟨B, C, R, Q, e, no _⟩
        · exact ⟨_, _, _, _, rfl, no _⟩
      · exact ⟨_, _, _, _, rfl, fun _ => rfl⟩
    · exact ⟨_, _, _, _, rfl, fun e => by rw [e] at h1; cases h1⟩
  obtain ⟨B, C, R, Q, e, hR⟩ := go
  exact ⟨B, C, R, Q, gspec M1_ok (k_cons kS_ok (k_cons kS_ok (k_cons kS_ok k_nil))) Tryz.func21 (by kernel_rfl) (by kernel_rfl) noL_ok rfl ((xs_ev n hs mpk mth (mrw n hs) (mve n hs) x y w (f : Nat)).trans e), hR⟩
theorem mve_vb {c : Nat} (hc : c = 1074) {n : Nat} {hs : Nat → Int} (h : Rng n hs) {fr : Int} (h0 : 0 ≤ fr) (h1 : fr ≤ 1000) (i : Nat) (hi : i ≤ 10) : VB 1 (c + 4) (mve n hs fr 4000 i) := by
  have h : ∀ i, i < n → -9223372036854775808 ≤ hs i ∧ hs i ≤ 9223372036854775807 := h
  have p : 0 ≤ w64 (fr + (i : Nat)) := by rw [w64_id (by omega) (by omega)]; omega
  unfold mve mmi
  rw [show w64 (w64 (2 * 4000) + 1) = 8001 by decide]
  have z := mpk_range (m := 8001) (mrw_range h p).1 (mrw_range h p).2 (by decide)
  generalize mpk (mrw n hs (w64 (fr + (i : Nat)))) 8001 = q at z ⊢
  rw [w64_id (by omega) (by omega)]
  refine mth_vb hc (by decide) ?_
  show _ ≤ 8192
  omega
def rdF (x : Nat) : Nat := mth (rdI x)
theorem lf_tail {c : Nat} (hc : c = 1074) {k : Int} {a : Nat → Nat} {sk : Int} (v0 : VB 1 (c + 4) (a 0)) (v1 : VB 1 (c + 4) (a 1)) (v2 : VB 1 (c + 4) (a 2)) (h9 : k = 2 → a 9 = 0) : ∃ a', (gRd rdF (fmul (a 0) q25) (gRd rdF (fmul (a 1) q25) (gRd rdF (fmul (a 2) q25)
  (cond (k == 2) (gRd rdF (lB a rdF 0) (gRd rdF (lB a rdF 1) (gRd rdF (lB a rdF 2) (lO k a sk rdF (ls [rdF (lB a rdF 0), rdF (lB a rdF 1), rdF (lB a rdF 2)]))))) (lO k a sk rdF (ls [a 3, a 4, a 5])))))) = some (Out.of (SH k a' sk)) := by
  have b0 : VB 1 (c + 4) (fmul (a 0) q25) := q25_vb hc (by decide) v0
  have b1 : VB 1 (c + 4) (fmul (a 1) q25) := q25_vb hc (by decide) v1
  have b2 : VB 1 (c + 4) (fmul (a 2) q25) := q25_vb hc (by decide) v2
  have gr : ∀ {j x : Nat} {o : Option Out}, j ≤ 46 → VB 1 (c + j) x → gRd rdF x o = o := fun hj h => gate_pos (rd_spec (rd_fit hc hj h))
  have d0 : VB 1 (c + 45) (lA a rdF 0) := rd_vb hc (by decide) b0
  have d1 : VB 1 (c + 45) (lA a rdF 1) := rd_vb hc (by decide) b1
  have d2 : VB 1 (c + 45) (lA a rdF 2) := rd_vb hc (by decide) b2
  rw [gr (by decide) b0, gr (by decide) b1, gr (by decide) b2]
  cases h2 : k == 2
  · exact ⟨ls [lA a rdF 0, lA a rdF 1, lA a rdF 2, a 3, a 4, a 5, a 6, a 7, a 8, a 9, a 10], rfl⟩
  · have h9 := h9 (by simpa using h2)
    have o1 : VB 1 (c + 45) one := Go.Ev.vb_exp (Go.Ev.vb_const (j := 0) hc (by decide +kernel)) (by omega)
    have oh : VB 1 (c + 45) half' := Go.Ev.vb_exp (Go.Ev.vb_const (j := 0) hc (by decide +kernel)) (by omega)
    have o2 : VB 1 (c + 45) (fadd (a 9) one) := by
      rw [h9]
      have z0 : VB 1 (c + 0) 0 := Go.Ev.vb_zero 1 (c + 0)
      have z1 : VB 1 (c + 0) one := Go.Ev.vb_const (j := 0) hc (by decide +kernel)
      have z2 : VB 1 (c + (0 + 1)) (fadd 0 one) := add_vb hc (by decide) z0 z1
      exact Go.Ev.vb_exp z2 (by omega)
    have e0 : VB 1 (c + (45 + 1)) (fadd (lA a rdF 0) (fadd (a 9) one)) := add_vb (j := 45) hc (by decide) d0 o2
    have e1 : VB 1 (c + (45 + 1)) (fadd (lA a rdF 1) one) := add_vb (j := 45) hc (by decide) d1 o1
    have e2 : VB 1 (c + (45 + 1)) (fadd (lA a rdF 2) half') := add_vb (j := 45) hc (by decide) d2 oh
    have l0 : lB a rdF 0 = fadd (lA a rdF 0) (fadd (a 9) one) := by unfold lB; rfl
    have l1 : lB a rdF 1 = fadd (lA a rdF 1) one := by unfold lB; rfl
    have l2 : lB a rdF 2 = fadd (lA a rdF 2) half' := by unfold lB; rfl
    rw [l0, l1, l2, cond_true, gr (j := 45 + 1) (by decide) e0, gr (j := 45 + 1) (by decide) e1, gr (j := 45 + 1) (by decide) e2]
    generalize rdF (fadd (lA a rdF 0) (fadd (a 9) one)) = y0
    generalize rdF (fadd (lA a rdF 1) one) = y1
    generalize rdF (fadd (lA a rdF 2) half') = y2
    exact ⟨ls [lA a rdF 0, lA a rdF 1, lA a rdF 2, y0, y1, y2, a 6, a 7, a 8, a 9, a 10], rfl⟩
theorem lf_body {m : Nat} {X : Nat → Int} (hX : Rng m X) {f : Nat} (hf : f ≤ 100) (hm : f + 9 ≤ m) {e v : Int} (he : mpk (X f) 3 = e) (hv : 0 ≤ v ∧ v ≤ 4) : ∃ k a sk a', lfX (f : Nat) m X k a sk rdF e v = some (Out.of (SH k a' sk)) := by
  obtain ⟨c, hc⟩ : ∃ c, c = 1074 := ⟨_, rfl⟩
  have hY : Rng m (lX (f : Nat) X v) := fun i hi => by
    unfold lX
    cases i == 0 + ((f : Nat) : Int).toNat
    · exact hX i hi
    · show -9223372036854775808 ≤ v ∧ v ≤ 9223372036854775807; omega
  obtain ⟨B, C, R, Q, hS, hR⟩ := xshape hY (f := f) (by omega)
  have p1 : 0 ≤ w64 (((f : Nat) : Int) + 1) ∧ w64 (((f : Nat) : Int) + 1) ≤ 1000 := by rw [w64_id (by omega) (by omega)]; omega
  have v0 := mve_vb hc hY p1.1 p1.2 0 (by decide)
  have v1 := mve_vb hc hY p1.1 p1.2 1 (by decide)
  have v2 := mve_vb hc hY p1.1 p1.2 2 (by decide)
  generalize mve m (lX (f : Nat) X v) (w64 ((f : Nat) + 1)) 4000 0 = x0 at hS v0
  generalize mve m (lX (f : Nat) X v) (w64 ((f : Nat) + 1)) 4000 1 = x1 at hS v1
  generalize mve m (lX (f : Nat) X v) (w64 ((f : Nat) + 1)) 4000 2 = x2 at hS v2
  generalize xK mpk (mrw m (lX (f : Nat) X v)) (f : Nat) = k at hS hR
  generalize mpk (mrw m (lX (f : Nat) X v) (w64 ((f : Nat) + 7))) 1 = sk at hS
  have hp : FSpec Tryz.prog 36 [iA (X (0 + ((f : Nat) : Int).toNat)), iA 3] (iA e) := by
    subst he
    rw [Int.toNat_natCast, Nat.zero_add]
    exact mpick rfl
  have f3 : fz3 m = true := by unfold fz3; rw [show Nat.beq m m = true from Nat.beq_refl m]; rfl
  obtain ⟨a', ht⟩ := lf_tail hc (k := k) (a := ls [x0, x1, x2, B 0, B 1, B 2, C 0, C 1, C 2, R, Q]) (sk := sk) v0 v1 v2 hR
  refine ⟨k, ls [x0, x1, x2, B 0, B 1, B 2, C 0, C 1, C 2, R, Q], sk, a', ?_⟩
  unfold lfX
  rw [ow_t (show f < m by omega), gate_pos hp, ow_t (show f < m by omega), f3, cond_true, gate_pos hS]
  exact ht
/-! ### The row that is lengthened -/
def lfV (n : Nat) (hs : Nat → Int) (q : Nat) : Int := cond (Nat.blt q n) (hs q) (mrw n hs (q : Nat))
theorem lfV_rng {n : Nat} {hs : Nat → Int} (h : Rng n hs) (m : Nat) : Rng m (lfV n hs) := fun i _ => by
  unfold lfV
  cases hb : Nat.blt i n
  · exact mrw_range h (Int.natCast_nonneg i)
  · exact h i (Nat.le_of_ble_eq_true hb)
theorem ll_more {raw : AV} {fr : Int} {m : Nat} {X : Nat → Int} {v : Int} (h : X m = v) : Sub (llR raw fr (m + 1) fun q => mixL (Nat.blt q m) [iA (X q)] [iA v]) (llS raw fr (m + 1) X) := by
  refine sub_like ⟨Or.inl rfl, Or.inr (Or.inl ⟨3, 1, m + 1, _, _, rfl, rfl, fun q hq => like_eq ?_⟩), trivial⟩
  cases hb : Nat.blt q m
  · have := not_blt hb
    have eq : q = m := by omega
    subst eq; subst h; rfl
  · rfl
theorem aqB_t {m : Nat} (h : m ≤ 1000) : aqB m m = true := by
  unfold aqB
  rw [Nat.ble_eq_true_of_le (Nat.le_refl m), Nat.ble_eq_true_of_le (show (m + 1) * 8 ≤ 140737488355328 by omega)]; rfl
theorem ll_round {raw : AV} {n : Nat} {hs : Nat → Int} {f m : Nat} {X : Nat → Int} (hR : FSpec Tryz.prog 63 [raw, iA (m : Nat)] (iA (mrw n hs (m : Nat)))) (hX : X m = mrw n hs (m : Nat)) (hm : m < f + 9) (hf : f ≤ 100)
    (ev : evC Tryz.prog [] [rwK (mrw n hs)] noL (loopAt Tryz.f80 0) (llS raw (f : Nat) m X) (finN keepLl [some 0, some 3]) = llC (mrw n hs) (f : Nat) m X raw (fun el => some ⟨.normal, llR raw (f : Nat) (m + 1) el, .any⟩) none) : Leads Tryz.prog (loopAt Tryz.f80 0) (llS raw (f : Nat) m X) .normal (llS raw (f : Nat) (m + 1) X) := by
  refine (leads_ev (finN_sub keepLl [some 0, some 3]) e_nil (k_cons kS_ok k_nil) noL_ok (ev.trans ?_)).sub (Sub.refl _) (ll_more hX)
  unfold llC
  rw [decide_eq_true (show ((m : Nat) : Int) < w64 (((f : Nat) : Int) + 9) by rw [w64_id (by omega) (by omega)]; omega), gate_pos hR, aqB_t (by omega)]; rfl
theorem ll_last {raw : AV} {n : Nat} {hs : Nat → Int} {f m : Nat} {X : Nat → Int} (hm : f + 9 ≤ m) (hf : f ≤ 100)
    (ev : evC Tryz.prog [] [rwK (mrw n hs)] noL (loopAt Tryz.f80 0) (llS raw (f : Nat) m X) (finE keepLl [some 0, some 1]) = llC (mrw n hs) (f : Nat) m X raw (fun _ => none) (some ⟨.exit 0, llS raw (f : Nat) m X, .any⟩)) : Leads Tryz.prog (loopAt Tryz.f80 0) (llS raw (f : Nat) m X) (.exit 0) (llS raw (f : Nat) m X) := by
  refine leads_ev (finE_sub keepLl [some 0, some 1]) e_nil (k_cons kS_ok k_nil) noL_ok (ev.trans ?_)
  unfold llC
  rw [decide_eq_false (show ¬ ((m : Nat) : Int) < w64 (((f : Nat) : Int) + 9) by rw [w64_id (by omega) (by omega)]; omega)]; rfl
theorem lfV_ge {n : Nat} {hs : Nat → Int} {q : Nat} (h : n ≤ q) : lfV n hs q = mrw n hs (q : Nat) := by
  unfold lfV
  cases hb : Nat.blt q n
  · rfl
  · have : q < n := Nat.le_of_ble_eq_true hb
    omega
theorem ll_leads (n : Nat) (hs : Nat → Int) {f : Nat} (hf : f ≤ 100) : Leads Tryz.prog (.loop (loopAt Tryz.f80 0)) (llS (sI n hs) (f : Nat) n (lfV n hs)) (.exit 0) (llS (sI n hs) (f : Nat) (n + (f + 9 - n)) (lfV n hs)) := by
  refine loop_rule (fun k => llS (sI n hs) (f : Nat) (n + k) (lfV n hs)) (f + 9 - n) (.exit 0) _ (by simp) (fun k hk => ?_) ?_
  · exact ll_round (mraw (Int.natCast_nonneg _)) (lfV_ge (by omega)) (by omega) hf (ll_step n hs (mrw n hs) (f : Nat) (n + k) (lfV n hs))
  · exact ll_last (by omega) hf (ll_end n hs (mrw n hs) (f : Nat) (n + (f + 9 - n)) (lfV n hs))
theorem raw_empty (p : Option Addr) (c : Nat) (hs : Nat → Int) (k : Nat) : FSpec Tryz.prog 63 [xE p c, iA (k : Nat)] (iA (mrw 0 hs (k : Nat))) :=
  sp e_nil Tryz.func63 (by kernel_rfl) (by kernel_rfl) rfl (by kernel_rfl)
theorem lz_leads (p : Option Addr) (c : Nat) (hs : Nat → Int) {f : Nat} (hf : f ≤ 100) : Leads Tryz.prog (.loop (loopAt Tryz.f80 0)) (llS (xE p c) (f : Nat) 0 (lfV 0 hs)) (.exit 0) (llS (xE p c) (f : Nat) (f + 9) (lfV 0 hs)) := by
  refine loop_rule (fun k => llS (xE p c) (f : Nat) k (lfV 0 hs)) (f + 9) (.exit 0) _ (by simp) (fun k hk => ?_) ?_
  · exact ll_round (raw_empty p c hs k) (lfV_ge (Nat.zero_le _)) hk hf (ll_step0 p c (mrw 0 hs) (f : Nat) k (lfV 0 hs))
  · exact ll_last (Nat.le_refl _) hf (ll_end0 p c (mrw 0 hs) (f : Nat) (f + 9) (lfV 0 hs))
theorem ll_first {n : Nat} {hs : Nat → Int} {fr : Int} : Sub (llR (sI n hs) fr (0 + n) fun q => mixL (Nat.blt q 0) [] [iA (hs (q - 0))]) (llS (sI n hs) fr n (lfV n hs)) := by
  rw [Nat.zero_add]
  refine sub_like ⟨Or.inl rfl, Or.inr (Or.inl ⟨3, 1, n, _, _, rfl, rfl, fun q hq => like_eq ?_⟩), trivial⟩
  unfold lfV
  rw [blt_t hq]
  rfl
theorem le_first {raw : AV} {fr : Int} {X : Nat → Int} : Sub (llR raw fr 0 fun _ => []) (llS raw fr 0 X) := sub_like ⟨Or.inl rfl, Or.inr (Or.inl ⟨3, 1, 0, _, _, rfl, rfl, fun q hq => absurd hq (Nat.not_lt_zero q)⟩), trivial⟩
theorem xleaf {n : Nat} {hs : Nat → Int} (h : Rng n hs) (hn : n ≤ 256) {f : Nat} (hf : f ≤ 100) : ∃ k a sk, FSpec Tryz.prog 80 [sI n hs, iA (f : Nat)] (SH k a sk) := by
  have hr := lfV_rng h (f + 1) f (by omega)
  have e3 := mpk_range (m := 3) hr.1 hr.2 (by decide)
  have e3 : mpk (lfV n hs f) 3 = 0 ∨ mpk (lfV n hs f) 3 = 1 ∨ mpk (lfV n hs f) 3 = 2 := by omega
  by_cases h0 : 0 < n
  · have hg : lfG n = true := by
      unfold lfG
      rw [blt_t h0, allB_true (fun _ _ => rfl), Nat.ble_eq_true_of_le (show (0 + n) * 8 ≤ 140737488355328 by omega)]; rfl
    have hL := lok_at (c := bodyOf Tryz.f80) (i := 2) 0 1 (by kernel_rfl) (by kernel_rfl) (toldF_sound (keep := keepLl) (τ := [some 0, some 2]) (ll_leads n hs hf))
    have hm : f + 9 ≤ n + (f + 9 - n) := by omega
    rcases e3 with he | he | he
    · obtain ⟨k, a, sk, a', hb⟩ := lf_body (lfV_rng h _) hf hm he (v := 0) (by decide)
      refine ⟨k, a', sk, gspecZ (oneZ_ok (frzK_ok 1)) R4_ok (k_cons kS_ok (k_cons kS_ok (k_cons kS_ok k_nil))) m_nil Tryz.func80 (by kernel_rfl) (by kernel_rfl) hL rfl ((lf_ev0 n hs (f : Nat) _ _ k a sk rdF).trans ?_)⟩
      rw [hg, cond_true, gate_pos ll_first, hb]
    · obtain ⟨k, a, sk, a', hb⟩ := lf_body (lfV_rng h _) hf hm he (v := 1) (by decide)
      refine ⟨k, a', sk, gspecZ (oneZ_ok (frzK_ok 1)) R4_ok (k_cons kS_ok (k_cons kS_ok (k_cons kS_ok k_nil))) m_nil Tryz.func80 (by kernel_rfl) (by kernel_rfl) hL rfl ((lf_ev1 n hs (f : Nat) _ _ k a sk rdF).trans ?_)⟩
      rw [hg, cond_true, gate_pos ll_first, hb]
    · obtain ⟨k, a, sk, a', hb⟩ := lf_body (lfV_rng h _) hf hm he (v := 4) (by decide)
      refine ⟨k, a', sk, gspecZ (oneZ_ok (frzK_ok 1)) R4_ok (k_cons kS_ok (k_cons kS_ok (k_cons kS_ok k_nil))) m_nil Tryz.func80 (by kernel_rfl) (by kernel_rfl) hL rfl ((lf_ev2 n hs (f : Nat) _ _ k a sk rdF).trans ?_)⟩
      rw [hg, cond_true, gate_pos ll_first, hb]
  · have e0 : n = 0 := by omega
    subst e0
    have hL : ∀ p c, LOk Tryz.prog (oneL 2 (toldF keepLl [some 0, some 1] (llS (xE p c) (f : Nat) 0 (lfV 0 hs)) (.exit 0) (llS (xE p c) (f : Nat) (f + 9) (lfV 0 hs)))) (bodyOf Tryz.f80) := fun p c => lok_at (c := bodyOf Tryz.f80) (i := 2) 0 1 (by kernel_rfl) (by kernel_rfl) (toldF_sound (keep := keepLl) (τ := [some 0, some 1]) (lz_leads p c hs hf))
    have key : ∃ k a sk, ∀ p c, FSpec Tryz.prog 80 [xE p c, iA (f : Nat)] (SH k a sk) := by
      rcases e3 with he | he | he
      · obtain ⟨k, a, sk, a', hb⟩ := lf_body (lfV_rng h (f + 9)) hf (Nat.le_refl _) he (v := 0) (by decide)
        refine ⟨k, a', sk, fun p c => gspecZ (oneZ_ok (frzK_ok 1)) R4_ok (k_cons kS_ok (k_cons kS_ok (k_cons kS_ok k_nil))) m_nil Tryz.func80 (by kernel_rfl) (by kernel_rfl) (hL p c) rfl ((le_ev0 p c (f : Nat) _ _ k a sk rdF).trans ?_)⟩
        rw [gate_pos le_first, hb]
      · obtain ⟨k, a, sk, a', hb⟩ := lf_body (lfV_rng h (f + 9)) hf (Nat.le_refl _) he (v := 1) (by decide)
        refine ⟨k, a', sk, fun p c => gspecZ (oneZ_ok (frzK_ok 1)) R4_ok (k_cons kS_ok (k_cons kS_ok (k_cons kS_ok k_nil))) m_nil Tryz.func80 (by kernel_rfl) (by kernel_rfl) (hL p c) rfl ((le_ev1 p c (f : Nat) _ _ k a sk rdF).trans ?_)⟩
        rw [gate_pos le_first, hb]
      · obtain ⟨k, a, sk, a', hb⟩ := lf_body (lfV_rng h (f + 9)) hf (Nat.le_refl _) he (v := 4) (by decide)
        refine ⟨k, a', sk, fun p c => gspecZ (oneZ_ok (frzK_ok 1)) R4_ok (k_cons kS_ok (k_cons kS_ok (k_cons kS_ok k_nil))) m_nil Tryz.func80 (by kernel_rfl) (by kernel_rfl) (hL p c) rfl ((le_ev2 p c (f : Nat) _ _ k a sk rdF).trans ?_)⟩
        rw [gate_pos le_first, hb]
    obtain ⟨k, a, sk, hk⟩ := key
    refine ⟨k, a, sk, FSpec.of_arg (args' := [sI 0 hs, iA (f : Nat)]) (fun E us hr => ?_) (hk none 0).1 rfl⟩
    obtain ⟨u, us', e0, r1, hr⟩ := rels_cons.1 hr
    obtain ⟨p, c, q1⟩ := rel_empty r1
    exact ⟨[xE p c, iA (f : Nat)], rels_cons.2 ⟨u, us', e0, q1, hr⟩, hk p c⟩
end Go.Proofs.YtancjnambbkhmaaGreat.Hs.So

namespace Go.Proofs.YtancjnambbkhmaaGreat.Hs.So
open Go.Gv
open Go.Ev (cn fadd fsub fmul fdiv fsqrt fneg feq flt fle fgt fge fabs)

def Runs (c : Code) (s : St) (e : Exit) (sf : St) : Prop := ∃ (S : Nat → St) (n : Nat), S 0 = s ∧ (∀ j, j < n → Leads Tryz.prog c (S j) .normal (S (j + 1))) ∧ Leads Tryz.prog c (S n) e sf
theorem Runs.last {c : Code} {s sf : St} {e : Exit} (h : Leads Tryz.prog c s e sf) : Runs c s e sf := ⟨fun _ => s, 0, rfl, fun j hj => absurd hj (Nat.not_lt_zero j), h⟩
theorem Runs.cons {c : Code} {s s1 sf : St} {e : Exit} (h : Leads Tryz.prog c s .normal s1) (g : Runs c s1 e sf) : Runs c s e sf := by
  obtain ⟨S, n, h0, h1, h2⟩ := g
  refine ⟨fun j => match j with | 0 => s | j + 1 => S j, n + 1, rfl, fun j hj => ?_, h2⟩
  cases j with
  | zero => show Leads Tryz.prog c s .normal (S 0); rw [h0]; exact h
  | succ j => exact h1 j (by omega)
theorem Runs.loop {c : Code} {s sf : St} {e : Exit} (he : e ≠ .normal) (h : Runs c s e sf) : Leads Tryz.prog (.loop c) s e sf := by
  obtain ⟨S, n, rfl, h1, h2⟩ := h
  exact loop_rule S n e sf he h1 h2
theorem MP_ok : ∀ e, e ∈ MP mpk → EOk Tryz.prog e := e_cons ePk_ok e_nil
theorem mixP (b : Bool) (P Q : Prt) : mixL b P.c Q.c = (cond b P Q).c := by cases b <;> rfl
theorem mixI (b : Bool) (x y : Int) : mixL b [iA x] [iA y] = [iA (cond b x y)] := by cases b <;> rfl
section
variable {n : Nat} {hs : Nat → Int} {N : Nat} {sk : Int} {i m k : Nat} {PL : Nat → Prt} {OL : Nat → Int}
theorem k2_e (h : 2 ≤ k) (h' : k ≤ 100) : k2 k = ((k - 2 : Nat) : Int) := by unfold k2; rw [w64_id (by omega) (by omega)]; omega
theorem k1_e (h : 2 ≤ k) (h' : k ≤ 100) : k1 k = ((k - 1 : Nat) : Int) := by unfold k1; rw [w64_id (by omega) (by omega)]; omega
theorem sfLn_e (h : 2 ≤ k) (h' : k ≤ 100) : sfLn k = k - 2 := by
  unfold sfLn
  rw [k2_e h h']
  show (((k - 2 : Nat) : Int) - 0).toNat = k - 2
  omega
theorem sfC11_t (h : 2 ≤ k) (h' : k ≤ 100) (hm : m ≤ 100) : sfC11 m k = true := by
  unfold sfC11 bl'
  rw [k2_e h h', k1_e h h', ixB_t (show k - 2 < k by omega), ixB_t (show k - 1 < k by omega), Int.toNat_natCast, Int.toNat_natCast, Nat.zero_add, Nat.zero_add, blt_t (show k - 2 < k by omega), blt_t (show k - 1 < k by omega), apB_t (by omega)]
  rfl
theorem sfC12_t (h : 2 ≤ k) (h' : k ≤ 100) : sfC12 k = true := by
  unfold sfC12
  rw [sfLn_e h h', k2_e h h', Nat.ble_eq_true_of_le (show k - 2 ≤ k by omega), Nat.ble_eq_true_of_le (show (k - 2 + 1) * 8 ≤ 140737488355328 by omega)]
  have : sbB none (some ((k - 2 : Nat) : Int)) none k = true := by
    unfold sbB
    show (decide ((0 : Int) ≤ 0) && (decide ((0 : Int) ≤ ((k - 2 : Nat) : Int)) && (decide (((k - 2 : Nat) : Int) ≤ (k : Int)) && decide ((k : Int) ≤ (k : Int))))) = true
    rw [decide_eq_true (show (0 : Int) ≤ ((k - 2 : Nat) : Int) by omega), decide_eq_true (show ((k - 2 : Nat) : Int) ≤ (k : Int) by omega), decide_eq_true (show (k : Int) ≤ (k : Int) by omega)]
    rfl
  rw [this]; rfl
theorem p_at (hi : i ≤ 10) : 0 ≤ w64 (0 + (i : Int)) := by rw [w64_id (by omega) (by omega)]; omega
theorem p_at3 (hi : i ≤ 10) : 0 ≤ w64 (w64 (0 + 3) + (i : Int)) := by rw [show w64 (0 + 3) = 3 by decide, w64_id (by omega) (by omega)]; omega
theorem in_step (hk : 2 ≤ k) (hk' : k ≤ 10) (hm : m ≤ 100) (hi : i ≤ 10) (hT : sfT mpk (mrw n hs) (N : Nat) (i : Nat) k = true) : ∃ PL' OL', Leads Tryz.prog (loopAt Tryz.f35 1) (sfS n hs (N : Nat) sk (i : Nat) m PL k OL) .normal (sfS n hs (N : Nat) sk (i : Nat) (m + 1) PL' (k - 1) OL') := by
  have hl : Leads Tryz.prog (loopAt Tryz.f35 1) (sfS n hs (N : Nat) sk (i : Nat) m PL k OL) .normal (sfE n hs (N : Nat) sk (i : Nat) (m + 1) (fun q => mixL (Nat.blt q m) (PL q).c (sfP mpk (mrw n hs) (i : Nat) k OL).c) (sfLn k + 1) (fun q => mixL (Nat.blt q (sfLn k)) [iA (OL q)] [iA (w64 (((m + 1 : Nat) : Int) - 1))])) := by
    refine leads_ev (finN_sub keepSf [some 0, some 1, some 5, some 7]) MP_ok (k_cons kS_ok k_nil) noL_ok ((sf_in n hs mpk (mrw n hs) (N : Nat) sk (i : Nat) m PL k OL).trans ?_)
    unfold sfC
    rw [gR_pos (p_at hi), hT, cond_true, gR_pos (p_at3 hi), sfC11_t hk (by omega) hm, cond_true, sfC12_t hk (by omega)]
    rfl
  refine ⟨fun q => cond (Nat.blt q m) (PL q) (sfP mpk (mrw n hs) (i : Nat) k OL), fun q => cond (Nat.blt q (sfLn k)) (OL q) (w64 (((m + 1 : Nat) : Int) - 1)), hl.sub (Sub.refl _) ?_⟩
  rw [show sfLn k + 1 = k - 1 by rw [sfLn_e hk (by omega)]; omega]
  exact sub_like ⟨Or.inl rfl, Or.inl rfl, Or.inr (Or.inl ⟨71, 16, m + 1, _, _, rfl, rfl, fun q hq => like_eq (mixP _ _ _)⟩), Or.inr (Or.inl ⟨3, 1, k - 1, _, _, rfl, rfl, fun q hq => like_eq (mixI _ _ _)⟩), trivial⟩
theorem in_end (hi : i ≤ 10) (hT : sfT mpk (mrw n hs) (N : Nat) (i : Nat) k = false) : Leads Tryz.prog (loopAt Tryz.f35 1) (sfS n hs (N : Nat) sk (i : Nat) m PL k OL) (.exit 2) (sfS n hs (N : Nat) sk (i : Nat) m PL k OL) := by
  refine leads_ev (finE_sub keepSf [some 0, some 1, some 2, some 3]) MP_ok (k_cons kS_ok k_nil) noL_ok ((sf_inE n hs mpk (mrw n hs) (N : Nat) sk (i : Nat) m PL k OL).trans ?_)
  unfold sfC
  rw [gR_pos (p_at hi), hT]
  rfl
end
theorem in_runs {n : Nat} {hs : Nat → Int} {N : Nat} {sk : Int} {i : Nat} (hi : i ≤ 10) : ∀ (j : Nat) (m k : Nat) (PL : Nat → Prt) (OL : Nat → Int), k = j + 1 → k ≤ 10 → m + k ≤ 50 → ∃ m2 PL2 k2 OL2, Runs (loopAt Tryz.f35 1) (sfS n hs (N : Nat) sk (i : Nat) m PL k OL) (.exit 2) (sfS n hs (N : Nat) sk (i : Nat) m2 PL2 k2 OL2) ∧ 1 ≤ k2 ∧ m ≤ m2 ∧ m2 + k2 = m + k
  | 0, m, k, PL, OL, hk, _, _ => by
    subst hk
    exact ⟨m, PL, 0 + 1, OL, Runs.last (in_end hi rfl), by omega, by omega, rfl⟩
  | j + 1, m, k, PL, OL, hk, h1, h2 => by
    cases hT : sfT mpk (mrw n hs) (N : Nat) (i : Nat) k
    · exact ⟨m, PL, k, OL, Runs.last (in_end hi hT), by omega, by omega, rfl⟩
    · obtain ⟨PL', OL', hs1⟩ := in_step (n := n) (hs := hs) (N := N) (sk := sk) (PL := PL) (OL := OL) (show 2 ≤ k by omega) h1 (show m ≤ 100 by omega) hi hT
      obtain ⟨m2, PL2, k2, OL2, g1, g2, g3, g4⟩ := in_runs (n := n) (hs := hs) (N := N) (sk := sk) hi j (m + 1) (k - 1) PL' OL' (by omega) (by omega) (by omega)
      exact ⟨m2, PL2, k2, OL2, Runs.cons hs1 g1, g2, by omega, by omega⟩
/-! ### The outer loop -/
section
variable {n : Nat} {hs : Nat → Int} {N : Nat} {sk : Int} {K : Int → Int} {A : Int → Nat → Nat} {S : Int → Int} (hK : ∀ f : Nat, f ≤ 100 → FSpec Tryz.prog 80 [sI n hs, iA (f : Nat)] (SH (K (f : Nat)) (A (f : Nat)) (S (f : Nat))))
include hK
theorem leaf_at {i : Nat} (hi : i ≤ 10) {o : Option Out} : gLf n hs K A S (sfF (i : Nat)) o = o := by
  have e : sfF (i : Nat) = ((2 + 9 * i : Nat) : Int) := by
    unfold sfF
    rw [show w64 (0 + 2) = 2 by decide, w64_id (n := 9 * (i : Int)) (by omega) (by omega), w64_id (by omega) (by omega)]; omega
  unfold gLf
  rw [e]
  exact gate_pos (hK _ (by omega))
theorem out_first (hN : 0 < N) : ∃ PL OL, Leads Tryz.prog (loopAt Tryz.f35 0) (sfN n hs (N : Nat) sk) .normal (sfS n hs (N : Nat) sk ((1 : Nat) : Int) 1 PL 1 OL) := by
  have hl : Leads Tryz.prog (loopAt Tryz.f35 0) (sfN n hs (N : Nat) sk) .normal (sfE n hs (N : Nat) sk (w64 (0 + 1)) 1 (fun q => mixL (Nat.blt q 0) [] (lfP K A S (sfF 0)).c) 1 (fun q => mixL (Nat.blt q 0) [] [iA 0])) := by
    refine leads_ev (finN_sub keepSf [some 0, some 1, some 3, some 5]) MP_ok (k_cons kS_ok (k_cons kS_ok k_nil)) noL_ok ((sf_first n hs mpk (mrw n hs) (N : Nat) sk K A S).trans ?_)
    rw [decide_eq_true (show (0 : Int) < (N : Nat) by omega), cond_true]
    have h := leaf_at hK (i := 0) (by decide) (o := gR n hs (mrw n hs) (w64 (0 + 0)) (some ⟨.normal, sfE n hs (N : Nat) sk (w64 (0 + 1)) 1 (fun q => mixL (Nat.blt q 0) [] (lfP K A S (sfF 0)).c) 1 (fun q => mixL (Nat.blt q 0) [] [iA 0]), .any⟩))
    exact h.trans (gR_pos (by decide))
  refine ⟨fun _ => lfP K A S (sfF 0), fun _ => 0, hl.sub (Sub.refl _) ?_⟩
  rw [show w64 (0 + 1) = ((1 : Nat) : Int) by decide]
  refine sub_like ⟨Or.inl rfl, Or.inl rfl, Or.inr (Or.inl ⟨71, 16, 1, _, _, rfl, rfl, fun q hq => ?_⟩), Or.inr (Or.inl ⟨3, 1, 1, _, _, rfl, rfl, fun q hq => ?_⟩), trivial⟩
  · obtain rfl : q = 0 := Nat.lt_one_iff.1 hq
    exact like_eq rfl
  · obtain rfl : q = 0 := Nat.lt_one_iff.1 hq
    exact like_eq rfl
theorem out_step {i m k : Nat} {PL : Nat → Prt} {OL : Nat → Int} (hi : i < N) (hN : N ≤ 4) (hk : 1 ≤ k) (hm : 1 ≤ m) (hmk : m + k ≤ 20) (hk' : k ≤ 8) : ∃ m' PL' k' OL', Leads Tryz.prog (loopAt Tryz.f35 0) (sfS n hs (N : Nat) sk (i : Nat) m PL k OL) .normal (sfS n hs (N : Nat) sk ((i + 1 : Nat) : Int) m' PL' k' OL') ∧ 1 ≤ k' ∧ 1 ≤ m' ∧ m' + k' = m + k + 2 ∧ k' ≤ k + 1 := by
  obtain ⟨m2, PL2, k2, OL2, g1, g2, g3, g4⟩ := in_runs (n := n) (hs := hs) (N := N) (sk := sk) (i := i) (by omega) k (m + 1) (k + 1) (fun q => cond (Nat.blt q m) (PL q) (lfP K A S (sfF (i : Nat)))) (fun q => cond (Nat.blt q k) (OL q) (w64 (((m + 1 : Nat) : Int) - 1))) rfl (by omega) (by omega)
  refine ⟨m2, PL2, k2, OL2, ?_, g2, by omega, by omega, by omega⟩
  have hL : LOk Tryz.prog (sfL n hs (N : Nat) sk (i : Nat) m k m2 (fun q => cond (Nat.blt q m) (PL q) (lfP K A S (sfF (i : Nat)))) PL2 k2 (fun q => cond (Nat.blt q k) (OL q) (w64 (((m + 1 : Nat) : Int) - 1))) OL2) (loopAt Tryz.f35 0) := lok_at (c := loopAt Tryz.f35 0) (i := 9) 0 1 (by kernel_rfl) (by kernel_rfl) (toldF_sound (keep := keepSf) (τ := [some 0, some 1, some 5, some 7]) (Runs.loop (by simp) g1))
  refine leads_ev (finN_sub keepSf [some 0, some 1, some 2, some 3]) MP_ok (k_cons kS_ok (k_cons kS_ok k_nil)) hL ((sf_step n hs mpk (mrw n hs) (N : Nat) sk (i : Nat) m PL k OL K A S m2 _ PL2 k2 _ OL2).trans ?_)
  unfold sfO
  rw [decide_eq_true (show ((i : Nat) : Int) < (N : Nat) by omega), cond_true, leaf_at hK (by omega), apB_t (by omega), Nat.ble_eq_true_of_le (Nat.le_refl k), Nat.ble_eq_true_of_le (show (k + 1) * 8 ≤ 140737488355328 by omega), w64_next (n := i) (by omega)]
  refine gate_pos (sub_like ⟨Or.inl rfl, Or.inl rfl, Or.inr (Or.inl ⟨71, 16, m + 1, _, _, rfl, rfl, fun q hq => like_eq (mixP _ _ _)⟩), Or.inr (Or.inl ⟨3, 1, k + 1, _, _, rfl, rfl, fun q hq => like_eq (mixI _ _ _)⟩), trivial⟩)
omit hK in
theorem none_ok (c : Code) : LSound Tryz.prog c fun _ _ => none := ⟨fun s k r h => (by cases h), fun s s' e h => (by have := h fun _ _ => some ⟨.normal, s, .any⟩; cases this)⟩
omit hK in
theorem out_end {m k : Nat} {PL : Nat → Prt} {OL : Nat → Int} : Leads Tryz.prog (loopAt Tryz.f35 0) (sfS n hs (N : Nat) sk (N : Nat) m PL k OL) (.exit 0) (sfS n hs (N : Nat) sk (N : Nat) m PL k OL) := by
  have hL : LOk Tryz.prog (oneL 9 fun _ _ => none) (loopAt Tryz.f35 0) := lok_at (c := loopAt Tryz.f35 0) (i := 9) 0 1 (by kernel_rfl) (by kernel_rfl) (none_ok _)
  refine leads_ev (finE_sub keepSf [some 0, some 1, some 2, some 3]) MP_ok (k_cons kS_ok (k_cons kS_ok k_nil)) hL ((sf_end n hs mpk (mrw n hs) (N : Nat) sk (N : Nat) m PL k OL (fun _ => 0) (fun _ _ => 0) (fun _ => 0)).trans ?_)
  rw [dec_self]; rfl
theorem out_runs (hN : N ≤ 4) : ∀ (j i m k : Nat) (PL : Nat → Prt) (OL : Nat → Int), i + j = N → 1 ≤ k → 1 ≤ m → m + k ≤ 2 * i → k ≤ i → ∃ m' PL' k' OL', Runs (loopAt Tryz.f35 0) (sfS n hs (N : Nat) sk (i : Nat) m PL k OL) (.exit 0) (sfS n hs (N : Nat) sk (N : Nat) m' PL' k' OL') ∧ 1 ≤ m' ∧ m' ≤ 8
  | 0, i, m, k, PL, OL, e, _, h2, h3, _ => by
    obtain rfl : i = N := by omega
    exact ⟨m, PL, k, OL, Runs.last out_end, h2, by omega⟩
  | j + 1, i, m, k, PL, OL, e, h1, h2, h3, h4 => by
    obtain ⟨m1, PL1, k1, OL1, g1, g2, g3, g4, g5⟩ := out_step hK (N := N) (sk := sk) (i := i) (PL := PL) (OL := OL) (by omega) hN h1 h2 (by omega) (by omega)
    obtain ⟨m', PL', k', OL', r1, r2, r3⟩ := out_runs hN j (i + 1) m1 k1 PL1 OL1 (by omega) g2 g3 (by omega) (by omega)
    exact ⟨m', PL', k', OL', Runs.cons g1 r1, r2, r3⟩
end
noncomputable def sfW (n : Nat) (hs : Nat → Int) (pf : Int → Int → Int) (rf : Int → Int) (N sk : Int) (m : Nat) (PL : Nat → Prt) : Option Out := gR n hs rf 0 (gR n hs rf 1 (gate (Sub (sfN n hs (w64 (1 + pf (rf 1) 4)) (pf (rf 0) 3)) (sfN n hs N sk)) (cond (((Nat.beq m m) && true) || false) (some (Out.of (.agg (soC m PL sk)))) none)))
theorem sf_ev (n : Nat) (hs : Nat → Int) (pf : Int → Int → Int) (rf : Int → Int) (N sk i : Int) (m : Nat) (PL : Nat → Prt) (k : Nat) (OL : Nat → Int) : evZ Tryz.prog (MP pf) [rwK rf] [] (oneL 5 (toldF keepSf [some 0, some 1] (sfN n hs N sk) (.exit 0) (sfS n hs N sk i m PL k OL))) (oneZ 13 (frzK 2)) Tryz.f35 [sI n hs, iA 0, iA 3] ret = sfW n hs pf rf N sk m PL := by kernel_rfl
theorem solidOf_spec {n : Nat} {hs : Nat → Int} (h : Rng n hs) (hn : n ≤ 256) : ∃ m PL sk, 1 ≤ m ∧ m ≤ 8 ∧ FSpec Tryz.prog 35 [sI n hs, iA 0, iA 3] (.agg (soC m PL sk)) := by
  have h1 : ∀ f : Int, ∃ y : Int × (Nat → Nat) × Int, ∀ g : Nat, f = (g : Nat) → g ≤ 100 → FSpec Tryz.prog 80 [sI n hs, iA (g : Nat)] (SH y.1 y.2.1 y.2.2) := fun f => by
    by_cases hf : 0 ≤ f ∧ f ≤ 100
    · obtain ⟨k, a, sk, hk⟩ := xleaf h hn (f := f.toNat) (by omega)
      refine ⟨(k, a, sk), fun g hg _ => ?_⟩
      have : f.toNat = g := by omega
      subst this
      exact hk
    · exact ⟨(0, fun _ => 0, 0), fun g hg hg' => absurd ⟨by omega, by omega⟩ hf⟩
  obtain ⟨G, hG⟩ := Classical.axiomOfChoice h1
  have hK : ∀ f : Nat, f ≤ 100 → FSpec Tryz.prog 80 [sI n hs, iA (f : Nat)] (SH ((fun f => (G f).1) ((f : Nat) : Int)) ((fun f => (G f).2.1) ((f : Nat) : Int)) ((fun f => (G f).2.2) ((f : Nat) : Int))) := fun f hf => hG (f : Nat) f rfl hf
  have hr := mrw_range (n := n) (hs := hs) h (k := 1) (by decide)
  have e4 := mpk_range (m := 4) hr.1 hr.2 (by decide)
  obtain ⟨N, hN⟩ : ∃ N : Nat, w64 (1 + mpk (mrw n hs 1) 4) = ((N : Nat) : Int) ∧ 1 ≤ N ∧ N ≤ 4 := ⟨(1 + mpk (mrw n hs 1) 4).toNat, by rw [w64_id (by omega) (by omega)]; omega, by omega, by omega⟩
  obtain ⟨PL, OL, o1⟩ := out_first (K := fun f => (G f).1) (A := fun f => (G f).2.1) (S := fun f => (G f).2.2) hK (N := N) (sk := mpk (mrw n hs 0) 3) hN.2.1
  obtain ⟨m', PL', k', OL', r1, r2, r3⟩ := out_runs (K := fun f => (G f).1) (A := fun f => (G f).2.1) (S := fun f => (G f).2.2) hK (N := N) (sk := mpk (mrw n hs 0) 3) hN.2.2 (N - 1) 1 1 1 PL OL (by omega) (by omega) (by omega) (by omega) (by omega)
  refine ⟨m', PL', mpk (mrw n hs 0) 3, r2, r3, gspecZ (oneZ_ok (frzK_ok 2)) MP_ok (k_cons kS_ok k_nil) m_nil Tryz.func35 (by kernel_rfl) (by kernel_rfl)
    (lok_at (c := bodyOf Tryz.f35) (i := 5) 0 2 (by kernel_rfl) (by kernel_rfl) (toldF_sound (keep := keepSf) (τ := [some 0, some 1]) (Runs.loop (by simp) (Runs.cons o1 r1)))) rfl ((sf_ev n hs mpk (mrw n hs) (N : Nat) (mpk (mrw n hs 0) 3) (N : Nat) m' PL' k' OL').trans ?_)⟩
  unfold sfW
  rw [gR_pos (by decide), gR_pos (by decide), hN.1, gate_pos (Sub.refl _), show Nat.beq m' m' = true from Nat.beq_refl m']
  rfl
end Go.Proofs.YtancjnambbkhmaaGreat.Hs.So

namespace Go.Proofs.YtancjnambbkhmaaGreat.Hs.So
open Go.Gv
open Go.Ev (cn fadd fsub fmul fdiv fsqrt fneg feq flt fle fgt fge fabs isNan key flt_key fgt_key feq_key flt_true)

/-- A solid's parts, in plain words. -/
noncomputable def plP (P : Nat → Prt) (r : Nat → Nat) : Pl := ⟨fun k => (P k).op, fun k => (P k).l.toNat, fun k => (P k).r.toNat, fun k => lfL (k : Nat) (P k).s (l7 r)⟩
theorem lfL_one (num : Int) (p : Prt) (r : Nat → Nat) : lfL num p.s (l7 r) = [] ∨ ∃ s, lfL num p.s (l7 r) = [s] ∧ Gd s := by
  unfold lfL
  cases h : (witC p.s (l7 r)).ok
  · exact Or.inl rfl
  · refine Or.inr ⟨_, rfl, ?_⟩
    have := flt_true ((witC_spec p.k p.a p.sk (l7 r)).2.2 h)
    exact ⟨this.1, this.2.1, this.2.2⟩
theorem pl_ok {n : Nat} {P : Nat → Prt} (r : Nat → Nat) (hp : ∀ k, k < n → ppE (P k) (k : Nat) = 0) : PlOk (plP P r) n := by
  refine ⟨fun j hj => ?_, fun j _ _ => lfL_one _ _ _⟩
  rcases pr_ok (hp j hj) with h | ⟨h, l, r, e1, e2, h1, h2⟩
  · exact Or.inl h
  · refine Or.inr ⟨h, ?_, ?_⟩
    · show (P j).l.toNat < j
      rw [e1, Int.toNat_natCast]; exact h1
    · show (P j).r.toNat < j
      rw [e2, Int.toNat_natCast]; exact h2
theorem op_three {p : Prt} {k : Int} (h : ppE p k = 0) (h0 : p.op ≠ 0) : p.op = 1 ∨ p.op = 2 ∨ p.op = 3 := by
  unfold ppE at h
  rw [beq_false_of_ne h0, cond_false] at h
  cases ho : opB p.op
  · rw [ho] at h; exact absurd (show (11 : Int) = 0 from h) (by decide)
  · unfold opB at ho
    by_cases h1 : p.op = 1
    · exact Or.inl h1
    · by_cases h2 : p.op = 2
      · exact Or.inr (Or.inl h2)
      · rw [beq_false_of_ne h1, beq_false_of_ne h2, Bool.false_or, Bool.false_or] at ho
        exact Or.inr (Or.inr (eq_of_beq ho))
def twoG (f : List Spn → List Spn → List Spn) : List AV → List Spn
  | [.sl _ m el, .sl _ m' el'] => f (decL m el) (decL m' el')
  | _ => []
theorem twoG_eq (f : List Spn → List Spn → List Spn) (A B : List Spn) : twoG f [slL A, slL B] = f A B := by
  show f (decL A.length (elL A)) (decL B.length (elL B)) = _
  rw [decL_el, decL_el]
theorem spC_t {n : Nat} {P : Nat → Prt} {r : Nat → Nat} {k : Nat} (hk : k < n) (hn : n ≤ 16) (hp : ∀ k, k < n → ppE (P k) (k : Nat) = 0) (f : List Spn → Option Out) (o oe : Option Out) :
    spC lfL (twoG bothL) (twoG eitherL) (twoG lessL) n P r (k : Nat) (rwF (plP P r) k) f o oe = f (rowV (P k).op (lfL (k : Nat) (P k).s (l7 r)) (rwF (plP P r) k (P k).l.toNat) (rwF (plP P r) k (P k).r.toNat)) := by
  unfold spC
  rw [dec_lt hk, ixB_t hk, Int.toNat_natCast]
  rcases pr_ok (hp k hk) with h | ⟨h, l, rr, e1, e2, h1, h2⟩
  · have e : ((P k).op == 0) = true := by rw [h]; rfl
    unfold rowV
    rw [e]
    exact ow_t hk _
  · have pok := pl_ok r hp
    have il := rw_ok pok k (by omega) l h1
    have ir := rw_ok pok k (by omega) rr h2
    have ll := rw_len pok (by omega) h1 (by omega)
    have lr := rw_len pok (by omega) h2 (by omega)
    have go : ∀ (fn : Nat) (g : List Spn → List Spn → List Spn), FSpec Tryz.prog fn [slL (rwF (plP P r) k l), slL (rwF (plP P r) k rr)] (slL (g (rwF (plP P r) k l) (rwF (plP P r) k rr))) → spG n (k : Nat) (rwF (plP P r) k) fn (twoG g) (P k) f = f (g (rwF (plP P r) k l) (rwF (plP P r) k rr)) := fun fn g hs => by
      unfold spG spA
      rw [e1, e2, Int.toNat_natCast, Int.toNat_natCast, Nat.zero_add, Nat.zero_add, twoG_eq, gate_pos hs, jnB_t (by omega) (by omega) hk]
      rfl
    unfold rowV
    rw [beq_false_of_ne h, cond_false, cond_true, cond_false, go _ bothL (both_spec (by omega) (by omega)), go _ eitherL (either_spec il.ris ir.ris (by omega)), go _ lessL (less_spec (by omega) (by omega)), e1, e2, Int.toNat_natCast, Int.toNat_natCast]
    rcases op_three (hp k hk) h with h3 | h3 | h3 <;> rw [h3] <;> rfl
theorem spE_ok : ∀ e, e ∈ [(⟨107, eLf lfL⟩ : Entry)] → EOk Tryz.prog e := e_cons eLf_ok e_nil
theorem spK_ok {b1 b2 b3 : List AV → List Spn} : ∀ e, e ∈ spK b1 b2 b3 → KOk Tryz.prog e := k_cons kS_ok (k_cons kS_ok (k_cons kS_ok k_nil))
theorem mix_sl (b : Bool) (A B : List Spn) : mixL b [slL A] [slL B] = [slL (cond b A B)] := by
  have e : mixL b [slL A] [slL B] = [.sl 6 (cond b A.length B.length) fun i => mixL b (elL A i) (elL B i)] := rfl
  rw [e]
  cases b
  · show [AV.sl 6 B.length fun i => mixL false (elL A i) (elL B i)] = [slL B]
    have : (fun i => mixL false (elL A i) (elL B i)) = elL B := by
      funext i
      show mixL false (gtL A i).c (gtL B i).c = _
      rw [mix_c]; rfl
    rw [this]; rfl
  · show [AV.sl 6 A.length fun i => mixL true (elL A i) (elL B i)] = [slL A]
    have : (fun i => mixL true (elL A i) (elL B i)) = elL A := by
      funext i
      show mixL true (gtL A i).c (gtL B i).c = _
      rw [mix_c]; rfl
    rw [this]; rfl
theorem sp_leads {n : Nat} (hn : n ≤ 16) {P : Nat → Prt} (r : Nat → Nat) (hp : ∀ k, k < n → ppE (P k) (k : Nat) = 0) : Leads Tryz.prog (.loop (loopAt Tryz.f73 0)) (spS n P r 0 (rwF (plP P r) 0)) (.exit 0) (spS n P r n (rwF (plP P r) n)) := by
  refine loop_rule (fun k => spS n P r (k : Nat) (rwF (plP P r) k)) n (.exit 0) _ (by simp) (fun k hk => ?_) ?_
  · have st := sp_step lfL (twoG bothL) (twoG eitherL) (twoG lessL) n P r (k : Nat) (rwF (plP P r) k)
    rw [spC_t hk hn hp, w64_next (by omega), Int.toNat_natCast] at st
    refine (leads_ev (finN_sub _ _) spE_ok spK_ok noL_ok st).sub (Sub.refl _) ?_
    refine sub_same ⟨Or.inl rfl, Or.inr ⟨57, 1, n, _, _, rfl, rfl, fun q hq => ?_⟩, trivial⟩
    rw [mix_sl, Nat.zero_add]
    show [slL (if q = k then rowV (P k).op (lfL (k : Nat) (P k).s (l7 r)) (rwF (plP P r) k (P k).l.toNat) (rwF (plP P r) k (P k).r.toNat) else rwF (plP P r) k q)] = _
    by_cases e : q = k
    · subst e; rw [BEq.rfl, if_pos rfl]; rfl
    · rw [beq_false_of_ne e, if_neg e]; rfl
  · refine leads_ev (finE_sub _ _) spE_ok spK_ok noL_ok ((sp_end lfL (twoG bothL) (twoG eitherL) (twoG lessL) n P r (n : Nat) (rwF (plP P r) n)).trans ?_)
    unfold spC
    rw [dec_self, cond_false]
/-- Where a ray is within a solid. -/
noncomputable def soS (n : Nat) (P : Nat → Prt) (r : Nat → Nat) : List Spn := rwF (plP P r) n (n - 1)
theorem sp_spec {n : Nat} (h1 : 1 ≤ n) (hn : n ≤ 16) {P : Nat → Prt} (r : Nat → Nat) (hp : ∀ k, k < n → ppE (P k) (k : Nat) = 0) : FSpec Tryz.prog 73 [prS n P, RY r] (slL (soS n P r)) := by
  refine gspec spE_ok spK_ok Tryz.func73 (by kernel_rfl) (by kernel_rfl) (lok_at (i := 3) 0 1 (by kernel_rfl) (by kernel_rfl) (toldF_sound (keep := keepSp) (τ := [some 0, some 1]) (sp_leads hn r hp))) rfl ((sp_ev lfL (twoG bothL) (twoG eitherL) (twoG lessL) n P r (rwF (plP P r) 0) (rwF (plP P r) n)).trans ?_)
  have hs : Sub (spR n P r 0 fun _ => [.x (.slice none 0 0)]) (spS n P r 0 (rwF (plP P r) 0)) := by
    refine sub_like ⟨Or.inl rfl, Or.inr (Or.inl ⟨57, 1, n, _, _, rfl, rfl, fun i hi => ⟨rfl, fun E cs hc => ?_⟩⟩), trivial⟩
    obtain ⟨u, us, e, h1, h2⟩ := pre_cons.1 hc
    exact pre_cons.2 ⟨u, us, e, rel_nil_sl h1, h2⟩
  have hm : ((decide (0 ≤ (n : Int)) && (decide ((n : Int) ≤ n) && decide (((24 : Nat) : Int) * n ≤ 281474976710656))) || false) = true := by
    rw [decide_eq_true (show (0 : Int) ≤ n by omega), decide_eq_true (show (n : Int) ≤ n by omega), decide_eq_true (show ((24 : Nat) : Int) * n ≤ 281474976710656 by omega)]; rfl
  rw [hm, gate_pos hs, w64_id (by omega) (by omega), show ((n : Int) - 1) = ((n - 1 : Nat) : Int) by omega, ow_t (by omega), Int.toNat_natCast, Nat.zero_add]
  rfl
end Go.Proofs.YtancjnambbkhmaaGreat.Hs.So

namespace Go.Proofs.YtancjnambbkhmaaGreat.Hs.So
open Go.Gv
open Go.Ev (cn fadd fsub fmul fdiv fsqrt fneg feq flt fle fgt fge fabs isNan key flt_key fgt_key feq_key)

def joR (A B : List Spn) (i k : Int) (m : Nat) (el : Nat → List AV) : St := mkS 62 [(0, slL A), (1, slL B), (5, .osl 0 6 0 m), (6, iA i), (7, iA k)] [.a 62 6 m el]
def joS (A B : List Spn) (i k : Int) (R : List Spn) : St := joR A B i k R.length (elL R)
def keepJo : List Nat := [0, 1, 5, 6, 7]
section
variable (A B : List Spn) (i k : Int) (R : List Spn)
def joT : Bool := cond (decide (i < A.length)) true (decide (k < B.length))
def joB : Bool := k == (B.length : Int)
def joN : Bool := !(decide (decide (i < A.length) = true) && (decide (joB B k = false) && true))
def joG : Bool := (ixB i A.length || joN A B i k) && ((ixB k B.length || joN A B i k) && true)
def joP : Bool := cond (joB B k) true (cond (decide (i < A.length)) (fle (gtL A i.toNat).i.t (gtL B k.toNat).i.t) false)
def joC (oa ob oe : Option Out) : Option Out := cond (joT A B i k) (cond (joG A B i k) (cond (joP A B i k) (cond (ixB i A.length || false) (cond (apB R.length 48 || false) oa none) none) (cond (ixB k B.length || false) (cond (apB R.length 48 || false) ob none) none)) none) oe
theorem jo_step : evC Tryz.prog [] [] noL (loopAt Tryz.f134 0) (joS A B i k R) (finN keepJo [some 2]) = joC A B i k R (some ⟨.normal, joR A B (w64 (i + 1)) k (R.length + 1) fun q => mixL (Nat.blt q R.length) (elL R q) (gtL A i.toNat).c, .any⟩) (some ⟨.normal, joR A B i (w64 (k + 1)) (R.length + 1) fun q => mixL (Nat.blt q R.length) (elL R q) (gtL B k.toNat).c, .any⟩) none := by kernel_rfl
theorem jo_end : evC Tryz.prog [] [] noL (loopAt Tryz.f134 0) (joS A B i k R) (finE keepJo [some 0]) = joC A B i k R none none (some ⟨.exit 0, joS A B i k R, .any⟩) := by kernel_rfl
theorem jo_ev (i' k' : Int) : ev Tryz.prog [] [] (oneL 4 (toldN keepJo [(5, 0, 6)] (roL []) [none] (joS A B 0 0 []) (.exit 0) (joS A B i' k' R))) Tryz.f134 [slL A, slL B] ret = gate (Sub (joS A B 0 0 []) (joS A B 0 0 [])) (some (Out.of (.sl 6 R.length fun q => elL R (0 + q)))) := by kernel_rfl
end
theorem mrg_nil (A : List Spn) : mrg A [] = A := by cases A <;> rw [mrg]
theorem mrg_nil' (B : List Spn) : mrg [] B = B := by rw [mrg]
/-- How far both rows are gone through, and what has been laid, behind so many rounds. -/
def joI (A B : List Spn) : Nat → Nat × Nat × List Spn
  | 0 => (0, 0, [])
  | t + 1 => cond (joP A B ((joI A B t).1 : Nat) ((joI A B t).2.1 : Nat)) ((joI A B t).1 + 1, (joI A B t).2.1, (joI A B t).2.2 ++ [gtL A (joI A B t).1]) ((joI A B t).1, (joI A B t).2.1 + 1, (joI A B t).2.2 ++ [gtL B (joI A B t).2.1])
theorem joP_nat (A B : List Spn) (i k : Nat) : joP A B (i : Nat) (k : Nat) = cond (decide (k = B.length)) true (cond (decide (i < A.length)) (fle (gtL A i).i.t (gtL B k).i.t) false) := by
  unfold joP joB
  rw [Int.toNat_natCast, Int.toNat_natCast]
  have e1 : (((k : Nat) : Int) == (B.length : Int)) = decide (k = B.length) := by
    by_cases h : k = B.length
    · rw [h, BEq.rfl, decide_eq_true rfl]
    · rw [beq_false_of_ne (by omega), decide_eq_false h]
  have e2 : decide (((i : Nat) : Int) < (A.length : Int)) = decide (i < A.length) := by
    by_cases h : i < A.length
    · rw [decide_eq_true h, decide_eq_true (by omega)]
    · rw [decide_eq_false h, decide_eq_false (by omega)]
  rw [e1, e2]
structure JoOk (A B : List Spn) (t : Nat) (x : Nat × Nat × List Spn) : Prop where
  sum : x.1 + x.2.1 = t
  a : x.1 ≤ A.length
  b : x.2.1 ≤ B.length
  len : x.2.2.length = t
  mrg : x.2.2 ++ mrg (A.drop x.1) (B.drop x.2.1) = mrg A B
theorem jo_go {A B : List Spn} {i k : Nat} (hi : i ≤ A.length) (hk : k ≤ B.length) (h : i + k < A.length + B.length) :
    (joP A B (i : Nat) (k : Nat) = true ∧ i < A.length ∧ mrg (A.drop i) (B.drop k) = gtL A i :: mrg (A.drop (i + 1)) (B.drop k)) ∨ (joP A B (i : Nat) (k : Nat) = false ∧ k < B.length ∧ mrg (A.drop i) (B.drop k) = gtL B k :: mrg (A.drop i) (B.drop (k + 1))) := by
  rw [joP_nat]
  by_cases h1 : k = B.length
  · subst h1
    rw [decide_eq_true rfl, List.drop_length, mrg_nil, mrg_nil, drop_gt (show i < A.length by omega)]
    exact Or.inl ⟨rfl, by omega, rfl⟩
  · rw [decide_eq_false h1]
    by_cases h2 : i < A.length
    · rw [decide_eq_true h2, drop_gt h2, drop_gt (show k < B.length by omega), mrg]
      cases fle (gtL A i).i.t (gtL B k).i.t
      · exact Or.inr ⟨rfl, by omega, rfl⟩
      · exact Or.inl ⟨rfl, h2, rfl⟩
    · have e : i = A.length := by omega
      subst e
      rw [decide_eq_false h2, List.drop_length, mrg_nil', mrg_nil', drop_gt (show k < B.length by omega)]
      exact Or.inr ⟨rfl, by omega, rfl⟩
theorem joI_ok (A B : List Spn) : ∀ t, t ≤ A.length + B.length → JoOk A B t (joI A B t)
  | 0, _ => ⟨rfl, Nat.zero_le _, Nat.zero_le _, rfl, rfl⟩
  | t + 1, h => by
    have ih := joI_ok A B t (by omega)
    show JoOk A B (t + 1) (cond (joP A B ((joI A B t).1 : Nat) ((joI A B t).2.1 : Nat)) _ _)
    generalize joI A B t = x at ih ⊢
    have hs := ih.sum
    rcases jo_go ih.a ih.b (by omega) with ⟨h1, h2, h3⟩ | ⟨h1, h2, h3⟩
    · rw [h1, cond_true]
      refine ⟨by show x.1 + 1 + x.2.1 = t + 1; omega, h2, ih.b, by show (x.2.2 ++ [_]).length = _; rw [List.length_append, ih.len]; rfl, ?_⟩
      show (x.2.2 ++ [gtL A x.1]) ++ mrg (A.drop (x.1 + 1)) (B.drop x.2.1) = _
      rw [← ih.mrg, h3, List.append_assoc]; rfl
    · rw [h1, cond_false]
      refine ⟨by show x.1 + (x.2.1 + 1) = t + 1; omega, ih.a, h2, by show (x.2.2 ++ [_]).length = _; rw [List.length_append, ih.len]; rfl, ?_⟩
      show (x.2.2 ++ [gtL B x.2.1]) ++ mrg (A.drop x.1) (B.drop (x.2.1 + 1)) = _
      rw [← ih.mrg, h3, List.append_assoc]; rfl
theorem joG_t {A B : List Spn} {i k : Nat} (hk : k ≤ B.length) : joG A B (i : Nat) (k : Nat) = true := by
  unfold joG joN
  by_cases h1 : i < A.length
  · by_cases h2 : k = B.length
    · have : joB B (k : Nat) = true := by unfold joB; rw [h2, BEq.rfl]
      rw [this]; simp
    · rw [ixB_t h1, ixB_t (show k < B.length by omega)]; rfl
  · rw [decide_eq_false (show ¬ ((i : Nat) : Int) < (A.length : Int) by omega)]; simp
theorem jo_leads {A B : List Spn} (h : A.length + B.length ≤ 1000) : ∃ i' k' : Int, Leads Tryz.prog (.loop (loopAt Tryz.f134 0)) (joS A B 0 0 []) (.exit 0) (joS A B i' k' (mrg A B)) := by
  refine ⟨((joI A B (A.length + B.length)).1 : Nat), ((joI A B (A.length + B.length)).2.1 : Nat), ?_⟩
  have hf := joI_ok A B _ (Nat.le_refl (A.length + B.length))
  have hR : (joI A B (A.length + B.length)).2.2 = mrg A B := by
    have hs := hf.sum
    have ha := hf.a
    have hb := hf.b
    have := hf.mrg
    rw [show (joI A B (A.length + B.length)).1 = A.length by omega, show (joI A B (A.length + B.length)).2.1 = B.length by omega, List.drop_length, List.drop_length, mrg_nil, List.append_nil] at this
    exact this
  have hl : Leads Tryz.prog (.loop (loopAt Tryz.f134 0)) (joS A B ((joI A B 0).1 : Nat) ((joI A B 0).2.1 : Nat) (joI A B 0).2.2) (.exit 0) (joS A B ((joI A B (A.length + B.length)).1 : Nat) ((joI A B (A.length + B.length)).2.1 : Nat) (joI A B (A.length + B.length)).2.2) := by
    refine loop_rule (fun t => joS A B ((joI A B t).1 : Nat) ((joI A B t).2.1 : Nat) (joI A B t).2.2) (A.length + B.length) (.exit 0) _ (by simp) (fun t ht => ?_) ?_
    · have ok := joI_ok A B t (by omega)
      show Leads Tryz.prog _ (joS A B ((joI A B t).1 : Nat) ((joI A B t).2.1 : Nat) (joI A B t).2.2) .normal (joS A B ((cond (joP A B ((joI A B t).1 : Nat) ((joI A B t).2.1 : Nat)) ((joI A B t).1 + 1, (joI A B t).2.1, (joI A B t).2.2 ++ [gtL A (joI A B t).1]) ((joI A B t).1, (joI A B t).2.1 + 1, (joI A B t).2.2 ++ [gtL B (joI A B t).2.1])).1 : Nat) ((cond (joP A B ((joI A B t).1 : Nat) ((joI A B t).2.1 : Nat)) ((joI A B t).1 + 1, (joI A B t).2.1, (joI A B t).2.2 ++ [gtL A (joI A B t).1]) ((joI A B t).1, (joI A B t).2.1 + 1, (joI A B t).2.2 ++ [gtL B (joI A B t).2.1])).2.1 : Nat) (cond (joP A B ((joI A B t).1 : Nat) ((joI A B t).2.1 : Nat)) ((joI A B t).1 + 1, (joI A B t).2.1, (joI A B t).2.2 ++ [gtL A (joI A B t).1]) ((joI A B t).1, (joI A B t).2.1 + 1, (joI A B t).2.2 ++ [gtL B (joI A B t).2.1])).2.2)
      generalize joI A B t = x at ok
      obtain ⟨i, k, R⟩ := x
      have hs : i + k = t := ok.sum
      have ha : i ≤ A.length := ok.a
      have hb : k ≤ B.length := ok.b
      have hlen : R.length = t := ok.len
      have st := jo_step A B (i : Nat) (k : Nat) R
      have hT : joT A B (i : Nat) (k : Nat) = true := by
        unfold joT
        by_cases h1 : i < A.length
        · rw [dec_lt h1]; rfl
        · rw [decide_eq_false (by omega), dec_lt (show k < B.length by omega)]; rfl
      unfold joC at st
      rw [hT, joG_t hb, apB_t (by omega)] at st
      rcases jo_go ha hb (by omega) with ⟨h1, h2, _⟩ | ⟨h1, h2, _⟩
      · rw [h1, ixB_t h2, w64_next (by omega), Int.toNat_natCast] at st
        show Leads Tryz.prog _ (joS A B (i : Nat) (k : Nat) R) .normal (joS A B ((cond (joP A B (i : Nat) (k : Nat)) (i + 1, k, R ++ [gtL A i]) (i, k + 1, R ++ [gtL B k])).1 : Nat) ((cond (joP A B (i : Nat) (k : Nat)) (i + 1, k, R ++ [gtL A i]) (i, k + 1, R ++ [gtL B k])).2.1 : Nat) (cond (joP A B (i : Nat) (k : Nat)) (i + 1, k, R ++ [gtL A i]) (i, k + 1, R ++ [gtL B k])).2.2)
        rw [h1]
        refine (leads_ev (finN_sub keepJo [some 2]) e_nil k_nil noL_ok st).sub (Sub.refl _) ?_
        show Sub _ (joS A B ((i + 1 : Nat) : Int) (k : Nat) (R ++ [gtL A i]))
        unfold joS
        have hl1 : (R ++ [gtL A i]).length = R.length + 1 := by rw [List.length_append]; rfl
        rw [hl1]
        exact sub_same ⟨Or.inr ⟨62, 6, R.length + 1, _, _, rfl, rfl, fun q hq => (elL_app R _ hq).symm⟩, trivial⟩
      · rw [h1, cond_true, cond_true, cond_false, ixB_t h2, w64_next (n := k) (by omega), Int.toNat_natCast] at st
        show Leads Tryz.prog _ (joS A B (i : Nat) (k : Nat) R) .normal (joS A B ((cond (joP A B (i : Nat) (k : Nat)) (i + 1, k, R ++ [gtL A i]) (i, k + 1, R ++ [gtL B k])).1 : Nat) ((cond (joP A B (i : Nat) (k : Nat)) (i + 1, k, R ++ [gtL A i]) (i, k + 1, R ++ [gtL B k])).2.1 : Nat) (cond (joP A B (i : Nat) (k : Nat)) (i + 1, k, R ++ [gtL A i]) (i, k + 1, R ++ [gtL B k])).2.2)
        rw [h1]
        refine (leads_ev (finN_sub keepJo [some 2]) e_nil k_nil noL_ok st).sub (Sub.refl _) ?_
        show Sub _ (joS A B (i : Nat) ((k + 1 : Nat) : Int) (R ++ [gtL B k]))
        unfold joS
        have hl1 : (R ++ [gtL B k]).length = R.length + 1 := by rw [List.length_append]; rfl
        rw [hl1]
        exact sub_same ⟨Or.inr ⟨62, 6, R.length + 1, _, _, rfl, rfl, fun q hq => (elL_app R _ hq).symm⟩, trivial⟩
    · have hs := hf.sum
      have ha := hf.a
      have hb := hf.b
      refine leads_ev (finE_sub keepJo [some 0]) e_nil k_nil noL_ok ((jo_end A B _ _ _).trans ?_)
      unfold joC joT
      rw [decide_eq_false (by omega), decide_eq_false (by omega)]; rfl
  rw [hR] at hl
  exact hl
/-- Two rows, by their beginnings. -/
theorem jo_spec {A B : List Spn} (h : A.length + B.length ≤ 1000) : FSpec Tryz.prog 134 [slL A, slL B] (slL (mrg A B)) := by
  obtain ⟨i', k', lead⟩ := jo_leads h
  have hL := lok_hd (c := bodyOf Tryz.f134) (i := 4) 0 (by kernel_rfl) (by kernel_rfl) (toldN_sound (keep := keepJo) (nils := [(5, 0, 6)]) (nr := roL []) (τ := [none]) lead)
  refine gspec e_nil k_nil Tryz.func134 (by kernel_rfl) (by kernel_rfl) hL rfl ((jo_ev A B (mrg A B) i' k').trans ?_)
  rw [gate_pos (Sub.refl _), slL_eq]
end Go.Proofs.YtancjnambbkhmaaGreat.Hs.So

namespace Go.Proofs.YtancjnambbkhmaaGreat.Hs.So
open Go.Gv
open Go.Ev (cn fadd fsub fmul fdiv fsqrt fneg feq flt fle fgt fge fabs isNan key flt_key fgt_key feq_key)

/-! ### The inner loop: what a hole leaves of the pieces -/
def raR (H L : List Spn) (i k : Int) (m : Nat) (el : Nat → List AV) : St := mkS 110 [(1, slL H), (5, .osl 0 6 0 L.length), (6, iA i), (7, .osl 1 6 0 m), (8, iA k)] [roL L, .a 62 6 m el]
def raS (H L : List Spn) (i k : Int) (R : List Spn) : St := raR H L i k R.length (elL R)
/-- Nothing is left yet. -/
def raN (H L : List Spn) (i k : Int) : St := mkS 110 [(1, slL H), (5, .osl 0 6 0 L.length), (6, iA i), (7, .x (.slice none 0 0)), (8, iA k)] [roL L]
def keepRa : List Nat := [1, 5, 6, 7, 8]
def apE1 (R : List Spn) (s : Spn) : Nat → List AV := fun q => mixL (Nat.blt q R.length) (elL R q) s.c
def apE2 (R : List Spn) (s s' : Spn) : Nat → List AV := fun q => mixL (Nat.blt q (R.length + 1)) (mixL (Nat.blt q R.length) (elL R q) s.c) s'.c
section
variable (H L : List Spn) (i k : Int) (R : List Spn)
def raG (b : Bool) : Bool := (ixB i H.length || false) && ((ixB i H.length || gF b) && true)
def raI (o : Option Out) : Option Out := cond (ixB i H.length || false) o none
def raJ (o : Option Out) : Option Out := cond ((ixB i H.length || false) && true) o none
def raA (m : Nat) (o : Option Out) : Option Out := cond (apB m 48 || false) o none
/-- Keep; both ends; the first; the second; none. -/
def raC (a a' : Nat → Option Out → Option Out) (o1 o2 o3 o4 o5 oe : Option Out) : Option Out :=
  cond (decide (k < L.length)) (cond (ixB k L.length || false) (cond (bl' k L.length) (cond (raG H i (fle (gtL H i.toNat).o.t (gtL L (0 + k.toNat)).i.t)) (cond (cond (fle (gtL H i.toNat).o.t (gtL L (0 + k.toNat)).i.t) true (fge (gtL H i.toNat).i.t (gtL L (0 + k.toNat)).o.t)) (a R.length o1)
    (raJ H i (cond (flt (gtL L (0 + k.toNat)).i.t (gtL H i.toNat).i.t) (raI H i (a R.length (raJ H i (cond (flt (gtL H i.toNat).o.t (gtL L (0 + k.toNat)).o.t) (raI H i (a' (R.length + 1) o2)) o3)))) (raJ H i (cond (flt (gtL H i.toNat).o.t (gtL L (0 + k.toNat)).o.t) (raI H i (a R.length o4)) o5))))) none) none) none) oe
def raX : Spn := ⟨(gtL L (0 + k.toNat)).i, turnS (gtL H i.toNat).i⟩
def raY : Spn := ⟨turnS (gtL H i.toNat).o, (gtL L (0 + k.toNat)).o⟩
theorem ra_keep : evC Tryz.prog [] [] noL (loopAt Tryz.f135 1) (raS H L i k R) (finS 5 keepRa [some 0, some 4]) = raC H L i k R raA raA (some ⟨.normal, raR H L i (w64 (k + 1)) (R.length + 1) (apE1 R (gtL L (0 + k.toNat))), .any⟩) none none none none none := by kernel_rfl
theorem ra_both : evC Tryz.prog [] [] noL (loopAt Tryz.f135 1) (raS H L i k R) (finS 9 keepRa [some 0, some 8]) = raC H L i k R raA raA none (some ⟨.normal, raR H L i (w64 (k + 1)) (R.length + 1 + 1) (apE2 R (raX H L i k) (raY H L i k)), .any⟩) none none none none := by kernel_rfl
theorem ra_one : evC Tryz.prog [] [] noL (loopAt Tryz.f135 1) (raS H L i k R) (finS 6 keepRa [some 0, some 5]) = raC H L i k R raA raA none none (some ⟨.normal, raR H L i (w64 (k + 1)) (R.length + 1) (apE1 R (raX H L i k)), .any⟩) (some ⟨.normal, raR H L i (w64 (k + 1)) (R.length + 1) (apE1 R (raY H L i k)), .any⟩) none none := by kernel_rfl
theorem ra_none : evC Tryz.prog [] [] noL (loopAt Tryz.f135 1) (raS H L i k R) (finS 3 keepRa [some 0, some 1]) = raC H L i k R raA raA none none none none (some ⟨.normal, raS H L i (w64 (k + 1)) R, .any⟩) none := by kernel_rfl
theorem ra_end : evC Tryz.prog [] [] noL (loopAt Tryz.f135 1) (raS H L i k R) (finE keepRa [some 0, some 1]) = raC H L i k R raA raA none none none none none (some ⟨.exit 2, raS H L i k R, .any⟩) := by kernel_rfl
end
end Go.Proofs.YtancjnambbkhmaaGreat.Hs.So

namespace Go.Proofs.YtancjnambbkhmaaGreat.Hs.So
open Go.Gv
open Go.Ev (cn fadd fsub fmul fdiv fsqrt fneg feq flt fle fgt fge fabs isNan key flt_key fgt_key feq_key)

def ruR (H : List Spn) (i : Int) (m : Nat) (el : Nat → List AV) : St := mkS 110 [(1, slL H), (5, .osl 0 6 0 m), (6, iA i)] [.a 62 6 m el]
def ruS (H : List Spn) (i : Int) (L : List Spn) : St := ruR H i L.length (elL L)
def ruN (H : List Spn) (i : Int) : St := mkS 110 [(1, slL H), (5, .x (.slice none 0 0)), (6, iA i)] []
def keepRu : List Nat := [1, 5, 6]
section
variable (H L : List Spn) (i k : Int) (R : List Spn) (x : Spn)
theorem ra_noneN : evC Tryz.prog [] [] noL (loopAt Tryz.f135 1) (raN H L i k) (finS 2 keepRa [some 0]) = raC H L i k [] (fun _ o => o) (fun _ o => o) none none none none (some ⟨.normal, raN H L i (w64 (k + 1)), .any⟩) none := by kernel_rfl
theorem ra_endN : evC Tryz.prog [] [] noL (loopAt Tryz.f135 1) (raN H L i k) (finE keepRa [some 0]) = raC H L i k [] (fun _ o => o) (fun _ o => o) none none none none none (some ⟨.exit 2, raN H L i k, .any⟩) := by kernel_rfl
theorem ru_step : evC Tryz.prog [] [] (oneL 7 (toldN keepRa [(7, 1, 6)] (roL []) [some 0, none] (raS H L i 0 []) (.exit 2) (raS H L i L.length R))) (loopAt Tryz.f135 0) (ruS H i L) (finN keepRu [some 1]) = cond (decide (i < H.length)) (gate (Sub (raS H L i 0 []) (raS H L i 0 [])) (some ⟨.normal, ruS H (w64 (i + 1)) R, .any⟩)) none := by kernel_rfl
theorem ru_stepN : evC Tryz.prog [] [] (oneL 7 (toldF keepRa [some 0] (raN H L i 0) (.exit 2) (raN H L i L.length))) (loopAt Tryz.f135 0) (ruS H i L) (finN keepRu []) = cond (decide (i < H.length)) (gate (Sub (raN H L i 0) (raN H L i 0)) (some ⟨.normal, ruN H (w64 (i + 1)), .any⟩)) none := by kernel_rfl
theorem ru_stepNN : evC Tryz.prog [] [] noL (loopAt Tryz.f135 0) (ruN H i) (finN keepRu []) = cond (decide (i < H.length)) (some ⟨.normal, ruN H (w64 (i + 1)), .any⟩) none := by kernel_rfl
theorem ru_end : evC Tryz.prog [] [] (oneL 7 fun _ _ => none) (loopAt Tryz.f135 0) (ruS H i L) (finE keepRu [some 0]) = cond (decide (i < H.length)) none (some ⟨.exit 0, ruS H i L, .any⟩) := by kernel_rfl
theorem ru_endN : evC Tryz.prog [] [] (oneL 7 fun _ _ => none) (loopAt Tryz.f135 0) (ruN H i) (finE keepRu []) = cond (decide (i < H.length)) none (some ⟨.exit 0, ruN H i, .any⟩) := by kernel_rfl
theorem rc_ev : ev Tryz.prog [] [] (oneL 3 (toldF keepRu [some 1] (ruS H 0 [x]) (.exit 0) (ruS H H.length R))) Tryz.f135 [.agg x.c, slL H] ret = gate (Sub (ruR H 0 1 (chunk x.c 6)) (ruS H 0 [x])) (some (Out.of (.sl 6 R.length fun q => elL R (0 + q)))) := by kernel_rfl
theorem rc_evN : ev Tryz.prog [] [] (oneL 3 (toldF keepRu [some 1] (ruS H 0 [x]) (.exit 0) (ruN H H.length))) Tryz.f135 [.agg x.c, slL H] ret = gate (Sub (ruR H 0 1 (chunk x.c 6)) (ruS H 0 [x])) (some (Out.of (.x (.slice none 0 0)))) := by kernel_rfl
end
/-! ### The inner loop -/
theorem raG_t {H : List Spn} {i : Nat} (hi : i < H.length) (b : Bool) : raG H (i : Nat) b = true := by unfold raG; rw [ixB_t hi]; rfl
theorem raI_t {H : List Spn} {i : Nat} (hi : i < H.length) (o : Option Out) : raI H (i : Nat) o = o := by unfold raI; rw [ixB_t hi]; rfl
theorem raJ_t {H : List Spn} {i : Nat} (hi : i < H.length) (o : Option Out) : raJ H (i : Nat) o = o := by unfold raJ; rw [ixB_t hi]; rfl
theorem raA_t {m : Nat} (hm : m ≤ 1000000) (o : Option Out) : raA m o = o := by unfold raA; rw [apB_t (by omega)]; rfl
/-- Which of the five it is. -/
theorem raC_t {H L : List Spn} {i k : Nat} {R : List Spn} (hi : i < H.length) (hk : k < L.length) {a a' : Nat → Option Out → Option Out} (ha : ∀ o, a R.length o = o) (ha' : ∀ o, a' (R.length + 1) o = o) (o1 o2 o3 o4 o5 oe : Option Out) :
    raC H L (i : Nat) (k : Nat) R a a' o1 o2 o3 o4 o5 oe = cond (skipB (gtL H i) (gtL L k).i (gtL L k).o) o1 (cond (flt (gtL L k).i.t (gtL H i).i.t) (cond (flt (gtL H i).o.t (gtL L k).o.t) o2 o3) (cond (flt (gtL H i).o.t (gtL L k).o.t) o4 o5)) := by
  unfold raC bl'
  simp only [raG_t hi, raI_t hi, raJ_t hi, ha, ha']
  rw [dec_lt hk, ixB_t hk, Int.toNat_natCast, Int.toNat_natCast, Nat.zero_add, blt_t hk]
  have e : cond (fle (gtL H i).o.t (gtL L k).i.t) true (fge (gtL H i).i.t (gtL L k).o.t) = skipB (gtL H i) (gtL L k).i (gtL L k).o := by unfold skipB; cases fle (gtL H i).o.t (gtL L k).i.t <;> rfl
  rw [e]
  rfl
theorem cut1_len (h y : Spn) : (cut1 h y).length ≤ 2 := by
  unfold cut1
  cases skipB h y.i y.o
  · rw [cond_false, List.length_append]
    have := piece_len y.i (turnS h.i)
    have := piece_len (turnS h.o) y.o
    omega
  · exact Nat.le_succ _
theorem apE1_sub (H L : List Spn) (i k : Int) (R : List Spn) (s : Spn) : Sub (raR H L i k (R.length + 1) (apE1 R s)) (raS H L i k (R ++ [s])) := by
  unfold raS
  have hl1 : (R ++ [s]).length = R.length + 1 := by rw [List.length_append]; rfl
  rw [hl1]
  exact sub_same ⟨Or.inl rfl, Or.inr ⟨62, 6, R.length + 1, _, _, rfl, rfl, fun q hq => (elL_app R _ hq).symm⟩, trivial⟩
theorem apE2_sub (H L : List Spn) (i k : Int) (R : List Spn) (s s' : Spn) : Sub (raR H L i k (R.length + 1 + 1) (apE2 R s s')) (raS H L i k (R ++ [s, s'])) := by
  unfold raS
  have hl1 : (R ++ [s, s']).length = R.length + 1 + 1 := by rw [List.length_append]; rfl
  rw [hl1]
  refine sub_same ⟨Or.inl rfl, Or.inr ⟨62, 6, R.length + 1 + 1, _, _, rfl, rfl, fun q hq => ?_⟩, trivial⟩
  have e : R ++ [s, s'] = (R ++ [s]) ++ [s'] := by simp
  have hl2 : (R ++ [s]).length = R.length + 1 := by rw [List.length_append]; rfl
  rw [e, ← elL_app (R ++ [s]) s' (by rw [hl2]; exact hq), hl2]
  show mixL (Nat.blt q (R.length + 1)) (gtL (R ++ [s]) q).c s'.c = apE2 R s s' q
  unfold apE2
  show _ = mixL (Nat.blt q (R.length + 1)) (mixL (Nat.blt q R.length) (gtL R q).c s.c) s'.c
  rw [mix_c, mix_c, mix_c]
  refine congrArg Spn.c ?_
  cases hb : Nat.blt q (R.length + 1)
  · rfl
  · rw [gtL_app R s (Nat.le_of_ble_eq_true hb)]
theorem ra_leads {H L : List Spn} {i : Nat} (hi : i < H.length) (hL : L.length ≤ 1000) : Leads Tryz.prog (.loop (loopAt Tryz.f135 1)) (raS H L (i : Nat) 0 []) (.exit 2) (raS H L (i : Nat) L.length (L.flatMap (cut1 (gtL H i)))) := by
  have hlen : ∀ (l : List Spn), (l.flatMap (cut1 (gtL H i))).length ≤ 2 * l.length := fun l => by
    induction l with
    | nil => exact Nat.le_refl _
    | cons a l ih =>
      rw [List.flatMap_cons, List.length_append, List.length_cons]
      have := cut1_len (gtL H i) a
      omega
  have h : Leads Tryz.prog (.loop (loopAt Tryz.f135 1)) (raS H L (i : Nat) (0 : Nat) ((L.take 0).flatMap (cut1 (gtL H i)))) (.exit 2) (raS H L (i : Nat) (L.length : Nat) ((L.take L.length).flatMap (cut1 (gtL H i)))) := by
    refine loop_rule (fun k => raS H L (i : Nat) (k : Nat) ((L.take k).flatMap (cut1 (gtL H i)))) L.length (.exit 2) _ (by simp) (fun k hk => ?_) ?_
    · have hl := hlen (L.take k)
      rw [List.length_take] at hl
      show Leads Tryz.prog _ (raS H L (i : Nat) (k : Nat) ((L.take k).flatMap (cut1 (gtL H i)))) .normal (raS H L (i : Nat) ((k + 1 : Nat) : Int) ((L.take (k + 1)).flatMap (cut1 (gtL H i))))
      rw [flat_take hk]
      generalize (L.take k).flatMap (cut1 (gtL H i)) = R at hl
      have ha : ∀ o, raA R.length o = o := fun o => raA_t (by omega) o
      have ha' : ∀ o, raA (R.length + 1) o = o := fun o => raA_t (by omega) o
      have eX : raX H L (i : Nat) (k : Nat) = ⟨(gtL L k).i, turnS (gtL H i).i⟩ := by unfold raX; rw [Int.toNat_natCast, Int.toNat_natCast, Nat.zero_add]
      have eY : raY H L (i : Nat) (k : Nat) = ⟨turnS (gtL H i).o, (gtL L k).o⟩ := by unfold raY; rw [Int.toNat_natCast, Int.toNat_natCast, Nat.zero_add]
      have ek : w64 ((k : Int) + 1) = ((k + 1 : Nat) : Int) := w64_next (by omega)
      unfold cut1
      cases hs : skipB (gtL H i) (gtL L k).i (gtL L k).o
      · rw [cond_false]
        cases h1 : flt (gtL L k).i.t (gtL H i).i.t
        · have p1 : piece (gtL L k).i (turnS (gtL H i).i) = [] := piece_none h1
          cases h2 : flt (gtL H i).o.t (gtL L k).o.t
          · have p2 : piece (turnS (gtL H i).o) (gtL L k).o = [] := piece_none h2
            rw [p1, p2, List.append_nil, List.append_nil]
            refine leads_ev (finS_sub 3 keepRa [some 0, some 1]) e_nil k_nil noL_ok ((ra_none H L (i : Nat) (k : Nat) R).trans ?_)
            rw [raC_t hi hk ha ha', hs, h1, h2, ek]; rfl
          · have p2 : piece (turnS (gtL H i).o) (gtL L k).o = [⟨turnS (gtL H i).o, (gtL L k).o⟩] := piece_one h2
            rw [p1, p2, List.nil_append]
            have st := ra_one H L (i : Nat) (k : Nat) R
            rw [raC_t hi hk ha ha', hs, h1, h2, ek, eY] at st
            exact (leads_ev (finS_sub 6 keepRa [some 0, some 5]) e_nil k_nil noL_ok st).sub (Sub.refl _) (apE1_sub H L _ _ R _)
        · have p1 : piece (gtL L k).i (turnS (gtL H i).i) = [⟨(gtL L k).i, turnS (gtL H i).i⟩] := piece_one h1
          cases h2 : flt (gtL H i).o.t (gtL L k).o.t
          · have p2 : piece (turnS (gtL H i).o) (gtL L k).o = [] := piece_none h2
            rw [p1, p2, List.append_nil]
            have st := ra_one H L (i : Nat) (k : Nat) R
            rw [raC_t hi hk ha ha', hs, h1, h2, ek, eX] at st
            exact (leads_ev (finS_sub 6 keepRa [some 0, some 5]) e_nil k_nil noL_ok st).sub (Sub.refl _) (apE1_sub H L _ _ R _)
          · have p2 : piece (turnS (gtL H i).o) (gtL L k).o = [⟨turnS (gtL H i).o, (gtL L k).o⟩] := piece_one h2
            rw [p1, p2]
            have st := ra_both H L (i : Nat) (k : Nat) R
            rw [raC_t hi hk ha ha', hs, h1, h2, ek, eX, eY] at st
            exact (leads_ev (finS_sub 9 keepRa [some 0, some 8]) e_nil k_nil noL_ok st).sub (Sub.refl _) (apE2_sub H L _ _ R _ _)
      · rw [cond_true]
        have st := ra_keep H L (i : Nat) (k : Nat) R
        rw [raC_t hi hk ha ha', hs, ek, Int.toNat_natCast, Nat.zero_add] at st
        exact (leads_ev (finS_sub 5 keepRa [some 0, some 4]) e_nil k_nil noL_ok st).sub (Sub.refl _) (apE1_sub H L _ _ R _)
    · refine leads_ev (finE_sub keepRa [some 0, some 1]) e_nil k_nil noL_ok ((ra_end H L (i : Nat) (L.length : Nat) _).trans ?_)
      unfold raC
      rw [dec_self, cond_false]
  rw [List.take_length, List.take_zero] at h
  exact h
/-- Where nothing is left. -/
theorem ra_leadsN {H L : List Spn} {i : Nat} (hi : i < H.length) (hL : L.length ≤ 1000) (he : L.flatMap (cut1 (gtL H i)) = []) : Leads Tryz.prog (.loop (loopAt Tryz.f135 1)) (raN H L (i : Nat) 0) (.exit 2) (raN H L (i : Nat) L.length) := by
  refine loop_rule (fun k => raN H L (i : Nat) (k : Nat)) L.length (.exit 2) _ (by simp) (fun k hk => ?_) ?_
  · have hc : cut1 (gtL H i) (gtL L k) = [] := by
      have hm : gtL L k ∈ L := by
        unfold gtL
        rw [List.getD_eq_getElem?_getD, List.getElem?_eq_getElem hk]
        exact List.getElem_mem _
      cases hx : cut1 (gtL H i) (gtL L k) with
      | nil => rfl
      | cons a l =>
        have : a ∈ L.flatMap (cut1 (gtL H i)) := List.mem_flatMap.2 ⟨_, hm, by rw [hx]; exact List.mem_cons_self⟩
        rw [he] at this; cases this
    unfold cut1 at hc
    refine leads_ev (finS_sub 2 keepRa [some 0]) e_nil k_nil noL_ok ((ra_noneN H L (i : Nat) (k : Nat)).trans ?_)
    rw [raC_t hi hk (fun _ => rfl) (fun _ => rfl)]
    cases hs : skipB (gtL H i) (gtL L k).i (gtL L k).o
    · rw [hs, cond_false] at hc
      have hc := List.append_eq_nil_iff.1 hc
      cases h1 : flt (gtL L k).i.t (gtL H i).i.t
      · cases h2 : flt (gtL H i).o.t (gtL L k).o.t
        · rw [w64_next (by omega)]; rfl
        · have := hc.2
          rw [piece_one (g := turnS (gtL H i).o) h2] at this; cases this
      · have := hc.1
        rw [piece_one (e := turnS (gtL H i).i) h1] at this; cases this
    · rw [hs] at hc; cases hc
  · refine leads_ev (finE_sub keepRa [some 0]) e_nil k_nil noL_ok ((ra_endN H L (i : Nat) (L.length : Nat)).trans ?_)
    unfold raC
    rw [dec_self, cond_false]
/-! ### The outer loop -/
open Classical in
noncomputable def ruX (H : List Spn) (i : Int) (L : List Spn) : St := if L = [] then ruN H i else ruS H i L
theorem ruX_nil (H : List Spn) (i : Int) : ruX H i [] = ruN H i := by unfold ruX; rw [if_pos rfl]
theorem ruX_ne {H : List Spn} {i : Int} {L : List Spn} (h : L ≠ []) : ruX H i L = ruS H i L := by unfold ruX; rw [if_neg h]
theorem cutA_take {H : List Spn} {k : Nat} (hk : k < H.length) (l : List Spn) : cutA (H.take (k + 1)) l = (cutA (H.take k) l).flatMap (cut1 (gtL H k)) := by
  unfold cutA
  rw [take_succ' hk, List.foldl_append]; rfl
theorem ris_take {H : List Spn} (h : Ris H) (k : Nat) : Ris (H.take k) := by
  have := List.take_append_drop k H
  rw [← this] at h
  exact ris_left h
theorem ru_leads {H : List Spn} (hH : Ris H) (hl : H.length ≤ 900) {x : Spn} (hx : Gd x) : Leads Tryz.prog (.loop (loopAt Tryz.f135 0)) (ruS H 0 [x]) (.exit 0) (ruX H H.length (cutA H [x])) := by
  have hlen : ∀ k, k ≤ H.length → (cutA (H.take k) [x]).length ≤ 1000 := fun k hk => by
    rw [cutA_eq (ris_take hH k) hx]
    have := cut_len x.o (H.take k) x.i
    rw [List.length_take] at this
    omega
  have hn : ∀ (c : Code), LSound Tryz.prog c (fun _ _ => none) := fun c => none_soundN
  have h : Leads Tryz.prog (.loop (loopAt Tryz.f135 0)) (ruX H (0 : Nat) (cutA (H.take 0) [x])) (.exit 0) (ruX H (H.length : Nat) (cutA (H.take H.length) [x])) := by
    refine loop_rule (fun k => ruX H (k : Nat) (cutA (H.take k) [x])) H.length (.exit 0) _ (by simp) (fun k hk => ?_) ?_
    · show Leads Tryz.prog _ (ruX H (k : Nat) (cutA (H.take k) [x])) .normal (ruX H ((k + 1 : Nat) : Int) (cutA (H.take (k + 1)) [x]))
      rw [cutA_take hk]
      have hle := hlen k (by omega)
      generalize cutA (H.take k) [x] = L at hle
      have ek : w64 ((k : Int) + 1) = ((k + 1 : Nat) : Int) := w64_next (by omega)
      by_cases h0 : L = []
      · subst h0
        rw [List.flatMap_nil, ruX_nil, ruX_nil]
        refine leads_ev (finN_sub keepRu []) e_nil k_nil noL_ok ((ru_stepNN H (k : Nat)).trans ?_)
        rw [dec_lt hk, ek]; rfl
      · rw [ruX_ne h0]
        by_cases h1 : L.flatMap (cut1 (gtL H k)) = []
        · rw [h1, ruX_nil]
          refine leads_ev (finN_sub keepRu []) e_nil k_nil (lok_hd (c := loopAt Tryz.f135 0) (i := 7) 0 (by kernel_rfl) (by kernel_rfl) (toldF_sound (keep := keepRa) (τ := [some 0]) (ra_leadsN hk hle h1))) ((ru_stepN H L (k : Nat)).trans ?_)
          rw [dec_lt hk, gate_pos (Sub.refl _), ek]; rfl
        · rw [ruX_ne h1]
          refine leads_ev (finN_sub keepRu [some 1]) e_nil k_nil (lok_hd (c := loopAt Tryz.f135 0) (i := 7) 0 (by kernel_rfl) (by kernel_rfl) (toldN_sound (keep := keepRa) (nils := [(7, 1, 6)]) (nr := roL []) (τ := [some 0, none]) (ra_leads hk hle))) ((ru_step H L (k : Nat) (L.flatMap (cut1 (gtL H k)))).trans ?_)
          rw [dec_lt hk, gate_pos (Sub.refl _), ek]; rfl
    · by_cases h0 : cutA (H.take H.length) [x] = []
      · rw [h0, ruX_nil]
        refine leads_ev (finE_sub keepRu []) e_nil k_nil (lok_none 7) ((ru_endN H (H.length : Nat)).trans ?_)
        rw [dec_self, cond_false]
      · rw [ruX_ne h0]
        refine leads_ev (finE_sub keepRu [some 0]) e_nil k_nil (lok_none 7) ((ru_end H _ (H.length : Nat)).trans ?_)
        rw [dec_self, cond_false]
  rw [List.take_length] at h
  have e0 : ruX H ((0 : Nat) : Int) (cutA (H.take 0) [x]) = ruS H 0 [x] := ruX_ne (by intro h; cases h)
  rw [e0] at h
  exact h
theorem rc_sub (H : List Spn) (x : Spn) : Sub (ruR H 0 1 (chunk x.c 6)) (ruS H 0 [x]) := sub_same ⟨Or.inr ⟨62, 6, 1, _, _, rfl, rfl, fun q hq => by
  have : q = 0 := by omega
  subst this
  rfl⟩, trivial⟩
/-- What is left of a span: the code's cut, in one go. -/
theorem rc_spec {H : List Spn} (hH : Ris H) (hl : H.length ≤ 900) {x : Spn} (hx : Gd x) : (cutC x.o H x.i = [] → FSpec Tryz.prog 135 [.agg x.c, slL H] (.x (.slice none 0 0))) ∧ (cutC x.o H x.i ≠ [] → FSpec Tryz.prog 135 [.agg x.c, slL H] (slL (cutC x.o H x.i))) := by
  have lead := ru_leads hH hl hx
  rw [cutA_eq hH hx] at lead
  refine ⟨fun h => ?_, fun h => ?_⟩
  · rw [h, ruX_nil] at lead
    exact gspec e_nil k_nil Tryz.func135 (by kernel_rfl) (by kernel_rfl) (lok_hd (c := bodyOf Tryz.f135) (i := 3) 1 (by kernel_rfl) (by kernel_rfl) (toldF_sound (keep := keepRu) (τ := [some 1]) lead)) rfl ((rc_evN H x).trans (gate_pos (rc_sub H x)))
  · rw [ruX_ne h] at lead
    refine gspec e_nil k_nil Tryz.func135 (by kernel_rfl) (by kernel_rfl) (lok_hd (c := bodyOf Tryz.f135) (i := 3) 1 (by kernel_rfl) (by kernel_rfl) (toldF_sound (keep := keepRu) (τ := [some 1]) lead)) rfl ((rc_ev H (cutC x.o H x.i) x).trans ?_)
    rw [gate_pos (rc_sub H x), slL_eq]
end Go.Proofs.YtancjnambbkhmaaGreat.Hs.So

namespace Go.Proofs.YtancjnambbkhmaaGreat.Hs.So
open Go.Gv
open Go.Ev (cn fadd fsub fmul fdiv fsqrt fneg feq flt fle fgt fge fabs isNan key flt_key fgt_key feq_key)

/-! ### Both -/
def cbR (A B : List Spn) (i j : Int) (m : Nat) (el : Nat → List AV) : St := mkS 154 [(1, slL A), (2, slL B), (7, .osl 0 6 0 m), (8, iA i), (9, iA j)] [.a 62 6 m el]
def cbS (A B : List Spn) (i j : Int) (R : List Spn) : St := cbR A B i j R.length (elL R)
def keepCb : List Nat := [1, 2, 7, 8, 9]
def cuS (A B : List Spn) (i : Int) (R : List Spn) : St := mkS 154 [(1, slL A), (2, slL B), (7, .osl 0 6 0 R.length), (8, iA i)] [roL R]
def keepCu : List Nat := [1, 2, 7, 8]
section
variable (A B : List Spn) (i j : Int) (R R' : List Spn)
def cbM (f : Spn → Option Out) (o : Option Out) (xi xo : Crs) : Option Out := cond (flt xi.t xo.t) (cond (apB R.length 48 || false) (f ⟨xi, xo⟩) none) o
def cbK (f : Spn → Option Out) (o : Option Out) (a b : Spn) (xi : Crs) : Option Out := cond ((ixB j B.length || false) && true) (cond (flt b.o.t a.o.t) (cond (ixB j B.length || false) (cbM R f o xi b.o) none) (cbM R f o xi a.o)) none
def cbC (f : Spn → Option Out) (o oe : Option Out) : Option Out := cond (decide (j < B.length)) (cond (ixB i A.length || false) (cond ((ixB j B.length || false) && true) (cond (fgt (gtL B j.toNat).i.t (gtL A i.toNat).i.t) (cond (ixB j B.length || false) (cbK B j R f o (gtL A i.toNat) (gtL B j.toNat) (gtL B j.toNat).i) none) (cbK B j R f o (gtL A i.toNat) (gtL B j.toNat) (gtL A i.toNat).i)) none) none) oe
theorem cb_app : evC Tryz.prog [] [] noL (loopAt Tryz.f111 1) (cbS A B i j R) (finS 4 keepCb [some 3]) = cbC A B i j R (fun s => some ⟨.normal, cbR A B i (w64 (j + 1)) (R.length + 1) (apE1 R s), .any⟩) none none := by kernel_rfl
theorem cb_no : evC Tryz.prog [] [] noL (loopAt Tryz.f111 1) (cbS A B i j R) (finS 2 keepCb [some 0]) = cbC A B i j R (fun _ => none) (some ⟨.normal, cbS A B i (w64 (j + 1)) R, .any⟩) none := by kernel_rfl
theorem cb_end : evC Tryz.prog [] [] noL (loopAt Tryz.f111 1) (cbS A B i j R) (finE keepCb [some 0]) = cbC A B i j R (fun _ => none) none (some ⟨.exit 5, cbS A B i j R, .any⟩) := by kernel_rfl
theorem cu_step : evC Tryz.prog [] [] (oneL 12 (toldF keepCb [some 0] (cbS A B i 0 R) (.exit 5) (cbS A B i B.length R'))) (loopAt Tryz.f111 0) (cuS A B i R) (finN keepCu [some 0]) = cond (decide (i < A.length)) (gate (Sub (cbS A B i 0 R) (cbS A B i 0 R)) (some ⟨.normal, cuS A B (w64 (i + 1)) R', .any⟩)) none := by kernel_rfl
theorem cu_end : evC Tryz.prog [] [] (oneL 12 fun _ _ => none) (loopAt Tryz.f111 0) (cuS A B i R) (finE keepCu [some 0]) = cond (decide (i < A.length)) none (some ⟨.exit 3, cuS A B i R, .any⟩) := by kernel_rfl
theorem cm_ev1 : ev Tryz.prog [] [] (oneL 9 (toldN keepCu [(7, 0, 6)] (roL []) [none] (cuS A B 0 []) (.exit 3) (cuS A B A.length R))) Tryz.f111 [iA 1, slL A, slL B] ret = gate (Sub (cuS A B 0 []) (cuS A B 0 [])) (some (Out.of (.sl 6 R.length fun q => elL R (0 + q)))) := by kernel_rfl
end
/-! ### Either -/
def ceR (C : List Spn) (i : Int) (m : Nat) (el : Nat → List AV) : St := mkS 154 [(7, .osl 0 6 0 m), (11, slL C), (12, iA i)] [.a 62 6 m el]
def ceS (C : List Spn) (i : Int) (R : List Spn) : St := ceR C i R.length (elL R)
def keepCe : List Nat := [7, 11, 12]
section
variable (A B C : List Spn) (i : Int) (R : List Spn)
def ceG (b : Bool) : Bool := (ixB i C.length || gF b) && ((ixB (lastI R.length) R.length || gF b) && ((Nat.blt (0 + (lastI R.length).toNat) R.length || gF b) && true))
def ceT (s : Spn) : Bool := cond ((R.length : Int) == 0) true (fgt s.i.t (gtL R (0 + (lastI R.length).toNat)).o.t)
def ceW : Bool := (ixB i C.length || false) && ((ixB (lastI R.length) R.length || false) && ((bl' (lastI R.length) R.length) && true))
def ceC (o1 o2 o3 oe : Option Out) : Option Out := cond (decide (i < C.length)) (cond (ceG C i R ((R.length : Int) == 0)) (cond (ceT R (gtL C i.toNat)) (cond (ixB i C.length || false) (cond (apB R.length 48 || false) o1 none) none)
  (cond (ceW C i R) (cond (fgt (gtL C i.toNat).o.t (gtL R (0 + (lastI R.length).toNat)).o.t) (cond (ixB i C.length || false) (ow' (lastI R.length) R.length o2) none) o3) none)) none) oe
theorem ce_app : evC Tryz.prog [] [] noL (loopAt Tryz.f111 2) (ceS C i R) (finS 3 keepCe [some 2]) = ceC C i R (some ⟨.normal, ceR C (w64 (i + 1)) (R.length + 1) (apE1 R (gtL C i.toNat)), .any⟩) none none none := by kernel_rfl
theorem ce_upd : evC Tryz.prog [] [] noL (loopAt Tryz.f111 2) (ceS C i R) (finS 1 keepCe [some 0]) = ceC C i R none (some ⟨.normal, ceR C (w64 (i + 1)) R.length fun q => mixL (q == 0 + (lastI R.length).toNat) (⟨(gtL R (0 + (lastI R.length).toNat)).i, (gtL C i.toNat).o⟩ : Spn).c (elL R q), .any⟩) (some ⟨.normal, ceS C (w64 (i + 1)) R, .any⟩) none := by kernel_rfl
theorem ce_end : evC Tryz.prog [] [] noL (loopAt Tryz.f111 2) (ceS C i R) (finE keepCe [some 0]) = ceC C i R none none none (some ⟨.exit 7, ceS C i R, .any⟩) := by kernel_rfl
theorem cm_ev2 : ev Tryz.prog [] [kS Tryz.prog 134 fun _ => slL C] (oneL 24 (toldN keepCe [(7, 0, 6)] (roL []) [none] (ceS C 0 []) (.exit 7) (ceS C C.length R))) Tryz.f111 [iA 2, slL A, slL B] ret = gate (FSpec Tryz.prog 134 [slL A, slL B] (slL C)) (gate (Sub (ceS C 0 []) (ceS C 0 [])) (some (Out.of (.sl 6 R.length fun q => elL R (0 + q))))) := by kernel_rfl
end
/-! ### Less -/
def cdR (A B : List Spn) (i : Int) (m : Nat) (el : Nat → List AV) : St := mkS 154 [(1, slL A), (2, slL B), (7, .osl 0 6 0 m), (14, iA i)] [.a 62 6 m el]
def cdS (A B : List Spn) (i : Int) (R : List Spn) : St := cdR A B i R.length (elL R)
def keepCd : List Nat := [1, 2, 7, 14]
section
variable (A B : List Spn) (i : Int) (R X : List Spn)
noncomputable def cdC (v : AV) (o oe : Option Out) : Option Out := cond (decide (i < A.length)) (cond (ixB i A.length || false) (gate (FSpec Tryz.prog 135 [.agg (gtL A i.toNat).c, slL B] v) o) none) oe
theorem cd_step : evC Tryz.prog [] [kS Tryz.prog 135 fun _ => slL X] noL (loopAt Tryz.f111 3) (cdS A B i R) (finN keepCd [some 1]) = cdC A B i (slL X) (cond (acB R.length X.length) (some ⟨.normal, cdR A B (w64 (i + 1)) (R.length + X.length) fun q => mixL (Nat.blt q R.length) (elL R q) (elL X (q - R.length)), .any⟩) none) none := by kernel_rfl
theorem cd_stepN : evC Tryz.prog [] [kS Tryz.prog 135 fun _ => .x (.slice none 0 0)] noL (loopAt Tryz.f111 3) (cdS A B i R) (finN keepCd [some 0]) = cdC A B i (.x (.slice none 0 0)) (some ⟨.normal, cdS A B (w64 (i + 1)) R, .any⟩) none := by kernel_rfl
theorem cd_end : evC Tryz.prog [] [kS Tryz.prog 135 fun _ => .x (.slice none 0 0)] noL (loopAt Tryz.f111 3) (cdS A B i R) (finE keepCd [some 0]) = cdC A B i (.x (.slice none 0 0)) none (some ⟨.exit 1, cdS A B i R, .any⟩) := by kernel_rfl
theorem cm_ev3 : ev Tryz.prog [] [] (oneL 4 (toldN keepCd [(7, 0, 6)] (roL []) [none] (cdS A B 0 []) (.exit 1) (cdS A B A.length R))) Tryz.f111 [iA 3, slL A, slL B] ret = gate (Sub (cdS A B 0 []) (cdS A B 0 [])) (some (Out.of (.sl 6 R.length fun q => elL R (0 + q)))) := by kernel_rfl
end
end Go.Proofs.YtancjnambbkhmaaGreat.Hs.So

namespace Go.Proofs.YtancjnambbkhmaaGreat.Hs.So
open Go.Gv
open Go.Ev (cn fadd fsub fmul fdiv fsqrt fneg feq flt fle fgt fge fabs isNan key flt_key fgt_key feq_key)

/-! ### Both -/
theorem cbC_t {A B : List Spn} {i j : Nat} {R : List Spn} (hi : i < A.length) (hj : j < B.length) (hR : R.length ≤ 1000000) (f : Spn → Option Out) (o oe : Option Out) : cbC A B (i : Nat) (j : Nat) R f o oe = cond (flt (lateS (gtL A i).i (gtL B j).i).t (earlS (gtL A i).o (gtL B j).o).t) (f ⟨lateS (gtL A i).i (gtL B j).i, earlS (gtL A i).o (gtL B j).o⟩) o := by
  unfold cbC cbK cbM lateS earlS
  rw [dec_lt hj, ixB_t hi, ixB_t hj, apB_t (by omega), Int.toNat_natCast, Int.toNat_natCast]
  cases fgt (gtL B j).i.t (gtL A i).i.t <;> cases flt (gtL B j).o.t (gtL A i).o.t <;> rfl
theorem cb_leads {A B : List Spn} {i : Nat} (hi : i < A.length) (hB : B.length ≤ 1000) {R : List Spn} (hR : R.length ≤ 100000) : Leads Tryz.prog (.loop (loopAt Tryz.f111 1)) (cbS A B (i : Nat) 0 R) (.exit 5) (cbS A B (i : Nat) B.length (R ++ B.flatMap (both1 (gtL A i)))) := by
  have h : Leads Tryz.prog (.loop (loopAt Tryz.f111 1)) (cbS A B (i : Nat) (0 : Nat) (R ++ (B.take 0).flatMap (both1 (gtL A i)))) (.exit 5) (cbS A B (i : Nat) (B.length : Nat) (R ++ (B.take B.length).flatMap (both1 (gtL A i)))) := by
    refine loop_rule (fun k => cbS A B (i : Nat) (k : Nat) (R ++ (B.take k).flatMap (both1 (gtL A i)))) B.length (.exit 5) _ (by simp) (fun k hk => ?_) ?_
    · have hl := flat_len (f := both1 (gtL A i)) (fun s => piece_len _ _) (B.take k)
      rw [List.length_take] at hl
      show Leads Tryz.prog _ (cbS A B (i : Nat) (k : Nat) (R ++ (B.take k).flatMap (both1 (gtL A i)))) .normal (cbS A B (i : Nat) ((k + 1 : Nat) : Int) (R ++ (B.take (k + 1)).flatMap (both1 (gtL A i))))
      rw [flat_take hk, ← List.append_assoc]
      have hQ : (R ++ (B.take k).flatMap (both1 (gtL A i))).length ≤ 200000 := by rw [List.length_append]; omega
      generalize R ++ (B.take k).flatMap (both1 (gtL A i)) = Q at hQ
      unfold both1 piece
      cases hf : flt (lateS (gtL A i).i (gtL B k).i).t (earlS (gtL A i).o (gtL B k).o).t
      · rw [cond_false, List.append_nil]
        refine leads_ev (finS_sub 2 keepCb [some 0]) e_nil k_nil noL_ok ((cb_no A B (i : Nat) (k : Nat) Q).trans ?_)
        rw [cbC_t hi hk (by omega), hf, w64_next (by omega)]; rfl
      · rw [cond_true]
        have st := cb_app A B (i : Nat) (k : Nat) Q
        rw [cbC_t hi hk (by omega), hf, w64_next (by omega)] at st
        refine (leads_ev (finS_sub 4 keepCb [some 3]) e_nil k_nil noL_ok st).sub (Sub.refl _) ?_
        unfold cbS
        have hl1 : (Q ++ [(⟨lateS (gtL A i).i (gtL B k).i, earlS (gtL A i).o (gtL B k).o⟩ : Spn)]).length = Q.length + 1 := by rw [List.length_append]; rfl
        rw [hl1]
        exact sub_same ⟨Or.inr ⟨62, 6, Q.length + 1, _, _, rfl, rfl, fun q hq => (elL_app Q _ hq).symm⟩, trivial⟩
    · refine leads_ev (finE_sub keepCb [some 0]) e_nil k_nil noL_ok ((cb_end A B (i : Nat) (B.length : Nat) _).trans ?_)
      unfold cbC
      rw [dec_self, cond_false]
  rw [List.take_length, List.take_zero, List.flatMap_nil, List.append_nil] at h
  exact h
theorem cu_leads {A B : List Spn} (hA : A.length ≤ 200) (hB : B.length ≤ 200) : Leads Tryz.prog (.loop (loopAt Tryz.f111 0)) (cuS A B 0 []) (.exit 3) (cuS A B A.length (bothL A B)) := by
  have hlen : ∀ k, k ≤ A.length → (bothL (A.take k) B).length ≤ 40000 := fun k hk => by
    have h1 := both_len (A := A.take k) (B := B)
    rw [List.length_take] at h1
    have h2 : min k A.length * B.length ≤ 200 * 200 := Nat.mul_le_mul (by omega) hB
    omega
  have h : Leads Tryz.prog (.loop (loopAt Tryz.f111 0)) (cuS A B (0 : Nat) (bothL (A.take 0) B)) (.exit 3) (cuS A B (A.length : Nat) (bothL (A.take A.length) B)) := by
    refine loop_rule (fun k => cuS A B (k : Nat) (bothL (A.take k) B)) A.length (.exit 3) _ (by simp) (fun k hk => ?_) ?_
    · have h1 := cb_leads (A := A) (B := B) hk (by omega) (R := bothL (A.take k) B) (by have := hlen k (by omega); omega)
      have e1 : bothL (A.take k) B ++ B.flatMap (both1 (gtL A k)) = bothL (A.take (k + 1)) B := by
        unfold bothL
        rw [flat_take hk]
      rw [e1] at h1
      refine leads_ev (finN_sub keepCu [some 0]) e_nil k_nil (lok_hd (c := loopAt Tryz.f111 0) (i := 12) 0 (by kernel_rfl) (by kernel_rfl) (toldF_sound (keep := keepCb) (τ := [some 0]) h1)) ((cu_step A B (k : Nat) (bothL (A.take k) B) (bothL (A.take (k + 1)) B)).trans ?_)
      rw [dec_lt hk, gate_pos (Sub.refl _), w64_next (by omega)]; rfl
    · refine leads_ev (finE_sub keepCu [some 0]) e_nil k_nil (lok_none 12) ((cu_end A B (A.length : Nat) (bothL (A.take A.length) B)).trans ?_)
      rw [dec_self, cond_false]
  rw [List.take_length, List.take_zero] at h
  exact h
theorem cm_spec1 {A B : List Spn} (hA : A.length ≤ 200) (hB : B.length ≤ 200) : FSpec Tryz.prog 111 [iA 1, slL A, slL B] (slL (bothL A B)) := by
  refine gspec e_nil k_nil Tryz.func111 (by kernel_rfl) (by kernel_rfl) (lok_at (c := bodyOf Tryz.f111) (i := 9) 0 4 (by kernel_rfl) (by kernel_rfl) (toldN_sound (keep := keepCu) (nils := [(7, 0, 6)]) (nr := roL []) (τ := [none]) (cu_leads hA hB))) rfl ((cm_ev1 A B (bothL A B)).trans ?_)
  rw [gate_pos (Sub.refl _), slL_eq]
/-! ### Either -/
theorem beq_len (R : List Spn) : ((R.length : Int) == 0) = (R.length == 0) := by
  by_cases h : R.length = 0
  · rw [h]; rfl
  · rw [beq_false_of_ne h, beq_false_of_ne (by omega)]
theorem ceC_t {C : List Spn} {i : Nat} {R : List Spn} (hi : i < C.length) (hR : R.length ≤ 1000) (o1 o2 o3 oe : Option Out) : ceC C (i : Nat) R o1 o2 o3 oe = cond ((R.length == 0) || fgt (gtL C i).i.t (lastS R).o.t) o1 (cond (fgt (gtL C i).o.t (lastS R).o.t) o2 o3) := by
  unfold ceC ceG ceT ceW gF
  rw [beq_len, dec_lt hi, ixB_t hi, apB_t (by omega), Int.toNat_natCast]
  by_cases h0 : R.length = 0
  · rw [h0]; rfl
  · rw [lastI_pos (by omega) hR, ow_t (by omega)]
    unfold bl'
    rw [ixB_t (by omega), Int.toNat_natCast, Nat.zero_add, blt_t (by omega), beq_false_of_ne h0, Bool.false_or]
    show cond (fgt (gtL C i).i.t (lastS R).o.t) _ (cond (fgt (gtL C i).o.t (lastS R).o.t) _ _) = _
    rfl
theorem ce_leads {C : List Spn} (hC : C.length ≤ 900) : Leads Tryz.prog (.loop (loopAt Tryz.f111 2)) (ceS C 0 []) (.exit 7) (ceS C C.length (C.foldl swp [])) := by
  have h : Leads Tryz.prog (.loop (loopAt Tryz.f111 2)) (ceS C (0 : Nat) (swF C 0)) (.exit 7) (ceS C (C.length : Nat) (swF C C.length)) := by
    refine loop_rule (fun k => ceS C (k : Nat) (swF C k)) C.length (.exit 7) _ (by simp) (fun k hk => ?_) ?_
    · have hl := swF_len C k (by omega)
      show Leads Tryz.prog _ (ceS C (k : Nat) (swF C k)) .normal (ceS C ((k + 1 : Nat) : Int) (swF C (k + 1)))
      rw [swF_succ hk]
      generalize swF C k = R at hl
      cases ht : (R.length == 0) || fgt (gtL C k).i.t (lastS R).o.t
      · have h0 : 0 < R.length := by
          have := (Bool.or_eq_false_iff.1 ht).1
          have : R.length ≠ 0 := fun e => by rw [e] at this; cases this
          omega
        have es : swp R (gtL C k) = R.set (R.length - 1) ⟨(lastS R).i, lateS (lastS R).o (gtL C k).o⟩ := by unfold swp; rw [ht]; rfl
        rw [es]
        have st := ce_upd C (k : Nat) R
        rw [ceC_t hk (by omega), ht, w64_next (by omega), cond_false] at st
        cases hg : fgt (gtL C k).o.t (lastS R).o.t
        · rw [hg, cond_false] at st
          refine (leads_ev (finS_sub 1 keepCe [some 0]) e_nil k_nil noL_ok st).sub (Sub.refl _) ?_
          have e1 : lateS (lastS R).o (gtL C k).o = (lastS R).o := by unfold lateS; rw [hg]; rfl
          rw [e1]
          have e2 : R.set (R.length - 1) ⟨(lastS R).i, (lastS R).o⟩ = R := by
            apply List.ext_getElem?
            intro q
            rw [List.getElem?_set]
            by_cases e : R.length - 1 = q
            · rw [if_pos e, if_pos (by omega), ← e, List.getElem?_eq_getElem (by omega)]
              show some (lastS R) = _
              unfold lastS
              rw [List.getD_eq_getElem?_getD, List.getElem?_eq_getElem (by omega)]; rfl
            · rw [if_neg e]
          rw [e2]
          exact Sub.refl _
        · rw [hg, cond_true, lastI_pos h0 (by omega), Int.toNat_natCast, Nat.zero_add, Int.toNat_natCast] at st
          refine (leads_ev (finS_sub 1 keepCe [some 0]) e_nil k_nil noL_ok st).sub (Sub.refl _) ?_
          have e1 : lateS (lastS R).o (gtL C k).o = (gtL C k).o := by unfold lateS; rw [hg]; rfl
          rw [e1]
          unfold ceS
          rw [List.length_set]
          refine sub_same ⟨Or.inr ⟨62, 6, R.length, _, _, rfl, rfl, fun q hq => ?_⟩, trivial⟩
          show (gtL (R.set (R.length - 1) _) q).c = mixL (q == R.length - 1) _ (gtL R q).c
          rw [mix_c]
          refine congrArg Spn.c ?_
          show (R.set (R.length - 1) _).getD q dS = cond (q == R.length - 1) ⟨(lastS R).i, (gtL C k).o⟩ (R.getD q dS)
          rw [List.getD_eq_getElem?_getD, List.getD_eq_getElem?_getD, List.getElem?_set]
          by_cases e : q = R.length - 1
          · subst e
            rw [BEq.rfl, if_pos rfl, if_pos (by omega)]; rfl
          · rw [beq_false_of_ne e, if_neg (fun h => e h.symm)]; rfl
      · have es : swp R (gtL C k) = R ++ [gtL C k] := by unfold swp; rw [ht]; rfl
        rw [es]
        have st := ce_app C (k : Nat) R
        rw [ceC_t hk (by omega), ht, w64_next (by omega), cond_true, Int.toNat_natCast] at st
        refine (leads_ev (finS_sub 3 keepCe [some 2]) e_nil k_nil noL_ok st).sub (Sub.refl _) ?_
        unfold ceS
        have hl1 : (R ++ [gtL C k]).length = R.length + 1 := by rw [List.length_append]; rfl
        rw [hl1]
        exact sub_same ⟨Or.inr ⟨62, 6, R.length + 1, _, _, rfl, rfl, fun q hq => (elL_app R _ hq).symm⟩, trivial⟩
    · refine leads_ev (finE_sub keepCe [some 0]) e_nil k_nil noL_ok ((ce_end C (C.length : Nat) (swF C C.length)).trans ?_)
      unfold ceC
      rw [dec_self, cond_false]
  have e1 : swF C C.length = C.foldl swp [] := by unfold swF; rw [List.take_length]
  rw [e1] at h
  exact h
theorem mrg_len : ∀ (A B : List Spn), (mrg A B).length = A.length + B.length
  | [], B => by rw [mrg]; simp
  | a :: A, [] => by rw [mrg]; simp
  | a :: A, b :: B => by
    rw [mrg]
    cases fle a.i.t b.i.t
    · rw [cond_false, List.length_cons, mrg_len (a :: A) B]; simp only [List.length_cons]; omega
    · rw [cond_true, List.length_cons, mrg_len A (b :: B)]; simp only [List.length_cons]; omega
  termination_by A B => A.length + B.length
theorem cm_spec2 {A B : List Spn} (h : A.length + B.length ≤ 900) : FSpec Tryz.prog 111 [iA 2, slL A, slL B] (slL (eitherL A B)) := by
  refine gspec e_nil (k_cons kS_ok k_nil) Tryz.func111 (by kernel_rfl) (by kernel_rfl) (lok_at (c := bodyOf Tryz.f111) (i := 24) 2 4 (by kernel_rfl) (by kernel_rfl) (toldN_sound (keep := keepCe) (nils := [(7, 0, 6)]) (nr := roL []) (τ := [none]) (ce_leads (C := mrg A B) (by rw [mrg_len]; exact h)))) rfl ((cm_ev2 A B (mrg A B) (eitherL A B)).trans ?_)
  rw [gate_pos (jo_spec (by omega)), gate_pos (Sub.refl _), slL_eq]
/-! ### Less -/
theorem gtL_app2 (L X : List Spn) {q : Nat} : gtL (L ++ X) q = cond (Nat.blt q L.length) (gtL L q) (gtL X (q - L.length)) := by
  cases hb : Nat.blt q L.length
  · rw [gt_right (not_blt hb)]; rfl
  · rw [gt_left (Nat.le_of_ble_eq_true hb)]; rfl
theorem cd_leads {A B : List Spn} (hA : A.length ≤ 200) (hB : B.length ≤ 200) (rA : Ris A) (rB : Ris B) : Leads Tryz.prog (.loop (loopAt Tryz.f111 3)) (cdS A B 0 []) (.exit 1) (cdS A B A.length (lessL A B)) := by
  have hlen : ∀ k, k ≤ A.length → (lessL (A.take k) B).length ≤ 40200 := fun k hk => by
    have h1 := less_len (A := A.take k) (B := B)
    rw [List.length_take] at h1
    have h2 : min k A.length * (B.length + 1) ≤ 200 * 201 := Nat.mul_le_mul (by omega) (by omega)
    omega
  have h : Leads Tryz.prog (.loop (loopAt Tryz.f111 3)) (cdS A B (0 : Nat) (lessL (A.take 0) B)) (.exit 1) (cdS A B (A.length : Nat) (lessL (A.take A.length) B)) := by
    refine loop_rule (fun k => cdS A B (k : Nat) (lessL (A.take k) B)) A.length (.exit 1) _ (by simp) (fun k hk => ?_) ?_
    · have e1 : lessL (A.take (k + 1)) B = lessL (A.take k) B ++ cutC (gtL A k).o B (gtL A k).i := by
        unfold lessL
        rw [flat_take hk]
      have hle := hlen k (by omega)
      have gA : Gd (gtL A k) := by
        refine rA.2 _ ?_
        unfold gtL
        rw [List.getD_eq_getElem?_getD, List.getElem?_eq_getElem hk]
        exact List.getElem_mem _
      have rc := rc_spec rB (by omega) gA
      have hc := cut_len (gtL A k).o B (gtL A k).i
      show Leads Tryz.prog _ (cdS A B (k : Nat) (lessL (A.take k) B)) .normal (cdS A B ((k + 1 : Nat) : Int) (lessL (A.take (k + 1)) B))
      rw [e1]
      generalize lessL (A.take k) B = R at hle
      generalize cutC (gtL A k).o B (gtL A k).i = X at hc rc
      by_cases h0 : X = []
      · rw [h0, List.append_nil]
        refine leads_ev (finN_sub keepCd [some 0]) e_nil (k_cons kS_ok k_nil) noL_ok ((cd_stepN A B (k : Nat) R).trans ?_)
        unfold cdC
        rw [dec_lt hk, ixB_t hk, Int.toNat_natCast, gate_pos (rc.1 h0), w64_next (by omega)]; rfl
      · have st := cd_step A B (k : Nat) R X
        have hX : 0 < X.length := List.length_pos_iff.2 h0
        have hac : acB R.length X.length = true := by
          unfold acB
          rw [BEq.rfl, blt_t hX, allB_true fun _ _ => rfl, ble_t (by omega)]; rfl
        unfold cdC at st
        rw [dec_lt hk, ixB_t hk, Int.toNat_natCast, gate_pos (rc.2 h0), w64_next (by omega), hac] at st
        refine (leads_ev (finN_sub keepCd [some 1]) e_nil (k_cons kS_ok k_nil) noL_ok st).sub (Sub.refl _) ?_
        unfold cdS
        rw [List.length_append]
        refine sub_same ⟨Or.inr ⟨62, 6, R.length + X.length, _, _, rfl, rfl, fun q hq => ?_⟩, trivial⟩
        show (gtL (R ++ X) q).c = mixL (Nat.blt q R.length) (gtL R q).c (gtL X (q - R.length)).c
        rw [mix_c, gtL_app2]
    · refine leads_ev (finE_sub keepCd [some 0]) e_nil (k_cons kS_ok k_nil) noL_ok ((cd_end A B (A.length : Nat) (lessL (A.take A.length) B)).trans ?_)
      unfold cdC
      rw [dec_self, cond_false]
  rw [List.take_length, List.take_zero] at h
  exact h
theorem cm_spec3 {A B : List Spn} (hA : A.length ≤ 200) (hB : B.length ≤ 200) (rA : Ris A) (rB : Ris B) : FSpec Tryz.prog 111 [iA 3, slL A, slL B] (slL (lessL A B)) := by
  refine gspec e_nil k_nil Tryz.func111 (by kernel_rfl) (by kernel_rfl) (lok_at (c := bodyOf Tryz.f111) (i := 4) 3 4 (by kernel_rfl) (by kernel_rfl) (toldN_sound (keep := keepCd) (nils := [(7, 0, 6)]) (nr := roL []) (τ := [none]) (cd_leads hA hB rA rB))) rfl ((cm_ev3 A B (lessL A B)).trans ?_)
  rw [gate_pos (Sub.refl _), slL_eq]
end Go.Proofs.YtancjnambbkhmaaGreat.Hs.So

namespace Go.Gv

def SlotLike (x y : AV × Chain) : Prop := x.2 = [] ∧ y.2 = [] ∧ ∀ (E : Env) (v : Value), rel E x.1 v → rel E y.1 v
theorem SlotLike.same (x : AV) : SlotLike (x, []) (x, []) := ⟨rfl, rfl, fun _ _ h => h⟩
def SlotsLike : List (AV × Chain) → List (AV × Chain) → Prop
  | [], [] => True
  | x :: xs, y :: ys => SlotLike x y ∧ SlotsLike xs ys
  | _, _ => False
theorem slots_like : ∀ {xs ys : List (AV × Chain)}, SlotsLike xs ys → ys.length = xs.length ∧ ∀ t, SlotLike (xs.getD t dflt) (ys.getD t dflt)
  | [], [], _ => ⟨rfl, fun _ => ⟨rfl, rfl, fun _ _ h => h⟩⟩
  | x :: xs, y :: ys, h => by
    obtain ⟨h1, h2⟩ := slots_like (xs := xs) (ys := ys) h.2
    refine ⟨by simp [h1], fun t => ?_⟩
    cases t with
    | zero => exact h.1
    | succ t => exact h2 t
  | [], _ :: _, h => h.elim
  | _ :: _, [], h => h.elim
theorem sub_slots {np : Nat} {sl sl' : List (AV × Chain)} {mem : List Row} (h : SlotsLike sl sl') : SubN np ⟨sl, mem⟩ ⟨sl', mem⟩ := by
  obtain ⟨hl, hs⟩ := slots_like h
  intro A0 R w0 E a hp hI
  refine ⟨E, rfl, hI.defers, ?_, hI.wd⟩
  have hf := hI.frame
  refine ⟨⟨by rw [hf.1.1]; exact hl.symm, hf.1.2⟩, fun t => ?_⟩
  have h0 := hf.2 t
  obtain ⟨h1, h2, h3⟩ := hs t
  have h1' : (sl.getD t dflt).2 = [] := h1
  have h2' : (sl'.getD t dflt).2 = [] := h2
  show (tru sl' (sl'.getD t dflt).2 = true → _) ∧ (tru sl' (sl'.getD t dflt).2 = false → _)
  rw [h2']
  refine ⟨fun _ => h3 E _ (h0.1 ?_), fun h' => by cases h'⟩
  show tru sl (sl.getD t dflt).2 = true
  rw [h1']
  rfl
theorem slotsLike_map {f g : Nat → AV × Chain} (h : ∀ i, SlotLike (f i) (g i)) : ∀ l : List Nat, SlotsLike (l.map f) (l.map g)
  | [] => trivial
  | i :: l => ⟨h i, slotsLike_map h l⟩
/-- The last slot that is told, told more weakly. -/
theorem sub_mk1 {np n k : Nat} {l : List (Nat × AV)} {x y : AV} {mem : List Row} (h : ∀ (E : Env) (v : Value), rel E x v → rel E y v) : SubN np (mkS n (l ++ [(k, x)]) mem) (mkS n (l ++ [(k, y)]) mem) := by
  refine sub_slots (slotsLike_map (fun i => ?_) _)
  refine ⟨rfl, rfl, fun E v hv => ?_⟩
  simp only [List.find?_append] at hv ⊢
  cases hf : l.find? (fun p => Nat.beq p.1 i) with
  | some p => rw [hf] at hv; exact hv
  | none =>
    rw [hf] at hv
    simp only [Option.none_or, List.find?_cons, List.find?_nil] at hv ⊢
    cases hb : Nat.beq k i with
    | true => rw [hb] at hv; exact h E v hv
    | false => rw [hb] at hv; exact hv
end Go.Gv

namespace Go.Proofs.YtancjnambbkhmaaGreat.Hs.So
open Go.Gv
open Go.Ev (cn fadd fsub fmul fdiv fsqrt fneg feq flt fle fgt fge fabs isNan key flt_key fgt_key feq_key)

def soR (n : Nat) (P : Nat → Prt) (r : Nat → Nat) (i : Int) (m : Nat) (el : Nat → List AV) : St := mkS 72 [(0, prS n P), (3, .own 0 0), (5, .osl 1 1 0 m), (6, iA i)] [.c (rC r), .a 57 1 m el]
def soT (n : Nat) (P : Nat → Prt) (r : Nat → Nat) (i : Int) (m : Nat) (W : Nat → List Spn) : St := soR n P r i m fun q => [slL (W q)]
def keepSo : List Nat := [0, 3, 5, 6]
/-- nil is told as a slice with nothing in it. -/
def nilZ (t : Nat) : ZFun := fun s k => match s.slots[t]? with
  | some (.x (.slice none 0 0), _) => cond (s.slots.all fun q => q.2.isEmpty) (k ⟨s.slots.set t (slL [], []), s.mem⟩) none
  | _ => none
def oneT : ZFun := fun s k => cond (Nat.beq s.mem.length 5) (frzK 4 s k) (nilZ 12 s k)
def oneF (s : Spn) : AV := .sl 6 1 fun q => mixL (Nat.blt q 0) [] s.c
section
variable (w : List AV → (Nat → Nat) → Wit) (b1 : List AV → List Spn) (n : Nat) (P : Nat → Prt) (r : Nat → Nat) (i : Int) (m : Nat) (W : Nat → List Spn)
def soA (p : Prt) : List AV := [iA p.op, slL (W (0 + p.l.toNat)), slL (W (0 + p.r.toNat))]
def soJ (l r : Int) (m : Nat) : Bool := (ixB l m || false) && ((bl' l m) && ((ixB r m || false) && ((bl' r m) && ((apB m 24 || false) && true))))
def soW (p : Prt) : Wit := w p.s (l7 r)
noncomputable def soP (f : AV → Option Out) (g : AV → Option Out) (oe : Option Out) : Option Out := cond (decide (i < n)) (cond (ixB i n || false) (cond (decide ((P i.toNat).op > 0)) (gate (FSpec Tryz.prog 111 (soA W (P i.toNat)) (slL (b1 (soA W (P i.toNat))))) (cond (soJ (P i.toNat).l (P i.toNat).r m) (f (slL (b1 (soA W (P i.toNat))))) none))
  (cond (soW w r (P i.toNat)).ok (cond (apB m 24 || false) (g (oneF ⟨⟨(soW w r (P i.toNat)).i, i, false⟩, ⟨(soW w r (P i.toNat)).o, i, false⟩⟩)) none) (cond (apB m 24 || false) (f (slL [])) none))) none) oe
noncomputable def soK : List KEntry := [kS Tryz.prog 111 fun v => slL (b1 v)]
theorem so_st5 : evCZ Tryz.prog [⟨20, eScY fun c r => (w c r).v⟩] (soK b1) [] noL (oneZ 12 oneT) (loopAt Tryz.f74 0) (soT n P r i m W) (finS 5 keepSo [some 0, some 4]) = soP w b1 n P r i m W (fun v => some ⟨.normal, soR n P r (w64 (i + 1)) (m + 1) fun q => mixL (Nat.blt q m) [slL (W q)] [v], .any⟩) (fun _ => none) none := by kernel_rfl
theorem so_st7 : evCZ Tryz.prog [⟨20, eScY fun c r => (w c r).v⟩] (soK b1) [] noL (oneZ 12 oneT) (loopAt Tryz.f74 0) (soT n P r i m W) (finS 7 keepSo [some 0, some 6]) = soP w b1 n P r i m W (fun _ => none) (fun v => some ⟨.normal, soR n P r (w64 (i + 1)) (m + 1) fun q => mixL (Nat.blt q m) [slL (W q)] [v], .any⟩) none := by kernel_rfl
theorem so_end : evCZ Tryz.prog [⟨20, eScY fun c r => (w c r).v⟩] (soK b1) [] noL (oneZ 12 oneT) (loopAt Tryz.f74 0) (soT n P r i m W) (finE keepSo [some 0, some 1]) = soP w b1 n P r i m W (fun _ => none) (fun _ => none) (some ⟨.exit 0, soT n P r i m W, .any⟩) := by kernel_rfl
theorem so_ev74 : ev Tryz.prog [] [] (oneL 3 (toldN keepSo [(5, 1, 1)] (.a 57 1 0 fun q => [slL (W q)]) [some 0, none] (soT n P r 0 0 W) (.exit 0) (soT n P r n n W))) Tryz.f74 [prS n P, RY r] ret = gate (Sub (soT n P r 0 0 W) (soT n P r 0 0 W)) (ow' (w64 ((n : Int) - 1)) n (some (Out.of (slL (W (0 + (w64 ((n : Int) - 1)).toNat)))))) := by kernel_rfl
end
end Go.Proofs.YtancjnambbkhmaaGreat.Hs.So

namespace Go.Proofs.YtancjnambbkhmaaGreat.Hs.So
open Go.Gv
open Go.Ev (cn fadd fsub fmul fdiv fsqrt fneg feq flt fle fgt fge fabs isNan key flt_key fgt_key feq_key)

theorem slotsLike_of : ∀ {xs ys : List (AV × Chain)}, ys.length = xs.length → (∀ t, t < xs.length → SlotLike (xs.getD t dflt) (ys.getD t dflt)) → SlotsLike xs ys
  | [], [], _, _ => trivial
  | x :: xs, y :: ys, h, g => ⟨g 0 (by simp), slotsLike_of (by simpa using h) fun t ht => g (t + 1) (by simpa using ht)⟩
  | [], _ :: _, h, _ => by simp at h
  | _ :: _, [], h, _ => by simp at h
theorem nilZ_ok (t : Nat) : ZSoundN 0 (nilZ t) := fun s k r h => by
  unfold nilZ at h
  split at h
  · rename_i ch hs
    cases hb : s.slots.all fun q => q.2.isEmpty
    · rw [hb] at h; cases h
    · rw [hb, cond_true] at h
      refine ⟨_, h, ?_⟩
      have hall : ∀ u, u < s.slots.length → (s.slots.getD u dflt).2 = [] := fun u hu => by
        rw [List.getD_eq_getElem?_getD, List.getElem?_eq_getElem hu]
        have := List.all_eq_true.1 hb s.slots[u] (List.getElem_mem _)
        simpa using this
      refine sub_slots (slotsLike_of (by simp) fun u hu => ?_)
      have h1 := hall u hu
      by_cases e : u = t
      · subst e
        have e1 : s.slots.getD u dflt = (.x (.slice none 0 0), ch) := by rw [List.getD_eq_getElem?_getD, hs]; rfl
        have e2 : (s.slots.set u (slL [], [])).getD u dflt = (slL [], []) := by rw [List.getD_eq_getElem?_getD, List.getElem?_set_self hu]; rfl
        rw [e1] at h1 ⊢
        rw [e2]
        exact ⟨h1, rfl, fun E v hv => rel_nil_sl hv⟩
      · have e2 : (s.slots.set t (slL [], [])).getD u dflt = s.slots.getD u dflt := by rw [List.getD_eq_getElem?_getD, List.getD_eq_getElem?_getD, List.getElem?_set_ne (fun h => e h.symm)]
        rw [e2]
        exact ⟨h1, h1, fun E v hv => hv⟩
  · cases h
theorem oneT_ok : ZSoundN 0 oneT := fun s k r h => by
  unfold oneT at h
  cases hb : Nat.beq s.mem.length 5
  · rw [hb] at h; exact nilZ_ok 12 s k r h
  · rw [hb] at h; exact frzK_ok 4 s k r h
def cmG : List AV → List Spn
  | [.x (.int .i64 o), .sl _ m el, .sl _ m' el'] => rowV o [] (decL m el) (decL m' el')
  | _ => []
theorem cmG_eq (o : Int) (A B : List Spn) : cmG [iA o, slL A, slL B] = rowV o [] A B := by
  show rowV o [] (decL A.length (elL A)) (decL B.length (elL B)) = _
  rw [decL_el, decL_el]
theorem soE74 : ∀ e, e ∈ [(⟨20, eScY fun c r => (witC c r).v⟩ : Entry)] → EOk Tryz.prog e := e_cons (eScY_ok fun k a sk r => (witC_spec k a sk r).2.1) e_nil
theorem soJ_t {l r m : Nat} (h1 : l < m) (h2 : r < m) (h3 : m ≤ 1000) : soJ (l : Nat) (r : Nat) m = true := by
  unfold soJ bl'
  rw [ixB_t h1, ixB_t h2, Int.toNat_natCast, Int.toNat_natCast, Nat.zero_add, Nat.zero_add, blt_t h1, blt_t h2, apB_t (by omega)]
  rfl
theorem leads_Z {n : Nat} {P : Nat → Prt} {r : Nat → Nat} {s s' : St} {e : Exit} {k : Kont} (hk : KSub k) (h : evCZ Tryz.prog [⟨20, eScY fun c r => (witC c r).v⟩] (soK cmG) [] noL (oneZ 12 oneT) (loopAt Tryz.f74 0) s k = some ⟨e, s', .any⟩) (_ : soT n P r 0 0 (fun _ => []) = soT n P r 0 0 (fun _ => [])) : Leads Tryz.prog (loopAt Tryz.f74 0) s e s' :=
  leads_ofZ hk (oneZ_ok oneT_ok) (tabM_ok soE74 (k_cons kS_ok k_nil) m_nil) (drawnK_ok (tabM_ok soE74 (k_cons kS_ok k_nil) m_nil) (by kernel_rfl)) noL_ok h
theorem mix_sl2 (b : Bool) (A : List Spn) (k : Nat) (X : Nat → Spn) : mixL b [slL A] [.sl 6 k (elX X)] = [cond b (slL A) (.sl 6 k (elX X))] := by
  have e : mixL b [slL A] [.sl 6 k (elX X)] = [.sl 6 (cond b A.length k) fun i => mixL b (gtL A i).c (X i).c] := rfl
  rw [e]
  cases b
  · have : (fun i => mixL false (gtL A i).c (X i).c) = elX X := by funext i; rw [mix_c]; rfl
    rw [this]; rfl
  · have : (fun i => mixL true (gtL A i).c (X i).c) = elL A := by funext i; rw [mix_c]; rfl
    rw [this]; rfl
/-- One more row. -/
theorem so_more {n : Nat} {P : Nat → Prt} {r : Nat → Nat} {i : Int} {m : Nat} {W W' : Nat → List Spn} {k : Nat} {X : Nat → Spn} (h1 : ∀ q, q < m → W' q = W q) (h2 : k = (W' m).length) (h3 : ∀ j, j < k → X j = gtL (W' m) j) : Sub (soR n P r i (m + 1) fun q => mixL (Nat.blt q m) [slL (W q)] [.sl 6 k (elX X)]) (soT n P r i (m + 1) W') := by
  subst h2
  refine sub_like ⟨Or.inl rfl, Or.inr (Or.inl ⟨57, 1, m + 1, _, _, rfl, rfl, fun q hq => ?_⟩), trivial⟩
  rw [mix_sl2]
  refine ⟨rfl, fun E cs hc => ?_⟩
  obtain ⟨u, us, e0, p1, p2⟩ := pre_cons.1 hc
  refine pre_cons.2 ⟨u, us, e0, ?_, pre_nil⟩
  cases hb : Nat.blt q m
  · have hge := not_blt hb
    have eq : q = m := by omega
    subst eq
    rw [hb] at p1
    exact sl_congr (fun j hj => by show (X j).c = (gtL (W' q) j).c; rw [h3 j hj]) p1
  · rw [hb] at p1
    rw [h1 q (Nat.le_of_ble_eq_true hb)]
    exact p1
theorem soP_t {n : Nat} {P : Nat → Prt} {r : Nat → Nat} {k : Nat} (hk : k < n) (hn : n ≤ 16) (hp : ∀ k, k < n → ppE (P k) (k : Nat) = 0) (f g : AV → Option Out) (oe : Option Out) :
    soP witC cmG n P r (k : Nat) k (rwF (plP P r) k) f g oe = cond (decide ((P k).op > 0)) (f (slL (rowV (P k).op [] (rwF (plP P r) k (P k).l.toNat) (rwF (plP P r) k (P k).r.toNat)))) (cond (witC (P k).s (l7 r)).ok (g (oneF ⟨⟨(witC (P k).s (l7 r)).i, (k : Nat), false⟩, ⟨(witC (P k).s (l7 r)).o, (k : Nat), false⟩⟩)) (f (slL []))) := by
  unfold soP
  rw [dec_lt hk, ixB_t hk, Int.toNat_natCast, apB_t (by omega)]
  by_cases h0 : (P k).op > 0
  · rw [decide_eq_true h0]
    rcases pr_ok (hp k hk) with h | ⟨h, l, rr, e1, e2, h1, h2⟩
    · omega
    · have pok := pl_ok r hp
      have il := rw_ok pok k (by omega) l h1
      have ir := rw_ok pok k (by omega) rr h2
      have ll := rw_len pok (by omega) h1 (by omega)
      have lr := rw_len pok (by omega) h2 (by omega)
      unfold soA
      rw [e1, e2, Int.toNat_natCast, Int.toNat_natCast, Nat.zero_add, Nat.zero_add, cmG_eq, soJ_t h1 h2 (by omega)]
      have hs : FSpec Tryz.prog 111 [iA (P k).op, slL (rwF (plP P r) k l), slL (rwF (plP P r) k rr)] (slL (rowV (P k).op [] (rwF (plP P r) k l) (rwF (plP P r) k rr))) := by
        rcases op_three (hp k hk) h with h3 | h3 | h3 <;> rw [h3]
        · exact cm_spec1 (by omega) (by omega)
        · exact cm_spec2 (by omega)
        · exact cm_spec3 (by omega) (by omega) il.ris ir.ris
      rw [gate_pos hs]
      rfl
  · rw [decide_eq_false h0]
    rfl
theorem rwF_low (p : Pl) (k q : Nat) (h : q < k) : rwF p (k + 1) q = rwF p k q := if_neg (by omega)
theorem so_leads {n : Nat} (hn : n ≤ 16) {P : Nat → Prt} (r : Nat → Nat) (hp : ∀ k, k < n → ppE (P k) (k : Nat) = 0) : Leads Tryz.prog (.loop (loopAt Tryz.f74 0)) (soT n P r 0 0 (rwF (plP P r) n)) (.exit 0) (soT n P r n n (rwF (plP P r) n)) := by
  have h0 : Leads Tryz.prog (.loop (loopAt Tryz.f74 0)) (soT n P r (0 : Nat) 0 (rwF (plP P r) 0)) (.exit 0) (soT n P r (n : Nat) n (rwF (plP P r) n)) := by
    refine loop_rule (fun k => soT n P r (k : Nat) k (rwF (plP P r) k)) n (.exit 0) _ (by simp) (fun k hk => ?_) ?_
    · have er : rwF (plP P r) (k + 1) k = rowV (P k).op (lfL (k : Nat) (P k).s (l7 r)) (rwF (plP P r) k (P k).l.toNat) (rwF (plP P r) k (P k).r.toNat) := if_pos rfl
      have s5 := so_st5 witC cmG n P r (k : Nat) k (rwF (plP P r) k)
      have s7 := so_st7 witC cmG n P r (k : Nat) k (rwF (plP P r) k)
      rw [soP_t hk hn hp, w64_next (by omega)] at s5 s7
      by_cases ho : (P k).op > 0
      · rw [decide_eq_true ho, cond_true] at s5
        refine (leads_Z (n := n) (P := P) (r := r) (finS_sub 5 keepSo [some 0, some 4]) s5 rfl).sub (Sub.refl _) ?_
        have e : rwF (plP P r) (k + 1) k = rowV (P k).op [] (rwF (plP P r) k (P k).l.toNat) (rwF (plP P r) k (P k).r.toNat) := by
          rw [er]; unfold rowV; rw [beq_false_of_ne (by omega)]; rfl
        exact so_more (X := gtL (rowV (P k).op [] (rwF (plP P r) k (P k).l.toNat) (rwF (plP P r) k (P k).r.toNat))) (fun q hq => rwF_low _ _ _ hq) (by rw [e]) (fun j hj => by rw [e])
      · rw [decide_eq_false ho, cond_false] at s5 s7
        have hz : (P k).op = 0 := by
          rcases pr_ok (hp k hk) with h | ⟨h, _⟩
          · exact h
          · have := op_three (hp k hk) h
            omega
        have e : rwF (plP P r) (k + 1) k = lfL (k : Nat) (P k).s (l7 r) := by rw [er]; unfold rowV; rw [hz]; rfl
        unfold lfL at e
        cases hw : (witC (P k).s (l7 r)).ok
        · rw [hw] at s5 e
          refine (leads_Z (n := n) (P := P) (r := r) (finS_sub 5 keepSo [some 0, some 4]) s5 rfl).sub (Sub.refl _) ?_
          exact so_more (k := 0) (X := gtL []) (fun q hq => rwF_low _ _ _ hq) (by rw [e]; rfl) (fun j hj => absurd hj (Nat.not_lt_zero j))
        · rw [hw] at s7 e
          refine (leads_Z (n := n) (P := P) (r := r) (finS_sub 7 keepSo [some 0, some 6]) s7 rfl).sub (Sub.refl _) ?_
          refine so_more (k := 1) (X := fun _ => ⟨⟨(witC (P k).s (l7 r)).i, (k : Nat), false⟩, ⟨(witC (P k).s (l7 r)).o, (k : Nat), false⟩⟩) (fun q hq => rwF_low _ _ _ hq) (by rw [e]; rfl) (fun j hj => ?_)
          have : j = 0 := by omega
          subst this
          rw [e]; rfl
    · refine leads_Z (n := n) (P := P) (r := r) (finE_sub keepSo [some 0, some 1]) ((so_end witC cmG n P r (n : Nat) n (rwF (plP P r) n)).trans ?_) rfl
      unfold soP
      rw [dec_self, cond_false]
  exact h0.sub (sub_same ⟨Or.inl rfl, Or.inr ⟨57, 1, 0, _, _, rfl, rfl, fun q hq => absurd hq (Nat.not_lt_zero q)⟩, trivial⟩) (Sub.refl _)
theorem rsp_spec {n : Nat} (h1 : 1 ≤ n) (hn : n ≤ 16) {P : Nat → Prt} (r : Nat → Nat) (hp : ∀ k, k < n → ppE (P k) (k : Nat) = 0) : FSpec Tryz.prog 74 [prS n P, RY r] (slL (soS n P r)) := by
  have hL := lok_hd (c := bodyOf Tryz.f74) (i := 3) 0 (by kernel_rfl) (by kernel_rfl) (toldN_sound (keep := keepSo) (nils := [(5, 1, 1)]) (nr := .a 57 1 0 fun q => [slL (rwF (plP P r) n q)]) (τ := [some 0, none]) (so_leads hn r hp))
  refine gspec e_nil k_nil Tryz.func74 (by kernel_rfl) (by kernel_rfl) hL rfl ((so_ev74 n P r (rwF (plP P r) n)).trans ?_)
  rw [gate_pos (Sub.refl _), w64_id (by omega) (by omega), show ((n : Int) - 1) = ((n - 1 : Nat) : Int) by omega, ow_t (by omega), Int.toNat_natCast, Nat.zero_add]
  rfl
end Go.Proofs.YtancjnambbkhmaaGreat.Hs.So

namespace Go.Proofs.YtancjnambbkhmaaGreat.Hs.So
open Go.Gv
open Go.Ev (cn fadd fsub fmul fdiv fsqrt fneg feq flt fle fgt fge fabs isNan key flt_key fgt_key feq_key)

def tkB (lo : Nat) (c : Crs) : Bool := cond (fge c.t lo) (fgt c.t 0) false
def c0 : Crs := ⟨0, 0, false⟩
def fiS (lo : Nat) (L : List Spn) (i : Int) : St := mkS 37 [(1, .f lo), (4, .own 0 0), (10, slL L), (11, iA L.length), (12, iA i)] [.c c0.c]
def fiR (c : Crs) : St := mkS 37 [(4, .own 0 0), (5, bA true)] [.c c.c]
def keepFi : List Nat := [1, 4, 10, 11, 12]
section
variable (lo : Nat) (L : List Spn) (i : Int)
def fiC (f : Crs → Option Out) (o oe : Option Out) : Option Out := cond (decide (i < L.length)) (cond (ixB i L.length || false) (cond (tkB lo (gtL L i.toNat).i) (f (gtL L i.toNat).i) (cond (tkB lo (gtL L i.toNat).o) (f (gtL L i.toNat).o) o)) none) oe
theorem fi_step : evC Tryz.prog [] [] noL (loopAt Tryz.f76 0) (fiS lo L i) (finN keepFi [some 0]) = fiC lo L i (fun _ => none) (some ⟨.normal, fiS lo L (w64 (i + 1)), .any⟩) none := by kernel_rfl
theorem fi_ret : evC Tryz.prog [] [] noL (loopAt Tryz.f76 0) (fiS lo L i) (finR [4, 5] [some 0]) = fiC lo L i (fun c => some ⟨.ret, fiR c, .any⟩) none none := by kernel_rfl
theorem fi_end : evC Tryz.prog [] [] noL (loopAt Tryz.f76 0) (fiS lo L i) (finE keepFi [some 0]) = fiC lo L i (fun _ => none) none (some ⟨.exit 0, fiS lo L i, .any⟩) := by kernel_rfl
theorem fi_evG (j : Int) : ev Tryz.prog [] [] (oneL 2 (toldF keepFi [some 0] (fiS lo L 0) (.exit 0) (fiS lo L j))) Tryz.f76 [slL L, .f lo] ret = gate (Sub (fiS lo L 0) (fiS lo L 0)) (some (Out.of (.tup [c0.v, bA false]))) := by kernel_rfl
theorem fi_evR (c : Crs) : ev Tryz.prog [] [] (oneL 2 (toldF keepFi [some 0] (fiS lo L 0) .ret (fiR c))) Tryz.f76 [slL L, .f lo] ret = gate (Sub (fiS lo L 0) (fiS lo L 0)) (some (Out.of (.tup [c.v, bA true]))) := by kernel_rfl
end
theorem bw_ev (t n f : Nat) : ev Tryz.prog [] [] noL Tryz.f77 [.f t, .f n, .f f] ret = cond (!(fgt t n)) (cond (!(flt n f)) (some (Out.of (.f f))) (some (Out.of (.f n)))) (cond (!(flt t f)) (some (Out.of (.f f))) (some (Out.of (.f t)))) := by kernel_rfl
/-! ### Spans -/
section
variable (n : Nat) (P : Nat → Prt) (sn : Int) (r : Nat → Nat) (e e' : Int) (S : List Spn)
theorem mm_ev : ev Tryz.prog [] [kS Tryz.prog 26 fun _ => iA e, kS Tryz.prog 87 fun _ => iA e'] noL Tryz.f72 [.agg (soC n P sn), RY r] ret = gate (FSpec Tryz.prog 26 [.agg (soC n P sn)] (iA e)) (cond (!(e == 0)) (some (Out.of (iA e))) (gate (FSpec Tryz.prog 87 [RY r] (iA e')) (some (Out.of (iA e'))))) := by kernel_rfl
theorem ss_ev : ev Tryz.prog [] [kS Tryz.prog 72 fun _ => iA e, kS Tryz.prog 73 fun _ => slL S] noL Tryz.f28 [.agg (soC n P sn), RY r] ret = gate (FSpec Tryz.prog 72 [.agg (soC n P sn), RY r] (iA e)) (cond (!(e == 0)) (some (Out.of (.tup [.x (.slice none 0 0), iA e]))) (gate (FSpec Tryz.prog 73 [prS n P, RY r] (slL S)) (some (Out.of (.tup [slL S, iA 0]))))) := by kernel_rfl
theorem rss_ev : ev Tryz.prog [] [kS Tryz.prog 27 fun _ => iA e, kS Tryz.prog 47 fun _ => iA e', kS Tryz.prog 74 fun _ => slL S] noL Tryz.f29 [.agg (soC n P sn), RY r] ret = gate (FSpec Tryz.prog 27 [.agg (soC n P sn)] (iA e)) (cond (e == 0) (gate (FSpec Tryz.prog 47 [RY r] (iA e')) (cond (!(e' == 0)) (some (Out.of (.tup [.x (.slice none 0 0), iA e']))) (gate (FSpec Tryz.prog 74 [prS n P, RY r] (slL S)) (some (Out.of (.tup [slL S, iA 0])))))) (cond (!(e == 0)) (some (Out.of (.tup [.x (.slice none 0 0), iA e]))) (gate (FSpec Tryz.prog 74 [prS n P, RY r] (slL S)) (some (Out.of (.tup [slL S, iA 0])))))) := by kernel_rfl
end
end Go.Proofs.YtancjnambbkhmaaGreat.Hs.So

namespace Go.Proofs.YtancjnambbkhmaaGreat.Hs.So
open Go.Gv
open Go.Ev (cn fadd fsub fmul fdiv fsqrt fneg feq flt fle fgt fge fabs isNan key flt_key fgt_key feq_key)

/-- The errno of a solid and a ray. -/
noncomputable def srE (n : Nat) (P : Nat → Prt) (sn : Int) (r : Nat → Nat) : Int := cond (soE n P sn == 0) (rayS r) (soE n P sn)
theorem mm_spec (n : Nat) (P : Nat → Prt) (sn : Int) (r : Nat → Nat) : FSpec Tryz.prog 72 [.agg (soC n P sn), RY r] (iA (srE n P sn r)) := by
  refine gspec e_nil (k_cons kS_ok (k_cons kS_ok k_nil)) Tryz.func72 (by kernel_rfl) (by kernel_rfl) noL_ok rfl ((mm_ev n P sn r (soE n P sn) (rayS r)).trans ?_)
  rw [gate_pos (smay_spec n P sn), gate_pos (sfine r)]
  unfold srE
  cases soE n P sn == 0 <;> rfl
/-- The spans of a solid, or none. -/
noncomputable def srS' (n : Nat) (P : Nat → Prt) (sn : Int) (r : Nat → Nat) : List Spn := cond (srE n P sn r == 0) (soS n P r) []
theorem srE_ok {n : Nat} {P : Nat → Prt} {sn : Int} {r : Nat → Nat} (h : srE n P sn r = 0) : soE n P sn = 0 ∧ rayS r = 0 := by
  unfold srE at h
  by_cases e : soE n P sn = 0
  · rw [e] at h; exact ⟨e, h⟩
  · rw [beq_false_of_ne e] at h; exact absurd h e
theorem tup_nil {E : Env} {v : Value} {e : Int} (h : rel E (.tup [.x (.slice none 0 0), iA e]) v) : rel E (.tup [slL [], iA e]) v := by
  obtain ⟨vs, e1, h1⟩ := rel_tup.1 h
  refine rel_tup.2 ⟨vs, e1, ?_⟩
  obtain ⟨u, us, e2, h2, h3⟩ := rels_cons.1 h1
  exact rels_cons.2 ⟨u, us, e2, rel_nil_sl h2, h3⟩
theorem ss_spec (n : Nat) (P : Nat → Prt) (sn : Int) (r : Nat → Nat) : FSpec Tryz.prog 28 [.agg (soC n P sn), RY r] (.tup [slL (srS' n P sn r), iA (srE n P sn r)]) := by
  have h := ss_ev n P sn r (srE n P sn r) (soS n P r)
  rw [gate_pos (mm_spec n P sn r)] at h
  unfold srS'
  by_cases e : srE n P sn r = 0
  · have ok := so_ok (srE_ok e).1
    rw [gate_pos (sp_spec ok.1 ok.2.1 r ok.2.2), e] at h
    rw [e]
    exact gspec e_nil (k_cons kS_ok (k_cons kS_ok k_nil)) Tryz.func28 (by kernel_rfl) (by kernel_rfl) noL_ok rfl h
  · rw [beq_false_of_ne e] at h ⊢
    exact FSpec.of_val (gspec e_nil (k_cons kS_ok (k_cons kS_ok k_nil)) Tryz.func28 (by kernel_rfl) (by kernel_rfl) noL_ok rfl h) fun _ _ => tup_nil
theorem rss_spec (n : Nat) (P : Nat → Prt) (sn : Int) (r : Nat → Nat) : FSpec Tryz.prog 29 [.agg (soC n P sn), RY r] (.tup [slL (srS' n P sn r), iA (srE n P sn r)]) := by
  have h := rss_ev n P sn r (soE n P sn) (rayS r) (soS n P r)
  rw [gate_pos (rsmay_spec n P sn), gate_pos (rrfine r)] at h
  have ks : ∀ e, e ∈ [kS Tryz.prog 27 fun _ => iA (soE n P sn), kS Tryz.prog 47 fun _ => iA (rayS r), kS Tryz.prog 74 fun _ => slL (soS n P r)] → KOk Tryz.prog e := k_cons kS_ok (k_cons kS_ok (k_cons kS_ok k_nil))
  unfold srS'
  by_cases e : srE n P sn r = 0
  · have ok := so_ok (srE_ok e).1
    rw [gate_pos (rsp_spec ok.1 ok.2.1 r ok.2.2)] at h
    rw [e]
    have e1 := (srE_ok e).1
    have e2 := (srE_ok e).2
    generalize soE n P sn = x at *
    generalize rayS r = y at *
    subst e1 e2
    exact gspec e_nil ks Tryz.func29 (by kernel_rfl) (by kernel_rfl) noL_ok rfl h
  · rw [beq_false_of_ne e]
    by_cases e1 : soE n P sn = 0
    · have e2 : srE n P sn r = rayS r := by unfold srE; rw [e1]; rfl
      rw [e2] at e ⊢
      rw [e1, beq_false_of_ne e] at h
      exact FSpec.of_val (gspec e_nil ks Tryz.func29 (by kernel_rfl) (by kernel_rfl) noL_ok rfl (by rw [e1]; exact h)) fun _ _ => tup_nil
    · have e2 : srE n P sn r = soE n P sn := by unfold srE; rw [beq_false_of_ne e1]; rfl
      rw [e2]
      rw [beq_false_of_ne e1] at h
      exact FSpec.of_val (gspec e_nil ks Tryz.func29 (by kernel_rfl) (by kernel_rfl) noL_ok rfl h) fun _ _ => tup_nil
/-! ### The first end that counts -/
def endS (L : List Spn) (i : Nat) : Crs := cond (i % 2 == 1) (gtL L (i / 2)).o (gtL L (i / 2)).i
theorem end_i (L : List Spn) (k : Nat) : endS L (2 * k) = (gtL L k).i := by
  unfold endS
  rw [show 2 * k % 2 = 0 by omega, show 2 * k / 2 = k by omega]; rfl
theorem end_o (L : List Spn) (k : Nat) : endS L (2 * k + 1) = (gtL L k).o := by
  unfold endS
  rw [show (2 * k + 1) % 2 = 1 by omega, show (2 * k + 1) / 2 = k by omega]; rfl
/-- The first end that counts, if there is one. -/
inductive Fst (lo : Nat) (L : List Spn) : Option Crs → Prop
  | none (h : ∀ i, i < 2 * L.length → tkB lo (endS L i) = false) : Fst lo L none
  | some (K : Nat) (hK : K < 2 * L.length) (ht : tkB lo (endS L K) = true) (h : ∀ i, i < K → tkB lo (endS L i) = false) : Fst lo L (some (endS L K))
theorem fst_all (lo : Nat) (L : List Spn) : ∃ o, Fst lo L o := by
  rcases all_or_first (fun i => !(tkB lo (endS L i))) (2 * L.length) with h | ⟨K, h1, h2, h3⟩
  · exact ⟨_, .none fun i hi => by simpa using h i hi⟩
  · exact ⟨_, .some K h1 (by simpa using h2) fun i hi => by simpa using h3 i hi⟩
def fstV (o : Option Crs) : AV := match o with
  | some c => .tup [c.v, bA true]
  | none => .tup [c0.v, bA false]
theorem fi_go {lo : Nat} {L : List Spn} (hL : L.length ≤ 1000) {k : Nat} (hk : k < L.length) (h1 : tkB lo (endS L (2 * k)) = false) (h2 : tkB lo (endS L (2 * k + 1)) = false) : Leads Tryz.prog (loopAt Tryz.f76 0) (fiS lo L (k : Nat)) .normal (fiS lo L ((k + 1 : Nat) : Int)) := by
  rw [end_i] at h1
  rw [end_o] at h2
  refine leads_ev (finN_sub keepFi [some 0]) e_nil k_nil noL_ok ((fi_step lo L (k : Nat)).trans ?_)
  unfold fiC
  rw [dec_lt hk, ixB_t hk, Int.toNat_natCast, h1, h2, w64_next (by omega)]; rfl
theorem fi_spec {lo : Nat} {L : List Spn} (hL : L.length ≤ 1000) {o : Option Crs} (h : Fst lo L o) : FSpec Tryz.prog 76 [slL L, .f lo] (fstV o) := by
  cases h with
  | none h =>
    have lead : Leads Tryz.prog (.loop (loopAt Tryz.f76 0)) (fiS lo L 0) (.exit 0) (fiS lo L (L.length : Nat)) := by
      refine loop_rule (fun k => fiS lo L (k : Nat)) L.length (.exit 0) _ (by simp) (fun k hk => fi_go hL hk (h _ (by omega)) (h _ (by omega))) ?_
      refine leads_ev (finE_sub keepFi [some 0]) e_nil k_nil noL_ok ((fi_end lo L (L.length : Nat)).trans ?_)
      unfold fiC
      rw [dec_self, cond_false]
    exact gspec e_nil k_nil Tryz.func76 (by kernel_rfl) (by kernel_rfl) (lok_at (i := 2) 0 2 (by kernel_rfl) (by kernel_rfl) (toldF_sound (keep := keepFi) (τ := [some 0]) lead)) rfl ((fi_evG lo L (L.length : Nat)).trans (gate_pos (Sub.refl _)))
  | some K hK ht h =>
    have lead : Leads Tryz.prog (.loop (loopAt Tryz.f76 0)) (fiS lo L 0) .ret (fiR (endS L K)) := by
      refine loop_rule (fun k => fiS lo L (k : Nat)) (K / 2) .ret _ (by simp) (fun k hk => fi_go hL (by omega) (h _ (by omega)) (h _ (by omega))) ?_
      refine leads_ev (finR_sub [4, 5] [some 0]) e_nil k_nil noL_ok ((fi_ret lo L ((K / 2 : Nat) : Int)).trans ?_)
      unfold fiC
      rw [dec_lt (show K / 2 < L.length by omega), ixB_t (show K / 2 < L.length by omega), Int.toNat_natCast]
      by_cases hm : K % 2 = 0
      · have e : K = 2 * (K / 2) := by omega
        have e2 : endS L K = (gtL L (K / 2)).i := by rw [← end_i, ← e]
        rw [e2] at ht ⊢
        rw [ht]; rfl
      · have e : K = 2 * (K / 2) + 1 := by omega
        have e2 : endS L K = (gtL L (K / 2)).o := by rw [← end_o, ← e]
        have h1 : tkB lo (gtL L (K / 2)).i = false := by rw [← end_i]; exact h _ (by omega)
        rw [e2] at ht ⊢
        rw [h1, ht]; rfl
    exact gspec e_nil k_nil Tryz.func76 (by kernel_rfl) (by kernel_rfl) (lok_at (i := 2) 0 2 (by kernel_rfl) (by kernel_rfl) (toldF_sound (keep := keepFi) (τ := [some 0]) lead)) rfl ((fi_evR lo L (endS L K)).trans (gate_pos (Sub.refl _)))
theorem bw_spec (t n f : Nat) : FSpec Tryz.prog 77 [.f t, .f n, .f f] (.f (btS t n f)) := by
  refine sp e_nil Tryz.func77 (by kernel_rfl) (by kernel_rfl) rfl ((bw_ev t n f).trans ?_)
  unfold btS
  cases fgt t n <;> cases flt n f <;> cases flt t f <;> rfl
/-! ### Strike -/
def sdV (c : Crs) (b : Bool) (e : Int) : Option Out := some (Out.of (.tup [c.v, bA b, iA e]))
section
variable (n : Nat) (P : Nat → Prt) (sn : Int) (r : Nat → Nat) (e : Int) (b : Nat → Nat) (S : List Spn) (nr fr : Nat) (mk : Bool) (c : Crs) (ck : Bool) (bt : Nat → Nat → Nat → Nat)
noncomputable def skK : List KEntry := [kS Tryz.prog 72 fun _ => iA e, kS Tryz.prog 69 fun _ => BX b, kS Tryz.prog 75 fun _ => .tup [.f nr, .f fr, bA mk], kS Tryz.prog 73 fun _ => slL S, kS Tryz.prog 76 fun _ => .tup [c.v, bA ck]]
theorem sk_ev : ev Tryz.prog [⟨77, eFFF fun t n f => .f (bt t n f)⟩] (skK e b S nr fr mk c ck) noL Tryz.f31 [.agg (soC n P sn), RY r] ret = gate (FSpec Tryz.prog 72 [.agg (soC n P sn), RY r] (iA e)) (cond (!(e == 0)) (sdV c0 false e)
    (gate (FSpec Tryz.prog 69 [prS n P] (BX b)) (gate (FSpec Tryz.prog 75 [BX b, RY r] (.tup [.f nr, .f fr, bA mk])) (cond (!mk) (sdV c0 false 0) (gate (FSpec Tryz.prog 73 [prS n P, RY r] (slL S)) (gate (FSpec Tryz.prog 76 [slL S, .f (r 6)] (.tup [c.v, bA ck])) (cond (!ck) (sdV c0 false 0) (sdV ⟨bt c.t nr fr, c.l, c.u⟩ true 0)))))))) := by kernel_rfl
end
end Go.Proofs.YtancjnambbkhmaaGreat.Hs.So
