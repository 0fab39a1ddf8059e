/-
  Mk1 Sx2 Fl2 Fl4 Fl5 Fl3 Fl6 Fl7 Fl8 Fl9 Fl10 Fl11 Fl12 Fl13 Fl14 Wh0 Hg0 Hg1 Sx4 Gyw Gyl Sx5 Mk2 Rl1 Rl2 Rl3 Rl4 Rk1 Rk2 Rk3 Fm1 Fm2 Fm3 Fm4 Sc0 Sc1 Sc2 Sc3 Sc4, one behind the other.
-/
import Derived.Test.YtngjiggplabfkaaGreatC18
import Derived.Test.YtngjiggplabfkaaGreatC21
import Derived.Test.YtngjiggplabfkaaGreatC16
import Derived.Test.YtngjiggplabfkaaGreatC20
import Derived.Test.YtngjiggplabfkaaGreatC17
namespace Go.Proofs.YtngjiggplabfkaaGreat.Hs.So
open Go.Gv
open Go.Ev (cn fadd fsub fmul fdiv fsqrt fneg feq flt fle fgt fge fabs)

def sfE (n : Nat) (hs : Nat → Int) (F N sk i : Int) (m : Nat) (pel : Nat → List AV) (k : Nat) (oel : Nat → List AV) : St := mkS 104 [(0, sI n hs), (1, iA F), (6, .own 0 0), (7, .own 1 0), (8, iA N), (9, .osl 3 1 0 k), (10, iA i)] [.c [.x (.slice none 0 0), iA 0], .c [.osl 2 16 0 m, iA sk], .a 67 16 m pel, .a 3 1 k oel]
def sfS (n : Nat) (hs : Nat → Int) (F N sk i : Int) (m : Nat) (PL : Nat → Prt) (k : Nat) (OL : Nat → Int) : St := sfE n hs F N sk i m (fun q => (PL q).c) k fun q => [iA (OL q)]
def sfN (n : Nat) (hs : Nat → Int) (F N sk : Int) : St := mkS 104 [(0, sI n hs), (1, iA F), (6, .own 0 0), (7, .own 1 0), (8, iA N), (9, .x (.slice none 0 0)), (10, iA 0)] [.c [.x (.slice none 0 0), iA 0], .c [.x (.slice none 0 0), iA sk]]
def keepSf : List Nat := [0, 1, 6, 7, 8, 9, 10]
section
variable (n : Nat) (hs : Nat → Int) (F : Int) (pf : Int → Int → Int) (rf : Int → Int) (N sk i : Int) (m : Nat) (PL : Nat → Prt) (k : Nat) (OL : Nat → Int) (K : Int → Int) (A : Int → Nat → Nat) (S : Int → Int)
def sfT : Bool := cond (decide ((k : Int) > 1)) (cond (i == w64 (N - 1)) true (pf (rf (w64 (F + i))) 2 == 0)) false
def k2 (k : Nat) : Int := w64 ((k : Int) - 2)
def k1 (k : Nat) : Int := w64 ((k : Int) - 1)
def sfC11 : Bool := (ixB (k2 k) k || false) && ((bl' (k2 k) k) && ((ixB (k1 k) k || false) && ((bl' (k1 k) k) && ((apB m 128 || false) && true))))
def sfLn : Nat := sbN none (some (k2 k)) k
def sfC12 : Bool := (sbB none (some (k2 k)) none k || false) && ((((Nat.ble (sfLn k) k) && Nat.ble ((sfLn k + 1) * 8) 140737488355328) || false) && true)
def zsP (op l r : Int) : Prt := ⟨op, l, r, 0, fun _ => 0, 0⟩
def sfP : Prt := zsP (w64 (1 + pf (rf (w64 (w64 (F + 3) + i))) 3)) (OL (0 + (k2 k).toNat)) (OL (0 + (k1 k).toNat))
noncomputable def sfC (o oe : Option Out) : Option Out := gR n hs rf (w64 (F + i)) (cond (sfT F pf rf N i k) (gR n hs rf (w64 (w64 (F + 3) + i)) (cond (sfC11 m k) (cond (sfC12 k) o none) none)) oe)
def MP (pf : Int → Int → Int) : List Entry := [⟨13, ePk pf⟩]
theorem sf_in : evC Tryz.prog (MP pf) [rwK rf] noL (loopAt Tryz.f31 1) (sfS n hs F N sk i m PL k OL) (finN keepSf [some 0, some 1, some 5, some 7]) = sfC n hs F pf rf N i m k (some ⟨.normal, sfE n hs F N sk i (m + 1) (fun q => mixL (Nat.blt q m) (PL q).c (sfP F pf rf i k OL).c) (sfLn k + 1) (fun q => mixL (Nat.blt q (sfLn k)) [iA (OL q)] [iA (w64 (((m + 1 : Nat) : Int) - 1))]), .any⟩) none := by kernel_rfl
theorem sf_inE : evC Tryz.prog (MP pf) [rwK rf] noL (loopAt Tryz.f31 1) (sfS n hs F N sk i m PL k OL) (finE keepSf [some 0, some 1, some 2, some 3]) = sfC n hs F pf rf N i m k none (some ⟨.exit 2, sfS n hs F N sk i m PL k OL, .any⟩) := by kernel_rfl
def lkG (K : Int → Int) (A : Int → Nat → Nat) (S : Int → Int) : List AV → AV
  | [_, .x (.int .i64 f)] => SH (K f) (A f) (S f)
  | _ => .any
noncomputable def lkK : KEntry := kS Tryz.prog 58 (lkG K A S)
def sfF (i : Int) : Int := w64 (w64 (F + 2) + w64 (9 * i))
def lfP (f : Int) : Prt := ⟨0, 0, 0, K f, A f, S f⟩
noncomputable def gLf (f : Int) (o : Option Out) : Option Out := gate (FSpec Tryz.prog 58 [sI n hs, iA f] (SH (K f) (A f) (S f))) o
theorem sf_first : evC Tryz.prog (MP pf) [rwK rf, lkK K A S] noL (loopAt Tryz.f31 0) (sfN n hs F N sk) (finN keepSf [some 0, some 1, some 3, some 5]) = cond (decide (0 < N)) (gLf n hs K A S (sfF F 0) (gR n hs rf (w64 (F + 0)) (some ⟨.normal, sfE n hs F N sk (w64 (0 + 1)) 1 (fun q => mixL (Nat.blt q 0) [] (lfP K A S (sfF F 0)).c) 1 (fun q => mixL (Nat.blt q 0) [] [iA 0]), .any⟩))) none := by kernel_rfl
variable (m2 : Nat) (PL1 PL2 : Nat → Prt) (k2' : Nat) (OL1 OL2 : Nat → Int)
noncomputable def sfL : Nat → Option LFun := oneL 9 (toldF keepSf [some 0, some 1, some 5, some 7] (sfS n hs F N sk i (m + 1) PL1 (k + 1) OL1) (.exit 2) (sfS n hs F N sk i m2 PL2 k2' OL2))
noncomputable def sfO (o : Option Out) : Option Out := cond ((apB m 128 || false) && true) (cond ((Nat.ble k k && Nat.ble ((k + 1) * 8) 140737488355328) || false) (gate (Sub (sfE n hs F N sk i (m + 1) (fun q => mixL (Nat.blt q m) (PL q).c (lfP K A S (sfF F i)).c) (k + 1) (fun q => mixL (Nat.blt q k) [iA (OL q)] [iA (w64 (((m + 1 : Nat) : Int) - 1))])) (sfS n hs F N sk i (m + 1) PL1 (k + 1) OL1)) o) none) none
theorem sf_step : evC Tryz.prog (MP pf) [rwK rf, lkK K A S] (sfL n hs F N sk i m k m2 PL1 PL2 k2' OL1 OL2) (loopAt Tryz.f31 0) (sfS n hs F N sk i m PL k OL) (finN keepSf [some 0, some 1, some 2, some 3]) = cond (decide (i < N)) (gLf n hs K A S (sfF F i) (sfO n hs F N sk i m PL k OL K A S PL1 OL1 (some ⟨.normal, sfS n hs F N sk (w64 (i + 1)) m2 PL2 k2' OL2, .any⟩))) none := by kernel_rfl
theorem sf_end : evC Tryz.prog (MP pf) [rwK rf, lkK K A S] (oneL 9 fun _ _ => none) (loopAt Tryz.f31 0) (sfS n hs F N sk i m PL k OL) (finE keepSf [some 0, some 1, some 2, some 3]) = cond (decide (i < N)) (gLf n hs K A S (sfF F i) (cond ((apB m 128 || false) && true) (cond ((Nat.ble k k && Nat.ble ((k + 1) * 8) 140737488355328) || false) none none) none)) (some ⟨.exit 0, sfS n hs F N sk i m PL k OL, .any⟩) := by kernel_rfl
end
end Go.Proofs.YtngjiggplabfkaaGreat.Hs.So

namespace Go.Proofs.YtngjiggplabfkaaGreat.Hs.So
open Go.Gv
open Go.Ev (cn fadd fsub fmul fdiv fsqrt fneg feq flt fle fgt fge fabs)

def q25 : Nat := 4598175219545276416
def half' : Nat := 4602678819172646912
def z13 : List AV := [iA 0, .f 0, .f 0, .f 0, .f 0, .f 0, .f 0, .f 0, .f 0, .f 0, .f 0, .f 0, iA 0]
def llR (raw : AV) (fr : Int) (m : Nat) (el : Nat → List AV) : St := mkS 80 [(0, raw), (1, iA fr), (4, .own 0 0), (5, .osl 1 1 0 m)] [.c z13, .a 3 1 m el]
def llS (raw : AV) (fr : Int) (m : Nat) (X : Nat → Int) : St := llR raw fr m fun q => [iA (X q)]
def keepLl : List Nat := [0, 1, 4, 5]
def aqB (n m : Nat) : Bool := (Nat.ble m n && Nat.ble ((m + 1) * 8) 140737488355328) || false
section
variable (raw : AV) (n : Nat) (hs : Nat → Int) (p : Option Addr) (c : Nat) (rf : Int → Int) (fr : Int) (m : Nat) (X : Nat → Int)
noncomputable def llC (raw : AV) (f : (Nat → List AV) → Option Out) (oe : Option Out) : Option Out := cond (decide ((m : Int) < w64 (fr + 9))) (gate (FSpec Tryz.prog 27 [raw, iA m] (iA (rf m))) (cond (aqB m m) (f fun q => mixL (Nat.blt q m) [iA (X q)] [iA (rf m)]) none)) oe
theorem ll_step : evC Tryz.prog [] [rwK rf] noL (loopAt Tryz.f58 0) (llS (sI n hs) fr m X) (finN keepLl [some 0, some 3]) = llC rf fr m X (sI n hs) (fun el => some ⟨.normal, llR (sI n hs) fr (m + 1) el, .any⟩) none := by kernel_rfl
theorem ll_end : evC Tryz.prog [] [rwK rf] noL (loopAt Tryz.f58 0) (llS (sI n hs) fr m X) (finE keepLl [some 0, some 1]) = llC rf fr m X (sI n hs) (fun _ => none) (some ⟨.exit 0, llS (sI n hs) fr m X, .any⟩) := by kernel_rfl
theorem ll_step0 : evC Tryz.prog [] [rwK rf] noL (loopAt Tryz.f58 0) (llS (xE p c) fr m X) (finN keepLl [some 0, some 3]) = llC rf fr m X (xE p c) (fun el => some ⟨.normal, llR (xE p c) fr (m + 1) el, .any⟩) none := by kernel_rfl
theorem ll_end0 : evC Tryz.prog [] [rwK rf] noL (loopAt Tryz.f58 0) (llS (xE p c) fr m X) (finE keepLl [some 0, some 1]) = llC rf fr m X (xE p c) (fun _ => none) (some ⟨.exit 0, llS (xE p c) fr m X, .any⟩) := by kernel_rfl
end
section
variable (raw : AV) (n : Nat) (hs : Nat → Int) (p : Option Addr) (c : Nat) (fr : Int) (m : Nat) (X : Nat → Int) (k : Int) (a : Nat → Nat) (sk : Int) (rd : Nat → Nat)
def rdG (rd : Nat → Nat) : List AV → AV
  | [.f x] => .f (rd x)
  | _ => .any
noncomputable def gRd (x : Nat) (o : Option Out) : Option Out := gate (FSpec Tryz.prog 83 [.f x] (.f (rd x))) o
def lX (v : Int) : Nat → Int := fun q => cond (q == 0 + fr.toNat) v (X q)
def lA (i : Nat) : Nat := rd (fmul (a i) q25)
def lO (B : Nat → Nat) : Option Out := some (Out.of (.agg [iA k, .f (lA a rd 0), .f (lA a rd 1), .f (lA a rd 2), .f (B 0), .f (B 1), .f (B 2), .f (a 6), .f (a 7), .f (a 8), .f (a 9), .f (a 10), iA sk]))
def lB : Nat → Nat := ls [fadd (lA a rd 0) (fadd (a 9) one), fadd (lA a rd 1) one, fadd (lA a rd 2) half']
noncomputable def lfK' (e : Int) : List KEntry := [kS Tryz.prog 13 fun _ => iA e, kS Tryz.prog 57 fun _ => SH k a sk, kS Tryz.prog 83 (rdG rd)]
def fz3 (m : Nat) : Bool := ((Nat.beq m m) && ((Nat.beq m m) && ((Nat.beq m m) && true))) || false
noncomputable def lfX (e v : Int) : Option Out := ow' fr m (gate (FSpec Tryz.prog 13 [iA (X (0 + fr.toNat)), iA 3] (iA e)) (ow' fr m (cond (fz3 m) (gate (FSpec Tryz.prog 57 [sI m (lX fr X v), iA fr, iA 1] (SH k a sk)) (gRd rd (fmul (a 0) q25) (gRd rd (fmul (a 1) q25) (gRd rd (fmul (a 2) q25)
  (cond (k == 2) (gRd rd (lB a rd 0) (gRd rd (lB a rd 1) (gRd rd (lB a rd 2) (lO k a sk rd (ls [rd (lB a rd 0), rd (lB a rd 1), rd (lB a rd 2)]))))) (lO k a sk rd (ls [a 3, a 4, a 5]))))))) none)))
def lfG (n : Nat) : Bool := ((Nat.ble 0 0) && (Nat.blt 0 n && (allB n (fun _ => true) && Nat.ble ((0 + n) * 8) 140737488355328))) || false
theorem lf_ev0 : evZ Tryz.prog R4 (lfK' k a sk rd 0) [] (oneL 2 (toldF keepLl [some 0, some 2] (llS (sI n hs) fr n X) (.exit 0) (llS (sI n hs) fr m X))) (oneZ 5 (frzK 1)) Tryz.f58 [sI n hs, iA fr] ret = cond (lfG n) (gate (Sub (llR (sI n hs) fr (0 + n) fun q => mixL (Nat.blt q 0) [] [iA (hs (q - 0))]) (llS (sI n hs) fr n X)) (lfX fr m X k a sk rd 0 0)) none := by kernel_rfl
theorem lf_ev1 : evZ Tryz.prog R4 (lfK' k a sk rd 1) [] (oneL 2 (toldF keepLl [some 0, some 2] (llS (sI n hs) fr n X) (.exit 0) (llS (sI n hs) fr m X))) (oneZ 5 (frzK 1)) Tryz.f58 [sI n hs, iA fr] ret = cond (lfG n) (gate (Sub (llR (sI n hs) fr (0 + n) fun q => mixL (Nat.blt q 0) [] [iA (hs (q - 0))]) (llS (sI n hs) fr n X)) (lfX fr m X k a sk rd 1 1)) none := by kernel_rfl
theorem lf_ev2 : evZ Tryz.prog R4 (lfK' k a sk rd 2) [] (oneL 2 (toldF keepLl [some 0, some 2] (llS (sI n hs) fr n X) (.exit 0) (llS (sI n hs) fr m X))) (oneZ 5 (frzK 1)) Tryz.f58 [sI n hs, iA fr] ret = cond (lfG n) (gate (Sub (llR (sI n hs) fr (0 + n) fun q => mixL (Nat.blt q 0) [] [iA (hs (q - 0))]) (llS (sI n hs) fr n X)) (lfX fr m X k a sk rd 2 4)) none := by kernel_rfl
theorem le_ev0 : evZ Tryz.prog R4 (lfK' k a sk rd 0) [] (oneL 2 (toldF keepLl [some 0, some 1] (llS (xE p c) fr 0 X) (.exit 0) (llS (xE p c) fr m X))) (oneZ 5 (frzK 1)) Tryz.f58 [xE p c, iA fr] ret = gate (Sub (llR (xE p c) fr 0 fun _ => []) (llS (xE p c) fr 0 X)) (lfX fr m X k a sk rd 0 0) := by kernel_rfl
theorem le_ev1 : evZ Tryz.prog R4 (lfK' k a sk rd 1) [] (oneL 2 (toldF keepLl [some 0, some 1] (llS (xE p c) fr 0 X) (.exit 0) (llS (xE p c) fr m X))) (oneZ 5 (frzK 1)) Tryz.f58 [xE p c, iA fr] ret = gate (Sub (llR (xE p c) fr 0 fun _ => []) (llS (xE p c) fr 0 X)) (lfX fr m X k a sk rd 1 1) := by kernel_rfl
theorem le_ev2 : evZ Tryz.prog R4 (lfK' k a sk rd 2) [] (oneL 2 (toldF keepLl [some 0, some 1] (llS (xE p c) fr 0 X) (.exit 0) (llS (xE p c) fr m X))) (oneZ 5 (frzK 1)) Tryz.f58 [xE p c, iA fr] ret = gate (Sub (llR (xE p c) fr 0 fun _ => []) (llS (xE p c) fr 0 X)) (lfX fr m X k a sk rd 2 4) := by kernel_rfl
end
end Go.Proofs.YtngjiggplabfkaaGreat.Hs.So

namespace Go.Ev
open Ieee

theorem leastP : double.leastPlace = -1074 := by decide +kernel
theorem fracB : (double.fractionBits : Int) = 52 := rfl
theorem log2_shl {m : Nat} (k : Nat) (hm : m ≠ 0) : (m <<< k).log2 = m.log2 + k := by
  have hp : 0 < 2 ^ k := Nat.two_pow_pos k
  have hne : m <<< k ≠ 0 := by rw [Nat.shiftLeft_eq]; exact Nat.mul_ne_zero hm (Nat.pos_iff_ne_zero.1 hp)
  rw [Nat.log2_eq_iff hne, Nat.shiftLeft_eq]
  refine ⟨by rw [Nat.pow_add]; exact Nat.mul_le_mul_right _ (Nat.log2_self_le hm), ?_⟩
  rw [show m.log2 + k + 1 = m.log2 + 1 + k by omega, Nat.pow_add]
  exact Nat.mul_lt_mul_of_pos_right Nat.lt_log2_self hp

theorem log2_lt53 {m : Nat} (h : m < 9007199254740992) : m.log2 ≤ 52 := by
  by_cases h0 : m = 0
  · subst h0; decide
  · have := (Nat.log2_lt h0).2 (show m < 2 ^ 53 by omega)
    omega

theorem nearest_zero (s : Bool) (p : Int) : double.nearest s 0 p = double.word s 0 := by simp [Format.nearest]

theorem word_neg (s : Bool) {r : Nat} (h : r ≤ 9218868437227405312) : double.word s r ^^^ 9223372036854775808 = double.word (!s) r := by
  have h63 : r < 2 ^ 63 := by omega
  unfold Format.word
  rw [signW]
  have e : (9223372036854775808 : Nat) = 2 ^ 63 := by decide
  rw [e]
  cases s
  · simp only [Bool.false_eq_true, if_false, Bool.not_false, if_true]
    have hor := Nat.two_pow_add_eq_or_of_lt h63 1
    rw [Nat.mul_one] at hor
    rw [hor]
    apply Nat.eq_of_testBit_eq
    intro n
    simp only [Nat.testBit_xor, Nat.testBit_or, Nat.testBit_two_pow]
    by_cases hn : 63 = n
    · subst hn; simp [Nat.testBit_lt_two_pow h63]
    · simp [hn]
  · simp only [if_true, Bool.not_true, Bool.false_eq_true, if_false]
    have hor := Nat.two_pow_add_eq_or_of_lt h63 1
    rw [Nat.mul_one] at hor
    rw [hor]
    apply Nat.eq_of_testBit_eq
    intro n
    simp only [Nat.testBit_xor, Nat.testBit_or, Nat.testBit_two_pow]
    by_cases hn : 63 = n
    · subst hn; simp [Nat.testBit_lt_two_pow h63]
    · simp [hn]

theorem fneg_word (s : Bool) {r : Nat} (h : r ≤ 9218868437227405312) : fneg (double.word s r) = double.word (!s) r := by
  unfold fneg
  rw [isNan_word s h, cond_false, word_neg s h]

end Go.Ev

namespace Go.Ev
open Ieee

/-- 'a / g' to the nearest whole number, between two to the even one. -/
def rnd (a g : Nat) : Nat := a / g + (decide (g < 2 * (a % g)) || (g == 2 * (a % g) && a / g % 2 == 1)).toNat

theorem rnd_small {a g : Nat} (h : 2 * a < g) : rnd a g = 0 := by
  have h1 : a / g = 0 := Nat.div_eq_of_lt (by omega)
  have h2 : a % g = a := Nat.mod_eq_of_lt (by omega)
  have h3 : decide (g < 2 * a) = false := decide_eq_false (by omega)
  have h4 : (g == 2 * a) = false := by simp; omega
  unfold rnd
  rw [h1, h2, h3, h4]; rfl

theorem toNat_le_one (b : Bool) : b.toNat ≤ 1 := by cases b <;> decide
theorem rnd_le (a g : Nat) : rnd a g ≤ a / g + 1 := Nat.add_le_add_left (toNat_le_one _) _
theorem le_rnd (a g : Nat) : a / g ≤ rnd a g := Nat.le_add_right _ _

theorem rnd_mono {a b g : Nat} (h : a ≤ b) : rnd a g ≤ rnd b g := by
  have hd : a / g ≤ b / g := Nat.div_le_div_right h
  rcases Nat.eq_or_lt_of_le hd with e | e
  · have h1 := Nat.div_add_mod a g
    have h2 := Nat.div_add_mod b g
    have hm : a % g ≤ b % g := by rw [e] at h1; omega
    unfold rnd
    rw [e]
    refine Nat.add_le_add_left ?_ _
    cases hx : (decide (g < 2 * (a % g)) || (g == 2 * (a % g) && b / g % 2 == 1))
    · exact Nat.zero_le _
    · have : (decide (g < 2 * (b % g)) || (g == 2 * (b % g) && b / g % 2 == 1)) = true := by
        simp only [Bool.or_eq_true, Bool.and_eq_true, decide_eq_true_eq, beq_iff_eq] at hx ⊢
        omega
      rw [this]; exact Nat.le_refl _
  · exact Nat.le_trans (rnd_le a g) (Nat.le_trans e (le_rnd b g))

theorem rnd_mul (a g : Nat) {c : Nat} (hc : 0 < c) : rnd (a * c) (g * c) = rnd a g := by
  unfold rnd
  rw [Nat.mul_div_mul_right _ _ hc, Nat.mul_mod_mul_right]
  have h1 : decide (g * c < 2 * (a % g * c)) = decide (g < 2 * (a % g)) := by
    rw [← Nat.mul_assoc]
    exact decide_eq_decide.2 (Nat.mul_lt_mul_right hc)
  have h2 : (g * c == 2 * (a % g * c)) = (g == 2 * (a % g)) := by
    rw [← Nat.mul_assoc, Bool.eq_iff_iff, beq_iff_eq, beq_iff_eq]
    exact Nat.mul_left_inj (by omega)
  rw [h1, h2]

theorem cut_rnd (s : Bool) (n d : Nat) : Toward.even.cut s n d = rnd n (2 ^ d) := by
  have hn : n < 2 ^ (n.log2 + 1) := Nat.lt_log2_self
  by_cases h : d ≤ n.log2 + 2
  · unfold Toward.cut rnd
    rw [Nat.min_eq_left h, Nat.one_shiftLeft]
  · have hL : 2 * n < 2 ^ (n.log2 + 2) := by rw [Nat.pow_succ]; omega
    have hd : 2 * n < 2 ^ d := Nat.lt_of_lt_of_le hL (Nat.pow_le_pow_right (by decide) (by omega))
    rw [rnd_small hd]
    have := rnd_small hL
    unfold rnd at this
    unfold Toward.cut
    rw [Nat.min_eq_right (by omega), Nat.one_shiftLeft]
    exact this

/-- A quotient with one digit more that tells whether anything is left. -/
theorem rnd_sticky (d n k : Nat) (hn : 0 < n) : rnd (2 * (d / n) + (d % n != 0).toNat) (2 ^ (k + 2)) = rnd d (n * 2 ^ (k + 1)) := by
  have hp : 0 < 2 ^ k := Nat.two_pow_pos k
  have e1 : 2 ^ (k + 1) = 2 * 2 ^ k := by rw [Nat.pow_succ]; omega
  have e2 : 2 ^ (k + 2) = 2 * (2 * 2 ^ k) := by rw [Nat.pow_succ, e1]; omega
  rw [e1, e2]
  generalize 2 ^ k = H at hp
  have hr : d % n < n := Nat.mod_lt _ hn
  have hd := Nat.div_add_mod d n
  generalize hst : (d % n != 0).toNat = st
  have hs : (st = 0 ∧ d % n = 0) ∨ (st = 1 ∧ 0 < d % n) := by
    cases hb : (d % n != 0)
    · rw [hb] at hst; left; exact ⟨hst.symm, by simpa using hb⟩
    · rw [hb] at hst; right; refine ⟨hst.symm, ?_⟩
      have : d % n ≠ 0 := by simpa using hb
      omega
  generalize d % n = r at hr hd hs
  have hQ := Nat.div_add_mod (d / n) (2 * H)
  have hB : d / n % (2 * H) < 2 * H := Nat.mod_lt _ (by omega)
  -- the whole part
  have w1 : (2 * (d / n) + st) / (2 * (2 * H)) = d / n / (2 * H) := by
    rw [← Nat.div_div_eq_div_mul]
    congr 1
    omega
  have w2 : d / (n * (2 * H)) = d / n / (2 * H) := (Nat.div_div_eq_div_mul d n (2 * H)).symm
  generalize hA : d / n / (2 * H) = A at *
  generalize hBe : d / n % (2 * H) = Bq at *
  generalize hq : d / n = Q at *
  -- what is left
  have m1 : (2 * Q + st) % (2 * (2 * H)) = 2 * Bq + st := by
    have := Nat.div_add_mod (2 * Q + st) (2 * (2 * H))
    rw [w1] at this
    have e : 2 * (2 * H) * A = 2 * (2 * H * A) := by rw [Nat.mul_assoc]
    omega
  have m2 : d % (n * (2 * H)) = n * Bq + r := by
    have := Nat.div_add_mod d (n * (2 * H))
    rw [w2] at this
    have e : n * Q = n * (2 * H) * A + n * Bq := by rw [← hQ, Nat.mul_add, Nat.mul_assoc n]
    omega
  unfold rnd
  rw [w1, w2, m1, m2]
  congr 2
  have c1 : (2 * (2 * H) < 2 * (2 * Bq + st)) ↔ (n * (2 * H) < 2 * (n * Bq + r)) := by
    have q1 : n * (2 * H) = 2 * (n * H) := by rw [Nat.mul_left_comm]
    rw [q1]
    constructor
    · intro h
      have : H ≤ Bq := by omega
      rcases Nat.eq_or_lt_of_le this with e | e
      · subst e; omega
      · have := Nat.mul_le_mul_left n (show H + 1 ≤ Bq from e)
        rw [Nat.mul_add] at this; omega
    · intro h
      by_cases hl : Bq < H
      · have := Nat.mul_le_mul_left n (show Bq + 1 ≤ H from hl)
        rw [Nat.mul_add] at this; omega
      · rcases Nat.eq_or_lt_of_le (Nat.le_of_not_lt hl) with e | e
        · subst e; omega
        · omega
  have c2 : (2 * (2 * H) = 2 * (2 * Bq + st)) ↔ (n * (2 * H) = 2 * (n * Bq + r)) := by
    have q1 : n * (2 * H) = 2 * (n * H) := by rw [Nat.mul_left_comm]
    rw [q1]
    constructor
    · intro h
      have : H = Bq := by omega
      subst this; omega
    · intro h
      rcases Nat.lt_trichotomy Bq H with hl | e | hl
      · have := Nat.mul_le_mul_left n (show Bq + 1 ≤ H from hl)
        rw [Nat.mul_add] at this; omega
      · subst e; omega
      · have := Nat.mul_le_mul_left n (show H + 1 ≤ Bq from hl)
        rw [Nat.mul_add] at this; omega
  have d1 : decide (2 * (2 * H) < 2 * (2 * Bq + st)) = decide (n * (2 * H) < 2 * (n * Bq + r)) := decide_eq_decide.2 c1
  have d2 : (2 * (2 * H) == 2 * (2 * Bq + st)) = (n * (2 * H) == 2 * (n * Bq + r)) := by
    rw [Bool.eq_iff_iff, beq_iff_eq, beq_iff_eq]; exact c2
  rw [d1, d2]

/-- The rung of 'a / g' units, uncapped: 'b' bits of fraction. -/
def rq (b a g : Nat) : Nat := ((a / g).log2 - b) * 2 ^ b + rnd a (g * 2 ^ ((a / g).log2 - b))

theorem rq_mul (b a g : Nat) {c : Nat} (hc : 0 < c) : rq b (a * c) (g * c) = rq b a g := by
  unfold rq
  rw [Nat.mul_div_mul_right _ _ hc, Nat.mul_right_comm, rnd_mul _ _ hc]

theorem rq_mono1 (b : Nat) {a c g : Nat} (h : a ≤ c) : rq b a g ≤ rq b c g := by
  have hd : a / g ≤ c / g := Nat.div_le_div_right h
  have hl : (a / g).log2 ≤ (c / g).log2 := by
    by_cases h0 : a / g = 0
    · rw [h0]; simp
    · exact (Nat.le_log2 (fun hc => h0 (Nat.le_zero.1 (hc ▸ hd)))).2 (Nat.le_trans (Nat.log2_self_le h0) hd)
  unfold rq
  have hl2 : (a / g).log2 - b ≤ (c / g).log2 - b := by omega
  rcases Nat.eq_or_lt_of_le hl2 with e | e
  · rw [e]
    exact Nat.add_le_add_left (rnd_mono h) _
  · -- the lower one is at most the next binade's first
    have h1 : rnd a (g * 2 ^ ((a / g).log2 - b)) ≤ 2 ^ (b + 1) := by
      refine Nat.le_trans (rnd_le _ _) ?_
      rw [← Nat.div_div_eq_div_mul]
      have : a / g < 2 ^ ((a / g).log2 + 1) := Nat.lt_log2_self
      have h2 : a / g / 2 ^ ((a / g).log2 - b) < 2 ^ (b + 1) := by
        rw [Nat.div_lt_iff_lt_mul (Nat.two_pow_pos _), ← Nat.pow_add]
        exact Nat.lt_of_lt_of_le this (Nat.pow_le_pow_right (by decide) (by omega))
      omega
    have h2 : 2 ^ b ≤ rnd c (g * 2 ^ ((c / g).log2 - b)) := by
      refine Nat.le_trans ?_ (le_rnd _ _)
      rw [← Nat.div_div_eq_div_mul, Nat.le_div_iff_mul_le (Nat.two_pow_pos _), ← Nat.pow_add]
      have h0 : c / g ≠ 0 := by
        intro h0; rw [h0] at e; simp at e
      refine Nat.le_trans (Nat.pow_le_pow_right (by decide) (by omega)) (Nat.log2_self_le h0)
    have h3 := Nat.mul_le_mul_right (2 ^ b) e
    rw [Nat.succ_mul] at h3
    rw [Nat.pow_succ] at h1
    omega

theorem rq_mono (b : Nat) {a c g h : Nat} (hg : 0 < g) (hh : 0 < h) (hle : a * h ≤ c * g) : rq b a g ≤ rq b c h := by
  rw [← rq_mul b a g hh, ← rq_mul b c h hg, Nat.mul_comm h g]
  exact rq_mono1 b hle

theorem rq_zero (b : Nat) {g : Nat} (hg : 0 < g) : rq b 0 g = 0 := by
  unfold rq
  rw [Nat.zero_div, Nat.log2_zero, Nat.zero_sub, Nat.zero_mul, Nat.zero_add]
  exact rnd_small (by rw [Nat.mul_zero]; exact Nat.mul_pos hg (Nat.two_pow_pos _))
end Go.Ev

namespace Go.Ev
open Ieee

theorem log2_half (n : Nat) : (n / 2).log2 = n.log2 - 1 := by
  rw [Nat.log2_def n]
  by_cases h : n ≥ 2
  · rw [if_pos h]; simp
  · rw [if_neg h]
    have : n / 2 = 0 := by omega
    rw [this]; simp
theorem log2_div (n : Nat) : ∀ v, (n / 2 ^ v).log2 = n.log2 - v
  | 0 => by simp
  | v + 1 => by rw [Nat.pow_succ, ← Nat.div_div_eq_div_mul, log2_half, log2_div n v]; omega

theorem nearest_rq0 (s : Bool) (m u : Nat) (p : Int) (hp : p = u - 1074) : double.nearest s m p = double.word s (min (rq 52 (m * 2 ^ u) 1) double.infRung) := by
  by_cases hm : m = 0
  · subst hm; rw [nearest_zero, Nat.zero_mul, rq_zero 52 (by decide), Nat.zero_min]
  · have hl : (m * 2 ^ u / 1).log2 = m.log2 + u := by rw [Nat.div_one, ← Nat.shiftLeft_eq, log2_shl u hm]
    have e1 : (max (p + m.log2 - (double.fractionBits : Int)) double.leastPlace - double.leastPlace).toNat = m.log2 + u - 52 := by rw [leastP, fracB]; omega
    have e2 : (p - max (p + m.log2 - (double.fractionBits : Int)) double.leastPlace).toNat = u - (m.log2 + u - 52) := by rw [leastP, fracB]; omega
    have e3 : (max (p + m.log2 - (double.fractionBits : Int)) double.leastPlace - p).toNat = (m.log2 + u - 52) - u := by rw [leastP, fracB]; omega
    unfold Format.nearest rq
    rw [if_neg hm, hl]
    simp only [e1, e2, e3]
    generalize m.log2 + u - 52 = l
    rw [cut_rnd, Nat.shiftLeft_eq, Nat.one_mul]
    have : rnd (m * 2 ^ (u - l)) (2 ^ (l - u)) = rnd (m * 2 ^ u) (2 ^ l) := by
      rw [← rnd_mul _ _ (Nat.two_pow_pos (min u l)), Nat.mul_assoc, ← Nat.pow_add, ← Nat.pow_add]
      congr 3 <;> omega
    rw [this]
    rfl

theorem nearest_rq1 (s : Bool) (m v : Nat) (p : Int) (hp : p = -1074 - v) : double.nearest s m p = double.word s (min (rq 52 m (2 ^ v)) double.infRung) := by
  by_cases hm : m = 0
  · subst hm; rw [nearest_zero, rq_zero 52 (Nat.two_pow_pos _), Nat.zero_min]
  · have e1 : (max (p + m.log2 - (double.fractionBits : Int)) double.leastPlace - double.leastPlace).toNat = m.log2 - v - 52 := by rw [leastP, fracB]; omega
    have e2 : (p - max (p + m.log2 - (double.fractionBits : Int)) double.leastPlace).toNat = 0 := by rw [leastP, fracB]; omega
    have e3 : (max (p + m.log2 - (double.fractionBits : Int)) double.leastPlace - p).toNat = v + (m.log2 - v - 52) := by rw [leastP, fracB]; omega
    unfold Format.nearest rq
    rw [if_neg hm, log2_div]
    simp only [e1, e2, e3]
    rw [cut_rnd, Nat.shiftLeft_eq, Nat.pow_zero, Nat.mul_one, Nat.pow_add]
    rfl

/-- What is written of 'm * 2 ^ p', with 'p + 1074 = u - v'. -/
theorem nearest_rq (s : Bool) (m u v : Nat) (p : Int) (hp : p + 1074 = u - v) : double.nearest s m p = double.word s (min (rq 52 (m * 2 ^ u) (2 ^ v)) double.infRung) := by
  by_cases h : v ≤ u
  · rw [nearest_rq0 s m (u - v) p (by omega)]
    have := rq_mul 52 (m * 2 ^ (u - v)) 1 (Nat.two_pow_pos v)
    rw [Nat.mul_assoc, ← Nat.pow_add, Nat.one_mul, Nat.sub_add_cancel h] at this
    rw [this]
  · rw [nearest_rq1 s m (v - u) p (by omega)]
    have := rq_mul 52 m (2 ^ (v - u)) (Nat.two_pow_pos u)
    rw [← Nat.pow_add, Nat.sub_add_cancel (by omega)] at this
    rw [this]

theorem log2_of_iff {x y : Nat} (h : ∀ k, 2 ^ k ≤ x ↔ 2 ^ k ≤ y) : x.log2 = y.log2 := by
  by_cases hx : x = 0
  · have : y = 0 := by
      by_cases hy : y = 0
      · exact hy
      · have := (h 0).2 (by rw [Nat.pow_zero]; omega)
        rw [Nat.pow_zero] at this; omega
    rw [hx, this]
  · have hy : y ≠ 0 := by
      have := (h 0).1 (by rw [Nat.pow_zero]; omega)
      rw [Nat.pow_zero] at this; omega
    exact Nat.le_antisymm ((Nat.le_log2 hy).2 ((h _).1 (Nat.log2_self_le hx))) ((Nat.le_log2 hx).2 ((h _).2 (Nat.log2_self_le hy)))

theorem rq_sticky (b d n u v : Nat) (hn : 0 < n) (hq : 2 ^ (b + 1) ≤ d / n) : rq b ((2 * (d / n) + (d % n != 0).toNat) * 2 ^ u) (2 ^ v) = rq b (2 * d * 2 ^ u) (n * 2 ^ v) := by
  have hp : 0 < 2 ^ (b + 1) := Nat.two_pow_pos _
  have hst := toNat_le_one (d % n != 0)
  have hlog : ((2 * (d / n) + (d % n != 0).toNat) * 2 ^ u / 2 ^ v).log2 = (2 * d * 2 ^ u / (n * 2 ^ v)).log2 := by
    refine log2_of_iff fun k => ?_
    rw [Nat.le_div_iff_mul_le (Nat.two_pow_pos _), Nat.le_div_iff_mul_le (Nat.mul_pos hn (Nat.two_pow_pos _)), ← Nat.pow_add, Nat.mul_left_comm, ← Nat.pow_add]
    have hnd : n ≤ d := by
      have := (Nat.le_div_iff_mul_le hn (x := 1) (y := d)).1 (by omega)
      omega
    by_cases hk : k + v ≤ u
    · have hle : 2 ^ (k + v) ≤ 2 ^ u := Nat.pow_le_pow_right (by decide) hk
      constructor
      · intro _; exact Nat.le_trans (Nat.mul_le_mul hnd hle) (Nat.mul_le_mul_right _ (by omega))
      · intro _
        exact Nat.le_trans hle (Nat.le_mul_of_pos_left _ (by omega))
    · obtain ⟨w, hw⟩ : ∃ w, k + v = w + 1 + u := ⟨k + v - u - 1, by omega⟩
      rw [hw, Nat.pow_add, ← Nat.mul_assoc, Nat.mul_le_mul_right_iff (Nat.two_pow_pos u), Nat.mul_le_mul_right_iff (Nat.two_pow_pos u), Nat.pow_succ]
      have hiff := Nat.le_div_iff_mul_le hn (x := 2 ^ w) (y := d)
      have e : n * (2 ^ w * 2) = 2 * (2 ^ w * n) := by rw [Nat.mul_comm, Nat.mul_assoc, Nat.mul_left_comm]
      rw [e]
      omega
  have hl : u + 2 ≤ v + (((2 * (d / n) + (d % n != 0).toNat) * 2 ^ u / 2 ^ v).log2 - b) := by
    by_cases h : v ≤ b + 2 + u
    · have h1 : 2 ^ (b + 2 + u - v) ≤ (2 * (d / n) + (d % n != 0).toNat) * 2 ^ u / 2 ^ v := by
        rw [Nat.le_div_iff_mul_le (Nat.two_pow_pos _), ← Nat.pow_add, Nat.sub_add_cancel h, Nat.pow_add]
        refine Nat.mul_le_mul_right _ ?_
        rw [Nat.pow_succ]; omega
      have h0 : (2 * (d / n) + (d % n != 0).toNat) * 2 ^ u / 2 ^ v ≠ 0 := by
        have := Nat.two_pow_pos (b + 2 + u - v)
        intro h0; rw [h0] at h1; omega
      have := (Nat.le_log2 h0).2 h1
      omega
    · omega
  unfold rq
  rw [hlog] at hl ⊢
  generalize (2 * d * 2 ^ u / (n * 2 ^ v)).log2 - b = l at hl
  obtain ⟨k, hk⟩ : ∃ k, v + l = k + 2 + u := ⟨v + l - u - 2, by omega⟩
  congr 1
  rw [← Nat.pow_add, Nat.mul_assoc n, ← Nat.pow_add, hk, Nat.pow_add, rnd_mul _ _ (Nat.two_pow_pos u), rnd_sticky d n k hn, ← Nat.mul_assoc, rnd_mul _ _ (Nat.two_pow_pos u)]
  have := rnd_mul d (n * 2 ^ (k + 1)) (c := 2) (by decide)
  rw [← this, Nat.mul_comm d 2, Nat.mul_assoc n, ← Nat.pow_succ]
end Go.Ev

namespace Go.Ev
open Ieee

theorem signed_mul (s : Bool) (m k : Nat) : signed s m k = signed s 1 0 * ((m : Int) * 2 ^ k) := by
  cases s <;> simp [signed, Nat.shiftLeft_eq]

theorem signed_split (s : Bool) (m a b : Nat) : signed s m (a + b) = signed s m a * 2 ^ b := by
  rw [signed_mul, signed_mul s m a, Int.mul_assoc, Int.mul_assoc, Int.pow_add]

end Go.Ev

namespace Go.Ev
open Ieee

/-- The magnitude of a rung, in the least units: 'b' bits of fraction. -/
def rv (b r : Nat) : Nat := if r < 2 ^ b then r else (2 ^ b + r % 2 ^ b) * 2 ^ (r / 2 ^ b - 1)

theorem rv_step (b r : Nat) : rv b r < rv b (r + 1) := by
  have hN : 0 < 2 ^ b := Nat.two_pow_pos b
  unfold rv
  generalize 2 ^ b = N at hN
  by_cases h1 : r + 1 < N
  · rw [if_pos (by omega), if_pos h1]; omega
  · rw [if_neg h1]
    by_cases h2 : r < N
    · rw [if_pos h2]
      have e : r + 1 = N := by omega
      rw [e, Nat.mod_self, Nat.div_self hN, Nat.sub_self, Nat.pow_zero]; omega
    · rw [if_neg h2]
      have hd := Nat.div_add_mod r N
      have hm : r % N < N := Nat.mod_lt _ hN
      have hq : 1 ≤ r / N := (Nat.le_div_iff_mul_le hN).2 (by omega)
      by_cases h3 : r % N + 1 < N
      · have e1 : (r + 1) / N = r / N := by
          rw [Nat.div_eq_iff hN]
          have : r / N * N = N * (r / N) := Nat.mul_comm _ _
          omega
        have e2 : (r + 1) % N = r % N + 1 := by
          have := Nat.div_add_mod (r + 1) N
          rw [e1] at this; omega
        rw [e1, e2]
        exact Nat.mul_lt_mul_of_pos_right (by omega) (Nat.two_pow_pos _)
      · have h4 : r % N + 1 = N := by omega
        have e0 : r + 1 = N * (r / N + 1) := by rw [Nat.mul_add]; omega
        have e1 : (r + 1) / N = r / N + 1 := by rw [e0, Nat.mul_div_cancel_left _ hN]
        have e2 : (r + 1) % N = 0 := by rw [e0, Nat.mul_mod_right]
        rw [e1, e2]
        obtain ⟨q, hq'⟩ : ∃ q, r / N = q + 1 := ⟨r / N - 1, by omega⟩
        rw [hq', Nat.add_sub_cancel, Nat.add_sub_cancel, Nat.pow_succ, Nat.add_zero, Nat.mul_comm (2 ^ q) 2, ← Nat.mul_assoc]
        exact Nat.mul_lt_mul_of_pos_right (by omega) (Nat.two_pow_pos _)
theorem rv_lt (b : Nat) {r : Nat} : ∀ {q : Nat}, r < q → rv b r < rv b q
  | 0, h => by omega
  | q + 1, h => by
    rcases Nat.eq_or_lt_of_le (Nat.lt_succ_iff.1 h) with e | e
    · rw [e]; exact rv_step b q
    · exact Nat.lt_trans (rv_lt b e) (rv_step b q)
theorem rv_zero (b : Nat) : rv b 0 = 0 := by unfold rv; rw [if_pos (Nat.two_pow_pos b)]

theorem log2_mul_pow {m : Nat} (k : Nat) (hm : m ≠ 0) : (m * 2 ^ k).log2 = m.log2 + k := by rw [← Nat.shiftLeft_eq, log2_shl k hm]
theorem rnd_one (a : Nat) : rnd a 1 = a := by
  unfold rnd
  rw [Nat.div_one, Nat.mod_one]; rfl
/-- Rounding what is a rung's gives that rung. -/
theorem rq_rv (b r : Nat) : rq b (rv b r) 1 = r := by
  have hN : 0 < 2 ^ b := Nat.two_pow_pos b
  unfold rq rv
  rw [Nat.div_one]
  by_cases h : r < 2 ^ b
  · rw [if_pos h]
    have hl : r.log2 - b = 0 := by
      by_cases h0 : r = 0
      · rw [h0]; simp
      · have := (Nat.log2_lt h0).2 h; omega
    rw [hl, Nat.zero_mul, Nat.zero_add, Nat.pow_zero, rnd_one]
  · rw [if_neg h]
    have hm : r % 2 ^ b < 2 ^ b := Nat.mod_lt _ hN
    have hd := Nat.div_add_mod r (2 ^ b)
    have hq : 1 ≤ r / 2 ^ b := (Nat.le_div_iff_mul_le hN).2 (by omega)
    have hl : ((2 ^ b + r % 2 ^ b) * 2 ^ (r / 2 ^ b - 1)).log2 = b + (r / 2 ^ b - 1) := by
      rw [log2_mul_pow _ (by omega)]
      congr 1
      rw [Nat.log2_eq_iff (by omega), Nat.pow_succ]
      omega
    rw [hl, Nat.add_sub_cancel_left, rnd_mul _ 1 (Nat.two_pow_pos _), rnd_one]
    obtain ⟨q, hq'⟩ : ∃ q, r / 2 ^ b = q + 1 := ⟨r / 2 ^ b - 1, by omega⟩
    rw [hq', Nat.mul_add] at hd
    rw [hq', Nat.add_sub_cancel, Nat.mul_comm q]
    omega

def sgn (x : Nat) : Bool := x / 9223372036854775808 % 2 == 1
def rung (x : Nat) : Nat := x % 9223372036854775808
def key (x : Nat) : Int := cond (sgn x) (-(rung x : Int)) (rung x)
def isFin (x : Nat) : Bool := Nat.blt (rung x) 9218868437227405312
def val (x : Nat) : Int := cond (sgn x) (-(rv 52 (rung x) : Int)) (rv 52 (rung x))

theorem isFin_lt {x : Nat} (h : isFin x = true) : rung x < 9218868437227405312 := Nat.le_of_ble_eq_true h

theorem rv_low {r : Nat} (h : r < 4503599627370496) : rv 52 r = r := by unfold rv; rw [if_pos (show r < 2 ^ 52 from h)]
theorem rv_high {r : Nat} (h : ¬ r < 4503599627370496) : rv 52 r = (4503599627370496 + r % 4503599627370496) * 2 ^ (r / 4503599627370496 - 1) := by
  unfold rv; rw [if_neg (show ¬ r < 2 ^ 52 from h)]

theorem signed_val (s : Bool) (m k : Nat) : signed s m k = cond s (-((m * 2 ^ k : Nat) : Int)) ((m * 2 ^ k : Nat) : Int) := by
  unfold signed; rw [Nat.shiftLeft_eq]; cases s <;> rfl

/-- What a word that is a number stands for. -/
theorem read_fin {x : Nat} (h : isFin x = true) : ∃ m i, double.read x = .number (sgn x) m i ∧ -1074 ≤ i ∧ m < 9007199254740992 ∧ rv 52 (rung x) = m * 2 ^ (i + 1074).toNat := by
  have hl := isFin_lt h
  unfold rung at hl ⊢
  unfold Format.read sgn
  simp only [signW, infR, binadeV, leastP]
  by_cases h1 : x % 9223372036854775808 < 4503599627370496
  · rw [if_pos h1]
    refine ⟨_, _, rfl, by omega, by omega, ?_⟩
    rw [rv_low h1, show (-1074 + 1074 : Int).toNat = 0 from rfl, Nat.pow_zero, Nat.mul_one]
  · rw [if_neg h1, if_pos hl]
    have := Nat.mod_lt (x % 9223372036854775808) (show 0 < 4503599627370496 by decide)
    refine ⟨_, _, rfl, by omega, by omega, ?_⟩
    rw [rv_high h1]
    congr 2
    omega
theorem fin_or_inf {x : Nat} (h : isNan x = false) : isFin x = true ∨ rung x = 9218868437227405312 := by
  cases hf : isFin x
  · right
    have h1 : ¬ rung x < 9218868437227405312 := fun hl => by
      have : isFin x = true := Nat.ble_eq_true_of_le hl
      rw [hf] at this; cases this
    unfold rung at h1 ⊢
    unfold isNan Format.read at h
    simp only [signW, infR, binadeV, leastP] at h
    rw [if_neg (by omega), if_neg h1] at h
    by_cases he : x % 9223372036854775808 = 9218868437227405312
    · exact he
    · rw [if_neg he] at h; simp [Datum.isNaN] at h
  · exact Or.inl rfl
theorem fin_not_nan {x : Nat} (h : isFin x = true) : isNan x = false := by
  obtain ⟨m, i, hr, _⟩ := read_fin h
  unfold isNan; rw [hr]; rfl

end Go.Ev

namespace Go.Ev
open Ieee

def KR (v : Int) (g : Nat) : Int := cond (decide (v < 0)) (-((min (rq 52 v.natAbs g) 9218868437227405312 : Nat) : Int)) ((min (rq 52 v.natAbs g) 9218868437227405312 : Nat) : Int)

theorem key_word (s : Bool) {r : Nat} (h : r ≤ 9218868437227405312) : key (double.word s r) = cond s (-(r : Int)) r := by
  unfold key rung sgn Format.word
  rw [signW]
  cases s
  · have h1 : r / 9223372036854775808 = 0 := Nat.div_eq_of_lt (by omega)
    have h2 : r % 9223372036854775808 = r := Nat.mod_eq_of_lt (by omega)
    simp [h1, h2]
  · have h1 : (9223372036854775808 + r) / 9223372036854775808 = 1 := by omega
    have h2 : (9223372036854775808 + r) % 9223372036854775808 = r := by omega
    simp [h1, h2]

/-- What is written of an exact value 'v / g' units, where the sign is the value's (of nought either). -/
theorem key_nearest {s : Bool} {m u w : Nat} {p : Int} {v : Int} {g : Nat} (hg : 0 < g) (hp : p + 1074 = u - w) (ha : rq 52 (m * 2 ^ u) (2 ^ w) = rq 52 v.natAbs g) (hs : v ≠ 0 → s = decide (v < 0)) : key (double.nearest s m p) = KR v g := by
  rw [nearest_rq s m u w p hp, ha, infR, key_word _ (Nat.min_le_right _ _)]
  unfold KR
  by_cases h0 : v = 0
  · subst h0
    rw [Int.natAbs_zero, rq_zero 52 hg]
    cases s <;> decide
  · rw [hs h0]

theorem val_signed {x m : Nat} {i base : Int} (hv : rv 52 (rung x) = m * 2 ^ (i + 1074).toNat) (h1 : base ≤ i) (h2 : -1074 ≤ base) : val x = signed (sgn x) m (i - base).toNat * 2 ^ (base + 1074).toNat := by
  rw [← signed_split, show (i - base).toNat + (base + 1074).toNat = (i + 1074).toNat by omega, signed_val, ← hv]; rfl

theorem key_sum {x : Nat} {s t : Bool} {m n : Nat} {i j : Int} {r : Bool} {a b : Int} (hi : -1074 ≤ i) (hj : -1074 ≤ j)
    (ea : a = signed s m (i - min i j).toNat * 2 ^ (min i j + 1074).toNat) (eb : b = signed t n (j - min i j).toNat * 2 ^ (min i j + 1074).toNat)
    (hr : x = double.write (.number r (signed s m (i - min i j).toNat + signed t n (j - min i j).toNat).natAbs (min i j)))
    (hs : signed s m (i - min i j).toNat + signed t n (j - min i j).toNat ≠ 0 → r = decide (signed s m (i - min i j).toNat + signed t n (j - min i j).toNat < 0)) : key x = KR (a + b) 1 := by
  generalize signed s m (i - min i j).toNat = A at *
  generalize signed t n (j - min i j).toNat = B at *
  have e : a + b = (A + B) * 2 ^ (min i j + 1074).toNat := by rw [ea, eb, Int.add_mul]
  have hc : (0 : Int) < 2 ^ (min i j + 1074).toNat := Int.pow_pos (by decide)
  rw [hr, e]
  refine key_nearest (u := (min i j + 1074).toNat) (w := 0) (by decide) (by omega) ?_ ?_
  · rw [Int.natAbs_mul, Int.natAbs_pow]; rfl
  · intro h0
    have hAB : A + B ≠ 0 := fun h => h0 (by rw [h, Int.zero_mul])
    rw [hs hAB]
    refine decide_eq_decide.2 ?_
    constructor
    · intro h; exact Int.mul_neg_of_neg_of_pos h hc
    · intro h
      rcases Int.lt_trichotomy (A + B) 0 with h1 | h1 | h1
      · exact h1
      · exact absurd h1 hAB
      · have := Int.mul_pos h1 hc; omega

theorem key_add {x y : Nat} (hx : isFin x = true) (hy : isFin y = true) : key (fadd x y) = KR (val x + val y) 1 ∧ isNan (fadd x y) = false := by
  obtain ⟨m, i, hrx, hi, _, hvx⟩ := read_fin hx
  obtain ⟨n, j, hry, hj, _, hvy⟩ := read_fin hy
  constructor
  · unfold fadd Format.add
    rw [hrx, hry]
    simp only [Datum.sum, Option.map_some, Option.getD_some]
    refine key_sum hi hj (val_signed hvx (by omega) (by omega)) (val_signed hvy (by omega) (by omega)) rfl ?_
    intro h; rw [if_neg h]
  · have : ∃ r, double.add x y = some r := by unfold Format.add; rw [hrx, hry]; exact ⟨_, rfl⟩
    obtain ⟨r, hr⟩ := this
    unfold fadd; rw [hr]; exact isNan_add hr
theorem val_abs (x : Nat) : (val x).natAbs = rv 52 (rung x) := by unfold val; cases sgn x <;> simp only [cond_true, cond_false] <;> omega
theorem val_neg {x : Nat} (h : val x ≠ 0) : sgn x = decide (val x < 0) := by
  unfold val at h ⊢
  cases hs : sgn x
  · rw [cond_false, decide_eq_false (by omega)]
  · rw [hs, cond_true] at h; rw [cond_true, decide_eq_true (by omega)]
theorem mul_sign {a b : Int} (h : a * b ≠ 0) : (decide (a < 0) ^^ decide (b < 0)) = decide (a * b < 0) := by
  have ha : a ≠ 0 := fun e => h (by rw [e, Int.zero_mul])
  have hb : b ≠ 0 := fun e => h (by rw [e, Int.mul_zero])
  rcases Int.lt_or_gt_of_ne ha with h1 | h1 <;> rcases Int.lt_or_gt_of_ne hb with h2 | h2
  · have := Int.mul_pos_of_neg_of_neg h1 h2
    rw [decide_eq_true h1, decide_eq_true h2, decide_eq_false (by omega)]; rfl
  · have := Int.mul_neg_of_neg_of_pos h1 h2
    rw [decide_eq_true h1, decide_eq_false (by omega), decide_eq_true this]; rfl
  · have := Int.mul_neg_of_pos_of_neg h1 h2
    rw [decide_eq_false (by omega), decide_eq_true h2, decide_eq_true this]; rfl
  · have := Int.mul_pos h1 h2
    rw [decide_eq_false (by omega), decide_eq_false (by omega), decide_eq_false (by omega)]; rfl

theorem key_mul {x y c : Nat} (hc : c = 1074) (hx : isFin x = true) (hy : isFin y = true) : key (fmul x y) = KR (val x * val y) (2 ^ c) ∧ isNan (fmul x y) = false := by
  obtain ⟨m, i, hrx, hi, _, hvx⟩ := read_fin hx
  obtain ⟨n, j, hry, hj, _, hvy⟩ := read_fin hy
  constructor
  · unfold fmul Format.mul
    rw [hrx, hry]
    simp only [Datum.product, Option.map_some, Option.getD_some, Format.write]
    refine key_nearest (u := (i + 1074).toNat + (j + 1074).toNat) (w := c) (Nat.two_pow_pos _) (by omega) ?_ ?_
    · rw [Int.natAbs_mul, val_abs, val_abs, hvx, hvy, Nat.pow_add]
      congr 1
      rw [Nat.mul_assoc, Nat.mul_assoc, Nat.mul_left_comm n]
    · intro h
      have ha : val x ≠ 0 := fun e => h (by rw [e, Int.zero_mul])
      have hb : val y ≠ 0 := fun e => h (by rw [e, Int.mul_zero])
      rw [val_neg ha, val_neg hb, mul_sign h]
  · have : ∃ r, double.mul x y = some r := by unfold Format.mul; rw [hrx, hry]; exact ⟨_, rfl⟩
    obtain ⟨r, hr⟩ := this
    unfold fmul; rw [hr]; exact isNan_mul hr

/-- A number's sign, as a factor. -/
def sg (v : Int) : Int := cond (decide (v < 0)) (-1) 1

theorem key_div {x y c : Nat} (hc : c = 1074) (hx : isFin x = true) (hy : isFin y = true) (h0 : val y ≠ 0) : key (fdiv x y) = KR (val x * sg (val y) * ((2 ^ c : Nat) : Int)) (val y).natAbs ∧ isNan (fdiv x y) = false := by
  obtain ⟨m, i, hrx, hi, hm, hvx⟩ := read_fin hx
  obtain ⟨n, j, hry, hj, hn, hvy⟩ := read_fin hy
  have hn0 : n ≠ 0 := fun e => h0 (by
    have : (val y).natAbs = 0 := by rw [val_abs, hvy, e, Nat.zero_mul]
    omega)
  have hr : double.div x y = some (double.write (.number (sgn x ^^ sgn y) (2 * (m <<< (54 + n.log2 - m.log2) / n) + (m <<< (54 + n.log2 - m.log2) % n != 0).toNat) (i - j - (54 + n.log2 - m.log2 : Nat) - 1))) := by
    unfold Format.div
    rw [hrx, hry]
    simp only [Datum.quotient]
    rw [if_neg hn0]
    rfl
  refine ⟨?_, by unfold fdiv; rw [hr]; exact isNan_div hr⟩
  unfold fdiv
  rw [hr, Option.getD_some]
  have hsg : (sg (val y)).natAbs = 1 := by unfold sg; cases decide (val y < 0) <;> rfl
  have hP : 0 < (2 ^ c : Nat) := Nat.two_pow_pos _
  refine key_nearest (u := (i + 1074).toNat + c) (w := (j + 1074).toNat + (54 + n.log2 - m.log2) + 1) (by omega) (by omega) ?_ ?_
  · rw [Int.natAbs_mul, Int.natAbs_mul, hsg, Nat.mul_one, Int.natAbs_natCast, val_abs, val_abs, hvx, hvy]
    by_cases hm0 : m = 0
    · rw [hm0, Nat.zero_shiftLeft, Nat.zero_div, Nat.zero_mod, Nat.zero_mul, Nat.zero_mul]
      show rq 52 (0 * _) _ = _
      rw [Nat.zero_mul, rq_zero 52 (Nat.two_pow_pos _), rq_zero 52 (Nat.mul_pos (by omega) (Nat.two_pow_pos _))]
    · have hl := log2_lt53 hm
      have hq : 2 ^ (52 + 1) ≤ m <<< (54 + n.log2 - m.log2) / n := by
        rw [Nat.le_div_iff_mul_le (by omega)]
        have h1 : 2 ^ (54 + n.log2) ≤ m <<< (54 + n.log2 - m.log2) := by
          rw [Nat.shiftLeft_eq]
          have := Nat.mul_le_mul_right (2 ^ (54 + n.log2 - m.log2)) (Nat.log2_self_le hm0)
          rw [← Nat.pow_add, show m.log2 + (54 + n.log2 - m.log2) = 54 + n.log2 by omega] at this
          exact this
        refine Nat.le_trans ?_ h1
        rw [show 54 + n.log2 = (52 + 1) + (n.log2 + 1) by omega, Nat.pow_add 2 (52 + 1)]
        exact Nat.mul_le_mul_left _ (Nat.le_of_lt Nat.lt_log2_self)
      rw [rq_sticky 52 _ n _ _ (by omega) hq, Nat.shiftLeft_eq]
      generalize 54 + n.log2 - m.log2 = k
      have := rq_mul 52 (m * 2 ^ (i + 1074).toNat * 2 ^ c) (n * 2 ^ (j + 1074).toNat) (Nat.two_pow_pos (k + 1))
      rw [← this]
      congr 1
      · rw [Nat.pow_add, Nat.pow_succ]
        generalize 2 ^ (i + 1074).toNat = a
        generalize 2 ^ c = b
        generalize 2 ^ k = d
        simp only [Nat.mul_assoc, Nat.mul_comm, Nat.mul_left_comm]
      · rw [Nat.mul_assoc, ← Nat.pow_add, Nat.add_assoc]
  · intro h
    have hP' : (0 : Int) < ((2 ^ c : Nat) : Int) := Int.ofNat_lt.2 hP
    generalize ((2 ^ c : Nat) : Int) = P at h hP'
    have h1 : val x * sg (val y) ≠ 0 := fun e => h (by rw [e, Int.zero_mul])
    have ha : val x ≠ 0 := fun e => h1 (by rw [e, Int.zero_mul])
    have h2 := mul_sign h
    rw [← h2, decide_eq_false (show ¬ P < 0 by omega), Bool.xor_false, ← mul_sign h1, val_neg ha, val_neg h0]
    congr 1
    unfold sg
    cases decide (val y < 0) <;> decide
end Go.Ev

namespace Go.Ev
open Ieee

end Go.Ev

namespace Go.Ev
open Ieee

/-- The word of a power of two, in units of the least float. -/
def pw (n : Nat) : Nat := (n - 51) * 4503599627370496
theorem rv_pw {n : Nat} (h : 52 ≤ n) : rv 52 (pw n) = 2 ^ n := by
  obtain ⟨k, rfl⟩ : ∃ k, n = 52 + k := ⟨n - 52, by omega⟩
  have e : pw (52 + k) = (k + 1) * 4503599627370496 := by unfold pw; congr 1; omega
  rw [e, rv_high (by omega), Nat.mul_mod_left, Nat.mul_div_cancel _ (by decide), Nat.add_zero, Nat.add_sub_cancel, Nat.pow_add]
/-- At most that. -/
def Bd (n x : Nat) : Prop := rung x ≤ pw n
theorem Bd.fin {n x : Nat} (h : Bd n x) (hn : n ≤ 2097) : isFin x = true := by
  unfold Bd pw at h
  unfold isFin
  exact Nat.ble_eq_true_of_le (by show rung x + 1 ≤ _; omega)
theorem Bd.val {n x : Nat} (h : Bd n x) (hn : 52 ≤ n) : (val x).natAbs ≤ 2 ^ n := by
  rw [val_abs, ← rv_pw hn]
  rcases Nat.lt_or_ge (rung x) (pw n) with e | e
  · exact Nat.le_of_lt (rv_lt 52 e)
  · rw [show rung x = pw n from Nat.le_antisymm h e]; exact Nat.le_refl _
theorem key_abs (x : Nat) : (key x).natAbs = rung x := by unfold key; cases sgn x <;> simp only [cond_true, cond_false] <;> omega
theorem KR_abs (v : Int) (g : Nat) : (KR v g).natAbs ≤ rq 52 v.natAbs g := by
  unfold KR
  cases decide (v < 0)
  · rw [cond_false, Int.natAbs_natCast]; exact Nat.min_le_left _ _
  · rw [cond_true, Int.natAbs_neg, Int.natAbs_natCast]; exact Nat.min_le_left _ _
theorem Bd.mono {n m x : Nat} (h : Bd n x) (hm : n ≤ m) : Bd m x :=
  Nat.le_trans h (Nat.mul_le_mul_right _ (Nat.sub_le_sub_right hm _))
theorem rv_le {r q : Nat} (h : r ≤ q) : rv 52 r ≤ rv 52 q := by
  rcases Nat.lt_or_ge r q with e | e
  · exact Nat.le_of_lt (rv_lt 52 e)
  · rw [Nat.le_antisymm h e]; exact Nat.le_refl _
theorem val_zero {x : Nat} : val x = 0 ↔ rung x = 0 := by
  constructor
  · intro h
    have h1 := val_abs x
    rw [h, Int.natAbs_zero] at h1
    rcases Nat.eq_zero_or_pos (rung x) with e | e
    · exact e
    · have := rv_lt 52 e; rw [rv_zero] at this; omega
  · intro h
    have h1 := val_abs x
    rw [h, rv_zero] at h1
    omega
theorem key_fneg {x : Nat} (h : isNan x = false) : key (fneg x) = - key x ∧ isNan (fneg x) = false := by
  have hx : ∀ s r, r ≤ 9218868437227405312 → key (fneg (double.word s r)) = - key (double.word s r) ∧ isNan (fneg (double.word s r)) = false := fun s r hr => by
    rw [fneg_word s hr, key_word _ hr, key_word _ hr, isNan_word _ hr]
    cases s <;> simp
  have e : fneg x = x ^^^ 9223372036854775808 := by unfold fneg; rw [h]; rfl
  have hr : rung x ≤ 9218868437227405312 := by
    rcases fin_or_inf h with h | h
    · have := isFin_lt h; omega
    · omega
  have hb : (x ^^^ 9223372036854775808) % 9223372036854775808 = x % 9223372036854775808 := by
    rw [show (9223372036854775808 : Nat) = 2 ^ 63 from by decide]
    rw [Nat.xor_mod_two_pow, Nat.mod_self]; simp
  have hs : sgn (x ^^^ 9223372036854775808) = !sgn x := by
    unfold sgn
    have : (x ^^^ 9223372036854775808) / 9223372036854775808 = x / 9223372036854775808 ^^^ 1 := by
      rw [show (9223372036854775808 : Nat) = 2 ^ 63 from by decide, ← Nat.shiftRight_eq_div_pow, ← Nat.shiftRight_eq_div_pow, Nat.shiftRight_xor_distrib]
      rfl
    rw [this]
    have h2 : (x / 9223372036854775808 ^^^ 1) % 2 = (x / 9223372036854775808 % 2) ^^^ 1 := by
      rw [show (2 : Nat) = 2 ^ 1 from rfl, Nat.xor_mod_two_pow]
    rw [h2]
    have : x / 9223372036854775808 % 2 = 0 ∨ x / 9223372036854775808 % 2 = 1 := by omega
    rcases this with e | e <;> rw [e] <;> rfl
  rw [e]
  constructor
  · unfold key
    rw [hs]
    have : rung (x ^^^ 9223372036854775808) = rung x := hb
    rw [this]
    cases sgn x <;> simp
  · unfold isNan at *
    rw [read_isNaN] at *
    rw [hb]; exact h
end Go.Ev

namespace Go.Ev
open Ieee

/-- y is 2^j times x, both nought or both normal numbers, of one sign. -/
structure Sc (j x y : Nat) : Prop where
  s : sgn x = sgn y
  fx : isFin x = true
  fy : isFin y = true
  r : (rung x = 0 ∧ rung y = 0) ∨ (2 ^ 52 ≤ rung x ∧ rung y = rung x + j * 2 ^ 52)
theorem rv_scale {r : Nat} (j : Nat) (h : 2 ^ 52 ≤ r) : rv 52 (r + j * 2 ^ 52) = rv 52 r * 2 ^ j := by
  have p : 0 < 2 ^ 52 := Nat.two_pow_pos 52
  unfold rv
  generalize 2 ^ 52 = b at *
  rw [if_neg (by have : r ≤ r + j * b := Nat.le_add_right _ _; omega), if_neg (by omega), Nat.add_mul_mod_self_right, Nat.add_mul_div_right _ _ p]
  have : 1 ≤ r / b := (Nat.le_div_iff_mul_le p).2 (by omega)
  rw [show r / b + j - 1 = (r / b - 1) + j by omega, Nat.pow_add, Nat.mul_assoc]
theorem Sc.val {j x y : Nat} (h : Sc j x y) : val y = val x * ((2 ^ j : Nat) : Int) := by
  unfold Go.Ev.val
  rw [← h.s]
  have e : rv 52 (rung y) = rv 52 (rung x) * 2 ^ j := by
    rcases h.r with ⟨a, b⟩ | ⟨a, b⟩
    · rw [a, b, rv_zero, Nat.zero_mul]
    · rw [b]; exact rv_scale j a
  rw [e]
  cases sgn x
  · simp only [cond_false]; push_cast; rfl
  · simp only [cond_true]; push_cast; rw [Int.neg_mul]
end Go.Ev

namespace Go.Ev
open Ieee

end Go.Ev

namespace Go.Ev
open Ieee

end Go.Ev

namespace Go.Ev
open Ieee

theorem rnd_exact {a g : Nat} (hg : 0 < g) (h : g ∣ a) : rnd a g = a / g := by
  obtain ⟨t, rfl⟩ := h
  unfold rnd
  rw [Nat.mul_mod_right, Nat.mul_zero]
  have h1 : decide (g < 0) = false := decide_eq_false (Nat.not_lt_zero _)
  have h2 : (g == 0) = false := by
    cases h3 : g == 0
    · rfl
    · have := eq_of_beq h3; omega
  rw [h1, h2]
  rfl
theorem rnd_lo {a : Nat} (h : 2 ^ 52 ≤ a) : 2 ^ 52 ≤ rnd a (2 ^ (a.log2 - 52)) ∧ rnd a (2 ^ (a.log2 - 52)) ≤ 2 ^ 53 := by
  have h0 : a ≠ 0 := by have := Nat.two_pow_pos 52; omega
  have hL : 52 ≤ a.log2 := (Nat.le_log2 h0).2 h
  have l1 := Nat.log2_self_le h0
  have l2 := Nat.lt_log2_self (n := a)
  constructor
  · refine Nat.le_trans ?_ (le_rnd _ _)
    rw [Nat.le_div_iff_mul_le (Nat.two_pow_pos _), ← Nat.pow_add, show 52 + (a.log2 - 52) = a.log2 by omega]
    exact l1
  · refine Nat.le_trans (rnd_le _ _) ?_
    have : a / 2 ^ (a.log2 - 52) < 2 ^ 53 := by
      rw [Nat.div_lt_iff_lt_mul (Nat.two_pow_pos _), ← Nat.pow_add, show 53 + (a.log2 - 52) = a.log2 + 1 by omega]
      exact l2
    exact this
/-- The value of what is rounded. -/
theorem rv_rq {a : Nat} (h : 2 ^ 52 ≤ a) : rv 52 (rq 52 a 1) = rnd a (2 ^ (a.log2 - 52)) * 2 ^ (a.log2 - 52) := by
  obtain ⟨r1, r2⟩ := rnd_lo h
  unfold rq
  rw [Nat.div_one, Nat.one_mul]
  generalize rnd a (2 ^ (a.log2 - 52)) = R at *
  generalize a.log2 - 52 = k
  have p52 : (2 : Nat) ^ 52 = 4503599627370496 := by decide
  have p53 : (2 : Nat) ^ 53 = 9007199254740992 := by decide
  rw [p52] at r1
  rw [p53] at r2
  rw [p52, rv_high (by omega)]
  rcases Nat.lt_or_ge R 9007199254740992 with e | e
  · have h1 : (k * 4503599627370496 + R) % 4503599627370496 = R - 4503599627370496 := by omega
    have h2 : (k * 4503599627370496 + R) / 4503599627370496 = k + 1 := by omega
    rw [h1, h2, Nat.add_sub_cancel, show 4503599627370496 + (R - 4503599627370496) = R by omega]
  · have h0 : R = 9007199254740992 := by omega
    subst h0
    have h1 : (k * 4503599627370496 + 9007199254740992) % 4503599627370496 = 0 := by omega
    have h2 : (k * 4503599627370496 + 9007199254740992) / 4503599627370496 = k + 2 := by omega
    rw [h1, h2, Nat.add_zero, show k + 2 - 1 = k + 1 by omega, Nat.pow_succ, show (9007199254740992 : Nat) = 4503599627370496 * 2 by decide, Nat.mul_assoc, Nat.mul_comm (2 ^ k) 2]
/-- A multiple of a power of two. -/
def Gr (k x : Nat) : Prop := 2 ^ k ∣ (val x).natAbs
theorem Gr.mono {k l x : Nat} (h : Gr k x) (hl : l ≤ k) : Gr l x := Nat.dvd_trans (Nat.pow_dvd_pow 2 hl) h
end Go.Ev

namespace Go.Ev
open Ieee

end Go.Ev

namespace Go.Ev
open Ieee

/-- x is the whole number a (c stands for 1074; of nought the sign is left open). -/
structure Wh (c x : Nat) (a : Int) : Prop where
  fin : isFin x = true
  val : val x = a * ((2 ^ c : Nat) : Int)
theorem wh_rv {c n : Nat} (hc : 52 ≤ c) (h0 : n ≠ 0) (h : n < 2 ^ 53) : rv 52 (rq 52 (n * 2 ^ c) 1) = n * 2 ^ c := by
  have h52 : 2 ^ 52 ≤ n * 2 ^ c := Nat.le_trans (Nat.pow_le_pow_right (by decide) hc) (Nat.le_mul_of_pos_left _ (by omega))
  have hl : n.log2 < 53 := (Nat.log2_lt h0).2 h
  have hd : 2 ^ ((n * 2 ^ c).log2 - 52) ∣ n * 2 ^ c := by
    rw [log2_mul_pow c h0]
    exact Nat.dvd_trans (Nat.pow_dvd_pow 2 (by omega)) (Nat.dvd_mul_left _ _)
  rw [rv_rq h52, rnd_exact (Nat.two_pow_pos _) hd, Nat.div_mul_cancel hd]
section
variable {c x y : Nat} {a b : Int} (hc : c = 1074)
include hc
omit hc
end
end Go.Ev

namespace Go.Ev
open Ieee

def VB (a j x : Nat) : Prop := isFin x = true ∧ (val x).natAbs ≤ a * 2 ^ j
theorem VB.up {a j k x : Nat} (h : VB a j x) (hk : a ≤ 2 ^ k) : VB 1 (j + k) x := ⟨h.1, Nat.le_trans h.2 (by rw [Nat.one_mul, Nat.pow_add, Nat.mul_comm]; exact Nat.mul_le_mul_left _ hk)⟩
theorem vb_of {z g a j : Nat} {v : Int} (hz : key z = KR v g) (hg : 0 < g) (hv : v.natAbs ≤ a * 2 ^ j * g) (ha : a ≠ 0) (ha' : a < 2 ^ 53) (hj : 52 ≤ j) (hj' : j ≤ 2000) : VB a j z := by
  have h1 : rung z ≤ rq 52 (a * 2 ^ j) 1 := by
    rw [← key_abs, hz]
    exact Nat.le_trans (KR_abs v g) (rq_mono 52 hg (by decide) (by rw [Nat.mul_one]; exact hv))
  constructor
  · have h2 : rq 52 (a * 2 ^ j) 1 ≤ pw (53 + j) := by
      refine Nat.le_trans (rq_mono1 52 (Nat.mul_le_mul_right _ (Nat.le_of_lt ha'))) ?_
      rw [← Nat.pow_add, ← rv_pw (by omega), rq_rv]
      exact Nat.le_refl _
    have h3 : Bd (53 + j) z := Nat.le_trans h1 h2
    exact h3.fin (by omega)
  · rw [val_abs]
    have h4 := rv_le h1
    rw [wh_rv hj ha ha'] at h4
    exact h4
theorem vb_zero (a j : Nat) : VB a j 0 := ⟨by decide +kernel, by
  have : val 0 = 0 := val_zero.2 (by decide)
  rw [this]; exact Nat.zero_le _⟩
section
variable {c x y a b i j : Nat} (hc : c = 1074)
theorem vb_add (hx : VB a j x) (hy : VB b j y) (h0 : a + b ≠ 0) (h : a + b < 2 ^ 53) (hj : 52 ≤ j) (hj' : j ≤ 2000) : VB (a + b) j (fadd x y) := by
  refine vb_of (key_add hx.1 hy.1).1 (by decide) ?_ h0 h hj hj'
  have h1 := hx.2
  have h2 := hy.2
  rw [Nat.mul_one, Nat.add_mul]
  generalize a * 2 ^ j = A at *
  generalize b * 2 ^ j = B at *
  omega
include hc
theorem vb_mul {k : Nat} (hx : VB a i x) (hy : VB 1 j y) (hk : k + c = i + j) (h0 : a ≠ 0) (h : a < 2 ^ 53) (hj : 52 ≤ k) (hj' : k ≤ 2000) : VB a k (fmul x y) := by
  refine vb_of (key_mul hc hx.1 hy.1).1 (Nat.two_pow_pos _) ?_ h0 h hj hj'
  rw [Int.natAbs_mul, Nat.mul_assoc, ← Nat.pow_add, hk, Nat.pow_add, ← Nat.mul_assoc]
  have := hy.2
  rw [Nat.one_mul] at this
  exact Nat.mul_le_mul hx.2 this
end
theorem cut_le (way : Toward) (s : Bool) (n d : Nat) : way.cut s n d ≤ n + 1 := by
  unfold Toward.cut
  exact Nat.add_le_add (Nat.div_le_self n _) (toNat_le_one _)
/-- A number of no more than 2^54, made whole. -/
theorem whole_le {c j x : Nat} (way : Toward) (hc : c = 1074) (hx : VB 1 (c + j) x) (hj : 53 ≤ j) : ∃ s M, (double.read x).integral way = .number s M 0 ∧ M ≤ 2 ^ j + 1 := by
  obtain ⟨m, i, h1, h2, h3, h4⟩ := read_fin hx.1
  have hv := hx.2
  rw [val_abs, h4, Nat.one_mul] at hv
  rw [h1]
  refine ⟨_, _, rfl, Nat.le_trans (cut_le _ _ _ _) (Nat.add_le_add_right ?_ 1)⟩
  rw [Nat.shiftLeft_eq]
  by_cases hi : 0 ≤ i
  · obtain ⟨u, rfl⟩ : ∃ u : Nat, i = u := ⟨i.toNat, by omega⟩
    rw [show ((u : Int) + 1074).toNat = u + c by omega, Nat.pow_add, ← Nat.mul_assoc, Nat.add_comm c j, Nat.pow_add] at hv
    have := Nat.le_of_mul_le_mul_right hv (Nat.two_pow_pos c)
    rw [Int.toNat_natCast]
    exact this
  · rw [show i.toNat = 0 by omega, Nat.pow_zero, Nat.mul_one]
    have : 2 ^ 53 ≤ 2 ^ j := Nat.pow_le_pow_right (by decide) hj
    have e : 2 ^ 53 = 9007199254740992 := by decide
    omega
theorem fit_vb {c j x : Nat} (hc : c = 1074) (hx : VB 1 (c + j) x) (hj : 53 ≤ j) (hj' : j ≤ 60) : Go.Gv.fitI .i64 x = true := by
  obtain ⟨s, M, h1, h2⟩ := whole_le .zero hc hx hj
  have hM : M ≤ 2 ^ 60 + 1 := Nat.le_trans h2 (Nat.add_le_add_right (Nat.pow_le_pow_right (by decide) hj') 1)
  have e60 : 2 ^ 60 = 1152921504606846976 := by decide
  unfold Go.Gv.fitI floatToIntVal
  have ht : (FloatKind.f64.decode x).toInt .zero = some (signed s M 0) := by
    show (double.read x).toInt .zero = _
    unfold Datum.toInt
    rw [h1]
  rw [ht]
  have hs : signed s M 0 = cond s (-(M : Int)) (M : Int) := by
    rw [signed_val, Nat.pow_zero, Nat.mul_one]
  have h3 : IntKind.i64.min ≤ signed s M 0 ∧ signed s M 0 ≤ IntKind.i64.max := by
    rw [hs, show IntKind.i64.min = -9223372036854775808 by decide, show IntKind.i64.max = 9223372036854775807 by decide]
    cases s
    · rw [cond_false]; omega
    · rw [cond_true]; omega
  simp only [h3, and_self, if_true]
  rfl
end Go.Ev

namespace Go.Ev
open Ieee
theorem vb_exp {j k x : Nat} (h : VB 1 j x) (hk : j ≤ k) : VB 1 k x := ⟨h.1, Nat.le_trans h.2 (Nat.mul_le_mul_left _ (Nat.pow_le_pow_right (by decide) hk))⟩
theorem vb_const {c j x : Nat} (hc : c = 1074) (h : (isFin x && Nat.ble (val x).natAbs (1 * 2 ^ (1074 + j))) = true) : VB 1 (c + j) x := by
  subst hc
  simp only [Bool.and_eq_true] at h
  exact ⟨h.1, Nat.le_of_ble_eq_true h.2⟩
end Go.Ev
namespace Go.Proofs.YtngjiggplabfkaaGreat
open Go.Gv

end Go.Proofs.YtngjiggplabfkaaGreat
namespace Go.Proofs.YtngjiggplabfkaaGreat.Hs
open Go.Gv
open Go.Ev (cn fadd fsub fmul fdiv fsqrt fneg feq flt fle fgt fge fabs isNan VB)

end Go.Proofs.YtngjiggplabfkaaGreat.Hs

namespace Go.Ev
open Ieee
theorem mth_whole {c : Nat} (hc : c = 1074) (n : Int) : key (cn (FloatKind.f64.nearest n)) = KR (n * ((2 ^ c : Nat) : Int)) 1 ∧ isNan (cn (FloatKind.f64.nearest n)) = false := by
  have hd : FloatKind.f64.nearest n = Ieee.double.nearest (decide (n < 0)) n.natAbs 0 := rfl
  have hn : isNan (FloatKind.f64.nearest n) = false := by rw [hd]; exact isNan_nearest _ _ _
  rw [cn_of_not hn]
  refine ⟨?_, hn⟩
  rw [hd]
  refine key_nearest (u := c) (w := 0) (by decide) (by omega) ?_ ?_
  · rw [Int.natAbs_mul, Int.natAbs_natCast, Nat.pow_zero]
  · intro h
    have hp : (0 : Int) < ((2 ^ c : Nat) : Int) := by have := Nat.two_pow_pos c; omega
    by_cases h0 : n < 0
    · rw [decide_eq_true h0, decide_eq_true (Int.mul_neg_of_neg_of_pos h0 hp)]
    · rw [decide_eq_false h0, decide_eq_false (Int.not_lt.2 (Int.mul_nonneg (by omega) (by omega)))]
theorem near_vb {c j : Nat} (hc : c = 1074) (hj : j ≤ 70) {n : Int} (h : n.natAbs ≤ 2 ^ j) : VB 1 (c + j) (cn (FloatKind.f64.nearest n)) := by
  refine vb_of (mth_whole hc n).1 (by decide) ?_ (by decide) (by decide) (by omega) (by omega)
  rw [Int.natAbs_mul, Int.natAbs_natCast, Nat.mul_one, Nat.one_mul, Nat.pow_add, Nat.mul_comm]
  exact Nat.mul_le_mul_left _ h
theorem fneg_vb {j x : Nat} (h : VB 1 j x) : VB 1 j (fneg x) := by
  obtain ⟨e1, e2⟩ := key_fneg (fin_not_nan h.1)
  have er : rung (fneg x) = rung x := by rw [← key_abs, ← key_abs, e1, Int.natAbs_neg]
  refine ⟨?_, ?_⟩
  · have := h.1
    unfold isFin at this ⊢
    rw [er]; exact this
  · have := h.2
    rw [val_abs] at this ⊢
    rw [er]; exact this
theorem f2i_vb {c j x : Nat} (hc : c = 1074) (hx : VB 1 (c + j) x) (hj : 53 ≤ j) (hj' : j ≤ 60) : (Go.Gv.f2i .i64 x).natAbs ≤ 2 ^ j + 1 := by
  obtain ⟨s, M, h1, h2⟩ := whole_le .zero hc hx hj
  have hM : M ≤ 2 ^ 60 + 1 := Nat.le_trans h2 (Nat.add_le_add_right (Nat.pow_le_pow_right (by decide) hj') 1)
  have e60 : 2 ^ 60 = 1152921504606846976 := by decide
  unfold Go.Gv.f2i floatToIntVal
  have ht : (FloatKind.f64.decode x).toInt .zero = some (signed s M 0) := by
    show (double.read x).toInt .zero = _
    unfold Datum.toInt
    rw [h1]
  rw [ht]
  have hs : signed s M 0 = cond s (-(M : Int)) (M : Int) := by
    rw [signed_val, Nat.pow_zero, Nat.mul_one]
  have h3 : IntKind.i64.min ≤ signed s M 0 ∧ signed s M 0 ≤ IntKind.i64.max := by
    rw [hs, show IntKind.i64.min = -9223372036854775808 by decide, show IntKind.i64.max = 9223372036854775807 by decide]
    cases s
    · rw [cond_false]; omega
    · rw [cond_true]; omega
  simp only [h3, and_self, if_true, Option.getD_some]
  rw [hs]
  generalize 2 ^ j = B at *
  cases s
  · rw [cond_false]; omega
  · rw [cond_true]; omega
end Go.Ev
namespace Go.Proofs.YtngjiggplabfkaaGreat.Hs.So
open Go.Gv
open Go.Ev (cn fadd fsub fmul fdiv fsqrt fneg feq flt fle fgt fge fabs VB key isNan isFin val)

theorem mth_vb {c j : Nat} (hc : c = 1074) (hj : j ≤ 60) {n : Int} (h : n.natAbs ≤ 2 ^ (j + 9)) : VB 1 (c + j) (mth n) := by
  have h1 := Go.Ev.near_vb hc (j := j + 9) (by omega) h
  have ev : val k1000 = ((1000 * 2 ^ c : Nat) : Int) := by subst hc; decide +kernel
  have hp := Nat.two_pow_pos c
  have hk := (Go.Ev.key_div hc h1.1 (show isFin k1000 = true by decide +kernel) (by rw [ev]; omega)).1
  unfold mth
  refine Go.Ev.vb_of hk ?_ ?_ (by decide) (by decide) (by omega) (by omega)
  · rw [ev, Int.natAbs_natCast]; omega
  · rw [ev, Int.natAbs_mul, Int.natAbs_mul, Int.natAbs_natCast, Int.natAbs_natCast]
    have es : (Go.Ev.sg ((1000 * 2 ^ c : Nat) : Int)).natAbs = 1 := by
      unfold Go.Ev.sg
      rw [decide_eq_false (by omega)]; rfl
    rw [es, Nat.mul_one, Nat.one_mul, ← Nat.mul_assoc]
    refine Nat.mul_le_mul_right _ (Nat.le_trans h1.2 ?_)
    rw [Nat.one_mul, ← Nat.add_assoc, Nat.pow_add _ _ 9]
    exact Nat.mul_le_mul_left _ (by decide)
theorem rdP_vb {c j x : Nat} (hc : c = 1074) (hj : j ≤ 46) (h : VB 1 (c + j) x) : VB 1 (c + (j + 11)) (rdP x) := by
  have h1 := Go.Ev.vb_mul hc h (Go.Ev.vb_const (j := 10) (x := k1000) hc (by decide +kernel)) (k := c + (j + 10)) (by omega) (by decide) (by decide) (by omega) (by omega)
  have h2 := Go.Ev.vb_exp (Go.Ev.vb_const (j := 0) (x := 4602678819172646912) hc (by decide +kernel)) (show c + 0 ≤ c + (j + 10) by omega)
  have h3 := Go.Ev.vb_add h1 h2 (by decide) (by decide) (by omega) (by omega)
  exact Go.Ev.VB.up (k := 1) h3 (by decide)
theorem rd_fit {c j x : Nat} (hc : c = 1074) (hj : j ≤ 46) (h : VB 1 (c + j) x) : rdB x = true := by
  have go : ∀ {x}, VB 1 (c + j) x → fitI .i64 (rdP x) = true := fun {x} h => Go.Ev.fit_vb (j := 57) hc (Go.Ev.vb_exp (rdP_vb hc hj h) (by omega)) (by omega) (by omega)
  unfold rdB
  cases flt x 0
  · exact go h
  · exact go (Go.Ev.fneg_vb h)
theorem rdI_le {c j x : Nat} (hc : c = 1074) (hj : j ≤ 42) (h : VB 1 (c + j) x) : (rdI x).natAbs ≤ 2 ^ 54 := by
  have e53 : 2 ^ 53 = 9007199254740992 := by decide
  have e54 : 2 ^ 54 = 18014398509481984 := by decide
  have go : ∀ {x}, VB 1 (c + j) x → (f2i .i64 (rdP x)).natAbs ≤ 2 ^ 53 + 1 := fun {x} h => Go.Ev.f2i_vb (j := 53) hc (Go.Ev.vb_exp (rdP_vb hc (by omega) h) (by omega)) (by omega) (by omega)
  unfold rdI
  cases flt x 0
  · have := go h
    rw [cond_false]; omega
  · have := go (Go.Ev.fneg_vb h)
    rw [cond_true, w64_id (by omega) (by omega)]; omega
theorem rd_vb {c j x : Nat} (hc : c = 1074) (hj : j ≤ 42) (h : VB 1 (c + j) x) : VB 1 (c + 45) (mth (rdI x)) := mth_vb hc (by decide) (rdI_le hc hj h)
theorem q25_vb {c j x : Nat} (hc : c = 1074) (hj : j ≤ 60) (h : VB 1 (c + j) x) : VB 1 (c + j) (fmul x 4598175219545276416) :=
  Go.Ev.vb_mul hc h (Go.Ev.vb_const (j := 0) (x := 4598175219545276416) hc (by decide +kernel)) (k := c + j) (by omega) (by decide) (by decide) (by omega) (by omega)
theorem add_vb {c j x y : Nat} (hc : c = 1074) (hj : j ≤ 60) (h : VB 1 (c + j) x) (g : VB 1 (c + j) y) : VB 1 (c + (j + 1)) (fadd x y) := by
  have h3 := Go.Ev.vb_add h g (by decide) (by decide) (by omega) (by omega)
  exact Go.Ev.VB.up (k := 1) h3 (by decide)
end Go.Proofs.YtngjiggplabfkaaGreat.Hs.So

namespace Go.Proofs.YtngjiggplabfkaaGreat
open Go.Gv

section
end
end Go.Proofs.YtngjiggplabfkaaGreat

namespace Go.Gv
open Go.RowKit Go.Ev

/-- Rows that say no more, element by element. -/
def RowLike (row row' : Row) : Prop := row' = row ∨ (∃ e sz n el el', row = .a e sz n el ∧ row' = .a e sz n el' ∧ ∀ i, i < n → (el' i).length = (el i).length ∧ ∀ (E : Env) (cs : List Value), pre E (el i) cs → pre E (el' i) cs) ∨ ∃ l l', row = .c l ∧ row' = .c l' ∧ ∀ (E : Env) (cs : List Value), pre E l cs → pre E l' cs
def RowsLike : List Row → List Row → Prop
  | [], [] => True
  | r :: rs, r' :: rs' => RowLike r r' ∧ RowsLike rs rs'
  | _, _ => False
theorem RowsLike.get : ∀ {rs rs' : List Row}, RowsLike rs rs' → ∀ k : Nat, (rs[k]? = none ∧ rs'[k]? = none) ∨ ∃ r r', rs[k]? = some r ∧ rs'[k]? = some r' ∧ RowLike r r'
  | [], [], _, k => Or.inl ⟨by simp, by simp⟩
  | r :: rs, r' :: rs', h, k => by
    cases k with
    | zero => exact Or.inr ⟨r, r', rfl, rfl, h.1⟩
    | succ k => simpa using RowsLike.get h.2 k
  | [], _ :: _, h, _ => h.elim
  | _ :: _, [], h, _ => h.elim
theorem sub_like {np : Nat} {sl : List (AV × Chain)} {mem mem' : List Row} (h : RowsLike mem mem') : SubN np ⟨sl, mem⟩ ⟨sl, mem'⟩ := by
  intro A0 R w0 E a hp0 hI
  have lives : ∀ k, liveAt mem' k = liveAt mem k := fun k => by
    unfold liveAt
    rcases h.get k with ⟨h1, h2⟩ | ⟨r, r', h1, h2, h3⟩
    · rw [h1, h2]
    · rw [h1, h2]
      rcases h3 with rfl | ⟨e, sz, n, el, el', rfl, rfl, _⟩ | ⟨l, l', rfl, rfl, _⟩ <;> rfl
  refine ⟨E, rfl, hI.defers, hI.frame, ⟨fun k b c hb => ?_, hI.wd.small, hI.wd.old, fun k b c hb hl => hI.wd.own k b c hb (by rw [← lives]; exact hl), fun k k' b c c' hb hb' hl hl' => hI.wd.one k k' b c c' hb hb' (by rw [← lives]; exact hl) (by rw [← lives]; exact hl'), hI.wd.below, hI.wd.le0⟩⟩
  obtain ⟨row, h1, h2⟩ := hI.wd.rows k b c hb
  rcases h.get k with ⟨g1, _⟩ | ⟨r, r', g1, g2, g3⟩
  · have : mem[k]? = some row := h1
    rw [g1] at this; cases this
  · have : mem[k]? = some row := h1
    rw [g1] at this
    cases this
    refine ⟨r', g2, ?_⟩
    rcases g3 with rfl | ⟨e, sz, n, el, el', rfl, rfl, g4⟩ | ⟨l, l', rfl, rfl, g4⟩
    · exact h2
    · obtain ⟨cs, k1, k2, k3, k4, k5, k6⟩ := h2
      exact ⟨cs, k1, k2, k3, k4, k5, fun i hi => ⟨(g4 i hi).1.trans (k6 i hi).1, (g4 i hi).2 _ _ (k6 i hi).2⟩⟩
    · obtain ⟨cs, e, k1, k2⟩ := h2
      exact ⟨cs, e, k1, g4 _ _ k2⟩
end Go.Gv

namespace Go.Proofs.YtngjiggplabfkaaGreat.Hs.So
open Go.Gv
open Go.Ev (cn fadd fsub fmul fdiv fsqrt fneg feq flt fle fgt fge fabs VB)

theorem gspecZ {l : List Entry} {ks : List KEntry} {ms : List MEntry} {L : Nat → Option LFun} {Z : Nat → Option ZFun} (hZ : ∀ i h, Z i = some h → ZSoundN 0 h) (hl : ∀ e, e ∈ l → EOk Tryz.prog e) (hks : ∀ e, e ∈ ks → KOk Tryz.prog e) (hms : ∀ e, e ∈ ms → MEOk Tryz.prog e) {f : Nat} {fn : Func} (hf : Tryz.prog.funcs[f]? = some fn) (hnm : (fn.name == "runtime.NumGoroutine") = false) (hb : fn.body = some (bodyOf fn)) (hL : LOk Tryz.prog L (bodyOf fn))
    {args : List AV} (hlen : Nat.ble args.length fn.ntmps = true) {r : AV} (h : evZ Tryz.prog l ks ms L Z fn args ret = some (Out.of r)) : FSpec Tryz.prog f args r := spec_of_bodyZ hZ (tabM_ok hl hks hms) (drawnK_ok (tabM_ok hl hks hms) (by kernel_rfl)) 40 hf hnm hb hL hlen h
theorem like_eq {l l' : List AV} (h : l = l') : l'.length = l.length ∧ ∀ (E : Env) (cs : List Value), pre E l cs → pre E l' cs := by subst h; exact ⟨rfl, fun _ _ h => h⟩
def Rng (n : Nat) (hs : Nat → Int) : Prop := ∀ i, i < n → -9223372036854775808 ≤ hs i ∧ hs i ≤ 9223372036854775807
theorem xshape {n : Nat} {hs : Nat → Int} (h : Rng n hs) {f : Nat} (hf : f ≤ 200) : ∃ (B C : Nat → Nat) (R Q : Nat), FSpec Tryz.prog 57 [sI n hs, iA (f : Nat), iA 1] (SH (xK mpk (mrw n hs) (f : Nat)) (ls [mve n hs (w64 ((f : Nat) + 1)) 4000 0, mve n hs (w64 ((f : Nat) + 1)) 4000 1, mve n hs (w64 ((f : Nat) + 1)) 4000 2, B 0, B 1, B 2, C 0, C 1, C 2, R, Q]) (mpk (mrw n hs (w64 ((f : Nat) + 7))) 1)) ∧ (xK mpk (mrw n hs) (f : Nat) = 2 → R = 0) := by
  have h : ∀ i, i < n → -9223372036854775808 ≤ hs i ∧ hs i ≤ 9223372036854775807 := h
  have P : ∀ j : Int, 0 ≤ j → j ≤ 20 → 0 ≤ w64 ((f : Int) + j) ∧ w64 ((f : Int) + j) ≤ 1000 := fun j h1 h2 => by rw [w64_id (by omega) (by omega)]; omega
  have p0 : (0 : Int) ≤ (f : Nat) := Int.natCast_nonneg f
  have p1 := P 1 (by decide) (by decide)
  have p4 := P 4 (by decide) (by decide)
  have p5 := P 5 (by decide) (by decide)
  have p6 := P 6 (by decide) (by decide)
  have p7 := P 7 (by decide) (by decide)
  have p8 := P 8 (by decide) (by decide)
  have p9 := P 9 (by decide) (by decide)
  have ax := mpk_range (m := 3) (mrw_range h p6.1).1 (mrw_range h p6.1).2 (by decide)
  have dd := mpk_range (m := 3) (mrw_range h p4.1).1 (mrw_range h p4.1).2 (by decide)
  have hD : xD mpk (mrw n hs) (f : Nat) ≠ 0 := by
    unfold xD
    generalize mpk (mrw n hs (w64 ((f : Nat) + 4))) 3 = z at dd ⊢
    rw [w64_id (by omega) (by omega)]; omega
  obtain ⟨x, y, w, hp⟩ : ∃ x y w, FSpec Tryz.prog 80 [V 0 0 0, iA (mpk (mrw n hs (w64 ((f : Nat) + 6))) 3), .f (mth (w64 (1 + mpk (mrw n hs (w64 ((f : Nat) + 5))) 3000)))] (V x y w) := by
    generalize mth (w64 (1 + mpk (mrw n hs (w64 ((f : Nat) + 5))) 3000)) = t
    have : mpk (mrw n hs (w64 ((f : Nat) + 6))) 3 = 0 ∨ mpk (mrw n hs (w64 ((f : Nat) + 6))) 3 = 1 ∨ mpk (mrw n hs (w64 ((f : Nat) + 6))) 3 = 2 := by omega
    rcases this with e | e | e <;> rw [e]
    · exact ⟨_, _, _, rput0 0 0 0 t⟩
    · exact ⟨_, _, _, rput1 0 0 0 t⟩
    · exact ⟨_, _, _, rput2 0 0 0 t⟩
  have go : ∃ B C R Q, xX n hs mpk mth (mrw n hs) (mve n hs) x y w (f : Nat) = xO mpk (mrw n hs) (mve n hs) (f : Nat) B C R Q ∧ (xK mpk (mrw n hs) (f : Nat) = 2 → R = 0) := by
    have g56 : ∃ B C R Q, x56 n hs mpk mth (mrw n hs) (mve n hs) x y w (f : Nat) = xO mpk (mrw n hs) (mve n hs) (f : Nat) B C R Q := by
      unfold x56 xPu
      rw [gR_pos p6.1, gR_pos p5.1, gate_pos hp, gR_pos p8.1, gR_pos p4.1, beq_false_of_ne hD]
      cases xK mpk (mrw n hs) (f : Nat) == 6
      · exact ⟨_, _, _, _, rfl⟩
      · exact ⟨_, _, _, _, rfl⟩
    unfold xX
    rw [gR_pos p0, gV_pos p1.1 p1.2 (Or.inl rfl), gR_pos p7.1, gV_pos p4.1 p4.2 (Or.inr (Or.inl rfl)), gR_pos p8.1, gR_pos p5.1, gR_pos p6.1, gV_pos p9.1 p9.2 (Or.inl rfl)]
    cases h1 : xK mpk (mrw n hs) (f : Nat) == 1
    · cases h2 : xK mpk (mrw n hs) (f : Nat) == 2
      · have no : ∀ R : Nat, xK mpk (mrw n hs) (f : Nat) = 2 → R = 0 := fun R e => by rw [e] at h2; cases h2
        cases xK mpk (mrw n hs) (f : Nat) == 3
        · cases xK mpk (mrw n hs) (f : Nat) == 5
          · cases xK mpk (mrw n hs) (f : Nat) == 6
            · show ∃ B C R Q, x4 mpk mth (mrw n hs) (mve n hs) (f : Nat) = _ ∧ _
              unfold x4
              cases noughtB (mve n hs (w64 ((f : Nat) + 4)) 3000 0) (mve n hs (w64 ((f : Nat) + 4)) 3000 1) (mve n hs (w64 ((f : Nat) + 4)) 3000 2)
              · exact ⟨_, _, _, _, rfl, no _⟩
              · exact ⟨_, _, _, _, rfl, no _⟩
            · obtain ⟨B, C, R, Q, e⟩ := g56
              exact ⟨B, C, R, Q, e, no _⟩
          · obtain ⟨B, C, R, Q, e⟩ := g56
            exact ⟨B, C, R, Q, e, no _⟩
        · exact ⟨_, _, _, _, rfl, no _⟩
      · exact ⟨_, _, _, _, rfl, fun _ => rfl⟩
    · exact ⟨_, _, _, _, rfl, fun e => by rw [e] at h1; cases h1⟩
  obtain ⟨B, C, R, Q, e, hR⟩ := go
  exact ⟨B, C, R, Q, gspec M1_ok (k_cons kS_ok (k_cons kS_ok (k_cons kS_ok k_nil))) Tryz.func57 (by kernel_rfl) (by kernel_rfl) noL_ok rfl ((xs_ev n hs mpk mth (mrw n hs) (mve n hs) x y w (f : Nat)).trans e), hR⟩
theorem mve_vb {c : Nat} (hc : c = 1074) {n : Nat} {hs : Nat → Int} (h : Rng n hs) {fr : Int} (h0 : 0 ≤ fr) (h1 : fr ≤ 1000) (i : Nat) (hi : i ≤ 10) : VB 1 (c + 4) (mve n hs fr 4000 i) := by
  have h : ∀ i, i < n → -9223372036854775808 ≤ hs i ∧ hs i ≤ 9223372036854775807 := h
  have p : 0 ≤ w64 (fr + (i : Nat)) := by rw [w64_id (by omega) (by omega)]; omega
  unfold mve mmi
  rw [show w64 (w64 (2 * 4000) + 1) = 8001 by decide]
  have z := mpk_range (m := 8001) (mrw_range h p).1 (mrw_range h p).2 (by decide)
  generalize mpk (mrw n hs (w64 (fr + (i : Nat)))) 8001 = q at z ⊢
  rw [w64_id (by omega) (by omega)]
  refine mth_vb hc (by decide) ?_
  show _ ≤ 8192
  omega
def rdF (x : Nat) : Nat := mth (rdI x)
theorem lf_tail {c : Nat} (hc : c = 1074) {k : Int} {a : Nat → Nat} {sk : Int} (v0 : VB 1 (c + 4) (a 0)) (v1 : VB 1 (c + 4) (a 1)) (v2 : VB 1 (c + 4) (a 2)) (h9 : k = 2 → a 9 = 0) : ∃ a', (gRd rdF (fmul (a 0) q25) (gRd rdF (fmul (a 1) q25) (gRd rdF (fmul (a 2) q25)
  (cond (k == 2) (gRd rdF (lB a rdF 0) (gRd rdF (lB a rdF 1) (gRd rdF (lB a rdF 2) (lO k a sk rdF (ls [rdF (lB a rdF 0), rdF (lB a rdF 1), rdF (lB a rdF 2)]))))) (lO k a sk rdF (ls [a 3, a 4, a 5])))))) = some (Out.of (SH k a' sk)) := by
  have b0 : VB 1 (c + 4) (fmul (a 0) q25) := q25_vb hc (by decide) v0
  have b1 : VB 1 (c + 4) (fmul (a 1) q25) := q25_vb hc (by decide) v1
  have b2 : VB 1 (c + 4) (fmul (a 2) q25) := q25_vb hc (by decide) v2
  have gr : ∀ {j x : Nat} {o : Option Out}, j ≤ 46 → VB 1 (c + j) x → gRd rdF x o = o := fun hj h => gate_pos (rd_spec (rd_fit hc hj h))
  have d0 : VB 1 (c + 45) (lA a rdF 0) := rd_vb hc (by decide) b0
  have d1 : VB 1 (c + 45) (lA a rdF 1) := rd_vb hc (by decide) b1
  have d2 : VB 1 (c + 45) (lA a rdF 2) := rd_vb hc (by decide) b2
  rw [gr (by decide) b0, gr (by decide) b1, gr (by decide) b2]
  cases h2 : k == 2
  · exact ⟨ls [lA a rdF 0, lA a rdF 1, lA a rdF 2, a 3, a 4, a 5, a 6, a 7, a 8, a 9, a 10], rfl⟩
  · have h9 := h9 (by simpa using h2)
    have o1 : VB 1 (c + 45) one := Go.Ev.vb_exp (Go.Ev.vb_const (j := 0) hc (by decide +kernel)) (by omega)
    have oh : VB 1 (c + 45) half' := Go.Ev.vb_exp (Go.Ev.vb_const (j := 0) hc (by decide +kernel)) (by omega)
    have o2 : VB 1 (c + 45) (fadd (a 9) one) := by
      rw [h9]
      have z0 : VB 1 (c + 0) 0 := Go.Ev.vb_zero 1 (c + 0)
      have z1 : VB 1 (c + 0) one := Go.Ev.vb_const (j := 0) hc (by decide +kernel)
      have z2 : VB 1 (c + (0 + 1)) (fadd 0 one) := add_vb hc (by decide) z0 z1
      exact Go.Ev.vb_exp z2 (by omega)
    have e0 : VB 1 (c + (45 + 1)) (fadd (lA a rdF 0) (fadd (a 9) one)) := add_vb (j := 45) hc (by decide) d0 o2
    have e1 : VB 1 (c + (45 + 1)) (fadd (lA a rdF 1) one) := add_vb (j := 45) hc (by decide) d1 o1
    have e2 : VB 1 (c + (45 + 1)) (fadd (lA a rdF 2) half') := add_vb (j := 45) hc (by decide) d2 oh
    have l0 : lB a rdF 0 = fadd (lA a rdF 0) (fadd (a 9) one) := by unfold lB; rfl
    have l1 : lB a rdF 1 = fadd (lA a rdF 1) one := by unfold lB; rfl
    have l2 : lB a rdF 2 = fadd (lA a rdF 2) half' := by unfold lB; rfl
    rw [l0, l1, l2, cond_true, gr (j := 45 + 1) (by decide) e0, gr (j := 45 + 1) (by decide) e1, gr (j := 45 + 1) (by decide) e2]
    generalize rdF (fadd (lA a rdF 0) (fadd (a 9) one)) = y0
    generalize rdF (fadd (lA a rdF 1) one) = y1
    generalize rdF (fadd (lA a rdF 2) half') = y2
    exact ⟨ls [lA a rdF 0, lA a rdF 1, lA a rdF 2, y0, y1, y2, a 6, a 7, a 8, a 9, a 10], rfl⟩
theorem lf_body {m : Nat} {X : Nat → Int} (hX : Rng m X) {f : Nat} (hf : f ≤ 100) (hm : f + 9 ≤ m) {e v : Int} (he : mpk (X f) 3 = e) (hv : 0 ≤ v ∧ v ≤ 4) : ∃ k a sk a', lfX (f : Nat) m X k a sk rdF e v = some (Out.of (SH k a' sk)) := by
  obtain ⟨c, hc⟩ : ∃ c, c = 1074 := ⟨_, rfl⟩
  have hY : Rng m (lX (f : Nat) X v) := fun i hi => by
    unfold lX
    cases i == 0 + ((f : Nat) : Int).toNat
    · exact hX i hi
    · show -9223372036854775808 ≤ v ∧ v ≤ 9223372036854775807; omega
  obtain ⟨B, C, R, Q, hS, hR⟩ := xshape hY (f := f) (by omega)
  have p1 : 0 ≤ w64 (((f : Nat) : Int) + 1) ∧ w64 (((f : Nat) : Int) + 1) ≤ 1000 := by rw [w64_id (by omega) (by omega)]; omega
  have v0 := mve_vb hc hY p1.1 p1.2 0 (by decide)
  have v1 := mve_vb hc hY p1.1 p1.2 1 (by decide)
  have v2 := mve_vb hc hY p1.1 p1.2 2 (by decide)
  generalize mve m (lX (f : Nat) X v) (w64 ((f : Nat) + 1)) 4000 0 = x0 at hS v0
  generalize mve m (lX (f : Nat) X v) (w64 ((f : Nat) + 1)) 4000 1 = x1 at hS v1
  generalize mve m (lX (f : Nat) X v) (w64 ((f : Nat) + 1)) 4000 2 = x2 at hS v2
  generalize xK mpk (mrw m (lX (f : Nat) X v)) (f : Nat) = k at hS hR
  generalize mpk (mrw m (lX (f : Nat) X v) (w64 ((f : Nat) + 7))) 1 = sk at hS
  have hp : FSpec Tryz.prog 13 [iA (X (0 + ((f : Nat) : Int).toNat)), iA 3] (iA e) := by
    subst he
    rw [Int.toNat_natCast, Nat.zero_add]
    exact mpick rfl
  have f3 : fz3 m = true := by unfold fz3; rw [show Nat.beq m m = true from Nat.beq_refl m]; rfl
  obtain ⟨a', ht⟩ := lf_tail hc (k := k) (a := ls [x0, x1, x2, B 0, B 1, B 2, C 0, C 1, C 2, R, Q]) (sk := sk) v0 v1 v2 hR
  refine ⟨k, ls [x0, x1, x2, B 0, B 1, B 2, C 0, C 1, C 2, R, Q], sk, a', ?_⟩
  unfold lfX
  rw [ow_t (show f < m by omega), gate_pos hp, ow_t (show f < m by omega), f3, cond_true, gate_pos hS]
  exact ht
def lfV (n : Nat) (hs : Nat → Int) (q : Nat) : Int := cond (Nat.blt q n) (hs q) (mrw n hs (q : Nat))
theorem lfV_rng {n : Nat} {hs : Nat → Int} (h : Rng n hs) (m : Nat) : Rng m (lfV n hs) := fun i _ => by
  unfold lfV
  cases hb : Nat.blt i n
  · exact mrw_range h (Int.natCast_nonneg i)
  · exact h i (Nat.le_of_ble_eq_true hb)
theorem ll_more {raw : AV} {fr : Int} {m : Nat} {X : Nat → Int} {v : Int} (h : X m = v) : Sub (llR raw fr (m + 1) fun q => mixL (Nat.blt q m) [iA (X q)] [iA v]) (llS raw fr (m + 1) X) := by
  refine sub_like ⟨Or.inl rfl, Or.inr (Or.inl ⟨3, 1, m + 1, _, _, rfl, rfl, fun q hq => like_eq ?_⟩), trivial⟩
  cases hb : Nat.blt q m
  · have := not_blt hb
    have eq : q = m := by omega
    subst eq; subst h; rfl
  · rfl
theorem aqB_t {m : Nat} (h : m ≤ 1000) : aqB m m = true := by
  unfold aqB
  rw [Nat.ble_eq_true_of_le (Nat.le_refl m), Nat.ble_eq_true_of_le (show (m + 1) * 8 ≤ 140737488355328 by omega)]; rfl
theorem ll_round {raw : AV} {n : Nat} {hs : Nat → Int} {f m : Nat} {X : Nat → Int} (hR : FSpec Tryz.prog 27 [raw, iA (m : Nat)] (iA (mrw n hs (m : Nat)))) (hX : X m = mrw n hs (m : Nat)) (hm : m < f + 9) (hf : f ≤ 100)
    (ev : evC Tryz.prog [] [rwK (mrw n hs)] noL (loopAt Tryz.f58 0) (llS raw (f : Nat) m X) (finN keepLl [some 0, some 3]) = llC (mrw n hs) (f : Nat) m X raw (fun el => some ⟨.normal, llR raw (f : Nat) (m + 1) el, .any⟩) none) : Leads Tryz.prog (loopAt Tryz.f58 0) (llS raw (f : Nat) m X) .normal (llS raw (f : Nat) (m + 1) X) := by
  refine (leads_ev (finN_sub keepLl [some 0, some 3]) e_nil (k_cons kS_ok k_nil) noL_ok (ev.trans ?_)).sub (Sub.refl _) (ll_more hX)
  unfold llC
  rw [decide_eq_true (show ((m : Nat) : Int) < w64 (((f : Nat) : Int) + 9) by rw [w64_id (by omega) (by omega)]; omega), gate_pos hR, aqB_t (by omega)]; rfl
theorem ll_last {raw : AV} {n : Nat} {hs : Nat → Int} {f m : Nat} {X : Nat → Int} (hm : f + 9 ≤ m) (hf : f ≤ 100)
    (ev : evC Tryz.prog [] [rwK (mrw n hs)] noL (loopAt Tryz.f58 0) (llS raw (f : Nat) m X) (finE keepLl [some 0, some 1]) = llC (mrw n hs) (f : Nat) m X raw (fun _ => none) (some ⟨.exit 0, llS raw (f : Nat) m X, .any⟩)) : Leads Tryz.prog (loopAt Tryz.f58 0) (llS raw (f : Nat) m X) (.exit 0) (llS raw (f : Nat) m X) := by
  refine leads_ev (finE_sub keepLl [some 0, some 1]) e_nil (k_cons kS_ok k_nil) noL_ok (ev.trans ?_)
  unfold llC
  rw [decide_eq_false (show ¬ ((m : Nat) : Int) < w64 (((f : Nat) : Int) + 9) by rw [w64_id (by omega) (by omega)]; omega)]; rfl
theorem lfV_ge {n : Nat} {hs : Nat → Int} {q : Nat} (h : n ≤ q) : lfV n hs q = mrw n hs (q : Nat) := by
  unfold lfV
  cases hb : Nat.blt q n
  · rfl
  · have : q < n := Nat.le_of_ble_eq_true hb
    omega
theorem ll_leads (n : Nat) (hs : Nat → Int) {f : Nat} (hf : f ≤ 100) : Leads Tryz.prog (.loop (loopAt Tryz.f58 0)) (llS (sI n hs) (f : Nat) n (lfV n hs)) (.exit 0) (llS (sI n hs) (f : Nat) (n + (f + 9 - n)) (lfV n hs)) := by
  refine loop_rule (fun k => llS (sI n hs) (f : Nat) (n + k) (lfV n hs)) (f + 9 - n) (.exit 0) _ (by simp) (fun k hk => ?_) ?_
  · exact ll_round (mraw (Int.natCast_nonneg _)) (lfV_ge (by omega)) (by omega) hf (ll_step n hs (mrw n hs) (f : Nat) (n + k) (lfV n hs))
  · exact ll_last (by omega) hf (ll_end n hs (mrw n hs) (f : Nat) (n + (f + 9 - n)) (lfV n hs))
theorem raw_empty (p : Option Addr) (c : Nat) (hs : Nat → Int) (k : Nat) : FSpec Tryz.prog 27 [xE p c, iA (k : Nat)] (iA (mrw 0 hs (k : Nat))) :=
  sp e_nil Tryz.func27 (by kernel_rfl) (by kernel_rfl) rfl (by kernel_rfl)
theorem lz_leads (p : Option Addr) (c : Nat) (hs : Nat → Int) {f : Nat} (hf : f ≤ 100) : Leads Tryz.prog (.loop (loopAt Tryz.f58 0)) (llS (xE p c) (f : Nat) 0 (lfV 0 hs)) (.exit 0) (llS (xE p c) (f : Nat) (f + 9) (lfV 0 hs)) := by
  refine loop_rule (fun k => llS (xE p c) (f : Nat) k (lfV 0 hs)) (f + 9) (.exit 0) _ (by simp) (fun k hk => ?_) ?_
  · exact ll_round (raw_empty p c hs k) (lfV_ge (Nat.zero_le _)) hk hf (ll_step0 p c (mrw 0 hs) (f : Nat) k (lfV 0 hs))
  · exact ll_last (Nat.le_refl _) hf (ll_end0 p c (mrw 0 hs) (f : Nat) (f + 9) (lfV 0 hs))
theorem ll_first {n : Nat} {hs : Nat → Int} {fr : Int} : Sub (llR (sI n hs) fr (0 + n) fun q => mixL (Nat.blt q 0) [] [iA (hs (q - 0))]) (llS (sI n hs) fr n (lfV n hs)) := by
  rw [Nat.zero_add]
  refine sub_like ⟨Or.inl rfl, Or.inr (Or.inl ⟨3, 1, n, _, _, rfl, rfl, fun q hq => like_eq ?_⟩), trivial⟩
  unfold lfV
  rw [blt_t hq]
  rfl
theorem le_first {raw : AV} {fr : Int} {X : Nat → Int} : Sub (llR raw fr 0 fun _ => []) (llS raw fr 0 X) := sub_like ⟨Or.inl rfl, Or.inr (Or.inl ⟨3, 1, 0, _, _, rfl, rfl, fun q hq => absurd hq (Nat.not_lt_zero q)⟩), trivial⟩
theorem xleaf {n : Nat} {hs : Nat → Int} (h : Rng n hs) (hn : n ≤ 512) {f : Nat} (hf : f ≤ 100) : ∃ k a sk, FSpec Tryz.prog 58 [sI n hs, iA (f : Nat)] (SH k a sk) := by
  have hr := lfV_rng h (f + 1) f (by omega)
  have e3 := mpk_range (m := 3) hr.1 hr.2 (by decide)
  have e3 : mpk (lfV n hs f) 3 = 0 ∨ mpk (lfV n hs f) 3 = 1 ∨ mpk (lfV n hs f) 3 = 2 := by omega
  by_cases h0 : 0 < n
  · have hg : lfG n = true := by
      unfold lfG
      rw [blt_t h0, allB_true (fun _ _ => rfl), Nat.ble_eq_true_of_le (show (0 + n) * 8 ≤ 140737488355328 by omega)]; rfl
    have hL := lok_at (c := bodyOf Tryz.f58) (i := 2) 0 1 (by kernel_rfl) (by kernel_rfl) (toldF_sound (keep := keepLl) (τ := [some 0, some 2]) (ll_leads n hs hf))
    have hm : f + 9 ≤ n + (f + 9 - n) := by omega
    rcases e3 with he | he | he
    · obtain ⟨k, a, sk, a', hb⟩ := lf_body (lfV_rng h _) hf hm he (v := 0) (by decide)
      refine ⟨k, a', sk, gspecZ (oneZ_ok (frzK_ok 1)) R4_ok (k_cons kS_ok (k_cons kS_ok (k_cons kS_ok k_nil))) m_nil Tryz.func58 (by kernel_rfl) (by kernel_rfl) hL rfl ((lf_ev0 n hs (f : Nat) _ _ k a sk rdF).trans ?_)⟩
      rw [hg, cond_true, gate_pos ll_first, hb]
    · obtain ⟨k, a, sk, a', hb⟩ := lf_body (lfV_rng h _) hf hm he (v := 1) (by decide)
      refine ⟨k, a', sk, gspecZ (oneZ_ok (frzK_ok 1)) R4_ok (k_cons kS_ok (k_cons kS_ok (k_cons kS_ok k_nil))) m_nil Tryz.func58 (by kernel_rfl) (by kernel_rfl) hL rfl ((lf_ev1 n hs (f : Nat) _ _ k a sk rdF).trans ?_)⟩
      rw [hg, cond_true, gate_pos ll_first, hb]
    · obtain ⟨k, a, sk, a', hb⟩ := lf_body (lfV_rng h _) hf hm he (v := 4) (by decide)
      refine ⟨k, a', sk, gspecZ (oneZ_ok (frzK_ok 1)) R4_ok (k_cons kS_ok (k_cons kS_ok (k_cons kS_ok k_nil))) m_nil Tryz.func58 (by kernel_rfl) (by kernel_rfl) hL rfl ((lf_ev2 n hs (f : Nat) _ _ k a sk rdF).trans ?_)⟩
      rw [hg, cond_true, gate_pos ll_first, hb]
  · have e0 : n = 0 := by omega
    subst e0
    have hL : ∀ p c, LOk Tryz.prog (oneL 2 (toldF keepLl [some 0, some 1] (llS (xE p c) (f : Nat) 0 (lfV 0 hs)) (.exit 0) (llS (xE p c) (f : Nat) (f + 9) (lfV 0 hs)))) (bodyOf Tryz.f58) := fun p c => lok_at (c := bodyOf Tryz.f58) (i := 2) 0 1 (by kernel_rfl) (by kernel_rfl) (toldF_sound (keep := keepLl) (τ := [some 0, some 1]) (lz_leads p c hs hf))
    have key : ∃ k a sk, ∀ p c, FSpec Tryz.prog 58 [xE p c, iA (f : Nat)] (SH k a sk) := by
      rcases e3 with he | he | he
      · obtain ⟨k, a, sk, a', hb⟩ := lf_body (lfV_rng h (f + 9)) hf (Nat.le_refl _) he (v := 0) (by decide)
        refine ⟨k, a', sk, fun p c => gspecZ (oneZ_ok (frzK_ok 1)) R4_ok (k_cons kS_ok (k_cons kS_ok (k_cons kS_ok k_nil))) m_nil Tryz.func58 (by kernel_rfl) (by kernel_rfl) (hL p c) rfl ((le_ev0 p c (f : Nat) _ _ k a sk rdF).trans ?_)⟩
        rw [gate_pos le_first, hb]
      · obtain ⟨k, a, sk, a', hb⟩ := lf_body (lfV_rng h (f + 9)) hf (Nat.le_refl _) he (v := 1) (by decide)
        refine ⟨k, a', sk, fun p c => gspecZ (oneZ_ok (frzK_ok 1)) R4_ok (k_cons kS_ok (k_cons kS_ok (k_cons kS_ok k_nil))) m_nil Tryz.func58 (by kernel_rfl) (by kernel_rfl) (hL p c) rfl ((le_ev1 p c (f : Nat) _ _ k a sk rdF).trans ?_)⟩
        rw [gate_pos le_first, hb]
      · obtain ⟨k, a, sk, a', hb⟩ := lf_body (lfV_rng h (f + 9)) hf (Nat.le_refl _) he (v := 4) (by decide)
        refine ⟨k, a', sk, fun p c => gspecZ (oneZ_ok (frzK_ok 1)) R4_ok (k_cons kS_ok (k_cons kS_ok (k_cons kS_ok k_nil))) m_nil Tryz.func58 (by kernel_rfl) (by kernel_rfl) (hL p c) rfl ((le_ev2 p c (f : Nat) _ _ k a sk rdF).trans ?_)⟩
        rw [gate_pos le_first, hb]
    obtain ⟨k, a, sk, hk⟩ := key
    refine ⟨k, a, sk, FSpec.of_arg (args' := [sI 0 hs, iA (f : Nat)]) (fun E us hr => ?_) (hk none 0).1 rfl⟩
    obtain ⟨u, us', e0, r1, hr⟩ := rels_cons.1 hr
    obtain ⟨p, c, q1⟩ := rel_empty r1
    exact ⟨[xE p c, iA (f : Nat)], rels_cons.2 ⟨u, us', e0, q1, hr⟩, hk p c⟩
end Go.Proofs.YtngjiggplabfkaaGreat.Hs.So

namespace Go.Proofs.YtngjiggplabfkaaGreat.Hs.So
open Go.Gv
open Go.Ev (cn fadd fsub fmul fdiv fsqrt fneg feq flt fle fgt fge fabs)

def Runs (c : Code) (s : St) (e : Exit) (sf : St) : Prop := ∃ (S : Nat → St) (n : Nat), S 0 = s ∧ (∀ j, j < n → Leads Tryz.prog c (S j) .normal (S (j + 1))) ∧ Leads Tryz.prog c (S n) e sf
theorem Runs.last {c : Code} {s sf : St} {e : Exit} (h : Leads Tryz.prog c s e sf) : Runs c s e sf := ⟨fun _ => s, 0, rfl, fun j hj => absurd hj (Nat.not_lt_zero j), h⟩
theorem Runs.cons {c : Code} {s s1 sf : St} {e : Exit} (h : Leads Tryz.prog c s .normal s1) (g : Runs c s1 e sf) : Runs c s e sf := by
  obtain ⟨S, n, h0, h1, h2⟩ := g
  refine ⟨fun j => match j with | 0 => s | j + 1 => S j, n + 1, rfl, fun j hj => ?_, h2⟩
  cases j with
  | zero => show Leads Tryz.prog c s .normal (S 0); rw [h0]; exact h
  | succ j => exact h1 j (by omega)
theorem Runs.loop {c : Code} {s sf : St} {e : Exit} (he : e ≠ .normal) (h : Runs c s e sf) : Leads Tryz.prog (.loop c) s e sf := by
  obtain ⟨S, n, rfl, h1, h2⟩ := h
  exact loop_rule S n e sf he h1 h2
theorem MP_ok : ∀ e, e ∈ MP mpk → EOk Tryz.prog e := e_cons ePk_ok e_nil
theorem mixP (b : Bool) (P Q : Prt) : mixL b P.c Q.c = (cond b P Q).c := by cases b <;> rfl
theorem mixI (b : Bool) (x y : Int) : mixL b [iA x] [iA y] = [iA (cond b x y)] := by cases b <;> rfl
section
variable {n : Nat} {hs : Nat → Int} {F : Nat} {N : Nat} {sk : Int} {i m k : Nat} {PL : Nat → Prt} {OL : Nat → Int}
theorem k2_e (h : 2 ≤ k) (h' : k ≤ 100) : k2 k = ((k - 2 : Nat) : Int) := by unfold k2; rw [w64_id (by omega) (by omega)]; omega
theorem k1_e (h : 2 ≤ k) (h' : k ≤ 100) : k1 k = ((k - 1 : Nat) : Int) := by unfold k1; rw [w64_id (by omega) (by omega)]; omega
theorem sfLn_e (h : 2 ≤ k) (h' : k ≤ 100) : sfLn k = k - 2 := by
  unfold sfLn
  rw [k2_e h h']
  show (((k - 2 : Nat) : Int) - 0).toNat = k - 2
  omega
theorem sfC11_t (h : 2 ≤ k) (h' : k ≤ 100) (hm : m ≤ 100) : sfC11 m k = true := by
  unfold sfC11 bl'
  rw [k2_e h h', k1_e h h', ixB_t (show k - 2 < k by omega), ixB_t (show k - 1 < k by omega), Int.toNat_natCast, Int.toNat_natCast, Nat.zero_add, Nat.zero_add, blt_t (show k - 2 < k by omega), blt_t (show k - 1 < k by omega), apB_t (by omega)]
  rfl
theorem sfC12_t (h : 2 ≤ k) (h' : k ≤ 100) : sfC12 k = true := by
  unfold sfC12
  rw [sfLn_e h h', k2_e h h', Nat.ble_eq_true_of_le (show k - 2 ≤ k by omega), Nat.ble_eq_true_of_le (show (k - 2 + 1) * 8 ≤ 140737488355328 by omega)]
  have : sbB none (some ((k - 2 : Nat) : Int)) none k = true := by
    unfold sbB
    show (decide ((0 : Int) ≤ 0) && (decide ((0 : Int) ≤ ((k - 2 : Nat) : Int)) && (decide (((k - 2 : Nat) : Int) ≤ (k : Int)) && decide ((k : Int) ≤ (k : Int))))) = true
    rw [decide_eq_true (show (0 : Int) ≤ ((k - 2 : Nat) : Int) by omega), decide_eq_true (show ((k - 2 : Nat) : Int) ≤ (k : Int) by omega), decide_eq_true (show (k : Int) ≤ (k : Int) by omega)]
    rfl
  rw [this]; rfl
theorem p_at (hF : F ≤ 50) (hi : i ≤ 10) : 0 ≤ w64 ((F : Int) + (i : Int)) := by rw [w64_id (by omega) (by omega)]; omega
theorem p_at3 (hF : F ≤ 50) (hi : i ≤ 10) : 0 ≤ w64 (w64 ((F : Int) + 3) + (i : Int)) := by rw [w64_id (n := (F : Int) + 3) (by omega) (by omega), w64_id (by omega) (by omega)]; omega
theorem in_step (hF : F ≤ 50) (hk : 2 ≤ k) (hk' : k ≤ 10) (hm : m ≤ 100) (hi : i ≤ 10) (hT : sfT (F : Nat) mpk (mrw n hs) (N : Nat) (i : Nat) k = true) : ∃ PL' OL', Leads Tryz.prog (loopAt Tryz.f31 1) (sfS n hs (F : Nat) (N : Nat) sk (i : Nat) m PL k OL) .normal (sfS n hs (F : Nat) (N : Nat) sk (i : Nat) (m + 1) PL' (k - 1) OL') := by
  have hl : Leads Tryz.prog (loopAt Tryz.f31 1) (sfS n hs (F : Nat) (N : Nat) sk (i : Nat) m PL k OL) .normal (sfE n hs (F : Nat) (N : Nat) sk (i : Nat) (m + 1) (fun q => mixL (Nat.blt q m) (PL q).c (sfP (F : Nat) mpk (mrw n hs) (i : Nat) k OL).c) (sfLn k + 1) (fun q => mixL (Nat.blt q (sfLn k)) [iA (OL q)] [iA (w64 (((m + 1 : Nat) : Int) - 1))])) := by
    refine leads_ev (finN_sub keepSf [some 0, some 1, some 5, some 7]) MP_ok (k_cons kS_ok k_nil) noL_ok ((sf_in n hs (F : Nat) mpk (mrw n hs) (N : Nat) sk (i : Nat) m PL k OL).trans ?_)
    unfold sfC
    rw [gR_pos (p_at hF hi), hT, cond_true, gR_pos (p_at3 hF hi), sfC11_t hk (by omega) hm, cond_true, sfC12_t hk (by omega)]
    rfl
  refine ⟨fun q => cond (Nat.blt q m) (PL q) (sfP (F : Nat) mpk (mrw n hs) (i : Nat) k OL), fun q => cond (Nat.blt q (sfLn k)) (OL q) (w64 (((m + 1 : Nat) : Int) - 1)), hl.sub (Sub.refl _) ?_⟩
  rw [show sfLn k + 1 = k - 1 by rw [sfLn_e hk (by omega)]; omega]
  exact sub_like ⟨Or.inl rfl, Or.inl rfl, Or.inr (Or.inl ⟨67, 16, m + 1, _, _, rfl, rfl, fun q hq => like_eq (mixP _ _ _)⟩), Or.inr (Or.inl ⟨3, 1, k - 1, _, _, rfl, rfl, fun q hq => like_eq (mixI _ _ _)⟩), trivial⟩
theorem in_end (hF : F ≤ 50) (hi : i ≤ 10) (hT : sfT (F : Nat) mpk (mrw n hs) (N : Nat) (i : Nat) k = false) : Leads Tryz.prog (loopAt Tryz.f31 1) (sfS n hs (F : Nat) (N : Nat) sk (i : Nat) m PL k OL) (.exit 2) (sfS n hs (F : Nat) (N : Nat) sk (i : Nat) m PL k OL) := by
  refine leads_ev (finE_sub keepSf [some 0, some 1, some 2, some 3]) MP_ok (k_cons kS_ok k_nil) noL_ok ((sf_inE n hs (F : Nat) mpk (mrw n hs) (N : Nat) sk (i : Nat) m PL k OL).trans ?_)
  unfold sfC
  rw [gR_pos (p_at hF hi), hT]
  rfl
end
theorem in_runs {n : Nat} {hs : Nat → Int} {F : Nat} (hF : F ≤ 50) {N : Nat} {sk : Int} {i : Nat} (hi : i ≤ 10) : ∀ (j : Nat) (m k : Nat) (PL : Nat → Prt) (OL : Nat → Int), k = j + 1 → k ≤ 10 → m + k ≤ 50 → ∃ m2 PL2 k2 OL2, Runs (loopAt Tryz.f31 1) (sfS n hs (F : Nat) (N : Nat) sk (i : Nat) m PL k OL) (.exit 2) (sfS n hs (F : Nat) (N : Nat) sk (i : Nat) m2 PL2 k2 OL2) ∧ 1 ≤ k2 ∧ m ≤ m2 ∧ m2 + k2 = m + k
  | 0, m, k, PL, OL, hk, _, _ => by
    subst hk
    exact ⟨m, PL, 0 + 1, OL, Runs.last (in_end hF hi rfl), by omega, by omega, rfl⟩
  | j + 1, m, k, PL, OL, hk, h1, h2 => by
    cases hT : sfT (F : Nat) mpk (mrw n hs) (N : Nat) (i : Nat) k
    · exact ⟨m, PL, k, OL, Runs.last (in_end hF hi hT), by omega, by omega, rfl⟩
    · obtain ⟨PL', OL', hs1⟩ := in_step (n := n) (hs := hs) (F := F) (N := N) (sk := sk) (PL := PL) (OL := OL) hF (show 2 ≤ k by omega) h1 (show m ≤ 100 by omega) hi hT
      obtain ⟨m2, PL2, k2, OL2, g1, g2, g3, g4⟩ := in_runs (n := n) (hs := hs) hF (N := N) (sk := sk) hi j (m + 1) (k - 1) PL' OL' (by omega) (by omega) (by omega)
      exact ⟨m2, PL2, k2, OL2, Runs.cons hs1 g1, g2, by omega, by omega⟩
section
variable {n : Nat} {hs : Nat → Int} {F : Nat} {N : Nat} {sk : Int} {K : Int → Int} {A : Int → Nat → Nat} {S : Int → Int} (hK : ∀ f : Nat, f ≤ 100 → FSpec Tryz.prog 58 [sI n hs, iA (f : Nat)] (SH (K (f : Nat)) (A (f : Nat)) (S (f : Nat))))
include hK
theorem leaf_at (hF : F ≤ 50) {i : Nat} (hi : i ≤ 4) {o : Option Out} : gLf n hs K A S (sfF (F : Nat) (i : Nat)) o = o := by
  have e : sfF (F : Nat) (i : Nat) = ((F + 2 + 9 * i : Nat) : Int) := by
    unfold sfF
    rw [w64_id (n := (F : Int) + 2) (by omega) (by omega), w64_id (n := 9 * (i : Int)) (by omega) (by omega), w64_id (by omega) (by omega)]; omega
  unfold gLf
  rw [e]
  exact gate_pos (hK _ (by omega))
theorem out_first (hF : F ≤ 50) (hN : 0 < N) : ∃ PL OL, Leads Tryz.prog (loopAt Tryz.f31 0) (sfN n hs (F : Nat) (N : Nat) sk) .normal (sfS n hs (F : Nat) (N : Nat) sk ((1 : Nat) : Int) 1 PL 1 OL) := by
  have hl : Leads Tryz.prog (loopAt Tryz.f31 0) (sfN n hs (F : Nat) (N : Nat) sk) .normal (sfE n hs (F : Nat) (N : Nat) sk (w64 (0 + 1)) 1 (fun q => mixL (Nat.blt q 0) [] (lfP K A S (sfF (F : Nat) 0)).c) 1 (fun q => mixL (Nat.blt q 0) [] [iA 0])) := by
    refine leads_ev (finN_sub keepSf [some 0, some 1, some 3, some 5]) MP_ok (k_cons kS_ok (k_cons kS_ok k_nil)) noL_ok ((sf_first n hs (F : Nat) mpk (mrw n hs) (N : Nat) sk K A S).trans ?_)
    rw [decide_eq_true (show (0 : Int) < (N : Nat) by omega), cond_true]
    have h := leaf_at hK hF (i := 0) (by decide) (o := gR n hs (mrw n hs) (w64 ((F : Int) + 0)) (some ⟨.normal, sfE n hs (F : Nat) (N : Nat) sk (w64 (0 + 1)) 1 (fun q => mixL (Nat.blt q 0) [] (lfP K A S (sfF (F : Nat) 0)).c) 1 (fun q => mixL (Nat.blt q 0) [] [iA 0]), .any⟩))
    exact h.trans (gR_pos (by rw [w64_id (by omega) (by omega)]; omega))
  refine ⟨fun _ => lfP K A S (sfF (F : Nat) 0), fun _ => 0, hl.sub (Sub.refl _) ?_⟩
  rw [show w64 (0 + 1) = ((1 : Nat) : Int) by decide]
  refine sub_like ⟨Or.inl rfl, Or.inl rfl, Or.inr (Or.inl ⟨67, 16, 1, _, _, rfl, rfl, fun q hq => ?_⟩), Or.inr (Or.inl ⟨3, 1, 1, _, _, rfl, rfl, fun q hq => ?_⟩), trivial⟩
  · obtain rfl : q = 0 := Nat.lt_one_iff.1 hq
    exact like_eq rfl
  · obtain rfl : q = 0 := Nat.lt_one_iff.1 hq
    exact like_eq rfl
theorem out_step (hF : F ≤ 50) {i m k : Nat} {PL : Nat → Prt} {OL : Nat → Int} (hi : i < N) (hN : N ≤ 4) (hk : 1 ≤ k) (hm : 1 ≤ m) (hmk : m + k ≤ 20) (hk' : k ≤ 8) : ∃ m' PL' k' OL', Leads Tryz.prog (loopAt Tryz.f31 0) (sfS n hs (F : Nat) (N : Nat) sk (i : Nat) m PL k OL) .normal (sfS n hs (F : Nat) (N : Nat) sk ((i + 1 : Nat) : Int) m' PL' k' OL') ∧ 1 ≤ k' ∧ 1 ≤ m' ∧ m' + k' = m + k + 2 ∧ k' ≤ k + 1 := by
  obtain ⟨m2, PL2, k2, OL2, g1, g2, g3, g4⟩ := in_runs (n := n) (hs := hs) hF (N := N) (sk := sk) (i := i) (by omega) k (m + 1) (k + 1) (fun q => cond (Nat.blt q m) (PL q) (lfP K A S (sfF (F : Nat) (i : Nat)))) (fun q => cond (Nat.blt q k) (OL q) (w64 (((m + 1 : Nat) : Int) - 1))) rfl (by omega) (by omega)
  refine ⟨m2, PL2, k2, OL2, ?_, g2, by omega, by omega, by omega⟩
  have hL : LOk Tryz.prog (sfL n hs (F : Nat) (N : Nat) sk (i : Nat) m k m2 (fun q => cond (Nat.blt q m) (PL q) (lfP K A S (sfF (F : Nat) (i : Nat)))) PL2 k2 (fun q => cond (Nat.blt q k) (OL q) (w64 (((m + 1 : Nat) : Int) - 1))) OL2) (loopAt Tryz.f31 0) := lok_at (c := loopAt Tryz.f31 0) (i := 9) 0 1 (by kernel_rfl) (by kernel_rfl) (toldF_sound (keep := keepSf) (τ := [some 0, some 1, some 5, some 7]) (Runs.loop (by simp) g1))
  refine leads_ev (finN_sub keepSf [some 0, some 1, some 2, some 3]) MP_ok (k_cons kS_ok (k_cons kS_ok k_nil)) hL ((sf_step n hs (F : Nat) mpk (mrw n hs) (N : Nat) sk (i : Nat) m PL k OL K A S m2 _ PL2 k2 _ OL2).trans ?_)
  unfold sfO
  rw [decide_eq_true (show ((i : Nat) : Int) < (N : Nat) by omega), cond_true, leaf_at hK hF (by omega), apB_t (by omega), Nat.ble_eq_true_of_le (Nat.le_refl k), Nat.ble_eq_true_of_le (show (k + 1) * 8 ≤ 140737488355328 by omega), w64_next (n := i) (by omega)]
  refine gate_pos (sub_like ⟨Or.inl rfl, Or.inl rfl, Or.inr (Or.inl ⟨67, 16, m + 1, _, _, rfl, rfl, fun q hq => like_eq (mixP _ _ _)⟩), Or.inr (Or.inl ⟨3, 1, k + 1, _, _, rfl, rfl, fun q hq => like_eq (mixI _ _ _)⟩), trivial⟩)
omit hK in
theorem none_ok (c : Code) : LSound Tryz.prog c fun _ _ => none := ⟨fun s k r h => (by cases h), fun s s' e h => (by have := h fun _ _ => some ⟨.normal, s, .any⟩; cases this)⟩
omit hK in
theorem out_end {m k : Nat} {PL : Nat → Prt} {OL : Nat → Int} : Leads Tryz.prog (loopAt Tryz.f31 0) (sfS n hs (F : Nat) (N : Nat) sk (N : Nat) m PL k OL) (.exit 0) (sfS n hs (F : Nat) (N : Nat) sk (N : Nat) m PL k OL) := by
  have hL : LOk Tryz.prog (oneL 9 fun _ _ => none) (loopAt Tryz.f31 0) := lok_at (c := loopAt Tryz.f31 0) (i := 9) 0 1 (by kernel_rfl) (by kernel_rfl) (none_ok _)
  refine leads_ev (finE_sub keepSf [some 0, some 1, some 2, some 3]) MP_ok (k_cons kS_ok (k_cons kS_ok k_nil)) hL ((sf_end n hs (F : Nat) mpk (mrw n hs) (N : Nat) sk (N : Nat) m PL k OL (fun _ => 0) (fun _ _ => 0) (fun _ => 0)).trans ?_)
  rw [dec_self]; rfl
theorem out_runs (hF : F ≤ 50) (hN : N ≤ 4) : ∀ (j i m k : Nat) (PL : Nat → Prt) (OL : Nat → Int), i + j = N → 1 ≤ k → 1 ≤ m → m + k ≤ 2 * i → k ≤ i → ∃ m' PL' k' OL', Runs (loopAt Tryz.f31 0) (sfS n hs (F : Nat) (N : Nat) sk (i : Nat) m PL k OL) (.exit 0) (sfS n hs (F : Nat) (N : Nat) sk (N : Nat) m' PL' k' OL') ∧ 1 ≤ m' ∧ m' ≤ 8
  | 0, i, m, k, PL, OL, e, _, h2, h3, _ => by
    obtain rfl : i = N := by omega
    exact ⟨m, PL, k, OL, Runs.last out_end, h2, by omega⟩
  | j + 1, i, m, k, PL, OL, e, h1, h2, h3, h4 => by
    obtain ⟨m1, PL1, k1, OL1, g1, g2, g3, g4, g5⟩ := out_step hK hF (N := N) (sk := sk) (i := i) (PL := PL) (OL := OL) (by omega) hN h1 h2 (by omega) (by omega)
    obtain ⟨m', PL', k', OL', r1, r2, r3⟩ := out_runs hF hN j (i + 1) m1 k1 PL1 OL1 (by omega) g2 g3 (by omega) (by omega)
    exact ⟨m', PL', k', OL', Runs.cons g1 r1, r2, r3⟩
end
noncomputable def sfW (n : Nat) (hs : Nat → Int) (F : Int) (pf : Int → Int → Int) (rf : Int → Int) (N sk : Int) (m : Nat) (PL : Nat → Prt) : Option Out := gR n hs rf F (gR n hs rf (w64 (F + 1)) (gate (Sub (sfN n hs F (w64 (1 + pf (rf (w64 (F + 1))) 4)) (pf (rf F) 3)) (sfN n hs F N sk)) (cond (((Nat.beq m m) && true) || false) (some (Out.of (.agg (soC m PL sk)))) none)))
theorem sf_ev (n : Nat) (hs : Nat → Int) (F : Int) (pf : Int → Int → Int) (rf : Int → Int) (N sk i : Int) (m : Nat) (PL : Nat → Prt) (k : Nat) (OL : Nat → Int) : evZ Tryz.prog (MP pf) [rwK rf] [] (oneL 5 (toldF keepSf [some 0, some 1] (sfN n hs F N sk) (.exit 0) (sfS n hs F N sk i m PL k OL))) (oneZ 13 (frzK 2)) Tryz.f31 [sI n hs, iA F, iA 3] ret = sfW n hs F pf rf N sk m PL := by kernel_rfl
theorem solidOf_spec {n : Nat} {hs : Nat → Int} (h : Rng n hs) (hn : n ≤ 512) {F : Nat} (hF : F ≤ 50) : ∃ m PL sk, FSpec Tryz.prog 31 [sI n hs, iA (F : Nat), iA 3] (.agg (soC m PL sk)) := by
  have h1 : ∀ f : Int, ∃ y : Int × (Nat → Nat) × Int, ∀ g : Nat, f = (g : Nat) → g ≤ 100 → FSpec Tryz.prog 58 [sI n hs, iA (g : Nat)] (SH y.1 y.2.1 y.2.2) := fun f => by
    by_cases hf : 0 ≤ f ∧ f ≤ 100
    · obtain ⟨k, a, sk, hk⟩ := xleaf h hn (f := f.toNat) (by omega)
      refine ⟨(k, a, sk), fun g hg _ => ?_⟩
      have : f.toNat = g := by omega
      subst this
      exact hk
    · exact ⟨(0, fun _ => 0, 0), fun g hg hg' => absurd ⟨by omega, by omega⟩ hf⟩
  obtain ⟨G, hG⟩ := Classical.axiomOfChoice h1
  have hK : ∀ f : Nat, f ≤ 100 → FSpec Tryz.prog 58 [sI n hs, iA (f : Nat)] (SH ((fun f => (G f).1) ((f : Nat) : Int)) ((fun f => (G f).2.1) ((f : Nat) : Int)) ((fun f => (G f).2.2) ((f : Nat) : Int))) := fun f hf => hG (f : Nat) f rfl hf
  have p0 : 0 ≤ ((F : Nat) : Int) := Int.natCast_nonneg F
  have p1 : 0 ≤ w64 ((F : Int) + 1) := by rw [w64_id (by omega) (by omega)]; omega
  have hr := mrw_range (n := n) (hs := hs) h p1
  have e4 := mpk_range (m := 4) hr.1 hr.2 (by decide)
  obtain ⟨N, hN⟩ : ∃ N : Nat, w64 (1 + mpk (mrw n hs (w64 ((F : Int) + 1))) 4) = ((N : Nat) : Int) ∧ 1 ≤ N ∧ N ≤ 4 := ⟨(1 + mpk (mrw n hs (w64 ((F : Int) + 1))) 4).toNat, by rw [w64_id (by omega) (by omega)]; omega, by omega, by omega⟩
  obtain ⟨PL, OL, o1⟩ := out_first (K := fun f => (G f).1) (A := fun f => (G f).2.1) (S := fun f => (G f).2.2) hK hF (N := N) (sk := mpk (mrw n hs (F : Nat)) 3) hN.2.1
  obtain ⟨m', PL', k', OL', r1, r2, r3⟩ := out_runs (K := fun f => (G f).1) (A := fun f => (G f).2.1) (S := fun f => (G f).2.2) hK hF (N := N) (sk := mpk (mrw n hs (F : Nat)) 3) hN.2.2 (N - 1) 1 1 1 PL OL (by omega) (by omega) (by omega) (by omega) (by omega)
  refine ⟨m', PL', mpk (mrw n hs (F : Nat)) 3, gspecZ (oneZ_ok (frzK_ok 2)) MP_ok (k_cons kS_ok k_nil) m_nil Tryz.func31 (by kernel_rfl) (by kernel_rfl)
    (lok_at (c := bodyOf Tryz.f31) (i := 5) 0 2 (by kernel_rfl) (by kernel_rfl) (toldF_sound (keep := keepSf) (τ := [some 0, some 1]) (Runs.loop (by simp) (Runs.cons o1 r1)))) rfl ((sf_ev n hs (F : Nat) mpk (mrw n hs) (N : Nat) (mpk (mrw n hs (F : Nat)) 3) (N : Nat) m' PL' k' OL').trans ?_)⟩
  unfold sfW
  rw [gR_pos p0, gR_pos p1, hN.1, gate_pos (Sub.refl _), show Nat.beq m' m' = true from Nat.beq_refl m']
  rfl
end Go.Proofs.YtngjiggplabfkaaGreat.Hs.So

namespace Go.Proofs.YtngjiggplabfkaaGreat
open Go.Gv

def kEl (T : Nat → Int) (X : Nat → Nat → Int) : Nat → List AV := fun i => [iA (T i), iA (X i 0), iA (X i 1), iA (X i 2)]
def kSl (n : Nat) (T : Nat → Int) (X : Nat → Nat → Int) : AV := .sl 4 n (kEl T X)
def l3 (s : Nat → Int) : List AV := [iA (s 0), iA (s 1), iA (s 2)]
section
variable (n : Nat) (T : Nat → Int) (X : Nat → Nat → Int) (t : Int) (s a : Nat → Int) (i lo hi c : Int)
end
section
variable (n : Nat) (T : Nat → Int) (X : Nat → Nat → Int) (t : Int) (s a : Nat → Int) (i lo hi : Int)
end
section
variable (n : Nat) (T : Nat → Int) (X : Nat → Nat → Int) (t : Int) (s a : Nat → Int) (i' lo' hi' : Int)
end
end Go.Proofs.YtngjiggplabfkaaGreat

namespace Go.Proofs.YtngjiggplabfkaaGreat
open Go.Gv

section
variable (n : Nat) (T : Nat → Int) (X : Nat → Nat → Int) (t : Int) (s : Nat → Int) (i : Int) (m : Nat) (el : Nat → List AV)
end
abbrev AF : Type := Nat → (Nat → List AV) → Int → Nat → Int
abbrev AE : Type := Nat → (Nat → List AV) → Int
def kmG (fe : AE) : List AV → AV
  | [.sl _ n el] => iA (fe n el)
  | _ => .any
section
variable (fa : AF) (fe fm : AE) (n : Nat) (T : Nat → Int) (X : Nat → Nat → Int) (t : Int) (s : Nat → Int)
end
end Go.Proofs.YtngjiggplabfkaaGreat

namespace Go.Proofs.YtngjiggplabfkaaGreat
open Go.Gv

section
variable (T : Nat → Int) (X : Nat → Nat → Int)
/-- What is wrong with a key. -/
def kbad (i : Nat) : Int := cond (decide (T i < 0) || (decide (T i > 1000000) || (decide (0 < i) && decide (T i ≤ T (i - 1))))) 6 (cond (allI 3 fun c => decide (-1000000 ≤ X i c) && decide (X i c ≤ 1000000)) 0 1)
def kmF : Nat → Int
  | 0 => 0
  | i + 1 => cond (kmF i == 0) (kbad T X i) (kmF i)
def kmay (n : Nat) : Int := cond (decide (n < 1) || decide (32 < n)) 5 (kmF T X n)
def ipV (t : Int) (c k : Nat) : Int := X k c + (2 * (X (k + 1) c - X k c) * (t - T k) + (T (k + 1) - T k)) / (2 * (T (k + 1) - T k))
def katR (n : Nat) (t : Int) (c : Nat) : Nat → Nat → Int
  | 0, _ => X (n - 1) c
  | f + 1, i => cond (decide (t < T i)) (ipV T X t c (i - 1)) (katR n t c f (i + 1))
def kat0 (n : Nat) (t : Int) (c : Nat) : Int := cond (decide (t ≤ T 0)) (X 0 c) (katR T X n t c (n - 1) 1)
def kat (n : Nat) (t : Int) (c : Nat) : Int := cond (kmay T X n == 0) (kat0 T X n t c) 0
end
structure KOkK (n : Nat) (T : Nat → Int) : Prop where
  n1 : 1 ≤ n
  n32 : n ≤ 32
  up : ∀ i, i + 1 < n → T i < T (i + 1)
theorem kmF_zero {T : Nat → Int} {X : Nat → Nat → Int} : ∀ n, kmF T X n = 0 → ∀ i, i < n → kbad T X i = 0
  | 0, _, i, hi => absurd hi (Nat.not_lt_zero i)
  | n + 1, h, i, hi => by
    have h : cond (kmF T X n == 0) (kbad T X n) (kmF T X n) = 0 := h
    by_cases h0 : kmF T X n = 0
    · rw [h0] at h
      have h : kbad T X n = 0 := h
      by_cases hin : i = n
      · subst hin; exact h
      · exact kmF_zero n h0 i (by omega)
    · rw [beq_false_of_ne h0] at h
      exact absurd h h0
theorem kmay_zero {n : Nat} {T : Nat → Int} {X : Nat → Nat → Int} (h : kmay T X n = 0) : KOkK n T := by
  unfold kmay at h
  by_cases h1 : n < 1
  · rw [decide_eq_true h1] at h; cases h
  · by_cases h2 : 32 < n
    · rw [decide_eq_false h1, decide_eq_true h2] at h; cases h
    · rw [decide_eq_false h1, decide_eq_false h2] at h
      have h : kmF T X n = 0 := h
      refine ⟨by omega, by omega, fun i hi => ?_⟩
      have hb := kmF_zero n h (i + 1) hi
      unfold kbad at hb
      by_cases hc : T (i + 1) ≤ T i
      · rw [show i + 1 - 1 = i by omega, decide_eq_true hc, decide_eq_true (show 0 < i + 1 by omega)] at hb
        simp at hb
      · omega
theorem ip_zero {s S D : Int} (hS : 0 < S) (h : D * s = 0) : (2 * D * s + S) / (2 * S) = 0 := by
  rw [Int.mul_assoc, h, Int.mul_zero, Int.zero_add]
  exact Int.ediv_eq_zero_of_lt (by omega) (by omega)
end Go.Proofs.YtngjiggplabfkaaGreat

namespace Go.Proofs.YtngjiggplabfkaaGreat
open Go.Gv

def k1 : AV → Int
  | .x (.int .i64 n) => n
  | _ => 0
def tOf (el : Nat → List AV) (i : Nat) : Int := k1 ((el i).getD 0 .any)
def xOf (el : Nat → List AV) (i c : Nat) : Int := k1 ((el i).getD (c + 1) .any)
def feE : AE := fun n el => kmay (tOf el) (xOf el) n
end Go.Proofs.YtngjiggplabfkaaGreat

namespace Go.Proofs.YtngjiggplabfkaaGreat
open Go.Gv

def dwV (n d : Int) : Int := cond (decide (n.tmod d < 0)) (w64 (w64 (n.tdiv d) - 1)) (w64 (n.tdiv d))
theorem dw_ev (n d : Int) : ev Tryz.prog [] [] noL Tryz.f59 [iA n, iA d] ret =
    cond ((!(d == 0)) && true) (cond (decide (n.tmod d < 0)) (cond ((!(d == 0)) && true) (some (Out.of (iA (w64 (w64 (n.tdiv d) - 1))))) none) (cond ((!(d == 0)) && true) (some (Out.of (iA (w64 (n.tdiv d))))) none)) none := by kernel_rfl
theorem dw_spec {n d : Int} (hd : d ≠ 0) : FSpec Tryz.prog 59 [iA n, iA d] (iA (dwV n d)) := by
  refine gspec e_nil k_nil Tryz.func59 (by kernel_rfl) (by kernel_rfl) noL_ok rfl ((dw_ev n d).trans ?_)
  rw [beq_false_of_ne hd]
  unfold dwV
  cases decide (n.tmod d < 0) <;> rfl
def dwG (f : Int → Int → Int) : List AV → AV
  | [.x (.int .i64 n), .x (.int .i64 d)] => iA (f n d)
  | _ => .any
theorem ne_ev (f : Int → Int → Int) (n d : Int) : ev Tryz.prog [] [kS Tryz.prog 59 (dwG f)] noL Tryz.f33 [iA n, iA d] ret =
    gate (FSpec Tryz.prog 59 [iA (w64 (w64 (2 * n) + d)), iA (w64 (2 * d))] (iA (f (w64 (w64 (2 * n) + d)) (w64 (2 * d))))) (some (Out.of (iA (f (w64 (w64 (2 * n) + d)) (w64 (2 * d)))))) := by kernel_rfl
def neV (n d : Int) : Int := (2 * n + d) / (2 * d)
theorem dwV_eq {n d : Int} (hd : 0 < d) (h0 : -4000000000000000000 ≤ n) (h1 : n ≤ 4000000000000000000) : dwV n d = n / d := by
  unfold dwV
  by_cases hn : 0 ≤ n
  · have e1 : n.tmod d = n % d := Int.tmod_eq_emod_of_nonneg hn
    have e2 : n.tdiv d = n / d := Int.tdiv_eq_ediv_of_nonneg hn
    have a := Int.emod_nonneg n (show d ≠ 0 by omega)
    have b := Int.ediv_nonneg hn (show 0 ≤ d by omega)
    have c := Int.ediv_le_self d hn
    rw [e1, e2, decide_eq_false (by omega), cond_false, w64_id (by omega) (by omega)]
  · have e1 : n.tmod d = -((-n) % d) := by rw [← Int.tmod_eq_emod_of_nonneg (show 0 ≤ -n by omega), Int.neg_tmod, Int.neg_neg]
    have e2 : n.tdiv d = -((-n) / d) := by rw [← Int.tdiv_eq_ediv_of_nonneg (show 0 ≤ -n by omega), Int.neg_tdiv, Int.neg_neg]
    have a := Int.emod_nonneg (-n) (show d ≠ 0 by omega)
    have a' := Int.emod_lt_of_pos (-n) hd
    have b := Int.ediv_nonneg (show 0 ≤ -n by omega) (show 0 ≤ d by omega)
    have c := Int.ediv_le_self d (show 0 ≤ -n by omega)
    have m := Int.mul_ediv_add_emod (-n) d
    rw [e1, e2]
    generalize hq : (-n) / d = q at *
    generalize hr : (-n) % d = r at *
    by_cases hz : r = 0
    · subst hz
      rw [decide_eq_false (by omega), cond_false, w64_id (by omega) (by omega)]
      symm
      refine (Int.ediv_eq_iff_of_pos hd).2 ?_
      have : d * -q = -(d * q) := Int.mul_neg d q
      constructor <;> grind
    · rw [decide_eq_true (by omega), cond_true, w64_id (n := -q) (by omega) (by omega), w64_id (by omega) (by omega)]
      symm
      refine (Int.ediv_eq_iff_of_pos hd).2 ?_
      constructor <;> grind
theorem ne_spec {n d : Int} (hd : 0 < d) (hd1 : d ≤ 1000000) (h0 : -2000000000000 ≤ n) (h1 : n ≤ 2000000000000) : FSpec Tryz.prog 33 [iA n, iA d] (iA (neV n d)) := by
  refine gspec e_nil (k_cons (kS_ok (P := Tryz.prog) (f := 59) (g := dwG dwV)) k_nil) Tryz.func33 (by kernel_rfl) (by kernel_rfl) noL_ok rfl ((ne_ev dwV n d).trans ?_)
  rw [w64_id (n := 2 * n) (by omega) (by omega), w64_id (n := 2 * n + d) (by omega) (by omega), w64_id (n := 2 * d) (by omega) (by omega), gate_pos (dw_spec (by omega)), dwV_eq (by omega) (by omega) (by omega)]
  rfl
def nrB (x : Int) : Bool := cond (decide (x < -1000000)) true (decide (x > 1000000))
def nrV (x y z : Int) : Bool := cond (nrB x) false (cond (nrB y) false (cond (nrB z) false true))
theorem nr_ev (x y z : Int) : ev Tryz.prog [] [] noL Tryz.f17 [.agg [iA x, iA y, iA z]] ret =
    cond (nrB x) (some (Out.of (bA false))) (cond (nrB y) (some (Out.of (bA false))) (cond (nrB z) (some (Out.of (bA false))) (some (Out.of (bA true))))) := by kernel_rfl
theorem nr_spec (x y z : Int) : FSpec Tryz.prog 17 [.agg [iA x, iA y, iA z]] (bA (nrV x y z)) := by
  refine gspec e_nil k_nil Tryz.func17 (by kernel_rfl) (by kernel_rfl) noL_ok rfl ((nr_ev x y z).trans ?_)
  unfold nrV
  cases nrB x <;> cases nrB y <;> cases nrB z <;> rfl
def nrG (f : Int → Int → Int → Bool) : List AV → Option AV
  | [.agg [.x (.int .i64 x), .x (.int .i64 y), .x (.int .i64 z)]] => some (bA (f x y z))
  | _ => none
theorem nrG_ok : EOk Tryz.prog ⟨17, nrG nrV⟩ := fun args r hr => by
  simp only [nrG] at hr
  split at hr
  · cases hr; exact Or.inl (nr_spec _ _ _)
  · cases hr
section
variable (f : Int → Int → Int) (ta a0 a1 a2 tb b0 b1 b2 t : Int)
def neG (f : Int → Int → Int) : List AV → AV
  | [.x (.int .i64 n), .x (.int .i64 d)] => iA (f n d)
  | _ => .any
def bwN (a b : Int) : Int := w64 (w64 (b - a) * w64 (t - ta))
def bwD : Int := w64 (tb - ta)
abbrev NEok (a b : Int) : Prop := FSpec Tryz.prog 33 [iA (bwN ta t a b), iA (bwD ta tb)] (iA (f (bwN ta t a b) (bwD ta tb)))
def bwV (a b : Int) : Int := w64 (a + f (bwN ta t a b) (bwD ta tb))
theorem bw_ev : ev Tryz.prog [] [kS Tryz.prog 33 (neG f)] noL Tryz.f15 [.agg [iA ta, iA a0, iA a1, iA a2], .agg [iA tb, iA b0, iA b1, iA b2], iA t] ret =
    gate (NEok f ta tb t a0 b0) (gate (NEok f ta tb t a1 b1) (gate (NEok f ta tb t a2 b2) (some (Out.of (.agg [iA (bwV f ta tb t a0 b0), iA (bwV f ta tb t a1 b1), iA (bwV f ta tb t a2 b2)]))))) := by kernel_rfl
end
end Go.Proofs.YtngjiggplabfkaaGreat

namespace Go.Proofs.YtngjiggplabfkaaGreat
open Go.Gv

def kmS (n : Nat) (T : Nat → Int) (X : Nat → Nat → Int) (ah i : Int) : St := mkS 36 [(3, iA ah), (14, kSl n T X), (15, iA n), (16, iA i)] []
def kmE (r : Int) : St := mkS 36 [(2, iA r)] []
section
variable (nf : Int → Int → Int → Bool) (n : Nat) (T : Nat → Int) (X : Nat → Nat → Int) (ah i : Int)
def kmC (o6 o1 o0 oe : Option Out) : Option Out := cond (decide (i < n)) (cond (ixB i n || false) (cond (cond (decide (T i.toNat ≤ ah)) true (decide (T i.toNat > 1000000))) o6 (cond (!(nf (X i.toNat 0) (X i.toNat 1) (X i.toNat 2))) o1 o0)) none) oe
theorem km_step : evC Tryz.prog [⟨17, nrG nf⟩] [] noL (loopAt Tryz.f8 0) (kmS n T X ah i) (finN [3, 14, 15, 16] []) =
    kmC nf n T X ah i none none (some ⟨.normal, kmS n T X (T i.toNat) (w64 (i + 1)), .any⟩) none := by kernel_rfl
theorem km_ret : evC Tryz.prog [⟨17, nrG nf⟩] [] noL (loopAt Tryz.f8 0) (kmS n T X ah i) (finR [2] []) =
    kmC nf n T X ah i (some ⟨.ret, kmE 6, .any⟩) (some ⟨.ret, kmE 1, .any⟩) none none := by kernel_rfl
theorem km_end : evC Tryz.prog [⟨17, nrG nf⟩] [] noL (loopAt Tryz.f8 0) (kmS n T X ah i) (finE [3, 14, 15, 16] []) =
    kmC nf n T X ah i none none none (some ⟨.exit 0, kmS n T X ah i, .any⟩) := by kernel_rfl
noncomputable def kmL (ah' : Int) : LFun := toldF [3, 14, 15, 16] [] (kmS n T X (-1) 0) (.exit 0) (kmS n T X ah' (n : Nat))
noncomputable def kmLr (r : Int) : LFun := toldF [3, 14, 15, 16] [] (kmS n T X (-1) 0) .ret (kmE r)
def kmX (R : Option Out) : Option Out := cond (cond (decide ((n : Int) < 1)) true (decide ((n : Int) > 32))) (some (Out.of (iA 5))) R
theorem km_evG (ah' : Int) : ev Tryz.prog [⟨17, nrG nf⟩] [] (oneL 5 (kmL n T X ah')) Tryz.f8 [kSl n T X] ret = kmX n (gate (Sub (kmS n T X (-1) 0) (kmS n T X (-1) 0)) (some (Out.of (iA 0)))) := by kernel_rfl
theorem km_evR (r : Int) : ev Tryz.prog [⟨17, nrG nf⟩] [] (oneL 5 (kmLr n T X r)) Tryz.f8 [kSl n T X] ret = kmX n (gate (Sub (kmS n T X (-1) 0) (kmS n T X (-1) 0)) (some (Out.of (iA r)))) := by kernel_rfl
end
abbrev BF : Type := (Nat → Int) → (Nat → Int) → Int → Nat → Int
def v4 (l : List AV) (i : Nat) : Int := k1 (l.getD i .any)
def bwG (bf : BF) : List AV → AV
  | [.agg a, .agg b, .x (.int .i64 t)] => .agg (l3 (bf (v4 a) (v4 b) t))
  | _ => .any
def kyL (T : Nat → Int) (X : Nat → Nat → Int) (i : Nat) : List AV := [iA (T i), iA (X i 0), iA (X i 1), iA (X i 2)]
def atS (n : Nat) (T : Nat → Int) (X : Nat → Nat → Int) (t i : Int) : St := mkS 46 [(0, kSl n T X), (1, iA t), (4, .own 0 0), (5, iA 0), (15, kSl n T X), (16, iA n), (17, iA i)] [.c (l3 fun _ => 0)]
def atE (v : Nat → Int) : St := mkS 46 [(4, .own 0 0), (5, iA 0)] [.c (l3 v)]
section
variable (bf : BF) (mf : AE) (n : Nat) (T : Nat → Int) (X : Nat → Nat → Int) (t i : Int)
abbrev BWok : Prop := FSpec Tryz.prog 15 [.agg (kyL T X (w64 (i - 1)).toNat), .agg (kyL T X i.toNat), iA t] (.agg (l3 (bf (v4 (kyL T X (w64 (i - 1)).toNat)) (v4 (kyL T X i.toNat)) t)))
noncomputable def atC (o0 o1 oc oe : Option Out) : Option Out := cond (decide (i < n)) (cond (ixB i n || false) (cond (decide (T i.toNat < t)) oc (cond (i == 0) o0 (gate (BWok bf T X t i) (cond ((ixB (w64 (i - 1)) n || false) && true) o1 none)))) none) oe
theorem at_step : evC Tryz.prog [] [kS Tryz.prog 15 (bwG bf)] noL (loopAt Tryz.f6 0) (atS n T X t i) (finN [0, 1, 4, 5, 15, 16, 17] [some 0]) =
    atC bf n T X t i none none (some ⟨.normal, atS n T X t (w64 (i + 1)), .any⟩) none := by kernel_rfl
theorem at_ret : evC Tryz.prog [] [kS Tryz.prog 15 (bwG bf)] noL (loopAt Tryz.f6 0) (atS n T X t i) (finR [4, 5] [some 0]) =
    atC bf n T X t i (some ⟨.ret, atE (X i.toNat), .any⟩) (some ⟨.ret, atE (bf (v4 (kyL T X (w64 (i - 1)).toNat)) (v4 (kyL T X i.toNat)) t), .any⟩) none none := by kernel_rfl
theorem at_end : evC Tryz.prog [] [kS Tryz.prog 15 (bwG bf)] noL (loopAt Tryz.f6 0) (atS n T X t i) (finE [0, 1, 4, 5, 15, 16, 17] [some 0]) =
    atC bf n T X t i none none none (some ⟨.exit 0, atS n T X t i, .any⟩) := by kernel_rfl
noncomputable def atL : LFun := toldF [0, 1, 4, 5, 15, 16, 17] [some 0] (atS n T X t 0) (.exit 0) (atS n T X t (n : Nat))
noncomputable def atLr (v : Nat → Int) : LFun := toldF [0, 1, 4, 5, 15, 16, 17] [some 0] (atS n T X t 0) .ret (atE v)
abbrev MYok : Prop := FSpec Tryz.prog 8 [kSl n T X] (iA (mf n (kEl T X)))
noncomputable def atX (R : Option Out) : Option Out := gate (MYok mf n T X) (cond (!(mf n (kEl T X) == 0)) (some (Out.of (.tup [.agg (l3 fun _ => 0), iA (mf n (kEl T X))]))) R)
theorem at_evG : ev Tryz.prog [] [kS Tryz.prog 8 (kmG mf)] (oneL 5 (atL n T X t)) Tryz.f6 [kSl n T X, iA t] ret = atX mf n T X (gate (Sub (atS n T X t 0) (atS n T X t 0)) (cond ((ixB (w64 ((n : Int) - 1)) n || false)) (some (Out.of (.tup [.agg (l3 (X (w64 ((n : Int) - 1)).toNat)), iA 0]))) none)) := by kernel_rfl
theorem at_evR (v : Nat → Int) : ev Tryz.prog [] [kS Tryz.prog 8 (kmG mf)] (oneL 5 (atLr n T X t v)) Tryz.f6 [kSl n T X, iA t] ret = atX mf n T X (gate (Sub (atS n T X t 0) (atS n T X t 0)) (some (Out.of (.tup [.agg (l3 v), iA 0])))) := by kernel_rfl
theorem at_ev0 : ev Tryz.prog [] [kS Tryz.prog 8 (kmG mf)] (oneL 5 fun _ _ => none) Tryz.f6 [kSl n T X, iA t] ret = atX mf n T X none := by kernel_rfl
end
end Go.Proofs.YtngjiggplabfkaaGreat

namespace Go.Proofs.YtngjiggplabfkaaGreat
open Go.Gv

def ahV (T : Nat → Int) : Nat → Int
  | 0 => -1
  | i + 1 => T i
theorem kb6 {T : Nat → Int} {i : Nat} (h : i = 0 ∨ 0 ≤ T (i - 1)) : cond (decide (T i ≤ ahV T i)) true (decide (T i > 1000000)) = (decide (T i < 0) || (decide (T i > 1000000) || (decide (0 < i) && decide (T i ≤ T (i - 1))))) := by
  cases i with
  | zero =>
    show cond (decide (T 0 ≤ -1)) true (decide (T 0 > 1000000)) = (decide (T 0 < 0) || (decide (T 0 > 1000000) || (false && _)))
    by_cases h1 : T 0 < 0
    · rw [decide_eq_true (show T 0 ≤ -1 by omega), decide_eq_true h1]; rfl
    · rw [decide_eq_false (show ¬ T 0 ≤ -1 by omega), decide_eq_false h1]; simp
  | succ i =>
    have h : 0 ≤ T i := by rcases h with h | h; · omega
                           · exact h
    show cond (decide (T (i + 1) ≤ T i)) true (decide (T (i + 1) > 1000000)) = (decide (T (i + 1) < 0) || (decide (T (i + 1) > 1000000) || (decide (0 < i + 1) && decide (T (i + 1) ≤ T i))))
    by_cases h1 : T (i + 1) ≤ T i
    · rw [decide_eq_true h1, decide_eq_true (show 0 < i + 1 by omega)]; simp
    · rw [decide_eq_false h1, decide_eq_false (show ¬ T (i + 1) < 0 by omega)]; simp
theorem nrB_eq (x : Int) : (decide (-1000000 ≤ x) && decide (x ≤ 1000000)) = !nrB x := by
  unfold nrB
  by_cases h1 : x < -1000000
  · rw [decide_eq_true h1, decide_eq_false (by omega)]; rfl
  · rw [decide_eq_false h1, decide_eq_true (by omega)]
    by_cases h2 : x > 1000000
    · rw [decide_eq_true h2, decide_eq_false (by omega)]; rfl
    · rw [decide_eq_false h2, decide_eq_true (by omega)]; rfl
theorem kb1 (g : Nat → Int) : nrV (g 0) (g 1) (g 2) = allI 3 fun c => decide (-1000000 ≤ g c) && decide (g c ≤ 1000000) := by
  unfold nrV
  cases h0 : nrB (g 0)
  · cases h1 : nrB (g 1)
    · cases h2 : nrB (g 2)
      · refine (allI_t fun i hi => ?_).symm
        have : i = 0 ∨ i = 1 ∨ i = 2 := by omega
        rcases this with rfl | rfl | rfl
        · rw [nrB_eq, h0]; rfl
        · rw [nrB_eq, h1]; rfl
        · rw [nrB_eq, h2]; rfl
      · exact (allI_f (K := 2) (by omega) (by rw [nrB_eq, h2]; rfl)).symm
    · exact (allI_f (K := 1) (by omega) (by rw [nrB_eq, h1]; rfl)).symm
  · exact (allI_f (K := 0) (by omega) (by rw [nrB_eq, h0]; rfl)).symm
theorem kbad_eq {T : Nat → Int} {X : Nat → Nat → Int} {i : Nat} (h : i = 0 ∨ 0 ≤ T (i - 1)) : kbad T X i = cond (cond (decide (T i ≤ ahV T i)) true (decide (T i > 1000000))) 6 (cond (!nrV (X i 0) (X i 1) (X i 2)) 1 0) := by
  unfold kbad
  rw [kb6 h, kb1 (X i)]
  cases allI 3 (fun c => decide (-1000000 ≤ X i c) && decide (X i c ≤ 1000000)) <;> rfl
structure KeyIn (T : Nat → Int) (X : Nat → Nat → Int) (i : Nat) : Prop where
  t0 : 0 ≤ T i
  t1 : T i ≤ 1000000
  x : ∀ c, c < 3 → -1000000 ≤ X i c ∧ X i c ≤ 1000000
theorem kbad_in {T : Nat → Int} {X : Nat → Nat → Int} {i : Nat} (h : kbad T X i = 0) : KeyIn T X i := by
  unfold kbad at h
  cases h6 : (decide (T i < 0) || (decide (T i > 1000000) || (decide (0 < i) && decide (T i ≤ T (i - 1)))))
  · rw [h6] at h
    cases h1 : allI 3 (fun c => decide (-1000000 ≤ X i c) && decide (X i c ≤ 1000000))
    · rw [h1] at h; cases h
    · simp only [Bool.or_eq_false_iff, decide_eq_false_iff_not] at h6
      refine ⟨by omega, by omega, fun c hc => ?_⟩
      have := allI_all h1 c hc
      simpa using this
  · rw [h6] at h; cases h
theorem kmF_all {T : Nat → Int} {X : Nat → Nat → Int} : ∀ n, (∀ i, i < n → kbad T X i = 0) → kmF T X n = 0
  | 0, _ => rfl
  | n + 1, h => by
    show cond (kmF T X n == 0) (kbad T X n) (kmF T X n) = 0
    rw [kmF_all n fun i hi => h i (by omega), h n (by omega)]
    rfl
theorem kmF_first {T : Nat → Int} {X : Nat → Nat → Int} {K : Nat} (hK : kbad T X K ≠ 0) (h : ∀ i, i < K → kbad T X i = 0) : ∀ n, K < n → kmF T X n = kbad T X K
  | 0, hn => absurd hn (Nat.not_lt_zero _)
  | n + 1, hn => by
    show cond (kmF T X n == 0) (kbad T X n) (kmF T X n) = _
    by_cases e : K = n
    · subst e
      rw [kmF_all K h]; rfl
    · have := kmF_first hK h n (by omega)
      rw [this, beq_false_of_ne hK]; rfl
theorem prev_in {T : Nat → Int} {X : Nat → Nat → Int} {i : Nat} (h : ∀ j, j < i → kbad T X j = 0) : i = 0 ∨ 0 ≤ T (i - 1) := by
  cases i with
  | zero => exact Or.inl rfl
  | succ i => exact Or.inr (kbad_in (h i (by omega))).t0
theorem kmC_ok {n : Nat} {T : Nat → Int} {X : Nat → Nat → Int} {i : Nat} (hi : i < n) (h : ∀ j, j < i → kbad T X j = 0) {o6 o1 o0 oe : Option Out} : kmC nrV n T X (ahV T i) (i : Nat) o6 o1 o0 oe = cond (kbad T X i == 0) o0 (cond (kbad T X i == 6) o6 o1) := by
  unfold kmC
  rw [dec_lt hi, ixB_t hi, Int.toNat_natCast, kbad_eq (prev_in h)]
  cases cond (decide (T i ≤ ahV T i)) true (decide (T i > 1000000)) <;> cases nrV (X i 0) (X i 1) (X i 2) <;> rfl
theorem km_good {n : Nat} {T : Nat → Int} {X : Nat → Nat → Int} (hn : n ≤ 32) (h : ∀ i, i < n → kbad T X i = 0) : Leads Tryz.prog (.loop (loopAt Tryz.f8 0)) (kmS n T X (-1) 0) (.exit 0) (kmS n T X (ahV T n) (n : Nat)) := by
  refine loop_rule (fun k => kmS n T X (ahV T k) (k : Nat)) n (.exit 0) _ (by simp) (fun k hk => ?_) ?_
  · refine leads_ev (finN_sub _ _) (e_cons nrG_ok e_nil) k_nil noL_ok ((km_step nrV n T X (ahV T k) (k : Nat)).trans ?_)
    rw [kmC_ok hk (fun j hj => h j (by omega)), h k hk, w64_next (by omega), Int.toNat_natCast]
    rfl
  · refine leads_ev (finE_sub _ _) (e_cons nrG_ok e_nil) k_nil noL_ok ((km_end nrV n T X (ahV T n) (n : Nat)).trans ?_)
    unfold kmC
    rw [dec_self, cond_false]
theorem km_bad {n : Nat} {T : Nat → Int} {X : Nat → Nat → Int} (hn : n ≤ 32) {K : Nat} (hK : K < n) (hb : kbad T X K ≠ 0) (h : ∀ i, i < K → kbad T X i = 0) : Leads Tryz.prog (.loop (loopAt Tryz.f8 0)) (kmS n T X (-1) 0) .ret (kmE (kbad T X K)) := by
  refine loop_rule (fun k => kmS n T X (ahV T k) (k : Nat)) K .ret _ (by simp) (fun k hk => ?_) ?_
  · refine leads_ev (finN_sub _ _) (e_cons nrG_ok e_nil) k_nil noL_ok ((km_step nrV n T X (ahV T k) (k : Nat)).trans ?_)
    rw [kmC_ok (by omega) (fun j hj => h j (by omega)), h k hk, w64_next (by omega), Int.toNat_natCast]
    rfl
  · refine leads_ev (finR_sub _ _) (e_cons nrG_ok e_nil) k_nil noL_ok ((km_ret nrV n T X (ahV T K) (K : Nat)).trans ?_)
    rw [kmC_ok hK h, beq_false_of_ne hb]
    have hv := kbad_eq (X := X) (prev_in h)
    revert hb hv
    generalize kbad T X K = b
    cases cond (decide (T K ≤ ahV T K)) true (decide (T K > 1000000)) <;> cases nrV (X K 0) (X K 1) (X K 2)
    · intro hb hv; have hv : b = 1 := hv; subst hv; rfl
    · intro hb hv; exact absurd hv hb
    · intro hb hv; have hv : b = 6 := hv; subst hv; rfl
    · intro hb hv; have hv : b = 6 := hv; subst hv; rfl
theorem kmX_eq (n : Nat) (T : Nat → Int) (X : Nat → Nat → Int) (R : Option Out) (hR : ¬ (n < 1 ∨ 32 < n) → R = some (Out.of (iA (kmF T X n)))) : kmX n R = some (Out.of (iA (kmay T X n))) := by
  unfold kmX kmay
  by_cases h1 : n < 1
  · rw [decide_eq_true h1, decide_eq_true (show (n : Int) < 1 by omega)]; rfl
  · by_cases h2 : 32 < n
    · rw [decide_eq_false h1, decide_eq_true h2, decide_eq_false (show ¬ (n : Int) < 1 by omega), decide_eq_true (show (n : Int) > 32 by omega)]; rfl
    · rw [decide_eq_false h1, decide_eq_false h2, decide_eq_false (show ¬ (n : Int) < 1 by omega), decide_eq_false (show ¬ (n : Int) > 32 by omega), hR (by omega)]; rfl
theorem km_ev0 (n : Nat) (T : Nat → Int) (X : Nat → Nat → Int) : ev Tryz.prog [⟨17, nrG nrV⟩] [] (oneL 5 fun _ _ => none) Tryz.f8 [kSl n T X] ret = kmX n none := by kernel_rfl
theorem km_spec (n : Nat) (T : Nat → Int) (X : Nat → Nat → Int) : FSpec Tryz.prog 8 [kSl n T X] (iA (kmay T X n)) := by
  by_cases hc : n < 1 ∨ 32 < n
  · refine gspec (e_cons nrG_ok e_nil) k_nil Tryz.func8 (by kernel_rfl) (by kernel_rfl) (lok_none 5) rfl ((km_ev0 n T X).trans (kmX_eq n T X _ fun h => absurd hc h))
  · have hn : n ≤ 32 := by omega
    rcases all_or_first (fun i => kbad T X i == 0) n with hl | ⟨K, hK, hp, hq⟩
    · have hl' : ∀ i, i < n → kbad T X i = 0 := fun i hi => by simpa using hl i hi
      have l1 := lok_at (c := bodyOf Tryz.f8) (i := 5) 0 1 (by kernel_rfl) (by kernel_rfl) (toldF_sound (keep := [3, 14, 15, 16]) (τ := []) (km_good hn hl'))
      refine gspec (e_cons nrG_ok e_nil) k_nil Tryz.func8 (by kernel_rfl) (by kernel_rfl) l1 rfl ((km_evG nrV n T X (ahV T n)).trans (kmX_eq n T X _ fun _ => ?_))
      rw [gate_pos (Sub.refl _), kmF_all n hl']
    · have hb : kbad T X K ≠ 0 := by simpa using hp
      have hq' : ∀ i, i < K → kbad T X i = 0 := fun i hi => by simpa using hq i hi
      have l1 := lok_at (c := bodyOf Tryz.f8) (i := 5) 0 1 (by kernel_rfl) (by kernel_rfl) (toldF_sound (keep := [3, 14, 15, 16]) (τ := []) (km_bad hn hK hb hq'))
      refine gspec (e_cons nrG_ok e_nil) k_nil Tryz.func8 (by kernel_rfl) (by kernel_rfl) l1 rfl ((km_evR nrV n T X (kbad T X K)).trans (kmX_eq n T X _ fun _ => ?_))
      rw [gate_pos (Sub.refl _), kmF_first hb hq' n hK]
theorem div_le {n d B : Int} (hd : 0 < d) (h0 : -B ≤ n) (h1 : n ≤ B) : -B ≤ n / d ∧ n / d ≤ B := by
  constructor
  · refine (Int.le_ediv_iff_mul_le hd).2 (Int.le_trans ?_ h0)
    have : 0 ≤ B := by omega
    have := Int.mul_le_mul_of_nonneg_left (show (1 : Int) ≤ d by omega) this
    rw [Int.neg_mul]; omega
  · refine Int.lt_add_one_iff.1 (Int.ediv_lt_of_lt_mul hd ?_)
    have : 0 ≤ B + 1 := by omega
    have := Int.mul_le_mul_of_nonneg_left (show (1 : Int) ≤ d by omega) this
    omega
theorem mul_abs {a b A B : Int} (h0 : -A ≤ a) (h1 : a ≤ A) (g0 : 0 ≤ b) (g1 : b ≤ B) : -(A * B) ≤ a * b ∧ a * b ≤ A * B := by
  have hA : 0 ≤ A := by omega
  have k1 : a * b ≤ A * b := Int.mul_le_mul_of_nonneg_right h1 g0
  have k2 : A * b ≤ A * B := Int.mul_le_mul_of_nonneg_left g1 hA
  have k3 : -A * b ≤ a * b := Int.mul_le_mul_of_nonneg_right h0 g0
  rw [Int.neg_mul] at k3
  omega
theorem bwV_eq {ta tb t a b : Int} (h0 : 0 ≤ ta) (h1 : tb ≤ 1000000) (h2 : ta < tb) (h3 : ta ≤ t) (h4 : t ≤ tb) (ha : -1000000 ≤ a ∧ a ≤ 1000000) (hb : -1000000 ≤ b ∧ b ≤ 1000000) :
    NEok neV ta tb t a b ∧ bwV neV ta tb t a b = a + (2 * (b - a) * (t - ta) + (tb - ta)) / (2 * (tb - ta)) := by
  have m := mul_abs (a := b - a) (b := t - ta) (A := 2000000) (B := 1000000) (by omega) (by omega) (by omega) (by omega)
  have en : bwN ta t a b = (b - a) * (t - ta) := by
    unfold bwN
    rw [w64_id (n := b - a) (by omega) (by omega), w64_id (n := t - ta) (by omega) (by omega), w64_id (by omega) (by omega)]
  have ed : bwD ta tb = tb - ta := by unfold bwD; rw [w64_id (by omega) (by omega)]
  constructor
  · unfold NEok
    rw [en, ed]
    exact ne_spec (by omega) (by omega) (by omega) (by omega)
  · unfold bwV
    rw [en, ed]
    unfold neV
    have := div_le (n := 2 * ((b - a) * (t - ta)) + (tb - ta)) (d := 2 * (tb - ta)) (B := 4000001000000) (by omega) (by omega) (by omega)
    rw [w64_id (by omega) (by omega), Int.mul_assoc 2 (b - a)]
def bwF : BF := fun a b t c => bwV neV (a 0) (b 0) t (a (c + 1)) (b (c + 1))
theorem bw_spec {T : Nat → Int} {X : Nat → Nat → Int} {k : Nat} {t : Int} (ka : KeyIn T X k) (kb : KeyIn T X (k + 1)) (h2 : T k < T (k + 1)) (h3 : T k ≤ t) (h4 : t ≤ T (k + 1)) :
    FSpec Tryz.prog 15 [.agg (kyL T X k), .agg (kyL T X (k + 1)), iA t] (.agg (l3 (bwF (v4 (kyL T X k)) (v4 (kyL T X (k + 1))) t))) := by
  have e := fun c hc => bwV_eq ka.t0 kb.t1 h2 h3 h4 (ka.x c hc) (kb.x c hc)
  refine gspec e_nil (k_cons (kS_ok (P := Tryz.prog) (f := 33) (g := neG neV)) k_nil) Tryz.func15 (by kernel_rfl) (by kernel_rfl) noL_ok rfl ((bw_ev neV (T k) (X k 0) (X k 1) (X k 2) (T (k + 1)) (X (k + 1) 0) (X (k + 1) 1) (X (k + 1) 2) t).trans ?_)
  rw [gate_pos (e 0 (by omega)).1, gate_pos (e 1 (by omega)).1, gate_pos (e 2 (by omega)).1]
  rfl
theorem bwF_ip {T : Nat → Int} {X : Nat → Nat → Int} {k : Nat} {t : Int} (ka : KeyIn T X k) (kb : KeyIn T X (k + 1)) (h2 : T k < T (k + 1)) (h3 : T k ≤ t) (h4 : t ≤ T (k + 1)) : ∀ c, c < 3 → bwF (v4 (kyL T X k)) (v4 (kyL T X (k + 1))) t c = ipV T X t c k
  | 0, _ => (bwV_eq ka.t0 kb.t1 h2 h3 h4 (ka.x 0 (by omega)) (kb.x 0 (by omega))).2
  | 1, _ => (bwV_eq ka.t0 kb.t1 h2 h3 h4 (ka.x 1 (by omega)) (kb.x 1 (by omega))).2
  | 2, _ => (bwV_eq ka.t0 kb.t1 h2 h3 h4 (ka.x 2 (by omega)) (kb.x 2 (by omega))).2
  | _ + 3, h => absurd h (by omega)
theorem katR_skip {T : Nat → Int} {X : Nat → Nat → Int} {n : Nat} {t : Int} {c : Nat} : ∀ m f i, (∀ j, i ≤ j → j < i + m → ¬ t < T j) → katR T X n t c (m + f) i = katR T X n t c f (i + m)
  | 0, f, i, _ => by rw [Nat.zero_add, Nat.add_zero]
  | m + 1, f, i, h => by
    rw [show m + 1 + f = (m + f) + 1 by omega]
    show cond (decide (t < T i)) _ (katR T X n t c (m + f) (i + 1)) = _
    rw [decide_eq_false (h i (by omega) (by omega)), cond_false, katR_skip m f (i + 1) fun j h1 h2 => h j (by omega) (by omega), show i + 1 + m = i + (m + 1) by omega]
theorem ip_end {T : Nat → Int} {X : Nat → Nat → Int} {k c : Nat} {t : Int} (h2 : T k < T (k + 1)) (ht : t = T (k + 1)) : ipV T X t c k = X (k + 1) c := by
  subst ht
  unfold ipV
  generalize hS : T (k + 1) - T k = S
  generalize hD : X (k + 1) c - X k c = D
  have : (2 * D * S + S) / (2 * S) = D := by
    rw [show 2 * D * S + S = S + 2 * S * D by grind, Int.add_mul_ediv_left _ _ (show 2 * S ≠ 0 by omega), Int.ediv_eq_zero_of_lt (by omega) (by omega)]
    omega
  omega
/-- The first key that is not ahead of the time. -/
theorem kat_first {n : Nat} {T : Nat → Int} {X : Nat → Nat → Int} (ok : KOkK n T) {t : Int} {k : Nat} (hk : k + 1 < n) (h1 : ∀ i, i ≤ k → T i < t) (h2 : t ≤ T (k + 1)) (c : Nat) : kat0 T X n t c = ipV T X t c k := by
  unfold kat0
  have := h1 0 (by omega)
  rw [decide_eq_false (show ¬ t ≤ T 0 by omega), cond_false, show n - 1 = k + (n - 1 - k) by omega]
  rw [katR_skip k (n - 1 - k) 1 fun j g1 g2 => by have := h1 j (by omega); omega, show n - 1 - k = (n - 2 - k) + 1 by omega, show 1 + k = k + 1 by omega]
  show cond (decide (t < T (k + 1))) (ipV T X t c (k + 1 - 1)) (katR T X n t c (n - 2 - k) (k + 1 + 1)) = _
  by_cases e : t < T (k + 1)
  · rw [decide_eq_true e, cond_true, show k + 1 - 1 = k by omega]
  · have et : t = T (k + 1) := by omega
    rw [decide_eq_false e, cond_false, ip_end (ok.up k hk) et]
    by_cases hn : k + 2 = n
    · subst hn
      rw [show k + 2 - 2 - k = 0 by omega]
      show X (k + 2 - 1) c = _
      rw [show k + 2 - 1 = k + 1 by omega]
    · rw [show n - 2 - k = (n - 3 - k) + 1 by omega]
      show cond (decide (t < T (k + 1 + 1))) (ipV T X t c (k + 1 + 1 - 1)) _ = _
      have up := ok.up (k + 1) (by omega)
      rw [decide_eq_true (by omega), cond_true, show k + 1 + 1 - 1 = k + 1 by omega]
      unfold ipV
      rw [ip_zero (by omega) (by rw [et, Int.sub_self, Int.mul_zero])]
      omega
theorem l3_eq {a b : Nat → Int} (h : ∀ c, c < 3 → a c = b c) : l3 a = l3 b := by
  unfold l3
  rw [h 0 (by omega), h 1 (by omega), h 2 (by omega)]
theorem atC_go {n : Nat} {T : Nat → Int} {X : Nat → Nat → Int} {t : Int} {i : Nat} (hi : i < n) (h : T i < t) {o0 o1 oc oe : Option Out} : atC bwF n T X t (i : Nat) o0 o1 oc oe = oc := by
  unfold atC
  rw [dec_lt hi, ixB_t hi, Int.toNat_natCast, decide_eq_true h]
  rfl
theorem at_good {n : Nat} (hn : n ≤ 32) {T : Nat → Int} {X : Nat → Nat → Int} {t : Int} (h : ∀ i, i < n → T i < t) : Leads Tryz.prog (.loop (loopAt Tryz.f6 0)) (atS n T X t 0) (.exit 0) (atS n T X t (n : Nat)) := by
  refine loop_rule (fun k => atS n T X t (k : Nat)) n (.exit 0) _ (by simp) (fun k hk => ?_) ?_
  · refine leads_ev (finN_sub _ _) e_nil (k_cons (kS_ok (P := Tryz.prog) (f := 15) (g := bwG bwF)) k_nil) noL_ok ((at_step bwF n T X t (k : Nat)).trans ?_)
    rw [atC_go hk (h k hk), w64_next (by omega)]
  · refine leads_ev (finE_sub _ _) e_nil (k_cons (kS_ok (P := Tryz.prog) (f := 15) (g := bwG bwF)) k_nil) noL_ok ((at_end bwF n T X t (n : Nat)).trans ?_)
    unfold atC
    rw [dec_self, cond_false]
theorem at_zero {n : Nat} (hn : 1 ≤ n) {T : Nat → Int} {X : Nat → Nat → Int} {t : Int} (h : t ≤ T 0) : Leads Tryz.prog (.loop (loopAt Tryz.f6 0)) (atS n T X t 0) .ret (atE (X 0)) := by
  refine loop_rule (fun k => atS n T X t (k : Nat)) 0 .ret _ (by simp) (fun k hk => absurd hk (by omega)) ?_
  refine leads_ev (finR_sub _ _) e_nil (k_cons (kS_ok (P := Tryz.prog) (f := 15) (g := bwG bwF)) k_nil) noL_ok ((at_ret bwF n T X t ((0 : Nat) : Int)).trans ?_)
  unfold atC
  rw [dec_lt (show 0 < n by omega), ixB_t (show 0 < n by omega), Int.toNat_natCast, decide_eq_false (by omega)]
  rfl
theorem at_mid {n : Nat} (hn : n ≤ 32) {T : Nat → Int} {X : Nat → Nat → Int} {t : Int} {k : Nat} (hk : k + 1 < n) (ka : KeyIn T X k) (kb : KeyIn T X (k + 1)) (up : T k < T (k + 1)) (h1 : ∀ i, i ≤ k → T i < t) (h2 : t ≤ T (k + 1)) :
    Leads Tryz.prog (.loop (loopAt Tryz.f6 0)) (atS n T X t 0) .ret (atE (bwF (v4 (kyL T X k)) (v4 (kyL T X (k + 1))) t)) := by
  refine loop_rule (fun k => atS n T X t (k : Nat)) (k + 1) .ret _ (by simp) (fun j hj => ?_) ?_
  · refine leads_ev (finN_sub _ _) e_nil (k_cons (kS_ok (P := Tryz.prog) (f := 15) (g := bwG bwF)) k_nil) noL_ok ((at_step bwF n T X t (j : Nat)).trans ?_)
    rw [atC_go (by omega) (h1 j (by omega)), w64_next (by omega)]
  · refine leads_ev (finR_sub _ _) e_nil (k_cons (kS_ok (P := Tryz.prog) (f := 15) (g := bwG bwF)) k_nil) noL_ok ((at_ret bwF n T X t ((k + 1 : Nat) : Int)).trans ?_)
    have hw : w64 (((k + 1 : Nat) : Int) - 1) = (k : Int) := by rw [w64_id (by omega) (by omega)]; omega
    unfold atC BWok
    rw [hw, dec_lt hk, ixB_t hk, ixB_t (show k < n by omega), Int.toNat_natCast, Int.toNat_natCast, decide_eq_false (by omega), beq_false_of_ne (show ((k + 1 : Nat) : Int) ≠ 0 by omega), gate_pos (bw_spec ka kb up (by have := h1 k (by omega); omega) h2)]
    rfl
theorem MYok_of (n : Nat) (T : Nat → Int) (X : Nat → Nat → Int) (hX : xOf (kEl T X) = X) : feE n (kEl T X) = kmay T X n ∧ MYok feE n T X := by
  have e : feE n (kEl T X) = kmay T X n := by unfold feE; rw [hX]; rfl
  exact ⟨e, by unfold MYok; rw [e]; exact km_spec n T X⟩
theorem at_spec0 (n : Nat) (T : Nat → Int) (X : Nat → Nat → Int) (hX : xOf (kEl T X) = X) (t : Int) : FSpec Tryz.prog 6 [kSl n T X, iA t] (.tup [.agg (l3 (kat T X n t)), iA (kmay T X n)]) := by
  obtain ⟨e, hM⟩ := MYok_of n T X hX
  have ks := k_cons (kS_ok (P := Tryz.prog) (f := 8) (g := kmG feE)) k_nil
  by_cases h : kmay T X n = 0
  · have kk := kmay_zero h
    have hn := kk.n32
    have n1 := kk.n1
    have ek : ∀ c, kat T X n t c = kat0 T X n t c := fun c => by unfold kat; rw [h]; rfl
    have hin : ∀ i, i < n → KeyIn T X i := fun i hi => by
      refine kbad_in (kmF_zero n ?_ i hi)
      have h' := h
      unfold kmay at h'
      rw [decide_eq_false (by omega), decide_eq_false (by omega)] at h'
      exact h'
    rcases all_or_first (fun i => decide (T i < t)) n with hl | ⟨K, hK, hp, hq⟩
    · have hl' : ∀ i, i < n → T i < t := fun i hi => by simpa using hl i hi
      have l1 := lok_at (c := bodyOf Tryz.f6) (i := 5) 0 1 (by kernel_rfl) (by kernel_rfl) (toldF_sound (keep := [0, 1, 4, 5, 15, 16, 17]) (τ := [some 0]) (at_good (X := X) hn hl'))
      have hw : w64 ((n : Int) - 1) = ((n - 1 : Nat) : Int) := by rw [w64_id (by omega) (by omega)]; omega
      have ev : l3 (kat T X n t) = l3 (X (n - 1)) := l3_eq fun c _ => by
        rw [ek]
        unfold kat0
        have := hl' 0 (by omega)
        rw [decide_eq_false (by omega), cond_false]
        have := katR_skip (T := T) (X := X) (n := n) (t := t) (c := c) (n - 1) 0 1 fun j g1 g2 => by have := hl' j (by omega); omega
        rw [Nat.add_zero] at this
        rw [this]
        rfl
      refine gspec e_nil ks Tryz.func6 (by kernel_rfl) (by kernel_rfl) l1 rfl ((at_evG feE n T X t).trans ?_)
      unfold atX
      rw [gate_pos hM, e, h, gate_pos (Sub.refl _), hw, ixB_t (show n - 1 < n by omega), Int.toNat_natCast, ev]
      rfl
    · have hp' : ¬ T K < t := by simpa using hp
      have hq' : ∀ i, i < K → T i < t := fun i hi => by simpa using hq i hi
      cases K with
      | zero =>
        have l1 := lok_at (c := bodyOf Tryz.f6) (i := 5) 0 1 (by kernel_rfl) (by kernel_rfl) (toldF_sound (keep := [0, 1, 4, 5, 15, 16, 17]) (τ := [some 0]) (at_zero (T := T) (X := X) (t := t) n1 (by omega)))
        have ev : l3 (kat T X n t) = l3 (X 0) := l3_eq fun c _ => by
          rw [ek]; unfold kat0; rw [decide_eq_true (by omega), cond_true]
        refine gspec e_nil ks Tryz.func6 (by kernel_rfl) (by kernel_rfl) l1 rfl ((at_evR feE n T X t (X 0)).trans ?_)
        unfold atX
        rw [gate_pos hM, e, h, gate_pos (Sub.refl _), ev]
        rfl
      | succ k =>
        have up := kk.up k hK
        have h1 : ∀ i, i ≤ k → T i < t := fun i hi => hq' i (by omega)
        have h1k := h1 k (by omega)
        have l1 := lok_at (c := bodyOf Tryz.f6) (i := 5) 0 1 (by kernel_rfl) (by kernel_rfl) (toldF_sound (keep := [0, 1, 4, 5, 15, 16, 17]) (τ := [some 0]) (at_mid (T := T) (X := X) (t := t) hn hK (hin k (by omega)) (hin (k + 1) hK) up h1 (by omega)))
        have ev : l3 (kat T X n t) = l3 (bwF (v4 (kyL T X k)) (v4 (kyL T X (k + 1))) t) := l3_eq fun c hc => by
          rw [ek, kat_first kk hK h1 (by omega), bwF_ip (hin k (by omega)) (hin (k + 1) hK) up (by omega) (by omega) c hc]
        refine gspec e_nil ks Tryz.func6 (by kernel_rfl) (by kernel_rfl) l1 rfl ((at_evR feE n T X t _).trans ?_)
        unfold atX
        rw [gate_pos hM, e, h, gate_pos (Sub.refl _), ev]
        rfl
  · refine gspec e_nil ks Tryz.func6 (by kernel_rfl) (by kernel_rfl) (lok_none 5) rfl ((at_ev0 feE n T X t).trans ?_)
    have ev : l3 (kat T X n t) = l3 fun _ => 0 := l3_eq fun c _ => by unfold kat; rw [beq_false_of_ne h]; rfl
    unfold atX
    rw [gate_pos hM, e, beq_false_of_ne h, ev]
    rfl
end Go.Proofs.YtngjiggplabfkaaGreat

namespace Go.Proofs.YtngjiggplabfkaaGreat.Hs.Fm
open Go.Gv
open Go.Ev (cn fadd fsub fmul fdiv feq flt fle fgt fge)

def itof (n : Int) : Nat := cn (FloatKind.f64.nearest n)
def c3 (p : Nat → Nat) : List AV := [.f (p 0), .f (p 1), .f (p 2)]
def c6 (b : Nat → Nat) : List AV := [.f (b 0), .f (b 1), .f (b 2), .f (b 3), .f (b 4), .f (b 5)]
def pp (p : Nat → Nat) : Nat → Nat := ls [p 0, p 1, p 2, p 0, p 1, p 2]
def boxQ (p : Nat → Nat → Nat) : Nat → Nat → Nat
  | 0 => pp (p 0)
  | q + 1 => joinS (boxQ p q) (pp (p q))
def z6 : List AV := [.f 0, .f 0, .f 0, .f 0, .f 0, .f 0]
def aroundS (n : Nat) (p : Nat → Nat → Nat) (q : Int) (b : Nat → Nat) : St := mkS 26 [(2, .own 0 0), (3, .own 1 0), (13, .sl 3 n fun q => c3 (p q)), (14, iA n), (15, iA q)] [.c z6, .c (c6 b)]
def keepA : List Nat := [2, 3, 13, 14, 15]
theorem around_step (n : Nat) (p : Nat → Nat → Nat) (q : Int) (b : Nat → Nat) : evC Tryz.prog V4 [] noL (loopAt Tryz.f103 0) (aroundS n p q b) (finN keepA [some 0, some 1]) =
    cond (decide (q < (n : Int))) (cond ((decide (0 ≤ q) && decide (q < (n : Int))) && true) (some ⟨.normal, aroundS n p (w64 (q + 1)) (joinS b (pp (p q.toNat))), .any⟩) none) none := by kernel_rfl
theorem around_end (n : Nat) (p : Nat → Nat → Nat) (q : Int) (b : Nat → Nat) : evC Tryz.prog V4 [] noL (loopAt Tryz.f103 0) (aroundS n p q b) (finX keepA [some 0, some 1]) =
    cond (decide (q < (n : Int))) (cond ((decide (0 ≤ q) && decide (q < (n : Int))) && true) none none) (some ⟨.exit 0, aroundS n p q b, .any⟩) := by kernel_rfl
theorem dec_nonneg (n : Nat) : decide (0 ≤ (n : Int)) = true := decide_eq_true (Int.natCast_nonneg _)
theorem dec_lt {a b : Nat} (h : a < b) : decide ((a : Int) < (b : Int)) = true := decide_eq_true (by omega)
theorem dec_self (a : Nat) : decide ((a : Int) < (a : Int)) = false := decide_eq_false (by omega)
theorem w64_next {n : Nat} (h : n < 4611686018427387904) : w64 ((n : Int) + 1) = ((n + 1 : Nat) : Int) := by rw [w64_id (by omega) (by omega)]; omega
theorem around_leads (n : Nat) (p : Nat → Nat → Nat) (hn : n < 4611686018427387904) : Leads Tryz.prog (.loop (loopAt Tryz.f103 0)) (aroundS n p 0 (boxQ p 0)) (.exit 0) (aroundS n p n (boxQ p n)) := by
  refine loop_rule (fun q => aroundS n p (q : Nat) (boxQ p q)) n (.exit 0) _ (by simp) (fun q hq => ?_) ?_
  · refine leads_ev (finN_sub keepA [some 0, some 1]) V4_ok k_nil noL_ok ?_
    rw [around_step, dec_lt hq, dec_nonneg, w64_next (by omega)]
    rfl
  · refine leads_ev (finX_sub keepA [some 0, some 1]) V4_ok k_nil noL_ok ?_
    rw [around_end, dec_self]
    rfl
noncomputable def aroundL (n : Nat) (p : Nat → Nat → Nat) : Nat → Option LFun := oneL 3 (toldF keepA [some 0, some 1] (aroundS n p 0 (boxQ p 0)) (.exit 0) (aroundS n p n (boxQ p n)))
theorem aroundL_ok (n : Nat) (p : Nat → Nat → Nat) (hn : n < 4611686018427387904) : LOk Tryz.prog (aroundL n p) (bodyOf Tryz.f103) :=
  lok_one (i := 3) 1 (by kernel_rfl) fun j hj _ => by
    have : j = 0 := by omega
    subst this
    exact toldF_sound (around_leads n p hn)
theorem around_ev (n : Nat) (p : Nat → Nat → Nat) : ev Tryz.prog V4 [] (aroundL n p) Tryz.f103 [.sl 3 n fun q => c3 (p q)] ret =
    cond ((decide ((0 : Int) < (n : Int)) || false) && ((decide ((0 : Int) < (n : Int)) || false) && true)) (gate (Sub (aroundS n p 0 (boxQ p 0)) (aroundS n p 0 (boxQ p 0))) (some (Out.of (.agg (c6 (boxQ p n)))))) none := by kernel_rfl
theorem around_spec {n : Nat} (p : Nat → Nat → Nat) (h0 : 0 < n) (hn : n < 4611686018427387904) : FSpec Tryz.prog 103 [.sl 3 n fun q => c3 (p q)] (.agg (c6 (boxQ p n))) := by
  refine gspec V4_ok k_nil Tryz.func103 (by kernel_rfl) (by kernel_rfl) (aroundL_ok n p hn) rfl ?_
  rw [around_ev, decide_eq_true (show (0 : Int) < (n : Int) by omega), gate_pos (Sub.refl _)]
  rfl

structure Fd where
  W : Int
  H : Int
  at_ : Nat → Nat
  sd : Nat
  n : Nat
  hs : Nat → Int
  sk : Int
def Fd.c (F : Fd) : List AV := [iA F.W, iA F.H, .f (F.at_ 0), .f (F.at_ 1), .f (F.at_ 2), .f F.sd, .sl 1 F.n (fun i => [iA (F.hs i)]), iA F.sk]
def mayLS (F : Fd) (r q : Int) : St := mkS 68 [(1, .own 0 0), (2, iA r), (55, .sl 1 F.n (fun i => [iA (F.hs i)])), (56, iA F.n), (57, iA q)] [.c F.c]
def keepM : List Nat := [1, 2, 55, 56, 57]

def hBad (h : Int) : Bool := cond (decide (h < -1000000)) true (decide (h > 1000000))
theorem mayL_step (F : Fd) (q : Int) : evC Tryz.prog V4 [] noL (loopAt Tryz.f101 0) (mayLS F 0 q) (finN keepM [some 0]) =
    cond (decide (q < (F.n : Int))) (cond ((decide (0 ≤ q) && decide (q < (F.n : Int))) && true) (cond (hBad (F.hs q.toNat)) none (some ⟨.normal, mayLS F 0 (w64 (q + 1)), .any⟩)) none) none := by kernel_rfl
theorem mayL_end (F : Fd) (q : Int) : evC Tryz.prog V4 [] noL (loopAt Tryz.f101 0) (mayLS F 0 q) (finX keepM [some 0]) =
    cond (decide (q < (F.n : Int))) (cond ((decide (0 ≤ q) && decide (q < (F.n : Int))) && true) (cond (hBad (F.hs q.toNat)) (some ⟨.ret, mayLS F 6 q, .any⟩) none) none) (some ⟨.exit 0, mayLS F 0 q, .any⟩) := by kernel_rfl
theorem mayL_round {F : Fd} {q : Nat} (hn : F.n < 4611686018427387904) (hq : q < F.n) (hb : hBad (F.hs q) = false) : Leads Tryz.prog (loopAt Tryz.f101 0) (mayLS F 0 (q : Nat)) .normal (mayLS F 0 ((q + 1 : Nat) : Int)) := by
  refine leads_ev (finN_sub keepM [some 0]) V4_ok k_nil noL_ok ?_
  rw [mayL_step, dec_lt hq, dec_nonneg, w64_next (by omega)]
  simp only [Int.toNat_natCast, hb]
  rfl
theorem mayL_ok {F : Fd} (hn : F.n < 4611686018427387904) (h : ∀ q, q < F.n → hBad (F.hs q) = false) : Leads Tryz.prog (.loop (loopAt Tryz.f101 0)) (mayLS F 0 0) (.exit 0) (mayLS F 0 F.n) := by
  refine loop_rule (fun q => mayLS F 0 (q : Nat)) F.n (.exit 0) _ (by simp) (fun q hq => mayL_round hn hq (h q hq)) ?_
  refine leads_ev (finX_sub keepM [some 0]) V4_ok k_nil noL_ok ?_
  rw [mayL_end, dec_self]
  rfl
theorem mayL_bad {F : Fd} (hn : F.n < 4611686018427387904) {j : Nat} (hj : j < F.n) (hb : hBad (F.hs j) = true) (h : ∀ q, q < j → hBad (F.hs q) = false) : Leads Tryz.prog (.loop (loopAt Tryz.f101 0)) (mayLS F 0 0) .ret (mayLS F 6 (j : Nat)) := by
  refine loop_rule (fun q => mayLS F 0 (q : Nat)) j .ret _ (by simp) (fun q hq => mayL_round hn (by omega) (h q hq)) ?_
  refine leads_ev (finX_sub keepM [some 0]) V4_ok k_nil noL_ok ?_
  rw [mayL_end, dec_lt hj, dec_nonneg]
  simp only [Int.toNat_natCast, hb]
  rfl
noncomputable def mayL (F : Fd) (ex : Exit) (sf : St) : Nat → Option LFun := oneL 12 (toldF keepM [some 0] (mayLS F 0 0) ex sf)
theorem mayL_lok {F : Fd} {ex : Exit} {sf : St} (h : Leads Tryz.prog (.loop (loopAt Tryz.f101 0)) (mayLS F 0 0) ex sf) : LOk Tryz.prog (mayL F ex sf) (bodyOf Tryz.f101) :=
  lok_one (i := 12) 1 (by kernel_rfl) fun j hj _ => by
    have : j = 0 := by omega
    subst this
    exact toldF_sound h
def Fd.dims (F : Fd) : Bool := cond (cond (cond (decide (F.W < 2)) true (decide (F.W > 8))) true (decide (F.H < 2))) true (decide (F.H > 8))
def Fd.far (F : Fd) : Bool := cond (!fineS (F.at_ 0) (F.at_ 1) (F.at_ 2)) true (!nearS F.sd)
/-- What is asked ahead of the heights. -/
def Fd.first (F : Fd) (X : Option Out) : Option Out := cond F.dims (some (Out.of (iA 4))) (cond (!((F.n : Int) == w64 (F.W * F.H))) (some (Out.of (iA 5))) (cond (skB F.sk) (some (Out.of (iA 4))) (cond F.far (some (Out.of (iA 1))) (cond (!fgt F.sd 0) (some (Out.of (iA 6))) X))))
theorem may_ev_ok (F : Fd) : ev Tryz.prog V4 [] (mayL F (.exit 0) (mayLS F 0 F.n)) Tryz.f101 [.agg F.c] ret = F.first (gate (Sub (mayLS F 0 0) (mayLS F 0 0)) (some (Out.of (iA 0)))) := by kernel_rfl
theorem may_ev_bad (F : Fd) (j : Int) : ev Tryz.prog V4 [] (mayL F .ret (mayLS F 6 j)) Tryz.f101 [.agg F.c] ret = F.first (gate (Sub (mayLS F 0 0) (mayLS F 0 0)) (some (Out.of (iA 6)))) := by kernel_rfl
/-- Which is the first height that may not be? -/
theorem first_bad (hs : Nat → Int) : ∀ n, (∀ q, q < n → hBad (hs q) = false) ∨ ∃ j, j < n ∧ hBad (hs j) = true ∧ ∀ q, q < j → hBad (hs q) = false
  | 0 => Or.inl fun q hq => by omega
  | n + 1 => by
    rcases first_bad hs n with h | ⟨j, h1, h2, h3⟩
    · cases hb : hBad (hs n)
      · exact Or.inl fun q hq => by
          by_cases e : q = n
          · rw [e]; exact hb
          · exact h q (by omega)
      · exact Or.inr ⟨n, by omega, hb, h⟩
    · exact Or.inr ⟨j, by omega, h2, h3⟩
def Fd.okAll (F : Fd) : Bool := (List.range F.n).all fun q => !hBad (F.hs q)
def Fd.mayN (F : Fd) : Int := cond F.dims 4 (cond (!((F.n : Int) == w64 (F.W * F.H))) 5 (cond (skB F.sk) 4 (cond F.far 1 (cond (!fgt F.sd 0) 6 (cond F.okAll 0 6)))))
theorem may_spec (F : Fd) (hn : F.n < 4611686018427387904) : FSpec Tryz.prog 101 [.agg F.c] (iA F.mayN) := by
  have fin : ∀ e : Int, F.okAll = (e == 0) → (e = 0 ∨ e = 6) → F.first (some (Out.of (iA e))) = some (Out.of (iA F.mayN)) := fun e h1 h2 => by
    unfold Fd.first Fd.mayN
    rw [h1]
    cases F.dims <;> simp only [cond_true, cond_false]
    cases (!((F.n : Int) == w64 (F.W * F.H))) <;> simp only [cond_true, cond_false]
    cases skB F.sk <;> simp only [cond_true, cond_false]
    cases F.far <;> simp only [cond_true, cond_false]
    cases (!fgt F.sd 0) <;> simp only [cond_true, cond_false]
    rcases h2 with rfl | rfl <;> rfl
  rcases first_bad F.hs F.n with h | ⟨j, h1, h2, h3⟩
  · refine gspec V4_ok k_nil Tryz.func101 (by kernel_rfl) (by kernel_rfl) (mayL_lok (mayL_ok hn h)) rfl ?_
    rw [may_ev_ok, gate_pos (Sub.refl _)]
    refine fin 0 ?_ (Or.inl rfl)
    unfold Fd.okAll
    rw [List.all_eq_true.2]
    · rfl
    · intro q hq
      rw [h q (List.mem_range.1 hq)]
      rfl
  · refine gspec V4_ok k_nil Tryz.func101 (by kernel_rfl) (by kernel_rfl) (mayL_lok (mayL_bad hn h1 h2 h3)) rfl ?_
    rw [may_ev_bad, gate_pos (Sub.refl _)]
    refine fin 6 ?_ (Or.inr rfl)
    unfold Fd.okAll
    rw [List.all_eq_false.2 ⟨j, List.mem_range.2 h1, by rw [h2]; simp⟩]
    rfl

def ptXY (F : Fd) (h x y : Int) : Nat → Nat := ls [fadd (F.at_ 0) (fmul (itof x) F.sd), fadd (F.at_ 1) (fdiv (itof h) 4652007308841189376), fadd (F.at_ 2) (fmul (itof y) F.sd)]
def pt (F : Fd) (q : Nat) : Nat → Nat := ptXY F (F.hs q) ((q % F.W.toNat : Nat) : Int) ((q / F.W.toNat : Nat) : Int)
def pts (F : Fd) : Nat → List AV := fun q => c3 (pt F q)
def innerS (F : Fd) (y x : Int) (m : Nat) (ps : Nat → List AV) : St := mkS 63 [(1, .own 0 0), (3, .osl 1 3 0 m), (4, iA y), (13, iA F.H), (14, iA y), (18, iA F.W), (19, iA x)] [.c F.c, .a 30 3 m ps]
def keepI : List Nat := [1, 3, 4, 13, 14, 18, 19]
def ix (W y x : Int) : Int := w64 (w64 (y * W) + x)
theorem inner_step (F : Fd) (y x : Int) (m : Nat) (ps : Nat → List AV) : evC Tryz.prog [] [] noL (loopAt Tryz.f102 1) (innerS F y x m ps) (finN keepI [some 0, some 3]) =
      cond (decide (x < F.W)) (cond (((decide (0 ≤ ix F.W y x) && decide (ix F.W y x < (F.n : Int))) || false) && ((((m == m) && Nat.ble ((m + 1) * 24) 140737488355328) || false) && true))
        (some ⟨.normal, innerS F y (w64 (x + 1)) (m + 1) (fun q => mixL (Nat.blt q m) (ps q) (c3 (ptXY F (F.hs (ix F.W y x).toNat) x y))), .any⟩) none) none := by kernel_rfl
theorem inner_end (F : Fd) (y x : Int) (m : Nat) (ps : Nat → List AV) : evC Tryz.prog [] [] noL (loopAt Tryz.f102 1) (innerS F y x m ps) (finX keepI [some 0, some 1]) =
      cond (decide (x < F.W)) (cond (((decide (0 ≤ ix F.W y x) && decide (ix F.W y x < (F.n : Int))) || false) && ((((m == m) && Nat.ble ((m + 1) * 24) 140737488355328) || false) && true)) none none)
        (some ⟨.exit 2, innerS F y x m ps, .any⟩) := by kernel_rfl
/-- A field whose numbers say how many points there are. -/
structure Dim (F : Fd) (w h : Nat) : Prop where
  W : F.W = (w : Int)
  H : F.H = (h : Int)
  n : F.n = w * h
  w1 : 2 ≤ w
  h1 : 2 ≤ h
  w8 : w ≤ 8
  h8 : h ≤ 8
theorem Dim.le {F : Fd} {w h : Nat} (d : Dim F w h) : w * h ≤ 64 := Nat.mul_le_mul d.w8 d.h8
theorem Dim.row {F : Fd} {w h y : Nat} (_ : Dim F w h) (hy : y < h) : y * w + w ≤ w * h := by
  have : (y + 1) * w ≤ h * w := Nat.mul_le_mul_right _ hy
  rw [Nat.add_mul, Nat.mul_comm h w] at this
  omega
theorem Dim.ix {F : Fd} {w h y x : Nat} (d : Dim F w h) (hy : y < h) (hx : x < w) : ix F.W (y : Nat) (x : Nat) = ((y * w + x : Nat) : Int) := by
  have h1 := d.row hy
  have h2 := d.le
  unfold Go.Proofs.YtngjiggplabfkaaGreat.Hs.Fm.ix
  rw [d.W]
  have hp : ((y : Int) * (w : Int)) = ((y * w : Nat) : Int) := by simp
  rw [hp, w64_id (n := ((y * w : Nat) : Int)) (by omega) (by omega), w64_id (by omega) (by omega)]
  omega
theorem pt_at {F : Fd} {w h y x : Nat} (d : Dim F w h) (hx : x < w) : pt F (y * w + x) = ptXY F (F.hs (y * w + x)) (x : Nat) (y : Nat) := by
  have hm : (y * w + x) % w = x := by rw [Nat.mul_comm, Nat.mul_add_mod]; exact Nat.mod_eq_of_lt hx
  have hd : (y * w + x) / w = y := by
    rw [Nat.mul_comm, Nat.mul_add_div (by omega), Nat.div_eq_of_lt hx]; omega
  unfold pt
  rw [d.W, Int.toNat_natCast, hm, hd]
theorem not_blt {q m : Nat} (h : Nat.blt q m = false) : m ≤ q := Nat.le_of_not_lt fun hc => by
  have : Nat.blt q m = true := Nat.ble_eq_true_of_le hc
  rw [this] at h; cases h
theorem inner_leads {F : Fd} {w h y : Nat} (d : Dim F w h) (hy : y < h) :
    Leads Tryz.prog (.loop (loopAt Tryz.f102 1)) (innerS F (y : Nat) 0 (y * w) (pts F)) (.exit 2) (innerS F (y : Nat) (w : Nat) (y * w + w) (pts F)) := by
  have hle := d.le
  have hyW := d.row hy
  refine loop_rule (fun j => innerS F (y : Nat) (j : Nat) (y * w + j) (pts F)) w (.exit 2) _ (by simp) (fun j hj => ?_) ?_
  · have hix := d.ix hy hj
    refine Leads.sub (leads_ev (finN_sub keepI [some 0, some 3]) e_nil k_nil noL_ok (s' := innerS F (y : Nat) (w64 ((j : Int) + 1)) (y * w + j + 1) (fun q => mixL (Nat.blt q (y * w + j)) (pts F q) (c3 (ptXY F (F.hs (ix F.W (y : Nat) (j : Nat)).toNat) (j : Nat) (y : Nat))))) ?_) (Sub.refl _) ?_
    · rw [inner_step]
      have c1 : decide (((j : Nat) : Int) < F.W) = true := by rw [d.W]; exact dec_lt hj
      have c2 : decide (0 ≤ ix F.W (y : Nat) (j : Nat)) = true := by rw [hix]; exact dec_nonneg _
      have c3 : decide (ix F.W (y : Nat) (j : Nat) < (F.n : Int)) = true := by rw [hix, d.n]; exact dec_lt (by omega)
      have c4 : Nat.ble ((y * w + j + 1) * 24) 140737488355328 = true := Nat.ble_eq_true_of_le (by omega)
      rw [c1, c2, c3, c4]
      simp only [cond_true, Bool.and_self, Bool.or_false, BEq.rfl]
    · rw [w64_next (by omega), hix, Int.toNat_natCast]
      refine sub_same ⟨Or.inl rfl, Or.inr ⟨30, 3, y * w + j + 1, _, _, rfl, rfl, fun q hq => ?_⟩, trivial⟩
      cases hlt : Nat.blt q (y * w + j)
      · have hq2 : q = y * w + j := by have := not_blt hlt; omega
        subst hq2
        unfold pts
        rw [pt_at d hj]
        unfold c3
        simp only [mixL, mixA, cond_false]
      · unfold pts c3
        simp only [mixL, mixA, cond_true]
  · refine leads_ev (finX_sub keepI [some 0, some 1]) e_nil k_nil noL_ok ?_
    rw [inner_end]
    have c1 : decide (((w : Nat) : Int) < F.W) = false := by rw [d.W]; exact dec_self w
    rw [c1]
    rfl
def outerS (F : Fd) (y : Int) (m : Nat) (ps : Nat → List AV) : St := mkS 63 [(1, .own 0 0), (3, .osl 1 3 0 m), (13, iA F.H), (14, iA y)] [.c F.c, .a 30 3 m ps]
def keepO : List Nat := [1, 3, 13, 14]
noncomputable def innerL (F : Fd) (w y : Nat) : Nat → Option LFun := oneL 6 (toldF keepI [some 0, some 1] (innerS F (y : Nat) 0 (y * w) (pts F)) (.exit 2) (innerS F (y : Nat) (w : Nat) (y * w + w) (pts F)))
end Go.Proofs.YtngjiggplabfkaaGreat.Hs.Fm

namespace Go.Proofs.YtngjiggplabfkaaGreat.Hs.Fm
open Go.Gv
open Go.Ev (cn fadd fsub fmul fdiv feq flt fle fgt fge)

theorem innerL_ok {F : Fd} {w h y : Nat} (d : Dim F w h) (hy : y < h) : LOk Tryz.prog (innerL F w y) (loopAt Tryz.f102 0) :=
  lok_one (i := 6) 1 (by kernel_rfl) fun j hj _ => by
    have : j = 0 := by omega
    subst this
    have e : (loopsOf (loopAt Tryz.f102 0)).getD 0 .skip = loopAt Tryz.f102 1 := by kernel_rfl
    rw [e]
    exact toldF_sound (inner_leads d hy)
theorem outer_step (F : Fd) (w y : Nat) : evC Tryz.prog [] [] (innerL F w y) (loopAt Tryz.f102 0) (outerS F (y : Nat) (y * w) (pts F)) (finN keepO [some 0, some 1]) =
    cond (decide (((y : Nat) : Int) < F.H)) (gate (Sub (innerS F (y : Nat) 0 (y * w) (pts F)) (innerS F (y : Nat) 0 (y * w) (pts F))) (some ⟨.normal, outerS F (w64 (((y : Nat) : Int) + 1)) (y * w + w) (pts F), .any⟩)) none := by kernel_rfl
/-- A loop of which nothing is told, since it isn't reached. -/
theorem outer_last (F : Fd) (y m : Nat) : evC Tryz.prog [] [] (oneL 6 fun _ _ => none) (loopAt Tryz.f102 0) (outerS F (y : Nat) m (pts F)) (finX keepO [some 0, some 1]) =
    cond (decide (((y : Nat) : Int) < F.H)) none (some ⟨.exit 0, outerS F (y : Nat) m (pts F), .any⟩) := by kernel_rfl
theorem lok_none {P : Program} {c : Code} (i : Nat) : LOk P (oneL i fun _ _ => none) c := by
  intro c' _ i' g' _ hg
  unfold oneL at hg
  cases hb : Nat.beq i' i
  · rw [hb] at hg; cases hg
  · rw [hb] at hg
    cases hg
    exact ⟨fun _ _ _ hr => (by cases hr), fun _ _ _ hk => (by have := hk (fun e s => some ⟨e, s, .any⟩); cases this)⟩
theorem outer_leads {F : Fd} {w h : Nat} (d : Dim F w h) : Leads Tryz.prog (.loop (loopAt Tryz.f102 0)) (outerS F 0 (0 * w) (pts F)) (.exit 0) (outerS F (h : Nat) (h * w) (pts F)) := by
  have h8 := d.h8
  refine loop_rule (fun y => outerS F (y : Nat) (y * w) (pts F)) h (.exit 0) _ (by simp) (fun y hy => ?_) ?_
  · refine leads_ev (finN_sub keepO [some 0, some 1]) e_nil k_nil (innerL_ok d hy) ?_
    have c1 : decide (((y : Nat) : Int) < F.H) = true := by rw [d.H]; exact dec_lt hy
    rw [outer_step, c1, gate_pos (Sub.refl _), w64_next (by omega), Nat.succ_mul]
    rfl
  · refine leads_ev (finX_sub keepO [some 0, some 1]) e_nil k_nil (lok_none 6) ?_
    have c1 : decide (((h : Nat) : Int) < F.H) = false := by rw [d.H]; exact dec_self h
    rw [outer_last, c1]
    rfl
noncomputable def pointsL (F : Fd) (w h : Nat) : Nat → Option LFun := oneL 3 (toldF keepO [some 0, some 1] (outerS F 0 (0 * w) (pts F)) (.exit 0) (outerS F (h : Nat) (h * w) (pts F)))
theorem pointsL_ok {F : Fd} {w h : Nat} (d : Dim F w h) : LOk Tryz.prog (pointsL F w h) (bodyOf Tryz.f102) :=
  lok_one (i := 3) 2 (by kernel_rfl) fun j hj hid => by
    have : j = 0 ∨ j = 1 := by omega
    rcases this with rfl | rfl
    · exact toldF_sound (outer_leads d)
    · have e : firstId ((loopsOf (bodyOf Tryz.f102)).getD 1 .skip) = some 6 := by kernel_rfl
      rw [e] at hid
      cases hid
def rows0 (F : Fd) : St := mkS 63 [(1, .own 0 0), (3, .osl 1 3 0 0), (13, iA F.H), (14, iA 0)] [.c F.c, .a 30 3 0 fun _ => [.f 0, .f 0, .f 0]]
theorem points_ev (F : Fd) (w h : Nat) : ev Tryz.prog [] [] (pointsL F w h) Tryz.f102 [.agg F.c] ret =
    cond ((decide (0 ≤ w64 (F.W * F.H)) && decide (((24 : Nat) : Int) * w64 (F.W * F.H) ≤ 281474976710656)) && true)
      (gate (Sub (rows0 F) (outerS F 0 (0 * w) (pts F))) (some (Out.of (.sl 3 (h * w) fun i => c3 (pt F (0 + i)))))) none := by kernel_rfl
theorem Dim.prod {F : Fd} {w h : Nat} (d : Dim F w h) : w64 (F.W * F.H) = ((w * h : Nat) : Int) := by
  have := d.le
  rw [d.W, d.H, ← Int.natCast_mul]
  exact w64_id (by omega) (by omega)
theorem points_spec {F : Fd} {w h : Nat} (d : Dim F w h) : FSpec Tryz.prog 102 [.agg F.c] (.sl 3 (w * h) fun q => c3 (pt F q)) := by
  refine gspec e_nil k_nil Tryz.func102 (by kernel_rfl) (by kernel_rfl) (pointsL_ok d) rfl ?_
  have hle := d.le
  have hs : Sub (rows0 F) (outerS F 0 (0 * w) (pts F)) := by
    rw [Nat.zero_mul]
    exact sub_same ⟨Or.inl rfl, Or.inr ⟨30, 3, 0, _, _, rfl, rfl, fun q hq => by omega⟩, trivial⟩
  have c2 : decide (((24 : Nat) : Int) * ((w * h : Nat) : Int) ≤ 281474976710656) = true := decide_eq_true (by omega)
  have e : (fun i => c3 (pt F (0 + i))) = fun q => c3 (pt F q) := funext fun i => by rw [Nat.zero_add]
  rw [points_ev, d.prod, dec_nonneg, c2, gate_pos hs, e, Nat.mul_comm h w]
  rfl

def gridZ : List AV := [iA 0, iA 0, iA 0, .x (.slice none 0 0), .f 0, .f 0, .f 0, .f 0, .f 0, .f 0]
def gridC (F : Fd) (n : Nat) (b : Nat → Nat) : List AV := [iA F.W, iA F.H, iA F.sk, .sl 3 n (fun q => c3 (pt F q)), .f (b 0), .f (b 1), .f (b 2), .f (b 3), .f (b 4), .f (b 5)]
theorem known_ev1 (F : Fd) (e : Int) : ev Tryz.prog V4 [kfix 101 [.agg F.c] (iA e)] noL Tryz.f86 [.agg F.c] ret =
    gate ([AV.agg F.c] = [AV.agg F.c]) (cond (!(e == 0)) (some (Out.of (.tup [.agg gridZ, iA e]))) none) := by kernel_rfl
theorem known_ev2 (F : Fd) (n : Nat) (b : Nat → Nat) : ev Tryz.prog V4 [kfix 101 [.agg F.c] (iA 0), kfix 102 [.agg F.c] (.sl 3 n fun q => c3 (pt F q)), kfix 103 [.sl 3 n fun q => c3 (pt F q)] (.agg (c6 b))] noL Tryz.f86 [.agg F.c] ret =
    gate ([AV.agg F.c] = [AV.agg F.c]) (gate ([AV.agg F.c] = [AV.agg F.c]) (gate ([AV.sl 3 n fun q => c3 (pt F q)] = [AV.sl 3 n fun q => c3 (pt F q)]) (cond (!(mayS b == 0)) (some (Out.of (.tup [.agg gridZ, iA 1]))) (some (Out.of (.tup [.agg (gridC F n b), iA 0])))))) := by kernel_rfl
theorem known_bad {F : Fd} (hn : F.n < 4611686018427387904) (he : F.mayN ≠ 0) : FSpec Tryz.prog 86 [.agg F.c] (.tup [.agg gridZ, iA F.mayN]) := by
  refine gspec V4_ok (k_cons (kfix_ok (may_spec F hn)) k_nil) Tryz.func86 (by kernel_rfl) (by kernel_rfl) noL_ok rfl ?_
  rw [known_ev1, gate_pos rfl, beq_false_of_ne he]
  rfl
/-- The box around all points. -/
def bx (F : Fd) : Nat → Nat := boxQ (pt F) F.n
theorem known_ok {F : Fd} {w h : Nat} (d : Dim F w h) (he : F.mayN = 0) : FSpec Tryz.prog 86 [.agg F.c] (.tup (cond (mayS (bx F) == 0) [.agg (gridC F F.n (bx F)), iA 0] [.agg gridZ, iA 1])) := by
  have hle := d.le
  have hpos : 4 ≤ w * h := Nat.mul_le_mul d.w1 d.h1
  have hn := d.n
  have s1 := may_spec F (by omega)
  rw [he] at s1
  have s2 := points_spec d
  have s3 := around_spec (n := w * h) (pt F) (by omega) (by omega)
  refine gspec V4_ok (k_cons (kfix_ok s1) (k_cons (kfix_ok s2) (k_cons (kfix_ok s3) k_nil))) Tryz.func86 (by kernel_rfl) (by kernel_rfl) noL_ok rfl ?_
  rw [known_ev2, gate_pos rfl, gate_pos rfl, gate_pos rfl]
  unfold bx
  rw [hn]
  cases mayS (boxQ (pt F) (w * h)) == 0 <;> rfl
end Go.Proofs.YtngjiggplabfkaaGreat.Hs.Fm

namespace Go.Proofs.YtngjiggplabfkaaGreat.Hs.Fm
open Go.Gv
open Go.Ev (cn fadd fsub fmul fdiv feq flt fle fgt fge)

def inR (k : Int) (n : Nat) : Bool := decide (0 ≤ k) && decide (k < (n : Int))
theorem inR_nat {k n : Nat} (h : k < n) : inR (k : Nat) n = true := by unfold inR; rw [dec_nonneg, dec_lt h]; rfl

noncomputable def GK (P : Program) (g : Func) : List KEntry := [inl P R3 [] (fun _ => noL) 94 g]
theorem GK_ok : ∀ e, e ∈ GK Tryz.prog Tryz.f94 → KOk Tryz.prog e := k_cons (inl_ok R3_ok k_nil (by kernel_rfl) Tryz.func94 (by kernel_rfl) (by kernel_rfl) (c := bodyOf Tryz.f94) fun _ => noL_ok) k_nil
def fbI (F : Fd) (y x : Int) (p b : Nat → Nat) : St := mkS 39 [(1, .own 0 0), (2, .own 1 0), (3, .own 2 0), (4, .own 3 0), (5, iA y), (6, iA x)] [.c F.c, .c z6, .c (c3 p), .c (c6 b)]
def fbO (F : Fd) (y : Int) (p b : Nat → Nat) : St := mkS 39 [(1, .own 0 0), (2, .own 1 0), (3, .own 2 0), (4, .own 3 0), (5, iA y)] [.c F.c, .c z6, .c (c3 p), .c (c6 b)]
def keepB : List Nat := [1, 2, 3, 4, 5, 6]
def keepC : List Nat := [1, 2, 3, 4, 5]
def rmS (F : Fd) (e q : Int) : St := mkS 83 [(1, .own 0 0), (2, iA e), (5, iA q)] [.c F.c]
def keepR2 : List Nat := [1, 2, 5]

theorem fbI_step (F : Fd) (y x : Int) (p b : Nat → Nat) : evC Tryz.prog R3 (GK Tryz.prog Tryz.f94) noL (loopAt Tryz.f76 1) (fbI F y x p b) (finN keepB [some 0, some 1, some 2, some 3]) =
    cond (decide (x < F.W)) (cond ((inR (ix F.W y x) F.n || false) && true) (some ⟨.normal, fbI F y (w64 (x + 1)) (ptXY F (F.hs (ix F.W y x).toNat) x y) (joinS b (pp (ptXY F (F.hs (ix F.W y x).toNat) x y))), .any⟩) none) none := by kernel_rfl
theorem fbI_end (F : Fd) (y x : Int) (p b : Nat → Nat) : evC Tryz.prog R3 (GK Tryz.prog Tryz.f94) noL (loopAt Tryz.f76 1) (fbI F y x p b) (finX keepB [some 0, some 1, some 2, some 3]) =
    cond (decide (x < F.W)) (cond ((inR (ix F.W y x) F.n || false) && true) none none) (some ⟨.exit 2, fbI F y x p b, .any⟩) := by kernel_rfl
def lastP (p : Nat → Nat → Nat) : Nat → Nat → Nat
  | 0 => p 0
  | q + 1 => p q
theorem fbI_leads {F : Fd} {w h y : Nat} (d : Dim F w h) (hy : y < h) : Leads Tryz.prog (.loop (loopAt Tryz.f76 1)) (fbI F (y : Nat) 0 (lastP (pt F) (y * w)) (boxQ (pt F) (y * w))) (.exit 2) (fbI F (y : Nat) (w : Nat) (lastP (pt F) (y * w + w)) (boxQ (pt F) (y * w + w))) := by
  have hle := d.le
  have hyW := d.row hy
  refine loop_rule (fun j => fbI F (y : Nat) (j : Nat) (lastP (pt F) (y * w + j)) (boxQ (pt F) (y * w + j))) w (.exit 2) _ (by simp) (fun j hj => ?_) ?_
  · refine leads_ev (finN_sub keepB [some 0, some 1, some 2, some 3]) R3_ok GK_ok noL_ok ?_
    have c1 : decide (((j : Nat) : Int) < F.W) = true := by rw [d.W]; exact dec_lt hj
    rw [fbI_step, c1, d.ix hy hj, inR_nat (by rw [d.n]; omega), w64_next (by omega), Int.toNat_natCast, ← pt_at d hj]
    rfl
  · refine leads_ev (finX_sub keepB [some 0, some 1, some 2, some 3]) R3_ok GK_ok noL_ok ?_
    have c1 : decide (((w : Nat) : Int) < F.W) = false := by rw [d.W]; exact dec_self w
    rw [fbI_end, c1]
    rfl
noncomputable def fbIL (F : Fd) (w y : Nat) : Nat → Option LFun := oneL 7 (toldF keepB [some 0, some 1, some 2, some 3] (fbI F (y : Nat) 0 (lastP (pt F) (y * w)) (boxQ (pt F) (y * w))) (.exit 2) (fbI F (y : Nat) (w : Nat) (lastP (pt F) (y * w + w)) (boxQ (pt F) (y * w + w))))
theorem fbIL_ok {F : Fd} {w h y : Nat} (d : Dim F w h) (hy : y < h) : LOk Tryz.prog (fbIL F w y) (loopAt Tryz.f76 0) :=
  lok_one (i := 7) 1 (by kernel_rfl) fun j hj _ => by
    have : j = 0 := by omega
    subst this
    have e : (loopsOf (loopAt Tryz.f76 0)).getD 0 .skip = loopAt Tryz.f76 1 := by kernel_rfl
    rw [e]
    exact toldF_sound (fbI_leads d hy)
theorem fbO_step (F : Fd) (w y : Nat) : evC Tryz.prog R3 (GK Tryz.prog Tryz.f94) (fbIL F w y) (loopAt Tryz.f76 0) (fbO F (y : Nat) (lastP (pt F) (y * w)) (boxQ (pt F) (y * w))) (finN keepC [some 0, some 1, some 2, some 3]) =
    cond (decide (((y : Nat) : Int) < F.H)) (gate (Sub (fbI F (y : Nat) 0 (lastP (pt F) (y * w)) (boxQ (pt F) (y * w))) (fbI F (y : Nat) 0 (lastP (pt F) (y * w)) (boxQ (pt F) (y * w)))) (some ⟨.normal, fbO F (w64 (((y : Nat) : Int) + 1)) (lastP (pt F) (y * w + w)) (boxQ (pt F) (y * w + w)), .any⟩)) none := by kernel_rfl
theorem fbO_last (F : Fd) (y : Int) (p b : Nat → Nat) : evC Tryz.prog R3 (GK Tryz.prog Tryz.f94) (oneL 7 fun _ _ => none) (loopAt Tryz.f76 0) (fbO F y p b) (finX keepC [some 0, some 1, some 2, some 3]) =
    cond (decide (y < F.H)) none (some ⟨.exit 0, fbO F y p b, .any⟩) := by kernel_rfl
theorem fbO_leads {F : Fd} {w h : Nat} (d : Dim F w h) : Leads Tryz.prog (.loop (loopAt Tryz.f76 0)) (fbO F 0 (lastP (pt F) (0 * w)) (boxQ (pt F) (0 * w))) (.exit 0) (fbO F (h : Nat) (lastP (pt F) (h * w)) (boxQ (pt F) (h * w))) := by
  have h8 := d.h8
  refine loop_rule (fun y => fbO F (y : Nat) (lastP (pt F) (y * w)) (boxQ (pt F) (y * w))) h (.exit 0) _ (by simp) (fun y hy => ?_) ?_
  · refine leads_ev (finN_sub keepC [some 0, some 1, some 2, some 3]) R3_ok GK_ok (fbIL_ok d hy) ?_
    have c1 : decide (((y : Nat) : Int) < F.H) = true := by rw [d.H]; exact dec_lt hy
    rw [fbO_step, c1, gate_pos (Sub.refl _), w64_next (by omega), Nat.succ_mul y w]
    rfl
  · refine leads_ev (finX_sub keepC [some 0, some 1, some 2, some 3]) R3_ok GK_ok (lok_none 7) ?_
    have c1 : decide (((h : Nat) : Int) < F.H) = false := by rw [d.H]; exact dec_self h
    rw [fbO_last, c1]
    rfl
noncomputable def fbL (F : Fd) (w h : Nat) : Nat → Option LFun := oneL 4 (toldF keepC [some 0, some 1, some 2, some 3] (fbO F 0 (lastP (pt F) (0 * w)) (boxQ (pt F) (0 * w))) (.exit 0) (fbO F (h : Nat) (lastP (pt F) (h * w)) (boxQ (pt F) (h * w))))
theorem fbL_ok {F : Fd} {w h : Nat} (d : Dim F w h) : LOk Tryz.prog (fbL F w h) (bodyOf Tryz.f76) :=
  lok_one (i := 4) 2 (by kernel_rfl) fun j hj hid => by
    have : j = 0 ∨ j = 1 := by omega
    rcases this with rfl | rfl
    · exact toldF_sound (fbO_leads d)
    · have e : firstId ((loopsOf (bodyOf Tryz.f76)).getD 1 .skip) = some 7 := by kernel_rfl
      rw [e] at hid
      cases hid
theorem fb_ev (F : Fd) (w h : Nat) : ev Tryz.prog R3 (GK Tryz.prog Tryz.f94) (fbL F w h) Tryz.f76 [.agg F.c] ret =
    cond ((inR (ix F.W 0 0) F.n || false) && true) (gate (Sub (fbO F 0 (ptXY F (F.hs (ix F.W 0 0).toNat) 0 0) (pp (ptXY F (F.hs (ix F.W 0 0).toNat) 0 0))) (fbO F 0 (lastP (pt F) (0 * w)) (boxQ (pt F) (0 * w)))) (some (Out.of (.agg (c6 (boxQ (pt F) (h * w))))))) none := by kernel_rfl
theorem fb_spec {F : Fd} {w h : Nat} (d : Dim F w h) : FSpec Tryz.prog 76 [.agg F.c] (.agg (c6 (bx F))) := by
  refine gspec R3_ok GK_ok Tryz.func76 (by kernel_rfl) (by kernel_rfl) (fbL_ok d) rfl ?_
  have hpos : 4 ≤ w * h := Nat.mul_le_mul d.w1 d.h1
  have hn := d.n
  have hw := d.w1
  have hix : ix F.W 0 0 = ((0 * w + 0 : Nat) : Int) := d.ix (y := 0) (x := 0) (by have := d.h1; omega) (by omega)
  have hpt : ptXY F (F.hs (0 * w + 0)) 0 0 = pt F 0 := by
    have := (pt_at (y := 0) (x := 0) d (by omega)).symm
    rw [Nat.zero_mul] at this ⊢
    exact this
  rw [fb_ev, hix, inR_nat (by rw [hn]; omega), Int.toNat_natCast, hpt]
  have hs : Sub (fbO F 0 (pt F 0) (pp (pt F 0))) (fbO F 0 (lastP (pt F) (0 * w)) (boxQ (pt F) (0 * w))) := by
    rw [Nat.zero_mul]
    exact Sub.refl _
  rw [gate_pos hs]
  unfold bx
  rw [hn, Nat.mul_comm h w]
  rfl
end Go.Proofs.YtngjiggplabfkaaGreat.Hs.Fm

namespace Go.Proofs.YtngjiggplabfkaaGreat.Hs.Fm
open Go.Gv
open Go.Ev (cn fadd fsub fmul fdiv feq flt fle fgt fge)

theorem rm_step (F : Fd) (q : Int) : evC Tryz.prog R3 [] noL (loopAt Tryz.f51 0) (rmS F 0 q) (finN keepR2 [some 0]) =
    cond (decide (q < (F.n : Int))) (cond (inR q F.n || false) (cond (inR q F.n || !((decide (F.hs q.toNat < -1000000) == false) && true)) (cond (hBad (F.hs q.toNat)) none (some ⟨.normal, rmS F 0 (w64 (q + 1)), .any⟩)) none) none) none := by kernel_rfl
theorem rm_end (F : Fd) (q : Int) : evC Tryz.prog R3 [] noL (loopAt Tryz.f51 0) (rmS F 0 q) (finX keepR2 [some 0]) =
    cond (decide (q < (F.n : Int))) (cond (inR q F.n || false) (cond (inR q F.n || !((decide (F.hs q.toNat < -1000000) == false) && true)) (cond (hBad (F.hs q.toNat)) (some ⟨.ret, rmS F 6 q, .any⟩) none) none) none) (some ⟨.exit 0, rmS F 0 q, .any⟩) := by kernel_rfl
theorem rm_round {F : Fd} {q : Nat} (hn : F.n < 4611686018427387904) (hq : q < F.n) (hb : hBad (F.hs q) = false) : Leads Tryz.prog (loopAt Tryz.f51 0) (rmS F 0 (q : Nat)) .normal (rmS F 0 ((q + 1 : Nat) : Int)) := by
  refine leads_ev (finN_sub keepR2 [some 0]) R3_ok k_nil noL_ok ?_
  rw [rm_step, dec_lt hq, inR_nat hq, w64_next (by omega)]
  simp only [Int.toNat_natCast, hb, Bool.true_or, cond_true, cond_false]
theorem rm_ok {F : Fd} (hn : F.n < 4611686018427387904) (h : ∀ q, q < F.n → hBad (F.hs q) = false) : Leads Tryz.prog (.loop (loopAt Tryz.f51 0)) (rmS F 0 0) (.exit 0) (rmS F 0 F.n) := by
  refine loop_rule (fun q => rmS F 0 (q : Nat)) F.n (.exit 0) _ (by simp) (fun q hq => rm_round hn hq (h q hq)) ?_
  refine leads_ev (finX_sub keepR2 [some 0]) R3_ok k_nil noL_ok ?_
  rw [rm_end, dec_self]
  rfl
theorem rm_bad {F : Fd} (hn : F.n < 4611686018427387904) {j : Nat} (hj : j < F.n) (hb : hBad (F.hs j) = true) (h : ∀ q, q < j → hBad (F.hs q) = false) : Leads Tryz.prog (.loop (loopAt Tryz.f51 0)) (rmS F 0 0) .ret (rmS F 6 (j : Nat)) := by
  refine loop_rule (fun q => rmS F 0 (q : Nat)) j .ret _ (by simp) (fun q hq => rm_round hn (by omega) (h q hq)) ?_
  refine leads_ev (finX_sub keepR2 [some 0]) R3_ok k_nil noL_ok ?_
  rw [rm_end, dec_lt hj, inR_nat hj]
  simp only [Int.toNat_natCast, hb, Bool.true_or, cond_true]
noncomputable def rmL (F : Fd) (ex : Exit) (sf : St) : Nat → Option LFun := oneL 14 (toldF keepR2 [some 0] (rmS F 0 0) ex sf)
theorem rmL_lok {F : Fd} {ex : Exit} {sf : St} (h : Leads Tryz.prog (.loop (loopAt Tryz.f51 0)) (rmS F 0 0) ex sf) : LOk Tryz.prog (rmL F ex sf) (bodyOf Tryz.f51) :=
  lok_one (i := 14) 1 (by kernel_rfl) fun j hj _ => by
    have : j = 0 := by omega
    subst this
    exact toldF_sound h
def Fd.firstR (F : Fd) (X : Option Out) : Option Out := cond F.dims (some (Out.of (iA 4))) (cond (!((F.n : Int) == w64 (F.W * F.H))) (some (Out.of (iA 5))) (cond (skB F.sk) (some (Out.of (iA 4))) (cond F.far (some (Out.of (iA 1))) (cond (fle F.sd 0) (some (Out.of (iA 6))) X))))
theorem rm_ev0 (F : Fd) : ev Tryz.prog R3 [] (rmL F (.exit 0) (rmS F 0 F.n)) Tryz.f51 [.agg F.c] ret = F.firstR (gate (Sub (rmS F 0 0) (rmS F 0 0)) none) := by kernel_rfl
theorem rm_ev1 (F : Fd) (j : Int) : ev Tryz.prog R3 [] (rmL F .ret (rmS F 6 j)) Tryz.f51 [.agg F.c] ret = F.firstR (gate (Sub (rmS F 0 0) (rmS F 0 0)) (some (Out.of (iA 6)))) := by kernel_rfl
theorem rm_ev2 (F : Fd) (b : Nat → Nat) : ev Tryz.prog R3 [kfix 76 [.agg F.c] (.agg (c6 b))] (rmL F (.exit 0) (rmS F 0 F.n)) Tryz.f51 [.agg F.c] ret =
    F.firstR (gate (Sub (rmS F 0 0) (rmS F 0 0)) (gate ([AV.agg F.c] = [AV.agg F.c]) (cond (!(mayS b == 0)) (some (Out.of (iA 1))) (some (Out.of (iA 0)))))) := by kernel_rfl
theorem firstR_eq (F : Fd) (X : Option Out) : F.firstR X = F.first X := by
  unfold Fd.firstR Fd.first
  cases hf : F.far
  · have hn : nearS F.sd = true := by
      unfold Fd.far at hf
      revert hf
      cases fineS (F.at_ 0) (F.at_ 1) (F.at_ 2) <;> cases nearS F.sd <;> intro hf <;> first | rfl | (cases hf)
    rw [not_gt hn]
  · rfl
theorem rmay_bad {F : Fd} (hn : F.n < 4611686018427387904) (he : F.mayN ≠ 0) : FSpec Tryz.prog 51 [.agg F.c] (iA F.mayN) := by
  have fin : ∀ (X : Option Out), (F.okAll = true ∨ X = some (Out.of (iA 6)) ∧ F.okAll = false) → F.first X = some (Out.of (iA F.mayN)) := fun X hX => by
    revert he
    unfold Fd.first Fd.mayN
    cases F.dims <;> simp only [cond_true, cond_false]
    · cases (!((F.n : Int) == w64 (F.W * F.H))) <;> simp only [cond_true, cond_false]
      · cases skB F.sk <;> simp only [cond_true, cond_false]
        · cases F.far <;> simp only [cond_true, cond_false]
          · cases (!fgt F.sd 0) <;> simp only [cond_true, cond_false]
            · rcases hX with h1 | ⟨h1, h2⟩
              · rw [h1]; intro he; exact absurd rfl he
              · rw [h1, h2]; intro _; rfl
            · intro _; trivial
          · intro _; trivial
        · intro _; trivial
      · intro _; trivial
    · intro _; trivial
  rcases first_bad F.hs F.n with h | ⟨j, h1, h2, h3⟩
  · refine gspec R3_ok k_nil Tryz.func51 (by kernel_rfl) (by kernel_rfl) (rmL_lok (rm_ok hn h)) rfl ?_
    rw [rm_ev0, gate_pos (Sub.refl _), firstR_eq]
    refine fin _ (Or.inl ?_)
    unfold Fd.okAll
    rw [List.all_eq_true.2]
    intro q hq
    rw [h q (List.mem_range.1 hq)]
    rfl
  · refine gspec R3_ok k_nil Tryz.func51 (by kernel_rfl) (by kernel_rfl) (rmL_lok (rm_bad hn h1 h2 h3)) rfl ?_
    rw [rm_ev1, gate_pos (Sub.refl _), firstR_eq]
    refine fin _ (Or.inr ⟨rfl, ?_⟩)
    unfold Fd.okAll
    rw [List.all_eq_false.2 ⟨j, List.mem_range.2 h1, by rw [h2]; simp⟩]
theorem rmay_good {F : Fd} {w h : Nat} (d : Dim F w h) (he : F.mayN = 0) : FSpec Tryz.prog 51 [.agg F.c] (iA (cond (mayS (bx F) == 0) 0 1)) := by
  have hle := d.le
  have hn := d.n
  rcases first_bad F.hs F.n with h | ⟨j, h1, h2, h3⟩
  · refine gspec R3_ok (k_cons (kfix_ok (fb_spec d)) k_nil) Tryz.func51 (by kernel_rfl) (by kernel_rfl) (rmL_lok (rm_ok (by omega) h)) rfl ?_
    rw [rm_ev2, gate_pos (Sub.refl _), gate_pos rfl, firstR_eq]
    revert he
    unfold Fd.first Fd.mayN
    cases F.dims <;> simp only [cond_true, cond_false]
    · cases (!((F.n : Int) == w64 (F.W * F.H))) <;> simp only [cond_true, cond_false]
      · cases skB F.sk <;> simp only [cond_true, cond_false]
        · cases F.far <;> simp only [cond_true, cond_false]
          · cases (!fgt F.sd 0) <;> simp only [cond_true, cond_false]
            · intro _; cases mayS (bx F) == 0 <;> rfl
            · intro he; cases he
          · intro he; cases he
        · intro he; cases he
      · intro he; cases he
    · intro he; cases he
  · exfalso
    have hk : F.okAll = false := by
      unfold Fd.okAll
      rw [List.all_eq_false.2 ⟨j, List.mem_range.2 h1, by rw [h2]; simp⟩]
    revert he
    unfold Fd.mayN
    rw [hk]
    cases F.dims <;> cases (!((F.n : Int) == w64 (F.W * F.H))) <;> cases skB F.sk <;> cases F.far <;> cases (!fgt F.sd 0) <;> intro he <;> cases he
theorem fm_ev1 (F : Fd) (e : Int) : ev Tryz.prog [] [kfix 86 [.agg F.c] (.tup [.agg gridZ, iA e])] noL Tryz.f64 [.agg F.c] ret = gate ([AV.agg F.c] = [AV.agg F.c]) (some (Out.of (iA e))) := by kernel_rfl
theorem fm_ev2 (F : Fd) (n : Nat) (b : Nat → Nat) : ev Tryz.prog [] [kfix 86 [.agg F.c] (.tup [.agg (gridC F n b), iA 0])] noL Tryz.f64 [.agg F.c] ret = gate ([AV.agg F.c] = [AV.agg F.c]) (some (Out.of (iA 0))) := by kernel_rfl
theorem fm_bad {F : Fd} {e : Int} (h : FSpec Tryz.prog 86 [.agg F.c] (.tup [.agg gridZ, iA e])) : FSpec Tryz.prog 64 [.agg F.c] (iA e) :=
  gspec e_nil (k_cons (kfix_ok h) k_nil) Tryz.func64 (by kernel_rfl) (by kernel_rfl) noL_ok rfl ((fm_ev1 F e).trans (gate_pos rfl))
theorem fm_good {F : Fd} {n : Nat} {b : Nat → Nat} (h : FSpec Tryz.prog 86 [.agg F.c] (.tup [.agg (gridC F n b), iA 0])) : FSpec Tryz.prog 64 [.agg F.c] (iA 0) :=
  gspec e_nil (k_cons (kfix_ok h) k_nil) Tryz.func64 (by kernel_rfl) (by kernel_rfl) noL_ok rfl ((fm_ev2 F n b).trans (gate_pos rfl))
/-- Numbers that may be: the sides, and how many points there are. -/
theorem mayN_dim {F : Fd} (h : F.mayN = 0) : (∃ w h, Dim F w h) ∧ F.far = false := by
  unfold Fd.mayN at h
  cases hd : F.dims
  · rw [hd, cond_false] at h
    cases hn : ((F.n : Int) == w64 (F.W * F.H))
    · rw [hn] at h; exact absurd (show (5 : Int) = 0 from h) (by decide)
    · rw [hn] at h
      have h : cond (skB F.sk) 4 (cond F.far 1 (cond (!fgt F.sd 0) 6 (cond F.okAll 0 6))) = (0 : Int) := h
      cases hk : skB F.sk
      · rw [hk, cond_false] at h
        cases hf : F.far
        · refine ⟨?_, rfl⟩
          unfold Fd.dims at hd
          have d1 : ¬ F.W < 2 := fun c => by rw [decide_eq_true c] at hd; cases hd
          rw [decide_eq_false d1, cond_false] at hd
          have d2 : ¬ F.W > 8 := fun c => by rw [decide_eq_true c] at hd; cases hd
          rw [decide_eq_false d2, cond_false] at hd
          have d3 : ¬ F.H < 2 := fun c => by rw [decide_eq_true c] at hd; cases hd
          rw [decide_eq_false d3, cond_false] at hd
          have d4 : ¬ F.H > 8 := fun c => by rw [decide_eq_true c] at hd; cases hd
          have eW : F.W = ((F.W.toNat : Nat) : Int) := by omega
          have eH : F.H = ((F.H.toNat : Nat) : Int) := by omega
          have hle : F.W.toNat * F.H.toNat ≤ 8 * 8 := Nat.mul_le_mul (by omega) (by omega)
          have e : F.W * F.H = ((F.W.toNat * F.H.toNat : Nat) : Int) := by rw [Int.natCast_mul, ← eW, ← eH]
          have hn := eq_of_beq hn
          rw [e, w64_id (by omega) (by omega)] at hn
          exact ⟨F.W.toNat, F.H.toNat, eW, eH, by omega, by omega, by omega, by omega, by omega⟩
        · rw [hf] at h; exact absurd (show (1 : Int) = 0 from h) (by decide)
      · rw [hk] at h; exact absurd (show (4 : Int) = 0 from h) (by decide)
  · rw [hd] at h; exact absurd (show (4 : Int) = 0 from h) (by decide)
theorem may_ev_no (F : Fd) : ev Tryz.prog V4 [] (oneL 12 fun _ _ => none) Tryz.f101 [.agg F.c] ret = F.first none := by kernel_rfl
theorem rm_ev_no (F : Fd) : ev Tryz.prog R3 [] (oneL 14 fun _ _ => none) Tryz.f51 [.agg F.c] ret = F.firstR none := by kernel_rfl
theorem first_no {F : Fd} (hn : ¬ F.n < 4611686018427387904) (X : Option Out) : F.first X = some (Out.of (iA F.mayN)) ∧ F.mayN ≠ 0 := by
  cases hd : F.dims
  · cases he : ((F.n : Int) == w64 (F.W * F.H))
    · unfold Fd.first Fd.mayN
      rw [hd, he]
      exact ⟨rfl, show (5 : Int) ≠ 0 by decide⟩
    · exfalso
      unfold Fd.dims at hd
      have d1 : ¬ F.W < 2 := fun c => by rw [decide_eq_true c] at hd; cases hd
      rw [decide_eq_false d1, cond_false] at hd
      have d2 : ¬ F.W > 8 := fun c => by rw [decide_eq_true c] at hd; cases hd
      rw [decide_eq_false d2, cond_false] at hd
      have d3 : ¬ F.H < 2 := fun c => by rw [decide_eq_true c] at hd; cases hd
      rw [decide_eq_false d3, cond_false] at hd
      have d4 : ¬ F.H > 8 := fun c => by rw [decide_eq_true c] at hd; cases hd
      have hle : F.W.toNat * F.H.toNat ≤ 8 * 8 := Nat.mul_le_mul (by omega) (by omega)
      have eW : F.W = ((F.W.toNat : Nat) : Int) := by omega
      have eH : F.H = ((F.H.toNat : Nat) : Int) := by omega
      have e : F.W * F.H = ((F.W.toNat * F.H.toNat : Nat) : Int) := by rw [Int.natCast_mul, ← eW, ← eH]
      have he := eq_of_beq he
      rw [e, w64_id (by omega) (by omega)] at he
      omega
  · unfold Fd.first Fd.mayN
    rw [hd]
    exact ⟨rfl, show (4 : Int) ≠ 0 by decide⟩
/-- A field may be, or not: the same for both. -/
theorem field_all (F : Fd) : ∃ m, FSpec Tryz.prog 64 [.agg F.c] (iA m) ∧ FSpec Tryz.prog 51 [.agg F.c] (iA m) ∧ (m = 0 → F.far = false ∧ F.n ≤ 64) := by
  by_cases hn : F.n < 4611686018427387904
  · by_cases he : F.mayN = 0
    · obtain ⟨⟨w, h, d⟩, hf⟩ := mayN_dim he
      have k := known_ok d he
      have g := rmay_good d he
      have hl := d.le
      cases hb : mayS (bx F) == 0
      · rw [hb] at k g; exact ⟨1, fm_bad k, g, fun h => absurd h (by decide)⟩
      · rw [hb] at k g; exact ⟨0, fm_good k, g, fun _ => ⟨hf, by rw [d.n]; exact hl⟩⟩
    · exact ⟨_, fm_bad (known_bad hn he), rmay_bad hn he, fun h => absurd h he⟩
  · have f := first_no hn none
    have s1 : FSpec Tryz.prog 101 [.agg F.c] (iA F.mayN) := gspec V4_ok k_nil Tryz.func101 (by kernel_rfl) (by kernel_rfl) (lok_none 12) rfl ((may_ev_no F).trans f.1)
    have s2 : FSpec Tryz.prog 51 [.agg F.c] (iA F.mayN) := gspec R3_ok k_nil Tryz.func51 (by kernel_rfl) (by kernel_rfl) (lok_none 14) rfl ((rm_ev_no F).trans ((firstR_eq F none).trans f.1))
    have s3 : FSpec Tryz.prog 86 [.agg F.c] (.tup [.agg gridZ, iA F.mayN]) := by
      refine gspec V4_ok (k_cons (kfix_ok s1) k_nil) Tryz.func86 (by kernel_rfl) (by kernel_rfl) noL_ok rfl ?_
      rw [known_ev1, gate_pos rfl, beq_false_of_ne f.2]
      rfl
    exact ⟨_, fm_bad s3, s2, fun h => absurd h f.2⟩
end Go.Proofs.YtngjiggplabfkaaGreat.Hs.Fm

namespace Go.Gv
open Go.RowKit

/-- Told either way. -/
def condL (b : Bool) (g h : LFun) : LFun := fun s k => cond b (g s k) (h s k)
theorem condL_sound {P : Program} {c : Code} {b : Bool} {g h : LFun} (hg : b = true → LSound P c g) (hh : b = false → LSound P c h) : LSound P c (condL b g h) := by
  cases b
  · exact hh rfl
  · exact hg rfl
/-- Several loops. -/
def manyL : List (Nat × LFun) → Nat → Option LFun
  | [], _ => none
  | x :: l, j => cond (Nat.beq j x.1) (some x.2) (manyL l j)
theorem lok_nil {P : Program} {c : Code} : LOk P (manyL []) c := fun _ _ _ _ _ h => by cases h
theorem lok_cons {P : Program} {c : Code} {i : Nat} {g : LFun} {l : List (Nat × LFun)} (hg : LOk P (oneL i g) c) (hl : LOk P (manyL l) c) : LOk P (manyL ((i, g) :: l)) c := by
  intro c' hc j f hj hf
  have hf : cond (Nat.beq j i) (some g) (manyL l j) = some f := hf
  cases hb : Nat.beq j i
  · rw [hb, cond_false] at hf
    exact hl c' hc j f hj hf
  · rw [hb, cond_true] at hf
    refine hg c' hc j f hj ?_
    unfold oneL
    rw [hb, cond_true]
    exact hf
end Go.Gv
namespace Go.Proofs.YtngjiggplabfkaaGreat.Hs.Sc
open Go.Gv So

/-- What a loop does that gives up at the first thing that may not be. -/
noncomputable def mayT (keep : List Nat) (τ : List (Option Nat)) (S : Int → St) (ex : Exit) (E : Int → St) (fb : Nat → Int) (n : Nat) : LFun :=
  condL (seqE fb n == 0) (toldF keep τ (S 0) ex (S (n : Nat))) (toldF keep τ (S 0) .ret (E (seqE fb n)))
theorem mayT_sound {P : Program} {c : Code} {keep : List Nat} {τ : List (Option Nat)} {S : Int → St} {ex : Exit} {E : Int → St} {fb : Nat → Int} {n : Nat} (hex : ex ≠ .normal)
    (h1 : ∀ k : Nat, k < n → fb k = 0 → Leads P c (S (k : Nat)) .normal (S ((k + 1 : Nat) : Int))) (h2 : ∀ k : Nat, k < n → fb k ≠ 0 → Leads P c (S (k : Nat)) .ret (E (fb k))) (h3 : Leads P c (S (n : Nat)) ex (S (n : Nat))) :
    LSound P c (mayT keep τ S ex E fb n) := by
  refine condL_sound (fun hb => ?_) fun hb => ?_
  · have h := seq_zero n (eq_of_beq hb)
    exact toldF_sound (loop_rule (fun k => S (k : Nat)) n ex _ hex (fun k hk => h1 k hk (h k hk)) h3)
  · rcases all_or_first (fun i => fb i == 0) n with hl | ⟨K, hK, hp, hq⟩
    · rw [seq_all n fun i hi => by simpa using hl i hi] at hb
      cases hb
    · have hp' : fb K ≠ 0 := by simpa using hp
      have hq' : ∀ i, i < K → fb i = 0 := fun i hi => by simpa using hq i hi
      rw [seq_first hp' hq' n hK]
      exact toldF_sound (loop_rule (fun k => S (k : Nat)) K .ret _ (by simp) (fun k hk => h1 k (by omega) (hq' k hk)) (h2 K hK hp'))
/-- A contract that is asked for: a number of the cells of the first argument. -/
def gO (f : List AV → Int) : List AV → AV
  | [.agg c] => iA (f c)
  | _ => .any
end Go.Proofs.YtngjiggplabfkaaGreat.Hs.Sc

namespace Go.Proofs.YtngjiggplabfkaaGreat.Hs.Sc
open Go.Gv
open Go.Ev (cn fadd fsub fmul fdiv fsqrt fneg feq flt fle fgt fge fabs isNan)

abbrev skC (k : Nat → Int) : List AV := [iA (k 0), iA (k 1), iA (k 2), iA (k 3), iA (k 4), iA (k 5), iA (k 6), iA (k 7), iA (k 8), iA (k 9)]
abbrev lmC (a : Nat → Nat) (l : Nat → Int) : List AV := [.f (a 0), .f (a 1), .f (a 2), iA (l 0), iA (l 1), iA (l 2)]
abbrev eyC (e : Nat → Nat) : List AV := [.f (e 0), .f (e 1), .f (e 2), .f (e 3), .f (e 4), .f (e 5), .f (e 6), .f (e 7), .f (e 8), .f (e 9)]
def oB (b : Bool) : Option Out := some (Out.of (bA b))
def oI (n : Int) : Option Out := some (Out.of (iA n))
def cbB (x : Int) : Bool := cond (decide (x < 0)) true (decide (x > 1000))
def suB (s m g : Int) : Bool := decide (w64 (w64 (s + m) + g) ≤ 1000)
def mcB (s m g : Int) : Bool := cond (cbB s) false (cond (cbB m) false (cond (cbB g) false (suB s m g)))
theorem mc_ev (s m g : Int) : ev Tryz.prog [] [] noL Tryz.f60 [iA s, iA m, iA g] ret = cond (cbB s) (oB false) (cond (cbB m) (oB false) (cond (cbB g) (oB false) (oB (suB s m g)))) := by kernel_rfl
theorem mc_spec (s m g : Int) : FSpec Tryz.prog 60 [iA s, iA m, iA g] (bA (mcB s m g)) := by
  refine gspec e_nil k_nil Tryz.func60 (by kernel_rfl) (by kernel_rfl) noL_ok rfl ((mc_ev s m g).trans ?_)
  unfold mcB
  cases cbB s <;> cases cbB m <;> cases cbB g <;> rfl
def eC3 (f : Int → Int → Int → Bool) : List AV → Option AV
  | [.x (.int .i64 a), .x (.int .i64 b), .x (.int .i64 c)] => some (bA (f a b c))
  | _ => none
theorem eC3_ok : EOk Tryz.prog ⟨60, eC3 mcB⟩ := fun args r hr => by
  simp only [eC3] at hr
  split at hr
  · cases hr; exact Or.inl (mc_spec _ _ _)
  · cases hr
section
variable (f : Int → Int → Int → Bool) (k : Nat → Int)
def beB : Bool := cond (decide (k 9 < 100)) true (decide (k 9 > 10000))
def skX : Option Out := cond (!f (k 0) (k 3) (k 6)) (oI 6) (cond (!f (k 1) (k 4) (k 7)) (oI 6) (cond (!f (k 2) (k 5) (k 8)) (oI 6) (cond (beB k) (oI 6) (oI 0))))
theorem sk_ev : ev Tryz.prog [⟨60, eC3 f⟩] [] noL Tryz.f35 [.agg (skC k)] ret = skX f k := by kernel_rfl
end
/-- The errno of a skin. -/
def skE (k : Nat → Int) : Int := cond (!mcB (k 0) (k 3) (k 6)) 6 (cond (!mcB (k 1) (k 4) (k 7)) 6 (cond (!mcB (k 2) (k 5) (k 8)) 6 (cond (beB k) 6 0)))
theorem skX_eq (k : Nat → Int) : skX mcB k = oI (skE k) := by
  unfold skX skE
  cases mcB (k 0) (k 3) (k 6) <;> cases mcB (k 1) (k 4) (k 7) <;> cases mcB (k 2) (k 5) (k 8) <;> cases beB k <;> rfl
theorem sk_spec (k : Nat → Int) : FSpec Tryz.prog 35 [.agg (skC k)] (iA (skE k)) :=
  gspec (e_cons eC3_ok e_nil) k_nil Tryz.func35 (by kernel_rfl) (by kernel_rfl) noL_ok rfl ((sk_ev mcB k).trans (skX_eq k))
def bcB (a b g : Int) : Bool := cond (cond (cond (cond (cond (cond (decide (a < 0)) true (decide (a > 1000))) true (decide (b < 0))) true (decide (b > 1000))) true (decide (g < 0))) true (decide (g > 1000))) true (decide (w64 (w64 (a + b) + g) > 1000))
theorem rsk_ev (k : Nat → Int) : ev Tryz.prog [] [] noL Tryz.f48 [.agg (skC k)] ret = cond (bcB (k 0) (k 3) (k 6)) (oI 6) (cond (bcB (k 1) (k 4) (k 7)) (oI 6) (cond (bcB (k 2) (k 5) (k 8)) (oI 6) (cond (beB k) (oI 6) (oI 0)))) := by kernel_rfl
theorem bcB_eq (a b g : Int) : bcB a b g = !mcB a b g := by
  unfold bcB mcB cbB suB
  have e : decide (w64 (w64 (a + b) + g) > 1000) = !decide (w64 (w64 (a + b) + g) ≤ 1000) := by
    by_cases h : w64 (w64 (a + b) + g) ≤ 1000
    · rw [decide_eq_true h, decide_eq_false (by omega)]; rfl
    · rw [decide_eq_false h, decide_eq_true (by omega)]; rfl
  rw [e]
  cases decide (a < 0) <;> cases decide (a > 1000) <;> cases decide (b < 0) <;> cases decide (b > 1000) <;> cases decide (g < 0) <;> cases decide (g > 1000) <;> rfl
theorem rsk_spec (k : Nat → Int) : FSpec Tryz.prog 48 [.agg (skC k)] (iA (skE k)) := by
  refine gspec e_nil k_nil Tryz.func48 (by kernel_rfl) (by kernel_rfl) noL_ok rfl ((rsk_ev k).trans ?_)
  rw [bcB_eq, bcB_eq, bcB_eq]
  exact skX_eq k
def lbB (x : Int) : Bool := cond (decide (x < 0)) true (decide (x > 65536))
def liB (l : Nat → Int) : Bool := cond (lbB (l 0)) false (cond (lbB (l 1)) false (cond (lbB (l 2)) false true))
abbrev liC (l : Nat → Int) : List AV := [iA (l 0), iA (l 1), iA (l 2)]
theorem li_ev (l : Nat → Int) : ev Tryz.prog [] [] noL Tryz.f38 [.agg (liC l)] ret = cond (lbB (l 0)) (oB false) (cond (lbB (l 1)) (oB false) (cond (lbB (l 2)) (oB false) (oB true))) := by kernel_rfl
theorem li_spec (l : Nat → Int) : FSpec Tryz.prog 38 [.agg (liC l)] (bA (liB l)) := by
  refine gspec e_nil k_nil Tryz.func38 (by kernel_rfl) (by kernel_rfl) noL_ok rfl ((li_ev l).trans ?_)
  unfold liB
  cases lbB (l 0) <;> cases lbB (l 1) <;> cases lbB (l 2) <;> rfl
def lrB (ok : Bool) (x : Int) : Bool := cond (cond ok (decide (x ≥ 0)) false) (decide (x ≤ 65536)) false
theorem rli_ev (l : Nat → Int) : ev Tryz.prog [] [] noL Tryz.f53 [.agg (liC l)] ret = oB (lrB (lrB (lrB true (l 0)) (l 1)) (l 2)) := by kernel_rfl
theorem lrB_eq (ok : Bool) (x : Int) : lrB ok x = cond ok (!lbB x) false := by
  unfold lrB lbB
  have e1 : decide (x ≥ 0) = !decide (x < 0) := by
    by_cases h : x < 0
    · rw [decide_eq_true h, decide_eq_false (by omega)]; rfl
    · rw [decide_eq_false h, decide_eq_true (by omega)]; rfl
  have e2 : decide (x ≤ 65536) = !decide (x > 65536) := by
    by_cases h : x > 65536
    · rw [decide_eq_true h, decide_eq_false (by omega)]; rfl
    · rw [decide_eq_false h, decide_eq_true (by omega)]; rfl
  rw [e1, e2]
  cases ok <;> cases decide (x < 0) <;> cases decide (x > 65536) <;> rfl
theorem rli_spec (l : Nat → Int) : FSpec Tryz.prog 53 [.agg (liC l)] (bA (liB l)) := by
  refine gspec e_nil k_nil Tryz.func53 (by kernel_rfl) (by kernel_rfl) noL_ok rfl ((rli_ev l).trans ?_)
  rw [lrB_eq, lrB_eq, lrB_eq]
  unfold liB
  cases lbB (l 0) <;> cases lbB (l 1) <;> cases lbB (l 2) <;> rfl
def eL3 (f : (Nat → Int) → Bool) : List AV → Option AV
  | [.agg [.x (.int .i64 a), .x (.int .i64 b), .x (.int .i64 c)]] => some (bA (f (fun q => match q with | 0 => a | 1 => b | _ => c)))
  | _ => none
theorem eL3_ok : EOk Tryz.prog ⟨38, eL3 liB⟩ := fun args r hr => by
  simp only [eL3] at hr
  split at hr
  · rename_i a b c
    cases hr; exact Or.inl (li_spec fun q => match q with | 0 => a | 1 => b | _ => c)
  · cases hr
/-- The errno of a lamp. -/
def lmE (a : Nat → Nat) (l : Nat → Int) : Int := cond (!fineS (a 0) (a 1) (a 2)) 1 (cond (!liB l) 6 0)
theorem lm_ev (a : Nat → Nat) (l : Nat → Int) : ev Tryz.prog (⟨38, eL3 liB⟩ :: V2) [] noL Tryz.f37 [.agg (lmC a l)] ret = cond (!fineS (a 0) (a 1) (a 2)) (oI 1) (cond (!liB l) (oI 6) (oI 0)) := by kernel_rfl
theorem lm_spec (a : Nat → Nat) (l : Nat → Int) : FSpec Tryz.prog 37 [.agg (lmC a l)] (iA (lmE a l)) := by
  refine gspec (e_cons eL3_ok V2_ok) k_nil Tryz.func37 (by kernel_rfl) (by kernel_rfl) noL_ok rfl ((lm_ev a l).trans ?_)
  unfold lmE
  cases fineS (a 0) (a 1) (a 2) <;> cases liB l <;> rfl
def feB (e : Nat → Nat) : Bool := cond (cond (cond (!fineS (e 0) (e 1) (e 2)) true (!fineS (e 3) (e 4) (e 5))) true (!fineS (e 6) (e 7) (e 8))) true (!nearS (e 9))
section
variable (e : Nat → Nat)
def dX : Nat := fsub (e 3) (e 0)
def dY : Nat := fsub (e 4) (e 1)
def dZ : Nat := fsub (e 5) (e 2)
def uX : Nat := unN (dX e) (dY e) (dZ e) (dX e)
def uY : Nat := unN (dX e) (dY e) (dZ e) (dY e)
def uZ : Nat := unN (dX e) (dY e) (dZ e) (dZ e)
def upB : Bool := feq (lengthS (crX (uY e) (uZ e) (e 7) (e 8)) (crX (uZ e) (uX e) (e 8) (e 6)) (crX (uX e) (uY e) (e 6) (e 7))) 0
def eyX (b : Bool) : Option Out := cond (feB e) (oI 1) (cond b (oI 6) (cond (!(unE (dX e) (dY e) (dZ e) == 0)) (oI (unE (dX e) (dY e) (dZ e))) (cond (upB e) (oI 2) (oI 0))))
/-- The errno of an eye. -/
def eyE : Int := cond (feB e) 1 (cond (!fgt (e 9) 0) 6 (cond (!(unE (dX e) (dY e) (dZ e) == 0)) (unE (dX e) (dY e) (dZ e)) (cond (upB e) 2 0)))
theorem ey_ev : ev Tryz.prog V3 [] noL Tryz.f39 [.agg (eyC e)] ret = eyX e (!fgt (e 9) 0) := by kernel_rfl
theorem rey_ev : ev Tryz.prog R3 [] noL Tryz.f54 [.agg (eyC e)] ret = eyX e (fle (e 9) 0) := by kernel_rfl
theorem eyX_eq : eyX e (!fgt (e 9) 0) = oI (eyE e) := by
  unfold eyX eyE
  cases feB e <;> cases fgt (e 9) 0 <;> cases (unE (dX e) (dY e) (dZ e) == 0) <;> cases upB e <;> rfl
theorem ey_spec : FSpec Tryz.prog 39 [.agg (eyC e)] (iA (eyE e)) :=
  gspec V3_ok k_nil Tryz.func39 (by kernel_rfl) (by kernel_rfl) noL_ok rfl ((ey_ev e).trans (eyX_eq e))
theorem rey_spec : FSpec Tryz.prog 54 [.agg (eyC e)] (iA (eyE e)) := by
  refine gspec R3_ok k_nil Tryz.func54 (by kernel_rfl) (by kernel_rfl) noL_ok rfl ((rey_ev e).trans ?_)
  have h : eyX e (fle (e 9) 0) = eyX e (!fgt (e 9) 0) := by
    unfold eyX
    cases hf : feB e
    · have hn : nearS (e 9) = true := by
        unfold feB at hf
        revert hf
        cases fineS (e 0) (e 1) (e 2) <;> cases fineS (e 3) (e 4) (e 5) <;> cases fineS (e 6) (e 7) (e 8) <;> cases nearS (e 9) <;> intro hf <;> first | rfl | (cases hf)
      rw [not_gt hn]
    · rfl
  exact h.trans (eyX_eq e)
end
def weE (e sk : Int) (n : Nat) : Int := cond (!(e == 0)) e (cond (decide (sk ≥ (n : Int))) 9 0)
theorem we_ev (e sk : Int) (n : Nat) (el : Nat → List AV) : ev Tryz.prog [] [] noL Tryz.f61 [iA e, iA sk, .sl 10 n el] ret = cond (!(e == 0)) (oI e) (cond (decide (sk ≥ (n : Int))) (oI 9) (oI 0)) := by kernel_rfl
theorem we_spec (e sk : Int) (n : Nat) (el : Nat → List AV) : FSpec Tryz.prog 61 [iA e, iA sk, .sl 10 n el] (iA (weE e sk n)) := by
  refine gspec e_nil k_nil Tryz.func61 (by kernel_rfl) (by kernel_rfl) noL_ok rfl ((we_ev e sk n el).trans ?_)
  unfold weE
  cases e == 0 <;> cases decide (sk ≥ (n : Int)) <;> rfl
end Go.Proofs.YtngjiggplabfkaaGreat.Hs.Sc

namespace Go.Proofs.YtngjiggplabfkaaGreat.Hs.Sc
open Go.Gv So Fm
open Go.Ev (cn fadd fsub fmul fdiv fsqrt fneg feq flt fle fgt fge fabs isNan)

structure Shp where
  k : Int
  a : Nat → Nat
  sk : Int
abbrev Shp.c (s : Shp) : List AV := shC s.k s.a s.sk
structure Sld where
  n : Nat
  P : Nat → Prt
  sk : Int
abbrev Sld.c (s : Sld) : List AV := soC s.n s.P s.sk
structure Scn where
  nS : Nat
  S : Nat → Shp
  nO : Nat
  O : Nat → Sld
  nF : Nat
  F : Nat → Fm.Fd
  nK : Nat
  K : Nat → Nat → Int
  nL : Nat
  LA : Nat → Nat → Nat
  LL : Nat → Nat → Int
  sky : Nat → Int
  eye : Nat → Nat
abbrev Scn.vS (s : Scn) : AV := .sl 13 s.nS fun q => (s.S q).c
abbrev Scn.vO (s : Scn) : AV := .sl 2 s.nO fun q => (s.O q).c
abbrev Scn.vF (s : Scn) : AV := .sl 8 s.nF fun q => (s.F q).c
abbrev Scn.vK (s : Scn) : AV := .sl 10 s.nK fun q => skC (s.K q)
abbrev Scn.vL (s : Scn) : AV := .sl 6 s.nL fun q => lmC (s.LA q) (s.LL q)
def Scn.c (s : Scn) : List AV := [s.vS, s.vO, s.vF, s.vK, s.vL, iA (s.sky 0), iA (s.sky 1), iA (s.sky 2), .f (s.eye 0), .f (s.eye 1), .f (s.eye 2), .f (s.eye 3), .f (s.eye 4), .f (s.eye 5), .f (s.eye 6), .f (s.eye 7), .f (s.eye 8), .f (s.eye 9)]
def tmB (s : Scn) : Bool := cond (cond (cond (cond (decide ((s.nS : Int) > 64)) true (decide ((s.nO : Int) > 8))) true (decide ((s.nF : Int) > 2))) true (decide ((s.nK : Int) > 16))) true (decide ((s.nL : Int) > 4))
theorem tm_spec (s : Scn) : FSpec Tryz.prog 34 [.agg s.c] (bA (tmB s)) :=
  gspec e_nil k_nil Tryz.func34 (by kernel_rfl) (by kernel_rfl) noL_ok rfl (show ev Tryz.prog [] [] noL Tryz.f34 [.agg s.c] ret = oB (tmB s) by kernel_rfl)
noncomputable def mlC (f : Nat) (n : Nat) (c : Nat → List AV) (g : List AV → Int) (i : Int) (o : Option Out) (r : Int → Option Out) (oe : Option Out) : Option Out := cond (decide (i < n)) (cond (ixB i n || false) (gate (FSpec Tryz.prog f [.agg (c i.toNat)] (iA (g (c i.toNat)))) (cond (!(g (c i.toNat) == 0)) (r (g (c i.toNat))) o)) none) oe
section
variable (fk : List AV → Int) (s : Scn) (i : Int)
def m1S : St := mkS 50 [(1, .own 0 0), (13, s.vK), (14, iA s.nK), (15, iA i)] [.c s.c]
def m2S : St := mkS 50 [(1, .own 0 0), (31, s.vL), (32, iA s.nL), (33, iA i)] [.c s.c]
def mE (e : Int) : St := mkS 50 [(2, iA e)] []
def keep1 : List Nat := [1, 13, 14, 15]
def keep2 : List Nat := [1, 31, 32, 33]
theorem m1_step : evC Tryz.prog [] [kS Tryz.prog 35 (gO fk)] noL (loopAt Tryz.f18 0) (m1S s i) (finN keep1 [some 0]) = mlC 35 s.nK (fun q => skC (s.K q)) fk i (some ⟨.normal, m1S s (w64 (i + 1)), .any⟩) (fun _ => none) none := by kernel_rfl
theorem m1_ret : evC Tryz.prog [] [kS Tryz.prog 35 (gO fk)] noL (loopAt Tryz.f18 0) (m1S s i) (finR [2] []) = mlC 35 s.nK (fun q => skC (s.K q)) fk i none (fun e => some ⟨.ret, mE e, .any⟩) none := by kernel_rfl
theorem m1_end : evC Tryz.prog [] [kS Tryz.prog 35 (gO fk)] noL (loopAt Tryz.f18 0) (m1S s i) (finE keep1 [some 0]) = mlC 35 s.nK (fun q => skC (s.K q)) fk i none (fun _ => none) (some ⟨.exit 0, m1S s i, .any⟩) := by kernel_rfl
theorem m2_step : evC Tryz.prog [] [kS Tryz.prog 37 (gO fk)] noL (loopAt Tryz.f18 1) (m2S s i) (finN keep2 [some 0]) = mlC 37 s.nL (fun q => lmC (s.LA q) (s.LL q)) fk i (some ⟨.normal, m2S s (w64 (i + 1)), .any⟩) (fun _ => none) none := by kernel_rfl
theorem m2_ret : evC Tryz.prog [] [kS Tryz.prog 37 (gO fk)] noL (loopAt Tryz.f18 1) (m2S s i) (finR [2] []) = mlC 37 s.nL (fun q => lmC (s.LA q) (s.LL q)) fk i none (fun e => some ⟨.ret, mE e, .any⟩) none := by kernel_rfl
theorem m2_end : evC Tryz.prog [] [kS Tryz.prog 37 (gO fk)] noL (loopAt Tryz.f18 1) (m2S s i) (finE keep2 [some 0]) = mlC 37 s.nL (fun q => lmC (s.LA q) (s.LL q)) fk i none (fun _ => none) (some ⟨.exit 2, m2S s i, .any⟩) := by kernel_rfl
def gW : List AV → AV
  | [.x (.int .i64 e), .x (.int .i64 sk), .sl _ n _] => iA (weE e sk n)
  | _ => .any
noncomputable def mtC (f : Nat) (n : Nat) (c : Nat → List AV) (sk : Nat → Int) (o : Option Out) (r : Int → Option Out) (oe : Option Out) : Option Out := cond (decide (i < n)) (cond (ixB i n || false) (gate (FSpec Tryz.prog f [.agg (c i.toNat)] (iA (fk (c i.toNat)))) (gate (FSpec Tryz.prog 61 [iA (fk (c i.toNat)), iA (sk i.toNat), s.vK] (iA (weE (fk (c i.toNat)) (sk i.toNat) s.nK))) (cond (!(weE (fk (c i.toNat)) (sk i.toNat) s.nK == 0)) (r (weE (fk (c i.toNat)) (sk i.toNat) s.nK)) o))) none) oe
def t1S : St := mkS 66 [(1, .own 0 0), (13, s.vS), (14, iA s.nS), (15, iA i)] [.c s.c]
def t2S : St := mkS 66 [(1, .own 0 0), (31, s.vO), (32, iA s.nO), (33, iA i)] [.c s.c]
def t3S : St := mkS 66 [(1, .own 0 0), (49, s.vF), (50, iA s.nF), (51, iA i)] [.c s.c]
def tE (e : Int) : St := mkS 66 [(2, iA e)] []
def keep3 : List Nat := [1, 49, 50, 51]
noncomputable def tK (f : Nat) : List KEntry := [kS Tryz.prog f (gO fk), kS Tryz.prog 61 gW]
theorem t1_step : evC Tryz.prog [] (tK fk 62) noL (loopAt Tryz.f36 0) (t1S s i) (finN keep1 [some 0]) = mtC fk s i 62 s.nS (fun q => (s.S q).c) (fun q => (s.S q).sk) (some ⟨.normal, t1S s (w64 (i + 1)), .any⟩) (fun _ => none) none := by kernel_rfl
theorem t1_ret : evC Tryz.prog [] (tK fk 62) noL (loopAt Tryz.f36 0) (t1S s i) (finR [2] []) = mtC fk s i 62 s.nS (fun q => (s.S q).c) (fun q => (s.S q).sk) none (fun e => some ⟨.ret, tE e, .any⟩) none := by kernel_rfl
theorem t1_end : evC Tryz.prog [] (tK fk 62) noL (loopAt Tryz.f36 0) (t1S s i) (finE keep1 [some 0]) = mtC fk s i 62 s.nS (fun q => (s.S q).c) (fun q => (s.S q).sk) none (fun _ => none) (some ⟨.exit 0, t1S s i, .any⟩) := by kernel_rfl
theorem t2_step : evC Tryz.prog [] (tK fk 63) noL (loopAt Tryz.f36 1) (t2S s i) (finN keep2 [some 0]) = mtC fk s i 63 s.nO (fun q => (s.O q).c) (fun q => (s.O q).sk) (some ⟨.normal, t2S s (w64 (i + 1)), .any⟩) (fun _ => none) none := by kernel_rfl
theorem t2_ret : evC Tryz.prog [] (tK fk 63) noL (loopAt Tryz.f36 1) (t2S s i) (finR [2] []) = mtC fk s i 63 s.nO (fun q => (s.O q).c) (fun q => (s.O q).sk) none (fun e => some ⟨.ret, tE e, .any⟩) none := by kernel_rfl
theorem t2_end : evC Tryz.prog [] (tK fk 63) noL (loopAt Tryz.f36 1) (t2S s i) (finE keep2 [some 0]) = mtC fk s i 63 s.nO (fun q => (s.O q).c) (fun q => (s.O q).sk) none (fun _ => none) (some ⟨.exit 2, t2S s i, .any⟩) := by kernel_rfl
theorem t3_step : evC Tryz.prog [] (tK fk 64) noL (loopAt Tryz.f36 2) (t3S s i) (finN keep3 [some 0]) = mtC fk s i 64 s.nF (fun q => (s.F q).c) (fun q => (s.F q).sk) (some ⟨.normal, t3S s (w64 (i + 1)), .any⟩) (fun _ => none) none := by kernel_rfl
theorem t3_ret : evC Tryz.prog [] (tK fk 64) noL (loopAt Tryz.f36 2) (t3S s i) (finR [2] []) = mtC fk s i 64 s.nF (fun q => (s.F q).c) (fun q => (s.F q).sk) none (fun e => some ⟨.ret, tE e, .any⟩) none := by kernel_rfl
theorem t3_end : evC Tryz.prog [] (tK fk 64) noL (loopAt Tryz.f36 2) (t3S s i) (finE keep3 [some 0]) = mtC fk s i 64 s.nF (fun q => (s.F q).c) (fun q => (s.F q).sk) none (fun _ => none) (some ⟨.exit 4, t3S s i, .any⟩) := by kernel_rfl
end
end Go.Proofs.YtngjiggplabfkaaGreat.Hs.Sc

namespace Go.Proofs.YtngjiggplabfkaaGreat.Hs.Sc
open Go.Gv So Fm
open Go.Ev (cn fadd fsub fmul fdiv fsqrt fneg feq flt fle fgt fge fabs isNan)

def Both (f g : Nat) (c : List AV) (m : Int) : Prop := FSpec Tryz.prog f [.agg c] (iA m) ∧ FSpec Tryz.prog g [.agg c] (iA m)
/-- The numbers of a field are fine. -/
def FdFine : List AV → Prop
  | [_, _, .f a, .f b, .f d, .f x, .sl _ n _, _] => fineS a b d = true ∧ nearS x = true ∧ n ≤ 64
  | _ => False
open Classical in
noncomputable def pk2 (f g : Nat) (c : List AV) : Int := if h : ∃ m, Both f g c m then h.choose else 0
theorem pk2_ok {f g : Nat} {c : List AV} (h : ∃ m, Both f g c m) : Both f g c (pk2 f g c) := by
  unfold pk2
  rw [dif_pos h]
  exact h.choose_spec
open Classical in
noncomputable def fFd (c : List AV) : Int := if h : ∃ m, Both 64 51 c m ∧ (m = 0 → FdFine c) then h.choose else 0
theorem fFd_ok (F : Fm.Fd) : Both 64 51 F.c (fFd F.c) ∧ (fFd F.c = 0 → FdFine F.c) := by
  have h : ∃ m, Both 64 51 F.c m ∧ (m = 0 → FdFine F.c) := by
    obtain ⟨m, h1, h2, h3⟩ := field_all F
    refine ⟨m, ⟨h1, h2⟩, fun e => ?_⟩
    obtain ⟨h4, h5⟩ := h3 e
    unfold Fd.far at h4
    show fineS (F.at_ 0) (F.at_ 1) (F.at_ 2) = true ∧ nearS F.sd = true ∧ F.n ≤ 64
    revert h4
    cases fineS (F.at_ 0) (F.at_ 1) (F.at_ 2) <;> cases nearS F.sd <;> intro h4 <;> first | (cases h4; done) | exact ⟨rfl, rfl, h5⟩
  unfold fFd
  rw [dif_pos h]
  exact h.choose_spec
noncomputable def fSk : List AV → Int := pk2 35 48
def dSo : List AV → Sld
  | [.sl _ n el, .x (.int .i64 sk)] => ⟨n, fun i => decP (el i), sk⟩
  | _ => ⟨0, fun _ => decP [], 0⟩
noncomputable def fSo (c : List AV) : Int := soE (dSo c).n (dSo c).P (dSo c).sk
noncomputable def fSh : List AV → Int := pk2 62 49
theorem fSk_ok (k : Nat → Int) : Both 35 48 (skC k) (fSk (skC k)) := pk2_ok ⟨_, sk_spec k, rsk_spec k⟩
theorem fSo_ok (s : Sld) : Both 63 50 s.c (fSo s.c) := ⟨smay_spec s.n s.P s.sk, rsmay_spec s.n s.P s.sk⟩
theorem fSh_ok (s : Shp) : Both 62 49 s.c (fSh s.c) := pk2_ok (may_all s.k s.a s.sk)
def fLm : List AV → Int
  | [.f a, .f b, .f d, .x (.int .i64 x), .x (.int .i64 y), .x (.int .i64 z)] => lmE (ls [a, b, d]) (fun q => match q with | 0 => x | 1 => y | _ => z)
  | _ => 0
section
variable (s : Scn)
noncomputable def eK (q : Nat) : Int := fSk (skC (s.K q))
noncomputable def eS (q : Nat) : Int := weE (fSh (s.S q).c) (s.S q).sk s.nK
noncomputable def eO (q : Nat) : Int := weE (fSo (s.O q).c) (s.O q).sk s.nK
noncomputable def eF (q : Nat) : Int := weE (fFd (s.F q).c) (s.F q).sk s.nK
def eL (q : Nat) : Int := lmE (s.LA q) (s.LL q)
noncomputable def thE : Int := cond (seqE (eS s) s.nS == 0) (cond (seqE (eO s) s.nO == 0) (seqE (eF s) s.nF) (seqE (eO s) s.nO)) (seqE (eS s) s.nS)
/-- The errno of a scene. -/
noncomputable def scE : Int := cond (tmB s) 4 (cond (seqE (eK s) s.nK == 0) (cond (thE s == 0) (cond (seqE (eL s) s.nL == 0) (cond (!liB s.sky) 6 (eyE s.eye)) (seqE (eL s) s.nL)) (thE s)) (seqE (eK s) s.nK))
theorem tm_few (h : tmB s = false) : s.nS ≤ 64 ∧ s.nO ≤ 8 ∧ s.nF ≤ 2 ∧ s.nK ≤ 16 ∧ s.nL ≤ 4 := by
  unfold tmB at h
  have d1 : ¬ (s.nS : Int) > 64 := fun c => by rw [decide_eq_true c] at h; cases h
  rw [decide_eq_false d1, cond_false] at h
  have d2 : ¬ (s.nO : Int) > 8 := fun c => by rw [decide_eq_true c] at h; cases h
  rw [decide_eq_false d2, cond_false] at h
  have d3 : ¬ (s.nF : Int) > 2 := fun c => by rw [decide_eq_true c] at h; cases h
  rw [decide_eq_false d3, cond_false] at h
  have d4 : ¬ (s.nK : Int) > 16 := fun c => by rw [decide_eq_true c] at h; cases h
  rw [decide_eq_false d4, cond_false] at h
  have d5 : ¬ (s.nL : Int) > 4 := fun c => by rw [decide_eq_true c] at h; cases h
  omega
end
theorem mlC_t {f n : Nat} {c : Nat → List AV} {g : List AV → Int} {k : Nat} (hk : k < n) (h : FSpec Tryz.prog f [.agg (c k)] (iA (g (c k)))) (o : Option Out) (r : Int → Option Out) (oe : Option Out) : mlC f n c g (k : Nat) o r oe = cond (g (c k) == 0) o (r (g (c k))) := by
  unfold mlC
  rw [dec_lt hk, ixB_t hk, Int.toNat_natCast, gate_pos h]
  cases g (c k) == 0 <;> rfl
theorem mlC_e (f n : Nat) (c : Nat → List AV) (g : List AV → Int) (o : Option Out) (r : Int → Option Out) (oe : Option Out) : mlC f n c g (n : Nat) o r oe = oe := by
  unfold mlC
  rw [dec_self, cond_false]
theorem mtC_t {f n : Nat} {c : Nat → List AV} {g : List AV → Int} {s : Scn} {sk : Nat → Int} {k : Nat} (hk : k < n) (h : FSpec Tryz.prog f [.agg (c k)] (iA (g (c k)))) (o : Option Out) (r : Int → Option Out) (oe : Option Out) : mtC g s (k : Nat) f n c sk o r oe = cond (weE (g (c k)) (sk k) s.nK == 0) o (r (weE (g (c k)) (sk k) s.nK)) := by
  unfold mtC
  rw [dec_lt hk, ixB_t hk, Int.toNat_natCast, gate_pos h, gate_pos (we_spec _ _ _ _)]
  cases weE (g (c k)) (sk k) s.nK == 0 <;> rfl
theorem mtC_e (f n : Nat) (c : Nat → List AV) (g : List AV → Int) (s : Scn) (sk : Nat → Int) (o : Option Out) (r : Int → Option Out) (oe : Option Out) : mtC g s (n : Nat) f n c sk o r oe = oe := by
  unfold mtC
  rw [dec_self, cond_false]
theorem k1_ok {f : Nat} {g : List AV → AV} : ∀ e, e ∈ [kS Tryz.prog f g] → KOk Tryz.prog e := k_cons kS_ok k_nil
theorem tK_ok {fk : List AV → Int} {f : Nat} : ∀ e, e ∈ tK fk f → KOk Tryz.prog e := k_cons kS_ok (k_cons kS_ok k_nil)
section
variable {s : Scn}
theorem m1_sound (h : s.nK ≤ 1000) : LSound Tryz.prog (loopAt Tryz.f18 0) (mayT keep1 [some 0] (m1S s) (.exit 0) mE (eK s) s.nK) := by
  refine mayT_sound (by simp) (fun k hk hb => ?_) (fun k hk hb => ?_) ?_
  · refine leads_ev (finN_sub _ _) e_nil k1_ok noL_ok ((m1_step fSk s (k : Nat)).trans ?_)
    rw [mlC_t hk (fSk_ok _).1, show fSk (skC (s.K k)) = 0 from hb, w64_next (by omega)]; rfl
  · refine leads_ev (finR_sub _ _) e_nil k1_ok noL_ok ((m1_ret fSk s (k : Nat)).trans ?_)
    rw [mlC_t hk (fSk_ok _).1, beq_false_of_ne (show fSk (skC (s.K k)) ≠ 0 from hb)]; rfl
  · exact leads_ev (finE_sub _ _) e_nil k1_ok noL_ok ((m1_end fSk s (s.nK : Nat)).trans (mlC_e _ _ _ _ _ _ _))
theorem m2_sound (h : s.nL ≤ 1000) : LSound Tryz.prog (loopAt Tryz.f18 1) (mayT keep2 [some 0] (m2S s) (.exit 2) mE (eL s) s.nL) := by
  refine mayT_sound (by simp) (fun k hk hb => ?_) (fun k hk hb => ?_) ?_
  · refine leads_ev (finN_sub _ _) e_nil k1_ok noL_ok ((m2_step fLm s (k : Nat)).trans ?_)
    rw [mlC_t hk (lm_spec _ _), show fLm (lmC (s.LA k) (s.LL k)) = 0 from hb, w64_next (by omega)]; rfl
  · refine leads_ev (finR_sub _ _) e_nil k1_ok noL_ok ((m2_ret fLm s (k : Nat)).trans ?_)
    rw [mlC_t hk (lm_spec _ _), beq_false_of_ne (show fLm (lmC (s.LA k) (s.LL k)) ≠ 0 from hb)]; rfl
  · exact leads_ev (finE_sub _ _) e_nil k1_ok noL_ok ((m2_end fLm s (s.nL : Nat)).trans (mlC_e _ _ _ _ _ _ _))
theorem t1_sound (h : s.nS ≤ 1000) : LSound Tryz.prog (loopAt Tryz.f36 0) (mayT keep1 [some 0] (t1S s) (.exit 0) tE (eS s) s.nS) := by
  refine mayT_sound (by simp) (fun k hk hb => ?_) (fun k hk hb => ?_) ?_
  · refine leads_ev (finN_sub _ _) e_nil tK_ok noL_ok ((t1_step fSh s (k : Nat)).trans ?_)
    rw [mtC_t hk (fSh_ok _).1, show weE (fSh (s.S k).c) (s.S k).sk s.nK = 0 from hb, w64_next (by omega)]; rfl
  · refine leads_ev (finR_sub _ _) e_nil tK_ok noL_ok ((t1_ret fSh s (k : Nat)).trans ?_)
    rw [mtC_t hk (fSh_ok _).1, beq_false_of_ne (show weE (fSh (s.S k).c) (s.S k).sk s.nK ≠ 0 from hb)]; rfl
  · exact leads_ev (finE_sub _ _) e_nil tK_ok noL_ok ((t1_end fSh s (s.nS : Nat)).trans (mtC_e _ _ _ _ _ _ _ _ _))
theorem t2_sound (h : s.nO ≤ 1000) : LSound Tryz.prog (loopAt Tryz.f36 1) (mayT keep2 [some 0] (t2S s) (.exit 2) tE (eO s) s.nO) := by
  refine mayT_sound (by simp) (fun k hk hb => ?_) (fun k hk hb => ?_) ?_
  · refine leads_ev (finN_sub _ _) e_nil tK_ok noL_ok ((t2_step fSo s (k : Nat)).trans ?_)
    rw [mtC_t hk (fSo_ok _).1, show weE (fSo (s.O k).c) (s.O k).sk s.nK = 0 from hb, w64_next (by omega)]; rfl
  · refine leads_ev (finR_sub _ _) e_nil tK_ok noL_ok ((t2_ret fSo s (k : Nat)).trans ?_)
    rw [mtC_t hk (fSo_ok _).1, beq_false_of_ne (show weE (fSo (s.O k).c) (s.O k).sk s.nK ≠ 0 from hb)]; rfl
  · exact leads_ev (finE_sub _ _) e_nil tK_ok noL_ok ((t2_end fSo s (s.nO : Nat)).trans (mtC_e _ _ _ _ _ _ _ _ _))
theorem t3_sound (h : s.nF ≤ 1000) : LSound Tryz.prog (loopAt Tryz.f36 2) (mayT keep3 [some 0] (t3S s) (.exit 4) tE (eF s) s.nF) := by
  refine mayT_sound (by simp) (fun k hk hb => ?_) (fun k hk hb => ?_) ?_
  · refine leads_ev (finN_sub _ _) e_nil tK_ok noL_ok ((t3_step fFd s (k : Nat)).trans ?_)
    rw [mtC_t hk (fFd_ok _).1.1, show weE (fFd (s.F k).c) (s.F k).sk s.nK = 0 from hb, w64_next (by omega)]; rfl
  · refine leads_ev (finR_sub _ _) e_nil tK_ok noL_ok ((t3_ret fFd s (k : Nat)).trans ?_)
    rw [mtC_t hk (fFd_ok _).1.1, beq_false_of_ne (show weE (fFd (s.F k).c) (s.F k).sk s.nK ≠ 0 from hb)]; rfl
  · exact leads_ev (finE_sub _ _) e_nil tK_ok noL_ok ((t3_end fFd s (s.nF : Nat)).trans (mtC_e _ _ _ _ _ _ _ _ _))
end
section
variable (s : Scn) (f1 f2 f3 : Nat → Int) (tm lb : Bool) (th ey : Int)
/-- A loop's answer. -/
noncomputable def lpO (f : Nat → Int) (n : Nat) (S : St) (o : Option Out) : Option Out := cond (seqE f n == 0) (gate (Sub S S) o) (gate (Sub S S) (oI (seqE f n)))
theorem lpO_t (f : Nat → Int) (n : Nat) (S : St) (o : Option Out) : lpO f n S o = cond (seqE f n == 0) o (oI (seqE f n)) := by
  unfold lpO
  rw [gate_pos (Sub.refl _), gate_pos (Sub.refl _)]
noncomputable def tL : Nat → Option LFun := manyL [(2, mayT keep1 [some 0] (t1S s) (.exit 0) tE f1 s.nS), (9, mayT keep2 [some 0] (t2S s) (.exit 2) tE f2 s.nO), (16, mayT keep3 [some 0] (t3S s) (.exit 4) tE f3 s.nF)]
theorem t_ev : ev Tryz.prog [] [] (tL s f1 f2 f3) Tryz.f36 [.agg s.c] ret = lpO f1 s.nS (t1S s 0) (lpO f2 s.nO (t2S s 0) (lpO f3 s.nF (t3S s 0) (oI 0))) := by kernel_rfl
noncomputable def mL : Nat → Option LFun := manyL [(4, mayT keep1 [some 0] (m1S s) (.exit 0) mE f1 s.nK), (14, mayT keep2 [some 0] (m2S s) (.exit 2) mE f2 s.nL)]
noncomputable def mK : List KEntry := [kS Tryz.prog 34 (fun _ => bA tm), kS Tryz.prog 36 (fun _ => iA th), kS Tryz.prog 38 (fun _ => bA lb), kS Tryz.prog 39 (fun _ => iA ey)]
theorem m_ev : ev Tryz.prog [] (mK tm lb th ey) (mL s f1 f2) Tryz.f18 [.agg s.c] ret = gate (FSpec Tryz.prog 34 [.agg s.c] (bA tm)) (cond tm (oI 4) (lpO f1 s.nK (m1S s 0) (gate (FSpec Tryz.prog 36 [.agg s.c] (iA th)) (cond (!(th == 0)) (oI th) (lpO f2 s.nL (m2S s 0) (gate (FSpec Tryz.prog 38 [.agg (liC s.sky)] (bA lb)) (cond (!lb) (oI 6) (gate (FSpec Tryz.prog 39 [.agg (eyC s.eye)] (iA ey)) (oI ey))))))))) := by kernel_rfl
end
end Go.Proofs.YtngjiggplabfkaaGreat.Hs.Sc

namespace Go.Proofs.YtngjiggplabfkaaGreat.Hs.Sc
open Go.Gv So Fm
open Go.Ev (cn fadd fsub fmul fdiv fsqrt fneg feq flt fle fgt fge fabs isNan)

theorem th_spec {s : Scn} (h1 : s.nS ≤ 1000) (h2 : s.nO ≤ 1000) (h3 : s.nF ≤ 1000) : FSpec Tryz.prog 36 [.agg s.c] (iA (thE s)) := by
  refine gspec e_nil k_nil Tryz.func36 (by kernel_rfl) (by kernel_rfl) (lok_cons (lok_at 0 3 (by kernel_rfl) (by kernel_rfl) (t1_sound h1)) (lok_cons (lok_at 1 3 (by kernel_rfl) (by kernel_rfl) (t2_sound h2)) (lok_cons (lok_at 2 3 (by kernel_rfl) (by kernel_rfl) (t3_sound h3)) lok_nil))) rfl ((t_ev s (eS s) (eO s) (eF s)).trans ?_)
  rw [lpO_t, lpO_t, lpO_t]
  unfold thE
  cases hs : seqE (eS s) s.nS == 0
  · rfl
  · cases ho : seqE (eO s) s.nO == 0
    · rfl
    · cases hf : seqE (eF s) s.nF == 0
      · rfl
      · rw [cond_true, cond_true, cond_true, cond_true, cond_true, eq_of_beq hf]; rfl
theorem m_ev0 (s : Scn) (tm : Bool) : ev Tryz.prog [] [kS Tryz.prog 34 (fun _ => bA tm)] (manyL [(4, fun _ _ => none), (14, fun _ _ => none)]) Tryz.f18 [.agg s.c] ret = gate (FSpec Tryz.prog 34 [.agg s.c] (bA tm)) (cond tm (oI 4) none) := by kernel_rfl
theorem sc_spec (s : Scn) : FSpec Tryz.prog 18 [.agg s.c] (iA (scE s)) := by
  cases ht : tmB s
  · obtain ⟨a1, a2, a3, a4, a5⟩ := tm_few s ht
    refine gspec e_nil (k_cons kS_ok (k_cons kS_ok (k_cons kS_ok (k_cons kS_ok k_nil)))) Tryz.func18 (by kernel_rfl) (by kernel_rfl) (lok_cons (lok_at 0 2 (by kernel_rfl) (by kernel_rfl) (m1_sound (by omega))) (lok_cons (lok_at 1 2 (by kernel_rfl) (by kernel_rfl) (m2_sound (by omega))) lok_nil)) rfl ((m_ev s (eK s) (eL s) (tmB s) (liB s.sky) (thE s) (eyE s.eye)).trans ?_)
    rw [gate_pos (tm_spec s), gate_pos (th_spec (by omega) (by omega) (by omega)), gate_pos (li_spec _), gate_pos (ey_spec _), lpO_t, lpO_t, ht]
    unfold scE
    rw [ht]
    cases hk : seqE (eK s) s.nK == 0
    · rfl
    · cases hh : thE s == 0
      · rfl
      · cases hl : seqE (eL s) s.nL == 0
        · rfl
        · cases liB s.sky <;> rfl
  · have e : scE s = 4 := by unfold scE; rw [ht]; rfl
    rw [e]
    refine gspec e_nil (k_cons kS_ok k_nil) Tryz.func18 (by kernel_rfl) (by kernel_rfl) (lok_cons (lok_none 4) (lok_cons (lok_none 14) lok_nil)) rfl ((m_ev0 s (tmB s)).trans ?_)
    rw [gate_pos (tm_spec s), ht]; rfl
theorem eRL_ok : EOk Tryz.prog ⟨53, eL3 liB⟩ := fun args r hr => by
  simp only [eL3] at hr
  split at hr
  · rename_i a b c
    cases hr; exact Or.inl (rli_spec fun q => match q with | 0 => a | 1 => b | _ => c)
  · cases hr
def RL : List Entry := ⟨53, eL3 liB⟩ :: R2
theorem RL_ok : ∀ e, e ∈ RL → EOk Tryz.prog e := e_cons eRL_ok R2_ok
section
variable (fk : List AV → Int) (s : Scn) (sl : Nat) (i : Int)
def rS : St := mkS 169 [(1, .own 0 0), (sl, iA i)] [.c s.c]
def rE (e : Int) : St := mkS 169 [(2, iA e)] []
noncomputable def rtC (f : Nat) (n : Nat) (c : Nat → List AV) (sk : Nat → Int) (o : Option Out) (r : Int → Option Out) (oe : Option Out) : Option Out := cond (decide (i < n)) (cond (ixB i n || false) (gate (FSpec Tryz.prog f [.agg (c i.toNat)] (iA (fk (c i.toNat)))) (cond (!(fk (c i.toNat) == 0)) (r (fk (c i.toNat))) (cond ((ixB i n || false) && true) (cond (decide (sk i.toNat ≥ (s.nK : Int))) (r 9) o) none))) none) oe
def rlC (o : Option Out) (r : Int → Option Out) (oe : Option Out) : Option Out := cond (decide (i < s.nL)) (cond (ixB i s.nL || false) (cond (!fineS (s.LA i.toNat 0) (s.LA i.toNat 1) (s.LA i.toNat 2)) (r 1) (cond (ixB i s.nL || false) (cond (!liB (s.LL i.toNat)) (r 6) o) none)) none) oe
theorem r1_step : evC Tryz.prog [] [kS Tryz.prog 48 (gO fk)] noL (loopAt Tryz.f22 0) (rS s 3 i) (finN [1, 3] [some 0]) = mlC 48 s.nK (fun q => skC (s.K q)) fk i (some ⟨.normal, rS s 3 (w64 (i + 1)), .any⟩) (fun _ => none) none := by kernel_rfl
theorem r1_ret : evC Tryz.prog [] [kS Tryz.prog 48 (gO fk)] noL (loopAt Tryz.f22 0) (rS s 3 i) (finR [2] []) = mlC 48 s.nK (fun q => skC (s.K q)) fk i none (fun e => some ⟨.ret, rE e, .any⟩) none := by kernel_rfl
theorem r1_end : evC Tryz.prog [] [kS Tryz.prog 48 (gO fk)] noL (loopAt Tryz.f22 0) (rS s 3 i) (finE [1, 3] [some 0]) = mlC 48 s.nK (fun q => skC (s.K q)) fk i none (fun _ => none) (some ⟨.exit 0, rS s 3 i, .any⟩) := by kernel_rfl
theorem r2_step : evC Tryz.prog [] [kS Tryz.prog 49 (gO fk)] noL (loopAt Tryz.f22 1) (rS s 5 i) (finN [1, 5] [some 0]) = rtC fk s i 49 s.nS (fun q => (s.S q).c) (fun q => (s.S q).sk) (some ⟨.normal, rS s 5 (w64 (i + 1)), .any⟩) (fun _ => none) none := by kernel_rfl
theorem r2_ret : evC Tryz.prog [] [kS Tryz.prog 49 (gO fk)] noL (loopAt Tryz.f22 1) (rS s 5 i) (finR [2] []) = rtC fk s i 49 s.nS (fun q => (s.S q).c) (fun q => (s.S q).sk) none (fun e => some ⟨.ret, rE e, .any⟩) none := by kernel_rfl
theorem r2_end : evC Tryz.prog [] [kS Tryz.prog 49 (gO fk)] noL (loopAt Tryz.f22 1) (rS s 5 i) (finE [1, 5] [some 0]) = rtC fk s i 49 s.nS (fun q => (s.S q).c) (fun q => (s.S q).sk) none (fun _ => none) (some ⟨.exit 2, rS s 5 i, .any⟩) := by kernel_rfl
theorem r3_step : evC Tryz.prog [] [kS Tryz.prog 50 (gO fk)] noL (loopAt Tryz.f22 2) (rS s 7 i) (finN [1, 7] [some 0]) = rtC fk s i 50 s.nO (fun q => (s.O q).c) (fun q => (s.O q).sk) (some ⟨.normal, rS s 7 (w64 (i + 1)), .any⟩) (fun _ => none) none := by kernel_rfl
theorem r3_ret : evC Tryz.prog [] [kS Tryz.prog 50 (gO fk)] noL (loopAt Tryz.f22 2) (rS s 7 i) (finR [2] []) = rtC fk s i 50 s.nO (fun q => (s.O q).c) (fun q => (s.O q).sk) none (fun e => some ⟨.ret, rE e, .any⟩) none := by kernel_rfl
theorem r3_end : evC Tryz.prog [] [kS Tryz.prog 50 (gO fk)] noL (loopAt Tryz.f22 2) (rS s 7 i) (finE [1, 7] [some 0]) = rtC fk s i 50 s.nO (fun q => (s.O q).c) (fun q => (s.O q).sk) none (fun _ => none) (some ⟨.exit 4, rS s 7 i, .any⟩) := by kernel_rfl
theorem r4_step : evC Tryz.prog [] [kS Tryz.prog 51 (gO fk)] noL (loopAt Tryz.f22 3) (rS s 9 i) (finN [1, 9] [some 0]) = rtC fk s i 51 s.nF (fun q => (s.F q).c) (fun q => (s.F q).sk) (some ⟨.normal, rS s 9 (w64 (i + 1)), .any⟩) (fun _ => none) none := by kernel_rfl
theorem r4_ret : evC Tryz.prog [] [kS Tryz.prog 51 (gO fk)] noL (loopAt Tryz.f22 3) (rS s 9 i) (finR [2] []) = rtC fk s i 51 s.nF (fun q => (s.F q).c) (fun q => (s.F q).sk) none (fun e => some ⟨.ret, rE e, .any⟩) none := by kernel_rfl
theorem r4_end : evC Tryz.prog [] [kS Tryz.prog 51 (gO fk)] noL (loopAt Tryz.f22 3) (rS s 9 i) (finE [1, 9] [some 0]) = rtC fk s i 51 s.nF (fun q => (s.F q).c) (fun q => (s.F q).sk) none (fun _ => none) (some ⟨.exit 6, rS s 9 i, .any⟩) := by kernel_rfl
theorem r5_step : evC Tryz.prog RL [] noL (loopAt Tryz.f22 4) (rS s 11 i) (finN [1, 11] [some 0]) = rlC s i (some ⟨.normal, rS s 11 (w64 (i + 1)), .any⟩) (fun _ => none) none := by kernel_rfl
theorem r5_ret : evC Tryz.prog RL [] noL (loopAt Tryz.f22 4) (rS s 11 i) (finR [2] []) = rlC s i none (fun e => some ⟨.ret, rE e, .any⟩) none := by kernel_rfl
theorem r5_end : evC Tryz.prog RL [] noL (loopAt Tryz.f22 4) (rS s 11 i) (finE [1, 11] [some 0]) = rlC s i none (fun _ => none) (some ⟨.exit 8, rS s 11 i, .any⟩) := by kernel_rfl
end
section
variable (s : Scn) (f1 f2 f3 f4 f5 : Nat → Int) (ey : Int)
noncomputable def rL : Nat → Option LFun := manyL [(4, mayT [1, 3] [some 0] (rS s 3) (.exit 0) rE f1 s.nK), (10, mayT [1, 5] [some 0] (rS s 5) (.exit 2) rE f2 s.nS), (18, mayT [1, 7] [some 0] (rS s 7) (.exit 4) rE f3 s.nO), (26, mayT [1, 9] [some 0] (rS s 9) (.exit 6) rE f4 s.nF), (34, mayT [1, 11] [some 0] (rS s 11) (.exit 8) rE f5 s.nL)]
theorem r_ev : ev Tryz.prog RL [kS Tryz.prog 54 (fun _ => iA ey)] (rL s f1 f2 f3 f4 f5) Tryz.f22 [.agg s.c] ret = cond (tmB s) (oI 4) (lpO f1 s.nK (rS s 3 0) (lpO f2 s.nS (rS s 5 0) (lpO f3 s.nO (rS s 7 0) (lpO f4 s.nF (rS s 9 0) (lpO f5 s.nL (rS s 11 0) (cond (!liB s.sky) (oI 6) (gate (FSpec Tryz.prog 54 [.agg (eyC s.eye)] (iA ey)) (oI ey)))))))) := by kernel_rfl
theorem r_ev0 : ev Tryz.prog RL [] (manyL [(4, fun _ _ => none), (10, fun _ _ => none), (18, fun _ _ => none), (26, fun _ _ => none), (34, fun _ _ => none)]) Tryz.f22 [.agg s.c] ret = cond (tmB s) (oI 4) none := by kernel_rfl
end
end Go.Proofs.YtngjiggplabfkaaGreat.Hs.Sc
