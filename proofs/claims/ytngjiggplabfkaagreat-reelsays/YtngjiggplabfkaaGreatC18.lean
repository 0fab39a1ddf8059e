/-
  Rl2 Rl3 Rl4 Rk1 Rk2 Rk3 Hv0 Hv1 Hv2 Hv3 Hv4 Hv5 Hv6 Hv7 Hv8 Hv9 Hva Hr1 Fl Hf0 Hr2 Rw1 So1 Fm1 Fm2 Fm3 Fm4 Sc0 Sc1 Sc2 Sc3 Sc4 Sc5, one behind the other.
-/
import Derived.Test.YtngjiggplabfkaaGreatC16
import Derived.Test.YtngjiggplabfkaaGreatC17
import Derived.Test.YtngjiggplabfkaaGreatC2
namespace Go.Proofs.YtngjiggplabfkaaGreat
open Go.Gv

section
variable (n : Nat) (T : Nat → Int) (X : Nat → Nat → Int) (t : Int) (s : Nat → Int) (i : Int) (m : Nat) (el : Nat → List AV)
end
abbrev AF : Type := Nat → (Nat → List AV) → Int → Nat → Int
abbrev AE : Type := Nat → (Nat → List AV) → Int
def kmG (fe : AE) : List AV → AV
  | [.sl _ n el] => iA (fe n el)
  | _ => .any
section
variable (fa : AF) (fe fm : AE) (n : Nat) (T : Nat → Int) (X : Nat → Nat → Int) (t : Int) (s : Nat → Int)
end
end Go.Proofs.YtngjiggplabfkaaGreat

namespace Go.Proofs.YtngjiggplabfkaaGreat
open Go.Gv

section
variable (T : Nat → Int) (X : Nat → Nat → Int)
/-- What is wrong with a key. -/
def kbad (i : Nat) : Int := cond (decide (T i < 0) || (decide (T i > 1000000) || (decide (0 < i) && decide (T i ≤ T (i - 1))))) 6 (cond (allI 3 fun c => decide (-1000000 ≤ X i c) && decide (X i c ≤ 1000000)) 0 1)
def kmF : Nat → Int
  | 0 => 0
  | i + 1 => cond (kmF i == 0) (kbad T X i) (kmF i)
def kmay (n : Nat) : Int := cond (decide (n < 1) || decide (32 < n)) 5 (kmF T X n)
def ipV (t : Int) (c k : Nat) : Int := X k c + (2 * (X (k + 1) c - X k c) * (t - T k) + (T (k + 1) - T k)) / (2 * (T (k + 1) - T k))
def katR (n : Nat) (t : Int) (c : Nat) : Nat → Nat → Int
  | 0, _ => X (n - 1) c
  | f + 1, i => cond (decide (t < T i)) (ipV T X t c (i - 1)) (katR n t c f (i + 1))
def kat0 (n : Nat) (t : Int) (c : Nat) : Int := cond (decide (t ≤ T 0)) (X 0 c) (katR T X n t c (n - 1) 1)
def kat (n : Nat) (t : Int) (c : Nat) : Int := cond (kmay T X n == 0) (kat0 T X n t c) 0
end
structure KOkK (n : Nat) (T : Nat → Int) : Prop where
  n1 : 1 ≤ n
  n32 : n ≤ 32
  up : ∀ i, i + 1 < n → T i < T (i + 1)
theorem kmF_zero {T : Nat → Int} {X : Nat → Nat → Int} : ∀ n, kmF T X n = 0 → ∀ i, i < n → kbad T X i = 0
  | 0, _, i, hi => absurd hi (Nat.not_lt_zero i)
  | n + 1, h, i, hi => by
    have h : cond (kmF T X n == 0) (kbad T X n) (kmF T X n) = 0 := h
    by_cases h0 : kmF T X n = 0
    · rw [h0] at h
      have h : kbad T X n = 0 := h
      by_cases hin : i = n
      · subst hin; exact h
      · exact kmF_zero n h0 i (by omega)
    · rw [beq_false_of_ne h0] at h
      exact absurd h h0
theorem kmay_zero {n : Nat} {T : Nat → Int} {X : Nat → Nat → Int} (h : kmay T X n = 0) : KOkK n T := by
  unfold kmay at h
  by_cases h1 : n < 1
  · rw [decide_eq_true h1] at h; cases h
  · by_cases h2 : 32 < n
    · rw [decide_eq_false h1, decide_eq_true h2] at h; cases h
    · rw [decide_eq_false h1, decide_eq_false h2] at h
      have h : kmF T X n = 0 := h
      refine ⟨by omega, by omega, fun i hi => ?_⟩
      have hb := kmF_zero n h (i + 1) hi
      unfold kbad at hb
      by_cases hc : T (i + 1) ≤ T i
      · rw [show i + 1 - 1 = i by omega, decide_eq_true hc, decide_eq_true (show 0 < i + 1 by omega)] at hb
        simp at hb
      · omega
theorem ip_zero {s S D : Int} (hS : 0 < S) (h : D * s = 0) : (2 * D * s + S) / (2 * S) = 0 := by
  rw [Int.mul_assoc, h, Int.mul_zero, Int.zero_add]
  exact Int.ediv_eq_zero_of_lt (by omega) (by omega)
end Go.Proofs.YtngjiggplabfkaaGreat

namespace Go.Proofs.YtngjiggplabfkaaGreat
open Go.Gv

def k1 : AV → Int
  | .x (.int .i64 n) => n
  | _ => 0
def tOf (el : Nat → List AV) (i : Nat) : Int := k1 ((el i).getD 0 .any)
def xOf (el : Nat → List AV) (i c : Nat) : Int := k1 ((el i).getD (c + 1) .any)
def feE : AE := fun n el => kmay (tOf el) (xOf el) n
end Go.Proofs.YtngjiggplabfkaaGreat

namespace Go.Proofs.YtngjiggplabfkaaGreat
open Go.Gv

def dwV (n d : Int) : Int := cond (decide (n.tmod d < 0)) (w64 (w64 (n.tdiv d) - 1)) (w64 (n.tdiv d))
theorem dw_ev (n d : Int) : ev Tryz.prog [] [] noL Tryz.f59 [iA n, iA d] ret =
    cond ((!(d == 0)) && true) (cond (decide (n.tmod d < 0)) (cond ((!(d == 0)) && true) (some (Out.of (iA (w64 (w64 (n.tdiv d) - 1))))) none) (cond ((!(d == 0)) && true) (some (Out.of (iA (w64 (n.tdiv d))))) none)) none := by kernel_rfl
theorem dw_spec {n d : Int} (hd : d ≠ 0) : FSpec Tryz.prog 59 [iA n, iA d] (iA (dwV n d)) := by
  refine gspec e_nil k_nil Tryz.func59 (by kernel_rfl) (by kernel_rfl) noL_ok rfl ((dw_ev n d).trans ?_)
  rw [beq_false_of_ne hd]
  unfold dwV
  cases decide (n.tmod d < 0) <;> rfl
def dwG (f : Int → Int → Int) : List AV → AV
  | [.x (.int .i64 n), .x (.int .i64 d)] => iA (f n d)
  | _ => .any
theorem ne_ev (f : Int → Int → Int) (n d : Int) : ev Tryz.prog [] [kS Tryz.prog 59 (dwG f)] noL Tryz.f33 [iA n, iA d] ret =
    gate (FSpec Tryz.prog 59 [iA (w64 (w64 (2 * n) + d)), iA (w64 (2 * d))] (iA (f (w64 (w64 (2 * n) + d)) (w64 (2 * d))))) (some (Out.of (iA (f (w64 (w64 (2 * n) + d)) (w64 (2 * d)))))) := by kernel_rfl
def neV (n d : Int) : Int := (2 * n + d) / (2 * d)
theorem dwV_eq {n d : Int} (hd : 0 < d) (h0 : -4000000000000000000 ≤ n) (h1 : n ≤ 4000000000000000000) : dwV n d = n / d := by
  unfold dwV
  by_cases hn : 0 ≤ n
  · have e1 : n.tmod d = n % d := Int.tmod_eq_emod_of_nonneg hn
    have e2 : n.tdiv d = n / d := Int.tdiv_eq_ediv_of_nonneg hn
    have a := Int.emod_nonneg n (show d ≠ 0 by omega)
    have b := Int.ediv_nonneg hn (show 0 ≤ d by omega)
    have c := Int.ediv_le_self d hn
    rw [e1, e2, decide_eq_false (by omega), cond_false, w64_id (by omega) (by omega)]
  · have e1 : n.tmod d = -((-n) % d) := by rw [← Int.tmod_eq_emod_of_nonneg (show 0 ≤ -n by omega), Int.neg_tmod, Int.neg_neg]
    have e2 : n.tdiv d = -((-n) / d) := by rw [← Int.tdiv_eq_ediv_of_nonneg (show 0 ≤ -n by omega), Int.neg_tdiv, Int.neg_neg]
    have a := Int.emod_nonneg (-n) (show d ≠ 0 by omega)
    have a' := Int.emod_lt_of_pos (-n) hd
    have b := Int.ediv_nonneg (show 0 ≤ -n by omega) (show 0 ≤ d by omega)
    have c := Int.ediv_le_self d (show 0 ≤ -n by omega)
    have m := Int.mul_ediv_add_emod (-n) d
    rw [e1, e2]
    generalize hq : (-n) / d = q at *
    generalize hr : (-n) % d = r at *
    by_cases hz : r = 0
    · subst hz
      rw [decide_eq_false (by omega), cond_false, w64_id (by omega) (by omega)]
      symm
      refine (Int.ediv_eq_iff_of_pos hd).2 ?_
      have : d * -q = -(d * q) := Int.mul_neg d q
      constructor <;> grind
    · rw [decide_eq_true (by omega), cond_true, w64_id (n := -q) (by omega) (by omega), w64_id (by omega) (by omega)]
      symm
      refine (Int.ediv_eq_iff_of_pos hd).2 ?_
      constructor <;> grind
theorem ne_spec {n d : Int} (hd : 0 < d) (hd1 : d ≤ 1000000) (h0 : -2000000000000 ≤ n) (h1 : n ≤ 2000000000000) : FSpec Tryz.prog 33 [iA n, iA d] (iA (neV n d)) := by
  refine gspec e_nil (k_cons (kS_ok (P := Tryz.prog) (f := 59) (g := dwG dwV)) k_nil) Tryz.func33 (by kernel_rfl) (by kernel_rfl) noL_ok rfl ((ne_ev dwV n d).trans ?_)
  rw [w64_id (n := 2 * n) (by omega) (by omega), w64_id (n := 2 * n + d) (by omega) (by omega), w64_id (n := 2 * d) (by omega) (by omega), gate_pos (dw_spec (by omega)), dwV_eq (by omega) (by omega) (by omega)]
  rfl
def nrB (x : Int) : Bool := cond (decide (x < -1000000)) true (decide (x > 1000000))
def nrV (x y z : Int) : Bool := cond (nrB x) false (cond (nrB y) false (cond (nrB z) false true))
theorem nr_ev (x y z : Int) : ev Tryz.prog [] [] noL Tryz.f17 [.agg [iA x, iA y, iA z]] ret =
    cond (nrB x) (some (Out.of (bA false))) (cond (nrB y) (some (Out.of (bA false))) (cond (nrB z) (some (Out.of (bA false))) (some (Out.of (bA true))))) := by kernel_rfl
theorem nr_spec (x y z : Int) : FSpec Tryz.prog 17 [.agg [iA x, iA y, iA z]] (bA (nrV x y z)) := by
  refine gspec e_nil k_nil Tryz.func17 (by kernel_rfl) (by kernel_rfl) noL_ok rfl ((nr_ev x y z).trans ?_)
  unfold nrV
  cases nrB x <;> cases nrB y <;> cases nrB z <;> rfl
def nrG (f : Int → Int → Int → Bool) : List AV → Option AV
  | [.agg [.x (.int .i64 x), .x (.int .i64 y), .x (.int .i64 z)]] => some (bA (f x y z))
  | _ => none
theorem nrG_ok : EOk Tryz.prog ⟨17, nrG nrV⟩ := fun args r hr => by
  simp only [nrG] at hr
  split at hr
  · cases hr; exact Or.inl (nr_spec _ _ _)
  · cases hr
section
variable (f : Int → Int → Int) (ta a0 a1 a2 tb b0 b1 b2 t : Int)
def neG (f : Int → Int → Int) : List AV → AV
  | [.x (.int .i64 n), .x (.int .i64 d)] => iA (f n d)
  | _ => .any
def bwN (a b : Int) : Int := w64 (w64 (b - a) * w64 (t - ta))
def bwD : Int := w64 (tb - ta)
abbrev NEok (a b : Int) : Prop := FSpec Tryz.prog 33 [iA (bwN ta t a b), iA (bwD ta tb)] (iA (f (bwN ta t a b) (bwD ta tb)))
def bwV (a b : Int) : Int := w64 (a + f (bwN ta t a b) (bwD ta tb))
theorem bw_ev : ev Tryz.prog [] [kS Tryz.prog 33 (neG f)] noL Tryz.f15 [.agg [iA ta, iA a0, iA a1, iA a2], .agg [iA tb, iA b0, iA b1, iA b2], iA t] ret =
    gate (NEok f ta tb t a0 b0) (gate (NEok f ta tb t a1 b1) (gate (NEok f ta tb t a2 b2) (some (Out.of (.agg [iA (bwV f ta tb t a0 b0), iA (bwV f ta tb t a1 b1), iA (bwV f ta tb t a2 b2)]))))) := by kernel_rfl
end
end Go.Proofs.YtngjiggplabfkaaGreat

namespace Go.Proofs.YtngjiggplabfkaaGreat
open Go.Gv

def kmS (n : Nat) (T : Nat → Int) (X : Nat → Nat → Int) (ah i : Int) : St := mkS 36 [(3, iA ah), (14, kSl n T X), (15, iA n), (16, iA i)] []
def kmE (r : Int) : St := mkS 36 [(2, iA r)] []
section
variable (nf : Int → Int → Int → Bool) (n : Nat) (T : Nat → Int) (X : Nat → Nat → Int) (ah i : Int)
def kmC (o6 o1 o0 oe : Option Out) : Option Out := cond (decide (i < n)) (cond (ixB i n || false) (cond (cond (decide (T i.toNat ≤ ah)) true (decide (T i.toNat > 1000000))) o6 (cond (!(nf (X i.toNat 0) (X i.toNat 1) (X i.toNat 2))) o1 o0)) none) oe
theorem km_step : evC Tryz.prog [⟨17, nrG nf⟩] [] noL (loopAt Tryz.f8 0) (kmS n T X ah i) (finN [3, 14, 15, 16] []) =
    kmC nf n T X ah i none none (some ⟨.normal, kmS n T X (T i.toNat) (w64 (i + 1)), .any⟩) none := by kernel_rfl
theorem km_ret : evC Tryz.prog [⟨17, nrG nf⟩] [] noL (loopAt Tryz.f8 0) (kmS n T X ah i) (finR [2] []) =
    kmC nf n T X ah i (some ⟨.ret, kmE 6, .any⟩) (some ⟨.ret, kmE 1, .any⟩) none none := by kernel_rfl
theorem km_end : evC Tryz.prog [⟨17, nrG nf⟩] [] noL (loopAt Tryz.f8 0) (kmS n T X ah i) (finE [3, 14, 15, 16] []) =
    kmC nf n T X ah i none none none (some ⟨.exit 0, kmS n T X ah i, .any⟩) := by kernel_rfl
noncomputable def kmL (ah' : Int) : LFun := toldF [3, 14, 15, 16] [] (kmS n T X (-1) 0) (.exit 0) (kmS n T X ah' (n : Nat))
noncomputable def kmLr (r : Int) : LFun := toldF [3, 14, 15, 16] [] (kmS n T X (-1) 0) .ret (kmE r)
def kmX (R : Option Out) : Option Out := cond (cond (decide ((n : Int) < 1)) true (decide ((n : Int) > 32))) (some (Out.of (iA 5))) R
theorem km_evG (ah' : Int) : ev Tryz.prog [⟨17, nrG nf⟩] [] (oneL 5 (kmL n T X ah')) Tryz.f8 [kSl n T X] ret = kmX n (gate (Sub (kmS n T X (-1) 0) (kmS n T X (-1) 0)) (some (Out.of (iA 0)))) := by kernel_rfl
theorem km_evR (r : Int) : ev Tryz.prog [⟨17, nrG nf⟩] [] (oneL 5 (kmLr n T X r)) Tryz.f8 [kSl n T X] ret = kmX n (gate (Sub (kmS n T X (-1) 0) (kmS n T X (-1) 0)) (some (Out.of (iA r)))) := by kernel_rfl
end
abbrev BF : Type := (Nat → Int) → (Nat → Int) → Int → Nat → Int
def v4 (l : List AV) (i : Nat) : Int := k1 (l.getD i .any)
def bwG (bf : BF) : List AV → AV
  | [.agg a, .agg b, .x (.int .i64 t)] => .agg (l3 (bf (v4 a) (v4 b) t))
  | _ => .any
def kyL (T : Nat → Int) (X : Nat → Nat → Int) (i : Nat) : List AV := [iA (T i), iA (X i 0), iA (X i 1), iA (X i 2)]
def atS (n : Nat) (T : Nat → Int) (X : Nat → Nat → Int) (t i : Int) : St := mkS 46 [(0, kSl n T X), (1, iA t), (4, .own 0 0), (5, iA 0), (15, kSl n T X), (16, iA n), (17, iA i)] [.c (l3 fun _ => 0)]
def atE (v : Nat → Int) : St := mkS 46 [(4, .own 0 0), (5, iA 0)] [.c (l3 v)]
section
variable (bf : BF) (mf : AE) (n : Nat) (T : Nat → Int) (X : Nat → Nat → Int) (t i : Int)
abbrev BWok : Prop := FSpec Tryz.prog 15 [.agg (kyL T X (w64 (i - 1)).toNat), .agg (kyL T X i.toNat), iA t] (.agg (l3 (bf (v4 (kyL T X (w64 (i - 1)).toNat)) (v4 (kyL T X i.toNat)) t)))
noncomputable def atC (o0 o1 oc oe : Option Out) : Option Out := cond (decide (i < n)) (cond (ixB i n || false) (cond (decide (T i.toNat < t)) oc (cond (i == 0) o0 (gate (BWok bf T X t i) (cond ((ixB (w64 (i - 1)) n || false) && true) o1 none)))) none) oe
theorem at_step : evC Tryz.prog [] [kS Tryz.prog 15 (bwG bf)] noL (loopAt Tryz.f6 0) (atS n T X t i) (finN [0, 1, 4, 5, 15, 16, 17] [some 0]) =
    atC bf n T X t i none none (some ⟨.normal, atS n T X t (w64 (i + 1)), .any⟩) none := by kernel_rfl
theorem at_ret : evC Tryz.prog [] [kS Tryz.prog 15 (bwG bf)] noL (loopAt Tryz.f6 0) (atS n T X t i) (finR [4, 5] [some 0]) =
    atC bf n T X t i (some ⟨.ret, atE (X i.toNat), .any⟩) (some ⟨.ret, atE (bf (v4 (kyL T X (w64 (i - 1)).toNat)) (v4 (kyL T X i.toNat)) t), .any⟩) none none := by kernel_rfl
theorem at_end : evC Tryz.prog [] [kS Tryz.prog 15 (bwG bf)] noL (loopAt Tryz.f6 0) (atS n T X t i) (finE [0, 1, 4, 5, 15, 16, 17] [some 0]) =
    atC bf n T X t i none none none (some ⟨.exit 0, atS n T X t i, .any⟩) := by kernel_rfl
noncomputable def atL : LFun := toldF [0, 1, 4, 5, 15, 16, 17] [some 0] (atS n T X t 0) (.exit 0) (atS n T X t (n : Nat))
noncomputable def atLr (v : Nat → Int) : LFun := toldF [0, 1, 4, 5, 15, 16, 17] [some 0] (atS n T X t 0) .ret (atE v)
abbrev MYok : Prop := FSpec Tryz.prog 8 [kSl n T X] (iA (mf n (kEl T X)))
noncomputable def atX (R : Option Out) : Option Out := gate (MYok mf n T X) (cond (!(mf n (kEl T X) == 0)) (some (Out.of (.tup [.agg (l3 fun _ => 0), iA (mf n (kEl T X))]))) R)
theorem at_evG : ev Tryz.prog [] [kS Tryz.prog 8 (kmG mf)] (oneL 5 (atL n T X t)) Tryz.f6 [kSl n T X, iA t] ret = atX mf n T X (gate (Sub (atS n T X t 0) (atS n T X t 0)) (cond ((ixB (w64 ((n : Int) - 1)) n || false)) (some (Out.of (.tup [.agg (l3 (X (w64 ((n : Int) - 1)).toNat)), iA 0]))) none)) := by kernel_rfl
theorem at_evR (v : Nat → Int) : ev Tryz.prog [] [kS Tryz.prog 8 (kmG mf)] (oneL 5 (atLr n T X t v)) Tryz.f6 [kSl n T X, iA t] ret = atX mf n T X (gate (Sub (atS n T X t 0) (atS n T X t 0)) (some (Out.of (.tup [.agg (l3 v), iA 0])))) := by kernel_rfl
theorem at_ev0 : ev Tryz.prog [] [kS Tryz.prog 8 (kmG mf)] (oneL 5 fun _ _ => none) Tryz.f6 [kSl n T X, iA t] ret = atX mf n T X none := by kernel_rfl
end
end Go.Proofs.YtngjiggplabfkaaGreat

namespace Go.Proofs.YtngjiggplabfkaaGreat
open Go.Gv

def ahV (T : Nat → Int) : Nat → Int
  | 0 => -1
  | i + 1 => T i
theorem kb6 {T : Nat → Int} {i : Nat} (h : i = 0 ∨ 0 ≤ T (i - 1)) : cond (decide (T i ≤ ahV T i)) true (decide (T i > 1000000)) = (decide (T i < 0) || (decide (T i > 1000000) || (decide (0 < i) && decide (T i ≤ T (i - 1))))) := by
  cases i with
  | zero =>
    show cond (decide (T 0 ≤ -1)) true (decide (T 0 > 1000000)) = (decide (T 0 < 0) || (decide (T 0 > 1000000) || (false && _)))
    by_cases h1 : T 0 < 0
    · rw [decide_eq_true (show T 0 ≤ -1 by omega), decide_eq_true h1]; rfl
    · rw [decide_eq_false (show ¬ T 0 ≤ -1 by omega), decide_eq_false h1]; simp
  | succ i =>
    have h : 0 ≤ T i := by rcases h with h | h; · omega
                           · exact h
    show cond (decide (T (i + 1) ≤ T i)) true (decide (T (i + 1) > 1000000)) = (decide (T (i + 1) < 0) || (decide (T (i + 1) > 1000000) || (decide (0 < i + 1) && decide (T (i + 1) ≤ T i))))
    by_cases h1 : T (i + 1) ≤ T i
    · rw [decide_eq_true h1, decide_eq_true (show 0 < i + 1 by omega)]; simp
    · rw [decide_eq_false h1, decide_eq_false (show ¬ T (i + 1) < 0 by omega)]; simp
theorem nrB_eq (x : Int) : (decide (-1000000 ≤ x) && decide (x ≤ 1000000)) = !nrB x := by
  unfold nrB
  by_cases h1 : x < -1000000
  · rw [decide_eq_true h1, decide_eq_false (by omega)]; rfl
  · rw [decide_eq_false h1, decide_eq_true (by omega)]
    by_cases h2 : x > 1000000
    · rw [decide_eq_true h2, decide_eq_false (by omega)]; rfl
    · rw [decide_eq_false h2, decide_eq_true (by omega)]; rfl
theorem kb1 (g : Nat → Int) : nrV (g 0) (g 1) (g 2) = allI 3 fun c => decide (-1000000 ≤ g c) && decide (g c ≤ 1000000) := by
  unfold nrV
  cases h0 : nrB (g 0)
  · cases h1 : nrB (g 1)
    · cases h2 : nrB (g 2)
      · refine (allI_t fun i hi => ?_).symm
        have : i = 0 ∨ i = 1 ∨ i = 2 := by omega
        rcases this with rfl | rfl | rfl
        · rw [nrB_eq, h0]; rfl
        · rw [nrB_eq, h1]; rfl
        · rw [nrB_eq, h2]; rfl
      · exact (allI_f (K := 2) (by omega) (by rw [nrB_eq, h2]; rfl)).symm
    · exact (allI_f (K := 1) (by omega) (by rw [nrB_eq, h1]; rfl)).symm
  · exact (allI_f (K := 0) (by omega) (by rw [nrB_eq, h0]; rfl)).symm
theorem kbad_eq {T : Nat → Int} {X : Nat → Nat → Int} {i : Nat} (h : i = 0 ∨ 0 ≤ T (i - 1)) : kbad T X i = cond (cond (decide (T i ≤ ahV T i)) true (decide (T i > 1000000))) 6 (cond (!nrV (X i 0) (X i 1) (X i 2)) 1 0) := by
  unfold kbad
  rw [kb6 h, kb1 (X i)]
  cases allI 3 (fun c => decide (-1000000 ≤ X i c) && decide (X i c ≤ 1000000)) <;> rfl
structure KeyIn (T : Nat → Int) (X : Nat → Nat → Int) (i : Nat) : Prop where
  t0 : 0 ≤ T i
  t1 : T i ≤ 1000000
  x : ∀ c, c < 3 → -1000000 ≤ X i c ∧ X i c ≤ 1000000
theorem kbad_in {T : Nat → Int} {X : Nat → Nat → Int} {i : Nat} (h : kbad T X i = 0) : KeyIn T X i := by
  unfold kbad at h
  cases h6 : (decide (T i < 0) || (decide (T i > 1000000) || (decide (0 < i) && decide (T i ≤ T (i - 1)))))
  · rw [h6] at h
    cases h1 : allI 3 (fun c => decide (-1000000 ≤ X i c) && decide (X i c ≤ 1000000))
    · rw [h1] at h; cases h
    · simp only [Bool.or_eq_false_iff, decide_eq_false_iff_not] at h6
      refine ⟨by omega, by omega, fun c hc => ?_⟩
      have := allI_all h1 c hc
      simpa using this
  · rw [h6] at h; cases h
theorem kmF_all {T : Nat → Int} {X : Nat → Nat → Int} : ∀ n, (∀ i, i < n → kbad T X i = 0) → kmF T X n = 0
  | 0, _ => rfl
  | n + 1, h => by
    show cond (kmF T X n == 0) (kbad T X n) (kmF T X n) = 0
    rw [kmF_all n fun i hi => h i (by omega), h n (by omega)]
    rfl
theorem kmF_first {T : Nat → Int} {X : Nat → Nat → Int} {K : Nat} (hK : kbad T X K ≠ 0) (h : ∀ i, i < K → kbad T X i = 0) : ∀ n, K < n → kmF T X n = kbad T X K
  | 0, hn => absurd hn (Nat.not_lt_zero _)
  | n + 1, hn => by
    show cond (kmF T X n == 0) (kbad T X n) (kmF T X n) = _
    by_cases e : K = n
    · subst e
      rw [kmF_all K h]; rfl
    · have := kmF_first hK h n (by omega)
      rw [this, beq_false_of_ne hK]; rfl
theorem prev_in {T : Nat → Int} {X : Nat → Nat → Int} {i : Nat} (h : ∀ j, j < i → kbad T X j = 0) : i = 0 ∨ 0 ≤ T (i - 1) := by
  cases i with
  | zero => exact Or.inl rfl
  | succ i => exact Or.inr (kbad_in (h i (by omega))).t0
theorem kmC_ok {n : Nat} {T : Nat → Int} {X : Nat → Nat → Int} {i : Nat} (hi : i < n) (h : ∀ j, j < i → kbad T X j = 0) {o6 o1 o0 oe : Option Out} : kmC nrV n T X (ahV T i) (i : Nat) o6 o1 o0 oe = cond (kbad T X i == 0) o0 (cond (kbad T X i == 6) o6 o1) := by
  unfold kmC
  rw [dec_lt hi, ixB_t hi, Int.toNat_natCast, kbad_eq (prev_in h)]
  cases cond (decide (T i ≤ ahV T i)) true (decide (T i > 1000000)) <;> cases nrV (X i 0) (X i 1) (X i 2) <;> rfl
theorem km_good {n : Nat} {T : Nat → Int} {X : Nat → Nat → Int} (hn : n ≤ 32) (h : ∀ i, i < n → kbad T X i = 0) : Leads Tryz.prog (.loop (loopAt Tryz.f8 0)) (kmS n T X (-1) 0) (.exit 0) (kmS n T X (ahV T n) (n : Nat)) := by
  refine loop_rule (fun k => kmS n T X (ahV T k) (k : Nat)) n (.exit 0) _ (by simp) (fun k hk => ?_) ?_
  · refine leads_ev (finN_sub _ _) (e_cons nrG_ok e_nil) k_nil noL_ok ((km_step nrV n T X (ahV T k) (k : Nat)).trans ?_)
    rw [kmC_ok hk (fun j hj => h j (by omega)), h k hk, w64_next (by omega), Int.toNat_natCast]
    rfl
  · refine leads_ev (finE_sub _ _) (e_cons nrG_ok e_nil) k_nil noL_ok ((km_end nrV n T X (ahV T n) (n : Nat)).trans ?_)
    unfold kmC
    rw [dec_self, cond_false]
theorem km_bad {n : Nat} {T : Nat → Int} {X : Nat → Nat → Int} (hn : n ≤ 32) {K : Nat} (hK : K < n) (hb : kbad T X K ≠ 0) (h : ∀ i, i < K → kbad T X i = 0) : Leads Tryz.prog (.loop (loopAt Tryz.f8 0)) (kmS n T X (-1) 0) .ret (kmE (kbad T X K)) := by
  refine loop_rule (fun k => kmS n T X (ahV T k) (k : Nat)) K .ret _ (by simp) (fun k hk => ?_) ?_
  · refine leads_ev (finN_sub _ _) (e_cons nrG_ok e_nil) k_nil noL_ok ((km_step nrV n T X (ahV T k) (k : Nat)).trans ?_)
    rw [kmC_ok (by omega) (fun j hj => h j (by omega)), h k hk, w64_next (by omega), Int.toNat_natCast]
    rfl
  · refine leads_ev (finR_sub _ _) (e_cons nrG_ok e_nil) k_nil noL_ok ((km_ret nrV n T X (ahV T K) (K : Nat)).trans ?_)
    rw [kmC_ok hK h, beq_false_of_ne hb]
    have hv := kbad_eq (X := X) (prev_in h)
    revert hb hv
    generalize kbad T X K = b
    cases cond (decide (T K ≤ ahV T K)) true (decide (T K > 1000000)) <;> cases nrV (X K 0) (X K 1) (X K 2)
    · intro hb hv; have hv : b = 1 := hv; subst hv; rfl
    · intro hb hv; exact absurd hv hb
    · intro hb hv; have hv : b = 6 := hv; subst hv; rfl
    · intro hb hv; have hv : b = 6 := hv; subst hv; rfl
theorem kmX_eq (n : Nat) (T : Nat → Int) (X : Nat → Nat → Int) (R : Option Out) (hR : ¬ (n < 1 ∨ 32 < n) → R = some (Out.of (iA (kmF T X n)))) : kmX n R = some (Out.of (iA (kmay T X n))) := by
  unfold kmX kmay
  by_cases h1 : n < 1
  · rw [decide_eq_true h1, decide_eq_true (show (n : Int) < 1 by omega)]; rfl
  · by_cases h2 : 32 < n
    · rw [decide_eq_false h1, decide_eq_true h2, decide_eq_false (show ¬ (n : Int) < 1 by omega), decide_eq_true (show (n : Int) > 32 by omega)]; rfl
    · rw [decide_eq_false h1, decide_eq_false h2, decide_eq_false (show ¬ (n : Int) < 1 by omega), decide_eq_false (show ¬ (n : Int) > 32 by omega), hR (by omega)]; rfl
theorem km_ev0 (n : Nat) (T : Nat → Int) (X : Nat → Nat → Int) : ev Tryz.prog [⟨17, nrG nrV⟩] [] (oneL 5 fun _ _ => none) Tryz.f8 [kSl n T X] ret = kmX n none := by kernel_rfl
theorem km_spec (n : Nat) (T : Nat → Int) (X : Nat → Nat → Int) : FSpec Tryz.prog 8 [kSl n T X] (iA (kmay T X n)) := by
  by_cases hc : n < 1 ∨ 32 < n
  · refine gspec (e_cons nrG_ok e_nil) k_nil Tryz.func8 (by kernel_rfl) (by kernel_rfl) (lok_none 5) rfl ((km_ev0 n T X).trans (kmX_eq n T X _ fun h => absurd hc h))
  · have hn : n ≤ 32 := by omega
    rcases all_or_first (fun i => kbad T X i == 0) n with hl | ⟨K, hK, hp, hq⟩
    · have hl' : ∀ i, i < n → kbad T X i = 0 := fun i hi => by simpa using hl i hi
      have l1 := lok_at (c := bodyOf Tryz.f8) (i := 5) 0 1 (by kernel_rfl) (by kernel_rfl) (toldF_sound (keep := [3, 14, 15, 16]) (τ := []) (km_good hn hl'))
      refine gspec (e_cons nrG_ok e_nil) k_nil Tryz.func8 (by kernel_rfl) (by kernel_rfl) l1 rfl ((km_evG nrV n T X (ahV T n)).trans (kmX_eq n T X _ fun _ => ?_))
      rw [gate_pos (Sub.refl _), kmF_all n hl']
    · have hb : kbad T X K ≠ 0 := by simpa using hp
      have hq' : ∀ i, i < K → kbad T X i = 0 := fun i hi => by simpa using hq i hi
      have l1 := lok_at (c := bodyOf Tryz.f8) (i := 5) 0 1 (by kernel_rfl) (by kernel_rfl) (toldF_sound (keep := [3, 14, 15, 16]) (τ := []) (km_bad hn hK hb hq'))
      refine gspec (e_cons nrG_ok e_nil) k_nil Tryz.func8 (by kernel_rfl) (by kernel_rfl) l1 rfl ((km_evR nrV n T X (kbad T X K)).trans (kmX_eq n T X _ fun _ => ?_))
      rw [gate_pos (Sub.refl _), kmF_first hb hq' n hK]
theorem div_le {n d B : Int} (hd : 0 < d) (h0 : -B ≤ n) (h1 : n ≤ B) : -B ≤ n / d ∧ n / d ≤ B := by
  constructor
  · refine (Int.le_ediv_iff_mul_le hd).2 (Int.le_trans ?_ h0)
    have : 0 ≤ B := by omega
    have := Int.mul_le_mul_of_nonneg_left (show (1 : Int) ≤ d by omega) this
    rw [Int.neg_mul]; omega
  · refine Int.lt_add_one_iff.1 (Int.ediv_lt_of_lt_mul hd ?_)
    have : 0 ≤ B + 1 := by omega
    have := Int.mul_le_mul_of_nonneg_left (show (1 : Int) ≤ d by omega) this
    omega
theorem mul_abs {a b A B : Int} (h0 : -A ≤ a) (h1 : a ≤ A) (g0 : 0 ≤ b) (g1 : b ≤ B) : -(A * B) ≤ a * b ∧ a * b ≤ A * B := by
  have hA : 0 ≤ A := by omega
  have k1 : a * b ≤ A * b := Int.mul_le_mul_of_nonneg_right h1 g0
  have k2 : A * b ≤ A * B := Int.mul_le_mul_of_nonneg_left g1 hA
  have k3 : -A * b ≤ a * b := Int.mul_le_mul_of_nonneg_right h0 g0
  rw [Int.neg_mul] at k3
  omega
theorem bwV_eq {ta tb t a b : Int} (h0 : 0 ≤ ta) (h1 : tb ≤ 1000000) (h2 : ta < tb) (h3 : ta ≤ t) (h4 : t ≤ tb) (ha : -1000000 ≤ a ∧ a ≤ 1000000) (hb : -1000000 ≤ b ∧ b ≤ 1000000) :
    NEok neV ta tb t a b ∧ bwV neV ta tb t a b = a + (2 * (b - a) * (t - ta) + (tb - ta)) / (2 * (tb - ta)) := by
  have m := mul_abs (a := b - a) (b := t - ta) (A := 2000000) (B := 1000000) (by omega) (by omega) (by omega) (by omega)
  have en : bwN ta t a b = (b - a) * (t - ta) := by
    unfold bwN
    rw [w64_id (n := b - a) (by omega) (by omega), w64_id (n := t - ta) (by omega) (by omega), w64_id (by omega) (by omega)]
  have ed : bwD ta tb = tb - ta := by unfold bwD; rw [w64_id (by omega) (by omega)]
  constructor
  · unfold NEok
    rw [en, ed]
    exact ne_spec (by omega) (by omega) (by omega) (by omega)
  · unfold bwV
    rw [en, ed]
    unfold neV
    have := div_le (n := 2 * ((b - a) * (t - ta)) + (tb - ta)) (d := 2 * (tb - ta)) (B := 4000001000000) (by omega) (by omega) (by omega)
    rw [w64_id (by omega) (by omega), Int.mul_assoc 2 (b - a)]
def bwF : BF := fun a b t c => bwV neV (a 0) (b 0) t (a (c + 1)) (b (c + 1))
theorem bw_spec {T : Nat → Int} {X : Nat → Nat → Int} {k : Nat} {t : Int} (ka : KeyIn T X k) (kb : KeyIn T X (k + 1)) (h2 : T k < T (k + 1)) (h3 : T k ≤ t) (h4 : t ≤ T (k + 1)) :
    FSpec Tryz.prog 15 [.agg (kyL T X k), .agg (kyL T X (k + 1)), iA t] (.agg (l3 (bwF (v4 (kyL T X k)) (v4 (kyL T X (k + 1))) t))) := by
  have e := fun c hc => bwV_eq ka.t0 kb.t1 h2 h3 h4 (ka.x c hc) (kb.x c hc)
  refine gspec e_nil (k_cons (kS_ok (P := Tryz.prog) (f := 33) (g := neG neV)) k_nil) Tryz.func15 (by kernel_rfl) (by kernel_rfl) noL_ok rfl ((bw_ev neV (T k) (X k 0) (X k 1) (X k 2) (T (k + 1)) (X (k + 1) 0) (X (k + 1) 1) (X (k + 1) 2) t).trans ?_)
  rw [gate_pos (e 0 (by omega)).1, gate_pos (e 1 (by omega)).1, gate_pos (e 2 (by omega)).1]
  rfl
theorem bwF_ip {T : Nat → Int} {X : Nat → Nat → Int} {k : Nat} {t : Int} (ka : KeyIn T X k) (kb : KeyIn T X (k + 1)) (h2 : T k < T (k + 1)) (h3 : T k ≤ t) (h4 : t ≤ T (k + 1)) : ∀ c, c < 3 → bwF (v4 (kyL T X k)) (v4 (kyL T X (k + 1))) t c = ipV T X t c k
  | 0, _ => (bwV_eq ka.t0 kb.t1 h2 h3 h4 (ka.x 0 (by omega)) (kb.x 0 (by omega))).2
  | 1, _ => (bwV_eq ka.t0 kb.t1 h2 h3 h4 (ka.x 1 (by omega)) (kb.x 1 (by omega))).2
  | 2, _ => (bwV_eq ka.t0 kb.t1 h2 h3 h4 (ka.x 2 (by omega)) (kb.x 2 (by omega))).2
  | _ + 3, h => absurd h (by omega)
theorem katR_skip {T : Nat → Int} {X : Nat → Nat → Int} {n : Nat} {t : Int} {c : Nat} : ∀ m f i, (∀ j, i ≤ j → j < i + m → ¬ t < T j) → katR T X n t c (m + f) i = katR T X n t c f (i + m)
  | 0, f, i, _ => by rw [Nat.zero_add, Nat.add_zero]
  | m + 1, f, i, h => by
    rw [show m + 1 + f = (m + f) + 1 by omega]
    show cond (decide (t < T i)) _ (katR T X n t c (m + f) (i + 1)) = _
    rw [decide_eq_false (h i (by omega) (by omega)), cond_false, katR_skip m f (i + 1) fun j h1 h2 => h j (by omega) (by omega), show i + 1 + m = i + (m + 1) by omega]
theorem ip_end {T : Nat → Int} {X : Nat → Nat → Int} {k c : Nat} {t : Int} (h2 : T k < T (k + 1)) (ht : t = T (k + 1)) : ipV T X t c k = X (k + 1) c := by
  subst ht
  unfold ipV
  generalize hS : T (k + 1) - T k = S
  generalize hD : X (k + 1) c - X k c = D
  have : (2 * D * S + S) / (2 * S) = D := by
    rw [show 2 * D * S + S = S + 2 * S * D by grind, Int.add_mul_ediv_left _ _ (show 2 * S ≠ 0 by omega), Int.ediv_eq_zero_of_lt (by omega) (by omega)]
    omega
  omega
/-- The first key that is not ahead of the time. -/
theorem kat_first {n : Nat} {T : Nat → Int} {X : Nat → Nat → Int} (ok : KOkK n T) {t : Int} {k : Nat} (hk : k + 1 < n) (h1 : ∀ i, i ≤ k → T i < t) (h2 : t ≤ T (k + 1)) (c : Nat) : kat0 T X n t c = ipV T X t c k := by
  unfold kat0
  have := h1 0 (by omega)
  rw [decide_eq_false (show ¬ t ≤ T 0 by omega), cond_false, show n - 1 = k + (n - 1 - k) by omega]
  rw [katR_skip k (n - 1 - k) 1 fun j g1 g2 => by have := h1 j (by omega); omega, show n - 1 - k = (n - 2 - k) + 1 by omega, show 1 + k = k + 1 by omega]
  show cond (decide (t < T (k + 1))) (ipV T X t c (k + 1 - 1)) (katR T X n t c (n - 2 - k) (k + 1 + 1)) = _
  by_cases e : t < T (k + 1)
  · rw [decide_eq_true e, cond_true, show k + 1 - 1 = k by omega]
  · have et : t = T (k + 1) := by omega
    rw [decide_eq_false e, cond_false, ip_end (ok.up k hk) et]
    by_cases hn : k + 2 = n
    · subst hn
      rw [show k + 2 - 2 - k = 0 by omega]
      show X (k + 2 - 1) c = _
      rw [show k + 2 - 1 = k + 1 by omega]
    · rw [show n - 2 - k = (n - 3 - k) + 1 by omega]
      show cond (decide (t < T (k + 1 + 1))) (ipV T X t c (k + 1 + 1 - 1)) _ = _
      have up := ok.up (k + 1) (by omega)
      rw [decide_eq_true (by omega), cond_true, show k + 1 + 1 - 1 = k + 1 by omega]
      unfold ipV
      rw [ip_zero (by omega) (by rw [et, Int.sub_self, Int.mul_zero])]
      omega
theorem l3_eq {a b : Nat → Int} (h : ∀ c, c < 3 → a c = b c) : l3 a = l3 b := by
  unfold l3
  rw [h 0 (by omega), h 1 (by omega), h 2 (by omega)]
theorem atC_go {n : Nat} {T : Nat → Int} {X : Nat → Nat → Int} {t : Int} {i : Nat} (hi : i < n) (h : T i < t) {o0 o1 oc oe : Option Out} : atC bwF n T X t (i : Nat) o0 o1 oc oe = oc := by
  unfold atC
  rw [dec_lt hi, ixB_t hi, Int.toNat_natCast, decide_eq_true h]
  rfl
theorem at_good {n : Nat} (hn : n ≤ 32) {T : Nat → Int} {X : Nat → Nat → Int} {t : Int} (h : ∀ i, i < n → T i < t) : Leads Tryz.prog (.loop (loopAt Tryz.f6 0)) (atS n T X t 0) (.exit 0) (atS n T X t (n : Nat)) := by
  refine loop_rule (fun k => atS n T X t (k : Nat)) n (.exit 0) _ (by simp) (fun k hk => ?_) ?_
  · refine leads_ev (finN_sub _ _) e_nil (k_cons (kS_ok (P := Tryz.prog) (f := 15) (g := bwG bwF)) k_nil) noL_ok ((at_step bwF n T X t (k : Nat)).trans ?_)
    rw [atC_go hk (h k hk), w64_next (by omega)]
  · refine leads_ev (finE_sub _ _) e_nil (k_cons (kS_ok (P := Tryz.prog) (f := 15) (g := bwG bwF)) k_nil) noL_ok ((at_end bwF n T X t (n : Nat)).trans ?_)
    unfold atC
    rw [dec_self, cond_false]
theorem at_zero {n : Nat} (hn : 1 ≤ n) {T : Nat → Int} {X : Nat → Nat → Int} {t : Int} (h : t ≤ T 0) : Leads Tryz.prog (.loop (loopAt Tryz.f6 0)) (atS n T X t 0) .ret (atE (X 0)) := by
  refine loop_rule (fun k => atS n T X t (k : Nat)) 0 .ret _ (by simp) (fun k hk => absurd hk (by omega)) ?_
  refine leads_ev (finR_sub _ _) e_nil (k_cons (kS_ok (P := Tryz.prog) (f := 15) (g := bwG bwF)) k_nil) noL_ok ((at_ret bwF n T X t ((0 : Nat) : Int)).trans ?_)
  unfold atC
  rw [dec_lt (show 0 < n by omega), ixB_t (show 0 < n by omega), Int.toNat_natCast, decide_eq_false (by omega)]
  rfl
theorem at_mid {n : Nat} (hn : n ≤ 32) {T : Nat → Int} {X : Nat → Nat → Int} {t : Int} {k : Nat} (hk : k + 1 < n) (ka : KeyIn T X k) (kb : KeyIn T X (k + 1)) (up : T k < T (k + 1)) (h1 : ∀ i, i ≤ k → T i < t) (h2 : t ≤ T (k + 1)) :
    Leads Tryz.prog (.loop (loopAt Tryz.f6 0)) (atS n T X t 0) .ret (atE (bwF (v4 (kyL T X k)) (v4 (kyL T X (k + 1))) t)) := by
  refine loop_rule (fun k => atS n T X t (k : Nat)) (k + 1) .ret _ (by simp) (fun j hj => ?_) ?_
  · refine leads_ev (finN_sub _ _) e_nil (k_cons (kS_ok (P := Tryz.prog) (f := 15) (g := bwG bwF)) k_nil) noL_ok ((at_step bwF n T X t (j : Nat)).trans ?_)
    rw [atC_go (by omega) (h1 j (by omega)), w64_next (by omega)]
  · refine leads_ev (finR_sub _ _) e_nil (k_cons (kS_ok (P := Tryz.prog) (f := 15) (g := bwG bwF)) k_nil) noL_ok ((at_ret bwF n T X t ((k + 1 : Nat) : Int)).trans ?_)
    have hw : w64 (((k + 1 : Nat) : Int) - 1) = (k : Int) := by rw [w64_id (by omega) (by omega)]; omega
    unfold atC BWok
    rw [hw, dec_lt hk, ixB_t hk, ixB_t (show k < n by omega), Int.toNat_natCast, Int.toNat_natCast, decide_eq_false (by omega), beq_false_of_ne (show ((k + 1 : Nat) : Int) ≠ 0 by omega), gate_pos (bw_spec ka kb up (by have := h1 k (by omega); omega) h2)]
    rfl
theorem MYok_of (n : Nat) (T : Nat → Int) (X : Nat → Nat → Int) (hX : xOf (kEl T X) = X) : feE n (kEl T X) = kmay T X n ∧ MYok feE n T X := by
  have e : feE n (kEl T X) = kmay T X n := by unfold feE; rw [hX]; rfl
  exact ⟨e, by unfold MYok; rw [e]; exact km_spec n T X⟩
theorem at_spec0 (n : Nat) (T : Nat → Int) (X : Nat → Nat → Int) (hX : xOf (kEl T X) = X) (t : Int) : FSpec Tryz.prog 6 [kSl n T X, iA t] (.tup [.agg (l3 (kat T X n t)), iA (kmay T X n)]) := by
  obtain ⟨e, hM⟩ := MYok_of n T X hX
  have ks := k_cons (kS_ok (P := Tryz.prog) (f := 8) (g := kmG feE)) k_nil
  by_cases h : kmay T X n = 0
  · have kk := kmay_zero h
    have hn := kk.n32
    have n1 := kk.n1
    have ek : ∀ c, kat T X n t c = kat0 T X n t c := fun c => by unfold kat; rw [h]; rfl
    have hin : ∀ i, i < n → KeyIn T X i := fun i hi => by
      refine kbad_in (kmF_zero n ?_ i hi)
      have h' := h
      unfold kmay at h'
      rw [decide_eq_false (by omega), decide_eq_false (by omega)] at h'
      exact h'
    rcases all_or_first (fun i => decide (T i < t)) n with hl | ⟨K, hK, hp, hq⟩
    · have hl' : ∀ i, i < n → T i < t := fun i hi => by simpa using hl i hi
      have l1 := lok_at (c := bodyOf Tryz.f6) (i := 5) 0 1 (by kernel_rfl) (by kernel_rfl) (toldF_sound (keep := [0, 1, 4, 5, 15, 16, 17]) (τ := [some 0]) (at_good (X := X) hn hl'))
      have hw : w64 ((n : Int) - 1) = ((n - 1 : Nat) : Int) := by rw [w64_id (by omega) (by omega)]; omega
      have ev : l3 (kat T X n t) = l3 (X (n - 1)) := l3_eq fun c _ => by
        rw [ek]
        unfold kat0
        have := hl' 0 (by omega)
        rw [decide_eq_false (by omega), cond_false]
        have := katR_skip (T := T) (X := X) (n := n) (t := t) (c := c) (n - 1) 0 1 fun j g1 g2 => by have := hl' j (by omega); omega
        rw [Nat.add_zero] at this
        rw [this]
        rfl
      refine gspec e_nil ks Tryz.func6 (by kernel_rfl) (by kernel_rfl) l1 rfl ((at_evG feE n T X t).trans ?_)
      unfold atX
      rw [gate_pos hM, e, h, gate_pos (Sub.refl _), hw, ixB_t (show n - 1 < n by omega), Int.toNat_natCast, ev]
      rfl
    · have hp' : ¬ T K < t := by simpa using hp
      have hq' : ∀ i, i < K → T i < t := fun i hi => by simpa using hq i hi
      cases K with
      | zero =>
        have l1 := lok_at (c := bodyOf Tryz.f6) (i := 5) 0 1 (by kernel_rfl) (by kernel_rfl) (toldF_sound (keep := [0, 1, 4, 5, 15, 16, 17]) (τ := [some 0]) (at_zero (T := T) (X := X) (t := t) n1 (by omega)))
        have ev : l3 (kat T X n t) = l3 (X 0) := l3_eq fun c _ => by
          rw [ek]; unfold kat0; rw [decide_eq_true (by omega), cond_true]
        refine gspec e_nil ks Tryz.func6 (by kernel_rfl) (by kernel_rfl) l1 rfl ((at_evR feE n T X t (X 0)).trans ?_)
        unfold atX
        rw [gate_pos hM, e, h, gate_pos (Sub.refl _), ev]
        rfl
      | succ k =>
        have up := kk.up k hK
        have h1 : ∀ i, i ≤ k → T i < t := fun i hi => hq' i (by omega)
        have h1k := h1 k (by omega)
        have l1 := lok_at (c := bodyOf Tryz.f6) (i := 5) 0 1 (by kernel_rfl) (by kernel_rfl) (toldF_sound (keep := [0, 1, 4, 5, 15, 16, 17]) (τ := [some 0]) (at_mid (T := T) (X := X) (t := t) hn hK (hin k (by omega)) (hin (k + 1) hK) up h1 (by omega)))
        have ev : l3 (kat T X n t) = l3 (bwF (v4 (kyL T X k)) (v4 (kyL T X (k + 1))) t) := l3_eq fun c hc => by
          rw [ek, kat_first kk hK h1 (by omega), bwF_ip (hin k (by omega)) (hin (k + 1) hK) up (by omega) (by omega) c hc]
        refine gspec e_nil ks Tryz.func6 (by kernel_rfl) (by kernel_rfl) l1 rfl ((at_evR feE n T X t _).trans ?_)
        unfold atX
        rw [gate_pos hM, e, h, gate_pos (Sub.refl _), ev]
        rfl
  · refine gspec e_nil ks Tryz.func6 (by kernel_rfl) (by kernel_rfl) (lok_none 5) rfl ((at_ev0 feE n T X t).trans ?_)
    have ev : l3 (kat T X n t) = l3 fun _ => 0 := l3_eq fun c _ => by unfold kat; rw [beq_false_of_ne h]; rfl
    unfold atX
    rw [gate_pos hM, e, beq_false_of_ne h, ev]
    rfl
end Go.Proofs.YtngjiggplabfkaaGreat

namespace Go.Ev
open Go.RowKit

/-- A float without its sign. -/
def fabs (x : Nat) : Nat := cond (isNan x) nanB (x % 9223372036854775808)
end Go.Ev
namespace Go.Gv
open Go.RowKit Go.Ev
end Go.Gv
namespace Go.Proofs.YtngjiggplabfkaaGreat.Hs
open Go.Gv
open Go.Ev (cn fadd fsub fmul fdiv fsqrt fneg feq flt fle fgt fge fabs)

abbrev V (a b c : Nat) : AV := .agg [.f a, .f b, .f c]
def nearS (x : Nat) : Bool := cond (fge x 13920209183539462144) (fle x 4696837146684686336) false
def fineS (a b c : Nat) : Bool := cond (cond (nearS a) (nearS b) false) (nearS c) false
def dotS (a b c d e f : Nat) : Nat := fadd (fadd (fmul a d) (fmul b e)) (fmul c f)
def crX (b c e f : Nat) : Nat := fsub (fmul b f) (fmul c e)
def lengthS (a b c : Nat) : Nat := fsqrt (dotS a b c a b c)
def lessS (a b : Nat) : Nat := cond (flt b a) b a
def moreS (a b : Nat) : Nat := cond (fgt b a) b a
def eF (g : Nat → AV) : List AV → Option AV
  | [.f a] => some (g a)
  | _ => none
def eFF (g : Nat → Nat → AV) : List AV → Option AV
  | [.f a, .f b] => some (g a b)
  | _ => none
def eV (g : Nat → Nat → Nat → AV) : List AV → Option AV
  | [.agg [.f a, .f b, .f c]] => some (g a b c)
  | _ => none
def eVV (g : Nat → Nat → Nat → Nat → Nat → Nat → AV) : List AV → Option AV
  | [.agg [.f a, .f b, .f c], .agg [.f d, .f e, .f f]] => some (g a b c d e f)
  | _ => none
def eVF (g : Nat → Nat → Nat → Nat → AV) : List AV → Option AV
  | [.agg [.f a, .f b, .f c], .f d] => some (g a b c d)
  | _ => none
theorem eF_ok {f : Nat} {g : Nat → AV} (h : ∀ a, FSpec Tryz.prog f [.f a] (g a)) : EOk Tryz.prog ⟨f, eF g⟩ := fun args r hr => by
  simp only [eF] at hr
  split at hr
  · cases hr; exact Or.inl (h _)
  · cases hr
theorem eFF_ok {f : Nat} {g : Nat → Nat → AV} (h : ∀ a b, FSpec Tryz.prog f [.f a, .f b] (g a b)) : EOk Tryz.prog ⟨f, eFF g⟩ := fun args r hr => by
  simp only [eFF] at hr
  split at hr
  · cases hr; exact Or.inl (h _ _)
  · cases hr
theorem eV_ok {f : Nat} {g : Nat → Nat → Nat → AV} (h : ∀ a b c, FSpec Tryz.prog f [V a b c] (g a b c)) : EOk Tryz.prog ⟨f, eV g⟩ := fun args r hr => by
  simp only [eV] at hr
  split at hr
  · cases hr; exact Or.inl (h _ _ _)
  · cases hr
theorem eVV_ok {f : Nat} {g : Nat → Nat → Nat → Nat → Nat → Nat → AV} (h : ∀ a b c d e f', FSpec Tryz.prog f [V a b c, V d e f'] (g a b c d e f')) : EOk Tryz.prog ⟨f, eVV g⟩ := fun args r hr => by
  simp only [eVV] at hr
  split at hr
  · cases hr; exact Or.inl (h _ _ _ _ _ _)
  · cases hr
theorem eVF_ok {f : Nat} {g : Nat → Nat → Nat → Nat → AV} (h : ∀ a b c d, FSpec Tryz.prog f [V a b c, .f d] (g a b c d)) : EOk Tryz.prog ⟨f, eVF g⟩ := fun args r hr => by
  simp only [eVF] at hr
  split at hr
  · cases hr; exact Or.inl (h _ _ _ _)
  · cases hr
/-- Six floats, seven floats, as a function of their number. -/
def ls (l : List Nat) : Nat → Nat := fun i => l.getD i 0
abbrev BX (m : Nat → Nat) : AV := .agg [.f (m 0), .f (m 1), .f (m 2), .f (m 3), .f (m 4), .f (m 5)]
def eB (g : (Nat → Nat) → AV) : List AV → Option AV
  | [.agg [.f a, .f b, .f c, .f d, .f e, .f f]] => some (g (ls [a, b, c, d, e, f]))
  | _ => none
def eBB (g : (Nat → Nat) → (Nat → Nat) → AV) : List AV → Option AV
  | [.agg [.f a, .f b, .f c, .f d, .f e, .f f], .agg [.f a', .f b', .f c', .f d', .f e', .f f']] => some (g (ls [a, b, c, d, e, f]) (ls [a', b', c', d', e', f']))
  | _ => none
theorem eB_ok {f : Nat} {g : (Nat → Nat) → AV} (h : ∀ a, FSpec Tryz.prog f [BX a] (g a)) : EOk Tryz.prog ⟨f, eB g⟩ := fun args r hr => by
  simp only [eB] at hr
  split at hr
  · cases hr; exact Or.inl (h (ls [_, _, _, _, _, _]))
  · cases hr
theorem eBB_ok {f : Nat} {g : (Nat → Nat) → (Nat → Nat) → AV} (h : ∀ a b, FSpec Tryz.prog f [BX a, BX b] (g a b)) : EOk Tryz.prog ⟨f, eBB g⟩ := fun args r hr => by
  simp only [eBB] at hr
  split at hr
  · cases hr; exact Or.inl (h (ls [_, _, _, _, _, _]) (ls [_, _, _, _, _, _]))
  · cases hr
theorem sp {l : List Entry} (hl : ∀ e, e ∈ l → EOk Tryz.prog e) {f : Nat} {fn : Func} (hf : Tryz.prog.funcs[f]? = some fn) (hnm : (fn.name == "runtime.NumGoroutine") = false) (hb : fn.body = some (bodyOf fn)) {args : List AV} (hlen : Nat.ble args.length fn.ntmps = true) {r : AV}
    (h : ev Tryz.prog l [] noL fn args ret = some (Out.of r)) : FSpec Tryz.prog f args r := gspec hl k_nil hf hnm hb noL_ok hlen h
end Go.Proofs.YtngjiggplabfkaaGreat.Hs

namespace Go.Ev
open Go.RowKit
theorem run_sqrt (P : Program) (w : World) (b : Nat) : ∃ r w', (Extern.MathSqrt.sqrt #[.float .f64 b]).run P w = .ok (.float .f64 r) w' ∧ (w' = w ∨ w' = w.drew) ∧ cn r = fsqrt (cn b) := by
  have e : Extern.MathSqrt.sqrt #[.float .f64 b] = (match FloatKind.f64.format.sqrt b with
    | some r => (pure (.float .f64 r) : Sem Value)
    | none => do pure (.float .f64 (← choose (.nanBits .f64 b b)))) := rfl
  rw [e]
  unfold fsqrt
  rw [sqrt_cn]
  cases h : Ieee.double.sqrt b with
  | some r =>
    refine ⟨r, w, ?_, Or.inl rfl, ?_⟩
    · have h' : FloatKind.f64.format.sqrt b = some r := h
      simp [h']
    · rw [cn_of_not (isNan_sqrt h)]; rfl
  | none =>
    refine ⟨(Question.nanBits .f64 b b).cut (w.tape w.drawn (.nanBits .f64 b b)), w.drew, ?_, Or.inr rfl, ?_⟩
    · have h' : FloatKind.f64.format.sqrt b = none := h
      simp [h', Question.forced]
    · rw [cn_of_nan (isNan_cut _ _ _)]; rfl
end Go.Ev
namespace Go.Proofs.YtngjiggplabfkaaGreat
open Go.Gv
open Go.Ev (cn fadd fsub fmul fdiv fsqrt fneg feq flt fle fgt fge fabs)
theorem sqrtX {f : Nat} {fn : Func} (hf : Tryz.prog.funcs[f]? = some fn) (hname : (fn.name == "runtime.NumGoroutine") = false) (hb : fn.body.isNone = true) (hn : Extern.findNext fn = none)
    (he : Extern.find fn = some Extern.MathSqrt.sqrt) (a : Nat) : XSpec Tryz.prog f [.f a] (.f (fsqrt a)) := fun E cargs hv => by
  obtain ⟨l⟩ := cargs
  obtain ⟨v, t, e1, h1, h2⟩ := rels_cons.1 hv
  have e2 := rels_nil.1 h2
  obtain ⟨b, rfl, rfl⟩ := rel_f.1 h1
  have e3 : l = [.float .f64 b] := by rw [e2] at e1; exact e1
  subst e3
  obtain ⟨r, w', g1, g2, g3⟩ := Go.Ev.run_sqrt Tryz.prog E.w b
  refine ⟨.float .f64 r, w', ?_, g2, rel_f.2 ⟨r, rfl, g3⟩⟩
  rw [run_callFunc_extern hf hname hb hn he, g1]
  rfl
end Go.Proofs.YtngjiggplabfkaaGreat
namespace Go.Proofs.YtngjiggplabfkaaGreat.Hs
open Go.Gv
open Go.Ev (cn fadd fsub fmul fdiv fsqrt fneg feq flt fle fgt fge fabs)

theorem eSq0_ok : EOk Tryz.prog ⟨104, eF fun x => .f (fsqrt x)⟩ := fun args r hr => by
  simp only [eF] at hr
  split at hr
  · cases hr; exact Or.inr (sqrtX Tryz.func104 (by kernel_rfl) rfl (by kernel_rfl) (by kernel_rfl) _)
  · cases hr
def Sq0 : List Entry := [⟨104, eF fun x => .f (fsqrt x)⟩]
theorem msqrt (x : Nat) : FSpec Tryz.prog 88 [.f x] (.f (fsqrt x)) := sp (l := Sq0) (e_cons eSq0_ok e_nil) Tryz.func88 (by kernel_rfl) (by kernel_rfl) rfl (by kernel_rfl)
theorem vnear (x : Nat) : FSpec Tryz.prog 66 [.f x] (bA (nearS x)) := sp e_nil Tryz.func66 (by kernel_rfl) (by kernel_rfl) rfl (by kernel_rfl)
theorem vadd (a b c d e f : Nat) : FSpec Tryz.prog 47 [V a b c, V d e f] (V (fadd a d) (fadd b e) (fadd c f)) := sp e_nil Tryz.func47 (by kernel_rfl) (by kernel_rfl) rfl (by kernel_rfl)
theorem vsub (a b c d e f : Nat) : FSpec Tryz.prog 68 [V a b c, V d e f] (V (fsub a d) (fsub b e) (fsub c f)) := sp e_nil Tryz.func68 (by kernel_rfl) (by kernel_rfl) rfl (by kernel_rfl)
theorem vover (a b c k : Nat) : FSpec Tryz.prog 87 [V a b c, .f k] (V (fdiv a k) (fdiv b k) (fdiv c k)) := sp e_nil Tryz.func87 (by kernel_rfl) (by kernel_rfl) rfl (by kernel_rfl)
theorem vdot (a b c d e f : Nat) : FSpec Tryz.prog 89 [V a b c, V d e f] (.f (dotS a b c d e f)) := sp e_nil Tryz.func89 (by kernel_rfl) (by kernel_rfl) rfl (by kernel_rfl)
theorem vcross (a b c d e f : Nat) : FSpec Tryz.prog 70 [V a b c, V d e f] (V (crX b c e f) (crX c a f d) (crX a b d e)) := sp e_nil Tryz.func70 (by kernel_rfl) (by kernel_rfl) rfl (by kernel_rfl)
def V1 : List Entry := [⟨88, eF fun x => .f (fsqrt x)⟩, ⟨66, eF fun x => bA (nearS x)⟩, ⟨47, eVV fun a b c d e f => V (fadd a d) (fadd b e) (fadd c f)⟩, ⟨68, eVV fun a b c d e f => V (fsub a d) (fsub b e) (fsub c f)⟩, ⟨87, eVF fun a b c k => V (fdiv a k) (fdiv b k) (fdiv c k)⟩, ⟨89, eVV fun a b c d e f => .f (dotS a b c d e f)⟩, ⟨70, eVV fun a b c d e f => V (crX b c e f) (crX c a f d) (crX a b d e)⟩]
theorem V1_ok : ∀ e, e ∈ V1 → EOk Tryz.prog e := e_cons (eF_ok msqrt) <| e_cons (eF_ok vnear) <| e_cons (eVV_ok vadd) <| e_cons (eVV_ok vsub) <| e_cons (eVF_ok vover) <| e_cons (eVV_ok vdot) <| e_cons (eVV_ok vcross) e_nil
theorem vfine (a b c : Nat) : FSpec Tryz.prog 65 [V a b c] (bA (fineS a b c)) := sp V1_ok Tryz.func65 (by kernel_rfl) (by kernel_rfl) rfl (by kernel_rfl)
theorem vlength (a b c : Nat) : FSpec Tryz.prog 69 [V a b c] (.f (lengthS a b c)) := sp V1_ok Tryz.func69 (by kernel_rfl) (by kernel_rfl) rfl (by kernel_rfl)
def V2 : List Entry := ⟨65, eV fun a b c => bA (fineS a b c)⟩ :: ⟨69, eV fun a b c => .f (lengthS a b c)⟩ :: V1
theorem V2_ok : ∀ e, e ∈ V2 → EOk Tryz.prog e := e_cons (eV_ok vfine) <| e_cons (eV_ok vlength) V1_ok
/-- The errno, and the parts of what has the length 1. -/
def unE (a b c : Nat) : Int := cond (!fineS a b c) 1 (cond (feq (lengthS a b c) 0) 2 0)
def unN (a b c x : Nat) : Nat := cond (!fineS a b c) 0 (cond (feq (lengthS a b c) 0) 0 (fdiv x (lengthS a b c)))
def unV (a b c : Nat) : AV := .tup [V (unN a b c a) (unN a b c b) (unN a b c c), iA (unE a b c)]
def unX (a b c : Nat) : Option Out := cond (!fineS a b c) (some (Out.of (.tup [V 0 0 0, iA 1]))) (cond (feq (lengthS a b c) 0) (some (Out.of (.tup [V 0 0 0, iA 2]))) (some (Out.of (.tup [V (fdiv a (lengthS a b c)) (fdiv b (lengthS a b c)) (fdiv c (lengthS a b c)), iA 0]))))
theorem unX_eq (a b c : Nat) : unX a b c = some (Out.of (unV a b c)) := by
  unfold unX unV unN unE
  cases fineS a b c <;> cases feq (lengthS a b c) 0 <;> rfl
theorem vunit (a b c : Nat) : FSpec Tryz.prog 67 [V a b c] (unV a b c) :=
  sp V2_ok Tryz.func67 (by kernel_rfl) (by kernel_rfl) rfl ((show ev Tryz.prog V2 [] noL Tryz.f67 [V a b c] ret = unX a b c by kernel_rfl).trans (unX_eq a b c))
theorem sless (a b : Nat) : FSpec Tryz.prog 108 [.f a, .f b] (.f (lessS a b)) := by
  refine sp e_nil Tryz.func108 (by kernel_rfl) (by kernel_rfl) rfl ?_
  have h : ev Tryz.prog [] [] noL Tryz.f108 [.f a, .f b] ret = cond (flt b a) (some (Out.of (.f b))) (some (Out.of (.f a))) := by kernel_rfl
  rw [h]; unfold lessS; cases flt b a <;> rfl
theorem smore (a b : Nat) : FSpec Tryz.prog 109 [.f a, .f b] (.f (moreS a b)) := by
  refine sp e_nil Tryz.func109 (by kernel_rfl) (by kernel_rfl) rfl ?_
  have h : ev Tryz.prog [] [] noL Tryz.f109 [.f a, .f b] ret = cond (fgt b a) (some (Out.of (.f b))) (some (Out.of (.f a))) := by kernel_rfl
  rw [h]; unfold moreS; cases fgt b a <;> rfl
def joinS (a b : Nat → Nat) : Nat → Nat := ls [lessS (a 0) (b 0), lessS (a 1) (b 1), lessS (a 2) (b 2), moreS (a 3) (b 3), moreS (a 4) (b 4), moreS (a 5) (b 5)]
def V3 : List Entry := ⟨67, eV unV⟩ :: ⟨108, eFF fun a b => .f (lessS a b)⟩ :: ⟨109, eFF fun a b => .f (moreS a b)⟩ :: V2
theorem V3_ok : ∀ e, e ∈ V3 → EOk Tryz.prog e := e_cons (eV_ok vunit) <| e_cons (eFF_ok sless) <| e_cons (eFF_ok smore) V2_ok
theorem sjoin (a b : Nat → Nat) : FSpec Tryz.prog 107 [BX a, BX b] (BX (joinS a b)) := sp V3_ok Tryz.func107 (by kernel_rfl) (by kernel_rfl) rfl (by kernel_rfl)
def mayF (b : Nat → Nat) : Bool := cond (!fineS (b 0) (b 1) (b 2)) true (!fineS (b 3) (b 4) (b 5))
def mayG (b : Nat → Nat) : Bool := cond (cond (fgt (b 0) (b 3)) true (fgt (b 1) (b 4))) true (fgt (b 2) (b 5))
def mayS (b : Nat → Nat) : Int := cond (mayF b) 1 (cond (mayG b) 6 0)
theorem smay (b : Nat → Nat) : FSpec Tryz.prog 99 [BX b] (iA (mayS b)) := by
  refine sp V3_ok Tryz.func99 (by kernel_rfl) (by kernel_rfl) rfl ?_
  have h : ev Tryz.prog V3 [] noL Tryz.f99 [BX b] ret = cond (mayF b) (some (Out.of (iA 1))) (cond (mayG b) (some (Out.of (iA 6))) (some (Out.of (iA 0)))) := by kernel_rfl
  rw [h]; unfold mayS; cases mayF b <;> cases mayG b <;> rfl
def V4 : List Entry := ⟨107, eBB fun a b => BX (joinS a b)⟩ :: ⟨99, eB fun b => iA (mayS b)⟩ :: V3
theorem V4_ok : ∀ e, e ∈ V4 → EOk Tryz.prog e := e_cons (eBB_ok sjoin) <| e_cons (eB_ok smay) V3_ok
section
variable (lo hi o d n f : Nat)
end
end Go.Proofs.YtngjiggplabfkaaGreat.Hs

namespace Go.Proofs.YtngjiggplabfkaaGreat.Hs
open Go.Gv
open Go.Ev (cn fadd fsub fmul fdiv fsqrt fneg feq flt fle fgt fge fabs)

section
variable (b r : Nat → Nat)
end
def V5 : List Entry := V4
theorem V5_ok : ∀ e, e ∈ V5 → EOk Tryz.prog e := V4_ok
theorem rnear (x : Nat) : FSpec Tryz.prog 71 [.f x] (bA (nearS x)) := sp e_nil Tryz.func71 (by kernel_rfl) (by kernel_rfl) rfl (by kernel_rfl)
theorem rtimes (a b : Nat) : FSpec Tryz.prog 96 [.f a, .f b] (.f (fmul a b)) := sp e_nil Tryz.func96 (by kernel_rfl) (by kernel_rfl) rfl (by kernel_rfl)
theorem radd (a b c d e f : Nat) : FSpec Tryz.prog 23 [V a b c, V d e f] (V (fadd a d) (fadd b e) (fadd c f)) := sp e_nil Tryz.func23 (by kernel_rfl) (by kernel_rfl) rfl (by kernel_rfl)
theorem rsub (a b c d e f : Nat) : FSpec Tryz.prog 77 [V a b c, V d e f] (V (fsub a d) (fsub b e) (fsub c f)) := sp e_nil Tryz.func77 (by kernel_rfl) (by kernel_rfl) rfl (by kernel_rfl)
theorem rscale (a b c k : Nat) : FSpec Tryz.prog 82 [V a b c, .f k] (V (fmul a k) (fmul b k) (fmul c k)) := sp e_nil Tryz.func82 (by kernel_rfl) (by kernel_rfl) rfl (by kernel_rfl)
theorem rover (a b c k : Nat) : FSpec Tryz.prog 90 [V a b c, .f k] (V (fdiv a k) (fdiv b k) (fdiv c k)) := sp e_nil Tryz.func90 (by kernel_rfl) (by kernel_rfl) rfl (by kernel_rfl)
theorem rless (a b : Nat) : FSpec Tryz.prog 105 [.f a, .f b] (.f (lessS a b)) := by
  refine sp e_nil Tryz.func105 (by kernel_rfl) (by kernel_rfl) rfl ?_
  have h : ev Tryz.prog [] [] noL Tryz.f105 [.f a, .f b] ret = cond (flt b a) (some (Out.of (.f b))) (some (Out.of (.f a))) := by kernel_rfl
  rw [h]; unfold lessS; cases flt b a <;> rfl
theorem rmore (a b : Nat) : FSpec Tryz.prog 106 [.f a, .f b] (.f (moreS a b)) := by
  refine sp e_nil Tryz.func106 (by kernel_rfl) (by kernel_rfl) rfl ?_
  have h : ev Tryz.prog [] [] noL Tryz.f106 [.f a, .f b] ret = cond (fgt b a) (some (Out.of (.f b))) (some (Out.of (.f a))) := by kernel_rfl
  rw [h]; unfold moreS; cases fgt b a <;> rfl
/-- A number of a vector. -/
def eVI (g : Nat → Nat → Nat → Int → Option AV) : List AV → Option AV
  | [.agg [.f a, .f b, .f c], .x (.int .i64 k)] => g a b c k
  | _ => none
def axG (a b c : Nat) (k : Int) : Option AV := cond (k == 0) (some (.f a)) (cond (k == 1) (some (.f b)) (cond (k == 2) (some (.f c)) none))
theorem ax_ev (a b c : Nat) (k : Int) : ev Tryz.prog [] [] noL Tryz.f91 [V a b c, iA k] ret = cond (k == 0) (some (Out.of (.f a))) (cond (k == 1) (some (Out.of (.f b))) (some (Out.of (.f c)))) := by kernel_rfl
theorem eAx_ok : EOk Tryz.prog ⟨91, eVI axG⟩ := fun args r hr => by
  simp only [eVI] at hr
  split at hr
  · rename_i a b c k
    refine Or.inl (sp e_nil Tryz.func91 (by kernel_rfl) (by kernel_rfl) rfl ((ax_ev a b c k).trans ?_))
    unfold axG at hr
    cases h0 : k == 0
    · rw [h0] at hr
      cases h1 : k == 1
      · rw [h1] at hr
        cases h2 : k == 2
        · rw [h2] at hr; cases hr
        · rw [h2] at hr; cases hr; rfl
      · rw [h1] at hr; cases hr; rfl
    · rw [h0] at hr; cases hr; rfl
  · cases hr
def R1 : List Entry := [⟨88, eF fun x => .f (fsqrt x)⟩, ⟨71, eF fun x => bA (nearS x)⟩, ⟨96, eFF fun a b => .f (fmul a b)⟩, ⟨23, eVV fun a b c d e f => V (fadd a d) (fadd b e) (fadd c f)⟩, ⟨77, eVV fun a b c d e f => V (fsub a d) (fsub b e) (fsub c f)⟩, ⟨82, eVF fun a b c k => V (fmul a k) (fmul b k) (fmul c k)⟩, ⟨90, eVF fun a b c k => V (fdiv a k) (fdiv b k) (fdiv c k)⟩, ⟨105, eFF fun a b => .f (lessS a b)⟩, ⟨106, eFF fun a b => .f (moreS a b)⟩, ⟨91, eVI axG⟩]
theorem R1_ok : ∀ e, e ∈ R1 → EOk Tryz.prog e := e_cons (eF_ok msqrt) <| e_cons (eF_ok rnear) <| e_cons (eFF_ok rtimes) <| e_cons (eVV_ok radd) <| e_cons (eVV_ok rsub) <| e_cons (eVF_ok rscale) <| e_cons (eVF_ok rover) <| e_cons (eFF_ok rless) <| e_cons (eFF_ok rmore) <| e_cons eAx_ok e_nil
theorem rfine (a b c : Nat) : FSpec Tryz.prog 52 [V a b c] (bA (fineS a b c)) := sp R1_ok Tryz.func52 (by kernel_rfl) (by kernel_rfl) rfl (by kernel_rfl)
theorem rdot (a b c d e f : Nat) : FSpec Tryz.prog 95 [V a b c, V d e f] (.f (dotS a b c d e f)) := sp R1_ok Tryz.func95 (by kernel_rfl) (by kernel_rfl) rfl (by kernel_rfl)
theorem rcross (a b c d e f : Nat) : FSpec Tryz.prog 79 [V a b c, V d e f] (V (crX b c e f) (crX c a f d) (crX a b d e)) := sp R1_ok Tryz.func79 (by kernel_rfl) (by kernel_rfl) rfl (by kernel_rfl)
def lowV (a b c d e f : Nat) : AV := V (lessS a d) (lessS b e) (lessS c f)
def highV (a b c d e f : Nat) : AV := V (moreS a d) (moreS b e) (moreS c f)
theorem rlow (a b c d e f : Nat) : FSpec Tryz.prog 92 [V a b c, V d e f] (lowV a b c d e f) := sp R1_ok Tryz.func92 (by kernel_rfl) (by kernel_rfl) rfl (by kernel_rfl)
theorem rhigh (a b c d e f : Nat) : FSpec Tryz.prog 93 [V a b c, V d e f] (highV a b c d e f) := sp R1_ok Tryz.func93 (by kernel_rfl) (by kernel_rfl) rfl (by kernel_rfl)
def R2 : List Entry := ⟨52, eV fun a b c => bA (fineS a b c)⟩ :: ⟨95, eVV fun a b c d e f => .f (dotS a b c d e f)⟩ :: ⟨79, eVV fun a b c d e f => V (crX b c e f) (crX c a f d) (crX a b d e)⟩ :: ⟨92, eVV lowV⟩ :: ⟨93, eVV highV⟩ :: R1
theorem R2_ok : ∀ e, e ∈ R2 → EOk Tryz.prog e := e_cons (eV_ok rfine) <| e_cons (eVV_ok rdot) <| e_cons (eVV_ok rcross) <| e_cons (eVV_ok rlow) <| e_cons (eVV_ok rhigh) R1_ok
theorem rlength (a b c : Nat) : FSpec Tryz.prog 78 [V a b c] (.f (lengthS a b c)) := sp R2_ok Tryz.func78 (by kernel_rfl) (by kernel_rfl) rfl (by kernel_rfl)
theorem rmay (b : Nat → Nat) : FSpec Tryz.prog 74 [BX b] (iA (mayS b)) := by
  refine sp R2_ok Tryz.func74 (by kernel_rfl) (by kernel_rfl) rfl ?_
  have h : ev Tryz.prog R2 [] noL Tryz.f74 [BX b] ret = cond (mayF b) (some (Out.of (iA 1))) (cond (fgt (b 0) (b 3)) (some (Out.of (iA 6))) (cond (fgt (b 1) (b 4)) (some (Out.of (iA 6))) (cond (fgt (b 2) (b 5)) (some (Out.of (iA 6))) (some (Out.of (iA 0)))))) := by kernel_rfl
  rw [h]
  unfold mayS mayG
  cases mayF b <;> cases fgt (b 0) (b 3) <;> cases fgt (b 1) (b 4) <;> cases fgt (b 2) (b 5) <;> rfl
theorem runit (a b c : Nat) : FSpec Tryz.prog 72 [V a b c] (unV a b c) :=
  sp (l := ⟨78, eV fun a b c => .f (lengthS a b c)⟩ :: R2) (e_cons (eV_ok rlength) R2_ok) Tryz.func72 (by kernel_rfl) (by kernel_rfl) rfl ((show ev Tryz.prog (⟨78, eV fun a b c => .f (lengthS a b c)⟩ :: R2) [] noL Tryz.f72 [V a b c] ret = unX a b c by kernel_rfl).trans (unX_eq a b c))
def R3 : List Entry := ⟨78, eV fun a b c => .f (lengthS a b c)⟩ :: ⟨72, eV unV⟩ :: ⟨74, eB fun b => iA (mayS b)⟩ :: R2
theorem R3_ok : ∀ e, e ∈ R3 → EOk Tryz.prog e := e_cons (eV_ok rlength) <| e_cons (eV_ok runit) <| e_cons (eB_ok rmay) R2_ok
end Go.Proofs.YtngjiggplabfkaaGreat.Hs

namespace Go.Proofs.YtngjiggplabfkaaGreat.Hs
open Go.Gv
open Go.Ev (cn fadd fsub fmul fdiv fsqrt fneg feq flt fle fgt fge fabs)

def neZ (x : Nat) : Bool := !feq x 0
theorem snumbers (a b c : Nat) : FSpec Tryz.prog 150 [V a b c] (V a b c) := sp e_nil Tryz.func150 (by kernel_rfl) (by kernel_rfl) rfl (by kernel_rfl)
theorem svecOf (a b c : Nat) : FSpec Tryz.prog 151 [V a b c] (V a b c) := sp e_nil Tryz.func151 (by kernel_rfl) (by kernel_rfl) rfl (by kernel_rfl)
def V6 : List Entry := ⟨150, eV fun a b c => V a b c⟩ :: ⟨151, eV fun a b c => V a b c⟩ :: V5
theorem V6_ok : ∀ e, e ∈ V6 → EOk Tryz.prog e := e_cons (eV_ok snumbers) <| e_cons (eV_ok svecOf) V5_ok
theorem sflat0 (a b c : Nat) : FSpec Tryz.prog 148 [V a b c, iA 0] (V 0 b c) := sp V6_ok Tryz.func148 (by kernel_rfl) (by kernel_rfl) rfl (by kernel_rfl)
theorem sflat1 (a b c : Nat) : FSpec Tryz.prog 148 [V a b c, iA 1] (V a 0 c) := sp V6_ok Tryz.func148 (by kernel_rfl) (by kernel_rfl) rfl (by kernel_rfl)
theorem sflat2 (a b c : Nat) : FSpec Tryz.prog 148 [V a b c, iA 2] (V a b 0) := sp V6_ok Tryz.func148 (by kernel_rfl) (by kernel_rfl) rfl (by kernel_rfl)
def flG (a b c : Nat) (k : Int) : Option AV := cond (k == 0) (some (V 0 b c)) (cond (k == 1) (some (V a 0 c)) (cond (k == 2) (some (V a b 0)) none))
theorem eFlat_ok : EOk Tryz.prog ⟨148, eVI flG⟩ := fun args r hr => by
  simp only [eVI] at hr
  split at hr
  · rename_i a b c k
    unfold flG at hr
    cases h0 : k == 0
    · rw [h0] at hr
      cases h1 : k == 1
      · rw [h1] at hr
        cases h2 : k == 2
        · rw [h2] at hr; cases hr
        · rw [h2] at hr; cases hr; rw [eq_of_beq h2]; exact Or.inl (sflat2 a b c)
      · rw [h1] at hr; cases hr; rw [eq_of_beq h1]; exact Or.inl (sflat1 a b c)
    · rw [h0] at hr; cases hr; rw [eq_of_beq h0]; exact Or.inl (sflat0 a b c)
  · cases hr
def axR (k : Int) (b : Bool) : Option Out := some (Out.of (.tup [iA k, bA b]))
def axT (a b c : Nat) : Option Out := cond (neZ a) (cond (neZ b) (cond (neZ c) (axR 2 false) (axR 1 false)) (cond (neZ c) (axR 2 false) (axR 0 true))) (cond (neZ b) (cond (neZ c) (axR 2 false) (axR 1 true)) (cond (neZ c) (axR 2 true) (axR 0 false)))
def axI (a b c : Nat) : Int := cond (neZ c) 2 (cond (neZ b) 1 (cond (neZ a) 0 0))
def axO (a b c : Nat) : Bool := cond (neZ a) (cond (neZ b) false (!neZ c)) (cond (neZ b) (!neZ c) (neZ c))
theorem saxis (a b c : Nat) : FSpec Tryz.prog 149 [V a b c] (.tup [iA (axI a b c), bA (axO a b c)]) := by
  refine sp V6_ok Tryz.func149 (by kernel_rfl) (by kernel_rfl) rfl ((show ev Tryz.prog V6 [] noL Tryz.f149 [V a b c] ret = axT a b c by kernel_rfl).trans ?_)
  unfold axT axI axO axR
  cases neZ a <;> cases neZ b <;> cases neZ c <;> rfl
theorem scube (a b c R : Nat) : FSpec Tryz.prog 130 [V a b c, .f R] (BX (ls [fsub a R, fsub b R, fsub c R, fadd a R, fadd b R, fadd c R])) := sp V6_ok Tryz.func130 (by kernel_rfl) (by kernel_rfl) rfl (by kernel_rfl)
def aroundS (a b c d e f : Nat) : Nat → Nat := joinS (ls [a, b, c, a, b, c]) (ls [d, e, f, d, e, f])
theorem saround (a b c d e f : Nat) : FSpec Tryz.prog 138 [V a b c, V d e f] (BX (aroundS a b c d e f)) := sp V6_ok Tryz.func138 (by kernel_rfl) (by kernel_rfl) rfl (by kernel_rfl)
section
variable (o d : Nat → Nat) (r : Nat)
end
def V7 : List Entry := ⟨148, eVI flG⟩ :: ⟨130, eVF fun a b c R => BX (ls [fsub a R, fsub b R, fsub c R, fadd a R, fadd b R, fadd c R])⟩ :: ⟨138, eVV fun a b c d e f => BX (aroundS a b c d e f)⟩ :: V6
theorem V7_ok : ∀ e, e ∈ V7 → EOk Tryz.prog e := e_cons eFlat_ok <| e_cons (eVF_ok scube) <| e_cons (eVV_ok saround) V6_ok
end Go.Proofs.YtngjiggplabfkaaGreat.Hs

namespace Go.Proofs.YtngjiggplabfkaaGreat.Hs
open Go.Gv
open Go.Ev (cn fadd fsub fmul fdiv fsqrt fneg feq flt fle fgt fge fabs)

/-- A shape: its kind, eleven floats, its skin. -/
abbrev SH (k : Int) (a : Nat → Nat) (sk : Int) : AV := .agg [iA k, .f (a 0), .f (a 1), .f (a 2), .f (a 3), .f (a 4), .f (a 5), .f (a 6), .f (a 7), .f (a 8), .f (a 9), .f (a 10), iA sk]
def eS (g : (Nat → Nat) → AV) : List AV → Option AV
  | [.agg [.x (.int .i64 _), .f a0, .f a1, .f a2, .f a3, .f a4, .f a5, .f a6, .f a7, .f a8, .f a9, .f a10, .x (.int .i64 _)]] => some (g (ls [a0, a1, a2, a3, a4, a5, a6, a7, a8, a9, a10]))
  | _ => none
theorem eS_ok {f : Nat} {g : (Nat → Nat) → AV} (h : ∀ k a sk, FSpec Tryz.prog f [SH k a sk] (g a)) : EOk Tryz.prog ⟨f, eS g⟩ := fun args r hr => by
  simp only [eS] at hr
  split at hr
  · cases hr; exact Or.inl (h _ (ls [_, _, _, _, _, _, _, _, _, _, _]) _)
  · cases hr
section
variable (k : Int) (a : Nat → Nat) (sk : Int) (r : Nat → Nat) (n f p q u : Nat)
def cubeB : Nat → Nat := ls [fsub (a 0) (a 9), fsub (a 1) (a 9), fsub (a 2) (a 9), fadd (a 0) (a 9), fadd (a 1) (a 9), fadd (a 2) (a 9)]
def blockB : Nat → Nat := ls [a 0, a 1, a 2, a 3, a 4, a 5]
def triB : Nat → Nat := joinS (aroundS (a 0) (a 1) (a 2) (a 3) (a 4) (a 5)) (ls [a 6, a 7, a 8, a 6, a 7, a 8])
theorem bball : FSpec Tryz.prog 126 [SH k a sk] (BX (cubeB a)) := sp V7_ok Tryz.func126 (by kernel_rfl) (by kernel_rfl) rfl (by kernel_rfl)
theorem bplate : FSpec Tryz.prog 139 [SH k a sk] (BX (cubeB a)) := sp V7_ok Tryz.func139 (by kernel_rfl) (by kernel_rfl) rfl (by kernel_rfl)
theorem bblock : FSpec Tryz.prog 131 [SH k a sk] (BX (blockB a)) := sp V7_ok Tryz.func131 (by kernel_rfl) (by kernel_rfl) rfl (by kernel_rfl)
theorem btri : FSpec Tryz.prog 135 [SH k a sk] (BX (triB a)) := sp V7_ok Tryz.func135 (by kernel_rfl) (by kernel_rfl) rfl (by kernel_rfl)
def ballM : Int := cond (!fgt (a 9) 0) 6 0
theorem mball : FSpec Tryz.prog 127 [SH k a sk] (iA (ballM a)) := by
  refine sp V7_ok Tryz.func127 (by kernel_rfl) (by kernel_rfl) rfl ((show ev Tryz.prog V7 [] noL Tryz.f127 [SH k a sk] ret = cond (!fgt (a 9) 0) (some (Out.of (iA 6))) (some (Out.of (iA 0))) by kernel_rfl).trans ?_)
  unfold ballM; cases fgt (a 9) 0 <;> rfl
def blockG : Bool := cond (cond (fgt (a 0) (a 3)) true (fgt (a 1) (a 4))) true (fgt (a 2) (a 5))
def blockM : Int := cond (blockG a) 6 0
theorem mblock : FSpec Tryz.prog 132 [SH k a sk] (iA (blockM a)) := by
  refine sp V7_ok Tryz.func132 (by kernel_rfl) (by kernel_rfl) rfl ((show ev Tryz.prog V7 [] noL Tryz.f132 [SH k a sk] ret = cond (blockG a) (some (Out.of (iA 6))) (some (Out.of (iA 0))) by kernel_rfl).trans ?_)
  unfold blockM; cases blockG a <;> rfl
def plateM : Int := cond (!fgt (a 9) 0) 6 (unE (a 3) (a 4) (a 5))
theorem mplate : FSpec Tryz.prog 140 [SH k a sk] (iA (plateM a)) := by
  refine sp V7_ok Tryz.func140 (by kernel_rfl) (by kernel_rfl) rfl ((show ev Tryz.prog V7 [] noL Tryz.f140 [SH k a sk] ret = cond (!fgt (a 9) 0) (some (Out.of (iA 6))) (some (Out.of (iA (unE (a 3) (a 4) (a 5))))) by kernel_rfl).trans ?_)
  unfold plateM; cases fgt (a 9) 0 <;> rfl
def V8 : List Entry := ⟨149, eV fun a b c => .tup [iA (axI a b c), bA (axO a b c)]⟩ :: V7
theorem V8_ok : ∀ e, e ∈ V8 → EOk Tryz.prog e := e_cons (eV_ok saxis) V7_ok
def tubeM : Int := cond (cond (!axO (a 3) (a 4) (a 5)) true (!fgt (a 9) 0)) 6 0
theorem mtube : FSpec Tryz.prog 145 [SH k a sk] (iA (tubeM a)) := by
  refine sp V8_ok Tryz.func145 (by kernel_rfl) (by kernel_rfl) rfl ((show ev Tryz.prog V8 [] noL Tryz.f145 [SH k a sk] ret = cond (cond (!axO (a 3) (a 4) (a 5)) true (!fgt (a 9) 0)) (some (Out.of (iA 6))) (some (Out.of (iA 0))) by kernel_rfl).trans ?_)
  unfold tubeM; cases cond (!axO (a 3) (a 4) (a 5)) true (!fgt (a 9) 0) <;> rfl
def ringM : Int := cond (cond (!axO (a 3) (a 4) (a 5)) true (!(cond (fgt (a 10) 0) (fge (a 9) (a 10)) false))) 6 0
theorem mring : FSpec Tryz.prog 154 [SH k a sk] (iA (ringM a)) := by
  refine sp V8_ok Tryz.func154 (by kernel_rfl) (by kernel_rfl) rfl ((show ev Tryz.prog V8 [] noL Tryz.f154 [SH k a sk] ret = cond (cond (!axO (a 3) (a 4) (a 5)) true (!(cond (fgt (a 10) 0) (fge (a 9) (a 10)) false))) (some (Out.of (iA 6))) (some (Out.of (iA 0))) by kernel_rfl).trans ?_)
  unfold ringM; cases cond (!axO (a 3) (a 4) (a 5)) true (!(cond (fgt (a 10) 0) (fge (a 9) (a 10)) false)) <;> rfl
def V9 : List Entry := V8
theorem V9_ok : ∀ e, e ∈ V9 → EOk Tryz.prog e := V8_ok
end
end Go.Proofs.YtngjiggplabfkaaGreat.Hs

namespace Go.Proofs.YtngjiggplabfkaaGreat.Hs
open Go.Gv
open Go.Ev (cn fadd fsub fmul fdiv fsqrt fneg feq flt fle fgt fge fabs)

section
end
section
end
section
end
section
end
end Go.Proofs.YtngjiggplabfkaaGreat.Hs

namespace Go.Proofs.YtngjiggplabfkaaGreat.Hs
open Go.Gv
open Go.Ev (cn fadd fsub fmul fdiv fsqrt fneg feq flt fle fgt fge fabs)

/-- Nought at an axis. -/
def fl3 (z i x : Nat) : Nat := cond (Nat.beq i z) 0 x
/-- The one axis of a vector. -/
def zB (a : Nat → Nat) : Nat := cond (neZ (a 5)) 2 (cond (neZ (a 4)) 1 0)
theorem axI_z (a : Nat → Nat) : axI (a 3) (a 4) (a 5) = (zB a : Nat) := by
  unfold axI zB
  cases neZ (a 5) <;> cases neZ (a 4) <;> cases neZ (a 3) <;> rfl
theorem zB_lt (a : Nat → Nat) : zB a = 0 ∨ zB a = 1 ∨ zB a = 2 := by
  unfold zB
  cases neZ (a 5) <;> cases neZ (a 4) <;> simp
section
variable (k : Int) (a : Nat → Nat) (sk : Int) (r : Nat → Nat) (n f p q u z : Nat)
theorem atube : FSpec Tryz.prog 143 [SH k a sk] (iA (zB a : Nat)) := by
  rw [← axI_z]
  exact sp V8_ok Tryz.func143 (by kernel_rfl) (by kernel_rfl) rfl (by kernel_rfl)
theorem aring : FSpec Tryz.prog 152 [SH k a sk] (iA (zB a : Nat)) := by
  rw [← axI_z]
  exact sp V8_ok Tryz.func152 (by kernel_rfl) (by kernel_rfl) rfl (by kernel_rfl)
noncomputable def tuK (z : Nat) : KEntry := kS Tryz.prog 143 fun _ => iA (z : Nat)
noncomputable def riK (z : Nat) : KEntry := kS Tryz.prog 152 fun _ => iA (z : Nat)
noncomputable def gTu (o : Option Out) : Option Out := gate (FSpec Tryz.prog 143 [SH k a sk] (iA (z : Nat))) o
noncomputable def gRi (o : Option Out) : Option Out := gate (FSpec Tryz.prog 152 [SH k a sk] (iA (z : Nat))) o
def tuE : Nat → Nat := aroundS (a 0) (a 1) (a 2) (fadd (a 0) (a 3)) (fadd (a 1) (a 4)) (fadd (a 2) (a 5))
def tubeB : Nat → Nat := ls [fsub (tuE a 0) (fl3 z 0 (a 9)), fsub (tuE a 1) (fl3 z 1 (a 9)), fsub (tuE a 2) (fl3 z 2 (a 9)), fadd (tuE a 3) (fl3 z 0 (a 9)), fadd (tuE a 4) (fl3 z 1 (a 9)), fadd (tuE a 5) (fl3 z 2 (a 9))]
def riA (i : Nat) : Nat := fadd (fl3 z i (a 9)) (a 10)
def ringB : Nat → Nat := ls [fsub (a 0) (riA a z 0), fsub (a 1) (riA a z 1), fsub (a 2) (riA a z 2), fadd (a 0) (riA a z 0), fadd (a 1) (riA a z 1), fadd (a 2) (riA a z 2)]
theorem btube_ev0 : ev Tryz.prog V8 [tuK 0] noL Tryz.f144 [SH k a sk] ret = gTu k a sk 0 (some (Out.of (BX (tubeB a 0)))) := by kernel_rfl
theorem btube_ev1 : ev Tryz.prog V8 [tuK 1] noL Tryz.f144 [SH k a sk] ret = gTu k a sk 1 (some (Out.of (BX (tubeB a 1)))) := by kernel_rfl
theorem btube_ev2 : ev Tryz.prog V8 [tuK 2] noL Tryz.f144 [SH k a sk] ret = gTu k a sk 2 (some (Out.of (BX (tubeB a 2)))) := by kernel_rfl
theorem bring_ev0 : ev Tryz.prog V8 [riK 0] noL Tryz.f153 [SH k a sk] ret = gRi k a sk 0 (some (Out.of (BX (ringB a 0)))) := by kernel_rfl
theorem bring_ev1 : ev Tryz.prog V8 [riK 1] noL Tryz.f153 [SH k a sk] ret = gRi k a sk 1 (some (Out.of (BX (ringB a 1)))) := by kernel_rfl
theorem bring_ev2 : ev Tryz.prog V8 [riK 2] noL Tryz.f153 [SH k a sk] ret = gRi k a sk 2 (some (Out.of (BX (ringB a 2)))) := by kernel_rfl
theorem gTu_pos {z : Nat} {o : Option Out} (h : zB a = z) : gTu k a sk z o = o := gate_pos (by rw [← h]; exact atube k a sk)
theorem gRi_pos {z : Nat} {o : Option Out} (h : zB a = z) : gRi k a sk z o = o := gate_pos (by rw [← h]; exact aring k a sk)
theorem btube : FSpec Tryz.prog 144 [SH k a sk] (BX (tubeB a (zB a))) := by
  rcases zB_lt a with h | h | h
  · rw [h]; exact gspec V8_ok (k_cons kS_ok k_nil) Tryz.func144 (by kernel_rfl) (by kernel_rfl) noL_ok rfl ((btube_ev0 k a sk).trans (gTu_pos k a sk h))
  · rw [h]; exact gspec V8_ok (k_cons kS_ok k_nil) Tryz.func144 (by kernel_rfl) (by kernel_rfl) noL_ok rfl ((btube_ev1 k a sk).trans (gTu_pos k a sk h))
  · rw [h]; exact gspec V8_ok (k_cons kS_ok k_nil) Tryz.func144 (by kernel_rfl) (by kernel_rfl) noL_ok rfl ((btube_ev2 k a sk).trans (gTu_pos k a sk h))
theorem bring : FSpec Tryz.prog 153 [SH k a sk] (BX (ringB a (zB a))) := by
  rcases zB_lt a with h | h | h
  · rw [h]; exact gspec V8_ok (k_cons kS_ok k_nil) Tryz.func153 (by kernel_rfl) (by kernel_rfl) noL_ok rfl ((bring_ev0 k a sk).trans (gRi_pos k a sk h))
  · rw [h]; exact gspec V8_ok (k_cons kS_ok k_nil) Tryz.func153 (by kernel_rfl) (by kernel_rfl) noL_ok rfl ((bring_ev1 k a sk).trans (gRi_pos k a sk h))
  · rw [h]; exact gspec V8_ok (k_cons kS_ok k_nil) Tryz.func153 (by kernel_rfl) (by kernel_rfl) noL_ok rfl ((bring_ev2 k a sk).trans (gRi_pos k a sk h))
def X0 : List Entry := V9
theorem X0_ok : ∀ e, e ∈ X0 → EOk Tryz.prog e := V9_ok
end
end Go.Proofs.YtngjiggplabfkaaGreat.Hs

namespace Go.Proofs.YtngjiggplabfkaaGreat.Hs
open Go.Gv
open Go.Ev (cn fadd fsub fmul fdiv fsqrt fneg feq flt fle fgt fge fabs)

def eKd : List AV → Option AV
  | [.agg [.x (.int .i64 k), .f a0, .f a1, .f a2, .f a3, .f a4, .f a5, .f a6, .f a7, .f a8, .f a9, .f a10, .x (.int .i64 sk)]] => cond (k == 1) (some (.ifc 139 (.agg [.x (.int .i64 k), .f a0, .f a1, .f a2, .f a3, .f a4, .f a5, .f a6, .f a7, .f a8, .f a9, .f a10, .x (.int .i64 sk)]))) (cond (k == 2) (some (.ifc 140 (.agg [.x (.int .i64 k), .f a0, .f a1, .f a2, .f a3, .f a4, .f a5, .f a6, .f a7, .f a8, .f a9, .f a10, .x (.int .i64 sk)]))) (cond (k == 3) (some (.ifc 141 (.agg [.x (.int .i64 k), .f a0, .f a1, .f a2, .f a3, .f a4, .f a5, .f a6, .f a7, .f a8, .f a9, .f a10, .x (.int .i64 sk)]))) (cond (k == 4) (some (.ifc 142 (.agg [.x (.int .i64 k), .f a0, .f a1, .f a2, .f a3, .f a4, .f a5, .f a6, .f a7, .f a8, .f a9, .f a10, .x (.int .i64 sk)]))) (cond (k == 5) (some (.ifc 143 (.agg [.x (.int .i64 k), .f a0, .f a1, .f a2, .f a3, .f a4, .f a5, .f a6, .f a7, .f a8, .f a9, .f a10, .x (.int .i64 sk)]))) (cond (k == 6) (some (.ifc 144 (.agg [.x (.int .i64 k), .f a0, .f a1, .f a2, .f a3, .f a4, .f a5, .f a6, .f a7, .f a8, .f a9, .f a10, .x (.int .i64 sk)]))) (none))))))
  | _ => none
theorem kd_ev (k : Int) (a : Nat → Nat) (sk : Int) : ev Tryz.prog [] [] noL Tryz.f98 [SH k a sk] ret = cond (k == 1) (some (Out.of (.ifc 139 (SH k a sk)))) (cond (k == 2) (some (Out.of (.ifc 140 (SH k a sk)))) (cond (k == 3) (some (Out.of (.ifc 141 (SH k a sk)))) (cond (k == 4) (some (Out.of (.ifc 142 (SH k a sk)))) (cond (k == 5) (some (Out.of (.ifc 143 (SH k a sk)))) (cond (k == 6) (some (Out.of (.ifc 144 (SH k a sk)))) (some (Out.of (.x .nilIface)))))))) := by kernel_rfl
theorem eKd_ok : EOk Tryz.prog ⟨98, eKd⟩ := fun args r hr => by
  simp only [eKd] at hr
  split at hr
  · rename_i k a0 a1 a2 a3 a4 a5 a6 a7 a8 a9 a10 sk
    refine Or.inl (sp e_nil Tryz.func98 (by kernel_rfl) (by kernel_rfl) rfl ((kd_ev k (ls [a0, a1, a2, a3, a4, a5, a6, a7, a8, a9, a10]) sk).trans ?_))
    cases h1 : k == 1
    case true => rw [h1] at hr; cases hr; rfl
    case false =>
    cases h2 : k == 2
    case true => rw [h1, h2] at hr; cases hr; rfl
    case false =>
    cases h3 : k == 3
    case true => rw [h1, h2, h3] at hr; cases hr; rfl
    case false =>
    cases h4 : k == 4
    case true => rw [h1, h2, h3, h4] at hr; cases hr; rfl
    case false =>
    cases h5 : k == 5
    case true => rw [h1, h2, h3, h4, h5] at hr; cases hr; rfl
    case false =>
    cases h6 : k == 6
    case true => rw [h1, h2, h3, h4, h5, h6] at hr; cases hr; rfl
    case false =>
    rw [h1, h2, h3, h4, h5, h6] at hr; cases hr
  · cases hr
def skB (sk : Int) : Bool := cond (decide (sk < 0)) true (decide (sk ≥ 16))
def rcB (a : Nat → Nat) : Bool := cond (cond (cond (cond (!fineS (a 0) (a 1) (a 2)) true (!fineS (a 3) (a 4) (a 5))) true (!fineS (a 6) (a 7) (a 8))) true (!nearS (a 9))) true (!nearS (a 10))
def kbad (e : Int) : Option Out := some (Out.of (.tup [.x .nilIface, iA e]))
def kgood (T : Nat) (v : AV) : Option Out := some (Out.of (.tup [.ifc T v, iA 0]))
def knX (a : Nat → Nat) (sk m : Int) (b : Nat → Nat) (o : Option Out) : Option Out := cond (skB sk) (kbad 4) (cond (rcB a) (kbad 1) (cond (!(m == 0)) (kbad m) (cond (!(mayS b == 0)) (kbad 1) o)))
/-- The errno of what asks for m and has the box b. -/
def knE (a : Nat → Nat) (sk m : Int) (b : Nat → Nat) : Int := cond (skB sk) 4 (cond (rcB a) 1 (cond (!(m == 0)) m (cond (!(mayS b == 0)) 1 0)))
theorem knX_good {a : Nat → Nat} {sk m : Int} {b : Nat → Nat} {o : Option Out} (h : knE a sk m b = 0) : knX a sk m b o = o := by
  unfold knE at h
  unfold knX
  cases h1 : skB sk
  · rw [h1] at h
    cases h2 : rcB a
    · rw [h2] at h
      cases h3 : (m == 0)
      · rw [h3] at h
        have h : m = 0 := h
        rw [h] at h3; cases h3
      · rw [h3] at h
        cases h4 : (mayS b == 0)
        · rw [h4] at h; cases h
        · rfl
    · rw [h2] at h; cases h
  · rw [h1] at h; cases h
theorem knX_bad {a : Nat → Nat} {sk m : Int} {b : Nat → Nat} {o : Option Out} (h : knE a sk m b ≠ 0) : knX a sk m b o = kbad (knE a sk m b) := by
  unfold knE at h ⊢
  unfold knX
  cases h1 : skB sk
  · cases h2 : rcB a
    · cases h3 : (m == 0)
      · rfl
      · cases h4 : (mayS b == 0)
        · rfl
        · rw [h1, h2, h3, h4] at h
          exact absurd rfl h
    · rfl
  · rfl
def X1 : List Entry := ⟨98, eKd⟩ :: ⟨127, eS fun a => iA (ballM a)⟩ :: ⟨126, eS fun a => BX (cubeB a)⟩ :: ⟨132, eS fun a => iA (blockM a)⟩ :: ⟨131, eS fun a => BX (blockB a)⟩ :: ⟨135, eS fun a => BX (triB a)⟩ :: ⟨140, eS fun a => iA (plateM a)⟩ :: ⟨139, eS fun a => BX (cubeB a)⟩ :: ⟨145, eS fun a => iA (tubeM a)⟩ :: ⟨144, eS fun a => BX (tubeB a (zB a))⟩ :: ⟨154, eS fun a => iA (ringM a)⟩ :: ⟨153, eS fun a => BX (ringB a (zB a))⟩ ::  X0
theorem X1_ok : ∀ e, e ∈ X1 → EOk Tryz.prog e := e_cons eKd_ok <| e_cons (eS_ok mball) <| e_cons (eS_ok bball) <| e_cons (eS_ok mblock) <| e_cons (eS_ok bblock) <| e_cons (eS_ok btri) <| e_cons (eS_ok mplate) <| e_cons (eS_ok bplate) <| e_cons (eS_ok mtube) <| e_cons (eS_ok btube) <| e_cons (eS_ok mring) <| e_cons (eS_ok bring) X0_ok
section
variable (a : Nat → Nat) (sk : Int)
theorem kn1_ev : ev Tryz.prog X1 [] noL Tryz.f84 [SH 1 a sk] ret = knX a sk (ballM a) (cubeB a) (kgood 139 (SH 1 a sk)) := by kernel_rfl
def e1 : Int := knE a sk (ballM a) (cubeB a)
theorem kn1_good (h : e1 a sk = 0) : FSpec Tryz.prog 84 [SH 1 a sk] (.tup [.ifc 139 (SH 1 a sk), iA 0]) := sp X1_ok Tryz.func84 (by kernel_rfl) (by kernel_rfl) rfl ((kn1_ev a sk).trans (knX_good (m := ballM a) (b := cubeB a) h))
theorem kn1_bad (h : e1 a sk ≠ 0) : FSpec Tryz.prog 84 [SH 1 a sk] (.tup [.x .nilIface, iA (e1 a sk)]) := sp X1_ok Tryz.func84 (by kernel_rfl) (by kernel_rfl) rfl ((kn1_ev a sk).trans (knX_bad (m := ballM a) (b := cubeB a) (o := kgood 139 (SH 1 a sk)) h))
theorem kn2_ev : ev Tryz.prog X1 [] noL Tryz.f84 [SH 2 a sk] ret = knX a sk (blockM a) (blockB a) (kgood 140 (SH 2 a sk)) := by kernel_rfl
def e2 : Int := knE a sk (blockM a) (blockB a)
theorem kn2_good (h : e2 a sk = 0) : FSpec Tryz.prog 84 [SH 2 a sk] (.tup [.ifc 140 (SH 2 a sk), iA 0]) := sp X1_ok Tryz.func84 (by kernel_rfl) (by kernel_rfl) rfl ((kn2_ev a sk).trans (knX_good (m := blockM a) (b := blockB a) h))
theorem kn2_bad (h : e2 a sk ≠ 0) : FSpec Tryz.prog 84 [SH 2 a sk] (.tup [.x .nilIface, iA (e2 a sk)]) := sp X1_ok Tryz.func84 (by kernel_rfl) (by kernel_rfl) rfl ((kn2_ev a sk).trans (knX_bad (m := blockM a) (b := blockB a) (o := kgood 140 (SH 2 a sk)) h))
theorem kn3_ev : ev Tryz.prog X1 [] noL Tryz.f84 [SH 3 a sk] ret = cond (skB sk) (kbad 4) (cond (rcB a) (kbad 1) (cond (!(mayS (triB a) == 0)) (kbad 1) (kgood 141 (SH 3 a sk)))) := by kernel_rfl
def e3 : Int := knE a sk (0) (triB a)
theorem kn3_good (h : e3 a sk = 0) : FSpec Tryz.prog 84 [SH 3 a sk] (.tup [.ifc 141 (SH 3 a sk), iA 0]) := sp X1_ok Tryz.func84 (by kernel_rfl) (by kernel_rfl) rfl ((kn3_ev a sk).trans (knX_good (m := 0) (b := triB a) h))
theorem kn3_bad (h : e3 a sk ≠ 0) : FSpec Tryz.prog 84 [SH 3 a sk] (.tup [.x .nilIface, iA (e3 a sk)]) := sp X1_ok Tryz.func84 (by kernel_rfl) (by kernel_rfl) rfl ((kn3_ev a sk).trans (knX_bad (m := 0) (b := triB a) (o := kgood 141 (SH 3 a sk)) h))
theorem kn4_ev : ev Tryz.prog X1 [] noL Tryz.f84 [SH 4 a sk] ret = knX a sk (plateM a) (cubeB a) (kgood 142 (SH 4 a sk)) := by kernel_rfl
def e4 : Int := knE a sk (plateM a) (cubeB a)
theorem kn4_good (h : e4 a sk = 0) : FSpec Tryz.prog 84 [SH 4 a sk] (.tup [.ifc 142 (SH 4 a sk), iA 0]) := sp X1_ok Tryz.func84 (by kernel_rfl) (by kernel_rfl) rfl ((kn4_ev a sk).trans (knX_good (m := plateM a) (b := cubeB a) h))
theorem kn4_bad (h : e4 a sk ≠ 0) : FSpec Tryz.prog 84 [SH 4 a sk] (.tup [.x .nilIface, iA (e4 a sk)]) := sp X1_ok Tryz.func84 (by kernel_rfl) (by kernel_rfl) rfl ((kn4_ev a sk).trans (knX_bad (m := plateM a) (b := cubeB a) (o := kgood 142 (SH 4 a sk)) h))
theorem kn5_ev : ev Tryz.prog X1 [] noL Tryz.f84 [SH 5 a sk] ret = knX a sk (tubeM a) (tubeB a (zB a)) (kgood 143 (SH 5 a sk)) := by kernel_rfl
def e5 : Int := knE a sk (tubeM a) (tubeB a (zB a))
theorem kn5_good (h : e5 a sk = 0) : FSpec Tryz.prog 84 [SH 5 a sk] (.tup [.ifc 143 (SH 5 a sk), iA 0]) := sp X1_ok Tryz.func84 (by kernel_rfl) (by kernel_rfl) rfl ((kn5_ev a sk).trans (knX_good (m := tubeM a) (b := tubeB a (zB a)) h))
theorem kn5_bad (h : e5 a sk ≠ 0) : FSpec Tryz.prog 84 [SH 5 a sk] (.tup [.x .nilIface, iA (e5 a sk)]) := sp X1_ok Tryz.func84 (by kernel_rfl) (by kernel_rfl) rfl ((kn5_ev a sk).trans (knX_bad (m := tubeM a) (b := tubeB a (zB a)) (o := kgood 143 (SH 5 a sk)) h))
theorem kn6_ev : ev Tryz.prog X1 [] noL Tryz.f84 [SH 6 a sk] ret = knX a sk (ringM a) (ringB a (zB a)) (kgood 144 (SH 6 a sk)) := by kernel_rfl
def e6 : Int := knE a sk (ringM a) (ringB a (zB a))
theorem kn6_good (h : e6 a sk = 0) : FSpec Tryz.prog 84 [SH 6 a sk] (.tup [.ifc 144 (SH 6 a sk), iA 0]) := sp X1_ok Tryz.func84 (by kernel_rfl) (by kernel_rfl) rfl ((kn6_ev a sk).trans (knX_good (m := ringM a) (b := ringB a (zB a)) h))
theorem kn6_bad (h : e6 a sk ≠ 0) : FSpec Tryz.prog 84 [SH 6 a sk] (.tup [.x .nilIface, iA (e6 a sk)]) := sp X1_ok Tryz.func84 (by kernel_rfl) (by kernel_rfl) rfl ((kn6_ev a sk).trans (knX_bad (m := ringM a) (b := ringB a (zB a)) (o := kgood 144 (SH 6 a sk)) h))
end
/-- A kind that there is none of. -/
def kOther (k : Int) : Prop := k ≠ 1 ∧ k ≠ 2 ∧ k ≠ 3 ∧ k ≠ 4 ∧ k ≠ 5 ∧ k ≠ 6
def e0 (a : Nat → Nat) (sk : Int) : Int := cond (skB sk) 4 (cond (rcB a) 1 3)
theorem kd0 {k : Int} (h : kOther k) (a : Nat → Nat) (sk : Int) : FSpec Tryz.prog 98 [SH k a sk] (.x .nilIface) := by
  obtain ⟨h1, h2, h3, h4, h5, h6⟩ := h
  refine sp e_nil Tryz.func98 (by kernel_rfl) (by kernel_rfl) rfl ((kd_ev k a sk).trans ?_)
  rw [beq_false_of_ne h1, beq_false_of_ne h2, beq_false_of_ne h3, beq_false_of_ne h4, beq_false_of_ne h5, beq_false_of_ne h6]
  rfl
theorem kn0_ev (k : Int) (a : Nat → Nat) (sk : Int) : ev Tryz.prog X0 [kS Tryz.prog 98 fun _ => .x .nilIface] noL Tryz.f84 [SH k a sk] ret = cond (skB sk) (kbad 4) (cond (rcB a) (kbad 1) (gate (FSpec Tryz.prog 98 [SH k a sk] (.x .nilIface)) (kbad 3))) := by kernel_rfl
theorem kn0_bad {k : Int} (h : kOther k) (a : Nat → Nat) (sk : Int) : FSpec Tryz.prog 84 [SH k a sk] (.tup [.x .nilIface, iA (e0 a sk)]) := by
  refine gspec X0_ok (k_cons kS_ok k_nil) Tryz.func84 (by kernel_rfl) (by kernel_rfl) noL_ok rfl ((kn0_ev k a sk).trans ?_)
  rw [gate_pos (kd0 h a sk)]
  unfold e0
  cases skB sk <;> cases rcB a <;> rfl
end Go.Proofs.YtngjiggplabfkaaGreat.Hs

namespace Go.Proofs.YtngjiggplabfkaaGreat.Hs
open Go.Gv
open Go.Ev (cn fadd fsub fmul fdiv fsqrt fneg feq flt fle fgt fge fabs isNan cn_of_not)

def X2 : List Entry := X1
theorem X2_ok : ∀ e, e ∈ X2 → EOk Tryz.prog e := X1_ok
section
variable (k : Int) (a : Nat → Nat) (sk : Int) (p q u : Nat)
variable (z : Nat)
end
end Go.Proofs.YtngjiggplabfkaaGreat.Hs

namespace Go.Proofs.YtngjiggplabfkaaGreat.Hs
open Go.Gv
open Go.Ev (cn fadd fsub fmul fdiv fsqrt fneg feq flt fle fgt fge fabs)

section
variable (k : Int) (a : Nat → Nat) (sk : Int) (r : Nat → Nat) (e : Int) (T : Nat) (p q u : Nat)
abbrev KNb : Prop := FSpec Tryz.prog 84 [SH k a sk] (.tup [.x .nilIface, iA e])
abbrev KNg : Prop := FSpec Tryz.prog 84 [SH k a sk] (.tup [.ifc T (SH k a sk), iA 0])
noncomputable def kK (x : AV) (e : Int) : KEntry := kS Tryz.prog 84 fun _ => .tup [x, iA e]
theorem may_evb : ev Tryz.prog X2 [kK (.x .nilIface) e] noL Tryz.f62 [SH k a sk] ret = gate (KNb k a sk e) (some (Out.of (iA e))) := by kernel_rfl
theorem may_evg : ev Tryz.prog X2 [kK (.ifc T (SH k a sk)) 0] noL Tryz.f62 [SH k a sk] ret = gate (KNg k a sk T) (some (Out.of (iA 0))) := by kernel_rfl
theorem may_b {k : Int} {a : Nat → Nat} {sk e : Int} (h : KNb k a sk e) : FSpec Tryz.prog 62 [SH k a sk] (iA e) := gspec X2_ok (k_cons kS_ok k_nil) Tryz.func62 (by kernel_rfl) (by kernel_rfl) noL_ok rfl ((may_evb k a sk e).trans (gate_pos h))
theorem may_g {k : Int} {a : Nat → Nat} {sk : Int} {T : Nat} (h : KNg k a sk T) : FSpec Tryz.prog 62 [SH k a sk] (iA 0) := gspec X2_ok (k_cons kS_ok k_nil) Tryz.func62 (by kernel_rfl) (by kernel_rfl) noL_ok rfl ((may_evg k a sk T).trans (gate_pos h))
def z6 : Nat → Nat := fun _ => 0
end
end Go.Proofs.YtngjiggplabfkaaGreat.Hs

namespace Go.Proofs.YtngjiggplabfkaaGreat.Hs
open Go.Gv
open Go.Ev (cn fadd fsub fmul fdiv fsqrt fneg feq flt fle fgt fge fabs)

section
end
end Go.Proofs.YtngjiggplabfkaaGreat.Hs

namespace Go.Proofs.YtngjiggplabfkaaGreat.Hs
open Go.Gv
open Go.Ev (cn fadd fsub fmul fdiv fsqrt fneg feq flt fle fgt fge fabs)

/-- Three floats in a row. -/
def fOf : List AV → Nat
  | [.f x] => x
  | _ => 0
theorem of_ev (g : Nat → Nat) : ev Tryz.prog [] [] noL Tryz.f97 [.sl 1 3 fun i => [.f (g i)]] ret = some (Out.of (V (g 0) (g 1) (g 2))) := by kernel_rfl
theorem rof (g : Nat → Nat) : FSpec Tryz.prog 97 [.sl 1 3 fun i => [.f (g i)]] (V (g 0) (g 1) (g 2)) := sp e_nil Tryz.func97 (by kernel_rfl) (by kernel_rfl) rfl (of_ev g)
def ofG : List AV → AV
  | [.sl _ _ el] => V (fOf (el 0)) (fOf (el 1)) (fOf (el 2))
  | _ => .any
def pE (a b c x k : Nat) : Nat → List AV := fun i => mixL ((0 + i) == k) [.f x] (chunk [.f a, .f b, .f c] 1 (0 + i))
theorem of_put {a b c x k : Nat} (g : Nat → Nat) (h : ∀ i, i < 3 → pE a b c x k i = [.f (g i)]) : FSpec Tryz.prog 97 [.sl 1 3 (pE a b c x k)] (V (g 0) (g 1) (g 2)) := by
  refine FSpec.of_args (rof g) fun E vs hv => ?_
  obtain ⟨v, ws, rfl, h1, h2⟩ := rels_cons.1 hv
  exact rels_cons.2 ⟨v, ws, rfl, sl_like h1 fun i hi => (h i hi).symm, h2⟩
section
variable (a b c x : Nat)
noncomputable def ptO (k : Nat) (v : AV) : Option Out := gate (FSpec Tryz.prog 97 [.sl 1 3 (pE a b c x k)] v) (some (Out.of v))
theorem put_ev0 : ev Tryz.prog [] [kS Tryz.prog 97 ofG] noL Tryz.f80 [V a b c, iA 0, .f x] ret = ptO a b c x 0 (V x b c) := by kernel_rfl
theorem put_ev1 : ev Tryz.prog [] [kS Tryz.prog 97 ofG] noL Tryz.f80 [V a b c, iA 1, .f x] ret = ptO a b c x 1 (V a x c) := by kernel_rfl
theorem put_ev2 : ev Tryz.prog [] [kS Tryz.prog 97 ofG] noL Tryz.f80 [V a b c, iA 2, .f x] ret = ptO a b c x 2 (V a b x) := by kernel_rfl
theorem rput0 : FSpec Tryz.prog 80 [V a b c, iA 0, .f x] (V x b c) := gspec e_nil (k_cons kS_ok k_nil) Tryz.func80 (by kernel_rfl) (by kernel_rfl) noL_ok rfl ((put_ev0 a b c x).trans (gate_pos (of_put (ls [x, b, c]) fun i hi => (by match i, hi with | 0, _ => rfl | 1, _ => rfl | 2, _ => rfl))))
theorem rput1 : FSpec Tryz.prog 80 [V a b c, iA 1, .f x] (V a x c) := gspec e_nil (k_cons kS_ok k_nil) Tryz.func80 (by kernel_rfl) (by kernel_rfl) noL_ok rfl ((put_ev1 a b c x).trans (gate_pos (of_put (ls [a, x, c]) fun i hi => (by match i, hi with | 0, _ => rfl | 1, _ => rfl | 2, _ => rfl))))
theorem rput2 : FSpec Tryz.prog 80 [V a b c, iA 2, .f x] (V a b x) := gspec e_nil (k_cons kS_ok k_nil) Tryz.func80 (by kernel_rfl) (by kernel_rfl) noL_ok rfl ((put_ev2 a b c x).trans (gate_pos (of_put (ls [a, b, x]) fun i hi => (by match i, hi with | 0, _ => rfl | 1, _ => rfl | 2, _ => rfl))))
end
def ePut : List AV → Option AV
  | [.agg [.f a, .f b, .f c], .x (.int .i64 k), .f x] => cond (k == 0) (some (V x b c)) (cond (k == 1) (some (V a x c)) (cond (k == 2) (some (V a b x)) none))
  | _ => none
theorem ePut_ok : EOk Tryz.prog ⟨80, ePut⟩ := fun args r hr => by
  simp only [ePut] at hr
  split at hr
  · rename_i a b c k x
    cases h0 : k == 0
    · rw [h0] at hr
      cases h1 : k == 1
      · rw [h1] at hr
        cases h2 : k == 2
        · rw [h2] at hr; cases hr
        · rw [h2] at hr; cases hr; rw [eq_of_beq h2]; exact Or.inl (rput2 a b c x)
      · rw [h1] at hr; cases hr; rw [eq_of_beq h1]; exact Or.inl (rput1 a b c x)
    · rw [h0] at hr; cases hr; rw [eq_of_beq h0]; exact Or.inl (rput0 a b c x)
  · cases hr
def aiR (k : Int) : Option Out := some (Out.of (iA k))
def aiT (a b c : Nat) : Option Out := cond (neZ a) (cond (neZ b) (cond (neZ c) (aiR (-1)) (aiR (-1))) (cond (neZ c) (aiR (-1)) (aiR 0))) (cond (neZ b) (cond (neZ c) (aiR (-1)) (aiR 1)) (cond (neZ c) (aiR 2) (aiR (-1))))
/-- The one axis, or -1. -/
def aiS (a b c : Nat) : Int := cond (axO a b c) (axI a b c) (-1)
theorem raxisOf (a b c : Nat) : FSpec Tryz.prog 73 [V a b c] (iA (aiS a b c)) := by
  refine sp R3_ok Tryz.func73 (by kernel_rfl) (by kernel_rfl) rfl ((show ev Tryz.prog R3 [] noL Tryz.f73 [V a b c] ret = aiT a b c by kernel_rfl).trans ?_)
  unfold aiT aiS axO axI aiR
  cases neZ a <;> cases neZ b <;> cases neZ c <;> rfl
theorem raxisZ {a : Nat → Nat} (h : axO (a 3) (a 4) (a 5) = true) : FSpec Tryz.prog 73 [V (a 3) (a 4) (a 5)] (iA (zB a : Nat)) := by
  have := raxisOf (a 3) (a 4) (a 5)
  unfold aiS at this
  rw [h, cond_true, axI_z] at this
  exact this
section
variable (o d : Nat → Nat) (r : Nat)
end
def noughtB (a b c : Nat) : Bool := cond (cond (feq a 0) (feq b 0) false) (feq c 0) false
theorem rnought (a b c : Nat) : FSpec Tryz.prog 81 [V a b c] (bA (noughtB a b c)) := sp e_nil Tryz.func81 (by kernel_rfl) (by kernel_rfl) rfl (by kernel_rfl)
def R4 : List Entry := ⟨80, ePut⟩ :: ⟨81, eV fun a b c => bA (noughtB a b c)⟩ :: R3
theorem R4_ok : ∀ e, e ∈ R4 → EOk Tryz.prog e := e_cons ePut_ok <| e_cons (eV_ok rnought) R3_ok
end Go.Proofs.YtngjiggplabfkaaGreat.Hs

namespace Go.Ev
open Ieee

theorem order_self {d : Datum} (h : d.isNaN = false) : d.order d = some .eq := by
  cases d with
  | number s m i => simp only [Datum.order]; simp
  | infinity s => simp [Datum.order]
  | nan s f => simp [Datum.isNaN] at h

theorem feq_self (x : Nat) : feq x x = !isNan x := by
  unfold feq
  cases h : isNan x
  · have : double.order x x = some .eq := order_self h
    rw [this]; rfl
  · have : double.order x x = none := order_nan_left h
    rw [this]; rfl

end Go.Ev

namespace Go.Ev
open Ieee
theorem datum_tot {d e : Datum} (hd : d.isNaN = false) (he : e.isNaN = false) : ∃ o, d.order e = some o := by
  cases d with
  | nan s f => simp [Datum.isNaN] at hd
  | infinity s =>
    cases e with
    | nan s f => simp [Datum.isNaN] at he
    | infinity t => cases s <;> cases t <;> exact ⟨_, rfl⟩
    | number t m i => cases s <;> exact ⟨_, rfl⟩
  | number s m i =>
    cases e with
    | nan s f => simp [Datum.isNaN] at he
    | infinity t => cases t <;> exact ⟨_, rfl⟩
    | number t n j => exact ⟨_, rfl⟩
theorem order_tot {x y : Nat} (hx : isNan x = false) (hy : isNan y = false) : ∃ o, double.order x y = some o := datum_tot hx hy
theorem fge_not {x y : Nat} (hx : isNan x = false) (hy : isNan y = false) : fge x y = !flt x y := by
  obtain ⟨o, h⟩ := order_tot hx hy
  unfold fge flt
  rw [h]
  cases o <;> rfl
theorem fle_not {x y : Nat} (hx : isNan x = false) (hy : isNan y = false) : fle x y = !fgt x y := by
  obtain ⟨o, h⟩ := order_tot hx hy
  unfold fle fgt
  rw [h]
  cases o <;> rfl
theorem nan_fge {x y : Nat} (h : fge x y = true) : isNan x = false ∧ isNan y = false := by
  unfold fge at h
  constructor
  · cases hx : isNan x
    · rfl
    · have e : double.order x y = none := order_nan_left hx
      rw [e] at h; cases h
  · cases hy : isNan y
    · rfl
    · have e : double.order x y = none := order_nan_right hy
      rw [e] at h; cases h
end Go.Ev
namespace Go.Proofs.YtngjiggplabfkaaGreat.Hs
open Go.Gv
open Go.Ev (cn fadd fsub fmul fdiv fsqrt fneg feq flt fle fgt fge fabs isNan fge_not fle_not nan_fge)

theorem near_nan {x : Nat} (h : nearS x = true) : isNan x = false := by
  unfold nearS at h
  cases h1 : fge x 13920209183539462144
  · rw [h1] at h; cases h
  · exact (nan_fge h1).1
theorem fine_near {a b c : Nat} (h : fineS a b c = true) : nearS a = true ∧ nearS b = true ∧ nearS c = true := by
  unfold fineS at h
  revert h
  cases nearS a <;> cases nearS b <;> cases nearS c <;> intro h <;> first | (cases h; done) | exact ⟨rfl, rfl, rfl⟩
theorem not_gt {x : Nat} (h : nearS x = true) : fle x 0 = !fgt x 0 := fle_not (near_nan h) (by decide +kernel)
section
variable (b r : Nat → Nat)
end
def R5 : List Entry := R4
theorem R5_ok : ∀ e, e ∈ R5 → EOk Tryz.prog e := R4_ok
end Go.Proofs.YtngjiggplabfkaaGreat.Hs

namespace Go.Proofs.YtngjiggplabfkaaGreat.Hs
open Go.Gv
open Go.Ev (cn fadd fsub fmul fdiv fsqrt fneg feq flt fle fgt fge fabs isNan fge_not fle_not)

section
variable (a : Nat → Nat) (sk : Int)
theorem ar1 : FSpec Tryz.prog 75 [SH 1 a sk] (BX (cubeB a)) := sp R5_ok Tryz.func75 (by kernel_rfl) (by kernel_rfl) rfl (by kernel_rfl)
theorem ar2 : FSpec Tryz.prog 75 [SH 2 a sk] (BX (blockB a)) := sp R5_ok Tryz.func75 (by kernel_rfl) (by kernel_rfl) rfl (by kernel_rfl)
theorem ar3 : FSpec Tryz.prog 75 [SH 3 a sk] (BX (triB a)) := sp R5_ok Tryz.func75 (by kernel_rfl) (by kernel_rfl) rfl (by kernel_rfl)
theorem ar4 : FSpec Tryz.prog 75 [SH 4 a sk] (BX (cubeB a)) := sp R5_ok Tryz.func75 (by kernel_rfl) (by kernel_rfl) rfl (by kernel_rfl)
noncomputable def axK (z : Nat) : KEntry := kS Tryz.prog 73 fun _ => iA (z : Nat)
noncomputable def gAx (z : Nat) (o : Option Out) : Option Out := gate (FSpec Tryz.prog 73 [V (a 3) (a 4) (a 5)] (iA (z : Nat))) o
theorem gAx_pos {z : Nat} {o : Option Out} (h : axO (a 3) (a 4) (a 5) = true) (hz : zB a = z) : gAx a z o = o := gate_pos (by rw [← hz]; exact raxisZ h)
theorem ar5_ev0 : ev Tryz.prog R5 [axK 0] noL Tryz.f75 [SH 5 a sk] ret = gAx a 0 (some (Out.of (BX (tubeB a 0)))) := by kernel_rfl
theorem ar5_ev1 : ev Tryz.prog R5 [axK 1] noL Tryz.f75 [SH 5 a sk] ret = gAx a 1 (some (Out.of (BX (tubeB a 1)))) := by kernel_rfl
theorem ar5_ev2 : ev Tryz.prog R5 [axK 2] noL Tryz.f75 [SH 5 a sk] ret = gAx a 2 (some (Out.of (BX (tubeB a 2)))) := by kernel_rfl
theorem ar5 (h : axO (a 3) (a 4) (a 5) = true) : FSpec Tryz.prog 75 [SH 5 a sk] (BX (tubeB a (zB a))) := by
  rcases zB_lt a with hz | hz | hz
  · rw [hz]; exact gspec R5_ok (k_cons kS_ok k_nil) Tryz.func75 (by kernel_rfl) (by kernel_rfl) noL_ok rfl ((ar5_ev0 a sk).trans (gAx_pos a h hz))
  · rw [hz]; exact gspec R5_ok (k_cons kS_ok k_nil) Tryz.func75 (by kernel_rfl) (by kernel_rfl) noL_ok rfl ((ar5_ev1 a sk).trans (gAx_pos a h hz))
  · rw [hz]; exact gspec R5_ok (k_cons kS_ok k_nil) Tryz.func75 (by kernel_rfl) (by kernel_rfl) noL_ok rfl ((ar5_ev2 a sk).trans (gAx_pos a h hz))
theorem ar6_ev0 : ev Tryz.prog R5 [axK 0] noL Tryz.f75 [SH 6 a sk] ret = gAx a 0 (some (Out.of (BX (ringB a 0)))) := by kernel_rfl
theorem ar6_ev1 : ev Tryz.prog R5 [axK 1] noL Tryz.f75 [SH 6 a sk] ret = gAx a 1 (some (Out.of (BX (ringB a 1)))) := by kernel_rfl
theorem ar6_ev2 : ev Tryz.prog R5 [axK 2] noL Tryz.f75 [SH 6 a sk] ret = gAx a 2 (some (Out.of (BX (ringB a 2)))) := by kernel_rfl
theorem ar6 (h : axO (a 3) (a 4) (a 5) = true) : FSpec Tryz.prog 75 [SH 6 a sk] (BX (ringB a (zB a))) := by
  rcases zB_lt a with hz | hz | hz
  · rw [hz]; exact gspec R5_ok (k_cons kS_ok k_nil) Tryz.func75 (by kernel_rfl) (by kernel_rfl) noL_ok rfl ((ar6_ev0 a sk).trans (gAx_pos a h hz))
  · rw [hz]; exact gspec R5_ok (k_cons kS_ok k_nil) Tryz.func75 (by kernel_rfl) (by kernel_rfl) noL_ok rfl ((ar6_ev1 a sk).trans (gAx_pos a h hz))
  · rw [hz]; exact gspec R5_ok (k_cons kS_ok k_nil) Tryz.func75 (by kernel_rfl) (by kernel_rfl) noL_ok rfl ((ar6_ev2 a sk).trans (gAx_pos a h hz))
noncomputable def arK (b : Nat → Nat) : KEntry := kS Tryz.prog 75 fun _ => BX b
noncomputable def gAr (j : Int) (b : Nat → Nat) (o : Option Out) : Option Out := gate (FSpec Tryz.prog 75 [SH j a sk] (BX b)) o
noncomputable def smZ (j : Int) (b : Nat → Nat) : Option Out := gAr a sk j b (cond (!(mayS b == 0)) (aiR 1) (aiR 0))
noncomputable def smX (o : Option Out) : Option Out := cond (skB sk) (aiR 4) (cond (rcB a) (aiR 1) o)
def R6 : List Entry := ⟨73, eV fun a b c => iA (aiS a b c)⟩ :: R5
theorem R6_ok : ∀ e, e ∈ R6 → EOk Tryz.prog e := e_cons (eV_ok raxisOf) R5_ok
theorem sm1_ev (b : Nat → Nat) : ev Tryz.prog R6 [arK b] noL Tryz.f49 [SH 1 a sk] ret = smX a sk (cond (fle (a 9) 0) (aiR 6) (smZ a sk 1 b)) := by kernel_rfl
theorem sm2_ev (b : Nat → Nat) : ev Tryz.prog R6 [arK b] noL Tryz.f49 [SH 2 a sk] ret = smX a sk (cond (blockG a) (aiR 6) (smZ a sk 2 b)) := by kernel_rfl
theorem sm3_ev (b : Nat → Nat) : ev Tryz.prog R6 [arK b] noL Tryz.f49 [SH 3 a sk] ret = smX a sk (smZ a sk 3 b) := by kernel_rfl
theorem sm4_ev (b : Nat → Nat) : ev Tryz.prog R6 [arK b] noL Tryz.f49 [SH 4 a sk] ret = smX a sk (cond (fle (a 9) 0) (aiR 6) (cond (!(unE (a 3) (a 4) (a 5) == 0)) (aiR (unE (a 3) (a 4) (a 5))) (smZ a sk 4 b))) := by kernel_rfl
theorem sm5_ev (b : Nat → Nat) : ev Tryz.prog R6 [arK b] noL Tryz.f49 [SH 5 a sk] ret = smX a sk (cond (cond (fle (a 9) 0) true (decide (aiS (a 3) (a 4) (a 5) < 0))) (aiR 6) (smZ a sk 5 b)) := by kernel_rfl
theorem sm6_ev (b : Nat → Nat) : ev Tryz.prog R6 [arK b] noL Tryz.f49 [SH 6 a sk] ret = smX a sk (cond (cond (cond (fle (a 10) 0) true (flt (a 9) (a 10))) true (decide (aiS (a 3) (a 4) (a 5) < 0))) (aiR 6) (smZ a sk 6 b)) := by kernel_rfl
theorem sm0_ev (k : Int) (b : Nat → Nat) : ev Tryz.prog R6 [arK b] noL Tryz.f49 [SH k a sk] ret = smX a sk (cond (k == 1) (cond (fle (a 9) 0) (aiR 6) (smZ a sk k b)) (cond (k == 2) (cond (blockG a) (aiR 6) (smZ a sk k b)) (cond (k == 3) (smZ a sk k b) (cond (k == 4) (cond (fle (a 9) 0) (aiR 6) (cond (!(unE (a 3) (a 4) (a 5) == 0)) (aiR (unE (a 3) (a 4) (a 5))) (smZ a sk k b)))
    (cond (k == 5) (cond (cond (fle (a 9) 0) true (decide (aiS (a 3) (a 4) (a 5) < 0))) (aiR 6) (smZ a sk k b)) (cond (k == 6) (cond (cond (cond (fle (a 10) 0) true (flt (a 9) (a 10))) true (decide (aiS (a 3) (a 4) (a 5) < 0))) (aiR 6) (smZ a sk k b)) (aiR 3))))))) := by kernel_rfl
end
theorem aiS_neg (x y z : Nat) : decide (aiS x y z < 0) = !axO x y z := by
  unfold aiS axO axI
  cases neZ x <;> cases neZ y <;> cases neZ z <;> rfl
theorem rc_near {a : Nat → Nat} (h : rcB a = false) : nearS (a 9) = true ∧ nearS (a 10) = true := by
  unfold rcB at h
  revert h
  cases fineS (a 0) (a 1) (a 2) <;> cases fineS (a 3) (a 4) (a 5) <;> cases fineS (a 6) (a 7) (a 8) <;> cases nearS (a 9) <;> cases nearS (a 10) <;> intro h <;> first | (cases h; done) | exact ⟨rfl, rfl⟩
theorem smX_go {a : Nat → Nat} {sk : Int} {m : Int} {b : Nat → Nat} {o : Option Out} (h : rcB a = false → o = cond (!(m == 0)) (aiR m) (cond (!(mayS b == 0)) (aiR 1) (aiR 0))) : smX a sk o = some (Out.of (iA (knE a sk m b))) := by
  unfold smX knE
  cases skB sk
  · cases hr : rcB a
    · rw [h hr]
      unfold aiR
      cases (m == 0) <;> cases (mayS b == 0) <;> rfl
    · rfl
  · rfl
theorem smZ_pos {a : Nat → Nat} {sk j : Int} {b : Nat → Nat} (h : FSpec Tryz.prog 75 [SH j a sk] (BX b)) : smZ a sk j b = cond (!(mayS b == 0)) (aiR 1) (aiR 0) := gate_pos h
section
variable (a : Nat → Nat) (sk : Int)
theorem sm1 : FSpec Tryz.prog 49 [SH 1 a sk] (iA (e1 a sk)) := by
  refine gspec R6_ok (k_cons kS_ok k_nil) Tryz.func49 (by kernel_rfl) (by kernel_rfl) noL_ok rfl ((sm1_ev a sk (cubeB a)).trans (smX_go fun hr => ?_))
  rw [smZ_pos (ar1 a sk), not_gt (rc_near hr).1]
  unfold ballM
  cases fgt (a 9) 0 <;> rfl
theorem sm2 : FSpec Tryz.prog 49 [SH 2 a sk] (iA (e2 a sk)) := by
  refine gspec R6_ok (k_cons kS_ok k_nil) Tryz.func49 (by kernel_rfl) (by kernel_rfl) noL_ok rfl ((sm2_ev a sk (blockB a)).trans (smX_go fun hr => ?_))
  rw [smZ_pos (ar2 a sk)]
  unfold blockM
  cases blockG a <;> rfl
theorem sm3 : FSpec Tryz.prog 49 [SH 3 a sk] (iA (e3 a sk)) := by
  refine gspec R6_ok (k_cons kS_ok k_nil) Tryz.func49 (by kernel_rfl) (by kernel_rfl) noL_ok rfl ((sm3_ev a sk (triB a)).trans (smX_go fun hr => ?_))
  rw [smZ_pos (ar3 a sk)]
  rfl
theorem sm4 : FSpec Tryz.prog 49 [SH 4 a sk] (iA (e4 a sk)) := by
  refine gspec R6_ok (k_cons kS_ok k_nil) Tryz.func49 (by kernel_rfl) (by kernel_rfl) noL_ok rfl ((sm4_ev a sk (cubeB a)).trans (smX_go fun hr => ?_))
  rw [smZ_pos (ar4 a sk), not_gt (rc_near hr).1]
  unfold plateM
  cases fgt (a 9) 0
  · rfl
  · rfl
theorem sm5 : FSpec Tryz.prog 49 [SH 5 a sk] (iA (e5 a sk)) := by
  refine gspec R6_ok (k_cons kS_ok k_nil) Tryz.func49 (by kernel_rfl) (by kernel_rfl) noL_ok rfl ((sm5_ev a sk (tubeB a (zB a))).trans (smX_go fun hr => ?_))
  rw [not_gt (rc_near hr).1, aiS_neg]
  unfold tubeM
  cases ho : axO (a 3) (a 4) (a 5)
  · cases fgt (a 9) 0 <;> rfl
  · rw [smZ_pos (ar5 a sk ho)]
    cases fgt (a 9) 0 <;> rfl
theorem sm6 : FSpec Tryz.prog 49 [SH 6 a sk] (iA (e6 a sk)) := by
  refine gspec R6_ok (k_cons kS_ok k_nil) Tryz.func49 (by kernel_rfl) (by kernel_rfl) noL_ok rfl ((sm6_ev a sk (ringB a (zB a))).trans (smX_go fun hr => ?_))
  rw [not_gt (rc_near hr).2, aiS_neg]
  unfold ringM
  rw [fge_not (near_nan (rc_near hr).1) (near_nan (rc_near hr).2)]
  cases ho : axO (a 3) (a 4) (a 5)
  · cases fgt (a 10) 0 <;> cases flt (a 9) (a 10) <;> rfl
  · rw [smZ_pos (ar6 a sk ho)]
    cases fgt (a 10) 0 <;> cases flt (a 9) (a 10) <;> rfl
theorem sm0 {k : Int} (h : kOther k) : FSpec Tryz.prog 49 [SH k a sk] (iA (e0 a sk)) := by
  obtain ⟨h1, h2, h3, h4, h5, h6⟩ := h
  refine gspec R6_ok (k_cons kS_ok k_nil) Tryz.func49 (by kernel_rfl) (by kernel_rfl) noL_ok rfl ((sm0_ev a sk k z6).trans ?_)
  rw [beq_false_of_ne h1, beq_false_of_ne h2, beq_false_of_ne h3, beq_false_of_ne h4, beq_false_of_ne h5, beq_false_of_ne h6]
  unfold smX e0 aiR
  cases skB sk <;> cases rcB a <;> rfl
end
section
variable (k : Int) (a : Nat → Nat) (sk : Int) (e : Int) (b : Nat → Nat)
end
end Go.Proofs.YtngjiggplabfkaaGreat.Hs

namespace Go.Proofs.YtngjiggplabfkaaGreat.Hs
open Go.Gv
open Go.Ev (cn fadd fsub fmul fdiv fsqrt fneg feq flt fle fgt fge fabs isNan)

abbrev shC (k : Int) (a : Nat → Nat) (sk : Int) : List AV := [iA k, .f (a 0), .f (a 1), .f (a 2), .f (a 3), .f (a 4), .f (a 5), .f (a 6), .f (a 7), .f (a 8), .f (a 9), .f (a 10), iA sk]
def MayOk (c : List AV) (m : Int) : Prop := FSpec Tryz.prog 62 [.agg c] (iA m) ∧ FSpec Tryz.prog 49 [.agg c] (iA m)
theorem may_all (k : Int) (a : Nat → Nat) (sk : Int) : ∃ m, MayOk (shC k a sk) m := by
  by_cases h1 : k = 1
  · subst h1
    have sm := sm1 a sk
    by_cases h : e1 a sk = 0
    · rw [h] at sm; exact ⟨0, may_g (kn1_good a sk h), sm⟩
    · exact ⟨_, may_b (kn1_bad a sk h), sm⟩
  by_cases h2 : k = 2
  · subst h2
    have sm := sm2 a sk
    by_cases h : e2 a sk = 0
    · rw [h] at sm; exact ⟨0, may_g (kn2_good a sk h), sm⟩
    · exact ⟨_, may_b (kn2_bad a sk h), sm⟩
  by_cases h3 : k = 3
  · subst h3
    have sm := sm3 a sk
    by_cases h : e3 a sk = 0
    · rw [h] at sm; exact ⟨0, may_g (kn3_good a sk h), sm⟩
    · exact ⟨_, may_b (kn3_bad a sk h), sm⟩
  by_cases h4 : k = 4
  · subst h4
    have sm := sm4 a sk
    by_cases h : e4 a sk = 0
    · rw [h] at sm; exact ⟨0, may_g (kn4_good a sk h), sm⟩
    · exact ⟨_, may_b (kn4_bad a sk h), sm⟩
  by_cases h5 : k = 5
  · subst h5
    have sm := sm5 a sk
    by_cases h : e5 a sk = 0
    · rw [h] at sm; exact ⟨0, may_g (kn5_good a sk h), sm⟩
    · exact ⟨_, may_b (kn5_bad a sk h), sm⟩
  by_cases h6 : k = 6
  · subst h6
    have sm := sm6 a sk
    by_cases h : e6 a sk = 0
    · rw [h] at sm; exact ⟨0, may_g (kn6_good a sk h), sm⟩
    · exact ⟨_, may_b (kn6_bad a sk h), sm⟩
  exact ⟨_, may_b (kn0_bad ⟨h1, h2, h3, h4, h5, h6⟩ a sk), sm0 a sk ⟨h1, h2, h3, h4, h5, h6⟩⟩
open Classical in
/-- What May says of the cells of a shape. -/
noncomputable def mayC (c : List AV) : Int := if h : ∃ m, MayOk c m then h.choose else 0
theorem mayC_spec (k : Int) (a : Nat → Nat) (sk : Int) : FSpec Tryz.prog 62 [SH k a sk] (iA (mayC (shC k a sk))) ∧ FSpec Tryz.prog 49 [SH k a sk] (iA (mayC (shC k a sk))) := by
  unfold mayC
  rw [dif_pos (may_all k a sk)]
  exact (may_all k a sk).choose_spec
end Go.Proofs.YtngjiggplabfkaaGreat.Hs

namespace Go.Proofs.YtngjiggplabfkaaGreat.Hs.So
open Go.Gv
open Go.Ev (cn fadd fsub fmul fdiv fsqrt fneg feq flt fle fgt fge fabs isNan)

structure Prt where
  op : Int
  l : Int
  r : Int
  k : Int
  a : Nat → Nat
  sk : Int
def Prt.s (p : Prt) : List AV := shC p.k p.a p.sk
def Prt.c (p : Prt) : List AV := [iA p.op, iA p.l, iA p.r, iA p.k, .f (p.a 0), .f (p.a 1), .f (p.a 2), .f (p.a 3), .f (p.a 4), .f (p.a 5), .f (p.a 6), .f (p.a 7), .f (p.a 8), .f (p.a 9), .f (p.a 10), iA p.sk]
def prS (n : Nat) (P : Nat → Prt) : AV := .sl 16 n fun i => (P i).c
def soC (n : Nat) (P : Nat → Prt) (sn : Int) : List AV := [prS n P, iA sn]
/-- An entry that takes the cells of a shape. -/
def eSc (g : List AV → AV) : List AV → Option AV
  | [.agg [.x (.int .i64 k), .f a0, .f a1, .f a2, .f a3, .f a4, .f a5, .f a6, .f a7, .f a8, .f a9, .f a10, .x (.int .i64 sk)]] => some (g [.x (.int .i64 k), .f a0, .f a1, .f a2, .f a3, .f a4, .f a5, .f a6, .f a7, .f a8, .f a9, .f a10, .x (.int .i64 sk)])
  | _ => none
theorem eSc_ok {f : Nat} {g : List AV → AV} (h : ∀ k a sk, FSpec Tryz.prog f [SH k a sk] (g (shC k a sk))) : EOk Tryz.prog ⟨f, eSc g⟩ := fun args r hr => by
  simp only [eSc] at hr
  split at hr
  · cases hr; exact Or.inl (h _ (ls [_, _, _, _, _, _, _, _, _, _, _]) _)
  · cases hr
def kin (k : Int) : Bool := (k == 1) || ((k == 2) || (k == 5))
def ktT {α : Type} (k : Int) (z t : α) : α := cond (k == 1) (cond (k == 1) z t) (cond (k == 2) (cond (k == 2) z t) (cond (k == 5) z t))
theorem ktT_eq {α : Type} (k : Int) (z t : α) : ktT k z t = cond (kin k) z t := by
  unfold ktT kin
  cases k == 1 <;> cases k == 2 <;> cases k == 5 <;> rfl
section
variable (mf : List AV → Int) (k : Int) (a : Nat → Nat) (sk : Int)
def mlE (m k : Int) : Int := cond (!(m == 0)) m (cond (kin k) 0 3)
theorem ml_ev : ev Tryz.prog [⟨62, eSc fun c => iA (mf c)⟩] [] noL Tryz.f100 [SH k a sk] ret = cond (!(mf (shC k a sk) == 0)) (aiR (mf (shC k a sk))) (ktT k (aiR 0) (aiR 3)) := by kernel_rfl
end
theorem eMay_ok : EOk Tryz.prog ⟨62, eSc fun c => iA (mayC c)⟩ := eSc_ok fun k a sk => (mayC_spec k a sk).1
theorem eMayR_ok : EOk Tryz.prog ⟨49, eSc fun c => iA (mayC c)⟩ := eSc_ok fun k a sk => (mayC_spec k a sk).2
theorem sml (k : Int) (a : Nat → Nat) (sk : Int) : FSpec Tryz.prog 100 [SH k a sk] (iA (mlE (mayC (shC k a sk)) k)) := by
  refine sp (e_cons eMay_ok e_nil) Tryz.func100 (by kernel_rfl) (by kernel_rfl) rfl ((ml_ev mayC k a sk).trans ?_)
  rw [ktT_eq]
  unfold mlE aiR
  cases (mayC (shC k a sk) == 0) <;> cases kin k <;> rfl
/-- Which kind the cells of a shape are of. -/
def kOfC : List AV → Int
  | .x (.int .i64 k) :: _ => k
  | _ => 0
theorem eMl_ok : EOk Tryz.prog ⟨100, eSc fun c => iA (mlE (mayC c) (kOfC c))⟩ := eSc_ok fun k a sk => sml k a sk
def nmB (l r i : Int) : Bool := cond (cond (cond (decide (l < 0)) true (decide (l ≥ i))) true (decide (r < 0))) true (decide (r ≥ i))
def opT {α : Type} (o : Int) (z t : α) : α := cond (o == 1) (cond (o == 1) z t) (cond (o == 2) (cond (o == 2) z t) (cond (o == 3) z t))
def opB (o : Int) : Bool := (o == 1) || ((o == 2) || (o == 3))
theorem opT_eq {α : Type} (o : Int) (z t : α) : opT o z t = cond (opB o) z t := by
  unfold opT opB
  cases o == 1 <;> cases o == 2 <;> cases o == 3 <;> rfl
/-- The errno of a part with so many ahead of it. -/
noncomputable def ppE (p : Prt) (i : Int) : Int := cond (p.op == 0) (mlE (mayC p.s) p.k) (cond (opB p.op) (cond (nmB p.l p.r i) 9 0) 11)
theorem mp_ev (g : List AV → Int) (p : Prt) (i : Int) : ev Tryz.prog [⟨100, eSc fun c => iA (g c)⟩] [] noL Tryz.f85 [.agg p.c, iA i] ret = cond (p.op == 0) (aiR (g p.s)) (opT p.op (cond (nmB p.l p.r i) (aiR 9) (aiR 0)) (aiR 11)) := by kernel_rfl
theorem smp (p : Prt) (i : Int) : FSpec Tryz.prog 85 [.agg p.c, iA i] (iA (ppE p i)) := by
  refine sp (e_cons eMl_ok e_nil) Tryz.func85 (by kernel_rfl) (by kernel_rfl) rfl ((mp_ev (fun c => mlE (mayC c) (kOfC c)) p i).trans ?_)
  rw [opT_eq]
  unfold ppE aiR
  show cond (p.op == 0) (some (Out.of (iA (mlE (mayC p.s) p.k)))) _ = _
  cases p.op == 0 <;> cases opB p.op <;> cases nmB p.l p.r i <;> rfl
def seqE (fb : Nat → Int) : Nat → Int
  | 0 => 0
  | i + 1 => cond (seqE fb i == 0) (fb i) (seqE fb i)
theorem seq_all {fb : Nat → Int} : ∀ n, (∀ i, i < n → fb i = 0) → seqE fb n = 0
  | 0, _ => rfl
  | n + 1, h => by
    show cond (seqE fb n == 0) (fb n) (seqE fb n) = 0
    rw [seq_all n fun i hi => h i (by omega), h n (by omega)]
    rfl
theorem seq_first {fb : Nat → Int} {K : Nat} (hK : fb K ≠ 0) (h : ∀ i, i < K → fb i = 0) : ∀ n, K < n → seqE fb n = fb K
  | 0, hn => absurd hn (Nat.not_lt_zero _)
  | n + 1, hn => by
    show cond (seqE fb n == 0) (fb n) (seqE fb n) = _
    by_cases e : K = n
    · subst e; rw [seq_all K h]; rfl
    · rw [seq_first hK h n (by omega), beq_false_of_ne hK]; rfl
theorem seq_zero {fb : Nat → Int} : ∀ n, seqE fb n = 0 → ∀ i, i < n → fb i = 0
  | 0, _, i, hi => absurd hi (Nat.not_lt_zero i)
  | n + 1, h, i, hi => by
    have h : cond (seqE fb n == 0) (fb n) (seqE fb n) = 0 := h
    by_cases h0 : seqE fb n = 0
    · rw [h0] at h
      have h : fb n = 0 := h
      by_cases e : i = n
      · subst e; exact h
      · exact seq_zero n h0 i (by omega)
    · rw [beq_false_of_ne h0] at h; exact absurd h h0
noncomputable def paE (P : Nat → Prt) (i : Nat) : Int := ppE (P i) (i : Nat)
def soX (n : Nat) (sn : Int) (R : Option Out) : Option Out := cond (cond (decide ((n : Int) < 1)) true (decide ((n : Int) > 16))) (aiR 5) (cond (skB sn) (aiR 4) R)
/-- The errno of a solid. -/
noncomputable def soE (n : Nat) (P : Nat → Prt) (sn : Int) : Int := cond (cond (decide ((n : Int) < 1)) true (decide ((n : Int) > 16))) 5 (cond (skB sn) 4 (seqE (paE P) n))
theorem soX_eq {n : Nat} {P : Nat → Prt} {sn : Int} {R : Option Out} (h : 1 ≤ n → n ≤ 16 → R = aiR (seqE (paE P) n)) : soX n sn R = some (Out.of (iA (soE n P sn))) := by
  unfold soX soE
  by_cases h1 : n < 1
  · rw [decide_eq_true (show (n : Int) < 1 by omega)]; rfl
  · by_cases h2 : 16 < n
    · rw [decide_eq_false (show ¬ (n : Int) < 1 by omega), decide_eq_true (show (n : Int) > 16 by omega)]; rfl
    · rw [decide_eq_false (show ¬ (n : Int) < 1 by omega), decide_eq_false (show ¬ (n : Int) > 16 by omega), h (by omega) (by omega)]
      unfold aiR
      cases skB sn <;> rfl
def smS (n : Nat) (P : Nat → Prt) (i : Int) : St := mkS 39 [(25, prS n P), (26, iA n), (27, iA i)] []
def smE' (e : Int) : St := mkS 39 [(2, iA e)] []
def eMp (g : List AV → Int → Int) : List AV → Option AV
  | [.agg [.x (.int .i64 o), .x (.int .i64 l), .x (.int .i64 r), .x (.int .i64 k), .f a0, .f a1, .f a2, .f a3, .f a4, .f a5, .f a6, .f a7, .f a8, .f a9, .f a10, .x (.int .i64 sk)], .x (.int .i64 i)] => some (iA (g [.x (.int .i64 o), .x (.int .i64 l), .x (.int .i64 r), .x (.int .i64 k), .f a0, .f a1, .f a2, .f a3, .f a4, .f a5, .f a6, .f a7, .f a8, .f a9, .f a10, .x (.int .i64 sk)] i))
  | _ => none
def decP : List AV → Prt
  | [.x (.int .i64 o), .x (.int .i64 l), .x (.int .i64 r), .x (.int .i64 k), .f a0, .f a1, .f a2, .f a3, .f a4, .f a5, .f a6, .f a7, .f a8, .f a9, .f a10, .x (.int .i64 sk)] => ⟨o, l, r, k, ls [a0, a1, a2, a3, a4, a5, a6, a7, a8, a9, a10], sk⟩
  | _ => ⟨0, 0, 0, 0, fun _ => 0, 0⟩
noncomputable def mpG (c : List AV) (i : Int) : Int := ppE (decP c) i
theorem mpG_eq (p : Prt) (i : Int) : mpG p.c i = ppE p i := rfl
theorem eMp_ok : EOk Tryz.prog ⟨85, eMp mpG⟩ := fun args r hr => by
  simp only [eMp] at hr
  split at hr
  · cases hr; exact Or.inl (smp ⟨_, _, _, _, ls [_, _, _, _, _, _, _, _, _, _, _], _⟩ _)
  · cases hr
section
variable (g : List AV → Int → Int) (n : Nat) (P : Nat → Prt) (i : Int) (sn : Int)
def smC (o ob oe : Option Out) : Option Out := cond (decide (i < n)) (cond (ixB i n || false) (cond (!(g (P i.toNat).c i == 0)) ob o) none) oe
theorem sm_step : evC Tryz.prog [⟨85, eMp g⟩] [] noL (loopAt Tryz.f63 0) (smS n P i) (finN [25, 26, 27] []) = smC g n P i (some ⟨.normal, smS n P (w64 (i + 1)), .any⟩) none none := by kernel_rfl
theorem sm_ret : evC Tryz.prog [⟨85, eMp g⟩] [] noL (loopAt Tryz.f63 0) (smS n P i) (finR [2] []) = smC g n P i none (some ⟨.ret, smE' (g (P i.toNat).c i), .any⟩) none := by kernel_rfl
theorem sm_end : evC Tryz.prog [⟨85, eMp g⟩] [] noL (loopAt Tryz.f63 0) (smS n P i) (finE [25, 26, 27] []) = smC g n P i none none (some ⟨.exit 0, smS n P i, .any⟩) := by kernel_rfl
theorem sm_evG (j : Int) : ev Tryz.prog [⟨85, eMp g⟩] [] (oneL 6 (toldF [25, 26, 27] [] (smS n P 0) (.exit 0) (smS n P j))) Tryz.f63 [.agg (soC n P sn)] ret = soX n sn (gate (Sub (smS n P 0) (smS n P 0)) (aiR 0)) := by kernel_rfl
theorem sm_evR (e : Int) : ev Tryz.prog [⟨85, eMp g⟩] [] (oneL 6 (toldF [25, 26, 27] [] (smS n P 0) .ret (smE' e))) Tryz.f63 [.agg (soC n P sn)] ret = soX n sn (gate (Sub (smS n P 0) (smS n P 0)) (aiR e)) := by kernel_rfl
theorem sm_ev0 : ev Tryz.prog [⟨85, eMp g⟩] [] (oneL 6 fun _ _ => none) Tryz.f63 [.agg (soC n P sn)] ret = soX n sn none := by kernel_rfl
end
theorem smay_spec (n : Nat) (P : Nat → Prt) (sn : Int) : FSpec Tryz.prog 63 [.agg (soC n P sn)] (iA (soE n P sn)) := by
  have en := e_cons eMp_ok e_nil
  by_cases hc : n < 1 ∨ 16 < n
  · exact gspec en k_nil Tryz.func63 (by kernel_rfl) (by kernel_rfl) (lok_none 6) rfl ((sm_ev0 mpG n P sn).trans (soX_eq fun h1 h2 => absurd hc (by omega)))
  · have go : ∀ k, k < n → paE P k = 0 → Leads Tryz.prog (loopAt Tryz.f63 0) (smS n P (k : Nat)) .normal (smS n P ((k + 1 : Nat) : Int)) := fun k hk hb => by
      refine leads_ev (finN_sub _ _) en k_nil noL_ok ((sm_step mpG n P (k : Nat)).trans ?_)
      unfold smC
      rw [dec_lt hk, ixB_t hk, Int.toNat_natCast, mpG_eq, show ppE (P k) (k : Nat) = 0 from hb, w64_next (by omega)]
      rfl
    rcases all_or_first (fun i => paE P i == 0) n with hl | ⟨K, hK, hp, hq⟩
    · have hl' : ∀ i, i < n → paE P i = 0 := fun i hi => by simpa using hl i hi
      have lead : Leads Tryz.prog (.loop (loopAt Tryz.f63 0)) (smS n P 0) (.exit 0) (smS n P (n : Nat)) := by
        refine loop_rule (fun k => smS n P (k : Nat)) n (.exit 0) _ (by simp) (fun k hk => go k hk (hl' k hk)) ?_
        refine leads_ev (finE_sub _ _) en k_nil noL_ok ((sm_end mpG n P (n : Nat)).trans ?_)
        unfold smC
        rw [dec_self, cond_false]
      refine gspec en k_nil Tryz.func63 (by kernel_rfl) (by kernel_rfl) (lok_at (i := 6) 0 1 (by kernel_rfl) (by kernel_rfl) (toldF_sound (keep := [25, 26, 27]) (τ := []) lead)) rfl ((sm_evG mpG n P sn (n : Nat)).trans (soX_eq fun _ _ => ?_))
      rw [gate_pos (Sub.refl _), seq_all n hl']
    · have hb : paE P K ≠ 0 := by simpa using hp
      have hq' : ∀ i, i < K → paE P i = 0 := fun i hi => by simpa using hq i hi
      have lead : Leads Tryz.prog (.loop (loopAt Tryz.f63 0)) (smS n P 0) .ret (smE' (paE P K)) := by
        refine loop_rule (fun k => smS n P (k : Nat)) K .ret _ (by simp) (fun k hk => go k (by omega) (hq' k hk)) ?_
        refine leads_ev (finR_sub _ _) en k_nil noL_ok ((sm_ret mpG n P (K : Nat)).trans ?_)
        unfold smC
        rw [dec_lt hK, ixB_t hK, Int.toNat_natCast, mpG_eq, beq_false_of_ne (show ppE (P K) (K : Nat) ≠ 0 from hb)]
        rfl
      refine gspec en k_nil Tryz.func63 (by kernel_rfl) (by kernel_rfl) (lok_at (i := 6) 0 1 (by kernel_rfl) (by kernel_rfl) (toldF_sound (keep := [25, 26, 27]) (τ := []) lead)) rfl ((sm_evR mpG n P sn (paE P K)).trans (soX_eq fun _ _ => ?_))
      rw [gate_pos (Sub.refl _), seq_first hb hq' n hK]
def amS (n : Nat) (P : Nat → Prt) (sn : Int) (i : Int) : St := mkS 89 [(1, .own 0 0), (3, iA i)] [.c (soC n P sn)]
def amE (e : Int) : St := mkS 89 [(2, iA e)] []
section
variable (mf : List AV → Int) (n : Nat) (P : Nat → Prt) (sn : Int) (i : Int)
def knB (k : Int) : Bool := cond (cond (!(k == 1)) (!(k == 2)) false) (!(k == 5)) false
def amC (p : Prt) (r : Int → Option Out) (o : Option Out) : Option Out := cond (cond (decide (p.op < 0)) true (decide (p.op > 3))) (r 11) (cond (decide (p.op > 0)) (cond (nmB p.l p.r i) (r 9) o) (cond (!(mf p.s == 0)) (r (mf p.s)) (cond (knB p.k) (r 3) o)))
def amX (r : Int → Option Out) (o oe : Option Out) : Option Out := cond (decide (i < n)) (cond (ixB i n || false) (amC mf i (P i.toNat) r o) none) oe
theorem am_step : evC Tryz.prog [⟨49, eSc fun c => iA (mf c)⟩] [] noL (loopAt Tryz.f50 0) (amS n P sn i) (finN [1, 3] [some 0]) = amX mf n P i (fun _ => none) (some ⟨.normal, amS n P sn (w64 (i + 1)), .any⟩) none := by kernel_rfl
theorem am_ret : evC Tryz.prog [⟨49, eSc fun c => iA (mf c)⟩] [] noL (loopAt Tryz.f50 0) (amS n P sn i) (finR [2] []) = amX mf n P i (fun e => some ⟨.ret, amE e, .any⟩) none none := by kernel_rfl
theorem am_end : evC Tryz.prog [⟨49, eSc fun c => iA (mf c)⟩] [] noL (loopAt Tryz.f50 0) (amS n P sn i) (finE [1, 3] [some 0]) = amX mf n P i (fun _ => none) none (some ⟨.exit 0, amS n P sn i, .any⟩) := by kernel_rfl
theorem am_evG (j : Int) : ev Tryz.prog [⟨49, eSc fun c => iA (mf c)⟩] [] (oneL 6 (toldF [1, 3] [some 0] (amS n P sn 0) (.exit 0) (amS n P sn j))) Tryz.f50 [.agg (soC n P sn)] ret = soX n sn (gate (Sub (amS n P sn 0) (amS n P sn 0)) (aiR 0)) := by kernel_rfl
theorem am_evR (e : Int) : ev Tryz.prog [⟨49, eSc fun c => iA (mf c)⟩] [] (oneL 6 (toldF [1, 3] [some 0] (amS n P sn 0) .ret (amE e))) Tryz.f50 [.agg (soC n P sn)] ret = soX n sn (gate (Sub (amS n P sn 0) (amS n P sn 0)) (aiR e)) := by kernel_rfl
theorem am_ev0 : ev Tryz.prog [⟨49, eSc fun c => iA (mf c)⟩] [] (oneL 6 fun _ _ => none) Tryz.f50 [.agg (soC n P sn)] ret = soX n sn none := by kernel_rfl
end
theorem knB_eq (k : Int) : knB k = !kin k := by
  unfold knB kin
  cases k == 1 <;> cases k == 2 <;> cases k == 5 <;> rfl
theorem amC_eq (p : Prt) (i : Int) (r : Int → Option Out) (o : Option Out) : amC mayC i p r o = cond (ppE p i == 0) o (r (ppE p i)) := by
  unfold amC ppE mlE
  rw [knB_eq]
  by_cases h0 : p.op = 0
  · rw [h0]
    cases hm : (mayC p.s == 0)
    · have : mayC p.s ≠ 0 := fun e => by rw [e] at hm; cases hm
      show r (mayC p.s) = cond (mayC p.s == 0) o (r (mayC p.s))
      rw [hm]; rfl
    · cases kin p.k <;> rfl
  · have hb : (p.op == 0) = false := beq_false_of_ne h0
    rw [hb]
    by_cases h1 : p.op = 1 ∨ p.op = 2 ∨ p.op = 3
    · rw [decide_eq_false (show ¬ p.op < 0 by omega), decide_eq_false (show ¬ p.op > 3 by omega), decide_eq_true (show p.op > 0 by omega)]
      have : opB p.op = true := by rcases h1 with h | h | h <;> rw [h] <;> rfl
      rw [this]
      cases nmB p.l p.r i <;> rfl
    · have h2 : opB p.op = false := by
        unfold opB
        rw [beq_false_of_ne (show p.op ≠ 1 by omega), beq_false_of_ne (show p.op ≠ 2 by omega), beq_false_of_ne (show p.op ≠ 3 by omega)]; rfl
      rw [h2]
      by_cases h3 : p.op < 0
      · rw [decide_eq_true h3]; rfl
      · rw [decide_eq_false h3, decide_eq_true (show p.op > 3 by omega)]; rfl
theorem rsmay_spec (n : Nat) (P : Nat → Prt) (sn : Int) : FSpec Tryz.prog 50 [.agg (soC n P sn)] (iA (soE n P sn)) := by
  have en := e_cons eMayR_ok e_nil
  by_cases hc : n < 1 ∨ 16 < n
  · exact gspec en k_nil Tryz.func50 (by kernel_rfl) (by kernel_rfl) (lok_none 6) rfl ((am_ev0 mayC n P sn).trans (soX_eq fun h1 h2 => absurd hc (by omega)))
  · have go : ∀ k, k < n → paE P k = 0 → Leads Tryz.prog (loopAt Tryz.f50 0) (amS n P sn (k : Nat)) .normal (amS n P sn ((k + 1 : Nat) : Int)) := fun k hk hb => by
      refine leads_ev (finN_sub _ _) en k_nil noL_ok ((am_step mayC n P sn (k : Nat)).trans ?_)
      unfold amX
      rw [dec_lt hk, ixB_t hk, Int.toNat_natCast, amC_eq, show ppE (P k) (k : Nat) = 0 from hb, w64_next (by omega)]
      rfl
    rcases all_or_first (fun i => paE P i == 0) n with hl | ⟨K, hK, hp, hq⟩
    · have hl' : ∀ i, i < n → paE P i = 0 := fun i hi => by simpa using hl i hi
      have lead : Leads Tryz.prog (.loop (loopAt Tryz.f50 0)) (amS n P sn 0) (.exit 0) (amS n P sn (n : Nat)) := by
        refine loop_rule (fun k => amS n P sn (k : Nat)) n (.exit 0) _ (by simp) (fun k hk => go k hk (hl' k hk)) ?_
        refine leads_ev (finE_sub _ _) en k_nil noL_ok ((am_end mayC n P sn (n : Nat)).trans ?_)
        unfold amX
        rw [dec_self, cond_false]
      refine gspec en k_nil Tryz.func50 (by kernel_rfl) (by kernel_rfl) (lok_at (i := 6) 0 1 (by kernel_rfl) (by kernel_rfl) (toldF_sound (keep := [1, 3]) (τ := [some 0]) lead)) rfl ((am_evG mayC n P sn (n : Nat)).trans (soX_eq fun _ _ => ?_))
      rw [gate_pos (Sub.refl _), seq_all n hl']
    · have hb : paE P K ≠ 0 := by simpa using hp
      have hq' : ∀ i, i < K → paE P i = 0 := fun i hi => by simpa using hq i hi
      have lead : Leads Tryz.prog (.loop (loopAt Tryz.f50 0)) (amS n P sn 0) .ret (amE (paE P K)) := by
        refine loop_rule (fun k => amS n P sn (k : Nat)) K .ret _ (by simp) (fun k hk => go k (by omega) (hq' k hk)) ?_
        refine leads_ev (finR_sub _ _) en k_nil noL_ok ((am_ret mayC n P sn (K : Nat)).trans ?_)
        unfold amX
        rw [dec_lt hK, ixB_t hK, Int.toNat_natCast, amC_eq, beq_false_of_ne (show ppE (P K) (K : Nat) ≠ 0 from hb)]
        rfl
      refine gspec en k_nil Tryz.func50 (by kernel_rfl) (by kernel_rfl) (lok_at (i := 6) 0 1 (by kernel_rfl) (by kernel_rfl) (toldF_sound (keep := [1, 3]) (τ := [some 0]) lead)) rfl ((am_evR mayC n P sn (paE P K)).trans (soX_eq fun _ _ => ?_))
      rw [gate_pos (Sub.refl _), seq_first hb hq' n hK]
end Go.Proofs.YtngjiggplabfkaaGreat.Hs.So

namespace Go.Proofs.YtngjiggplabfkaaGreat.Hs.Fm
open Go.Gv
open Go.Ev (cn fadd fsub fmul fdiv feq flt fle fgt fge)

def itof (n : Int) : Nat := cn (FloatKind.f64.nearest n)
def c3 (p : Nat → Nat) : List AV := [.f (p 0), .f (p 1), .f (p 2)]
def c6 (b : Nat → Nat) : List AV := [.f (b 0), .f (b 1), .f (b 2), .f (b 3), .f (b 4), .f (b 5)]
def pp (p : Nat → Nat) : Nat → Nat := ls [p 0, p 1, p 2, p 0, p 1, p 2]
def boxQ (p : Nat → Nat → Nat) : Nat → Nat → Nat
  | 0 => pp (p 0)
  | q + 1 => joinS (boxQ p q) (pp (p q))
def z6 : List AV := [.f 0, .f 0, .f 0, .f 0, .f 0, .f 0]
def aroundS (n : Nat) (p : Nat → Nat → Nat) (q : Int) (b : Nat → Nat) : St := mkS 26 [(2, .own 0 0), (3, .own 1 0), (13, .sl 3 n fun q => c3 (p q)), (14, iA n), (15, iA q)] [.c z6, .c (c6 b)]
def keepA : List Nat := [2, 3, 13, 14, 15]
theorem around_step (n : Nat) (p : Nat → Nat → Nat) (q : Int) (b : Nat → Nat) : evC Tryz.prog V4 [] noL (loopAt Tryz.f103 0) (aroundS n p q b) (finN keepA [some 0, some 1]) =
    cond (decide (q < (n : Int))) (cond ((decide (0 ≤ q) && decide (q < (n : Int))) && true) (some ⟨.normal, aroundS n p (w64 (q + 1)) (joinS b (pp (p q.toNat))), .any⟩) none) none := by kernel_rfl
theorem around_end (n : Nat) (p : Nat → Nat → Nat) (q : Int) (b : Nat → Nat) : evC Tryz.prog V4 [] noL (loopAt Tryz.f103 0) (aroundS n p q b) (finX keepA [some 0, some 1]) =
    cond (decide (q < (n : Int))) (cond ((decide (0 ≤ q) && decide (q < (n : Int))) && true) none none) (some ⟨.exit 0, aroundS n p q b, .any⟩) := by kernel_rfl
theorem dec_nonneg (n : Nat) : decide (0 ≤ (n : Int)) = true := decide_eq_true (Int.natCast_nonneg _)
theorem dec_lt {a b : Nat} (h : a < b) : decide ((a : Int) < (b : Int)) = true := decide_eq_true (by omega)
theorem dec_self (a : Nat) : decide ((a : Int) < (a : Int)) = false := decide_eq_false (by omega)
theorem w64_next {n : Nat} (h : n < 4611686018427387904) : w64 ((n : Int) + 1) = ((n + 1 : Nat) : Int) := by rw [w64_id (by omega) (by omega)]; omega
theorem around_leads (n : Nat) (p : Nat → Nat → Nat) (hn : n < 4611686018427387904) : Leads Tryz.prog (.loop (loopAt Tryz.f103 0)) (aroundS n p 0 (boxQ p 0)) (.exit 0) (aroundS n p n (boxQ p n)) := by
  refine loop_rule (fun q => aroundS n p (q : Nat) (boxQ p q)) n (.exit 0) _ (by simp) (fun q hq => ?_) ?_
  · refine leads_ev (finN_sub keepA [some 0, some 1]) V4_ok k_nil noL_ok ?_
    rw [around_step, dec_lt hq, dec_nonneg, w64_next (by omega)]
    rfl
  · refine leads_ev (finX_sub keepA [some 0, some 1]) V4_ok k_nil noL_ok ?_
    rw [around_end, dec_self]
    rfl
noncomputable def aroundL (n : Nat) (p : Nat → Nat → Nat) : Nat → Option LFun := oneL 3 (toldF keepA [some 0, some 1] (aroundS n p 0 (boxQ p 0)) (.exit 0) (aroundS n p n (boxQ p n)))
theorem aroundL_ok (n : Nat) (p : Nat → Nat → Nat) (hn : n < 4611686018427387904) : LOk Tryz.prog (aroundL n p) (bodyOf Tryz.f103) :=
  lok_one (i := 3) 1 (by kernel_rfl) fun j hj _ => by
    have : j = 0 := by omega
    subst this
    exact toldF_sound (around_leads n p hn)
theorem around_ev (n : Nat) (p : Nat → Nat → Nat) : ev Tryz.prog V4 [] (aroundL n p) Tryz.f103 [.sl 3 n fun q => c3 (p q)] ret =
    cond ((decide ((0 : Int) < (n : Int)) || false) && ((decide ((0 : Int) < (n : Int)) || false) && true)) (gate (Sub (aroundS n p 0 (boxQ p 0)) (aroundS n p 0 (boxQ p 0))) (some (Out.of (.agg (c6 (boxQ p n)))))) none := by kernel_rfl
theorem around_spec {n : Nat} (p : Nat → Nat → Nat) (h0 : 0 < n) (hn : n < 4611686018427387904) : FSpec Tryz.prog 103 [.sl 3 n fun q => c3 (p q)] (.agg (c6 (boxQ p n))) := by
  refine gspec V4_ok k_nil Tryz.func103 (by kernel_rfl) (by kernel_rfl) (aroundL_ok n p hn) rfl ?_
  rw [around_ev, decide_eq_true (show (0 : Int) < (n : Int) by omega), gate_pos (Sub.refl _)]
  rfl

structure Fd where
  W : Int
  H : Int
  at_ : Nat → Nat
  sd : Nat
  n : Nat
  hs : Nat → Int
  sk : Int
def Fd.c (F : Fd) : List AV := [iA F.W, iA F.H, .f (F.at_ 0), .f (F.at_ 1), .f (F.at_ 2), .f F.sd, .sl 1 F.n (fun i => [iA (F.hs i)]), iA F.sk]
def mayLS (F : Fd) (r q : Int) : St := mkS 68 [(1, .own 0 0), (2, iA r), (55, .sl 1 F.n (fun i => [iA (F.hs i)])), (56, iA F.n), (57, iA q)] [.c F.c]
def keepM : List Nat := [1, 2, 55, 56, 57]

def hBad (h : Int) : Bool := cond (decide (h < -1000000)) true (decide (h > 1000000))
theorem mayL_step (F : Fd) (q : Int) : evC Tryz.prog V4 [] noL (loopAt Tryz.f101 0) (mayLS F 0 q) (finN keepM [some 0]) =
    cond (decide (q < (F.n : Int))) (cond ((decide (0 ≤ q) && decide (q < (F.n : Int))) && true) (cond (hBad (F.hs q.toNat)) none (some ⟨.normal, mayLS F 0 (w64 (q + 1)), .any⟩)) none) none := by kernel_rfl
theorem mayL_end (F : Fd) (q : Int) : evC Tryz.prog V4 [] noL (loopAt Tryz.f101 0) (mayLS F 0 q) (finX keepM [some 0]) =
    cond (decide (q < (F.n : Int))) (cond ((decide (0 ≤ q) && decide (q < (F.n : Int))) && true) (cond (hBad (F.hs q.toNat)) (some ⟨.ret, mayLS F 6 q, .any⟩) none) none) (some ⟨.exit 0, mayLS F 0 q, .any⟩) := by kernel_rfl
theorem mayL_round {F : Fd} {q : Nat} (hn : F.n < 4611686018427387904) (hq : q < F.n) (hb : hBad (F.hs q) = false) : Leads Tryz.prog (loopAt Tryz.f101 0) (mayLS F 0 (q : Nat)) .normal (mayLS F 0 ((q + 1 : Nat) : Int)) := by
  refine leads_ev (finN_sub keepM [some 0]) V4_ok k_nil noL_ok ?_
  rw [mayL_step, dec_lt hq, dec_nonneg, w64_next (by omega)]
  simp only [Int.toNat_natCast, hb]
  rfl
theorem mayL_ok {F : Fd} (hn : F.n < 4611686018427387904) (h : ∀ q, q < F.n → hBad (F.hs q) = false) : Leads Tryz.prog (.loop (loopAt Tryz.f101 0)) (mayLS F 0 0) (.exit 0) (mayLS F 0 F.n) := by
  refine loop_rule (fun q => mayLS F 0 (q : Nat)) F.n (.exit 0) _ (by simp) (fun q hq => mayL_round hn hq (h q hq)) ?_
  refine leads_ev (finX_sub keepM [some 0]) V4_ok k_nil noL_ok ?_
  rw [mayL_end, dec_self]
  rfl
theorem mayL_bad {F : Fd} (hn : F.n < 4611686018427387904) {j : Nat} (hj : j < F.n) (hb : hBad (F.hs j) = true) (h : ∀ q, q < j → hBad (F.hs q) = false) : Leads Tryz.prog (.loop (loopAt Tryz.f101 0)) (mayLS F 0 0) .ret (mayLS F 6 (j : Nat)) := by
  refine loop_rule (fun q => mayLS F 0 (q : Nat)) j .ret _ (by simp) (fun q hq => mayL_round hn (by omega) (h q hq)) ?_
  refine leads_ev (finX_sub keepM [some 0]) V4_ok k_nil noL_ok ?_
  rw [mayL_end, dec_lt hj, dec_nonneg]
  simp only [Int.toNat_natCast, hb]
  rfl
noncomputable def mayL (F : Fd) (ex : Exit) (sf : St) : Nat → Option LFun := oneL 12 (toldF keepM [some 0] (mayLS F 0 0) ex sf)
theorem mayL_lok {F : Fd} {ex : Exit} {sf : St} (h : Leads Tryz.prog (.loop (loopAt Tryz.f101 0)) (mayLS F 0 0) ex sf) : LOk Tryz.prog (mayL F ex sf) (bodyOf Tryz.f101) :=
  lok_one (i := 12) 1 (by kernel_rfl) fun j hj _ => by
    have : j = 0 := by omega
    subst this
    exact toldF_sound h
def Fd.dims (F : Fd) : Bool := cond (cond (cond (decide (F.W < 2)) true (decide (F.W > 8))) true (decide (F.H < 2))) true (decide (F.H > 8))
def Fd.far (F : Fd) : Bool := cond (!fineS (F.at_ 0) (F.at_ 1) (F.at_ 2)) true (!nearS F.sd)
/-- What is asked ahead of the heights. -/
def Fd.first (F : Fd) (X : Option Out) : Option Out := cond F.dims (some (Out.of (iA 4))) (cond (!((F.n : Int) == w64 (F.W * F.H))) (some (Out.of (iA 5))) (cond (skB F.sk) (some (Out.of (iA 4))) (cond F.far (some (Out.of (iA 1))) (cond (!fgt F.sd 0) (some (Out.of (iA 6))) X))))
theorem may_ev_ok (F : Fd) : ev Tryz.prog V4 [] (mayL F (.exit 0) (mayLS F 0 F.n)) Tryz.f101 [.agg F.c] ret = F.first (gate (Sub (mayLS F 0 0) (mayLS F 0 0)) (some (Out.of (iA 0)))) := by kernel_rfl
theorem may_ev_bad (F : Fd) (j : Int) : ev Tryz.prog V4 [] (mayL F .ret (mayLS F 6 j)) Tryz.f101 [.agg F.c] ret = F.first (gate (Sub (mayLS F 0 0) (mayLS F 0 0)) (some (Out.of (iA 6)))) := by kernel_rfl
/-- Which is the first height that may not be? -/
theorem first_bad (hs : Nat → Int) : ∀ n, (∀ q, q < n → hBad (hs q) = false) ∨ ∃ j, j < n ∧ hBad (hs j) = true ∧ ∀ q, q < j → hBad (hs q) = false
  | 0 => Or.inl fun q hq => by omega
  | n + 1 => by
    rcases first_bad hs n with h | ⟨j, h1, h2, h3⟩
    · cases hb : hBad (hs n)
      · exact Or.inl fun q hq => by
          by_cases e : q = n
          · rw [e]; exact hb
          · exact h q (by omega)
      · exact Or.inr ⟨n, by omega, hb, h⟩
    · exact Or.inr ⟨j, by omega, h2, h3⟩
def Fd.okAll (F : Fd) : Bool := (List.range F.n).all fun q => !hBad (F.hs q)
def Fd.mayN (F : Fd) : Int := cond F.dims 4 (cond (!((F.n : Int) == w64 (F.W * F.H))) 5 (cond (skB F.sk) 4 (cond F.far 1 (cond (!fgt F.sd 0) 6 (cond F.okAll 0 6)))))
theorem may_spec (F : Fd) (hn : F.n < 4611686018427387904) : FSpec Tryz.prog 101 [.agg F.c] (iA F.mayN) := by
  have fin : ∀ e : Int, F.okAll = (e == 0) → (e = 0 ∨ e = 6) → F.first (some (Out.of (iA e))) = some (Out.of (iA F.mayN)) := fun e h1 h2 => by
    unfold Fd.first Fd.mayN
    rw [h1]
    cases F.dims <;> simp only [cond_true, cond_false]
    cases (!((F.n : Int) == w64 (F.W * F.H))) <;> simp only [cond_true, cond_false]
    cases skB F.sk <;> simp only [cond_true, cond_false]
    cases F.far <;> simp only [cond_true, cond_false]
    cases (!fgt F.sd 0) <;> simp only [cond_true, cond_false]
    rcases h2 with rfl | rfl <;> rfl
  rcases first_bad F.hs F.n with h | ⟨j, h1, h2, h3⟩
  · refine gspec V4_ok k_nil Tryz.func101 (by kernel_rfl) (by kernel_rfl) (mayL_lok (mayL_ok hn h)) rfl ?_
    rw [may_ev_ok, gate_pos (Sub.refl _)]
    refine fin 0 ?_ (Or.inl rfl)
    unfold Fd.okAll
    rw [List.all_eq_true.2]
    · rfl
    · intro q hq
      rw [h q (List.mem_range.1 hq)]
      rfl
  · refine gspec V4_ok k_nil Tryz.func101 (by kernel_rfl) (by kernel_rfl) (mayL_lok (mayL_bad hn h1 h2 h3)) rfl ?_
    rw [may_ev_bad, gate_pos (Sub.refl _)]
    refine fin 6 ?_ (Or.inr rfl)
    unfold Fd.okAll
    rw [List.all_eq_false.2 ⟨j, List.mem_range.2 h1, by rw [h2]; simp⟩]
    rfl

def ptXY (F : Fd) (h x y : Int) : Nat → Nat := ls [fadd (F.at_ 0) (fmul (itof x) F.sd), fadd (F.at_ 1) (fdiv (itof h) 4652007308841189376), fadd (F.at_ 2) (fmul (itof y) F.sd)]
def pt (F : Fd) (q : Nat) : Nat → Nat := ptXY F (F.hs q) ((q % F.W.toNat : Nat) : Int) ((q / F.W.toNat : Nat) : Int)
def pts (F : Fd) : Nat → List AV := fun q => c3 (pt F q)
def innerS (F : Fd) (y x : Int) (m : Nat) (ps : Nat → List AV) : St := mkS 63 [(1, .own 0 0), (3, .osl 1 3 0 m), (4, iA y), (13, iA F.H), (14, iA y), (18, iA F.W), (19, iA x)] [.c F.c, .a 30 3 m ps]
def keepI : List Nat := [1, 3, 4, 13, 14, 18, 19]
def ix (W y x : Int) : Int := w64 (w64 (y * W) + x)
theorem inner_step (F : Fd) (y x : Int) (m : Nat) (ps : Nat → List AV) : evC Tryz.prog [] [] noL (loopAt Tryz.f102 1) (innerS F y x m ps) (finN keepI [some 0, some 3]) =
      cond (decide (x < F.W)) (cond (((decide (0 ≤ ix F.W y x) && decide (ix F.W y x < (F.n : Int))) || false) && ((((m == m) && Nat.ble ((m + 1) * 24) 140737488355328) || false) && true))
        (some ⟨.normal, innerS F y (w64 (x + 1)) (m + 1) (fun q => mixL (Nat.blt q m) (ps q) (c3 (ptXY F (F.hs (ix F.W y x).toNat) x y))), .any⟩) none) none := by kernel_rfl
theorem inner_end (F : Fd) (y x : Int) (m : Nat) (ps : Nat → List AV) : evC Tryz.prog [] [] noL (loopAt Tryz.f102 1) (innerS F y x m ps) (finX keepI [some 0, some 1]) =
      cond (decide (x < F.W)) (cond (((decide (0 ≤ ix F.W y x) && decide (ix F.W y x < (F.n : Int))) || false) && ((((m == m) && Nat.ble ((m + 1) * 24) 140737488355328) || false) && true)) none none)
        (some ⟨.exit 2, innerS F y x m ps, .any⟩) := by kernel_rfl
/-- A field whose numbers say how many points there are. -/
structure Dim (F : Fd) (w h : Nat) : Prop where
  W : F.W = (w : Int)
  H : F.H = (h : Int)
  n : F.n = w * h
  w1 : 2 ≤ w
  h1 : 2 ≤ h
  w8 : w ≤ 8
  h8 : h ≤ 8
theorem Dim.le {F : Fd} {w h : Nat} (d : Dim F w h) : w * h ≤ 64 := Nat.mul_le_mul d.w8 d.h8
theorem Dim.row {F : Fd} {w h y : Nat} (_ : Dim F w h) (hy : y < h) : y * w + w ≤ w * h := by
  have : (y + 1) * w ≤ h * w := Nat.mul_le_mul_right _ hy
  rw [Nat.add_mul, Nat.mul_comm h w] at this
  omega
theorem Dim.ix {F : Fd} {w h y x : Nat} (d : Dim F w h) (hy : y < h) (hx : x < w) : ix F.W (y : Nat) (x : Nat) = ((y * w + x : Nat) : Int) := by
  have h1 := d.row hy
  have h2 := d.le
  unfold Go.Proofs.YtngjiggplabfkaaGreat.Hs.Fm.ix
  rw [d.W]
  have hp : ((y : Int) * (w : Int)) = ((y * w : Nat) : Int) := by simp
  rw [hp, w64_id (n := ((y * w : Nat) : Int)) (by omega) (by omega), w64_id (by omega) (by omega)]
  omega
theorem pt_at {F : Fd} {w h y x : Nat} (d : Dim F w h) (hx : x < w) : pt F (y * w + x) = ptXY F (F.hs (y * w + x)) (x : Nat) (y : Nat) := by
  have hm : (y * w + x) % w = x := by rw [Nat.mul_comm, Nat.mul_add_mod]; exact Nat.mod_eq_of_lt hx
  have hd : (y * w + x) / w = y := by
    rw [Nat.mul_comm, Nat.mul_add_div (by omega), Nat.div_eq_of_lt hx]; omega
  unfold pt
  rw [d.W, Int.toNat_natCast, hm, hd]
theorem not_blt {q m : Nat} (h : Nat.blt q m = false) : m ≤ q := Nat.le_of_not_lt fun hc => by
  have : Nat.blt q m = true := Nat.ble_eq_true_of_le hc
  rw [this] at h; cases h
theorem inner_leads {F : Fd} {w h y : Nat} (d : Dim F w h) (hy : y < h) :
    Leads Tryz.prog (.loop (loopAt Tryz.f102 1)) (innerS F (y : Nat) 0 (y * w) (pts F)) (.exit 2) (innerS F (y : Nat) (w : Nat) (y * w + w) (pts F)) := by
  have hle := d.le
  have hyW := d.row hy
  refine loop_rule (fun j => innerS F (y : Nat) (j : Nat) (y * w + j) (pts F)) w (.exit 2) _ (by simp) (fun j hj => ?_) ?_
  · have hix := d.ix hy hj
    refine Leads.sub (leads_ev (finN_sub keepI [some 0, some 3]) e_nil k_nil noL_ok (s' := innerS F (y : Nat) (w64 ((j : Int) + 1)) (y * w + j + 1) (fun q => mixL (Nat.blt q (y * w + j)) (pts F q) (c3 (ptXY F (F.hs (ix F.W (y : Nat) (j : Nat)).toNat) (j : Nat) (y : Nat))))) ?_) (Sub.refl _) ?_
    · rw [inner_step]
      have c1 : decide (((j : Nat) : Int) < F.W) = true := by rw [d.W]; exact dec_lt hj
      have c2 : decide (0 ≤ ix F.W (y : Nat) (j : Nat)) = true := by rw [hix]; exact dec_nonneg _
      have c3 : decide (ix F.W (y : Nat) (j : Nat) < (F.n : Int)) = true := by rw [hix, d.n]; exact dec_lt (by omega)
      have c4 : Nat.ble ((y * w + j + 1) * 24) 140737488355328 = true := Nat.ble_eq_true_of_le (by omega)
      rw [c1, c2, c3, c4]
      simp only [cond_true, Bool.and_self, Bool.or_false, BEq.rfl]
    · rw [w64_next (by omega), hix, Int.toNat_natCast]
      refine sub_same ⟨Or.inl rfl, Or.inr ⟨30, 3, y * w + j + 1, _, _, rfl, rfl, fun q hq => ?_⟩, trivial⟩
      cases hlt : Nat.blt q (y * w + j)
      · have hq2 : q = y * w + j := by have := not_blt hlt; omega
        subst hq2
        unfold pts
        rw [pt_at d hj]
        unfold c3
        simp only [mixL, mixA, cond_false]
      · unfold pts c3
        simp only [mixL, mixA, cond_true]
  · refine leads_ev (finX_sub keepI [some 0, some 1]) e_nil k_nil noL_ok ?_
    rw [inner_end]
    have c1 : decide (((w : Nat) : Int) < F.W) = false := by rw [d.W]; exact dec_self w
    rw [c1]
    rfl
def outerS (F : Fd) (y : Int) (m : Nat) (ps : Nat → List AV) : St := mkS 63 [(1, .own 0 0), (3, .osl 1 3 0 m), (13, iA F.H), (14, iA y)] [.c F.c, .a 30 3 m ps]
def keepO : List Nat := [1, 3, 13, 14]
noncomputable def innerL (F : Fd) (w y : Nat) : Nat → Option LFun := oneL 6 (toldF keepI [some 0, some 1] (innerS F (y : Nat) 0 (y * w) (pts F)) (.exit 2) (innerS F (y : Nat) (w : Nat) (y * w + w) (pts F)))
end Go.Proofs.YtngjiggplabfkaaGreat.Hs.Fm

namespace Go.Proofs.YtngjiggplabfkaaGreat.Hs.Fm
open Go.Gv
open Go.Ev (cn fadd fsub fmul fdiv feq flt fle fgt fge)

theorem innerL_ok {F : Fd} {w h y : Nat} (d : Dim F w h) (hy : y < h) : LOk Tryz.prog (innerL F w y) (loopAt Tryz.f102 0) :=
  lok_one (i := 6) 1 (by kernel_rfl) fun j hj _ => by
    have : j = 0 := by omega
    subst this
    have e : (loopsOf (loopAt Tryz.f102 0)).getD 0 .skip = loopAt Tryz.f102 1 := by kernel_rfl
    rw [e]
    exact toldF_sound (inner_leads d hy)
theorem outer_step (F : Fd) (w y : Nat) : evC Tryz.prog [] [] (innerL F w y) (loopAt Tryz.f102 0) (outerS F (y : Nat) (y * w) (pts F)) (finN keepO [some 0, some 1]) =
    cond (decide (((y : Nat) : Int) < F.H)) (gate (Sub (innerS F (y : Nat) 0 (y * w) (pts F)) (innerS F (y : Nat) 0 (y * w) (pts F))) (some ⟨.normal, outerS F (w64 (((y : Nat) : Int) + 1)) (y * w + w) (pts F), .any⟩)) none := by kernel_rfl
/-- A loop of which nothing is told, since it isn't reached. -/
theorem outer_last (F : Fd) (y m : Nat) : evC Tryz.prog [] [] (oneL 6 fun _ _ => none) (loopAt Tryz.f102 0) (outerS F (y : Nat) m (pts F)) (finX keepO [some 0, some 1]) =
    cond (decide (((y : Nat) : Int) < F.H)) none (some ⟨.exit 0, outerS F (y : Nat) m (pts F), .any⟩) := by kernel_rfl
theorem lok_none {P : Program} {c : Code} (i : Nat) : LOk P (oneL i fun _ _ => none) c := by
  intro c' _ i' g' _ hg
  unfold oneL at hg
  cases hb : Nat.beq i' i
  · rw [hb] at hg; cases hg
  · rw [hb] at hg
    cases hg
    exact ⟨fun _ _ _ hr => (by cases hr), fun _ _ _ hk => (by have := hk (fun e s => some ⟨e, s, .any⟩); cases this)⟩
theorem outer_leads {F : Fd} {w h : Nat} (d : Dim F w h) : Leads Tryz.prog (.loop (loopAt Tryz.f102 0)) (outerS F 0 (0 * w) (pts F)) (.exit 0) (outerS F (h : Nat) (h * w) (pts F)) := by
  have h8 := d.h8
  refine loop_rule (fun y => outerS F (y : Nat) (y * w) (pts F)) h (.exit 0) _ (by simp) (fun y hy => ?_) ?_
  · refine leads_ev (finN_sub keepO [some 0, some 1]) e_nil k_nil (innerL_ok d hy) ?_
    have c1 : decide (((y : Nat) : Int) < F.H) = true := by rw [d.H]; exact dec_lt hy
    rw [outer_step, c1, gate_pos (Sub.refl _), w64_next (by omega), Nat.succ_mul]
    rfl
  · refine leads_ev (finX_sub keepO [some 0, some 1]) e_nil k_nil (lok_none 6) ?_
    have c1 : decide (((h : Nat) : Int) < F.H) = false := by rw [d.H]; exact dec_self h
    rw [outer_last, c1]
    rfl
noncomputable def pointsL (F : Fd) (w h : Nat) : Nat → Option LFun := oneL 3 (toldF keepO [some 0, some 1] (outerS F 0 (0 * w) (pts F)) (.exit 0) (outerS F (h : Nat) (h * w) (pts F)))
theorem pointsL_ok {F : Fd} {w h : Nat} (d : Dim F w h) : LOk Tryz.prog (pointsL F w h) (bodyOf Tryz.f102) :=
  lok_one (i := 3) 2 (by kernel_rfl) fun j hj hid => by
    have : j = 0 ∨ j = 1 := by omega
    rcases this with rfl | rfl
    · exact toldF_sound (outer_leads d)
    · have e : firstId ((loopsOf (bodyOf Tryz.f102)).getD 1 .skip) = some 6 := by kernel_rfl
      rw [e] at hid
      cases hid
def rows0 (F : Fd) : St := mkS 63 [(1, .own 0 0), (3, .osl 1 3 0 0), (13, iA F.H), (14, iA 0)] [.c F.c, .a 30 3 0 fun _ => [.f 0, .f 0, .f 0]]
theorem points_ev (F : Fd) (w h : Nat) : ev Tryz.prog [] [] (pointsL F w h) Tryz.f102 [.agg F.c] ret =
    cond ((decide (0 ≤ w64 (F.W * F.H)) && decide (((24 : Nat) : Int) * w64 (F.W * F.H) ≤ 281474976710656)) && true)
      (gate (Sub (rows0 F) (outerS F 0 (0 * w) (pts F))) (some (Out.of (.sl 3 (h * w) fun i => c3 (pt F (0 + i)))))) none := by kernel_rfl
theorem Dim.prod {F : Fd} {w h : Nat} (d : Dim F w h) : w64 (F.W * F.H) = ((w * h : Nat) : Int) := by
  have := d.le
  rw [d.W, d.H, ← Int.natCast_mul]
  exact w64_id (by omega) (by omega)
theorem points_spec {F : Fd} {w h : Nat} (d : Dim F w h) : FSpec Tryz.prog 102 [.agg F.c] (.sl 3 (w * h) fun q => c3 (pt F q)) := by
  refine gspec e_nil k_nil Tryz.func102 (by kernel_rfl) (by kernel_rfl) (pointsL_ok d) rfl ?_
  have hle := d.le
  have hs : Sub (rows0 F) (outerS F 0 (0 * w) (pts F)) := by
    rw [Nat.zero_mul]
    exact sub_same ⟨Or.inl rfl, Or.inr ⟨30, 3, 0, _, _, rfl, rfl, fun q hq => by omega⟩, trivial⟩
  have c2 : decide (((24 : Nat) : Int) * ((w * h : Nat) : Int) ≤ 281474976710656) = true := decide_eq_true (by omega)
  have e : (fun i => c3 (pt F (0 + i))) = fun q => c3 (pt F q) := funext fun i => by rw [Nat.zero_add]
  rw [points_ev, d.prod, dec_nonneg, c2, gate_pos hs, e, Nat.mul_comm h w]
  rfl

def gridZ : List AV := [iA 0, iA 0, iA 0, .x (.slice none 0 0), .f 0, .f 0, .f 0, .f 0, .f 0, .f 0]
def gridC (F : Fd) (n : Nat) (b : Nat → Nat) : List AV := [iA F.W, iA F.H, iA F.sk, .sl 3 n (fun q => c3 (pt F q)), .f (b 0), .f (b 1), .f (b 2), .f (b 3), .f (b 4), .f (b 5)]
theorem known_ev1 (F : Fd) (e : Int) : ev Tryz.prog V4 [kfix 101 [.agg F.c] (iA e)] noL Tryz.f86 [.agg F.c] ret =
    gate ([AV.agg F.c] = [AV.agg F.c]) (cond (!(e == 0)) (some (Out.of (.tup [.agg gridZ, iA e]))) none) := by kernel_rfl
theorem known_ev2 (F : Fd) (n : Nat) (b : Nat → Nat) : ev Tryz.prog V4 [kfix 101 [.agg F.c] (iA 0), kfix 102 [.agg F.c] (.sl 3 n fun q => c3 (pt F q)), kfix 103 [.sl 3 n fun q => c3 (pt F q)] (.agg (c6 b))] noL Tryz.f86 [.agg F.c] ret =
    gate ([AV.agg F.c] = [AV.agg F.c]) (gate ([AV.agg F.c] = [AV.agg F.c]) (gate ([AV.sl 3 n fun q => c3 (pt F q)] = [AV.sl 3 n fun q => c3 (pt F q)]) (cond (!(mayS b == 0)) (some (Out.of (.tup [.agg gridZ, iA 1]))) (some (Out.of (.tup [.agg (gridC F n b), iA 0])))))) := by kernel_rfl
theorem known_bad {F : Fd} (hn : F.n < 4611686018427387904) (he : F.mayN ≠ 0) : FSpec Tryz.prog 86 [.agg F.c] (.tup [.agg gridZ, iA F.mayN]) := by
  refine gspec V4_ok (k_cons (kfix_ok (may_spec F hn)) k_nil) Tryz.func86 (by kernel_rfl) (by kernel_rfl) noL_ok rfl ?_
  rw [known_ev1, gate_pos rfl, beq_false_of_ne he]
  rfl
/-- The box around all points. -/
def bx (F : Fd) : Nat → Nat := boxQ (pt F) F.n
theorem known_ok {F : Fd} {w h : Nat} (d : Dim F w h) (he : F.mayN = 0) : FSpec Tryz.prog 86 [.agg F.c] (.tup (cond (mayS (bx F) == 0) [.agg (gridC F F.n (bx F)), iA 0] [.agg gridZ, iA 1])) := by
  have hle := d.le
  have hpos : 4 ≤ w * h := Nat.mul_le_mul d.w1 d.h1
  have hn := d.n
  have s1 := may_spec F (by omega)
  rw [he] at s1
  have s2 := points_spec d
  have s3 := around_spec (n := w * h) (pt F) (by omega) (by omega)
  refine gspec V4_ok (k_cons (kfix_ok s1) (k_cons (kfix_ok s2) (k_cons (kfix_ok s3) k_nil))) Tryz.func86 (by kernel_rfl) (by kernel_rfl) noL_ok rfl ?_
  rw [known_ev2, gate_pos rfl, gate_pos rfl, gate_pos rfl]
  unfold bx
  rw [hn]
  cases mayS (boxQ (pt F) (w * h)) == 0 <;> rfl
end Go.Proofs.YtngjiggplabfkaaGreat.Hs.Fm

namespace Go.Proofs.YtngjiggplabfkaaGreat.Hs.Fm
open Go.Gv
open Go.Ev (cn fadd fsub fmul fdiv feq flt fle fgt fge)

def inR (k : Int) (n : Nat) : Bool := decide (0 ≤ k) && decide (k < (n : Int))
theorem inR_nat {k n : Nat} (h : k < n) : inR (k : Nat) n = true := by unfold inR; rw [dec_nonneg, dec_lt h]; rfl

noncomputable def GK (P : Program) (g : Func) : List KEntry := [inl P R3 [] (fun _ => noL) 94 g]
theorem GK_ok : ∀ e, e ∈ GK Tryz.prog Tryz.f94 → KOk Tryz.prog e := k_cons (inl_ok R3_ok k_nil (by kernel_rfl) Tryz.func94 (by kernel_rfl) (by kernel_rfl) (c := bodyOf Tryz.f94) fun _ => noL_ok) k_nil
def fbI (F : Fd) (y x : Int) (p b : Nat → Nat) : St := mkS 39 [(1, .own 0 0), (2, .own 1 0), (3, .own 2 0), (4, .own 3 0), (5, iA y), (6, iA x)] [.c F.c, .c z6, .c (c3 p), .c (c6 b)]
def fbO (F : Fd) (y : Int) (p b : Nat → Nat) : St := mkS 39 [(1, .own 0 0), (2, .own 1 0), (3, .own 2 0), (4, .own 3 0), (5, iA y)] [.c F.c, .c z6, .c (c3 p), .c (c6 b)]
def keepB : List Nat := [1, 2, 3, 4, 5, 6]
def keepC : List Nat := [1, 2, 3, 4, 5]
def rmS (F : Fd) (e q : Int) : St := mkS 83 [(1, .own 0 0), (2, iA e), (5, iA q)] [.c F.c]
def keepR2 : List Nat := [1, 2, 5]

theorem fbI_step (F : Fd) (y x : Int) (p b : Nat → Nat) : evC Tryz.prog R3 (GK Tryz.prog Tryz.f94) noL (loopAt Tryz.f76 1) (fbI F y x p b) (finN keepB [some 0, some 1, some 2, some 3]) =
    cond (decide (x < F.W)) (cond ((inR (ix F.W y x) F.n || false) && true) (some ⟨.normal, fbI F y (w64 (x + 1)) (ptXY F (F.hs (ix F.W y x).toNat) x y) (joinS b (pp (ptXY F (F.hs (ix F.W y x).toNat) x y))), .any⟩) none) none := by kernel_rfl
theorem fbI_end (F : Fd) (y x : Int) (p b : Nat → Nat) : evC Tryz.prog R3 (GK Tryz.prog Tryz.f94) noL (loopAt Tryz.f76 1) (fbI F y x p b) (finX keepB [some 0, some 1, some 2, some 3]) =
    cond (decide (x < F.W)) (cond ((inR (ix F.W y x) F.n || false) && true) none none) (some ⟨.exit 2, fbI F y x p b, .any⟩) := by kernel_rfl
def lastP (p : Nat → Nat → Nat) : Nat → Nat → Nat
  | 0 => p 0
  | q + 1 => p q
theorem fbI_leads {F : Fd} {w h y : Nat} (d : Dim F w h) (hy : y < h) : Leads Tryz.prog (.loop (loopAt Tryz.f76 1)) (fbI F (y : Nat) 0 (lastP (pt F) (y * w)) (boxQ (pt F) (y * w))) (.exit 2) (fbI F (y : Nat) (w : Nat) (lastP (pt F) (y * w + w)) (boxQ (pt F) (y * w + w))) := by
  have hle := d.le
  have hyW := d.row hy
  refine loop_rule (fun j => fbI F (y : Nat) (j : Nat) (lastP (pt F) (y * w + j)) (boxQ (pt F) (y * w + j))) w (.exit 2) _ (by simp) (fun j hj => ?_) ?_
  · refine leads_ev (finN_sub keepB [some 0, some 1, some 2, some 3]) R3_ok GK_ok noL_ok ?_
    have c1 : decide (((j : Nat) : Int) < F.W) = true := by rw [d.W]; exact dec_lt hj
    rw [fbI_step, c1, d.ix hy hj, inR_nat (by rw [d.n]; omega), w64_next (by omega), Int.toNat_natCast, ← pt_at d hj]
    rfl
  · refine leads_ev (finX_sub keepB [some 0, some 1, some 2, some 3]) R3_ok GK_ok noL_ok ?_
    have c1 : decide (((w : Nat) : Int) < F.W) = false := by rw [d.W]; exact dec_self w
    rw [fbI_end, c1]
    rfl
noncomputable def fbIL (F : Fd) (w y : Nat) : Nat → Option LFun := oneL 7 (toldF keepB [some 0, some 1, some 2, some 3] (fbI F (y : Nat) 0 (lastP (pt F) (y * w)) (boxQ (pt F) (y * w))) (.exit 2) (fbI F (y : Nat) (w : Nat) (lastP (pt F) (y * w + w)) (boxQ (pt F) (y * w + w))))
theorem fbIL_ok {F : Fd} {w h y : Nat} (d : Dim F w h) (hy : y < h) : LOk Tryz.prog (fbIL F w y) (loopAt Tryz.f76 0) :=
  lok_one (i := 7) 1 (by kernel_rfl) fun j hj _ => by
    have : j = 0 := by omega
    subst this
    have e : (loopsOf (loopAt Tryz.f76 0)).getD 0 .skip = loopAt Tryz.f76 1 := by kernel_rfl
    rw [e]
    exact toldF_sound (fbI_leads d hy)
theorem fbO_step (F : Fd) (w y : Nat) : evC Tryz.prog R3 (GK Tryz.prog Tryz.f94) (fbIL F w y) (loopAt Tryz.f76 0) (fbO F (y : Nat) (lastP (pt F) (y * w)) (boxQ (pt F) (y * w))) (finN keepC [some 0, some 1, some 2, some 3]) =
    cond (decide (((y : Nat) : Int) < F.H)) (gate (Sub (fbI F (y : Nat) 0 (lastP (pt F) (y * w)) (boxQ (pt F) (y * w))) (fbI F (y : Nat) 0 (lastP (pt F) (y * w)) (boxQ (pt F) (y * w)))) (some ⟨.normal, fbO F (w64 (((y : Nat) : Int) + 1)) (lastP (pt F) (y * w + w)) (boxQ (pt F) (y * w + w)), .any⟩)) none := by kernel_rfl
theorem fbO_last (F : Fd) (y : Int) (p b : Nat → Nat) : evC Tryz.prog R3 (GK Tryz.prog Tryz.f94) (oneL 7 fun _ _ => none) (loopAt Tryz.f76 0) (fbO F y p b) (finX keepC [some 0, some 1, some 2, some 3]) =
    cond (decide (y < F.H)) none (some ⟨.exit 0, fbO F y p b, .any⟩) := by kernel_rfl
theorem fbO_leads {F : Fd} {w h : Nat} (d : Dim F w h) : Leads Tryz.prog (.loop (loopAt Tryz.f76 0)) (fbO F 0 (lastP (pt F) (0 * w)) (boxQ (pt F) (0 * w))) (.exit 0) (fbO F (h : Nat) (lastP (pt F) (h * w)) (boxQ (pt F) (h * w))) := by
  have h8 := d.h8
  refine loop_rule (fun y => fbO F (y : Nat) (lastP (pt F) (y * w)) (boxQ (pt F) (y * w))) h (.exit 0) _ (by simp) (fun y hy => ?_) ?_
  · refine leads_ev (finN_sub keepC [some 0, some 1, some 2, some 3]) R3_ok GK_ok (fbIL_ok d hy) ?_
    have c1 : decide (((y : Nat) : Int) < F.H) = true := by rw [d.H]; exact dec_lt hy
    rw [fbO_step, c1, gate_pos (Sub.refl _), w64_next (by omega), Nat.succ_mul y w]
    rfl
  · refine leads_ev (finX_sub keepC [some 0, some 1, some 2, some 3]) R3_ok GK_ok (lok_none 7) ?_
    have c1 : decide (((h : Nat) : Int) < F.H) = false := by rw [d.H]; exact dec_self h
    rw [fbO_last, c1]
    rfl
noncomputable def fbL (F : Fd) (w h : Nat) : Nat → Option LFun := oneL 4 (toldF keepC [some 0, some 1, some 2, some 3] (fbO F 0 (lastP (pt F) (0 * w)) (boxQ (pt F) (0 * w))) (.exit 0) (fbO F (h : Nat) (lastP (pt F) (h * w)) (boxQ (pt F) (h * w))))
theorem fbL_ok {F : Fd} {w h : Nat} (d : Dim F w h) : LOk Tryz.prog (fbL F w h) (bodyOf Tryz.f76) :=
  lok_one (i := 4) 2 (by kernel_rfl) fun j hj hid => by
    have : j = 0 ∨ j = 1 := by omega
    rcases this with rfl | rfl
    · exact toldF_sound (fbO_leads d)
    · have e : firstId ((loopsOf (bodyOf Tryz.f76)).getD 1 .skip) = some 7 := by kernel_rfl
      rw [e] at hid
      cases hid
theorem fb_ev (F : Fd) (w h : Nat) : ev Tryz.prog R3 (GK Tryz.prog Tryz.f94) (fbL F w h) Tryz.f76 [.agg F.c] ret =
    cond ((inR (ix F.W 0 0) F.n || false) && true) (gate (Sub (fbO F 0 (ptXY F (F.hs (ix F.W 0 0).toNat) 0 0) (pp (ptXY F (F.hs (ix F.W 0 0).toNat) 0 0))) (fbO F 0 (lastP (pt F) (0 * w)) (boxQ (pt F) (0 * w)))) (some (Out.of (.agg (c6 (boxQ (pt F) (h * w))))))) none := by kernel_rfl
theorem fb_spec {F : Fd} {w h : Nat} (d : Dim F w h) : FSpec Tryz.prog 76 [.agg F.c] (.agg (c6 (bx F))) := by
  refine gspec R3_ok GK_ok Tryz.func76 (by kernel_rfl) (by kernel_rfl) (fbL_ok d) rfl ?_
  have hpos : 4 ≤ w * h := Nat.mul_le_mul d.w1 d.h1
  have hn := d.n
  have hw := d.w1
  have hix : ix F.W 0 0 = ((0 * w + 0 : Nat) : Int) := d.ix (y := 0) (x := 0) (by have := d.h1; omega) (by omega)
  have hpt : ptXY F (F.hs (0 * w + 0)) 0 0 = pt F 0 := by
    have := (pt_at (y := 0) (x := 0) d (by omega)).symm
    rw [Nat.zero_mul] at this ⊢
    exact this
  rw [fb_ev, hix, inR_nat (by rw [hn]; omega), Int.toNat_natCast, hpt]
  have hs : Sub (fbO F 0 (pt F 0) (pp (pt F 0))) (fbO F 0 (lastP (pt F) (0 * w)) (boxQ (pt F) (0 * w))) := by
    rw [Nat.zero_mul]
    exact Sub.refl _
  rw [gate_pos hs]
  unfold bx
  rw [hn, Nat.mul_comm h w]
  rfl
end Go.Proofs.YtngjiggplabfkaaGreat.Hs.Fm

namespace Go.Proofs.YtngjiggplabfkaaGreat.Hs.Fm
open Go.Gv
open Go.Ev (cn fadd fsub fmul fdiv feq flt fle fgt fge)

theorem rm_step (F : Fd) (q : Int) : evC Tryz.prog R3 [] noL (loopAt Tryz.f51 0) (rmS F 0 q) (finN keepR2 [some 0]) =
    cond (decide (q < (F.n : Int))) (cond (inR q F.n || false) (cond (inR q F.n || !((decide (F.hs q.toNat < -1000000) == false) && true)) (cond (hBad (F.hs q.toNat)) none (some ⟨.normal, rmS F 0 (w64 (q + 1)), .any⟩)) none) none) none := by kernel_rfl
theorem rm_end (F : Fd) (q : Int) : evC Tryz.prog R3 [] noL (loopAt Tryz.f51 0) (rmS F 0 q) (finX keepR2 [some 0]) =
    cond (decide (q < (F.n : Int))) (cond (inR q F.n || false) (cond (inR q F.n || !((decide (F.hs q.toNat < -1000000) == false) && true)) (cond (hBad (F.hs q.toNat)) (some ⟨.ret, rmS F 6 q, .any⟩) none) none) none) (some ⟨.exit 0, rmS F 0 q, .any⟩) := by kernel_rfl
theorem rm_round {F : Fd} {q : Nat} (hn : F.n < 4611686018427387904) (hq : q < F.n) (hb : hBad (F.hs q) = false) : Leads Tryz.prog (loopAt Tryz.f51 0) (rmS F 0 (q : Nat)) .normal (rmS F 0 ((q + 1 : Nat) : Int)) := by
  refine leads_ev (finN_sub keepR2 [some 0]) R3_ok k_nil noL_ok ?_
  rw [rm_step, dec_lt hq, inR_nat hq, w64_next (by omega)]
  simp only [Int.toNat_natCast, hb, Bool.true_or, cond_true, cond_false]
theorem rm_ok {F : Fd} (hn : F.n < 4611686018427387904) (h : ∀ q, q < F.n → hBad (F.hs q) = false) : Leads Tryz.prog (.loop (loopAt Tryz.f51 0)) (rmS F 0 0) (.exit 0) (rmS F 0 F.n) := by
  refine loop_rule (fun q => rmS F 0 (q : Nat)) F.n (.exit 0) _ (by simp) (fun q hq => rm_round hn hq (h q hq)) ?_
  refine leads_ev (finX_sub keepR2 [some 0]) R3_ok k_nil noL_ok ?_
  rw [rm_end, dec_self]
  rfl
theorem rm_bad {F : Fd} (hn : F.n < 4611686018427387904) {j : Nat} (hj : j < F.n) (hb : hBad (F.hs j) = true) (h : ∀ q, q < j → hBad (F.hs q) = false) : Leads Tryz.prog (.loop (loopAt Tryz.f51 0)) (rmS F 0 0) .ret (rmS F 6 (j : Nat)) := by
  refine loop_rule (fun q => rmS F 0 (q : Nat)) j .ret _ (by simp) (fun q hq => rm_round hn (by omega) (h q hq)) ?_
  refine leads_ev (finX_sub keepR2 [some 0]) R3_ok k_nil noL_ok ?_
  rw [rm_end, dec_lt hj, inR_nat hj]
  simp only [Int.toNat_natCast, hb, Bool.true_or, cond_true]
noncomputable def rmL (F : Fd) (ex : Exit) (sf : St) : Nat → Option LFun := oneL 14 (toldF keepR2 [some 0] (rmS F 0 0) ex sf)
theorem rmL_lok {F : Fd} {ex : Exit} {sf : St} (h : Leads Tryz.prog (.loop (loopAt Tryz.f51 0)) (rmS F 0 0) ex sf) : LOk Tryz.prog (rmL F ex sf) (bodyOf Tryz.f51) :=
  lok_one (i := 14) 1 (by kernel_rfl) fun j hj _ => by
    have : j = 0 := by omega
    subst this
    exact toldF_sound h
def Fd.firstR (F : Fd) (X : Option Out) : Option Out := cond F.dims (some (Out.of (iA 4))) (cond (!((F.n : Int) == w64 (F.W * F.H))) (some (Out.of (iA 5))) (cond (skB F.sk) (some (Out.of (iA 4))) (cond F.far (some (Out.of (iA 1))) (cond (fle F.sd 0) (some (Out.of (iA 6))) X))))
theorem rm_ev0 (F : Fd) : ev Tryz.prog R3 [] (rmL F (.exit 0) (rmS F 0 F.n)) Tryz.f51 [.agg F.c] ret = F.firstR (gate (Sub (rmS F 0 0) (rmS F 0 0)) none) := by kernel_rfl
theorem rm_ev1 (F : Fd) (j : Int) : ev Tryz.prog R3 [] (rmL F .ret (rmS F 6 j)) Tryz.f51 [.agg F.c] ret = F.firstR (gate (Sub (rmS F 0 0) (rmS F 0 0)) (some (Out.of (iA 6)))) := by kernel_rfl
theorem rm_ev2 (F : Fd) (b : Nat → Nat) : ev Tryz.prog R3 [kfix 76 [.agg F.c] (.agg (c6 b))] (rmL F (.exit 0) (rmS F 0 F.n)) Tryz.f51 [.agg F.c] ret =
    F.firstR (gate (Sub (rmS F 0 0) (rmS F 0 0)) (gate ([AV.agg F.c] = [AV.agg F.c]) (cond (!(mayS b == 0)) (some (Out.of (iA 1))) (some (Out.of (iA 0)))))) := by kernel_rfl
theorem firstR_eq (F : Fd) (X : Option Out) : F.firstR X = F.first X := by
  unfold Fd.firstR Fd.first
  cases hf : F.far
  · have hn : nearS F.sd = true := by
      unfold Fd.far at hf
      revert hf
      cases fineS (F.at_ 0) (F.at_ 1) (F.at_ 2) <;> cases nearS F.sd <;> intro hf <;> first | rfl | (cases hf)
    rw [not_gt hn]
  · rfl
theorem rmay_bad {F : Fd} (hn : F.n < 4611686018427387904) (he : F.mayN ≠ 0) : FSpec Tryz.prog 51 [.agg F.c] (iA F.mayN) := by
  have fin : ∀ (X : Option Out), (F.okAll = true ∨ X = some (Out.of (iA 6)) ∧ F.okAll = false) → F.first X = some (Out.of (iA F.mayN)) := fun X hX => by
    revert he
    unfold Fd.first Fd.mayN
    cases F.dims <;> simp only [cond_true, cond_false]
    · cases (!((F.n : Int) == w64 (F.W * F.H))) <;> simp only [cond_true, cond_false]
      · cases skB F.sk <;> simp only [cond_true, cond_false]
        · cases F.far <;> simp only [cond_true, cond_false]
          · cases (!fgt F.sd 0) <;> simp only [cond_true, cond_false]
            · rcases hX with h1 | ⟨h1, h2⟩
              · rw [h1]; intro he; exact absurd rfl he
              · rw [h1, h2]; intro _; rfl
            · intro _; trivial
          · intro _; trivial
        · intro _; trivial
      · intro _; trivial
    · intro _; trivial
  rcases first_bad F.hs F.n with h | ⟨j, h1, h2, h3⟩
  · refine gspec R3_ok k_nil Tryz.func51 (by kernel_rfl) (by kernel_rfl) (rmL_lok (rm_ok hn h)) rfl ?_
    rw [rm_ev0, gate_pos (Sub.refl _), firstR_eq]
    refine fin _ (Or.inl ?_)
    unfold Fd.okAll
    rw [List.all_eq_true.2]
    intro q hq
    rw [h q (List.mem_range.1 hq)]
    rfl
  · refine gspec R3_ok k_nil Tryz.func51 (by kernel_rfl) (by kernel_rfl) (rmL_lok (rm_bad hn h1 h2 h3)) rfl ?_
    rw [rm_ev1, gate_pos (Sub.refl _), firstR_eq]
    refine fin _ (Or.inr ⟨rfl, ?_⟩)
    unfold Fd.okAll
    rw [List.all_eq_false.2 ⟨j, List.mem_range.2 h1, by rw [h2]; simp⟩]
theorem rmay_good {F : Fd} {w h : Nat} (d : Dim F w h) (he : F.mayN = 0) : FSpec Tryz.prog 51 [.agg F.c] (iA (cond (mayS (bx F) == 0) 0 1)) := by
  have hle := d.le
  have hn := d.n
  rcases first_bad F.hs F.n with h | ⟨j, h1, h2, h3⟩
  · refine gspec R3_ok (k_cons (kfix_ok (fb_spec d)) k_nil) Tryz.func51 (by kernel_rfl) (by kernel_rfl) (rmL_lok (rm_ok (by omega) h)) rfl ?_
    rw [rm_ev2, gate_pos (Sub.refl _), gate_pos rfl, firstR_eq]
    revert he
    unfold Fd.first Fd.mayN
    cases F.dims <;> simp only [cond_true, cond_false]
    · cases (!((F.n : Int) == w64 (F.W * F.H))) <;> simp only [cond_true, cond_false]
      · cases skB F.sk <;> simp only [cond_true, cond_false]
        · cases F.far <;> simp only [cond_true, cond_false]
          · cases (!fgt F.sd 0) <;> simp only [cond_true, cond_false]
            · intro _; cases mayS (bx F) == 0 <;> rfl
            · intro he; cases he
          · intro he; cases he
        · intro he; cases he
      · intro he; cases he
    · intro he; cases he
  · exfalso
    have hk : F.okAll = false := by
      unfold Fd.okAll
      rw [List.all_eq_false.2 ⟨j, List.mem_range.2 h1, by rw [h2]; simp⟩]
    revert he
    unfold Fd.mayN
    rw [hk]
    cases F.dims <;> cases (!((F.n : Int) == w64 (F.W * F.H))) <;> cases skB F.sk <;> cases F.far <;> cases (!fgt F.sd 0) <;> intro he <;> cases he
theorem fm_ev1 (F : Fd) (e : Int) : ev Tryz.prog [] [kfix 86 [.agg F.c] (.tup [.agg gridZ, iA e])] noL Tryz.f64 [.agg F.c] ret = gate ([AV.agg F.c] = [AV.agg F.c]) (some (Out.of (iA e))) := by kernel_rfl
theorem fm_ev2 (F : Fd) (n : Nat) (b : Nat → Nat) : ev Tryz.prog [] [kfix 86 [.agg F.c] (.tup [.agg (gridC F n b), iA 0])] noL Tryz.f64 [.agg F.c] ret = gate ([AV.agg F.c] = [AV.agg F.c]) (some (Out.of (iA 0))) := by kernel_rfl
theorem fm_bad {F : Fd} {e : Int} (h : FSpec Tryz.prog 86 [.agg F.c] (.tup [.agg gridZ, iA e])) : FSpec Tryz.prog 64 [.agg F.c] (iA e) :=
  gspec e_nil (k_cons (kfix_ok h) k_nil) Tryz.func64 (by kernel_rfl) (by kernel_rfl) noL_ok rfl ((fm_ev1 F e).trans (gate_pos rfl))
theorem fm_good {F : Fd} {n : Nat} {b : Nat → Nat} (h : FSpec Tryz.prog 86 [.agg F.c] (.tup [.agg (gridC F n b), iA 0])) : FSpec Tryz.prog 64 [.agg F.c] (iA 0) :=
  gspec e_nil (k_cons (kfix_ok h) k_nil) Tryz.func64 (by kernel_rfl) (by kernel_rfl) noL_ok rfl ((fm_ev2 F n b).trans (gate_pos rfl))
/-- Numbers that may be: the sides, and how many points there are. -/
theorem mayN_dim {F : Fd} (h : F.mayN = 0) : (∃ w h, Dim F w h) ∧ F.far = false := by
  unfold Fd.mayN at h
  cases hd : F.dims
  · rw [hd, cond_false] at h
    cases hn : ((F.n : Int) == w64 (F.W * F.H))
    · rw [hn] at h; exact absurd (show (5 : Int) = 0 from h) (by decide)
    · rw [hn] at h
      have h : cond (skB F.sk) 4 (cond F.far 1 (cond (!fgt F.sd 0) 6 (cond F.okAll 0 6))) = (0 : Int) := h
      cases hk : skB F.sk
      · rw [hk, cond_false] at h
        cases hf : F.far
        · refine ⟨?_, rfl⟩
          unfold Fd.dims at hd
          have d1 : ¬ F.W < 2 := fun c => by rw [decide_eq_true c] at hd; cases hd
          rw [decide_eq_false d1, cond_false] at hd
          have d2 : ¬ F.W > 8 := fun c => by rw [decide_eq_true c] at hd; cases hd
          rw [decide_eq_false d2, cond_false] at hd
          have d3 : ¬ F.H < 2 := fun c => by rw [decide_eq_true c] at hd; cases hd
          rw [decide_eq_false d3, cond_false] at hd
          have d4 : ¬ F.H > 8 := fun c => by rw [decide_eq_true c] at hd; cases hd
          have eW : F.W = ((F.W.toNat : Nat) : Int) := by omega
          have eH : F.H = ((F.H.toNat : Nat) : Int) := by omega
          have hle : F.W.toNat * F.H.toNat ≤ 8 * 8 := Nat.mul_le_mul (by omega) (by omega)
          have e : F.W * F.H = ((F.W.toNat * F.H.toNat : Nat) : Int) := by rw [Int.natCast_mul, ← eW, ← eH]
          have hn := eq_of_beq hn
          rw [e, w64_id (by omega) (by omega)] at hn
          exact ⟨F.W.toNat, F.H.toNat, eW, eH, by omega, by omega, by omega, by omega, by omega⟩
        · rw [hf] at h; exact absurd (show (1 : Int) = 0 from h) (by decide)
      · rw [hk] at h; exact absurd (show (4 : Int) = 0 from h) (by decide)
  · rw [hd] at h; exact absurd (show (4 : Int) = 0 from h) (by decide)
theorem may_ev_no (F : Fd) : ev Tryz.prog V4 [] (oneL 12 fun _ _ => none) Tryz.f101 [.agg F.c] ret = F.first none := by kernel_rfl
theorem rm_ev_no (F : Fd) : ev Tryz.prog R3 [] (oneL 14 fun _ _ => none) Tryz.f51 [.agg F.c] ret = F.firstR none := by kernel_rfl
theorem first_no {F : Fd} (hn : ¬ F.n < 4611686018427387904) (X : Option Out) : F.first X = some (Out.of (iA F.mayN)) ∧ F.mayN ≠ 0 := by
  cases hd : F.dims
  · cases he : ((F.n : Int) == w64 (F.W * F.H))
    · unfold Fd.first Fd.mayN
      rw [hd, he]
      exact ⟨rfl, show (5 : Int) ≠ 0 by decide⟩
    · exfalso
      unfold Fd.dims at hd
      have d1 : ¬ F.W < 2 := fun c => by rw [decide_eq_true c] at hd; cases hd
      rw [decide_eq_false d1, cond_false] at hd
      have d2 : ¬ F.W > 8 := fun c => by rw [decide_eq_true c] at hd; cases hd
      rw [decide_eq_false d2, cond_false] at hd
      have d3 : ¬ F.H < 2 := fun c => by rw [decide_eq_true c] at hd; cases hd
      rw [decide_eq_false d3, cond_false] at hd
      have d4 : ¬ F.H > 8 := fun c => by rw [decide_eq_true c] at hd; cases hd
      have hle : F.W.toNat * F.H.toNat ≤ 8 * 8 := Nat.mul_le_mul (by omega) (by omega)
      have eW : F.W = ((F.W.toNat : Nat) : Int) := by omega
      have eH : F.H = ((F.H.toNat : Nat) : Int) := by omega
      have e : F.W * F.H = ((F.W.toNat * F.H.toNat : Nat) : Int) := by rw [Int.natCast_mul, ← eW, ← eH]
      have he := eq_of_beq he
      rw [e, w64_id (by omega) (by omega)] at he
      omega
  · unfold Fd.first Fd.mayN
    rw [hd]
    exact ⟨rfl, show (4 : Int) ≠ 0 by decide⟩
/-- A field may be, or not: the same for both. -/
theorem field_all (F : Fd) : ∃ m, FSpec Tryz.prog 64 [.agg F.c] (iA m) ∧ FSpec Tryz.prog 51 [.agg F.c] (iA m) ∧ (m = 0 → F.far = false ∧ F.n ≤ 64) := by
  by_cases hn : F.n < 4611686018427387904
  · by_cases he : F.mayN = 0
    · obtain ⟨⟨w, h, d⟩, hf⟩ := mayN_dim he
      have k := known_ok d he
      have g := rmay_good d he
      have hl := d.le
      cases hb : mayS (bx F) == 0
      · rw [hb] at k g; exact ⟨1, fm_bad k, g, fun h => absurd h (by decide)⟩
      · rw [hb] at k g; exact ⟨0, fm_good k, g, fun _ => ⟨hf, by rw [d.n]; exact hl⟩⟩
    · exact ⟨_, fm_bad (known_bad hn he), rmay_bad hn he, fun h => absurd h he⟩
  · have f := first_no hn none
    have s1 : FSpec Tryz.prog 101 [.agg F.c] (iA F.mayN) := gspec V4_ok k_nil Tryz.func101 (by kernel_rfl) (by kernel_rfl) (lok_none 12) rfl ((may_ev_no F).trans f.1)
    have s2 : FSpec Tryz.prog 51 [.agg F.c] (iA F.mayN) := gspec R3_ok k_nil Tryz.func51 (by kernel_rfl) (by kernel_rfl) (lok_none 14) rfl ((rm_ev_no F).trans ((firstR_eq F none).trans f.1))
    have s3 : FSpec Tryz.prog 86 [.agg F.c] (.tup [.agg gridZ, iA F.mayN]) := by
      refine gspec V4_ok (k_cons (kfix_ok s1) k_nil) Tryz.func86 (by kernel_rfl) (by kernel_rfl) noL_ok rfl ?_
      rw [known_ev1, gate_pos rfl, beq_false_of_ne f.2]
      rfl
    exact ⟨_, fm_bad s3, s2, fun h => absurd h f.2⟩
end Go.Proofs.YtngjiggplabfkaaGreat.Hs.Fm

namespace Go.Gv
open Go.RowKit

/-- Told either way. -/
def condL (b : Bool) (g h : LFun) : LFun := fun s k => cond b (g s k) (h s k)
theorem condL_sound {P : Program} {c : Code} {b : Bool} {g h : LFun} (hg : b = true → LSound P c g) (hh : b = false → LSound P c h) : LSound P c (condL b g h) := by
  cases b
  · exact hh rfl
  · exact hg rfl
/-- Several loops. -/
def manyL : List (Nat × LFun) → Nat → Option LFun
  | [], _ => none
  | x :: l, j => cond (Nat.beq j x.1) (some x.2) (manyL l j)
theorem lok_nil {P : Program} {c : Code} : LOk P (manyL []) c := fun _ _ _ _ _ h => by cases h
theorem lok_cons {P : Program} {c : Code} {i : Nat} {g : LFun} {l : List (Nat × LFun)} (hg : LOk P (oneL i g) c) (hl : LOk P (manyL l) c) : LOk P (manyL ((i, g) :: l)) c := by
  intro c' hc j f hj hf
  have hf : cond (Nat.beq j i) (some g) (manyL l j) = some f := hf
  cases hb : Nat.beq j i
  · rw [hb, cond_false] at hf
    exact hl c' hc j f hj hf
  · rw [hb, cond_true] at hf
    refine hg c' hc j f hj ?_
    unfold oneL
    rw [hb, cond_true]
    exact hf
end Go.Gv
namespace Go.Proofs.YtngjiggplabfkaaGreat.Hs.Sc
open Go.Gv So

/-- What a loop does that gives up at the first thing that may not be. -/
noncomputable def mayT (keep : List Nat) (τ : List (Option Nat)) (S : Int → St) (ex : Exit) (E : Int → St) (fb : Nat → Int) (n : Nat) : LFun :=
  condL (seqE fb n == 0) (toldF keep τ (S 0) ex (S (n : Nat))) (toldF keep τ (S 0) .ret (E (seqE fb n)))
theorem mayT_sound {P : Program} {c : Code} {keep : List Nat} {τ : List (Option Nat)} {S : Int → St} {ex : Exit} {E : Int → St} {fb : Nat → Int} {n : Nat} (hex : ex ≠ .normal)
    (h1 : ∀ k : Nat, k < n → fb k = 0 → Leads P c (S (k : Nat)) .normal (S ((k + 1 : Nat) : Int))) (h2 : ∀ k : Nat, k < n → fb k ≠ 0 → Leads P c (S (k : Nat)) .ret (E (fb k))) (h3 : Leads P c (S (n : Nat)) ex (S (n : Nat))) :
    LSound P c (mayT keep τ S ex E fb n) := by
  refine condL_sound (fun hb => ?_) fun hb => ?_
  · have h := seq_zero n (eq_of_beq hb)
    exact toldF_sound (loop_rule (fun k => S (k : Nat)) n ex _ hex (fun k hk => h1 k hk (h k hk)) h3)
  · rcases all_or_first (fun i => fb i == 0) n with hl | ⟨K, hK, hp, hq⟩
    · rw [seq_all n fun i hi => by simpa using hl i hi] at hb
      cases hb
    · have hp' : fb K ≠ 0 := by simpa using hp
      have hq' : ∀ i, i < K → fb i = 0 := fun i hi => by simpa using hq i hi
      rw [seq_first hp' hq' n hK]
      exact toldF_sound (loop_rule (fun k => S (k : Nat)) K .ret _ (by simp) (fun k hk => h1 k (by omega) (hq' k hk)) (h2 K hK hp'))
/-- A contract that is asked for: a number of the cells of the first argument. -/
def gO (f : List AV → Int) : List AV → AV
  | [.agg c] => iA (f c)
  | _ => .any
end Go.Proofs.YtngjiggplabfkaaGreat.Hs.Sc

namespace Go.Proofs.YtngjiggplabfkaaGreat.Hs.Sc
open Go.Gv
open Go.Ev (cn fadd fsub fmul fdiv fsqrt fneg feq flt fle fgt fge fabs isNan)

abbrev skC (k : Nat → Int) : List AV := [iA (k 0), iA (k 1), iA (k 2), iA (k 3), iA (k 4), iA (k 5), iA (k 6), iA (k 7), iA (k 8), iA (k 9)]
abbrev lmC (a : Nat → Nat) (l : Nat → Int) : List AV := [.f (a 0), .f (a 1), .f (a 2), iA (l 0), iA (l 1), iA (l 2)]
abbrev eyC (e : Nat → Nat) : List AV := [.f (e 0), .f (e 1), .f (e 2), .f (e 3), .f (e 4), .f (e 5), .f (e 6), .f (e 7), .f (e 8), .f (e 9)]
def oB (b : Bool) : Option Out := some (Out.of (bA b))
def oI (n : Int) : Option Out := some (Out.of (iA n))
def cbB (x : Int) : Bool := cond (decide (x < 0)) true (decide (x > 1000))
def suB (s m g : Int) : Bool := decide (w64 (w64 (s + m) + g) ≤ 1000)
def mcB (s m g : Int) : Bool := cond (cbB s) false (cond (cbB m) false (cond (cbB g) false (suB s m g)))
theorem mc_ev (s m g : Int) : ev Tryz.prog [] [] noL Tryz.f60 [iA s, iA m, iA g] ret = cond (cbB s) (oB false) (cond (cbB m) (oB false) (cond (cbB g) (oB false) (oB (suB s m g)))) := by kernel_rfl
theorem mc_spec (s m g : Int) : FSpec Tryz.prog 60 [iA s, iA m, iA g] (bA (mcB s m g)) := by
  refine gspec e_nil k_nil Tryz.func60 (by kernel_rfl) (by kernel_rfl) noL_ok rfl ((mc_ev s m g).trans ?_)
  unfold mcB
  cases cbB s <;> cases cbB m <;> cases cbB g <;> rfl
def eC3 (f : Int → Int → Int → Bool) : List AV → Option AV
  | [.x (.int .i64 a), .x (.int .i64 b), .x (.int .i64 c)] => some (bA (f a b c))
  | _ => none
theorem eC3_ok : EOk Tryz.prog ⟨60, eC3 mcB⟩ := fun args r hr => by
  simp only [eC3] at hr
  split at hr
  · cases hr; exact Or.inl (mc_spec _ _ _)
  · cases hr
section
variable (f : Int → Int → Int → Bool) (k : Nat → Int)
def beB : Bool := cond (decide (k 9 < 100)) true (decide (k 9 > 10000))
def skX : Option Out := cond (!f (k 0) (k 3) (k 6)) (oI 6) (cond (!f (k 1) (k 4) (k 7)) (oI 6) (cond (!f (k 2) (k 5) (k 8)) (oI 6) (cond (beB k) (oI 6) (oI 0))))
theorem sk_ev : ev Tryz.prog [⟨60, eC3 f⟩] [] noL Tryz.f35 [.agg (skC k)] ret = skX f k := by kernel_rfl
end
/-- The errno of a skin. -/
def skE (k : Nat → Int) : Int := cond (!mcB (k 0) (k 3) (k 6)) 6 (cond (!mcB (k 1) (k 4) (k 7)) 6 (cond (!mcB (k 2) (k 5) (k 8)) 6 (cond (beB k) 6 0)))
theorem skX_eq (k : Nat → Int) : skX mcB k = oI (skE k) := by
  unfold skX skE
  cases mcB (k 0) (k 3) (k 6) <;> cases mcB (k 1) (k 4) (k 7) <;> cases mcB (k 2) (k 5) (k 8) <;> cases beB k <;> rfl
theorem sk_spec (k : Nat → Int) : FSpec Tryz.prog 35 [.agg (skC k)] (iA (skE k)) :=
  gspec (e_cons eC3_ok e_nil) k_nil Tryz.func35 (by kernel_rfl) (by kernel_rfl) noL_ok rfl ((sk_ev mcB k).trans (skX_eq k))
def bcB (a b g : Int) : Bool := cond (cond (cond (cond (cond (cond (decide (a < 0)) true (decide (a > 1000))) true (decide (b < 0))) true (decide (b > 1000))) true (decide (g < 0))) true (decide (g > 1000))) true (decide (w64 (w64 (a + b) + g) > 1000))
theorem rsk_ev (k : Nat → Int) : ev Tryz.prog [] [] noL Tryz.f48 [.agg (skC k)] ret = cond (bcB (k 0) (k 3) (k 6)) (oI 6) (cond (bcB (k 1) (k 4) (k 7)) (oI 6) (cond (bcB (k 2) (k 5) (k 8)) (oI 6) (cond (beB k) (oI 6) (oI 0)))) := by kernel_rfl
theorem bcB_eq (a b g : Int) : bcB a b g = !mcB a b g := by
  unfold bcB mcB cbB suB
  have e : decide (w64 (w64 (a + b) + g) > 1000) = !decide (w64 (w64 (a + b) + g) ≤ 1000) := by
    by_cases h : w64 (w64 (a + b) + g) ≤ 1000
    · rw [decide_eq_true h, decide_eq_false (by omega)]; rfl
    · rw [decide_eq_false h, decide_eq_true (by omega)]; rfl
  rw [e]
  cases decide (a < 0) <;> cases decide (a > 1000) <;> cases decide (b < 0) <;> cases decide (b > 1000) <;> cases decide (g < 0) <;> cases decide (g > 1000) <;> rfl
theorem rsk_spec (k : Nat → Int) : FSpec Tryz.prog 48 [.agg (skC k)] (iA (skE k)) := by
  refine gspec e_nil k_nil Tryz.func48 (by kernel_rfl) (by kernel_rfl) noL_ok rfl ((rsk_ev k).trans ?_)
  rw [bcB_eq, bcB_eq, bcB_eq]
  exact skX_eq k
def lbB (x : Int) : Bool := cond (decide (x < 0)) true (decide (x > 65536))
def liB (l : Nat → Int) : Bool := cond (lbB (l 0)) false (cond (lbB (l 1)) false (cond (lbB (l 2)) false true))
abbrev liC (l : Nat → Int) : List AV := [iA (l 0), iA (l 1), iA (l 2)]
theorem li_ev (l : Nat → Int) : ev Tryz.prog [] [] noL Tryz.f38 [.agg (liC l)] ret = cond (lbB (l 0)) (oB false) (cond (lbB (l 1)) (oB false) (cond (lbB (l 2)) (oB false) (oB true))) := by kernel_rfl
theorem li_spec (l : Nat → Int) : FSpec Tryz.prog 38 [.agg (liC l)] (bA (liB l)) := by
  refine gspec e_nil k_nil Tryz.func38 (by kernel_rfl) (by kernel_rfl) noL_ok rfl ((li_ev l).trans ?_)
  unfold liB
  cases lbB (l 0) <;> cases lbB (l 1) <;> cases lbB (l 2) <;> rfl
def lrB (ok : Bool) (x : Int) : Bool := cond (cond ok (decide (x ≥ 0)) false) (decide (x ≤ 65536)) false
theorem rli_ev (l : Nat → Int) : ev Tryz.prog [] [] noL Tryz.f53 [.agg (liC l)] ret = oB (lrB (lrB (lrB true (l 0)) (l 1)) (l 2)) := by kernel_rfl
theorem lrB_eq (ok : Bool) (x : Int) : lrB ok x = cond ok (!lbB x) false := by
  unfold lrB lbB
  have e1 : decide (x ≥ 0) = !decide (x < 0) := by
    by_cases h : x < 0
    · rw [decide_eq_true h, decide_eq_false (by omega)]; rfl
    · rw [decide_eq_false h, decide_eq_true (by omega)]; rfl
  have e2 : decide (x ≤ 65536) = !decide (x > 65536) := by
    by_cases h : x > 65536
    · rw [decide_eq_true h, decide_eq_false (by omega)]; rfl
    · rw [decide_eq_false h, decide_eq_true (by omega)]; rfl
  rw [e1, e2]
  cases ok <;> cases decide (x < 0) <;> cases decide (x > 65536) <;> rfl
theorem rli_spec (l : Nat → Int) : FSpec Tryz.prog 53 [.agg (liC l)] (bA (liB l)) := by
  refine gspec e_nil k_nil Tryz.func53 (by kernel_rfl) (by kernel_rfl) noL_ok rfl ((rli_ev l).trans ?_)
  rw [lrB_eq, lrB_eq, lrB_eq]
  unfold liB
  cases lbB (l 0) <;> cases lbB (l 1) <;> cases lbB (l 2) <;> rfl
def eL3 (f : (Nat → Int) → Bool) : List AV → Option AV
  | [.agg [.x (.int .i64 a), .x (.int .i64 b), .x (.int .i64 c)]] => some (bA (f (fun q => match q with | 0 => a | 1 => b | _ => c)))
  | _ => none
theorem eL3_ok : EOk Tryz.prog ⟨38, eL3 liB⟩ := fun args r hr => by
  simp only [eL3] at hr
  split at hr
  · rename_i a b c
    cases hr; exact Or.inl (li_spec fun q => match q with | 0 => a | 1 => b | _ => c)
  · cases hr
/-- The errno of a lamp. -/
def lmE (a : Nat → Nat) (l : Nat → Int) : Int := cond (!fineS (a 0) (a 1) (a 2)) 1 (cond (!liB l) 6 0)
theorem lm_ev (a : Nat → Nat) (l : Nat → Int) : ev Tryz.prog (⟨38, eL3 liB⟩ :: V2) [] noL Tryz.f37 [.agg (lmC a l)] ret = cond (!fineS (a 0) (a 1) (a 2)) (oI 1) (cond (!liB l) (oI 6) (oI 0)) := by kernel_rfl
theorem lm_spec (a : Nat → Nat) (l : Nat → Int) : FSpec Tryz.prog 37 [.agg (lmC a l)] (iA (lmE a l)) := by
  refine gspec (e_cons eL3_ok V2_ok) k_nil Tryz.func37 (by kernel_rfl) (by kernel_rfl) noL_ok rfl ((lm_ev a l).trans ?_)
  unfold lmE
  cases fineS (a 0) (a 1) (a 2) <;> cases liB l <;> rfl
def feB (e : Nat → Nat) : Bool := cond (cond (cond (!fineS (e 0) (e 1) (e 2)) true (!fineS (e 3) (e 4) (e 5))) true (!fineS (e 6) (e 7) (e 8))) true (!nearS (e 9))
section
variable (e : Nat → Nat)
def dX : Nat := fsub (e 3) (e 0)
def dY : Nat := fsub (e 4) (e 1)
def dZ : Nat := fsub (e 5) (e 2)
def uX : Nat := unN (dX e) (dY e) (dZ e) (dX e)
def uY : Nat := unN (dX e) (dY e) (dZ e) (dY e)
def uZ : Nat := unN (dX e) (dY e) (dZ e) (dZ e)
def upB : Bool := feq (lengthS (crX (uY e) (uZ e) (e 7) (e 8)) (crX (uZ e) (uX e) (e 8) (e 6)) (crX (uX e) (uY e) (e 6) (e 7))) 0
def eyX (b : Bool) : Option Out := cond (feB e) (oI 1) (cond b (oI 6) (cond (!(unE (dX e) (dY e) (dZ e) == 0)) (oI (unE (dX e) (dY e) (dZ e))) (cond (upB e) (oI 2) (oI 0))))
/-- The errno of an eye. -/
def eyE : Int := cond (feB e) 1 (cond (!fgt (e 9) 0) 6 (cond (!(unE (dX e) (dY e) (dZ e) == 0)) (unE (dX e) (dY e) (dZ e)) (cond (upB e) 2 0)))
theorem ey_ev : ev Tryz.prog V3 [] noL Tryz.f39 [.agg (eyC e)] ret = eyX e (!fgt (e 9) 0) := by kernel_rfl
theorem rey_ev : ev Tryz.prog R3 [] noL Tryz.f54 [.agg (eyC e)] ret = eyX e (fle (e 9) 0) := by kernel_rfl
theorem eyX_eq : eyX e (!fgt (e 9) 0) = oI (eyE e) := by
  unfold eyX eyE
  cases feB e <;> cases fgt (e 9) 0 <;> cases (unE (dX e) (dY e) (dZ e) == 0) <;> cases upB e <;> rfl
theorem ey_spec : FSpec Tryz.prog 39 [.agg (eyC e)] (iA (eyE e)) :=
  gspec V3_ok k_nil Tryz.func39 (by kernel_rfl) (by kernel_rfl) noL_ok rfl ((ey_ev e).trans (eyX_eq e))
theorem rey_spec : FSpec Tryz.prog 54 [.agg (eyC e)] (iA (eyE e)) := by
  refine gspec R3_ok k_nil Tryz.func54 (by kernel_rfl) (by kernel_rfl) noL_ok rfl ((rey_ev e).trans ?_)
  have h : eyX e (fle (e 9) 0) = eyX e (!fgt (e 9) 0) := by
    unfold eyX
    cases hf : feB e
    · have hn : nearS (e 9) = true := by
        unfold feB at hf
        revert hf
        cases fineS (e 0) (e 1) (e 2) <;> cases fineS (e 3) (e 4) (e 5) <;> cases fineS (e 6) (e 7) (e 8) <;> cases nearS (e 9) <;> intro hf <;> first | rfl | (cases hf)
      rw [not_gt hn]
    · rfl
  exact h.trans (eyX_eq e)
end
def weE (e sk : Int) (n : Nat) : Int := cond (!(e == 0)) e (cond (decide (sk ≥ (n : Int))) 9 0)
theorem we_ev (e sk : Int) (n : Nat) (el : Nat → List AV) : ev Tryz.prog [] [] noL Tryz.f61 [iA e, iA sk, .sl 10 n el] ret = cond (!(e == 0)) (oI e) (cond (decide (sk ≥ (n : Int))) (oI 9) (oI 0)) := by kernel_rfl
theorem we_spec (e sk : Int) (n : Nat) (el : Nat → List AV) : FSpec Tryz.prog 61 [iA e, iA sk, .sl 10 n el] (iA (weE e sk n)) := by
  refine gspec e_nil k_nil Tryz.func61 (by kernel_rfl) (by kernel_rfl) noL_ok rfl ((we_ev e sk n el).trans ?_)
  unfold weE
  cases e == 0 <;> cases decide (sk ≥ (n : Int)) <;> rfl
end Go.Proofs.YtngjiggplabfkaaGreat.Hs.Sc

namespace Go.Proofs.YtngjiggplabfkaaGreat.Hs.Sc
open Go.Gv So Fm
open Go.Ev (cn fadd fsub fmul fdiv fsqrt fneg feq flt fle fgt fge fabs isNan)

structure Shp where
  k : Int
  a : Nat → Nat
  sk : Int
abbrev Shp.c (s : Shp) : List AV := shC s.k s.a s.sk
structure Sld where
  n : Nat
  P : Nat → Prt
  sk : Int
abbrev Sld.c (s : Sld) : List AV := soC s.n s.P s.sk
structure Scn where
  nS : Nat
  S : Nat → Shp
  nO : Nat
  O : Nat → Sld
  nF : Nat
  F : Nat → Fm.Fd
  nK : Nat
  K : Nat → Nat → Int
  nL : Nat
  LA : Nat → Nat → Nat
  LL : Nat → Nat → Int
  sky : Nat → Int
  eye : Nat → Nat
abbrev Scn.vS (s : Scn) : AV := .sl 13 s.nS fun q => (s.S q).c
abbrev Scn.vO (s : Scn) : AV := .sl 2 s.nO fun q => (s.O q).c
abbrev Scn.vF (s : Scn) : AV := .sl 8 s.nF fun q => (s.F q).c
abbrev Scn.vK (s : Scn) : AV := .sl 10 s.nK fun q => skC (s.K q)
abbrev Scn.vL (s : Scn) : AV := .sl 6 s.nL fun q => lmC (s.LA q) (s.LL q)
def Scn.c (s : Scn) : List AV := [s.vS, s.vO, s.vF, s.vK, s.vL, iA (s.sky 0), iA (s.sky 1), iA (s.sky 2), .f (s.eye 0), .f (s.eye 1), .f (s.eye 2), .f (s.eye 3), .f (s.eye 4), .f (s.eye 5), .f (s.eye 6), .f (s.eye 7), .f (s.eye 8), .f (s.eye 9)]
def tmB (s : Scn) : Bool := cond (cond (cond (cond (decide ((s.nS : Int) > 64)) true (decide ((s.nO : Int) > 8))) true (decide ((s.nF : Int) > 2))) true (decide ((s.nK : Int) > 16))) true (decide ((s.nL : Int) > 4))
theorem tm_spec (s : Scn) : FSpec Tryz.prog 34 [.agg s.c] (bA (tmB s)) :=
  gspec e_nil k_nil Tryz.func34 (by kernel_rfl) (by kernel_rfl) noL_ok rfl (show ev Tryz.prog [] [] noL Tryz.f34 [.agg s.c] ret = oB (tmB s) by kernel_rfl)
noncomputable def mlC (f : Nat) (n : Nat) (c : Nat → List AV) (g : List AV → Int) (i : Int) (o : Option Out) (r : Int → Option Out) (oe : Option Out) : Option Out := cond (decide (i < n)) (cond (ixB i n || false) (gate (FSpec Tryz.prog f [.agg (c i.toNat)] (iA (g (c i.toNat)))) (cond (!(g (c i.toNat) == 0)) (r (g (c i.toNat))) o)) none) oe
section
variable (fk : List AV → Int) (s : Scn) (i : Int)
def m1S : St := mkS 50 [(1, .own 0 0), (13, s.vK), (14, iA s.nK), (15, iA i)] [.c s.c]
def m2S : St := mkS 50 [(1, .own 0 0), (31, s.vL), (32, iA s.nL), (33, iA i)] [.c s.c]
def mE (e : Int) : St := mkS 50 [(2, iA e)] []
def keep1 : List Nat := [1, 13, 14, 15]
def keep2 : List Nat := [1, 31, 32, 33]
theorem m1_step : evC Tryz.prog [] [kS Tryz.prog 35 (gO fk)] noL (loopAt Tryz.f18 0) (m1S s i) (finN keep1 [some 0]) = mlC 35 s.nK (fun q => skC (s.K q)) fk i (some ⟨.normal, m1S s (w64 (i + 1)), .any⟩) (fun _ => none) none := by kernel_rfl
theorem m1_ret : evC Tryz.prog [] [kS Tryz.prog 35 (gO fk)] noL (loopAt Tryz.f18 0) (m1S s i) (finR [2] []) = mlC 35 s.nK (fun q => skC (s.K q)) fk i none (fun e => some ⟨.ret, mE e, .any⟩) none := by kernel_rfl
theorem m1_end : evC Tryz.prog [] [kS Tryz.prog 35 (gO fk)] noL (loopAt Tryz.f18 0) (m1S s i) (finE keep1 [some 0]) = mlC 35 s.nK (fun q => skC (s.K q)) fk i none (fun _ => none) (some ⟨.exit 0, m1S s i, .any⟩) := by kernel_rfl
theorem m2_step : evC Tryz.prog [] [kS Tryz.prog 37 (gO fk)] noL (loopAt Tryz.f18 1) (m2S s i) (finN keep2 [some 0]) = mlC 37 s.nL (fun q => lmC (s.LA q) (s.LL q)) fk i (some ⟨.normal, m2S s (w64 (i + 1)), .any⟩) (fun _ => none) none := by kernel_rfl
theorem m2_ret : evC Tryz.prog [] [kS Tryz.prog 37 (gO fk)] noL (loopAt Tryz.f18 1) (m2S s i) (finR [2] []) = mlC 37 s.nL (fun q => lmC (s.LA q) (s.LL q)) fk i none (fun e => some ⟨.ret, mE e, .any⟩) none := by kernel_rfl
theorem m2_end : evC Tryz.prog [] [kS Tryz.prog 37 (gO fk)] noL (loopAt Tryz.f18 1) (m2S s i) (finE keep2 [some 0]) = mlC 37 s.nL (fun q => lmC (s.LA q) (s.LL q)) fk i none (fun _ => none) (some ⟨.exit 2, m2S s i, .any⟩) := by kernel_rfl
def gW : List AV → AV
  | [.x (.int .i64 e), .x (.int .i64 sk), .sl _ n _] => iA (weE e sk n)
  | _ => .any
noncomputable def mtC (f : Nat) (n : Nat) (c : Nat → List AV) (sk : Nat → Int) (o : Option Out) (r : Int → Option Out) (oe : Option Out) : Option Out := cond (decide (i < n)) (cond (ixB i n || false) (gate (FSpec Tryz.prog f [.agg (c i.toNat)] (iA (fk (c i.toNat)))) (gate (FSpec Tryz.prog 61 [iA (fk (c i.toNat)), iA (sk i.toNat), s.vK] (iA (weE (fk (c i.toNat)) (sk i.toNat) s.nK))) (cond (!(weE (fk (c i.toNat)) (sk i.toNat) s.nK == 0)) (r (weE (fk (c i.toNat)) (sk i.toNat) s.nK)) o))) none) oe
def t1S : St := mkS 66 [(1, .own 0 0), (13, s.vS), (14, iA s.nS), (15, iA i)] [.c s.c]
def t2S : St := mkS 66 [(1, .own 0 0), (31, s.vO), (32, iA s.nO), (33, iA i)] [.c s.c]
def t3S : St := mkS 66 [(1, .own 0 0), (49, s.vF), (50, iA s.nF), (51, iA i)] [.c s.c]
def tE (e : Int) : St := mkS 66 [(2, iA e)] []
def keep3 : List Nat := [1, 49, 50, 51]
noncomputable def tK (f : Nat) : List KEntry := [kS Tryz.prog f (gO fk), kS Tryz.prog 61 gW]
theorem t1_step : evC Tryz.prog [] (tK fk 62) noL (loopAt Tryz.f36 0) (t1S s i) (finN keep1 [some 0]) = mtC fk s i 62 s.nS (fun q => (s.S q).c) (fun q => (s.S q).sk) (some ⟨.normal, t1S s (w64 (i + 1)), .any⟩) (fun _ => none) none := by kernel_rfl
theorem t1_ret : evC Tryz.prog [] (tK fk 62) noL (loopAt Tryz.f36 0) (t1S s i) (finR [2] []) = mtC fk s i 62 s.nS (fun q => (s.S q).c) (fun q => (s.S q).sk) none (fun e => some ⟨.ret, tE e, .any⟩) none := by kernel_rfl
theorem t1_end : evC Tryz.prog [] (tK fk 62) noL (loopAt Tryz.f36 0) (t1S s i) (finE keep1 [some 0]) = mtC fk s i 62 s.nS (fun q => (s.S q).c) (fun q => (s.S q).sk) none (fun _ => none) (some ⟨.exit 0, t1S s i, .any⟩) := by kernel_rfl
theorem t2_step : evC Tryz.prog [] (tK fk 63) noL (loopAt Tryz.f36 1) (t2S s i) (finN keep2 [some 0]) = mtC fk s i 63 s.nO (fun q => (s.O q).c) (fun q => (s.O q).sk) (some ⟨.normal, t2S s (w64 (i + 1)), .any⟩) (fun _ => none) none := by kernel_rfl
theorem t2_ret : evC Tryz.prog [] (tK fk 63) noL (loopAt Tryz.f36 1) (t2S s i) (finR [2] []) = mtC fk s i 63 s.nO (fun q => (s.O q).c) (fun q => (s.O q).sk) none (fun e => some ⟨.ret, tE e, .any⟩) none := by kernel_rfl
theorem t2_end : evC Tryz.prog [] (tK fk 63) noL (loopAt Tryz.f36 1) (t2S s i) (finE keep2 [some 0]) = mtC fk s i 63 s.nO (fun q => (s.O q).c) (fun q => (s.O q).sk) none (fun _ => none) (some ⟨.exit 2, t2S s i, .any⟩) := by kernel_rfl
theorem t3_step : evC Tryz.prog [] (tK fk 64) noL (loopAt Tryz.f36 2) (t3S s i) (finN keep3 [some 0]) = mtC fk s i 64 s.nF (fun q => (s.F q).c) (fun q => (s.F q).sk) (some ⟨.normal, t3S s (w64 (i + 1)), .any⟩) (fun _ => none) none := by kernel_rfl
theorem t3_ret : evC Tryz.prog [] (tK fk 64) noL (loopAt Tryz.f36 2) (t3S s i) (finR [2] []) = mtC fk s i 64 s.nF (fun q => (s.F q).c) (fun q => (s.F q).sk) none (fun e => some ⟨.ret, tE e, .any⟩) none := by kernel_rfl
theorem t3_end : evC Tryz.prog [] (tK fk 64) noL (loopAt Tryz.f36 2) (t3S s i) (finE keep3 [some 0]) = mtC fk s i 64 s.nF (fun q => (s.F q).c) (fun q => (s.F q).sk) none (fun _ => none) (some ⟨.exit 4, t3S s i, .any⟩) := by kernel_rfl
end
end Go.Proofs.YtngjiggplabfkaaGreat.Hs.Sc

namespace Go.Proofs.YtngjiggplabfkaaGreat.Hs.Sc
open Go.Gv So Fm
open Go.Ev (cn fadd fsub fmul fdiv fsqrt fneg feq flt fle fgt fge fabs isNan)

def Both (f g : Nat) (c : List AV) (m : Int) : Prop := FSpec Tryz.prog f [.agg c] (iA m) ∧ FSpec Tryz.prog g [.agg c] (iA m)
/-- The numbers of a field are fine. -/
def FdFine : List AV → Prop
  | [_, _, .f a, .f b, .f d, .f x, .sl _ n _, _] => fineS a b d = true ∧ nearS x = true ∧ n ≤ 64
  | _ => False
open Classical in
noncomputable def pk2 (f g : Nat) (c : List AV) : Int := if h : ∃ m, Both f g c m then h.choose else 0
theorem pk2_ok {f g : Nat} {c : List AV} (h : ∃ m, Both f g c m) : Both f g c (pk2 f g c) := by
  unfold pk2
  rw [dif_pos h]
  exact h.choose_spec
open Classical in
noncomputable def fFd (c : List AV) : Int := if h : ∃ m, Both 64 51 c m ∧ (m = 0 → FdFine c) then h.choose else 0
theorem fFd_ok (F : Fm.Fd) : Both 64 51 F.c (fFd F.c) ∧ (fFd F.c = 0 → FdFine F.c) := by
  have h : ∃ m, Both 64 51 F.c m ∧ (m = 0 → FdFine F.c) := by
    obtain ⟨m, h1, h2, h3⟩ := field_all F
    refine ⟨m, ⟨h1, h2⟩, fun e => ?_⟩
    obtain ⟨h4, h5⟩ := h3 e
    unfold Fd.far at h4
    show fineS (F.at_ 0) (F.at_ 1) (F.at_ 2) = true ∧ nearS F.sd = true ∧ F.n ≤ 64
    revert h4
    cases fineS (F.at_ 0) (F.at_ 1) (F.at_ 2) <;> cases nearS F.sd <;> intro h4 <;> first | (cases h4; done) | exact ⟨rfl, rfl, h5⟩
  unfold fFd
  rw [dif_pos h]
  exact h.choose_spec
noncomputable def fSk : List AV → Int := pk2 35 48
def dSo : List AV → Sld
  | [.sl _ n el, .x (.int .i64 sk)] => ⟨n, fun i => decP (el i), sk⟩
  | _ => ⟨0, fun _ => decP [], 0⟩
noncomputable def fSo (c : List AV) : Int := soE (dSo c).n (dSo c).P (dSo c).sk
noncomputable def fSh : List AV → Int := pk2 62 49
theorem fSk_ok (k : Nat → Int) : Both 35 48 (skC k) (fSk (skC k)) := pk2_ok ⟨_, sk_spec k, rsk_spec k⟩
theorem fSo_ok (s : Sld) : Both 63 50 s.c (fSo s.c) := ⟨smay_spec s.n s.P s.sk, rsmay_spec s.n s.P s.sk⟩
theorem fSh_ok (s : Shp) : Both 62 49 s.c (fSh s.c) := pk2_ok (may_all s.k s.a s.sk)
def fLm : List AV → Int
  | [.f a, .f b, .f d, .x (.int .i64 x), .x (.int .i64 y), .x (.int .i64 z)] => lmE (ls [a, b, d]) (fun q => match q with | 0 => x | 1 => y | _ => z)
  | _ => 0
section
variable (s : Scn)
noncomputable def eK (q : Nat) : Int := fSk (skC (s.K q))
noncomputable def eS (q : Nat) : Int := weE (fSh (s.S q).c) (s.S q).sk s.nK
noncomputable def eO (q : Nat) : Int := weE (fSo (s.O q).c) (s.O q).sk s.nK
noncomputable def eF (q : Nat) : Int := weE (fFd (s.F q).c) (s.F q).sk s.nK
def eL (q : Nat) : Int := lmE (s.LA q) (s.LL q)
noncomputable def thE : Int := cond (seqE (eS s) s.nS == 0) (cond (seqE (eO s) s.nO == 0) (seqE (eF s) s.nF) (seqE (eO s) s.nO)) (seqE (eS s) s.nS)
/-- The errno of a scene. -/
noncomputable def scE : Int := cond (tmB s) 4 (cond (seqE (eK s) s.nK == 0) (cond (thE s == 0) (cond (seqE (eL s) s.nL == 0) (cond (!liB s.sky) 6 (eyE s.eye)) (seqE (eL s) s.nL)) (thE s)) (seqE (eK s) s.nK))
theorem tm_few (h : tmB s = false) : s.nS ≤ 64 ∧ s.nO ≤ 8 ∧ s.nF ≤ 2 ∧ s.nK ≤ 16 ∧ s.nL ≤ 4 := by
  unfold tmB at h
  have d1 : ¬ (s.nS : Int) > 64 := fun c => by rw [decide_eq_true c] at h; cases h
  rw [decide_eq_false d1, cond_false] at h
  have d2 : ¬ (s.nO : Int) > 8 := fun c => by rw [decide_eq_true c] at h; cases h
  rw [decide_eq_false d2, cond_false] at h
  have d3 : ¬ (s.nF : Int) > 2 := fun c => by rw [decide_eq_true c] at h; cases h
  rw [decide_eq_false d3, cond_false] at h
  have d4 : ¬ (s.nK : Int) > 16 := fun c => by rw [decide_eq_true c] at h; cases h
  rw [decide_eq_false d4, cond_false] at h
  have d5 : ¬ (s.nL : Int) > 4 := fun c => by rw [decide_eq_true c] at h; cases h
  omega
end
theorem mlC_t {f n : Nat} {c : Nat → List AV} {g : List AV → Int} {k : Nat} (hk : k < n) (h : FSpec Tryz.prog f [.agg (c k)] (iA (g (c k)))) (o : Option Out) (r : Int → Option Out) (oe : Option Out) : mlC f n c g (k : Nat) o r oe = cond (g (c k) == 0) o (r (g (c k))) := by
  unfold mlC
  rw [dec_lt hk, ixB_t hk, Int.toNat_natCast, gate_pos h]
  cases g (c k) == 0 <;> rfl
theorem mlC_e (f n : Nat) (c : Nat → List AV) (g : List AV → Int) (o : Option Out) (r : Int → Option Out) (oe : Option Out) : mlC f n c g (n : Nat) o r oe = oe := by
  unfold mlC
  rw [dec_self, cond_false]
theorem mtC_t {f n : Nat} {c : Nat → List AV} {g : List AV → Int} {s : Scn} {sk : Nat → Int} {k : Nat} (hk : k < n) (h : FSpec Tryz.prog f [.agg (c k)] (iA (g (c k)))) (o : Option Out) (r : Int → Option Out) (oe : Option Out) : mtC g s (k : Nat) f n c sk o r oe = cond (weE (g (c k)) (sk k) s.nK == 0) o (r (weE (g (c k)) (sk k) s.nK)) := by
  unfold mtC
  rw [dec_lt hk, ixB_t hk, Int.toNat_natCast, gate_pos h, gate_pos (we_spec _ _ _ _)]
  cases weE (g (c k)) (sk k) s.nK == 0 <;> rfl
theorem mtC_e (f n : Nat) (c : Nat → List AV) (g : List AV → Int) (s : Scn) (sk : Nat → Int) (o : Option Out) (r : Int → Option Out) (oe : Option Out) : mtC g s (n : Nat) f n c sk o r oe = oe := by
  unfold mtC
  rw [dec_self, cond_false]
theorem k1_ok {f : Nat} {g : List AV → AV} : ∀ e, e ∈ [kS Tryz.prog f g] → KOk Tryz.prog e := k_cons kS_ok k_nil
theorem tK_ok {fk : List AV → Int} {f : Nat} : ∀ e, e ∈ tK fk f → KOk Tryz.prog e := k_cons kS_ok (k_cons kS_ok k_nil)
section
variable {s : Scn}
theorem m1_sound (h : s.nK ≤ 1000) : LSound Tryz.prog (loopAt Tryz.f18 0) (mayT keep1 [some 0] (m1S s) (.exit 0) mE (eK s) s.nK) := by
  refine mayT_sound (by simp) (fun k hk hb => ?_) (fun k hk hb => ?_) ?_
  · refine leads_ev (finN_sub _ _) e_nil k1_ok noL_ok ((m1_step fSk s (k : Nat)).trans ?_)
    rw [mlC_t hk (fSk_ok _).1, show fSk (skC (s.K k)) = 0 from hb, w64_next (by omega)]; rfl
  · refine leads_ev (finR_sub _ _) e_nil k1_ok noL_ok ((m1_ret fSk s (k : Nat)).trans ?_)
    rw [mlC_t hk (fSk_ok _).1, beq_false_of_ne (show fSk (skC (s.K k)) ≠ 0 from hb)]; rfl
  · exact leads_ev (finE_sub _ _) e_nil k1_ok noL_ok ((m1_end fSk s (s.nK : Nat)).trans (mlC_e _ _ _ _ _ _ _))
theorem m2_sound (h : s.nL ≤ 1000) : LSound Tryz.prog (loopAt Tryz.f18 1) (mayT keep2 [some 0] (m2S s) (.exit 2) mE (eL s) s.nL) := by
  refine mayT_sound (by simp) (fun k hk hb => ?_) (fun k hk hb => ?_) ?_
  · refine leads_ev (finN_sub _ _) e_nil k1_ok noL_ok ((m2_step fLm s (k : Nat)).trans ?_)
    rw [mlC_t hk (lm_spec _ _), show fLm (lmC (s.LA k) (s.LL k)) = 0 from hb, w64_next (by omega)]; rfl
  · refine leads_ev (finR_sub _ _) e_nil k1_ok noL_ok ((m2_ret fLm s (k : Nat)).trans ?_)
    rw [mlC_t hk (lm_spec _ _), beq_false_of_ne (show fLm (lmC (s.LA k) (s.LL k)) ≠ 0 from hb)]; rfl
  · exact leads_ev (finE_sub _ _) e_nil k1_ok noL_ok ((m2_end fLm s (s.nL : Nat)).trans (mlC_e _ _ _ _ _ _ _))
theorem t1_sound (h : s.nS ≤ 1000) : LSound Tryz.prog (loopAt Tryz.f36 0) (mayT keep1 [some 0] (t1S s) (.exit 0) tE (eS s) s.nS) := by
  refine mayT_sound (by simp) (fun k hk hb => ?_) (fun k hk hb => ?_) ?_
  · refine leads_ev (finN_sub _ _) e_nil tK_ok noL_ok ((t1_step fSh s (k : Nat)).trans ?_)
    rw [mtC_t hk (fSh_ok _).1, show weE (fSh (s.S k).c) (s.S k).sk s.nK = 0 from hb, w64_next (by omega)]; rfl
  · refine leads_ev (finR_sub _ _) e_nil tK_ok noL_ok ((t1_ret fSh s (k : Nat)).trans ?_)
    rw [mtC_t hk (fSh_ok _).1, beq_false_of_ne (show weE (fSh (s.S k).c) (s.S k).sk s.nK ≠ 0 from hb)]; rfl
  · exact leads_ev (finE_sub _ _) e_nil tK_ok noL_ok ((t1_end fSh s (s.nS : Nat)).trans (mtC_e _ _ _ _ _ _ _ _ _))
theorem t2_sound (h : s.nO ≤ 1000) : LSound Tryz.prog (loopAt Tryz.f36 1) (mayT keep2 [some 0] (t2S s) (.exit 2) tE (eO s) s.nO) := by
  refine mayT_sound (by simp) (fun k hk hb => ?_) (fun k hk hb => ?_) ?_
  · refine leads_ev (finN_sub _ _) e_nil tK_ok noL_ok ((t2_step fSo s (k : Nat)).trans ?_)
    rw [mtC_t hk (fSo_ok _).1, show weE (fSo (s.O k).c) (s.O k).sk s.nK = 0 from hb, w64_next (by omega)]; rfl
  · refine leads_ev (finR_sub _ _) e_nil tK_ok noL_ok ((t2_ret fSo s (k : Nat)).trans ?_)
    rw [mtC_t hk (fSo_ok _).1, beq_false_of_ne (show weE (fSo (s.O k).c) (s.O k).sk s.nK ≠ 0 from hb)]; rfl
  · exact leads_ev (finE_sub _ _) e_nil tK_ok noL_ok ((t2_end fSo s (s.nO : Nat)).trans (mtC_e _ _ _ _ _ _ _ _ _))
theorem t3_sound (h : s.nF ≤ 1000) : LSound Tryz.prog (loopAt Tryz.f36 2) (mayT keep3 [some 0] (t3S s) (.exit 4) tE (eF s) s.nF) := by
  refine mayT_sound (by simp) (fun k hk hb => ?_) (fun k hk hb => ?_) ?_
  · refine leads_ev (finN_sub _ _) e_nil tK_ok noL_ok ((t3_step fFd s (k : Nat)).trans ?_)
    rw [mtC_t hk (fFd_ok _).1.1, show weE (fFd (s.F k).c) (s.F k).sk s.nK = 0 from hb, w64_next (by omega)]; rfl
  · refine leads_ev (finR_sub _ _) e_nil tK_ok noL_ok ((t3_ret fFd s (k : Nat)).trans ?_)
    rw [mtC_t hk (fFd_ok _).1.1, beq_false_of_ne (show weE (fFd (s.F k).c) (s.F k).sk s.nK ≠ 0 from hb)]; rfl
  · exact leads_ev (finE_sub _ _) e_nil tK_ok noL_ok ((t3_end fFd s (s.nF : Nat)).trans (mtC_e _ _ _ _ _ _ _ _ _))
end
section
variable (s : Scn) (f1 f2 f3 : Nat → Int) (tm lb : Bool) (th ey : Int)
/-- A loop's answer. -/
noncomputable def lpO (f : Nat → Int) (n : Nat) (S : St) (o : Option Out) : Option Out := cond (seqE f n == 0) (gate (Sub S S) o) (gate (Sub S S) (oI (seqE f n)))
theorem lpO_t (f : Nat → Int) (n : Nat) (S : St) (o : Option Out) : lpO f n S o = cond (seqE f n == 0) o (oI (seqE f n)) := by
  unfold lpO
  rw [gate_pos (Sub.refl _), gate_pos (Sub.refl _)]
noncomputable def tL : Nat → Option LFun := manyL [(2, mayT keep1 [some 0] (t1S s) (.exit 0) tE f1 s.nS), (9, mayT keep2 [some 0] (t2S s) (.exit 2) tE f2 s.nO), (16, mayT keep3 [some 0] (t3S s) (.exit 4) tE f3 s.nF)]
theorem t_ev : ev Tryz.prog [] [] (tL s f1 f2 f3) Tryz.f36 [.agg s.c] ret = lpO f1 s.nS (t1S s 0) (lpO f2 s.nO (t2S s 0) (lpO f3 s.nF (t3S s 0) (oI 0))) := by kernel_rfl
noncomputable def mL : Nat → Option LFun := manyL [(4, mayT keep1 [some 0] (m1S s) (.exit 0) mE f1 s.nK), (14, mayT keep2 [some 0] (m2S s) (.exit 2) mE f2 s.nL)]
noncomputable def mK : List KEntry := [kS Tryz.prog 34 (fun _ => bA tm), kS Tryz.prog 36 (fun _ => iA th), kS Tryz.prog 38 (fun _ => bA lb), kS Tryz.prog 39 (fun _ => iA ey)]
theorem m_ev : ev Tryz.prog [] (mK tm lb th ey) (mL s f1 f2) Tryz.f18 [.agg s.c] ret = gate (FSpec Tryz.prog 34 [.agg s.c] (bA tm)) (cond tm (oI 4) (lpO f1 s.nK (m1S s 0) (gate (FSpec Tryz.prog 36 [.agg s.c] (iA th)) (cond (!(th == 0)) (oI th) (lpO f2 s.nL (m2S s 0) (gate (FSpec Tryz.prog 38 [.agg (liC s.sky)] (bA lb)) (cond (!lb) (oI 6) (gate (FSpec Tryz.prog 39 [.agg (eyC s.eye)] (iA ey)) (oI ey))))))))) := by kernel_rfl
end
end Go.Proofs.YtngjiggplabfkaaGreat.Hs.Sc

namespace Go.Proofs.YtngjiggplabfkaaGreat.Hs.Sc
open Go.Gv So Fm
open Go.Ev (cn fadd fsub fmul fdiv fsqrt fneg feq flt fle fgt fge fabs isNan)

theorem th_spec {s : Scn} (h1 : s.nS ≤ 1000) (h2 : s.nO ≤ 1000) (h3 : s.nF ≤ 1000) : FSpec Tryz.prog 36 [.agg s.c] (iA (thE s)) := by
  refine gspec e_nil k_nil Tryz.func36 (by kernel_rfl) (by kernel_rfl) (lok_cons (lok_at 0 3 (by kernel_rfl) (by kernel_rfl) (t1_sound h1)) (lok_cons (lok_at 1 3 (by kernel_rfl) (by kernel_rfl) (t2_sound h2)) (lok_cons (lok_at 2 3 (by kernel_rfl) (by kernel_rfl) (t3_sound h3)) lok_nil))) rfl ((t_ev s (eS s) (eO s) (eF s)).trans ?_)
  rw [lpO_t, lpO_t, lpO_t]
  unfold thE
  cases hs : seqE (eS s) s.nS == 0
  · rfl
  · cases ho : seqE (eO s) s.nO == 0
    · rfl
    · cases hf : seqE (eF s) s.nF == 0
      · rfl
      · rw [cond_true, cond_true, cond_true, cond_true, cond_true, eq_of_beq hf]; rfl
theorem m_ev0 (s : Scn) (tm : Bool) : ev Tryz.prog [] [kS Tryz.prog 34 (fun _ => bA tm)] (manyL [(4, fun _ _ => none), (14, fun _ _ => none)]) Tryz.f18 [.agg s.c] ret = gate (FSpec Tryz.prog 34 [.agg s.c] (bA tm)) (cond tm (oI 4) none) := by kernel_rfl
theorem sc_spec (s : Scn) : FSpec Tryz.prog 18 [.agg s.c] (iA (scE s)) := by
  cases ht : tmB s
  · obtain ⟨a1, a2, a3, a4, a5⟩ := tm_few s ht
    refine gspec e_nil (k_cons kS_ok (k_cons kS_ok (k_cons kS_ok (k_cons kS_ok k_nil)))) Tryz.func18 (by kernel_rfl) (by kernel_rfl) (lok_cons (lok_at 0 2 (by kernel_rfl) (by kernel_rfl) (m1_sound (by omega))) (lok_cons (lok_at 1 2 (by kernel_rfl) (by kernel_rfl) (m2_sound (by omega))) lok_nil)) rfl ((m_ev s (eK s) (eL s) (tmB s) (liB s.sky) (thE s) (eyE s.eye)).trans ?_)
    rw [gate_pos (tm_spec s), gate_pos (th_spec (by omega) (by omega) (by omega)), gate_pos (li_spec _), gate_pos (ey_spec _), lpO_t, lpO_t, ht]
    unfold scE
    rw [ht]
    cases hk : seqE (eK s) s.nK == 0
    · rfl
    · cases hh : thE s == 0
      · rfl
      · cases hl : seqE (eL s) s.nL == 0
        · rfl
        · cases liB s.sky <;> rfl
  · have e : scE s = 4 := by unfold scE; rw [ht]; rfl
    rw [e]
    refine gspec e_nil (k_cons kS_ok k_nil) Tryz.func18 (by kernel_rfl) (by kernel_rfl) (lok_cons (lok_none 4) (lok_cons (lok_none 14) lok_nil)) rfl ((m_ev0 s (tmB s)).trans ?_)
    rw [gate_pos (tm_spec s), ht]; rfl
theorem eRL_ok : EOk Tryz.prog ⟨53, eL3 liB⟩ := fun args r hr => by
  simp only [eL3] at hr
  split at hr
  · rename_i a b c
    cases hr; exact Or.inl (rli_spec fun q => match q with | 0 => a | 1 => b | _ => c)
  · cases hr
def RL : List Entry := ⟨53, eL3 liB⟩ :: R2
theorem RL_ok : ∀ e, e ∈ RL → EOk Tryz.prog e := e_cons eRL_ok R2_ok
section
variable (fk : List AV → Int) (s : Scn) (sl : Nat) (i : Int)
def rS : St := mkS 169 [(1, .own 0 0), (sl, iA i)] [.c s.c]
def rE (e : Int) : St := mkS 169 [(2, iA e)] []
noncomputable def rtC (f : Nat) (n : Nat) (c : Nat → List AV) (sk : Nat → Int) (o : Option Out) (r : Int → Option Out) (oe : Option Out) : Option Out := cond (decide (i < n)) (cond (ixB i n || false) (gate (FSpec Tryz.prog f [.agg (c i.toNat)] (iA (fk (c i.toNat)))) (cond (!(fk (c i.toNat) == 0)) (r (fk (c i.toNat))) (cond ((ixB i n || false) && true) (cond (decide (sk i.toNat ≥ (s.nK : Int))) (r 9) o) none))) none) oe
def rlC (o : Option Out) (r : Int → Option Out) (oe : Option Out) : Option Out := cond (decide (i < s.nL)) (cond (ixB i s.nL || false) (cond (!fineS (s.LA i.toNat 0) (s.LA i.toNat 1) (s.LA i.toNat 2)) (r 1) (cond (ixB i s.nL || false) (cond (!liB (s.LL i.toNat)) (r 6) o) none)) none) oe
theorem r1_step : evC Tryz.prog [] [kS Tryz.prog 48 (gO fk)] noL (loopAt Tryz.f22 0) (rS s 3 i) (finN [1, 3] [some 0]) = mlC 48 s.nK (fun q => skC (s.K q)) fk i (some ⟨.normal, rS s 3 (w64 (i + 1)), .any⟩) (fun _ => none) none := by kernel_rfl
theorem r1_ret : evC Tryz.prog [] [kS Tryz.prog 48 (gO fk)] noL (loopAt Tryz.f22 0) (rS s 3 i) (finR [2] []) = mlC 48 s.nK (fun q => skC (s.K q)) fk i none (fun e => some ⟨.ret, rE e, .any⟩) none := by kernel_rfl
theorem r1_end : evC Tryz.prog [] [kS Tryz.prog 48 (gO fk)] noL (loopAt Tryz.f22 0) (rS s 3 i) (finE [1, 3] [some 0]) = mlC 48 s.nK (fun q => skC (s.K q)) fk i none (fun _ => none) (some ⟨.exit 0, rS s 3 i, .any⟩) := by kernel_rfl
theorem r2_step : evC Tryz.prog [] [kS Tryz.prog 49 (gO fk)] noL (loopAt Tryz.f22 1) (rS s 5 i) (finN [1, 5] [some 0]) = rtC fk s i 49 s.nS (fun q => (s.S q).c) (fun q => (s.S q).sk) (some ⟨.normal, rS s 5 (w64 (i + 1)), .any⟩) (fun _ => none) none := by kernel_rfl
theorem r2_ret : evC Tryz.prog [] [kS Tryz.prog 49 (gO fk)] noL (loopAt Tryz.f22 1) (rS s 5 i) (finR [2] []) = rtC fk s i 49 s.nS (fun q => (s.S q).c) (fun q => (s.S q).sk) none (fun e => some ⟨.ret, rE e, .any⟩) none := by kernel_rfl
theorem r2_end : evC Tryz.prog [] [kS Tryz.prog 49 (gO fk)] noL (loopAt Tryz.f22 1) (rS s 5 i) (finE [1, 5] [some 0]) = rtC fk s i 49 s.nS (fun q => (s.S q).c) (fun q => (s.S q).sk) none (fun _ => none) (some ⟨.exit 2, rS s 5 i, .any⟩) := by kernel_rfl
theorem r3_step : evC Tryz.prog [] [kS Tryz.prog 50 (gO fk)] noL (loopAt Tryz.f22 2) (rS s 7 i) (finN [1, 7] [some 0]) = rtC fk s i 50 s.nO (fun q => (s.O q).c) (fun q => (s.O q).sk) (some ⟨.normal, rS s 7 (w64 (i + 1)), .any⟩) (fun _ => none) none := by kernel_rfl
theorem r3_ret : evC Tryz.prog [] [kS Tryz.prog 50 (gO fk)] noL (loopAt Tryz.f22 2) (rS s 7 i) (finR [2] []) = rtC fk s i 50 s.nO (fun q => (s.O q).c) (fun q => (s.O q).sk) none (fun e => some ⟨.ret, rE e, .any⟩) none := by kernel_rfl
theorem r3_end : evC Tryz.prog [] [kS Tryz.prog 50 (gO fk)] noL (loopAt Tryz.f22 2) (rS s 7 i) (finE [1, 7] [some 0]) = rtC fk s i 50 s.nO (fun q => (s.O q).c) (fun q => (s.O q).sk) none (fun _ => none) (some ⟨.exit 4, rS s 7 i, .any⟩) := by kernel_rfl
theorem r4_step : evC Tryz.prog [] [kS Tryz.prog 51 (gO fk)] noL (loopAt Tryz.f22 3) (rS s 9 i) (finN [1, 9] [some 0]) = rtC fk s i 51 s.nF (fun q => (s.F q).c) (fun q => (s.F q).sk) (some ⟨.normal, rS s 9 (w64 (i + 1)), .any⟩) (fun _ => none) none := by kernel_rfl
theorem r4_ret : evC Tryz.prog [] [kS Tryz.prog 51 (gO fk)] noL (loopAt Tryz.f22 3) (rS s 9 i) (finR [2] []) = rtC fk s i 51 s.nF (fun q => (s.F q).c) (fun q => (s.F q).sk) none (fun e => some ⟨.ret, rE e, .any⟩) none := by kernel_rfl
theorem r4_end : evC Tryz.prog [] [kS Tryz.prog 51 (gO fk)] noL (loopAt Tryz.f22 3) (rS s 9 i) (finE [1, 9] [some 0]) = rtC fk s i 51 s.nF (fun q => (s.F q).c) (fun q => (s.F q).sk) none (fun _ => none) (some ⟨.exit 6, rS s 9 i, .any⟩) := by kernel_rfl
theorem r5_step : evC Tryz.prog RL [] noL (loopAt Tryz.f22 4) (rS s 11 i) (finN [1, 11] [some 0]) = rlC s i (some ⟨.normal, rS s 11 (w64 (i + 1)), .any⟩) (fun _ => none) none := by kernel_rfl
theorem r5_ret : evC Tryz.prog RL [] noL (loopAt Tryz.f22 4) (rS s 11 i) (finR [2] []) = rlC s i none (fun e => some ⟨.ret, rE e, .any⟩) none := by kernel_rfl
theorem r5_end : evC Tryz.prog RL [] noL (loopAt Tryz.f22 4) (rS s 11 i) (finE [1, 11] [some 0]) = rlC s i none (fun _ => none) (some ⟨.exit 8, rS s 11 i, .any⟩) := by kernel_rfl
end
section
variable (s : Scn) (f1 f2 f3 f4 f5 : Nat → Int) (ey : Int)
noncomputable def rL : Nat → Option LFun := manyL [(4, mayT [1, 3] [some 0] (rS s 3) (.exit 0) rE f1 s.nK), (10, mayT [1, 5] [some 0] (rS s 5) (.exit 2) rE f2 s.nS), (18, mayT [1, 7] [some 0] (rS s 7) (.exit 4) rE f3 s.nO), (26, mayT [1, 9] [some 0] (rS s 9) (.exit 6) rE f4 s.nF), (34, mayT [1, 11] [some 0] (rS s 11) (.exit 8) rE f5 s.nL)]
theorem r_ev : ev Tryz.prog RL [kS Tryz.prog 54 (fun _ => iA ey)] (rL s f1 f2 f3 f4 f5) Tryz.f22 [.agg s.c] ret = cond (tmB s) (oI 4) (lpO f1 s.nK (rS s 3 0) (lpO f2 s.nS (rS s 5 0) (lpO f3 s.nO (rS s 7 0) (lpO f4 s.nF (rS s 9 0) (lpO f5 s.nL (rS s 11 0) (cond (!liB s.sky) (oI 6) (gate (FSpec Tryz.prog 54 [.agg (eyC s.eye)] (iA ey)) (oI ey)))))))) := by kernel_rfl
theorem r_ev0 : ev Tryz.prog RL [] (manyL [(4, fun _ _ => none), (10, fun _ _ => none), (18, fun _ _ => none), (26, fun _ _ => none), (34, fun _ _ => none)]) Tryz.f22 [.agg s.c] ret = cond (tmB s) (oI 4) none := by kernel_rfl
end
end Go.Proofs.YtngjiggplabfkaaGreat.Hs.Sc

namespace Go.Proofs.YtngjiggplabfkaaGreat.Hs.Sc
open Go.Gv So Fm
open Go.Ev (cn fadd fsub fmul fdiv fsqrt fneg feq flt fle fgt fge fabs isNan)

theorem rtC_t {f n : Nat} {c : Nat → List AV} {g : List AV → Int} {s : Scn} {sk : Nat → Int} {k : Nat} (hk : k < n) (h : FSpec Tryz.prog f [.agg (c k)] (iA (g (c k)))) (o : Option Out) (r : Int → Option Out) (oe : Option Out) : rtC g s (k : Nat) f n c sk o r oe = cond (weE (g (c k)) (sk k) s.nK == 0) o (r (weE (g (c k)) (sk k) s.nK)) := by
  unfold rtC weE
  rw [dec_lt hk, ixB_t hk, Int.toNat_natCast, gate_pos h]
  cases hg : g (c k) == 0
  · show r (g (c k)) = cond (g (c k) == 0) o (r (g (c k)))
    rw [hg]; rfl
  · cases decide (sk k ≥ (s.nK : Int)) <;> rfl
theorem rtC_e (f n : Nat) (c : Nat → List AV) (g : List AV → Int) (s : Scn) (sk : Nat → Int) (o : Option Out) (r : Int → Option Out) (oe : Option Out) : rtC g s (n : Nat) f n c sk o r oe = oe := by
  unfold rtC
  rw [dec_self, cond_false]
theorem rlC_t {s : Scn} {k : Nat} (hk : k < s.nL) (o : Option Out) (r : Int → Option Out) (oe : Option Out) : rlC s (k : Nat) o r oe = cond (eL s k == 0) o (r (eL s k)) := by
  unfold rlC eL lmE
  rw [dec_lt hk, ixB_t hk, Int.toNat_natCast]
  cases fineS (s.LA k 0) (s.LA k 1) (s.LA k 2) <;> cases liB (s.LL k) <;> rfl
section
variable {s : Scn}
theorem r1_sound (h : s.nK ≤ 1000) : LSound Tryz.prog (loopAt Tryz.f22 0) (mayT [1, 3] [some 0] (rS s 3) (.exit 0) rE (eK s) s.nK) := by
  refine mayT_sound (by simp) (fun k hk hb => ?_) (fun k hk hb => ?_) ?_
  · refine leads_ev (finN_sub _ _) e_nil k1_ok noL_ok ((r1_step fSk s (k : Nat)).trans ?_)
    rw [mlC_t hk (fSk_ok _).2, show fSk (skC (s.K k)) = 0 from hb, w64_next (by omega)]; rfl
  · refine leads_ev (finR_sub _ _) e_nil k1_ok noL_ok ((r1_ret fSk s (k : Nat)).trans ?_)
    rw [mlC_t hk (fSk_ok _).2, beq_false_of_ne (show fSk (skC (s.K k)) ≠ 0 from hb)]; rfl
  · exact leads_ev (finE_sub _ _) e_nil k1_ok noL_ok ((r1_end fSk s (s.nK : Nat)).trans (mlC_e _ _ _ _ _ _ _))
theorem r2_sound (h : s.nS ≤ 1000) : LSound Tryz.prog (loopAt Tryz.f22 1) (mayT [1, 5] [some 0] (rS s 5) (.exit 2) rE (eS s) s.nS) := by
  refine mayT_sound (by simp) (fun k hk hb => ?_) (fun k hk hb => ?_) ?_
  · refine leads_ev (finN_sub _ _) e_nil k1_ok noL_ok ((r2_step fSh s (k : Nat)).trans ?_)
    rw [rtC_t hk (fSh_ok _).2, show weE (fSh (s.S k).c) (s.S k).sk s.nK = 0 from hb, w64_next (by omega)]; rfl
  · refine leads_ev (finR_sub _ _) e_nil k1_ok noL_ok ((r2_ret fSh s (k : Nat)).trans ?_)
    rw [rtC_t hk (fSh_ok _).2, beq_false_of_ne (show weE (fSh (s.S k).c) (s.S k).sk s.nK ≠ 0 from hb)]; rfl
  · exact leads_ev (finE_sub _ _) e_nil k1_ok noL_ok ((r2_end fSh s (s.nS : Nat)).trans (rtC_e _ _ _ _ _ _ _ _ _))
theorem r3_sound (h : s.nO ≤ 1000) : LSound Tryz.prog (loopAt Tryz.f22 2) (mayT [1, 7] [some 0] (rS s 7) (.exit 4) rE (eO s) s.nO) := by
  refine mayT_sound (by simp) (fun k hk hb => ?_) (fun k hk hb => ?_) ?_
  · refine leads_ev (finN_sub _ _) e_nil k1_ok noL_ok ((r3_step fSo s (k : Nat)).trans ?_)
    rw [rtC_t hk (fSo_ok _).2, show weE (fSo (s.O k).c) (s.O k).sk s.nK = 0 from hb, w64_next (by omega)]; rfl
  · refine leads_ev (finR_sub _ _) e_nil k1_ok noL_ok ((r3_ret fSo s (k : Nat)).trans ?_)
    rw [rtC_t hk (fSo_ok _).2, beq_false_of_ne (show weE (fSo (s.O k).c) (s.O k).sk s.nK ≠ 0 from hb)]; rfl
  · exact leads_ev (finE_sub _ _) e_nil k1_ok noL_ok ((r3_end fSo s (s.nO : Nat)).trans (rtC_e _ _ _ _ _ _ _ _ _))
theorem r4_sound (h : s.nF ≤ 1000) : LSound Tryz.prog (loopAt Tryz.f22 3) (mayT [1, 9] [some 0] (rS s 9) (.exit 6) rE (eF s) s.nF) := by
  refine mayT_sound (by simp) (fun k hk hb => ?_) (fun k hk hb => ?_) ?_
  · refine leads_ev (finN_sub _ _) e_nil k1_ok noL_ok ((r4_step fFd s (k : Nat)).trans ?_)
    rw [rtC_t hk (fFd_ok _).1.2, show weE (fFd (s.F k).c) (s.F k).sk s.nK = 0 from hb, w64_next (by omega)]; rfl
  · refine leads_ev (finR_sub _ _) e_nil k1_ok noL_ok ((r4_ret fFd s (k : Nat)).trans ?_)
    rw [rtC_t hk (fFd_ok _).1.2, beq_false_of_ne (show weE (fFd (s.F k).c) (s.F k).sk s.nK ≠ 0 from hb)]; rfl
  · exact leads_ev (finE_sub _ _) e_nil k1_ok noL_ok ((r4_end fFd s (s.nF : Nat)).trans (rtC_e _ _ _ _ _ _ _ _ _))
theorem r5_sound (h : s.nL ≤ 1000) : LSound Tryz.prog (loopAt Tryz.f22 4) (mayT [1, 11] [some 0] (rS s 11) (.exit 8) rE (eL s) s.nL) := by
  refine mayT_sound (by simp) (fun k hk hb => ?_) (fun k hk hb => ?_) ?_
  · refine leads_ev (finN_sub _ _) RL_ok k_nil noL_ok ((r5_step s (k : Nat)).trans ?_)
    rw [rlC_t hk, hb, w64_next (by omega)]; rfl
  · refine leads_ev (finR_sub _ _) RL_ok k_nil noL_ok ((r5_ret s (k : Nat)).trans ?_)
    rw [rlC_t hk, beq_false_of_ne hb]; rfl
  · refine leads_ev (finE_sub _ _) RL_ok k_nil noL_ok ((r5_end s (s.nL : Nat)).trans ?_)
    unfold rlC
    rw [dec_self, cond_false]
end
theorem rsc_spec (s : Scn) : FSpec Tryz.prog 22 [.agg s.c] (iA (scE s)) := by
  cases ht : tmB s
  · obtain ⟨a1, a2, a3, a4, a5⟩ := tm_few s ht
    refine gspec RL_ok k1_ok Tryz.func22 (by kernel_rfl) (by kernel_rfl) (lok_cons (lok_at 0 5 (by kernel_rfl) (by kernel_rfl) (r1_sound (by omega))) (lok_cons (lok_at 1 5 (by kernel_rfl) (by kernel_rfl) (r2_sound (by omega))) (lok_cons (lok_at 2 5 (by kernel_rfl) (by kernel_rfl) (r3_sound (by omega))) (lok_cons (lok_at 3 5 (by kernel_rfl) (by kernel_rfl) (r4_sound (by omega))) (lok_cons (lok_at 4 5 (by kernel_rfl) (by kernel_rfl) (r5_sound (by omega))) lok_nil))))) rfl ((r_ev s (eK s) (eS s) (eO s) (eF s) (eL s) (eyE s.eye)).trans ?_)
    rw [gate_pos (rey_spec _), lpO_t, lpO_t, lpO_t, lpO_t, lpO_t, ht]
    unfold scE
    rw [ht]
    cases hk : seqE (eK s) s.nK == 0
    · rfl
    · unfold thE
      cases h1 : seqE (eS s) s.nS == 0
      · show oI (seqE (eS s) s.nS) = some (Out.of (iA (cond (seqE (eS s) s.nS == 0) _ (seqE (eS s) s.nS))))
        rw [h1]; rfl
      · cases h2 : seqE (eO s) s.nO == 0
        · show oI (seqE (eO s) s.nO) = some (Out.of (iA (cond (seqE (eO s) s.nO == 0) _ (seqE (eO s) s.nO))))
          rw [h2]; rfl
        · cases h3 : seqE (eF s) s.nF == 0
          · show oI (seqE (eF s) s.nF) = some (Out.of (iA (cond (seqE (eF s) s.nF == 0) _ (seqE (eF s) s.nF))))
            rw [h3]; rfl
          · have h3' := eq_of_beq h3
            show cond (seqE (eL s) s.nL == 0) _ _ = some (Out.of (iA (cond (seqE (eF s) s.nF == 0) _ _)))
            rw [h3']
            cases hl : seqE (eL s) s.nL == 0
            · rfl
            · cases liB s.sky <;> rfl
  · have e : scE s = 4 := by unfold scE; rw [ht]; rfl
    rw [e]
    refine gspec RL_ok k_nil Tryz.func22 (by kernel_rfl) (by kernel_rfl) (lok_cons (lok_none 4) (lok_cons (lok_none 10) (lok_cons (lok_none 18) (lok_cons (lok_none 26) (lok_cons (lok_none 34) lok_nil))))) rfl ((r_ev0 s).trans ?_)
    rw [ht]; rfl
end Go.Proofs.YtngjiggplabfkaaGreat.Hs.Sc
