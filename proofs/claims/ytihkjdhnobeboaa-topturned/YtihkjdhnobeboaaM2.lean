/-
  Tt1 Tt2 Fb Tt3 Wc1 Wc2 Cf1 Cf2 Wc3 Wc4, one behind the other.
-/
import Derived.Test.YtihkjdhnobeboaaM1
import Derived.Test.YtihkjdhnobeboaaSfT
import Derived.Test.YtihkjdhnobeboaaGu
namespace Go.Proofs.Ytihkjdhnobeboaa
open Go.Gv

def svR (N : Nat) (g : Nat → Int) : List Row := [.a 5 1 N fun i => [yA (g i)]]
def svT (N : Nat) : AV := .tup [.osl 0 1 0 N, iA 0]
abbrev SNok (f : Flm) (N : Nat) (g : Nat → Int) : Prop := GSpec Try.prog 6 [.agg f.c] [] (svT N) (svR N g)
abbrev LF : Type := Nat → (Nat → List AV) → Flm
abbrev LE : Type := Nat → (Nat → List AV) → Int
def ldG (lf : LF) (le : LE) : List AV → AV
  | [.sl _ n el] => fOut (lf n el) (le n el)
  | _ => .any
abbrev LNok (lf : LF) (le : LE) (n : Nat) (el : Nat → List AV) : Prop := FreshSpec Try.prog 7 [.sl 1 n el] (fOut (lf n el) (le n el))
abbrev SFT (a : List AV) (b : List AV) : Prop := FSpec Try.prog 8 [.agg a, .agg b] (bA true)
def xr8 (a b : Int) : Int := IntKind.u8.wrap ((BitVec.ofInt IntKind.u8.bits a ^^^ BitVec.ofInt IntKind.u8.bits b).toNat : Int)
def ptY (g : Nat → Int) (q : Nat) (v : Int) (j : Nat) : List AV := mixL (j == q) [yA v] [yA (g j)]
def owY (i : Int) (n : Nat) : Bool := (ixB i n || false) && ((Nat.blt (0 + i.toNat) n || false) && ((ixB i n || false) && ((Nat.blt (0 + i.toNat) n || false) && true)))
def el0 (g : Nat → Int) (i : Nat) : List AV := [yA (g (0 + i))]
section
variable (pf : Int → Int → Int) (ff : FF) (lf : LF) (le : LE) (N : Nat) (g : Nat → Int) (n : Nat) (hs : Nat → Int) (w h a b : Int)
def ttV : Int := xr8 (g (0 + (pf a (N : Int)).toNat)) (IntKind.u8.wrap (w64 (1 + pf b 255)))
def el2 (i : Nat) : List AV := ptY g (0 + (pf a (N : Int)).toNat) (ttV pf N g a b) (0 + i)
noncomputable def ttR (A : Flm) : Option Out :=
  cond ((propB (SNok A N g) && true) || false) (cond (ssB (LNok lf le N (el0 g)) N) (gate (SFT A.c (lf N (el0 g)).c) (cond (cond (cond (cond (!((0 : Int) == 0)) true (!(le N (el0 g) == 0))) true (!true)) true ((N : Int) == 0)) (some (Out.of (bA false)))
    (cond (!((N : Int) == 0)) (cond (owY (pf a (N : Int)) N) (cond (ssB (LNok lf le N (el2 pf N g a b)) N) (gate (SFT (lf N (el2 pf N g a b)).c flmZ) (some (Out.of (bA (cond (!(le N (el2 pf N g a b) == 0)) true false))))) none) none) none))) none) none
theorem tt_ev : evM Try.prog [] [kPick pf, kS Try.prog 4 (ffG ff), kS Try.prog 8 fun _ => bA true] [mN Try.prog 6 (fun _ => svT N) (fun _ => svR N g), mF Try.prog 7 (ldG lf le)] noL Try.f3 [rsl n hs, iA w, iA h, iA a, iA b] ret =
    cond (decide ((n : Int) > 256)) (some (Out.of (bA true))) (gate (FOok ff n hs (w1 pf w 4) (w1 pf h 4)) (ttR pf lf le N g a b (ff n (rEl hs) (w1 pf w 4) (w1 pf h 4)))) := by kernel_rfl
end
end Go.Proofs.Ytihkjdhnobeboaa

namespace Go.Proofs.Ytihkjdhnobeboaa
open Go.Gv

theorem ofInt_inj {a b : Int} (h : BitVec.ofInt 32 a = BitVec.ofInt 32 b) (a0 : 0 ≤ a) (a1 : a ≤ 4294967295) (b0 : 0 ≤ b) (b1 : b ≤ 4294967295) : a = b := by
  have := congrArg BitVec.toNat h
  rw [BitVec.toNat_ofInt, BitVec.toNat_ofInt] at this
  have e : ((2 ^ 32 : Nat) : Int) = 4294967296 := rfl
  rw [e] at this
  omega
theorem xr_rng (a b : Int) : 0 ≤ xr a b ∧ xr a b ≤ 4294967295 := by unfold xr; rw [wrap_u32]; omega
theorem xr_bv (a b : Int) : BitVec.ofInt 32 (xr a b) = BitVec.ofInt 32 a ^^^ BitVec.ofInt 32 b := by
  apply BitVec.eq_of_toNat_eq
  rw [BitVec.toNat_ofInt]
  unfold xr
  rw [wrap_u32]
  have e : ((2 ^ 32 : Nat) : Int) = 4294967296 := rfl
  have hl : (BitVec.ofInt 32 a ^^^ BitVec.ofInt 32 b).toNat < 4294967296 := (BitVec.ofInt 32 a ^^^ BitVec.ofInt 32 b).isLt
  rw [e]
  show (((((BitVec.ofInt 32 a ^^^ BitVec.ofInt 32 b).toNat : Nat) : Int) % 4294967296) % 4294967296).toNat = _
  omega
theorem xr_left {a a' b : Int} (h : xr a b = xr a' b) (a0 : 0 ≤ a) (a1 : a ≤ 4294967295) (b0 : 0 ≤ a') (b1 : a' ≤ 4294967295) : a = a' := by
  have e := congrArg (BitVec.ofInt 32) h
  rw [xr_bv, xr_bv] at e
  have e2 : (BitVec.ofInt 32 a ^^^ BitVec.ofInt 32 b) ^^^ BitVec.ofInt 32 b = (BitVec.ofInt 32 a' ^^^ BitVec.ofInt 32 b) ^^^ BitVec.ofInt 32 b := by rw [e]
  rw [BitVec.xor_assoc, BitVec.xor_assoc, BitVec.xor_self, BitVec.xor_zero, BitVec.xor_zero] at e2
  exact ofInt_inj e2 a0 a1 b0 b1
theorem xr_right {a b b' : Int} (h : xr a b = xr a b') (a0 : 0 ≤ b) (a1 : b ≤ 4294967295) (b0 : 0 ≤ b') (b1 : b' ≤ 4294967295) : b = b' := by
  have e := congrArg (BitVec.ofInt 32) h
  rw [xr_bv, xr_bv] at e
  have e2 : BitVec.ofInt 32 a ^^^ (BitVec.ofInt 32 a ^^^ BitVec.ofInt 32 b) = BitVec.ofInt 32 a ^^^ (BitVec.ofInt 32 a ^^^ BitVec.ofInt 32 b') := by rw [e]
  rw [← BitVec.xor_assoc, ← BitVec.xor_assoc, BitVec.xor_self, BitVec.zero_xor, BitVec.zero_xor] at e2
  exact ofInt_inj e2 a0 a1 b0 b1
theorem inv_mul (z : Int) : ((z * 16777619) % 4294967296 * 899433627) % 4294967296 = z % 4294967296 := by
  rw [Int.mul_emod, Int.emod_emod, ← Int.mul_emod, Int.mul_assoc, Int.mul_emod, show ((16777619 * 899433627 : Int) % 4294967296) = 1 from by decide, Int.mul_one, Int.emod_emod]
theorem mul_inj {x y : Int} (h : (x * 16777619) % 4294967296 = (y * 16777619) % 4294967296) (x0 : 0 ≤ x) (x1 : x ≤ 4294967295) (y0 : 0 ≤ y) (y1 : y ≤ 4294967295) : x = y := by
  have key : ∀ z : Int, 0 ≤ z → z ≤ 4294967295 → ((z * 16777619) % 4294967296 * 899433627) % 4294967296 = z := fun z z0 z1 => by
    rw [inv_mul z]
    exact Int.emod_eq_of_lt z0 (by omega)
  rw [← key x x0 x1, ← key y y0 y1, h]
theorem suT_left {h h' b : Int} (e : suT h b = suT h' b) (a0 : 0 ≤ h) (a1 : h ≤ 4294967295) (b0 : 0 ≤ h') (b1 : h' ≤ 4294967295) : h = h' := by
  unfold suT at e
  rw [wrap_u32 (xr h (IntKind.u32.wrap b) * 16777619), wrap_u32 (xr h' (IntKind.u32.wrap b) * 16777619)] at e
  obtain ⟨p, q⟩ := xr_rng h (IntKind.u32.wrap b)
  obtain ⟨r, s⟩ := xr_rng h' (IntKind.u32.wrap b)
  exact xr_left (mul_inj e p q r s) a0 a1 b0 b1
theorem suT_right {h b b' : Int} (e : suT h b = suT h b') (a0 : 0 ≤ b) (a1 : b ≤ 255) (b0 : 0 ≤ b') (b1 : b' ≤ 255) : b = b' := by
  unfold suT at e
  rw [wrap_u32 (xr h (IntKind.u32.wrap b) * 16777619), wrap_u32 (xr h (IntKind.u32.wrap b') * 16777619)] at e
  obtain ⟨p, q⟩ := xr_rng h (IntKind.u32.wrap b)
  obtain ⟨r, s⟩ := xr_rng h (IntKind.u32.wrap b')
  have e2 := mul_inj e p q r s
  rw [wrap_u32, wrap_u32] at e2
  have := xr_right e2 (by omega) (by omega) (by omega) (by omega)
  omega
/-- One byte turned, another sum. -/
theorem suV_ne {g g' : Nat → Int} {p : Nat} (hb : 0 ≤ g p ∧ g p ≤ 255) (hb' : 0 ≤ g' p ∧ g' p ≤ 255) (hne : g p ≠ g' p) (hs : ∀ i, i ≠ p → g i = g' i) : ∀ k, p < k → suV g k ≠ suV g' k
  | 0, hk => by omega
  | k + 1, hk => by
    intro e
    have e : suT (suV g k) (g k) = suT (suV g' k) (g' k) := e
    by_cases h : k = p
    · subst h
      rw [suV_congr (g := g) (g' := g') (k := k) fun i hi => hs i (by omega)] at e
      exact hne (suT_right e hb.1 hb.2 hb'.1 hb'.2)
    · rw [hs k h] at e
      obtain ⟨a, b⟩ := suV_rng g k
      obtain ⟨c, d⟩ := suV_rng g' k
      exact suV_ne hb hb' hne hs k (by omega) (suT_left e a b c d)
/-- One byte turned, another number. -/
theorem nb4_val {g : Nat → Int} (h : ∀ c, c < 4 → 0 ≤ g c ∧ g c ≤ 255) : nbV g 4 = ((g 0 * 256 + g 1) * 256 + g 2) * 256 + g 3 := by
  obtain ⟨x0, y0⟩ := h 0 (by omega)
  obtain ⟨x1, y1⟩ := h 1 (by omega)
  obtain ⟨x2, y2⟩ := h 2 (by omega)
  obtain ⟨x3, y3⟩ := h 3 (by omega)
  have a0 : nbV g 0 = 0 := rfl
  have a1 := nbV_step a0 (rfl : g 0 = g 0) (by omega) (by omega) x0 y0
  have a2 := nbV_step a1 (rfl : g 1 = g 1) (by omega) (by omega) x1 y1
  have a3 := nbV_step a2 (rfl : g 2 = g 2) (by omega) (by omega) x2 y2
  have a4 := nbV_step a3 (rfl : g 3 = g 3) (by omega) (by omega) x3 y3
  rw [a4]
  omega
theorem nb4_ne {g g' : Nat → Int} (h : ∀ c, c < 4 → 0 ≤ g c ∧ g c ≤ 255) (h' : ∀ c, c < 4 → 0 ≤ g' c ∧ g' c ≤ 255) {p : Nat} (hp : p < 4) (hne : g p ≠ g' p) : nbV g 4 ≠ nbV g' 4 := by
  rw [nb4_val h, nb4_val h']
  obtain ⟨x0, y0⟩ := h 0 (by omega)
  obtain ⟨x1, y1⟩ := h 1 (by omega)
  obtain ⟨x2, y2⟩ := h 2 (by omega)
  obtain ⟨x3, y3⟩ := h 3 (by omega)
  obtain ⟨u0, v0⟩ := h' 0 (by omega)
  obtain ⟨u1, v1⟩ := h' 1 (by omega)
  obtain ⟨u2, v2⟩ := h' 2 (by omega)
  obtain ⟨u3, v3⟩ := h' 3 (by omega)
  have : p = 0 ∨ p = 1 ∨ p = 2 ∨ p = 3 := by omega
  rcases this with rfl | rfl | rfl | rfl <;> omega
def turnG (g : Nat → Int) (p : Nat) (v : Int) (j : Nat) : Int := if j = p then v else g j
theorem turnG_at (g : Nat → Int) (p : Nat) (v : Int) : turnG g p v p = v := by unfold turnG; rw [if_pos rfl]
theorem turnG_ne (g : Nat → Int) {p j : Nat} (v : Int) (h : j ≠ p) : turnG g p v j = g j := by unfold turnG; rw [if_neg h]
theorem turned_seen {f : Flm} (h : fmay f = 0) {p : Nat} (hp : p < svN f + 4) {v : Int} (v0 : 0 ≤ v) (v1 : v ≤ 255) (hne : svF f p ≠ v) : ldE (svN f + 4) (turnG (svF f) p v) ≠ 0 := by
  have mg := mg_of h
  obtain ⟨a, b, c, d⟩ := fbad_false mg.b
  have hM := mulB (x := f.W) (y := f.H) (X := 64) (Y := 64) (by omega) b (by omega) d
  have hM1 := mulB (x := 1) (y := f.H) (X := f.W) (Y := f.H) (by omega) a (by omega) (by omega)
  have hn := mg.n; have hm := mg.m
  have hN : svN f = 21 * f.m + 6 := by unfold svN; omega
  have hd : ∀ i, i < 6 → svF f i = hdF f i := fun i hi => by rw [svF_in (by omega)]; unfold sv0; rw [if_pos hi]
  have g4 : svF f 4 = f.W := by rw [hd 4 (by omega)]; exact u8_id (by omega) (by omega)
  have g5 : svF f 5 = f.H := by rw [hd 5 (by omega)]; exact u8_id (by omega) (by omega)
  have hr : ∀ j, 0 ≤ turnG (svF f) p v j ∧ turnG (svF f) p v j ≤ 255 := fun j => by
    by_cases e : j = p
    · subst e; rw [turnG_at]; exact ⟨v0, v1⟩
    · rw [turnG_ne _ _ e]; exact svF_rng j
  unfold ldE
  rw [decide_eq_false (show ¬ svN f + 4 < 6 by omega)]
  simp only [cond_false]
  by_cases h4 : p < 4
  · have hmg : mg3 (turnG (svF f) p v) = true := by
      have t : ∀ i, i ≠ p → turnG (svF f) p v i = svF f i := fun i hi => turnG_ne _ _ hi
      have hp4 : p = 0 ∨ p = 1 ∨ p = 2 ∨ p = 3 := by omega
      have hne' : hdF f p ≠ v := by rw [← hd p (by omega)]; exact hne
      unfold mg3 mg2 mg1 mg0
      rcases hp4 with rfl | rfl | rfl | rfl
      · rw [turnG_at, beq_false_of_ne (show v ≠ 82 from fun e => hne' e.symm)]; rfl
      · rw [turnG_at, beq_false_of_ne (show v ≠ 72 from fun e => hne' e.symm)]
        cases turnG (svF f) 1 v 0 == 82 <;> rfl
      · rw [turnG_at, beq_false_of_ne (show v ≠ 70 from fun e => hne' e.symm)]
        cases turnG (svF f) 2 v 0 == 82 <;> cases turnG (svF f) 2 v 1 == 72 <;> rfl
      · rw [turnG_at, beq_false_of_ne (show v ≠ 49 from fun e => hne' e.symm)]
        cases turnG (svF f) 3 v 0 == 82 <;> cases turnG (svF f) 3 v 1 == 72 <;> cases turnG (svF f) 3 v 2 == 70 <;> rfl
    rw [hmg]
    exact (by decide : (11 : Int) ≠ 0)
  cases hmg : mg3 (turnG (svF f) p v)
  · simp only [cond_false]
    cases hb : fbad (turnG (svF f) p v 4) (turnG (svF f) p v 5)
    · simp only [cond_false]
      obtain ⟨a', b', c', d'⟩ := fbad_false hb
      by_cases h6 : p < 6
      · have hP : ldP (turnG (svF f) p v) ≠ f.m := by
          unfold ldP
          have hp5 : p = 4 ∨ p = 5 := by omega
          rcases hp5 with rfl | rfl
          · rw [turnG_at] at a' b' ⊢
            rw [turnG_ne _ _ (show (5 : Nat) ≠ 4 by omega), g5]
            rw [g4] at hne
            intro e
            have hx := mulB (x := v) (y := f.H) (X := 64) (Y := 64) (by omega) b' (by omega) d
            have e2 : v * f.H = f.W * f.H := by omega
            exact hne (Int.eq_of_mul_eq_mul_right (by omega) e2).symm
          · rw [turnG_at] at c' d' ⊢
            rw [turnG_ne _ _ (show (4 : Nat) ≠ 5 by omega), g4]
            rw [g5] at hne
            intro e
            have hx := mulB (x := f.W) (y := v) (X := 64) (Y := 64) (by omega) b (by omega) d'
            have e2 : f.W * v = f.W * f.H := by omega
            exact hne (Int.eq_of_mul_eq_mul_left (by omega) e2).symm
        by_cases hlt : svN f + 4 < 21 * ldP (turnG (svF f) p v) + 10
        · rw [decide_eq_true hlt]; exact (by decide : (8 : Int) ≠ 0)
        · rw [decide_eq_false hlt, decide_eq_true (show svN f + 4 > 21 * ldP (turnG (svF f) p v) + 10 by omega)]
          exact (by decide : (5 : Int) ≠ 0)
      · have hP : ldP (turnG (svF f) p v) = f.m := by
          unfold ldP
          rw [turnG_ne _ _ (show (4 : Nat) ≠ p by omega), turnG_ne _ _ (show (5 : Nat) ≠ p by omega), g4, g5]
          omega
        rw [hP, decide_eq_false (show ¬ svN f + 4 < 21 * f.m + 10 by omega), decide_eq_false (show ¬ svN f + 4 > 21 * f.m + 10 by omega)]
        simp only [cond_false]
        have hS : ldS (svN f + 4) (turnG (svF f) p v) = false := by
          unfold ldS
          rw [show svN f + 4 - 4 = svN f by omega]
          have hsr := suV_rng (sv0 f) (svN f)
          have e1 : suV (svF f) (svN f) = suV (sv0 f) (svN f) := suV_congr fun i hi => svF_in hi
          have e2 : nbV (fun c => svF f (svN f + c)) 4 = suV (sv0 f) (svN f) := nb4 hsr.1 hsr.2 fun c hc => by
            show svF f (svN f + c) = _
            unfold svF
            rw [if_neg (by omega), show svN f + c - svN f = c by omega, svC_eq]
          have hsr' := suV_rng (turnG (svF f) p v) (svN f)
          rw [w64_id (by omega) (by omega)]
          refine beq_false_of_ne ?_
          by_cases hpn : p < svN f
          · have e3 : nbV (fun c => turnG (svF f) p v (svN f + c)) 4 = nbV (fun c => svF f (svN f + c)) 4 := by
              congr 1
              funext c
              exact turnG_ne _ _ (by omega)
            rw [e3, e2, ← e1]
            exact suV_ne (g := svF f) (g' := turnG (svF f) p v) (p := p) (svF_rng p) (hr p) (by rw [turnG_at]; exact hne) (fun i hi => (turnG_ne _ _ hi).symm) (svN f) hpn
          · have e3 : suV (turnG (svF f) p v) (svN f) = suV (svF f) (svN f) := suV_congr fun i hi => turnG_ne _ _ (by omega)
            rw [e3, e1, ← e2]
            refine fun e => nb4_ne (g := fun c => svF f (svN f + c)) (g' := fun c => turnG (svF f) p v (svN f + c)) (fun c _ => svF_rng _) (fun c _ => hr _) (p := p - svN f) (by omega) ?_ e.symm
            show svF f (svN f + (p - svN f)) ≠ turnG (svF f) p v (svN f + (p - svN f))
            rw [show svN f + (p - svN f) = p by omega, turnG_at]
            exact hne
        rw [hS]
        exact (by decide : (12 : Int) ≠ 0)
    · exact (by decide : (4 : Int) ≠ 0)
  · exact (by decide : (11 : Int) ≠ 0)
end Go.Proofs.Ytihkjdhnobeboaa

namespace Go.Proofs.Ytihkjdhnobeboaa
open Go.Gv

/-- A film that may be, with so much light and so many shots at most. -/
structure FB (f : Flm) (K S : Int) (wd ht : Nat) : Prop where
  W : f.W = (wd : Int)
  H : f.H = (ht : Int)
  w1 : 1 ≤ wd
  w64 : wd ≤ 64
  h1 : 1 ≤ ht
  h64 : ht ≤ 64
  n : f.n = 3 * (wd * ht)
  m : f.m = wd * ht
  lt : ∀ i, i < f.n → 0 ≤ f.lt i ∧ f.lt i ≤ K
  sh : ∀ i, i < f.m → 0 ≤ f.sh i ∧ f.sh i ≤ S
theorem ofB_in {x most : Int} (h0 : 0 ≤ x) (h1 : x ≤ most) : ofB x most = false := by
  unfold ofB
  rw [decide_eq_false (show ¬ x < 0 by omega), decide_eq_false (show ¬ x > most by omega)]
  rfl
theorem fb_may {f : Flm} {K S : Int} {wd ht : Nat} (h : FB f K S wd ht) (hK : K ≤ 1099511627776) (hS : S ≤ 1048576) : fmay f = 0 := by
  have h1 := h.w1; have h2 := h.w64; have h3 := h.h1; have h4 := h.h64
  have hn : wd * ht ≤ 64 * 64 := Nat.mul_le_mul h2 h4
  have e1 : (wd : Int) * (ht : Int) = ((wd * ht : Nat) : Int) := by rw [Int.natCast_mul]
  have b1 : fbad f.W f.H = false := by
    unfold fbad
    rw [h.W, h.H, decide_eq_false (show ¬ (wd : Int) < 1 by omega), decide_eq_false (show ¬ (ht : Int) < 1 by omega), decide_eq_false (show ¬ (wd : Int) > 64 by omega), decide_eq_false (show ¬ (ht : Int) > 64 by omega)]
    rfl
  have b2 : fcnt f = false := by
    unfold fcnt
    rw [h.W, h.H, h.n, h.m, w64_id (n := 3 * (wd : Int)) (by omega) (by omega), Int.mul_assoc, e1, w64_id (n := 3 * ((wd * ht : Nat) : Int)) (by omega) (by omega), w64_id (n := ((wd * ht : Nat) : Int)) (by omega) (by omega)]
    have e2 : ((3 * (wd * ht) : Nat) : Int) = 3 * ((wd * ht : Nat) : Int) := by omega
    rw [e2, BEq.rfl, BEq.rfl]
    rfl
  have b3 : fval f = true := by
    unfold fval
    rw [allI_t fun i hi => ?_, allI_t fun i hi => ?_]
    · rfl
    · obtain ⟨a, b⟩ := h.sh i hi
      rw [ofB_in a (by omega)]; rfl
    · obtain ⟨a, b⟩ := h.lt i hi
      rw [ofB_in a (by omega)]; rfl
  unfold fmay
  rw [b1, b2, b3]
  rfl
theorem pk_rng {n : Nat} {c : Int} (h : ∃ m : Nat, pk0 c = m) (hn : 0 < n) : 0 ≤ pk c n ∧ pk c n < n := by
  obtain ⟨m, hm⟩ := h
  unfold pk
  rw [hm, ← Int.ofNat_tmod]
  have := Nat.mod_lt m hn
  omega
theorem w64_wf (n : Int) : (Lit.int .i64 (w64 n)).wf = true := by
  have h : -9223372036854775808 ≤ w64 n ∧ w64 n ≤ 9223372036854775807 := by unfold w64; rw [IntKind.wrap_i64]; omega
  simp [Lit.wf, IntKind.min, IntKind.max, IntKind.signed, IntKind.bits]
  omega
theorem rawV_wf {n : Nat} {hs : Nat → Int} (h : ∀ i, i < n → (Lit.int .i64 (hs i)).wf = true) (k : Nat) : (Lit.int .i64 (rawV n hs (k : Nat))).wf = true := by
  unfold rawV
  by_cases h0 : n = 0
  · subst h0; rfl
  · rw [beq_false_of_ne (show ((n : Nat) : Int) ≠ 0 by omega), cond_false, ← Int.ofNat_tmod, Int.toNat_natCast]
    exact h _ (Nat.mod_lt _ (by omega))
theorem mflm_fb {n : Nat} {hs : Nat → Int} (h : ∀ i, i < n → (Lit.int .i64 (hs i)).wf = true) {wd ht : Nat} (w1 : 1 ≤ wd) (w2 : wd ≤ 64) (h1 : 1 ≤ ht) (h2 : ht ≤ 64) : FB (mflm n hs wd ht) 300000 6 wd ht := by
  have hn : wd * ht ≤ 64 * 64 := Nat.mul_le_mul w2 h2
  refine ⟨rfl, rfl, w1, w2, h1, h2, rfl, rfl, fun i hi => ?_, fun i hi => ?_⟩
  · show 0 ≤ flt n hs i ∧ flt n hs i ≤ 300000
    unfold flt foN
    obtain ⟨k, e, hk⟩ := pk_nat (n := 300000) (w64_wf (rawV n hs (poK ((i / 3 : Nat) : Int) ((i % 3 : Nat) : Int)) * 4099)) (by omega)
    have e : pk (w64 (rawV n hs (poK ((i / 3 : Nat) : Int) ((i % 3 : Nat) : Int)) * 4099)) 300000 = k := e
    rw [e]; omega
  · show 0 ≤ fsh n hs i ∧ fsh n hs i ≤ 6
    have hi : i < wd * ht := hi
    unfold fsh foC
    have ek : poK ((i : Nat) : Int) 3 = ((4 * i + 3 : Nat) : Int) := by
      unfold poK
      rw [w64_id (n := 4 * _) (by omega) (by omega), w64_id (by omega) (by omega)]; omega
    obtain ⟨k, e, hk⟩ := pk_nat (n := 6) (rawV_wf h (4 * i + 3)) (by omega)
    have e : pk (rawV n hs ((4 * i + 3 : Nat) : Int)) 6 = k := e
    rw [ek, e]; omega
end Go.Proofs.Ytihkjdhnobeboaa

namespace Go.Proofs.Ytihkjdhnobeboaa
open Go.Gv

structure TurnOk : Prop where
  save : ∀ f : Flm, fmay f = 0 → SNok f (svN f + 4) (svF f)
  load : ∀ (n : Nat) (g : Nat → Int), (∀ i, i < n → 0 ≤ g i ∧ g i ≤ 255) → FreshSpec Try.prog 7 [sB n g] (fOut (ldO n g) (ldE n g))
noncomputable def lfE : LF := fun n el => ldO n fun i => u8Of' (el i)
noncomputable def leE : LE := fun n el => ldE n fun i => u8Of' (el i)
theorem xr8_rng (a b : Int) : 0 ≤ xr8 a b ∧ xr8 a b ≤ 255 := by unfold xr8; rw [wrap_u8]; omega
theorem xr8_ne {a b : Int} (a0 : 0 ≤ a) (a1 : a ≤ 255) (b0 : 1 ≤ b) (b1 : b ≤ 255) : a ≠ xr8 a b := by
  intro h
  unfold xr8 at h
  rw [wrap_u8] at h
  have hl : (BitVec.ofInt IntKind.u8.bits a ^^^ BitVec.ofInt IntKind.u8.bits b).toNat < 256 := (BitVec.ofInt IntKind.u8.bits a ^^^ BitVec.ofInt IntKind.u8.bits b).isLt
  have e : ((2 ^ 8 : Nat) : Int) = 256 := rfl
  have ha : (BitVec.ofInt 8 a).toNat = a.toNat := by rw [BitVec.toNat_ofInt, e]; omega
  have hx : BitVec.ofInt 8 a ^^^ BitVec.ofInt 8 b = BitVec.ofInt 8 a := by
    apply BitVec.eq_of_toNat_eq
    rw [ha]
    have h2 : a = ((BitVec.ofInt 8 a ^^^ BitVec.ofInt 8 b).toNat : Int) % 256 := h
    have hl2 : (BitVec.ofInt 8 a ^^^ BitVec.ofInt 8 b).toNat < 256 := hl
    omega
  have h3 : BitVec.ofInt 8 a ^^^ (BitVec.ofInt 8 a ^^^ BitVec.ofInt 8 b) = BitVec.ofInt 8 a ^^^ BitVec.ofInt 8 a := by rw [hx]
  rw [← BitVec.xor_assoc, BitVec.xor_self, BitVec.zero_xor] at h3
  have h4 := congrArg BitVec.toNat h3
  rw [BitVec.toNat_ofInt, e] at h4
  have h5 : (0#8).toNat = 0 := rfl
  rw [h5] at h4
  omega
theorem sft_zero : SFT zF.c flmZ := by
  refine FSpec.of_args (sft_self (f := zF) (by decide) (by decide)) fun E vs h => ?_
  obtain ⟨u0, t0, e0, r0, h⟩ := rels_cons.1 h
  obtain ⟨u1, t1, e1, r1, h⟩ := rels_cons.1 h
  exact rels_cons.2 ⟨u0, t0, e0, r0, rels_cons.2 ⟨u1, t1, e1, zF_like r1, h⟩⟩
theorem ssB_t {p : Prop} {N : Nat} (h : p) (hN : 0 < N) : ssB p N = true := by unfold ssB; rw [propB_t h, ble_t (by omega), blt_t (by omega)]; rfl
theorem owY_t {q N : Nat} (h : q < N) : owY (q : Nat) N = true := by
  unfold owY
  rw [ixB_t h, Int.toNat_natCast, blt_t (by omega)]
  rfl
theorem load_el (ok : TurnOk) {n : Nat} {el : Nat → List AV} {g : Nat → Int} (he : el = fun i => [yA (g i)]) (hg : ∀ i, i < n → 0 ≤ g i ∧ g i ≤ 255) : LNok lfE leE n el ∧ lfE n el = ldO n g ∧ leE n el = ldE n g := by
  subst he
  exact ⟨ok.load n g hg, rfl, rfl⟩
theorem turned_law (ok : TurnOk) {n : Nat} {hs : Nat → Int} (b0 : ∀ i, i < n → (Lit.int .i64 (hs i)).wf = true) {w h a b : Int} (hw : (Lit.int .i64 w).wf = true) (hh : (Lit.int .i64 h).wf = true) (ha : (Lit.int .i64 a).wf = true) (hb : (Lit.int .i64 b).wf = true) :
    FSpec Try.prog 3 [rsl n hs, iA w, iA h, iA a, iA b] (bA true) := by
  obtain ⟨p, ep, hp⟩ := pk_nat (n := 4) hw (by omega)
  obtain ⟨q, eq, hq⟩ := pk_nat (n := 4) hh (by omega)
  have e1 : w1 pk w 4 = ((1 + p : Nat) : Int) := by
    have ep' : pk w 4 = (p : Int) := ep
    unfold w1
    rw [ep', w64_id (by omega) (by omega)]; omega
  have e2 : w1 pk h 4 = ((1 + q : Nat) : Int) := by
    have eq' : pk h 4 = (q : Int) := eq
    unfold w1
    rw [eq', w64_id (by omega) (by omega)]; omega
  have A := mflm_fb b0 (wd := 1 + p) (ht := 1 + q) (by omega) (by omega) (by omega) (by omega)
  have hm := fb_may A (by omega) (by omega)
  generalize hF : mflm n hs (1 + p) (1 + q) = F at hm
  obtain ⟨hE, hW, hH, hn', hm', hl, hss⟩ := saved_back hm
  obtain ⟨n1, m1, _, _⟩ := fmay_n hm
  have hN : 0 < svN F + 4 := by omega
  obtain ⟨r, er, hr⟩ := pk_nat (n := svN F + 4) ha hN
  have er : pk a ((svN F + 4 : Nat) : Int) = (r : Int) := er
  obtain ⟨s, es, hs'⟩ := pk_nat (n := 255) hb (by omega)
  have es : pk b 255 = (s : Int) := es
  have hv : ttV pk (svN F + 4) (svF F) a b = xr8 (svF F r) ((1 + s : Nat) : Int) := by
    unfold ttV
    rw [er, es, Int.toNat_natCast, Nat.zero_add, w64_id (by omega) (by omega), show (1 + (s : Int)) = ((1 + s : Nat) : Int) by omega, u8_id (by omega) (by omega)]
  obtain ⟨v0, v1⟩ := xr8_rng (svF F r) ((1 + s : Nat) : Int)
  have hne : svF F r ≠ xr8 (svF F r) ((1 + s : Nat) : Int) := xr8_ne (svF_rng r).1 (svF_rng r).2 (by omega) (by omega)
  have seen := turned_seen hm hr v0 v1 hne
  have el0e : el0 (svF F) = fun i => [yA (svF F i)] := by funext i; unfold el0; rw [Nat.zero_add]
  have el2e : el2 pk (svN F + 4) (svF F) a b = fun i => [yA (turnG (svF F) r (xr8 (svF F r) ((1 + s : Nat) : Int)) i)] := by
    funext i
    unfold el2 ptY
    rw [hv, er, Int.toNat_natCast, Nat.zero_add, Nat.zero_add, mixY]
    by_cases hi : i = r
    · subst hi
      rw [turnG_at, BEq.rfl]; rfl
    · rw [turnG_ne _ _ hi, beq_false_of_ne hi]; rfl
  obtain ⟨l1, l2, l3⟩ := load_el ok (n := svN F + 4) el0e fun i _ => svF_rng i
  obtain ⟨k1, k2, k3⟩ := load_el ok (n := svN F + 4) el2e fun i _ => by
    by_cases hi : i = r
    · subst hi; rw [turnG_at]; exact ⟨v0, v1⟩
    · rw [turnG_ne _ _ hi]; exact svF_rng i
  have hO : ldO (svN F + 4) (svF F) = ldF (svF F) := by unfold ldO; rw [if_pos hE]
  have hZ : ldO (svN F + 4) (turnG (svF F) r (xr8 (svF F r) ((1 + s : Nat) : Int))) = zF := by unfold ldO; rw [if_neg seen]
  rw [hO] at l2
  rw [hE] at l3
  rw [hZ] at k2
  have t1 : SFT F.c (ldF (svF F)).c := same_filmT (by omega) (by omega) hW.symm hH.symm hn'.symm hm'.symm (fun i hi => (hl i hi).symm) fun i hi => (hss i hi).symm
  refine gspecM e_nil (k_cons kPick_ok (k_cons kS_ok (k_cons kS_ok k_nil))) (m_cons mN_ok (m_cons mF_ok m_nil)) Try.func3 (by kernel_rfl) (by kernel_rfl) noL_ok rfl ((tt_ev pk ffE lfE leE (svN F + 4) (svF F) n hs w h a b).trans ?_)
  rw [e1, e2, gate_pos (FOok_of n hs (by omega) (by omega))]
  have fe : ffE n (rEl hs) ((1 + p : Nat) : Int) ((1 + q : Nat) : Int) = F := hF
  rw [fe]
  unfold ttR
  rw [propB_t (ok.save F hm), ssB_t l1 hN, l2, gate_pos t1, l3, er, owY_t hr, ssB_t k1 hN, k2, gate_pos sft_zero, k3, beq_false_of_ne (show ((svN F + 4 : Nat) : Int) ≠ 0 by omega), beq_false_of_ne seen]
  cases decide ((n : Int) > 256) <;> rfl
end Go.Proofs.Ytihkjdhnobeboaa

namespace Go.Proofs.Ytihkjdhnobeboaa
open Go.Gv

/-! ### How many bytes -/
def sbtI (n m : Nat) : Int := w64 (w64 (w64 (6 + w64 (6 * (n : Int))) + w64 (3 * (m : Int))) + 4)
theorem sbt_ev (f : Flm) : ev Try.prog [] [] noL Try.f11 [.agg f.c] ret = some (Out.of (iA (sbtI f.n f.m))) := by kernel_rfl
theorem sbt_spec (f : Flm) : FSpec Try.prog 11 [.agg f.c] (iA (sbtI f.n f.m)) := gspec e_nil k_nil Try.func11 (by kernel_rfl) (by kernel_rfl) noL_ok rfl (sbt_ev f)
def sbtG (sf : Nat → Nat → Int) : List AV → AV
  | [.agg [_, _, .sl _ n _, .sl _ m _]] => iA (sf n m)
  | _ => .any
/-! ### The sum of bytes -/
def ckS (n : Nat) (g : Nat → Int) (h i : Int) : St := mkS 20 [(3, uA h), (6, sB n g), (7, iA n), (8, iA i)] []
section
variable (n : Nat) (g : Nat → Int) (h i : Int)
theorem ck_step : evC Try.prog [] [] noL (loopAt Try.f13 0) (ckS n g h i) (finN [3, 6, 7, 8] []) = cond (decide (i < n)) (cond (ixB i n || false) (some ⟨.normal, ckS n g (suT h (g i.toNat)) (w64 (i + 1)), .any⟩) none) none := by kernel_rfl
theorem ck_end : evC Try.prog [] [] noL (loopAt Try.f13 0) (ckS n g h i) (finE [3, 6, 7, 8] []) = cond (decide (i < n)) (cond (ixB i n || false) none none) (some ⟨.exit 0, ckS n g h i, .any⟩) := by kernel_rfl
end
theorem ck_leads {n : Nat} (hn : n ≤ 1000000) (g : Nat → Int) : Leads Try.prog (.loop (loopAt Try.f13 0)) (ckS n g 1 0) (.exit 0) (ckS n g (suV g n) (n : Nat)) := by
  refine loop_rule (fun k => ckS n g (suV g k) (k : Nat)) n (.exit 0) _ (by simp) (fun k hk => ?_) ?_
  · refine leads_ev (finN_sub _ _) e_nil k_nil noL_ok ((ck_step n g (suV g k) (k : Nat)).trans ?_)
    rw [dec_lt hk, ixB_t hk, Int.toNat_natCast, w64_next (by omega)]
    rfl
  · refine leads_ev (finE_sub _ _) e_nil k_nil noL_ok ((ck_end n g (suV g n) (n : Nat)).trans ?_)
    rw [dec_self, cond_false]
noncomputable def ckL (n : Nat) (g : Nat → Int) (x : Int) : Nat → Option LFun := oneL 3 (toldF [3, 6, 7, 8] [] (ckS n g 1 0) (.exit 0) (ckS n g x (n : Nat)))
theorem ck_ev (n : Nat) (g : Nat → Int) (x : Int) : ev Try.prog [] [] (ckL n g x) Try.f13 [sB n g] ret = gate (Sub (ckS n g 1 0) (ckS n g 1 0)) (some (Out.of (iA (w64 x)))) := by kernel_rfl
theorem ck_spec {n : Nat} (hn : n ≤ 1000000) (g : Nat → Int) : FSpec Try.prog 13 [sB n g] (iA (w64 (suV g n))) := by
  have hL := lok_hd (c := bodyOf Try.f13) (i := 3) 0 (by kernel_rfl) (by kernel_rfl) (toldF_sound (keep := [3, 6, 7, 8]) (τ := []) (ck_leads hn g))
  refine gspec e_nil k_nil Try.func13 (by kernel_rfl) (by kernel_rfl) hL rfl ((ck_ev n g (suV g n)).trans ?_)
  exact gate_pos (Sub.refl _)
/-! ### Bytes as a number -/
def orI (a b : Int) : Int := IntKind.i64.wrap ((BitVec.ofInt IntKind.i64.bits a ||| BitVec.ofInt IntKind.i64.bits b).toNat : Int)
def cnV (g : Nat → Int) : Nat → Int
  | 0 => 0
  | k + 1 => orI (w64 (cnV g k * 256)) (w64 (g k))
def cnS (n : Nat) (g : Nat → Int) (x i : Int) : St := mkS 19 [(3, iA x), (6, sB n g), (7, iA n), (8, iA i)] []
section
variable (n : Nat) (g : Nat → Int) (x i : Int)
theorem cn_step : evC Try.prog [] [] noL (loopAt Try.f15 0) (cnS n g x i) (finN [3, 6, 7, 8] []) = cond (decide (i < n)) (cond (ixB i n || false) (some ⟨.normal, cnS n g (orI (w64 (x * 256)) (w64 (g i.toNat))) (w64 (i + 1)), .any⟩) none) none := by kernel_rfl
theorem cn_end : evC Try.prog [] [] noL (loopAt Try.f15 0) (cnS n g x i) (finE [3, 6, 7, 8] []) = cond (decide (i < n)) (cond (ixB i n || false) none none) (some ⟨.exit 0, cnS n g x i, .any⟩) := by kernel_rfl
end
theorem cn_leads {n : Nat} (hn : n ≤ 1000000) (g : Nat → Int) : Leads Try.prog (.loop (loopAt Try.f15 0)) (cnS n g 0 0) (.exit 0) (cnS n g (cnV g n) (n : Nat)) := by
  refine loop_rule (fun k => cnS n g (cnV g k) (k : Nat)) n (.exit 0) _ (by simp) (fun k hk => ?_) ?_
  · refine leads_ev (finN_sub _ _) e_nil k_nil noL_ok ((cn_step n g (cnV g k) (k : Nat)).trans ?_)
    rw [dec_lt hk, ixB_t hk, Int.toNat_natCast, w64_next (by omega)]
    rfl
  · refine leads_ev (finE_sub _ _) e_nil k_nil noL_ok ((cn_end n g (cnV g n) (n : Nat)).trans ?_)
    rw [dec_self, cond_false]
noncomputable def cnL (n : Nat) (g : Nat → Int) (x : Int) : Nat → Option LFun := oneL 3 (toldF [3, 6, 7, 8] [] (cnS n g 0 0) (.exit 0) (cnS n g x (n : Nat)))
theorem cn_ev (n : Nat) (g : Nat → Int) (x : Int) : ev Try.prog [] [] (cnL n g x) Try.f15 [sB n g] ret = gate (Sub (cnS n g 0 0) (cnS n g 0 0)) (some (Out.of (iA x))) := by kernel_rfl
theorem cn_spec {n : Nat} (hn : n ≤ 1000000) (g : Nat → Int) : FSpec Try.prog 15 [sB n g] (iA (cnV g n)) := by
  have hL := lok_hd (c := bodyOf Try.f15) (i := 3) 0 (by kernel_rfl) (by kernel_rfl) (toldF_sound (keep := [3, 6, 7, 8]) (τ := []) (cn_leads hn g))
  refine gspec e_nil k_nil Try.func15 (by kernel_rfl) (by kernel_rfl) hL rfl ((cn_ev n g (cnV g n)).trans ?_)
  exact gate_pos (Sub.refl _)
theorem orI_eq {a b : Nat} (ha : a ≤ 140737488355327) (hb : b < 256) : orI ((a * 256 : Nat) : Int) ((b : Nat) : Int) = ((a * 256 + b : Nat) : Int) := by
  unfold orI
  have e1 : (BitVec.ofInt IntKind.i64.bits ((a * 256 : Nat) : Int) ||| BitVec.ofInt IntKind.i64.bits ((b : Nat) : Int)).toNat = a * 256 + b := by
    show (BitVec.ofInt 64 ((a * 256 : Nat) : Int) ||| BitVec.ofInt 64 ((b : Nat) : Int)).toNat = a * 256 + b
    rw [BitVec.toNat_or, BitVec.toNat_ofInt, BitVec.toNat_ofInt]
    have e : ((2 ^ 64 : Nat) : Int) = 18446744073709551616 := rfl
    rw [e, show (((a * 256 : Nat) : Int) % 18446744073709551616).toNat = a * 256 by omega, show (((b : Nat) : Int) % 18446744073709551616).toNat = b by omega]
    have h := Nat.shiftLeft_add_eq_or_of_lt (b := b) (i := 8) (by omega) a
    rw [Nat.shiftLeft_eq] at h
    exact h.symm
  rw [e1]
  exact w64_id (by omega) (by omega)
/-- Of few bytes it is the answer's. -/
theorem cn_nb {g : Nat → Int} : ∀ {k : Nat}, k ≤ 6 → (∀ i, i < k → 0 ≤ g i ∧ g i ≤ 255) → cnV g k = nbV g k ∧ 0 ≤ nbV g k ∧ nbV g k < 256 ^ k
  | 0, _, _ => ⟨rfl, Int.le_refl _, show (0 : Int) < 256 ^ 0 by decide⟩
  | k + 1, hk, hg => by
    obtain ⟨h1, h2, h3⟩ := cn_nb (k := k) (by omega) fun i hi => hg i (by omega)
    obtain ⟨b0, b1⟩ := hg k (by omega)
    have hp : (256 : Int) ^ k ≤ 1099511627776 := by
      have : k = 0 ∨ k = 1 ∨ k = 2 ∨ k = 3 ∨ k = 4 ∨ k = 5 := by omega
      rcases this with rfl | rfl | rfl | rfl | rfl | rfl <;> decide
    have hs := nbV_step (rfl : nbV g k = nbV g k) (rfl : g k = g k) h2 (by omega) b0 b1
    have hpk : (256 : Int) ^ (k + 1) = 256 ^ k * 256 := Int.pow_succ _ _
    refine ⟨?_, by rw [hs]; omega, by rw [hs, hpk]; omega⟩
    rw [hs]
    show orI (w64 (cnV g k * 256)) (w64 (g k)) = _
    rw [h1]
    generalize nbV g k = y at h2 h3
    generalize g k = b at b0 b1
    rw [w64_id (n := y * 256) (by omega) (by omega), w64_id (n := b) (by omega) (by omega)]
    have := orI_eq (a := y.toNat) (b := b.toNat) (by omega) (by omega)
    rw [show ((y.toNat * 256 : Nat) : Int) = y * 256 by omega, show ((b.toNat : Nat) : Int) = b by omega] at this
    rw [this]
    omega
end Go.Proofs.Ytihkjdhnobeboaa

namespace Go.Proofs.Ytihkjdhnobeboaa
open Go.Gv

def bS (n : Int) (s : Nat) : Int := IntKind.u8.wrap (n.fdiv (2 ^ s))
def an6 (n : Int) (j : Nat) : Int := [bS n 40, bS n 32, bS n 24, bS n 16, bS n 8, bS n 0].getD j 0
def an4 (n : Int) (j : Nat) : Int := [bS n 24, bS n 16, bS n 8, bS n 0].getD j 0
def an3 (n : Int) (j : Nat) : Int := [bS n 16, bS n 8, bS n 0].getD j 0
def aY (c : Nat) : Bool := apB c 1 || false
def arR (c : Nat) (el : Nat → List AV) : List Row := [.a 5 1 c el]
section
variable (n : Int) (c : Nat) (el : Nat → List AV)
theorem an3_ev : evG Try.prog [] [] [] noL Try.f12 [.osl 0 1 0 c, iA n, iA 3] (arR c el) [some 0, some 6] =
    cond (aY c) (cond (aY (c + 1)) (cond (aY (c + 2)) (gout (.osl 1 1 0 (c + 3)) [.dead, .a 5 1 (c + 3) (apE (apE (apE el c (bS n 16)) (c + 1) (bS n 8)) (c + 2) (bS n 0))]) none) none) none := by kernel_rfl
theorem an4_ev : evG Try.prog [] [] [] noL Try.f12 [.osl 0 1 0 c, iA n, iA 4] (arR c el) [some 0, some 8] =
    cond (aY c) (cond (aY (c + 1)) (cond (aY (c + 2)) (cond (aY (c + 3)) (gout (.osl 1 1 0 (c + 4)) [.dead, .a 5 1 (c + 4) (apE (apE (apE (apE el c (bS n 24)) (c + 1) (bS n 16)) (c + 2) (bS n 8)) (c + 3) (bS n 0))]) none) none) none) none := by kernel_rfl
theorem an6_ev : evG Try.prog [] [] [] noL Try.f12 [.osl 0 1 0 c, iA n, iA 6] (arR c el) [some 0, some 12] =
    cond (aY c) (cond (aY (c + 1)) (cond (aY (c + 2)) (cond (aY (c + 3)) (cond (aY (c + 4)) (cond (aY (c + 5)) (gout (.osl 1 1 0 (c + 6)) [.dead, .a 5 1 (c + 6) (apE (apE (apE (apE (apE (apE el c (bS n 40)) (c + 1) (bS n 32)) (c + 2) (bS n 24)) (c + 3) (bS n 16)) (c + 4) (bS n 8)) (c + 5) (bS n 0))]) none) none) none) none) none) none := by kernel_rfl
end
end Go.Proofs.Ytihkjdhnobeboaa

namespace Go.Proofs.Ytihkjdhnobeboaa
open Go.Gv

def isd (x : Int) : Bool := cond (decide (x ≥ 1)) (decide (x ≤ 64)) false
theorem isd_ev (x : Int) : ev Try.prog [] [] noL Try.f18 [iA x] ret = some (Out.of (bA (isd x))) := by kernel_rfl
theorem isd_spec (x : Int) : FSpec Try.prog 18 [iA x] (bA (isd x)) := gspec e_nil k_nil Try.func18 (by kernel_rfl) (by kernel_rfl) noL_ok rfl (isd_ev x)
def gSd (sd : Int → Bool) : List AV → Option AV
  | [.x (.int .i64 l)] => some (bA (sd l))
  | _ => none
theorem gSd_ok : EOk Try.prog ⟨18, gSd isd⟩ := fun args r hr => by
  simp only [gSd] at hr
  split at hr
  · cases hr; exact Or.inl (isd_spec _)
  · cases hr
/-! ### Numbers up to a most -/
def utS (most : Int) (n : Nat) (g : Nat → Int) (i : Int) : St := mkS 21 [(0, iA most), (7, sI n g), (8, iA n), (9, iA i)] []
def utE : St := mkS 21 [(4, bA false)] []
section
variable (most : Int) (n : Nat) (g : Nat → Int) (i : Int)
theorem ut_step : evC Try.prog [] [] noL (loopAt Try.f19 0) (utS most n g i) (finN [0, 7, 8, 9] []) =
    cond (decide (i < n)) (cond (ixB i n || false) (cond (ofB (g i.toNat) most) none (some ⟨.normal, utS most n g (w64 (i + 1)), .any⟩)) none) none := by kernel_rfl
theorem ut_ret : evC Try.prog [] [] noL (loopAt Try.f19 0) (utS most n g i) (finR [4] []) =
    cond (decide (i < n)) (cond (ixB i n || false) (cond (ofB (g i.toNat) most) (some ⟨.ret, utE, .any⟩) none) none) none := by kernel_rfl
theorem ut_end : evC Try.prog [] [] noL (loopAt Try.f19 0) (utS most n g i) (finE [0, 7, 8, 9] []) =
    cond (decide (i < n)) (cond (ixB i n || false) (cond (ofB (g i.toNat) most) none none) none) (some ⟨.exit 0, utS most n g i, .any⟩) := by kernel_rfl
end
theorem ut_good {most : Int} {n : Nat} {g : Nat → Int} (hn : n ≤ 4611686018427387904) (h : ∀ i, i < n → ofB (g i) most = false) : Leads Try.prog (.loop (loopAt Try.f19 0)) (utS most n g 0) (.exit 0) (utS most n g (n : Nat)) := by
  refine loop_rule (fun k => utS most n g (k : Nat)) n (.exit 0) _ (by simp) (fun k hk => ?_) ?_
  · refine leads_ev (finN_sub _ _) e_nil k_nil noL_ok ((ut_step most n g (k : Nat)).trans ?_)
    rw [dec_lt hk, ixB_t hk, Int.toNat_natCast, h k hk, w64_next (by omega)]
    rfl
  · refine leads_ev (finE_sub _ _) e_nil k_nil noL_ok ((ut_end most n g (n : Nat)).trans ?_)
    rw [dec_self, cond_false]
theorem ut_bad {most : Int} {n : Nat} {g : Nat → Int} (hn : n ≤ 4611686018427387904) {K : Nat} (hK : K < n) (hb : ofB (g K) most = true) (h : ∀ i, i < K → ofB (g i) most = false) : Leads Try.prog (.loop (loopAt Try.f19 0)) (utS most n g 0) .ret utE := by
  refine loop_rule (fun k => utS most n g (k : Nat)) K .ret _ (by simp) (fun k hk => ?_) ?_
  · refine leads_ev (finN_sub _ _) e_nil k_nil noL_ok ((ut_step most n g (k : Nat)).trans ?_)
    have hk' : k < n := by omega
    rw [dec_lt hk', ixB_t hk', Int.toNat_natCast, h k hk, w64_next (by omega)]
    rfl
  · refine leads_ev (finR_sub _ _) e_nil k_nil noL_ok ((ut_ret most n g (K : Nat)).trans ?_)
    rw [dec_lt hK, ixB_t hK, Int.toNat_natCast, hb]
    rfl
noncomputable def utL (most : Int) (n : Nat) (g : Nat → Int) : LFun := toldF [0, 7, 8, 9] [] (utS most n g 0) (.exit 0) (utS most n g (n : Nat))
noncomputable def utLr (most : Int) (n : Nat) (g : Nat → Int) : LFun := toldF [0, 7, 8, 9] [] (utS most n g 0) .ret utE
theorem ut_evG (most : Int) (n : Nat) (g : Nat → Int) : ev Try.prog [] [] (oneL 2 (utL most n g)) Try.f19 [iA most, sI n g] ret = gate (Sub (utS most n g 0) (utS most n g 0)) (some (Out.of (bA true))) := by kernel_rfl
theorem ut_evR (most : Int) (n : Nat) (g : Nat → Int) : ev Try.prog [] [] (oneL 2 (utLr most n g)) Try.f19 [iA most, sI n g] ret = gate (Sub (utS most n g 0) (utS most n g 0)) (some (Out.of (bA false))) := by kernel_rfl
noncomputable def upI (most : Int) (n : Nat) (g : Nat → Int) : Bool := allI n fun i => !ofB (g i) most
theorem ut_spec {most : Int} {n : Nat} {g : Nat → Int} (hn : n ≤ 4611686018427387904) : FSpec Try.prog 19 [iA most, sI n g] (bA (upI most n g)) := by
  unfold upI
  rcases all_or_first (fun i => !ofB (g i) most) n with hl | ⟨K, hK, hp, hq⟩
  · have l1 := lok_at (c := bodyOf Try.f19) (i := 2) 0 1 (by kernel_rfl) (by kernel_rfl) (toldF_sound (keep := [0, 7, 8, 9]) (τ := []) (ut_good (most := most) hn fun i hi => by simpa using hl i hi))
    refine gspec e_nil k_nil Try.func19 (by kernel_rfl) (by kernel_rfl) l1 rfl ((ut_evG most n g).trans ?_)
    rw [gate_pos (Sub.refl _), allI_t hl]
  · have l1 := lok_at (c := bodyOf Try.f19) (i := 2) 0 1 (by kernel_rfl) (by kernel_rfl) (toldF_sound (keep := [0, 7, 8, 9]) (τ := []) (ut_bad (most := most) hn hK (by simpa using hp) fun i hi => by simpa using hq i hi))
    refine gspec e_nil k_nil Try.func19 (by kernel_rfl) (by kernel_rfl) l1 rfl ((ut_evR most n g).trans ?_)
    rw [gate_pos (Sub.refl _), allI_f hK hp]
abbrev UF : Type := Int → Nat → (Nat → List AV) → Bool
def utG (uf : UF) : List AV → AV
  | [.x (.int .i64 most), .sl _ n el] => bA (uf most n el)
  | _ => .any
noncomputable def utF : UF := fun most n el => upI most n fun i => intOf (el i)
abbrev UTok (uf : UF) (most : Int) (n : Nat) (g : Nat → Int) : Prop := FSpec Try.prog 19 [iA most, sI n g] (utG uf [iA most, sI n g])
theorem UTok_of {most : Int} {n : Nat} {g : Nat → Int} (hn : n ≤ 4611686018427387904) : UTok utF most n g := ut_spec hn
end Go.Proofs.Ytihkjdhnobeboaa

namespace Go.Proofs.Ytihkjdhnobeboaa
open Go.Gv

def cSd (sd : Int → Bool) (W H : Int) : Bool := cond (!sd W) true (!sd H)
def cCn (f : Flm) : Bool := cond (!((f.n : Int) == w64 (3 * w64 (f.W * f.H)))) true (!((f.m : Int) == w64 (f.W * f.H)))
def cUp (uf : UF) (f : Flm) : Bool := cond (!uf 1099511627776 f.n fun i => [iA (f.lt i)]) true (!uf 1048576 f.m fun i => [iA (f.sh i)])
theorem cmay_ev (sd : Int → Bool) (uf : UF) (f : Flm) : ev Try.prog [⟨18, gSd sd⟩] [kS Try.prog 19 (utG uf)] noL Try.f10 [.agg f.c] ret =
    cond (cSd sd f.W f.H) (some (Out.of (iA 4))) (cond (cCn f) (some (Out.of (iA 5))) (gate (UTok uf 1099511627776 f.n f.lt) (gate (UTok uf 1048576 f.m f.sh) (cond (cUp uf f) (some (Out.of (iA 6))) (some (Out.of (iA 0))))))) := by kernel_rfl
theorem cSd_eq (W H : Int) : cSd isd W H = fbad W H := by
  unfold cSd fbad isd
  by_cases h1 : W < 1 <;> by_cases h2 : W > 64 <;> by_cases h3 : H < 1 <;> by_cases h4 : H > 64 <;> first | (exfalso; omega) | skip
  all_goals (simp only [h1, h2, h3, h4, decide_true, decide_false, cond_true, cond_false, Bool.not_true, Bool.not_false, show (W ≥ 1) = ¬ (W < 1) from propext (by omega), show (W ≤ 64) = ¬ (W > 64) from propext (by omega), show (H ≥ 1) = ¬ (H < 1) from propext (by omega), show (H ≤ 64) = ¬ (H > 64) from propext (by omega), not_true_eq_false, not_false_eq_true])
theorem cCn_eq {f : Flm} (h : fbad f.W f.H = false) : cCn f = fcnt f := by
  obtain ⟨h1, h2, h3, h4⟩ := fbad_false h
  have hm := mulB (x := f.W) (y := f.H) (X := 64) (Y := 64) (by omega) h2 (by omega) h4
  unfold cCn fcnt
  rw [w64_id (n := f.W * f.H) (by omega) (by omega), w64_id (n := 3 * (f.W * f.H)) (by omega) (by omega), w64_id (n := 3 * f.W) (by omega) (by omega), Int.mul_assoc, w64_id (n := 3 * (f.W * f.H)) (by omega) (by omega)]
theorem cUp_eq (f : Flm) : cUp utF f = !fval f := by
  show cond (!upI 1099511627776 f.n f.lt) true (!upI 1048576 f.m f.sh) = _
  unfold fval upI
  cases allI f.n (fun i => !ofB (f.lt i) 1099511627776) <;> rfl
theorem cmay_spec (f : Flm) : FSpec Try.prog 10 [.agg f.c] (iA (fmay f)) := by
  refine gspec (e_cons gSd_ok e_nil) (k_cons (kS_ok (P := Try.prog) (f := 19) (g := utG utF)) k_nil) Try.func10 (by kernel_rfl) (by kernel_rfl) noL_ok rfl ((cmay_ev isd utF f).trans ?_)
  rw [cSd_eq]
  unfold fmay
  cases hb : fbad f.W f.H
  · rw [cCn_eq hb]
    cases hc : fcnt f
    · obtain ⟨hn, hm⟩ := fcnt_false hb hc
      obtain ⟨h1, h2, h3, h4⟩ := fbad_false hb
      have hM := mulB (x := f.W) (y := f.H) (X := 64) (Y := 64) (by omega) h2 (by omega) h4
      rw [gate_pos (UTok_of (by omega)), gate_pos (UTok_of (by omega)), cUp_eq]
      cases fval f <;> rfl
    · rfl
  · rfl
end Go.Proofs.Ytihkjdhnobeboaa

namespace Go.Proofs.Ytihkjdhnobeboaa
open Go.Gv

theorem blt_no {a b : Nat} (h : b ≤ a) : Nat.blt a b = false := by
  cases hb : Nat.blt a b
  · rfl
  · have : a < b := Nat.le_of_ble_eq_true hb
    omega
def anB (n s : Int) (j : Nat) : Int := cond (s == 6) (an6 n j) (cond (s == 3) (an3 n j) (an4 n j))
def anF (n s : Int) (g : Nat → Int) (c q : Nat) : Int := cond (Nat.blt q c) (g q) (anB n s (q - c))
theorem aY_t {c : Nat} (h : c < 140737488355328) : aY c = true := by unfold aY; rw [apB_t (by omega)]; rfl
abbrev ANok (n s : Int) (k : Nat) (c : Nat) (g : Nat → Int) : Prop := GSpec Try.prog 12 [.osl 0 1 0 c, iA n, iA s] [.a 5 1 c fun q => [yA (g q)]] (.osl 1 1 0 (c + k)) [.dead, .a 5 1 (c + k) fun q => [yA (anF n s g c q)]]
theorem an3_ok {c : Nat} (hc : c + 6 ≤ 140737488355328) (n : Int) (g : Nat → Int) : ANok n 3 3 c g := by
  have hev := an3_ev n c fun q => [yA (g q)]
  rw [aY_t (by omega), aY_t (by omega), aY_t (by omega), apE_fun, apE_fun, apE_fun] at hev
  refine (gspecG (mem := arR c fun q => [yA (g q)]) e_nil k_nil m_nil Try.func12 (by kernel_rfl) (by kernel_rfl) (fun _ _ _ _ _ h => by cases h) rfl (by kernel_rfl) hev).of_rows ⟨Or.inl rfl, Or.inr ⟨5, 1, c + 3, _, _, rfl, rfl, fun q hq => ?_⟩, trivial⟩
  unfold anF
  by_cases h : q < c
  · rw [blt_t h, blt_t (show q < c + 1 by omega), blt_t (show q < c + 2 by omega)]; rfl
  · obtain ⟨j, rfl⟩ : ∃ j, q = c + j := ⟨q - c, by omega⟩
    rw [blt_no (show c ≤ c + j by omega), Nat.add_sub_cancel_left]
    have : j = 0 ∨ j = 1 ∨ j = 2 := by omega
    rcases this with rfl | rfl | rfl
    · rw [blt_t (show c + 0 < c + 1 by omega), blt_t (show c + 0 < c + 2 by omega)]; rfl
    · rw [blt_no (show c + 1 ≤ c + 1 by omega), blt_t (show c + 1 < c + 2 by omega)]; rfl
    · rw [blt_no (show c + 2 ≤ c + 2 by omega)]; rfl
theorem an4_ok {c : Nat} (hc : c + 6 ≤ 140737488355328) (n : Int) (g : Nat → Int) : ANok n 4 4 c g := by
  have hev := an4_ev n c fun q => [yA (g q)]
  rw [aY_t (by omega), aY_t (by omega), aY_t (by omega), aY_t (by omega), apE_fun, apE_fun, apE_fun, apE_fun] at hev
  refine (gspecG (mem := arR c fun q => [yA (g q)]) e_nil k_nil m_nil Try.func12 (by kernel_rfl) (by kernel_rfl) (fun _ _ _ _ _ h => by cases h) rfl (by kernel_rfl) hev).of_rows ⟨Or.inl rfl, Or.inr ⟨5, 1, c + 4, _, _, rfl, rfl, fun q hq => ?_⟩, trivial⟩
  unfold anF
  by_cases h : q < c
  · rw [blt_t h, blt_t (show q < c + 1 by omega), blt_t (show q < c + 2 by omega), blt_t (show q < c + 3 by omega)]; rfl
  · obtain ⟨j, rfl⟩ : ∃ j, q = c + j := ⟨q - c, by omega⟩
    rw [blt_no (show c ≤ c + j by omega), Nat.add_sub_cancel_left]
    have : j = 0 ∨ j = 1 ∨ j = 2 ∨ j = 3 := by omega
    rcases this with rfl | rfl | rfl | rfl
    · rw [blt_t (show c + 0 < c + 1 by omega), blt_t (show c + 0 < c + 2 by omega), blt_t (show c + 0 < c + 3 by omega)]; rfl
    · rw [blt_no (show c + 1 ≤ c + 1 by omega), blt_t (show c + 1 < c + 2 by omega), blt_t (show c + 1 < c + 3 by omega)]; rfl
    · rw [blt_no (show c + 2 ≤ c + 2 by omega), blt_t (show c + 2 < c + 3 by omega)]; rfl
    · rw [blt_no (show c + 3 ≤ c + 3 by omega)]; rfl
theorem an6_ok {c : Nat} (hc : c + 6 ≤ 140737488355328) (n : Int) (g : Nat → Int) : ANok n 6 6 c g := by
  have hev := an6_ev n c fun q => [yA (g q)]
  rw [aY_t (by omega), aY_t (by omega), aY_t (by omega), aY_t (by omega), aY_t (by omega), aY_t (by omega), apE_fun, apE_fun, apE_fun, apE_fun, apE_fun, apE_fun] at hev
  refine (gspecG (mem := arR c fun q => [yA (g q)]) e_nil k_nil m_nil Try.func12 (by kernel_rfl) (by kernel_rfl) (fun _ _ _ _ _ h => by cases h) rfl (by kernel_rfl) hev).of_rows ⟨Or.inl rfl, Or.inr ⟨5, 1, c + 6, _, _, rfl, rfl, fun q hq => ?_⟩, trivial⟩
  unfold anF
  by_cases h : q < c
  · rw [blt_t h, blt_t (show q < c + 1 by omega), blt_t (show q < c + 2 by omega), blt_t (show q < c + 3 by omega), blt_t (show q < c + 4 by omega), blt_t (show q < c + 5 by omega)]; rfl
  · obtain ⟨j, rfl⟩ : ∃ j, q = c + j := ⟨q - c, by omega⟩
    rw [blt_no (show c ≤ c + j by omega), Nat.add_sub_cancel_left]
    have : j = 0 ∨ j = 1 ∨ j = 2 ∨ j = 3 ∨ j = 4 ∨ j = 5 := by omega
    rcases this with rfl | rfl | rfl | rfl | rfl | rfl
    · rw [blt_t (show c + 0 < c + 1 by omega), blt_t (show c + 0 < c + 2 by omega), blt_t (show c + 0 < c + 3 by omega), blt_t (show c + 0 < c + 4 by omega), blt_t (show c + 0 < c + 5 by omega)]; rfl
    · rw [blt_no (show c + 1 ≤ c + 1 by omega), blt_t (show c + 1 < c + 2 by omega), blt_t (show c + 1 < c + 3 by omega), blt_t (show c + 1 < c + 4 by omega), blt_t (show c + 1 < c + 5 by omega)]; rfl
    · rw [blt_no (show c + 2 ≤ c + 2 by omega), blt_t (show c + 2 < c + 3 by omega), blt_t (show c + 2 < c + 4 by omega), blt_t (show c + 2 < c + 5 by omega)]; rfl
    · rw [blt_no (show c + 3 ≤ c + 3 by omega), blt_t (show c + 3 < c + 4 by omega), blt_t (show c + 3 < c + 5 by omega)]; rfl
    · rw [blt_no (show c + 4 ≤ c + 4 by omega), blt_t (show c + 4 < c + 5 by omega)]; rfl
    · rw [blt_no (show c + 5 ≤ c + 5 by omega)]; rfl
abbrev AF : Type := Int → Int → (Nat → Int) → Nat → Nat → Int
noncomputable def anC (af : AF) : List AV → List Row → Option (Bool × AV × List Row)
  | [.osl 0 1 0 c, .x (.int .i64 n), .x (.int .i64 s)], [.a e sz m el] => some (propB (GSpec Try.prog 12 [.osl 0 1 0 c, iA n, iA s] [.a e sz m el] (.osl 1 1 0 (c + s.toNat)) [.dead, .a 5 1 (c + s.toNat) fun q => [yA (af n s (fun q => u8Of' (el q)) c q)]]), .osl 1 1 0 (c + s.toNat), [.dead, .a 5 1 (c + s.toNat) fun q => [yA (af n s (fun q => u8Of' (el q)) c q)]])
  | _, _ => none
noncomputable def mA (af : AF) : MEntry := ⟨12, liftM (some 0) (anC af), none⟩
theorem mA_ok {af : AF} : MEOk Try.prog (mA af) := by
  refine ⟨liftM_ok fun args rs v mem1 hc => ?_, fun _ h => by cases h⟩
  unfold anC at hc
  split at hc
  · simp only [Option.some.injEq, Prod.mk.injEq] at hc
    obtain ⟨h1, rfl, rfl⟩ := hc
    refine ⟨propB_of h1, fun i hi hw => ?_⟩
    have : i = 0 := by simpa using hi
    subst this
    exact absurd rfl hw
  · cases hc
/-! ### Save -/
def wsS (f : Flm) (c : Nat) (g : Nat → Int) (i : Int) : St := mkS 55 [(1, .own 0 0), (5, .osl 1 1 0 c), (30, sI f.n f.lt), (31, iA f.n), (32, iA i)] [.c f.c, .a 5 1 c fun q => [yA (g q)]]
def wtS (f : Flm) (c : Nat) (g : Nat → Int) (i : Int) : St := mkS 55 [(1, .own 0 0), (5, .osl 1 1 0 c), (41, sI f.m f.sh), (42, iA f.m), (43, iA i)] [.c f.c, .a 5 1 c fun q => [yA (g q)]]
def keepWs : List Nat := [1, 5, 30, 31, 32]
def keepWt : List Nat := [1, 5, 41, 42, 43]
abbrev ANa (af : AF) (n s : Int) (k c : Nat) (g : Nat → Int) : Prop := GSpec Try.prog 12 [.osl 0 1 0 c, iA n, iA s] [.a 5 1 c fun q => [yA (g q)]] (.osl 1 1 0 (c + k)) [.dead, .a 5 1 (c + k) fun q => [yA (af n s g c q)]]
noncomputable def anQ (p : Prop) (c : Nat) : Bool := (propB p && (Nat.blt 0 (0 + c) && true)) || false
section
variable (af : AF) (f : Flm) (c : Nat) (g : Nat → Int) (i : Int)
theorem ws_step : evCM Try.prog [] [] [mA af] noL (loopAt Try.f6 0) (wsS f c g i) (finN keepWs [some 0, some 2]) =
    cond (decide (i < f.n)) (cond (ixB i f.n || false) (cond (anQ (ANa af (f.lt i.toNat) 6 6 c g) c) (some ⟨.normal, wsS f (c + 6) (af (f.lt i.toNat) 6 g c) (w64 (i + 1)), .any⟩) none) none) none := by kernel_rfl
theorem ws_end : evCM Try.prog [] [] [mA af] noL (loopAt Try.f6 0) (wsS f c g i) (finE keepWs [some 0, some 1]) =
    cond (decide (i < f.n)) (cond (ixB i f.n || false) (cond (anQ (ANa af (f.lt i.toNat) 6 6 c g) c) none none) none) (some ⟨.exit 0, wsS f c g i, .any⟩) := by kernel_rfl
theorem wt_step : evCM Try.prog [] [] [mA af] noL (loopAt Try.f6 1) (wtS f c g i) (finN keepWt [some 0, some 2]) =
    cond (decide (i < f.m)) (cond (ixB i f.m || false) (cond (anQ (ANa af (f.sh i.toNat) 3 3 c g) c) (some ⟨.normal, wtS f (c + 3) (af (f.sh i.toNat) 3 g c) (w64 (i + 1)), .any⟩) none) none) none := by kernel_rfl
theorem wt_end : evCM Try.prog [] [] [mA af] noL (loopAt Try.f6 1) (wtS f c g i) (finE keepWt [some 0, some 1]) =
    cond (decide (i < f.m)) (cond (ixB i f.m || false) (cond (anQ (ANa af (f.sh i.toNat) 3 3 c g) c) none none) none) (some ⟨.exit 2, wtS f c g i, .any⟩) := by kernel_rfl
end
def mkT : ByteArray := { data := #[82, 72, 70, 49] }
def hdE (f : Flm) : Nat → List AV := fun q => mixL (Nat.blt q 4) (mixL (Nat.blt q 0) [yA 0] [yA (byAt mkT (q - 0))]) (spread 4 [[yA (IntKind.u8.wrap f.W)], [yA (IntKind.u8.wrap f.H)]] q)
def wsH (f : Flm) : St := mkS 55 [(1, .own 0 0), (5, .osl 1 1 0 6), (30, sI f.n f.lt), (31, iA f.n), (32, iA 0)] [.c f.c, .a 5 1 6 (hdE f)]
noncomputable def wsL (f : Flm) (N M : Nat) (g : Nat → Int) : Nat → Option LFun := twoL 8 (toldF keepWs [some 0, some 4] (wsS f 6 g 0) (.exit 0) (wsS f N g (f.n : Nat))) 13 (toldF keepWt [some 0, some 1] (wtS f N g 0) (.exit 2) (wtS f M g (f.m : Nat)))
abbrev CKok (sf : Nat → (Nat → List AV) → Int) (n : Nat) (el : Nat → List AV) : Prop := FSpec Try.prog 13 [.sl 1 n el] (iA (sf n el))
abbrev SBok (bf : Nat → Nat → Int) (f : Flm) : Prop := FSpec Try.prog 11 [.agg f.c] (iA (bf f.n f.m))
def mkY (k : Int) : Bool := (decide ((0 : Int) ≤ k) && decide (((1 : Nat) : Int) * k ≤ 281474976710656)) || false
theorem wz_ev (af : AF) (mf : MF) (bf : Nat → Nat → Int) (sf : Nat → (Nat → List AV) → Int) (f : Flm) (N M : Nat) (g : Nat → Int) : evG Try.prog [] [kS Try.prog 10 (fmG mf), kS Try.prog 11 (sbtG bf)] [mA af, mS Try.prog 13 (suG sf)] (wsL f N M g) Try.f6 [.agg f.c] [] [some 2] =
    gate (FMok 10 mf f) (cond (!(mf.of f == 0)) none (gate (SBok bf f) (cond (mkY (bf f.n f.m)) (gate (Sub (wsH f) (wsS f 6 g 0)) (gate (Sub (wtS f N g 0) (wtS f N g 0))
      (cond (ssB (CKok sf M fun i => [yA (g (0 + i))]) M) (cond (anQ (ANa af (sf M fun i => [yA (g (0 + i))]) 4 4 M g) M)
        (gout (.tup [.osl 0 1 0 (M + 4), iA 0]) [.a 5 1 (M + 4) fun q => [yA (af (sf M fun i => [yA (g (0 + i))]) 4 g M q)]]) none) none))) none))) := by kernel_rfl
theorem wz_ev0 (mf : MF) (f : Flm) : ev Try.prog [] [kS Try.prog 10 (fmG mf), ⟨11, fun _ _ => none⟩] noL Try.f6 [.agg f.c] ret =
    gate (FMok 10 mf f) (cond (!(mf.of f == 0)) (bBad (mf.of f)) none) := by kernel_rfl
end Go.Proofs.Ytihkjdhnobeboaa

namespace Go.Proofs.Ytihkjdhnobeboaa
open Go.Gv

theorem bS_eq {x d : Int} {s : Nat} (h0 : 0 ≤ x) (h1 : x ≤ 281474976710655) (hd : (2 : Int) ^ s = d) (hp : 0 < d) : bS x s = byD x d := by
  rw [byD_eq h0 h1 hp]
  unfold bS
  rw [hd, Int.fdiv_eq_ediv_of_nonneg _ (by omega), wrap_u8]
theorem an6_eq {x : Int} (h0 : 0 ≤ x) (h1 : x ≤ 281474976710655) {j : Nat} (hj : j < 6) : an6 x j = f6 x j := by
  have : j = 0 ∨ j = 1 ∨ j = 2 ∨ j = 3 ∨ j = 4 ∨ j = 5 := by omega
  rcases this with rfl | rfl | rfl | rfl | rfl | rfl
  · exact bS_eq (d := 1099511627776) h0 h1 (by decide) (by decide)
  · exact bS_eq (d := 4294967296) h0 h1 (by decide) (by decide)
  · exact bS_eq (d := 16777216) h0 h1 (by decide) (by decide)
  · exact bS_eq (d := 65536) h0 h1 (by decide) (by decide)
  · exact bS_eq (d := 256) h0 h1 (by decide) (by decide)
  · exact bS_eq (d := 1) h0 h1 (by decide) (by decide)
theorem an4_eq {x : Int} (h0 : 0 ≤ x) (h1 : x ≤ 281474976710655) {j : Nat} (hj : j < 4) : an4 x j = f4 x j := by
  have : j = 0 ∨ j = 1 ∨ j = 2 ∨ j = 3 := by omega
  rcases this with rfl | rfl | rfl | rfl
  · exact bS_eq (d := 16777216) h0 h1 (by decide) (by decide)
  · exact bS_eq (d := 65536) h0 h1 (by decide) (by decide)
  · exact bS_eq (d := 256) h0 h1 (by decide) (by decide)
  · exact bS_eq (d := 1) h0 h1 (by decide) (by decide)
theorem an3_eq {x : Int} (h0 : 0 ≤ x) (h1 : x ≤ 281474976710655) {j : Nat} (hj : j < 3) : an3 x j = f3 x j := by
  have : j = 0 ∨ j = 1 ∨ j = 2 := by omega
  rcases this with rfl | rfl | rfl
  · exact bS_eq (d := 65536) h0 h1 (by decide) (by decide)
  · exact bS_eq (d := 256) h0 h1 (by decide) (by decide)
  · exact bS_eq (d := 1) h0 h1 (by decide) (by decide)
theorem anF_same {n s : Int} {g : Nat → Int} {c k q : Nat} (hq : q < c + k) (h : ∀ j, j < k → anB n s j = g (c + j)) : anF n s g c q = g q := by
  unfold anF
  cases hb : Nat.blt q c
  · have hge := not_blt hb
    rw [cond_false, h (q - c) (by omega), show c + (q - c) = q by omega]
  · rfl
theorem anQ_t {p : Prop} {c : Nat} (h : p) (hc : 0 < c) : anQ p c = true := by unfold anQ; rw [propB_t h, blt_t (by omega)]; rfl
theorem ws_leads {f : Flm} (hn : f.n ≤ 1000000) (hl : ∀ i, i < f.n → 0 ≤ f.lt i ∧ f.lt i ≤ 1099511627776) : Leads Try.prog (.loop (loopAt Try.f6 0)) (wsS f 6 (sv0 f) 0) (.exit 0) (wsS f (6 + 6 * f.n) (sv0 f) (f.n : Nat)) := by
  refine loop_rule (fun k => wsS f (6 + 6 * k) (sv0 f) (k : Nat)) f.n (.exit 0) _ (by simp) (fun k hk => ?_) ?_
  · have st := ws_step anF f (6 + 6 * k) (sv0 f) (k : Nat)
    rw [dec_lt hk, ixB_t hk, Int.toNat_natCast, anQ_t (an6_ok (by omega) _ _) (by omega), w64_next (by omega)] at st
    obtain ⟨x0, x1⟩ := hl k hk
    refine (leads_evM (finN_sub _ _) e_nil k_nil (m_cons mA_ok m_nil) noL_ok st).sub (Sub.refl _) ?_
    exact sub_same ⟨Or.inl rfl, Or.inr ⟨5, 1, 6 + 6 * k + 6, _, _, rfl, rfl, fun q hq => by rw [anF_same (n := f.lt k) (s := 6) (g := sv0 f) (k := 6) hq fun j hj => (show an6 (f.lt k) j = _ from (an6_eq x0 (by omega) hj).trans (sv0_l hk hj).symm)]⟩, trivial⟩
  · refine leads_evM (finE_sub _ _) e_nil k_nil (m_cons mA_ok m_nil) noL_ok ((ws_end anF f _ _ (f.n : Nat)).trans ?_)
    rw [dec_self, cond_false]
theorem wt_leads {f : Flm} (hn : f.n ≤ 1000000) (hm : f.m ≤ 1000000) (hs : ∀ i, i < f.m → 0 ≤ f.sh i ∧ f.sh i ≤ 1048576) : Leads Try.prog (.loop (loopAt Try.f6 1)) (wtS f (6 + 6 * f.n) (sv0 f) 0) (.exit 2) (wtS f (svN f) (sv0 f) (f.m : Nat)) := by
  refine loop_rule (fun k => wtS f (6 + 6 * f.n + 3 * k) (sv0 f) (k : Nat)) f.m (.exit 2) _ (by simp) (fun k hk => ?_) ?_
  · have st := wt_step anF f (6 + 6 * f.n + 3 * k) (sv0 f) (k : Nat)
    rw [dec_lt hk, ixB_t hk, Int.toNat_natCast, anQ_t (an3_ok (by omega) _ _) (by omega), w64_next (by omega)] at st
    obtain ⟨x0, x1⟩ := hs k hk
    refine (leads_evM (finN_sub _ _) e_nil k_nil (m_cons mA_ok m_nil) noL_ok st).sub (Sub.refl _) ?_
    exact sub_same ⟨Or.inl rfl, Or.inr ⟨5, 1, 6 + 6 * f.n + 3 * k + 3, _, _, rfl, rfl, fun q hq => by rw [anF_same (n := f.sh k) (s := 3) (g := sv0 f) (k := 3) hq fun j hj => (show an3 (f.sh k) j = _ from (an3_eq x0 (by omega) hj).trans (sv0_s hj).symm)]⟩, trivial⟩
  · refine leads_evM (finE_sub _ _) e_nil k_nil (m_cons mA_ok m_nil) noL_ok ((wt_end anF f _ _ (f.m : Nat)).trans ?_)
    rw [dec_self, cond_false]
    rfl
theorem wsH_sub (f : Flm) : Sub (wsH f) (wsS f 6 (sv0 f) 0) := by
  refine sub_same ⟨Or.inl rfl, Or.inr ⟨5, 1, 6, _, _, rfl, rfl, fun q hq => ?_⟩, trivial⟩
  have : q = 0 ∨ q = 1 ∨ q = 2 ∨ q = 3 ∨ q = 4 ∨ q = 5 := by omega
  rcases this with rfl | rfl | rfl | rfl | rfl | rfl <;> rfl
theorem csave_G {f : Flm} (h : fmay f = 0) : GSpec Try.prog 6 [.agg f.c] [] (.tup [.osl 0 1 0 (svN f + 4), iA 0]) [.a 5 1 (svN f + 4) fun q => [yA (svF f q)]] := by
  have ok := FMok_of cmay_spec
  have mg := mg_of h
  obtain ⟨n1, m1, c1, d1⟩ := fmay_n h
  obtain ⟨a, b, c, d⟩ := fbad_false mg.b
  have hM2 := mulB (x := f.W) (y := f.H) (X := 64) (Y := 64) (by omega) b (by omega) d
  have hL : LOk Try.prog (wsL f (6 + 6 * f.n) (svN f) (sv0 f)) (bodyOf Try.f6) := lok_two (lok_at (c := bodyOf Try.f6) (i := 8) 0 2 (by kernel_rfl) (by kernel_rfl) (toldF_sound (keep := keepWs) (τ := [some 0, some 4]) (ws_leads (f := f) n1 mg.lt))) (lok_at (c := bodyOf Try.f6) (i := 13) 1 2 (by kernel_rfl) (by kernel_rfl) (toldF_sound (keep := keepWt) (τ := [some 0, some 1]) (wt_leads (f := f) n1 m1 mg.sh)))
  have hN : svN f ≤ 1000000 := by unfold svN; omega
  have hN0 : 0 < svN f := by unfold svN; omega
  have e0 : (fun i => [yA (sv0 f (0 + i))]) = fun i => [yA (sv0 f i)] := funext fun i => by rw [Nat.zero_add]
  have e1 : (suE (svN f) fun i => [yA (sv0 f (0 + i))]) = svC f := by rw [e0]; rfl
  have hs : CKok suE (svN f) fun i => [yA (sv0 f (0 + i))] := by
    show FSpec Try.prog 13 [.sl 1 (svN f) fun i => [yA (sv0 f (0 + i))]] (iA (suE (svN f) fun i => [yA (sv0 f (0 + i))]))
    rw [e0]; exact ck_spec hN (sv0 f)
  have hsb : ssB (CKok suE (svN f) fun i => [yA (sv0 f (0 + i))]) (svN f) = true := by unfold ssB; rw [propB_t hs, ble_t (by omega), blt_t (by omega)]; rfl
  have hk : mkY (sbtI f.n f.m) = true := by
    unfold mkY sbtI
    rw [w64_id (n := 6 * (f.n : Int)) (by omega) (by omega), w64_id (n := 6 + 6 * (f.n : Int)) (by omega) (by omega), w64_id (n := 3 * (f.m : Int)) (by omega) (by omega), w64_id (n := 6 + 6 * (f.n : Int) + 3 * (f.m : Int)) (by omega) (by omega), w64_id (by omega) (by omega), decide_eq_true (show (0 : Int) ≤ 6 + 6 * (f.n : Int) + 3 * (f.m : Int) + 4 by omega), decide_eq_true (show ((1 : Nat) : Int) * (6 + 6 * (f.n : Int) + 3 * (f.m : Int) + 4) ≤ 281474976710656 by omega)]
    rfl
  have hev := wz_ev anF fmE' sbtI suE f (6 + 6 * f.n) (svN f) (sv0 f)
  rw [gate_pos (ok f), fmE_of, h, gate_pos (sbt_spec f), hk, gate_pos (wsH_sub f), gate_pos (Sub.refl _), hsb, e1, anQ_t (an4_ok (by omega) _ _) hN0] at hev
  have ks := k_cons (kS_ok (P := Try.prog) (f := 10) (g := fmG fmE')) (k_cons (kS_ok (P := Try.prog) (f := 11) (g := sbtG sbtI)) k_nil)
  refine (gspecG (mem := []) e_nil ks (m_cons mA_ok (m_cons (mS_ok (P := Try.prog) (f := 13) (g := suG suE)) m_nil)) Try.func6 (by kernel_rfl) (by kernel_rfl) hL rfl (by kernel_rfl) hev).of_rows ⟨Or.inr ⟨5, 1, svN f + 4, _, _, rfl, rfl, fun q hq => ?_⟩, trivial⟩
  obtain ⟨r0, r1⟩ := suV_rng (sv0 f) (svN f)
  have hC := svC_eq f
  congr 2
  unfold svF anF
  by_cases hlt : q < svN f
  · rw [if_pos hlt, blt_t hlt]; rfl
  · rw [if_neg hlt, blt_no (by omega), cond_false]
    exact (an4_eq (by omega) (by omega) (by omega)).symm
theorem csave_fresh {f : Flm} (h : fmay f = 0) : FreshSpec Try.prog 6 [.agg f.c] (bOut (svN f + 4) (svF f) 0) := by
  have hF := fresh_rows (csave_G h) (by
    simp only [ownB, ownBL, List.getElem?_cons_zero, iA]
    rw [ble_t (show 0 + (svN f + 4) ≤ svN f + 4 by omega)]
    rfl) (fun k e sz n el hk i hi => by
      match k, hk with
      | 0, hk => cases hk; rfl
      | k + 1, hk => simp at hk)
  have e : frzT [.a 5 1 (svN f + 4) fun q => [yA (svF f q)]] (.tup [.osl 0 1 0 (svN f + 4), iA 0]) = bOut (svN f + 4) (svF f) 0 := by
    show AV.tup [.sl 1 (svN f + 4) fun i => [yA (svF f (0 + i))], iA 0] = AV.tup [.sl 1 (svN f + 4) fun i => [yA (svF f i)], iA 0]
    simp only [Nat.zero_add]
  rw [e] at hF
  exact hF
theorem csave_bad {f : Flm} (h : fmay f ≠ 0) : FSpec Try.prog 6 [.agg f.c] (.tup [.x (.slice none 0 0), iA (fmay f)]) := by
  refine gspec e_nil (k_cons (kS_ok (P := Try.prog) (f := 10) (g := fmG fmE')) (k_cons (kno_ok _) k_nil)) Try.func6 (by kernel_rfl) (by kernel_rfl) noL_ok rfl ((wz_ev0 fmE' f).trans ?_)
  rw [gate_pos (FMok_of cmay_spec f), fmE_of, beq_false_of_ne h]
  rfl
theorem csave_spec (f : Flm) : FSpec Try.prog 6 [.agg f.c] (bOut (savL f) (svF f) (fmay f)) := by
  by_cases h : fmay f = 0
  · have el : savL f = svN f + 4 := by unfold savL; rw [if_pos h]
    rw [el, h]
    exact (csave_fresh h).spec rfl rfl
  · have el : savL f = 0 := by unfold savL; rw [if_neg h]
    rw [el]
    exact bspec_bad (csave_bad h)
end Go.Proofs.Ytihkjdhnobeboaa
