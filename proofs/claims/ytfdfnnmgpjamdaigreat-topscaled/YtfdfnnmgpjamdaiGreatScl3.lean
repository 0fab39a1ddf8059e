/-
  Where a ray strikes a shape that is so many times as great: tubes; all kinds together; and that what is made of thousandths may be. Of no particular program.
-/
import Derived.Test.YtfdfnnmgpjamdaiGreatScl2
namespace Go.Proofs.YtfdfnnmgpjamdaiGreat
open Go.Ev

/-! ### A tube -/
/-- With 0 at the axis. -/
def flP (z : Nat) (v : Nat → Nat) : Nat → Nat := fun i => cond (i == z) 0 (v i)
theorem fl_sv {j k n z : Nat} {v w : Nat → Nat} (h : ∀ i, i < 3 → SV j k n (v i) (w i)) : ∀ i, i < 3 → SV j k n (flP z v i) (flP z w i) := fun i hi => by
  unfold flP; exact sv_cond _ (sv_zero _ _ _) (h i hi)
def tubO (z : Nat) (s r : Nat → Nat) : Nat → Nat := flP z fun i => fsub (r i) (s i)
def tubD (z : Nat) (r : Nat → Nat) : Nat → Nat := flP z fun i => r (3 + i)
def tubZ (z : Nat) (r : Nat → Nat) : Bool := feq (tubD z r 0) 0 && (feq (tubD z r 1) 0 && (feq (tubD z r 2) 0 && true))
def tubI (z : Nat) (s r : Nat → Nat) (n : Nat) : Nat := cond (!fgt (abI (tubO z s r) (tubD z r) (s 9)) n) n (abI (tubO z s r) (tubD z r) (s 9))
def tubX (z : Nat) (s r : Nat → Nat) (f : Nat) : Nat := cond (!flt (abO (tubO z s r) (tubD z r) (s 9)) f) f (abO (tubO z s r) (tubD z r) (s 9))
def tubOk (z : Nat) (s r : Nat → Nat) (n f : Nat) : Bool := cond (tubZ z r) (fle (dotP (tubO z s r) (tubO z s r)) (fmul (s 9) (s 9))) (cond (fge (abE (tubO z s r) (tubD z r) (s 9)) 0) (!fgt (tubI z s r n) (tubX z s r f)) false)
def tubT (z : Nat) (s r : Nat → Nat) (n f l : Nat) : Nat := cond (tubZ z r) (cond (fgt n l) n f) (cond (fgt (tubI z s r n) l) (tubI z s r n) (tubX z s r f))
theorem tube_same {j z : Nat} {s x r q : Nat → Nat} (hj : j ≤ 3) (hs : Us j 3 s x) (hR : U j (s 9) (x 9)) (hr : Us j 6 r q) (n f l : Nat) : tubOk z s r n f = tubOk z x q n f ∧ (tubOk z s r n f = true → tubT z s r n f l = tubT z x q n f l) := by
  have ho : ∀ i, i < 3 → SV j 1000 1091 (tubO z s r i) (tubO z x q i) := fl_sv fun i hi => (sv_sub (hr i (by omega)) (hs i hi) (by decide) (by decide) (by omega)).more (Nat.le_refl _) (by decide)
  have hd : ∀ i, i < 3 → SV j 1000 1090 (tubD z r i) (tubD z q i) := fl_sv fun i hi => (hr (3 + i) (by omega)).w
  have ez : tubZ z q = tubZ z r := by
    unfold tubZ
    rw [sc_feq (hd 0 (by decide)).sc (sc_zero _), sc_feq (hd 1 (by decide)).sc (sc_zero _), sc_feq (hd 2 (by decide)).sc (sc_zero _)]
  cases hz : tubZ z r
  · have hne : val (tubD z r 0) ≠ 0 ∨ val (tubD z r 1) ≠ 0 ∨ val (tubD z r 2) ≠ 0 := by
      unfold tubZ at hz
      rw [feq_z (hd 0 (by decide)).sc.nanx, feq_z (hd 1 (by decide)).sc.nanx, feq_z (hd 2 (by decide)).sc.nanx] at hz
      simp only [Bool.and_true, Bool.and_eq_false_iff, decide_eq_false_iff_not] at hz
      exact hz
    obtain ⟨e1, e2⟩ := about_same hj ho hd hR.w hne
    cases hg : fge (abE (tubO z s r) (tubD z r) (s 9)) 0
    · unfold tubOk
      rw [ez, hz, ← e1, hg]
      exact ⟨rfl, fun h => by cases h⟩
    · obtain ⟨a, b⟩ := e2 hg
      have eI : tubI z x q n = tubI z s r n := by unfold tubI; rw [← a]
      have eX : tubX z x q f = tubX z s r f := by unfold tubX; rw [← b]
      unfold tubOk tubT
      rw [ez, hz, ← e1, hg, eI, eX]
      exact ⟨rfl, fun _ => rfl⟩
  · have oo := sv_dot (q := 926) (r := 1108) ho ho (by decide) (by decide) (by decide) (by decide) (by decide) (by decide) (by omega) (by omega) (by omega)
    have rr := sv_mul (c := 1074) (q := 926) (r := 1096) rfl hR hR (by decide) (by decide) (by decide) (by decide) (by decide) (by decide) (by omega) (by omega) (by omega)
    unfold tubOk tubT
    rw [ez, hz]
    exact ⟨(sc_fle oo.sc rr.sc).symm, fun _ => rfl⟩

/-! ### Boxes around -/
def box1 (s : Nat → Nat) : Nat → Nat := ls [fsub (s 0) (s 9), fsub (s 1) (s 9), fsub (s 2) (s 9), fadd (s 0) (s 9), fadd (s 1) (s 9), fadd (s 2) (s 9)]
def box2 (s : Nat → Nat) : Nat → Nat := ls [s 0, s 1, s 2, s 3, s 4, s 5]
def box3 (s : Nat → Nat) : Nat → Nat := joinS (joinS (ls [s 0, s 1, s 2, s 0, s 1, s 2]) (ls [s 3, s 4, s 5, s 3, s 4, s 5])) (ls [s 6, s 7, s 8, s 6, s 7, s 8])
def tubA (z : Nat) (s : Nat → Nat) : Nat → Nat := flP z fun _ => s 9
def box5 (z : Nat) (s : Nat → Nat) : Nat → Nat := ls [fsub (lessS (s 0) (fadd (s 0) (s 3))) (tubA z s 0), fsub (lessS (s 1) (fadd (s 1) (s 4))) (tubA z s 1), fsub (lessS (s 2) (fadd (s 2) (s 5))) (tubA z s 2),
  fadd (moreS (s 0) (fadd (s 0) (s 3))) (tubA z s 0), fadd (moreS (s 1) (fadd (s 1) (s 4))) (tubA z s 1), fadd (moreS (s 2) (fadd (s 2) (s 5))) (tubA z s 2)]
theorem six {P : Nat → Prop} (h0 : P 0) (h1 : P 1) (h2 : P 2) (h3 : P 3) (h4 : P 4) (h5 : P 5) : ∀ i, i < 6 → P i := fun i hi => by
  match i, hi with
  | 0, _ => exact h0
  | 1, _ => exact h1
  | 2, _ => exact h2
  | 3, _ => exact h3
  | 4, _ => exact h4
  | 5, _ => exact h5
  | n + 6, h => omega
theorem less_sv {j k n a a' b b' : Nat} (ha : SV j k n a a') (hb : SV j k n b b') : SV j k n (lessS a b) (lessS a' b') := by
  unfold lessS; rw [sc_flt hb.sc ha.sc]; exact sv_cond _ hb ha
theorem more_sv {j k n a a' b b' : Nat} (ha : SV j k n a a') (hb : SV j k n b b') : SV j k n (moreS a b) (moreS a' b') := by
  unfold moreS; rw [sc_fgt hb.sc ha.sc]; exact sv_cond _ hb ha
section
variable {j : Nat} {s x : Nat → Nat} (hj : j ≤ 3)
include hj
theorem box1_w (hs : Us j 3 s x) (hR : U j (s 9) (x 9)) : Ws j 6 (box1 s) (box1 x) := by
  have a : ∀ i, i < 3 → W j (fsub (s i) (s 9)) (fsub (x i) (x 9)) := fun i hi => (sv_sub (hs i hi) hR (by decide) (by decide) (by omega)).more (Nat.le_refl _) (by decide)
  have b : ∀ i, i < 3 → W j (fadd (s i) (s 9)) (fadd (x i) (x 9)) := fun i hi => (sv_add (hs i hi) hR (by decide) (by decide) (by omega)).more (Nat.le_refl _) (by decide)
  exact six (a 0 (by decide)) (a 1 (by decide)) (a 2 (by decide)) (b 0 (by decide)) (b 1 (by decide)) (b 2 (by decide))
omit hj in
theorem box2_w (hs : Us j 6 s x) : Ws j 6 (box2 s) (box2 x) :=
  six (hs 0 (by decide)).w (hs 1 (by decide)).w (hs 2 (by decide)).w (hs 3 (by decide)).w (hs 4 (by decide)).w (hs 5 (by decide)).w
omit hj in
theorem box3_w (hs : Us j 9 s x) : Ws j 6 (box3 s) (box3 x) :=
  six (less_sv (less_sv (hs 0 (by decide)).w (hs 3 (by decide)).w) (hs 6 (by decide)).w) (less_sv (less_sv (hs 1 (by decide)).w (hs 4 (by decide)).w) (hs 7 (by decide)).w) (less_sv (less_sv (hs 2 (by decide)).w (hs 5 (by decide)).w) (hs 8 (by decide)).w)
    (more_sv (more_sv (hs 0 (by decide)).w (hs 3 (by decide)).w) (hs 6 (by decide)).w) (more_sv (more_sv (hs 1 (by decide)).w (hs 4 (by decide)).w) (hs 7 (by decide)).w) (more_sv (more_sv (hs 2 (by decide)).w (hs 5 (by decide)).w) (hs 8 (by decide)).w)
theorem box5_w {z : Nat} (hs : Us j 6 s x) (hR : U j (s 9) (x 9)) : Ws j 6 (box5 z s) (box5 z x) := by
  have e : ∀ i, i < 3 → SV j 1000 1086 (fadd (s i) (s (3 + i))) (fadd (x i) (x (3 + i))) := fun i hi => sv_add (hs i (by omega)) (hs (3 + i) (by omega)) (by decide) (by decide) (by omega)
  have u : ∀ i, i < 3 → SV j 1000 1086 (s i) (x i) := fun i hi => (hs i (by omega)).more (Nat.le_refl _) (by decide)
  have d : ∀ i, i < 3 → SV j 1000 1086 (tubA z s i) (tubA z x i) := fl_sv fun _ _ => hR.more (Nat.le_refl _) (by decide)
  have a : ∀ i, i < 3 → W j (fsub (lessS (s i) (fadd (s i) (s (3 + i)))) (tubA z s i)) (fsub (lessS (x i) (fadd (x i) (x (3 + i)))) (tubA z x i)) := fun i hi => (sv_sub (less_sv (u i hi) (e i hi)) (d i hi) (by decide) (by decide) (by omega)).more (Nat.le_refl _) (by decide)
  have b : ∀ i, i < 3 → W j (fadd (moreS (s i) (fadd (s i) (s (3 + i)))) (tubA z s i)) (fadd (moreS (x i) (fadd (x i) (x (3 + i)))) (tubA z x i)) := fun i hi => (sv_add (more_sv (u i hi) (e i hi)) (d i hi) (by decide) (by decide) (by omega)).more (Nat.le_refl _) (by decide)
  exact six (a 0 (by decide)) (a 1 (by decide)) (a 2 (by decide)) (b 0 (by decide)) (b 1 (by decide)) (b 2 (by decide))
end

/-! ### They may be -/
theorem nr_bd {n x : Nat} (h : Bd n x) (hn : n ≤ 1093) : Nr x := by
  have f := h.fin (by omega)
  have a := key_abs x
  unfold Bd pw at h
  have : (n - 51) * 4503599627370496 ≤ 1042 * 4503599627370496 := Nat.mul_le_mul_right _ (by omega)
  exact ⟨f, by omega, by omega⟩
theorem W.nr {j x y : Nat} (h : W j x y) (hj : j ≤ 3) : Nr x ∧ Nr y := ⟨nr_bd h.bd (by decide), nr_bd (h.bd' (by decide)) (by omega)⟩
theorem le_both {j x y x' y' : Nat} (hx : Sc j x x') (hy : Sc j y y') : key x ≤ key y ↔ key x' ≤ key y' := by
  have := sc_key_lt hy hx
  omega
theorem box_both {j : Nat} {b b' : Nat → Nat} (hj : j ≤ 3) (h : Ws j 6 b b') (hl : ∀ i, i < 3 → key (b i) ≤ key (b (3 + i))) : mayS b = 0 ∧ mayS b' = 0 := by
  constructor
  · exact box_fine ⟨fun i hi => ((h i (by omega)).nr hj).1, fun i hi => ((h (3 + i) (by omega)).nr hj).1, hl⟩
  · exact box_fine ⟨fun i hi => ((h i (by omega)).nr hj).2, fun i hi => ((h (3 + i) (by omega)).nr hj).2, fun i hi => (le_both (h i (by omega)).sc (h (3 + i) (by omega)).sc).1 (hl i hi)⟩
/-- Nought, or not too small. -/
def FarR (x : Nat) : Prop := rung x = 0 ∨ 4562254508917369340 ≤ rung x
def NotSmall (x : Nat) : Prop := rung x = 0 ∨ 4517329193108106637 ≤ rung x
theorem clean_ns {x : Nat} (h : Nr x) (hf : NotSmall x) : feq x (cleanS x) = true := by
  unfold cleanS
  have n1 : isNan 13740701229962882445 = false := by decide +kernel
  have n2 : isNan 4517329193108106637 = false := by decide +kernel
  have k1 : key 13740701229962882445 = -4517329193108106637 := by decide +kernel
  have k2 : key 4517329193108106637 = 4517329193108106637 := by decide +kernel
  rw [fgt_key h.nan n1, flt_key h.nan n2, k1, k2]
  have a := key_abs x
  rcases hf with e | e
  · rw [decide_eq_true (show -4517329193108106637 < key x by omega), decide_eq_true (show key x < 4517329193108106637 by omega), cond_true, cond_true, feq_key h.nan nan_z, key_z]
    exact decide_eq_true (by omega)
  · by_cases g : 0 ≤ key x
    · rw [decide_eq_false (show ¬ key x < 4517329193108106637 by omega)]
      have : (cond (decide (-4517329193108106637 < key x)) false false) = false := by cases decide (-4517329193108106637 < key x) <;> rfl
      rw [this, cond_false, feq_self, h.nan]; rfl
    · rw [decide_eq_false (show ¬ -4517329193108106637 < key x by omega), cond_false, cond_false, feq_self, h.nan]; rfl
theorem ray_fine2 {r : Nat → Nat} (hn : ∀ i, i < 6 → Nr (r i)) (hf : ∀ i, i < 3 → NotSmall (r (3 + i))) (nz : rung (r 3) ≠ 0 ∨ rung (r 4) ≠ 0 ∨ rung (r 5) ≠ 0) (hl : Nr (r 6)) (lp : 0 ≤ key (r 6)) : rayS r = 0 := by
  have d0 := hn 3 (by decide)
  have d1 := hn 4 (by decide)
  have d2 := hn 5 (by decide)
  have hF : rayF r = false := by
    unfold rayF
    rw [fine_mk (hn 0 (by decide)) (hn 1 (by decide)) (hn 2 (by decide)), fine_mk d0 d1 d2, near_of hl]; rfl
  have hZ : rayZ r = false := by
    unfold rayZ
    rw [feq_key d0.nan nan_z, feq_key d1.nan nan_z, feq_key d2.nan nan_z, key_z]
    simp only [Bool.and_true, Bool.and_eq_false_iff, decide_eq_false_iff_not, key_zero]
    exact nz
  have hC : rayC r = true := by
    unfold rayC
    rw [clean_ns d0 (hf 0 (by decide)), clean_ns d1 (hf 1 (by decide)), clean_ns d2 (hf 2 (by decide))]; rfl
  have hL : flt (r 6) 0 = false := by
    rw [flt_key hl.nan nan_z, key_z, decide_eq_false (by omega)]
  unfold rayS
  rw [hF, hZ, hC, hL]; rfl
theorem ray_both {j : Nat} {r q : Nat → Nat} (hj : j ≤ 3) (h : Us j 6 r q) (far : ∀ i, i < 3 → FarR (q (3 + i))) (nz : rung (r 3) ≠ 0 ∨ rung (r 4) ≠ 0 ∨ rung (r 5) ≠ 0) (hl : Nr (r 6)) (lp : 0 ≤ key (r 6)) (he : r 6 = q 6) : rayS r = 0 ∧ rayS q = 0 := by
  have z : ∀ i, i < 6 → (rung (r i) = 0 ↔ rung (q i) = 0) := fun i hi => by
    have a := (h i hi).sc.r
    have p := Nat.two_pow_pos 52
    generalize 2 ^ 52 = c at *
    generalize j * c = d at *
    rcases a with ⟨a1, a2⟩ | ⟨a1, a2⟩ <;> omega
  constructor
  · refine ray_fine2 (fun i hi => ((h i hi).w.nr hj).1) (fun i hi => ?_) nz hl lp
    have a := (h (3 + i) (by omega)).sc.r
    have p : 2 ^ 52 = 4503599627370496 := by decide
    rw [p] at a
    have hm : j * 4503599627370496 ≤ 13510798882111488 := Nat.mul_le_mul_right 4503599627370496 hj
    obtain ⟨d, hd⟩ : ∃ d, d = j * 4503599627370496 := ⟨_, rfl⟩
    rw [← hd] at a hm
    unfold NotSmall
    rcases far i hi with e | e <;> rcases a with ⟨a1, a2⟩ | ⟨a1, a2⟩ <;> omega
  · refine ray_fine2 (fun i hi => ((h i hi).w.nr hj).2) (fun i hi => ?_) ?_ (by rw [← he]; exact hl) (by rw [← he]; exact lp)
    · rcases far i hi with e | e
      · exact Or.inl e
      · exact Or.inr (by omega)
    · have z3 := z 3 (by decide)
      have z4 := z 4 (by decide)
      have z5 := z 5 (by decide)
      omega

/-! ### What is struck -/
def resV (K : Bool) (n f l : Nat) (ok : Bool) (t : Nat) : Value := .tuple #[F (cond K (cond ok (cond (fge t l) (cond (flt t n) n (cond (fgt t f) f t)) 0) 0) 0), B (cond K (cond ok (fge t l) false) false), I 0]
def ok1 (s r : Nat → Nat) : Bool := fge (abE (fun i => fsub (r i) (s i)) (vB r) (s 9)) 0
def t1 (s r : Nat → Nat) : Nat := cond (fge (abI (fun i => fsub (r i) (s i)) (vB r) (s 9)) (r 6)) (abI (fun i => fsub (r i) (s i)) (vB r) (s 9)) (abO (fun i => fsub (r i) (s i)) (vB r) (s 9))
def t2 (n f l : Nat) : Nat := cond (fgt n l) n f
/-- What Strike gives, by kind (0: an axis). -/
def boxK (k z : Nat) (s : Nat → Nat) : Nat → Nat := match k with
  | 2 => box2 s
  | 3 => box3 s
  | 5 => box5 z s
  | _ => box1 s
def okK (k z : Nat) (s r : Nat → Nat) : Bool := match k with
  | 2 => true
  | 3 => triOk z s r
  | 4 => plOk s r
  | 5 => tubOk z s r (meetN (box5 z s) r) (meetF (box5 z s) r)
  | _ => ok1 s r
def tK (k z : Nat) (s r : Nat → Nat) : Nat := match k with
  | 2 => t2 (meetN (box2 s) r) (meetF (box2 s) r) (r 6)
  | 3 => triT z s r
  | 4 => plT s r
  | 5 => tubT z s r (meetN (box5 z s) r) (meetF (box5 z s) r) (r 6)
  | _ => t1 s r
def hitV (k z : Nat) (s r : Nat → Nat) : Value := resV (meetK (boxK k z s) r) (meetN (boxK k z s) r) (meetF (boxK k z s) r) (r 6) (okK k z s r) (tK k z s r)
/-- A shape and a ray, and both so many times as great. -/
structure Grown (j k : Nat) (s x r q : Nat → Nat) : Prop where
  j3 : j ≤ 3
  a : Us j 3 s x
  R : U j (s 9) (x 9)
  b : k ≠ 4 → ∀ i, i < 3 → U j (s (3 + i)) (x (3 + i))
  b4 : k = 4 → (∀ i, i < 3 → x (3 + i) = s (3 + i)) ∧ Bp (vB s)
  c : ∀ i, i < 3 → U j (s (6 + i)) (x (6 + i))
  ray : Us j 6 r q
  l : r 6 = q 6
theorem Grown.six {j k : Nat} {s x r q : Nat → Nat} (h : Grown j k s x r q) (hk : k ≠ 4) : Us j 6 s x := fun i hi => by
  by_cases g : i < 3
  · exact h.a i g
  · have := h.b hk (i - 3) (by omega)
    rwa [show 3 + (i - 3) = i by omega] at this
theorem Grown.nine {j k : Nat} {s x r q : Nat → Nat} (h : Grown j k s x r q) (hk : k ≠ 4) : Us j 9 s x := fun i hi => by
  by_cases g : i < 6
  · exact h.six hk i g
  · have := h.c (i - 6) (by omega)
    rwa [show 6 + (i - 6) = i by omega] at this
theorem Grown.box {j k z : Nat} {s x r q : Nat → Nat} (h : Grown j k s x r q) : Ws j 6 (boxK k z s) (boxK k z x) := by
  unfold boxK
  split
  · exact box2_w (h.six (by decide))
  · exact box3_w (h.nine (by decide))
  · exact box5_w h.j3 (h.six (by decide)) h.R
  · exact box1_w h.j3 h.a h.R
theorem hit_same {j k : Nat} {s x r q : Nat → Nat} {z : Nat} (h : Grown j k s x r q) (hz : k = 3 → z < 3 ∧ val (r (3 + z)) ≠ 0) (h1 : badS (boxK k z s) r = false) (h2 : badS (boxK k z x) q = false) (hne : rung (r 3) ≠ 0 ∨ rung (r 4) ≠ 0 ∨ rung (r 5) ≠ 0) : hitV k z s r = hitV k z x q := by
  obtain ⟨m1, m2, m3⟩ := meet_scaled h.j3 h.box h.ray.ws h.l h1 h2
  have fin : ∀ {o o' : Bool} {t t' : Nat}, o = o' → (o = true → t = t') → ∀ K n f l, resV K n f l o t = resV K n f l o' t' := by
    intro o o' t t' e1 e2 K n f l
    subst e1
    cases o
    · rfl
    · rw [e2 rfl]
  have nv : ∀ i, i < 3 → (rung (r (3 + i)) ≠ 0 ↔ val (vB r i) ≠ 0) := fun i _ => not_congr val_zero.symm
  unfold hitV
  rw [← m1, ← m2, ← m3, ← h.l]
  refine fin (o := okK k z s r) (o' := okK k z x q) ?_ ?_ _ _ _ _
  · unfold okK
    split
    · rfl
    · exact (tri_same h.j3 (h.nine (by decide)) h.ray (hz rfl).1 (hz rfl).2).1
    · obtain ⟨e, b⟩ := h.b4 rfl
      exact (plate_same h.j3 h.a h.R e b h.ray).1
    · have e2 : meetN (box5 z s) r = meetN (box5 z x) q := m2
      have e3 : meetF (box5 z s) r = meetF (box5 z x) q := m3
      rw [← e2, ← e3]
      exact (tube_same h.j3 h.a h.R h.ray _ _ 0).1
    · refine (about_same h.j3 (fun i hi => (sv_sub (h.ray i (by omega)) (h.a i hi) (by decide) (by decide) (by have := h.j3; omega)).more (Nat.le_refl _) (by decide)) (fun i hi => (h.ray (3 + i) (by omega)).w) h.R.w ?_).1
      have a0 := nv 0 (by decide)
      have a1 := nv 1 (by decide)
      have a2 := nv 2 (by decide)
      rcases hne with e | e | e
      · exact Or.inl (a0.1 e)
      · exact Or.inr (Or.inl (a1.1 e))
      · exact Or.inr (Or.inr (a2.1 e))
  · unfold okK tK
    split
    · intro _
      have e2 : meetN (box2 s) r = meetN (box2 x) q := m2
      have e3 : meetF (box2 s) r = meetF (box2 x) q := m3
      rw [← e2, ← e3, ← h.l]
    · intro hk
      exact (tri_same h.j3 (h.nine (by decide)) h.ray (hz rfl).1 (hz rfl).2).2 hk
    · intro hk
      obtain ⟨e, b⟩ := h.b4 rfl
      refine (plate_same h.j3 h.a h.R e b h.ray).2 ?_
      unfold plOk at hk
      cases g : feq (plD s r) 0
      · rfl
      · rw [g] at hk; cases hk
    · intro hk
      have e2 : meetN (box5 z s) r = meetN (box5 z x) q := m2
      have e3 : meetF (box5 z s) r = meetF (box5 z x) q := m3
      rw [← e2, ← e3, ← h.l]
      exact (tube_same h.j3 h.a h.R h.ray _ _ _).2 hk
    · intro hk
      have hab := (about_same h.j3 (o := fun i => fsub (r i) (s i)) (o' := fun i => fsub (q i) (x i)) (d := vB r) (d' := vB q) (fun i hi => (sv_sub (h.ray i (by omega)) (h.a i hi) (by decide) (by decide) (by have := h.j3; omega)).more (Nat.le_refl _) (by decide)) (fun i hi => (h.ray (3 + i) (by omega)).w) h.R.w (by
        have a0 := nv 0 (by decide)
        have a1 := nv 1 (by decide)
        have a2 := nv 2 (by decide)
        rcases hne with e | e | e
        · exact Or.inl (a0.1 e)
        · exact Or.inr (Or.inl (a1.1 e))
        · exact Or.inr (Or.inr (a2.1 e)))).2 hk
      unfold t1
      rw [← hab.1, ← hab.2, ← h.l]
end Go.Proofs.YtfdfnnmgpjamdaiGreat
