/-
  Rsz Rsa Rsb Rsc Sm1 Sm2 Sm3 Sm4 Sm5 Sm6, one behind the other.
-/
import Derived.Test.YtgijfbcfajhmlaaM4
import Derived.Test.YtgijfbcfajhmlaaM5
namespace Go.Proofs.Ytgijfbcfajhmlaa
open Go.Gv
open Go.Ev (wB wB_pos wB_eq dg dg_lt vl nw nw_lt nw_le nw_ge nw_zero pw_pos)

/-- The words of a number. -/
def Zw (x : Int) : Nat := nw x.natAbs
theorem Zw_neg (x : Int) : Zw (-x) = Zw x := by unfold Zw; rw [Int.natAbs_neg]
theorem Zw_mul (x y : Int) : Zw (x * y) ≤ Zw x + Zw y := by
  unfold Zw
  rw [Int.natAbs_mul]
  refine nw_le ?_
  rw [Nat.pow_add]
  have h1 := nw_lt x.natAbs
  have h2 := nw_lt y.natAbs
  rcases Nat.eq_zero_or_pos y.natAbs with h | h
  · rw [h, Nat.mul_zero]
    exact Nat.mul_pos (pw_pos _) (pw_pos _)
  · exact Nat.lt_of_lt_of_le ((Nat.mul_lt_mul_right h).2 h1) (Nat.mul_le_mul_left _ (Nat.le_of_lt h2))
theorem Zw_add {x y : Int} {B : Nat} (hx : Zw x ≤ B) (hy : Zw y ≤ B) : Zw (x + y) ≤ B + 1 := by
  unfold Zw at *
  refine nw_le ?_
  have h1 : x.natAbs < wB ^ B := Nat.lt_of_lt_of_le (nw_lt _) (Nat.pow_le_pow_right wB_pos hx)
  have h2 : y.natAbs < wB ^ B := Nat.lt_of_lt_of_le (nw_lt _) (Nat.pow_le_pow_right wB_pos hy)
  have h3 : wB ^ B * 2 ≤ wB ^ B * wB := Nat.mul_le_mul_left _ (by decide)
  rw [Nat.pow_succ]
  have := Int.natAbs_add_le x y
  omega
theorem Zw_one {x : Int} (h : x.natAbs < 18446744073709551616) : Zw x ≤ 1 := nw_le (by rw [Nat.pow_one]; exact h)
theorem Sm_of {x : Int} (h : Zw x ≤ 1000000) : Sm x := by unfold Sm; unfold Zw at h; omega
theorem Zw_zero : Zw 0 = 0 := rfl
theorem Zw_hor {f : Nat → Int} {x : Int} {B X : Nat} (hf : ∀ i, Zw (f i) ≤ B) (hx : Zw x ≤ X) : ∀ d i, Zw (hor f x i d) ≤ B + d * (X + 1)
  | 0, _ => by show Zw 0 ≤ _; rw [Zw_zero]; exact Nat.zero_le _
  | d + 1, i => by
    have h := Zw_hor hf hx d (i + 1)
    have h1 : Zw (hor f x (i + 1) d * x) ≤ B + d * (X + 1) + X := Nat.le_trans (Zw_mul _ _) (Nat.add_le_add h hx)
    have h2 := hf i
    show Zw (hor f x (i + 1) d * x + f i) ≤ _
    refine Nat.le_trans (Zw_add (B := B + d * (X + 1) + X) h1 (by omega)) ?_
    rw [Nat.add_mul]
    omega
theorem Zw_dsl {f : Nat → Int} {n B : Nat} (hc : Cn n f) (hn : n ≤ 1000000) (hf : ∀ i, Zw (f i) ≤ B) (q : Nat) : Zw (dsl f q) ≤ B + 1 := by
  unfold dsl
  by_cases h : n ≤ q + 1
  · rw [hc (q + 1) h, Int.zero_mul, Zw_zero]; exact Nat.zero_le _
  · exact Nat.le_trans (Zw_mul _ _) (Nat.add_le_add (hf _) (Zw_one (by omega)))
theorem dit_Cn {n : Nat} {f : Nat → Int} (hc : Cn n f) : ∀ j, Cn (n - j) (dit f j)
  | 0 => hc
  | j + 1 => by
    have := dsl_Cn (dit_Cn hc j)
    rw [Nat.sub_sub] at this
    exact this
theorem Zw_dit {f : Nat → Int} {n B : Nat} (hc : Cn n f) (hn : n ≤ 1000000) (hf : ∀ i, Zw (f i) ≤ B) : ∀ j q, Zw (dit f j q) ≤ B + j
  | 0, q => hf q
  | j + 1, q => by
    have := Zw_dsl (dit_Cn hc j) (by omega) (Zw_dit hc hn hf j) q
    show Zw (dsl (dit f j) q) ≤ _
    omega
/-- Signs beside a place can be worked out. -/
theorem HB_of {n B : Nat} {f : Nat → Int} {x : Int} (hc : Cn n f) (hn : n ≤ 1000) (hB : B ≤ 100000) (hf : ∀ i, Zw (f i) ≤ B) (hx : Zw x ≤ 1) (j : Nat) (hj : j ≤ n) : HB (n - j) (dit f j) x := by
  have hd := Zw_dit hc (by omega) hf j
  refine ⟨by omega, Sm_of (by omega), fun i => Sm_of (Nat.le_trans (hd i) (by omega)), fun t ht => ?_⟩
  have h1 := Zw_hor hd hx t (n - j - t)
  exact ⟨Sm_of (by omega), Sm_of (Nat.le_trans (Zw_mul _ _) (by omega))⟩
theorem Zw_rst {f g : Nat → Int} {n m B G : Nat} (hf : ∀ i, Zw (f i) ≤ B) (hg : ∀ i, Zw (g i) ≤ G) (q : Nat) : Zw (rst f n g m q) ≤ B + G + 1 := by
  unfold rst
  have ht : Zw (tpA g m) ≤ G := by unfold tpA Zw; exact hg (m - 1)
  have hl : Zw (ldA f n g m) ≤ B := by
    unfold ldA
    split
    · rw [Zw_neg]; exact hf _
    · exact hf _
  refine Zw_add (Nat.le_trans (Zw_mul _ _) (Nat.add_le_add (hf q) ht)) ?_
  split
  · exact Nat.le_trans (Zw_mul _ _) (Nat.add_le_add hl (hg _))
  · rw [Zw_zero]; exact Nat.zero_le _
theorem Zw_rit {g : Nat → Int} {m B G : Nat} (hg : ∀ i, Zw (g i) ≤ G) {p : Ply} (hf : ∀ i, Zw (p.2 i) ≤ B) : ∀ t i, Zw ((rit m g t p).2 i) ≤ B + t * (G + 1)
  | 0, i => by rw [Nat.zero_mul]; exact hf i
  | t + 1, i => by
    rw [rit_succ]
    have := Zw_rst (n := (rit m g t p).1) (m := m) (Zw_rit (m := m) hg hf t) hg i
    show Zw (rst (rit m g t p).2 (rit m g t p).1 g m i) ≤ _
    rw [Nat.add_mul]
    omega
/-! ### The chain -/
theorem cq_len {p : Ply} {k : Nat} (hk : ∀ j, j < k → 0 < (cq p (j + 1)).1) : ∀ j, j ≤ k → (cq p (j + 1)).1 + j + 1 ≤ p.1 ∨ (cq p (j + 1)).1 = 0
  | 0, _ => by show p.1 - 1 + 0 + 1 ≤ p.1 ∨ p.1 - 1 = 0; omega
  | j + 1, hj => by
    have h1 := hk j (by omega)
    have ih := cq_len hk j (by omega)
    obtain ⟨_, h2⟩ := rcn_ok (m := (cq p (j + 1)).1) h1 (cq p (j + 1)).2 (cq p j).1 (cq p j) (Nat.le_refl _)
    have h2 : (cq p (j + 2)).1 < (cq p (j + 1)).1 := h2
    show (cq p (j + 2)).1 + (j + 1) + 1 ≤ p.1 ∨ (cq p (j + 2)).1 = 0
    omega
/-- How many words at most, from member to member. -/
def bz (B : Nat) : Nat → Nat
  | 0 => B
  | 1 => B + 1
  | j + 2 => bz B j + 5 * (bz B (j + 1) + 1)
theorem Zw_cq {p : Ply} {k B : Nat} (hn : p.1 ≤ 5) (hc : Cn p.1 p.2) (hB : ∀ i, Zw (p.2 i) ≤ B) (hk : ∀ j, j < k → 0 < (cq p (j + 1)).1) : ∀ j, j ≤ k → (∀ i, Zw ((cq p j).2 i) ≤ bz B j) ∧ ∀ i, Zw ((cq p (j + 1)).2 i) ≤ bz B (j + 1)
  | 0, _ => ⟨hB, fun i => Zw_dsl hc (by omega) hB i⟩
  | j + 1, hj => by
    obtain ⟨h1, h2⟩ := Zw_cq hn hc hB hk j (by omega)
    refine ⟨h2, fun i => ?_⟩
    have hl : (cq p j).1 ≤ 5 := by
      cases j with
      | zero => exact hn
      | succ j => rcases cq_len hk j (by omega) with h | h <;> omega
    have hr := rcn_le (cq p (j + 1)).1 (cq p (j + 1)).2 (cq p j).1 (cq p j)
    have := Zw_rit (m := (cq p (j + 1)).1) h2 h1 (rcn (cq p (j + 1)).1 (cq p (j + 1)).2 (cq p j).1 (cq p j)) i
    show Zw (-(rrem (cq p (j + 1)).1 (cq p (j + 1)).2 (cq p j)).2 i) ≤ _
    rw [Zw_neg]
    refine Nat.le_trans this ?_
    show _ ≤ bz B j + 5 * (bz B (j + 1) + 1)
    exact Nat.add_le_add_left (Nat.mul_le_mul_right _ (by omega)) _
theorem bz_le {B : Nat} (hB : B ≤ 50) : ∀ j, j ≤ 5 → bz B j ≤ 50000
  | 0, _ => by show B ≤ _; omega
  | 1, _ => by show B + 1 ≤ _; omega
  | 2, _ => by simp only [bz]; omega
  | 3, _ => by simp only [bz]; omega
  | 4, _ => by simp only [bz]; omega
  | 5, _ => by simp only [bz]; omega
  | j + 6, h => by omega
theorem CB_of {p : Ply} {k B : Nat} (hn : p.1 ≤ 5) (hc : Cn p.1 p.2) (hb : B ≤ 50) (hB : ∀ i, Zw (p.2 i) ≤ B) (hk : ∀ j, j < k → 0 < (cq p (j + 1)).1) (hk4 : k ≤ 4) : CB p k := by
  have z := Zw_cq hn hc hB hk
  have b : ∀ j, j ≤ 5 → bz B j ≤ 50000 := bz_le hb
  have len : ∀ j, j ≤ k → (cq p j).1 ≤ 5 := fun j hj => by
    cases j with
    | zero => exact hn
    | succ j => rcases cq_len hk j (by omega) with h | h <;> omega
  have rt : ∀ j, j < k → ∀ t, t ≤ (cq p j).1 → ∀ i, Zw ((rit (cq p (j + 1)).1 (cq p (j + 1)).2 t (cq p j)).2 i) ≤ 400000 := fun j hj t ht i => by
    have h := Zw_rit (m := (cq p (j + 1)).1) (z j (by omega)).2 (z j (by omega)).1 t i
    have hl := len j (by omega)
    have b1 := b j (by omega)
    have b2 := b (j + 1) (by omega)
    have : t * (bz B (j + 1) + 1) ≤ 5 * (50000 + 1) := Nat.mul_le_mul (by omega) (by omega)
    omega
  refine ⟨by omega, hc, fun i => Sm_of (Nat.le_trans (hB i) (by omega)), fun j hj i => ?_, fun j hj t ht i => Sm_of (Nat.le_trans (rt j hj t ht i) (by decide)), fun j hj t ht i l => ?_⟩
  · have := (z j (by omega)).2 i
    have b2 := b (j + 1) (by omega)
    exact Sm_of (by omega)
  · have h1 := rt j hj t ht i
    have h2 := (z j (by omega)).2 l
    have b2 := b (j + 1) (by omega)
    exact Sm_of (Nat.le_trans (Zw_mul _ _) (by omega))
end Go.Proofs.Ytgijfbcfajhmlaa

namespace Go.Proofs.Ytgijfbcfajhmlaa
open Go.Gv

/-- Its highest coefficient is not nought. -/
def Tp (p : Ply) : Prop := p.1 = 0 ∨ p.2 (p.1 - 1) ≠ 0
theorem dit_at (f : Nat → Int) : ∀ j q, ∃ c : Int, 0 < c ∧ dit f j q = f (q + j) * c
  | 0, q => ⟨1, by decide, by show f q = f q * 1; rw [Int.mul_one]⟩
  | j + 1, q => by
    obtain ⟨c, h1, h2⟩ := dit_at f j (q + 1)
    refine ⟨c * ((q + 1 : Nat) : Int), Int.mul_pos h1 (by omega), ?_⟩
    show dit f j (q + 1) * ((q + 1 : Nat) : Int) = _
    rw [h2, Int.mul_assoc, show q + 1 + j = q + (j + 1) by omega]
theorem hv_last {n : Nat} {f : Nat → Int} (hn : 0 < n) (ht : f (n - 1) ≠ 0) (x : Int) : hv f n x (n - 1) ≠ 0 := by
  obtain ⟨c, h1, h2⟩ := dit_at f (n - 1) 0
  unfold hv
  rw [show n - (n - 1) = 1 by omega]
  show 0 * x + dit f (n - 1) 0 ≠ 0
  rw [h2, Int.zero_mul, Int.zero_add, Nat.zero_add]
  exact Int.mul_ne_zero ht (by omega)
/-- Which is the first that is not nought? -/
def fnz (g : Nat → Int) : Nat → Nat
  | 0 => 0
  | k + 1 => if fnz g k < k then fnz g k else if g k ≠ 0 then k else k + 1
theorem fnz_ok (g : Nat → Int) : ∀ k, fnz g k ≤ k ∧ (∀ j, j < fnz g k → g j = 0) ∧ (fnz g k < k → g (fnz g k) ≠ 0)
  | 0 => ⟨Nat.le_refl _, fun j hj => by have : j < 0 := hj; omega, fun h => by have : 0 < 0 := h; omega⟩
  | k + 1 => by
    obtain ⟨h1, h2, h3⟩ := fnz_ok g k
    unfold fnz
    by_cases hk : fnz g k < k
    · rw [if_pos hk]; exact ⟨by omega, h2, fun _ => h3 hk⟩
    · have e : fnz g k = k := by omega
      rw [if_neg hk]
      rw [e] at h2
      by_cases hg : g k ≠ 0
      · rw [if_pos hg]; exact ⟨by omega, h2, fun _ => hg⟩
      · rw [if_neg hg]
        refine ⟨Nat.le_refl _, fun j hj => ?_, fun h => by omega⟩
        by_cases hj2 : j = k
        · rw [hj2]; exact Decidable.byContradiction hg
        · exact h2 j (by omega)
theorem fnz_lt {g : Nat → Int} {k j : Nat} (hj : j < k) (h : g j ≠ 0) : fnz g k < k := by
  obtain ⟨h1, h2, _⟩ := fnz_ok g k
  rcases Nat.lt_or_ge (fnz g k) k with hl | hg
  · exact hl
  · exact absurd (h2 j (by omega)) h
/-- The sign on one side of a place, however near. -/
def sgSd (side : Int) (p : Ply) (x : Int) : Int := (hv p.2 p.1 x (fnz (hv p.2 p.1 x) p.1)).sign * pw1 side (fnz (hv p.2 p.1 x) p.1)
section
variable {p : Ply} {B : Nat} {x : Int} (hp : 0 < p.1) (ht : Tp p)
include hp ht
theorem nz_at (x : Int) : fnz (hv p.2 p.1 x) p.1 < p.1 ∧ (∀ j, j < fnz (hv p.2 p.1 x) p.1 → hv p.2 p.1 x j = 0) ∧ hv p.2 p.1 x (fnz (hv p.2 p.1 x) p.1) ≠ 0 := by
  have htop : p.2 (p.1 - 1) ≠ 0 := ht.resolve_left (by omega)
  have hl := fnz_lt (g := hv p.2 p.1 x) (show p.1 - 1 < p.1 by omega) (hv_last hp htop x)
  obtain ⟨_, h2, h3⟩ := fnz_ok (hv p.2 p.1 x) p.1
  exact ⟨hl, h2, h3 hl⟩
theorem sgSd_one {side : Int} (hs : side = 1 ∨ side = -1) (x : Int) : sgSd side p x = 1 ∨ sgSd side p x = -1 := by
  obtain ⟨_, _, h3⟩ := nz_at hp ht x
  unfold sgSd
  rcases sign_cases (hv p.2 p.1 x (fnz (hv p.2 p.1 x) p.1)) with ⟨_, h⟩ | ⟨h, _⟩ | ⟨_, h⟩
  · rcases pw1_small hs (fnz (hv p.2 p.1 x) p.1) with e | e <;> rw [h, e] <;> decide
  · exact absurd h h3
  · rcases pw1_small hs (fnz (hv p.2 p.1 x) p.1) with e | e <;> rw [h, e] <;> decide
theorem ahP_spec (hc : Cn p.1 p.2) (hn : p.1 ≤ 1000) (hB : B ≤ 100000) (hf : ∀ i, Zw (p.2 i) ≤ B) (hx : Zw x ≤ 1) : FSpec Try.prog 54 [PlyA p, wA x] (iA (sgSd (-1) p x)) := by
  obtain ⟨h1, h2, h3⟩ := nz_at hp ht x
  exact ah_spec (fun j hj => HB_of hc hn hB hf hx j (by omega)) h2 h3
theorem bhP_spec (hc : Cn p.1 p.2) (hn : p.1 ≤ 1000) (hB : B ≤ 100000) (hf : ∀ i, Zw (p.2 i) ≤ B) (hx : Zw x ≤ 1) : FSpec Try.prog 37 [PlyA p, wA x] (iA (sgSd 1 p x)) := by
  obtain ⟨h1, h2, h3⟩ := nz_at hp ht x
  exact bh_spec (fun j hj => HB_of hc hn hB hf hx j (by omega)) h2 h3
end
/-! ### The chain's members -/
theorem rit_Tp {m : Nat} {g : Nat → Int} {p : Ply} (ht : Tp p) : ∀ t, Tp (rit m g t p)
  | 0 => ht
  | t + 1 => by
    rw [rit_succ]
    show tl (rst (rit m g t p).2 (rit m g t p).1 g m) ((rit m g t p).1 - 1) = 0 ∨ _
    by_cases h : tl (rst (rit m g t p).2 (rit m g t p).1 g m) ((rit m g t p).1 - 1) = 0
    · exact Or.inl h
    · exact Or.inr (tl_top _ _ h)
theorem cq_Tp {p : Ply} (ht : Tp p) : ∀ j, Tp (cq p j) ∧ Tp (cq p (j + 1))
  | 0 => by
    refine ⟨ht, ?_⟩
    show p.1 - 1 = 0 ∨ dsl p.2 (p.1 - 1 - 1) ≠ 0
    by_cases h : p.1 ≤ 1
    · exact Or.inl (by omega)
    · right
      unfold dsl
      rw [show p.1 - 1 - 1 + 1 = p.1 - 1 by omega]
      exact Int.mul_ne_zero (ht.resolve_left (by omega)) (by omega)
  | j + 1 => by
    obtain ⟨h1, h2⟩ := cq_Tp ht j
    refine ⟨h2, ?_⟩
    have := rit_Tp (m := (cq p (j + 1)).1) (g := (cq p (j + 1)).2) h1 (rcn (cq p (j + 1)).1 (cq p (j + 1)).2 (cq p j).1 (cq p j))
    rcases this with h | h
    · exact Or.inl h
    · right
      show -(rrem (cq p (j + 1)).1 (cq p (j + 1)).2 (cq p j)).2 ((rrem (cq p (j + 1)).1 (cq p (j + 1)).2 (cq p j)).1 - 1) ≠ 0
      have h : (rrem (cq p (j + 1)).1 (cq p (j + 1)).2 (cq p j)).2 ((rrem (cq p (j + 1)).1 (cq p (j + 1)).2 (cq p j)).1 - 1) ≠ 0 := h
      omega
/-- How long the chain is: the last member's number. -/
theorem cq_end (p : Ply) : ∃ k, k ≤ p.1 ∧ (∀ j, j < k → 0 < (cq p (j + 1)).1) ∧ (cq p (k + 1)).1 = 0 := by
  rcases all_or_first (fun j => decide (0 < (cq p (j + 1)).1)) (p.1 + 1) with hl | ⟨K, hK, hp, hq⟩
  · exfalso
    have h := cq_len (p := p) (k := p.1) (fun j hj => by simpa using hl j (by omega)) p.1 (Nat.le_refl _)
    have := hl p.1 (by omega)
    simp at this
    omega
  · exact ⟨K, by omega, fun j hj => by simpa using hq j hj, by simpa using hp⟩
end Go.Proofs.Ytgijfbcfajhmlaa

namespace Go.Proofs.Ytgijfbcfajhmlaa
open Go.Gv

/-- The polynomial whose roots are at finer places. -/
def finP (p : Ply) : Ply := (p.1, pfin p.2 p.1)
theorem Zw_pow : ∀ j : Nat, Zw ((65536 : Int) ^ j) ≤ j + 1
  | 0 => by rw [Int.pow_zero]; exact Zw_one (by decide)
  | j + 1 => by
    rw [Int.pow_succ]
    exact Nat.le_trans (Zw_mul _ _) (Nat.add_le_add (Zw_pow j) (Zw_one (by decide)))
theorem fin_Tp {p : Ply} (ht : Tp p) : Tp (finP p) := by
  rcases ht with h | h
  · exact Or.inl h
  · right
    show p.2 (p.1 - 1) * 65536 ^ (p.1 - 1 - (p.1 - 1)) ≠ 0
    rw [Nat.sub_self, Int.pow_zero, Int.mul_one]
    exact h
theorem fin_Zw {p : Ply} {B : Nat} (hn : p.1 ≤ 5) (hB : ∀ i, Zw (p.2 i) ≤ B) (i : Nat) : Zw ((finP p).2 i) ≤ B + 5 := by
  have h := Zw_pow (p.1 - 1 - i)
  exact Nat.le_trans (Zw_mul _ _) (Nat.add_le_add (hB i) (by omega))
/-- How often signs change beside a place. -/
def Nsd (side : Int) (P : Ply) (k : Nat) (a : Int) : Int := cgC (fun q => sgSd side (cq P q) a) (k + 1)
/-- How long the chain of a polynomial is. -/
noncomputable def chN' (P : Ply) : Nat := (cq_end P).choose
theorem chN'_ok (P : Ply) : chN' P ≤ P.1 ∧ (∀ j, j < chN' P → 0 < (cq P (j + 1)).1) ∧ (cq P (chN' P + 1)).1 = 0 := (cq_end P).choose_spec
theorem chN'_le (P : Ply) (hn : 0 < P.1) : chN' P + 1 ≤ P.1 := by
  obtain ⟨h1, h2, _⟩ := chN'_ok P
  cases hk : chN' P with
  | zero => omega
  | succ j =>
    rw [hk] at h2
    have h := cq_len h2 j (by omega)
    have := h2 j (by omega)
    omega
noncomputable def rtN (P : Ply) (a : Int) : Int := Nsd (-1) P (chN' P) a
noncomputable def rtC (P : Ply) (a : Int) : Int := Nsd 1 P (chN' P) a
/-- The places of the code. -/
noncomputable def plcP (p : Ply) (lo hi : Int) : List Int := plcs (rtN (finP p)) (sgSd (-1) (finP p)) (rtC (finP p) hi) lo hi
section
variable {p : Ply} {B : Nat} (hn2 : 2 ≤ p.1) (hn : p.1 ≤ 5) (hc : Cn p.1 p.2) (ht : Tp p) (hB : B ≤ 45) (hf : ∀ i, Zw (p.2 i) ≤ B)
include hn2 hn hc ht hB hf
theorem mem_ok {a : Int} (ha : -2000000000000000 ≤ a) (hb : a ≤ 2000000000000000) (q : Nat) (hq : q < chN' (finP p) + 1) : FSpec Try.prog 54 [PlyA (cq (finP p) q), wA a] (iA (sgSd (-1) (cq (finP p) q) a)) ∧ FSpec Try.prog 37 [PlyA (cq (finP p) q), wA a] (iA (sgSd 1 (cq (finP p) q) a)) ∧ 0 < (cq (finP p) q).1 := by
  obtain ⟨h1, h2, h3⟩ := chN'_ok (finP p)
  have hN : (finP p).1 = p.1 := rfl
  have hle := chN'_le (finP p) (by omega)
  have hC : Cn (finP p).1 (finP p).2 := fin_Cn hc
  have hZ := fin_Zw hn hf
  have z := Zw_cq (B := B + 5) (by omega) hC hZ h2 q (by omega)
  have bq := bz_le (B := B + 5) (by omega) q (by omega)
  have cb := CB_of (B := B + 5) (by omega) hC (by omega) hZ h2 (by omega)
  have ok := cq_ok cb h2 q (by omega)
  have hpos : 0 < (cq (finP p) q).1 := by
    cases q with
    | zero => show 0 < p.1; omega
    | succ q => exact h2 q (by omega)
  have hl : (cq (finP p) q).1 ≤ 1000 := by
    cases q with
    | zero => show p.1 ≤ 1000; omega
    | succ q => rcases cq_len h2 q (by omega) with h | h <;> omega
  have tq := (cq_Tp (fin_Tp ht) q).1
  have hx : Zw a ≤ 1 := Zw_one (by omega)
  exact ⟨ahP_spec hpos tq ok.1.1 hl (by omega) z.1 hx, bhP_spec hpos tq ok.1.1 hl (by omega) z.1 hx, hpos⟩
theorem sg_ok {lo hi : Int} (hlo : -2000000000000000 ≤ lo) (hhi : hi ≤ 2000000000000000) (mono : ∀ a b, lo ≤ a → a ≤ b → b ≤ hi → rtN (finP p) b ≤ rtN (finP p) a) : SgOk (chN' (finP p) + 1) (cq (finP p)) (rtN (finP p)) (sgSd (-1) (finP p)) lo hi := by
  have hle := chN'_le (finP p) (show 0 < p.1 by omega)
  have hN : (finP p).1 = p.1 := rfl
  refine ⟨by omega, hlo, hhi, fun a h1 h2 => (mem_ok hn2 hn hc ht hB hf (by omega) (by omega) 0 (by omega)).1, fun a h1 h2 => ?_, mono, fun a h1 h2 m u => ?_⟩
  · have := cgC_le (fun q => sgSd (-1) (cq (finP p) q) a) (chN' (finP p) + 1)
    unfold rtN Nsd
    omega
  · exact ahd_spec (by omega) (by omega) (by omega) (by omega) (fun q hq => sgSd_one (mem_ok hn2 hn hc ht hB hf (a := a) (by omega) (by omega) q hq).2.2 (cq_Tp (fin_Tp ht) q).1 (Or.inr rfl) a) (fun q hq => (mem_ok hn2 hn hc ht hB hf (by omega) (by omega) q hq).1) m u
theorem plP_spec {lo hi : Int} (hlh : lo ≤ hi) (hlo : -2000000000000000 ≤ lo) (hhi : hi ≤ 2000000000000000) (mono : ∀ a b, lo ≤ a → a ≤ b → b ≤ hi → rtN (finP p) b ≤ rtN (finP p) a) : FSpec Try.prog 16 [PlyA p, iA lo, iA hi] (lsJ (plcP p lo hi)) := by
  obtain ⟨h1, h2, h3⟩ := chN'_ok (finP p)
  have hN : (finP p).1 = p.1 := rfl
  have hle := chN'_le (finP p) (by omega)
  have hC : Cn (finP p).1 (finP p).2 := fin_Cn hc
  have cb := CB_of (B := B + 5) (by omega) hC (by omega) (fin_Zw hn hf) h2 (by omega)
  refine pls_spec (n := p.1) (f := p.2) (f1 := pfin p.2 p.1) hn2 hlh (sg_ok hn2 hn hc ht hB hf hlo hhi mono) (fi_spec (by omega) hc (fun i => Sm_of (Nat.le_trans (hf i) (by omega))) fun j hj => Sm_of (Nat.le_trans (Zw_pow j) (by omega))) (ch_spec cb (by omega) h2 h3) fun m u => ?_
  exact cg_specB (by omega) (by omega) (by omega) (fun q hq => sgSd_one (mem_ok hn2 hn hc ht hB hf (a := hi) (by omega) (by omega) q hq).2.2 (cq_Tp (fin_Tp ht) q).1 (Or.inl rfl) hi) fun q hq => (mem_ok hn2 hn hc ht hB hf (by omega) (by omega) q hq).2.1
end
end Go.Proofs.Ytgijfbcfajhmlaa

namespace Go.Proofs.Ytgijfbcfajhmlaa
open Go.Gv

theorem pl_evN (n : Nat) (f : Nat → Int) (lo hi : Int) : ev Try.prog [] [⟨33, fun _ _ => none⟩] noL Try.f16 [pA n f, iA lo, iA hi] ret = cond (plB n lo hi) (some (Out.of nilA)) none := by kernel_rfl
theorem pl_nil {n : Nat} {f : Nat → Int} {lo hi : Int} (h : plB n lo hi = true) : FSpec Try.prog 16 [pA n f, iA lo, iA hi] (lsJ []) :=
  FSpec.of_res (r := nilA) (gspec e_nil (k_cons (kno_ok _) k_nil) Try.func16 (by kernel_rfl) (by kernel_rfl) noL_ok rfl ((pl_evN n f lo hi).trans (by rw [h]; rfl))) fun _ _ => nil_like
/-- What Roots gives: places, and an error. -/
noncomputable def rtP (n : Nat) (p : Nat → Int) : Ply := (tl p n, p)
noncomputable def rtL (n : Nat) (p : Nat → Int) (lo hi : Int) : List Int := cond (plB (tl p n) lo hi) [] (plcP (rtP n p) lo hi)
noncomputable def rtB (n : Nat) (p : Nat → Int) (lo hi : Int) : Bool := cond (!mbI n p) true (!msI lo hi)
noncomputable def rtOut (n : Nat) (p : Nat → Int) (lo hi : Int) : List Int × Int := cond (decide ((n : Int) > 5)) ([], 4) (cond (rtB n p lo hi) ([], 1) (rtL n p lo hi, 0))
def rtA (o : List Int × Int) : AV := .tup [lsJ o.1, iA o.2]
theorem bad_like {f : Nat} {args : List AV} {e : Int} (h : FSpec Try.prog f args (.tup [.x (.slice none 0 0), iA e])) : FSpec Try.prog f args (rtA ([], e)) := FSpec.of_res h fun _ _ hr => tup2_like hr fun _ => nil_like
theorem ro_spec {n : Nat} {p : Nat → Int} {lo hi : Int} (hn : n ≤ 4611686018427387904) (hc : Cn n p) (mono : ∀ a b, lo ≤ a → a ≤ b → b ≤ hi → rtN (finP (rtP n p)) b ≤ rtN (finP (rtP n p)) a) : FSpec Try.prog 7 [sJ n p, iA lo, iA hi] (rtA (rtOut n p lo hi)) := by
  have hl : ∀ e, e ∈ [(⟨15, gMs msI⟩ : Entry)] → EOk Try.prog e := e_cons gMs_ok e_nil
  have ks : ∀ (b : Bool) (m : Nat) (r : Nat) (v : Nat → Int), ∀ e, e ∈ [kS Try.prog 14 (fun _ => bA b), kS Try.prog 18 (fun _ => pA n p), kS Try.prog 17 (fun _ => pA m p), kS Try.prog 16 (fun _ => sJ r v)] → KOk Try.prog e := fun _ _ _ _ => k_cons kS_ok (k_cons kS_ok (k_cons kS_ok (k_cons kS_ok k_nil)))
  have G : ∀ {r : AV}, ev Try.prog [⟨15, gMs msI⟩] [kS Try.prog 14 (fun _ => bA (mbI n p)), kS Try.prog 18 (fun _ => pA n p), kS Try.prog 17 (fun _ => pA (tl p n) p), kS Try.prog 16 (fun _ => lsJ (rtL n p lo hi))] noL Try.f7 [sJ n p, iA lo, iA hi] ret = some (Out.of r) → FSpec Try.prog 7 [sJ n p, iA lo, iA hi] r := fun h => gspec hl (ks _ _ _ _) Try.func7 (by kernel_rfl) (by kernel_rfl) noL_ok rfl h
  have ev := ro_ev msI n p lo hi (mbI n p) (tl p n) (rtL n p lo hi).length (fun q => (rtL n p lo hi).getD q 0)
  unfold rtOut
  by_cases h5 : (n : Int) > 5
  · rw [decide_eq_true h5] at ev ⊢
    exact bad_like (G ev)
  · rw [decide_eq_false h5, cond_false, gate_pos (mb_spec p hn)] at ev
    rw [decide_eq_false h5, cond_false]
    cases hb : rtB n p lo hi
    · have hb' : cond (!mbI n p) true (!msI lo hi) = false := hb
      rw [hb', cond_false] at ev
      have hmb : mbI n p = true := by cases h : mbI n p; · rw [h] at hb'; cases hb'
                                      · rfl
      have hms : msI lo hi = true := by rw [hmb] at hb'; cases h : msI lo hi; · rw [h] at hb'; cases hb'
                                        · rfl
      have hbd : ∀ i, i < n → -2147483648 ≤ p i ∧ p i ≤ 2147483648 := fun i hi => by
        have := allI_all hmb i hi
        unfold mbB at this
        by_cases g1 : p i < -2147483648
        · rw [decide_eq_true g1] at this; cases this
        · rw [decide_eq_false g1] at this
          by_cases g2 : p i > 2147483648
          · rw [decide_eq_true g2] at this; cases this
          · omega
      have hse : -1125899906842624 ≤ lo ∧ hi ≤ 1125899906842624 := by
        unfold msI at hms
        by_cases g1 : lo ≥ -1125899906842624
        · rw [decide_eq_true g1, cond_true] at hms
          exact ⟨g1, of_decide_eq_true hms⟩
        · rw [decide_eq_false g1] at hms; cases hms
      have hle := tl_le p n
      have hpl : FSpec Try.prog 16 [pA (tl p n) p, iA lo, iA hi] (lsJ (rtL n p lo hi)) := by
        unfold rtL
        cases hB : plB (tl p n) lo hi
        · have g1 : 2 ≤ tl p n ∧ lo ≤ hi := by
            unfold plB at hB
            by_cases g : ((tl p n : Nat) : Int) < 2
            · rw [decide_eq_true g] at hB; cases hB
            · rw [decide_eq_false g, cond_false] at hB
              have := of_decide_eq_false hB
              omega
          refine plP_spec (p := rtP n p) (B := 1) g1.1 (show tl p n ≤ 5 by omega) (tl_Cn hc) ?_ (by decide) (fun i => ?_) g1.2 (by omega) (by omega) mono
          · by_cases g : tl p n = 0
            · exact Or.inl g
            · exact Or.inr (tl_top p n g)
          · show Zw (p i) ≤ 1
            by_cases g : i < n
            · have := hbd i g
              exact Zw_one (by omega)
            · rw [hc i (by omega), Zw_zero]; exact Nat.zero_le _
        · exact pl_nil hB
      rw [gate_pos (wh_spec (u := p) (by omega) fun i hi => by have := hbd i hi; omega), gate_pos (po_spec p (by omega)), gate_pos (show FSpec Try.prog 16 [pA (tl p n) p, iA lo, iA hi] (sJ (rtL n p lo hi).length fun q => (rtL n p lo hi).getD q 0) from hpl)] at ev
      exact G ev
    · have hb' : cond (!mbI n p) true (!msI lo hi) = true := hb
      rw [hb', cond_true] at ev
      exact bad_like (G ev)
end Go.Proofs.Ytgijfbcfajhmlaa

namespace Go.Sturm
abbrev Fn : Type := Rat → Rat

/-- The size of a is at most A. -/
def Ab (a A : Rat) : Prop := -A ≤ a ∧ a ≤ A
theorem Ab.add {a b A B : Rat} (h : Ab a A) (k : Ab b B) : Ab (a + b) (A + B) := ⟨by grind [Ab], by grind [Ab]⟩
theorem Ab.neg {a A : Rat} (h : Ab a A) : Ab (-a) A := ⟨by grind [Ab], by grind [Ab]⟩
theorem Ab.mono {a A B : Rat} (h : Ab a A) (k : A ≤ B) : Ab a B := ⟨by grind [Ab], by grind [Ab]⟩
theorem Ab.nn {a A : Rat} (h : Ab a A) : 0 ≤ A := by grind [Ab]
theorem Ab.mul {a b A B : Rat} (h : Ab a A) (k : Ab b B) : Ab (a * b) (A * B) := by
  have h1 : 0 ≤ (A - a) * (B + b) := Rat.mul_nonneg (by grind [Ab]) (by grind [Ab])
  have h2 : 0 ≤ (A + a) * (B - b) := Rat.mul_nonneg (by grind [Ab]) (by grind [Ab])
  have h3 : 0 ≤ (A - a) * (B - b) := Rat.mul_nonneg (by grind [Ab]) (by grind [Ab])
  have h4 : 0 ≤ (A + a) * (B + b) := Rat.mul_nonneg (by grind [Ab]) (by grind [Ab])
  exact ⟨by grind, by grind⟩
theorem ab_self (x : Rat) : ∃ A, 0 ≤ A ∧ Ab x A := by
  by_cases h : 0 ≤ x
  · exact ⟨x, h, by grind [Ab]⟩
  · exact ⟨-x, by grind, by grind [Ab]⟩
theorem sq_nn (x : Rat) : 0 ≤ x * x := by
  by_cases h : 0 ≤ x
  · exact Rat.mul_nonneg h h
  · have := Rat.mul_nonneg (show 0 ≤ -x by grind) (show 0 ≤ -x by grind)
    grind
theorem ab_sq {x A : Rat} (h : Ab x A) : x * x ≤ A * A := (h.mul h).2
theorem arch (r : Rat) : ∃ n : Nat, 0 < n ∧ r ≤ (n : Rat) := by
  refine ⟨r.ceil.toNat + 1, by omega, Rat.le_trans (Rat.le_ceil (x := r)) ?_⟩
  rw [← Rat.intCast_natCast, Rat.intCast_le_intCast]
  omega

theorem inv_pos {s : Rat} (h : 0 < s) : ∃ i, 0 < i ∧ s * i = 1 := by
  have hi : s * s⁻¹ = 1 := Rat.mul_inv_cancel s (by grind)
  refine ⟨s⁻¹, Decidable.byContradiction fun hh => ?_, hi⟩
  have := Rat.mul_nonneg (show 0 ≤ -s⁻¹ by grind) (show 0 ≤ s by grind)
  grind
theorem small (c : Rat) {d : Rat} (hd : 0 < d) : ∃ t, 0 < t ∧ t ≤ 1 ∧ c * t < d := by
  obtain ⟨A, hA, ha⟩ := ab_self c
  obtain ⟨i, hi, e⟩ := inv_pos (show 0 < d + (A + 1) by grind)
  have h0 := Rat.mul_pos hd hi
  have e2 : d * (d * i) + (A + 1) * (d * i) = d := by
    have : d * (d * i) + (A + 1) * (d * i) = d * ((d + (A + 1)) * i) := by grind
    rw [this, e]; grind
  have h1 := Rat.mul_pos hd h0
  generalize d * i = t at *
  refine ⟨t, h0, Decidable.byContradiction fun hh => ?_, ?_⟩
  · have := Rat.mul_pos (show 0 < t - 1 by grind) (show 0 < d + (A + 1) by grind)
    grind
  · have := Rat.mul_le_mul_of_nonneg_right (show c ≤ A by grind [Ab]) (show 0 ≤ t by grind)
    grind
theorem parts (c : Rat) {d : Rat} (hd : 0 < d) : ∃ (n : Nat) (t : Rat), 0 < t ∧ (1 : Rat) ≤ n ∧ (n : Rat) * t = 1 ∧ c ≤ (n : Rat) * d := by
  obtain ⟨i, hi, e⟩ := inv_pos hd
  obtain ⟨n, hn0, hn1⟩ := arch (c * i)
  have hnp : (1 : Rat) ≤ (n : Rat) := by
    have : ((1 : Nat) : Rat) ≤ (n : Rat) := Rat.natCast_le_natCast.2 hn0
    simpa using this
  obtain ⟨t, ht, et⟩ := inv_pos (show (0 : Rat) < n by grind)
  refine ⟨n, t, ht, hnp, et, ?_⟩
  have h := Rat.mul_le_mul_of_nonneg_right hn1 (show 0 ≤ d by grind)
  have e3 : c * i * d = c := by
    have : c * i * d = c * (d * i) := by grind
    rw [this, e]; grind
  rw [e3] at h; exact h
/-- g is the slope of f. -/
def IsD (f g : Fn) : Prop := ∀ M : Rat, ∃ C : Rat, 0 ≤ C ∧ ∀ x y, Ab x M → Ab y M → Ab (f y - f x - (y - x) * g x) (C * ((y - x) * (y - x)))
def Bdd (f : Fn) : Prop := ∀ M : Rat, ∃ K : Rat, 0 ≤ K ∧ ∀ x, Ab x M → Ab (f x) K

theorem isD_const (c : Rat) : IsD (fun _ => c) (fun _ => 0) := fun M => ⟨0, by grind, fun x y _ _ => by
  show Ab (c - c - (y - x) * 0) (0 * ((y - x) * (y - x)))
  exact ⟨by grind, by grind⟩⟩
theorem IsD.add {f f' g g' : Fn} (h : IsD f f') (k : IsD g g') : IsD (fun x => f x + g x) (fun x => f' x + g' x) := fun M => by
  obtain ⟨C, hC, h⟩ := h M
  obtain ⟨K, hK, k⟩ := k M
  refine ⟨C + K, by grind, fun x y hx hy => ?_⟩
  have := (h x y hx hy).add (k x y hx hy)
  have e1 : f y + g y - (f x + g x) - (y - x) * (f' x + g' x) = f y - f x - (y - x) * f' x + (g y - g x - (y - x) * g' x) := by grind
  have e2 : (C + K) * ((y - x) * (y - x)) = C * ((y - x) * (y - x)) + K * ((y - x) * (y - x)) := by grind
  rw [e2]
  show Ab (f y + g y - (f x + g x) - (y - x) * (f' x + g' x)) _
  rw [e1]; exact this
theorem IsD.smul {f f' : Fn} (c : Rat) (h : IsD f f') : IsD (fun x => c * f x) (fun x => c * f' x) := fun M => by
  obtain ⟨C, hC, h⟩ := h M
  obtain ⟨A, hA, ha⟩ := ab_self c
  refine ⟨A * C, Rat.mul_nonneg hA hC, fun x y hx hy => ?_⟩
  have := ha.mul (h x y hx hy)
  have e1 : c * f y - c * f x - (y - x) * (c * f' x) = c * (f y - f x - (y - x) * f' x) := by grind
  have e2 : A * C * ((y - x) * (y - x)) = A * (C * ((y - x) * (y - x))) := by grind
  rw [e2]
  show Ab (c * f y - c * f x - (y - x) * (c * f' x)) _
  rw [e1]; exact this
theorem IsD.xmul {f f' : Fn} (h : IsD f f') (hb : Bdd f') : IsD (fun x => x * f x) (fun x => f x + x * f' x) := fun M => by
  obtain ⟨C, hC, h⟩ := h M
  obtain ⟨K, hK, hb⟩ := hb M
  by_cases hM : 0 ≤ M
  · refine ⟨M * C + K, by have := Rat.mul_nonneg hM hC; grind, fun x y hx hy => ?_⟩
    have h1 := hy.mul (h x y hx hy)
    have h2 : Ab ((y - x) * (y - x) * f' x) ((y - x) * (y - x) * K) := (show Ab ((y - x) * (y - x)) ((y - x) * (y - x)) from ⟨by have := sq_nn (y - x); grind, Rat.le_refl⟩).mul (hb x hx)
    have e1 : y * f y - x * f x - (y - x) * (f x + x * f' x) = y * (f y - f x - (y - x) * f' x) + (y - x) * (y - x) * f' x := by grind
    have e2 : (M * C + K) * ((y - x) * (y - x)) = M * (C * ((y - x) * (y - x))) + (y - x) * (y - x) * K := by grind
    rw [e2]
    show Ab (y * f y - x * f x - (y - x) * (f x + x * f' x)) _
    rw [e1]; exact h1.add h2
  · exact ⟨0, by grind, fun x y hx _ => absurd hx.nn hM⟩
theorem IsD.unique {f g g' : Fn} (h : IsD f g) (k : IsD f g') : g = g' := by
  have key : ∀ {g g' : Fn}, IsD f g → IsD f g' → ∀ x, g x ≤ g' x := by
    intro g g' h k x
    obtain ⟨A, hA, ha⟩ := ab_self x
    obtain ⟨C, hC, h⟩ := h (A + 1)
    obtain ⟨K, hK, k⟩ := k (A + 1)
    refine Decidable.byContradiction fun hn => ?_
    obtain ⟨t, ht, ht1, hs⟩ := small (C + K) (show 0 < g x - g' x by grind)
    have b1 : Ab x (A + 1) := ha.mono (by grind)
    have b2 : Ab (x + t) (A + 1) := ⟨by grind [Ab], by grind [Ab]⟩
    have h1 := (h x (x + t) b1 b2).1
    have k1 := (k x (x + t) b1 b2).2
    have e : x + t - x = t := by grind
    rw [e] at h1 k1
    have := Rat.mul_pos ht (show 0 < g x - g' x - (C + K) * t by grind)
    clear h k hn hs b1 b2 ha
    grind
  exact funext fun x => Rat.le_antisymm (key h k x) (key k h x)

/-- Polynomials, with their slopes. -/
inductive PD : Fn → Fn → Prop
  | zero : PD (fun _ => 0) (fun _ => 0)
  | cons (a : Rat) {f g : Fn} : PD f g → PD (fun x => a + x * f x) (fun x => f x + x * g x)
def Pol (f : Fn) : Prop := ∃ g, PD f g
theorem Pol.zero : Pol (fun _ => 0) := ⟨_, .zero⟩
theorem Pol.cons (a : Rat) {f : Fn} (h : Pol f) : Pol (fun x => a + x * f x) := by obtain ⟨g, h⟩ := h; exact ⟨_, .cons a h⟩
theorem Pol.ind {P : Fn → Prop} (z : P (fun _ => 0)) (c : ∀ (a : Rat) {f : Fn}, Pol f → P f → P (fun x => a + x * f x)) {f : Fn} (h : Pol f) : P f := by
  obtain ⟨g, h⟩ := h
  induction h with
  | zero => exact z
  | cons a h ih => exact c a ⟨_, h⟩ ih
theorem Pol.bdd {f : Fn} (h : Pol f) : Bdd f := by
  refine h.ind (P := Bdd) (fun M => ⟨0, by grind, fun x _ => ⟨by grind, by grind⟩⟩) fun a f _ ih M => ?_
  obtain ⟨K, hK, ih⟩ := ih M
  obtain ⟨A, hA, ha⟩ := ab_self a
  by_cases hM : 0 ≤ M
  · exact ⟨A + M * K, by have := Rat.mul_nonneg hM hK; grind, fun x hx => ha.add (hx.mul (ih x hx))⟩
  · exact ⟨0, by grind, fun x hx => absurd hx.nn hM⟩
theorem Pol.add {f g : Fn} (h : Pol f) (k : Pol g) : Pol (fun x => f x + g x) := by
  refine h.ind (P := fun f => ∀ {g : Fn}, Pol g → Pol (fun x => f x + g x)) (fun {g} k => ?_) (fun a f hf ih g k => ?_) k
  · rw [show (fun x => 0 + g x) = g from funext fun x => by grind]; exact k
  · refine k.ind (P := fun g => Pol (fun x => a + x * f x + g x)) ?_ fun b g hg _ => ?_
    · rw [show (fun x => a + x * f x + 0) = fun x => a + x * f x from funext fun x => by grind]; exact hf.cons a
    · rw [show (fun x => a + x * f x + (b + x * g x)) = fun x => (a + b) + x * (f x + g x) from funext fun x => by grind]
      exact (ih hg).cons _
theorem Pol.smul {f : Fn} (c : Rat) (h : Pol f) : Pol (fun x => c * f x) := by
  refine h.ind (P := fun f => Pol (fun x => c * f x)) ?_ fun a f _ ih => ?_
  · rw [show (fun _ : Rat => c * 0) = fun _ => 0 from funext fun x => by grind]; exact Pol.zero
  · rw [show (fun x => c * (a + x * f x)) = fun x => c * a + x * (c * f x) from funext fun x => by grind]
    exact ih.cons _
theorem Pol.const (c : Rat) : Pol (fun _ => c) := by
  have := Pol.zero.cons c
  rwa [show (fun x : Rat => c + x * 0) = fun _ => c from funext fun x => by grind] at this
theorem Pol.xmul {f : Fn} (h : Pol f) : Pol (fun x => x * f x) := by
  have := h.cons 0
  rwa [show (fun x : Rat => 0 + x * f x) = fun x => x * f x from funext fun x => by grind] at this
theorem Pol.mul {f g : Fn} (h : Pol f) (k : Pol g) : Pol (fun x => f x * g x) := by
  refine h.ind (P := fun f => Pol (fun x => f x * g x)) ?_ fun a f _ ih => ?_
  · rw [show (fun x => 0 * g x) = fun _ => 0 from funext fun x => by grind]; exact Pol.zero
  · rw [show (fun x => (a + x * f x) * g x) = fun x => a * g x + x * (f x * g x) from funext fun x => by grind]
    exact (k.smul a).add ih.xmul
theorem Pol.sub {f g : Fn} (h : Pol f) (k : Pol g) : Pol (fun x => f x - g x) := by
  have := h.add (k.smul (-1))
  rwa [show (fun x => f x + -1 * g x) = fun x => f x - g x from funext fun x => by grind] at this
theorem PD.pol {f g : Fn} (h : PD f g) : Pol g := by
  induction h with
  | zero => exact Pol.zero
  | cons a h ih => exact (show Pol _ from ⟨_, h⟩).add ih.xmul
theorem PD.isD {f g : Fn} (h : PD f g) : IsD f g := by
  induction h with
  | zero => exact isD_const 0
  | cons a h ih =>
    rename_i f g
    have := (isD_const a).add (ih.xmul h.pol.bdd)
    rwa [show (fun x => 0 + (f x + x * g x)) = fun x => f x + x * g x from funext fun x => by grind] at this
/-- The slope. -/
noncomputable def D (f : Fn) : Fn := open Classical in if h : Pol f then h.choose else fun _ => 0
theorem D_pd {f : Fn} (h : Pol f) : PD f (D f) := by unfold D; rw [dif_pos h]; exact h.choose_spec
theorem D_isD {f : Fn} (h : Pol f) : IsD f (D f) := (D_pd h).isD
theorem Pol.D {f : Fn} (h : Pol f) : Pol (D f) := (D_pd h).pol
theorem D_eq {f g : Fn} (h : Pol f) (k : IsD f g) : D f = g := (D_isD h).unique k
theorem D_const (c : Rat) : D (fun _ => c) = fun _ => 0 := D_eq (Pol.const c) (isD_const c)
theorem D_add {f g : Fn} (h : Pol f) (k : Pol g) : D (fun x => f x + g x) = fun x => D f x + D g x := D_eq (h.add k) ((D_isD h).add (D_isD k))
theorem D_smul {f : Fn} (c : Rat) (h : Pol f) : D (fun x => c * f x) = fun x => c * D f x := D_eq (h.smul c) ((D_isD h).smul c)
theorem D_xmul {f : Fn} (h : Pol f) : D (fun x => x * f x) = fun x => f x + x * D f x := D_eq h.xmul ((D_isD h).xmul h.D.bdd)
theorem D_cons (a : Rat) {f : Fn} (h : Pol f) : D (fun x => a + x * f x) = fun x => f x + x * D f x := by
  rw [D_add (Pol.const a) h.xmul, D_const, D_xmul h]
  exact funext fun x => by grind
theorem D_mul {f g : Fn} (h : Pol f) (k : Pol g) : D (fun x => f x * g x) = fun x => D f x * g x + f x * D g x := by
  refine h.ind (P := fun f => D (fun x => f x * g x) = fun x => D f x * g x + f x * D g x) ?_ fun a f hf ih => ?_
  · rw [D_const, show (fun x => 0 * g x) = fun _ => 0 from funext fun x => by grind, D_const]
    exact funext fun x => by grind
  · rw [show (fun x => (a + x * f x) * g x) = fun x => a * g x + x * (f x * g x) from funext fun x => by grind, D_add (k.smul a) (hf.mul k).xmul, D_smul a k, D_xmul (hf.mul k), ih, D_cons a hf]
    exact funext fun x => by grind
/-! ### What slopes say -/
theorem ab_between {a b x A B : Rat} (ha : Ab a A) (hb : Ab b B) (h1 : a ≤ x) (h2 : x ≤ b) : Ab x (A + B) := by
  have := ha.nn
  have := hb.nn
  exact ⟨by grind [Ab], by grind [Ab]⟩
theorem mono {f : Fn} (hf : Pol f) {a b : Rat} (hab : a ≤ b) (hg : ∀ x, a ≤ x → x ≤ b → 0 ≤ D f x) : f a ≤ f b := by
  obtain ⟨A, hA, ha⟩ := ab_self a
  obtain ⟨B, hB, hb⟩ := ab_self b
  obtain ⟨C, hC, h⟩ := D_isD hf (A + B)
  refine Decidable.byContradiction fun hn => ?_
  obtain ⟨n, t, ht, hnp, hi, hn2⟩ := parts (C * ((b - a) * (b - a)) + 1) (show 0 < f a - f b by grind)
  have hw : 0 ≤ (b - a) * t := Rat.mul_nonneg (by grind) (by grind)
  have step : ∀ k : Nat, k ≤ n → f a - (k : Rat) * (C * ((b - a) * t * ((b - a) * t))) ≤ f (a + (k : Rat) * ((b - a) * t)) := by
    intro k
    induction k with
    | zero => intro _; have e : a + ((0 : Nat) : Rat) * ((b - a) * t) = a := by simp; grind
              rw [e]; simp; grind
    | succ k ih =>
      intro hk
      have ih := ih (by omega)
      have hk1 : ((k : Nat) : Rat) + 1 ≤ (n : Rat) := by
        have : ((k + 1 : Nat) : Rat) ≤ (n : Rat) := Rat.natCast_le_natCast.2 hk
        simpa using this
      have hk0 : (0 : Rat) ≤ (k : Rat) := by
        have : ((0 : Nat) : Rat) ≤ (k : Rat) := Rat.natCast_le_natCast.2 (Nat.zero_le _)
        simpa using this
      have ec : ((k + 1 : Nat) : Rat) = (k : Rat) + 1 := by simp
      rw [ec]
      have l0 : 0 ≤ (k : Rat) * ((b - a) * t) := Rat.mul_nonneg hk0 hw
      have l1 : ((k : Rat) + 1) * ((b - a) * t) ≤ b - a := by
        have := Rat.mul_le_mul_of_nonneg_right hk1 hw
        have : (n : Rat) * ((b - a) * t) = b - a := by grind
        grind
      generalize hx : a + (k : Rat) * ((b - a) * t) = x at ih
      have ey : a + ((k : Rat) + 1) * ((b - a) * t) = x + (b - a) * t := by grind
      rw [ey]
      have hx1 : a ≤ x := by grind
      have hy1 : x + (b - a) * t ≤ b := by grind
      have := (h x (x + (b - a) * t) (ab_between ha hb hx1 (by grind)) (ab_between ha hb (by grind) hy1)).1
      have hp := Rat.mul_nonneg hw (hg x hx1 (by grind))
      grind
  have fin := step n (Nat.le_refl _)
  have e1 : a + (n : Rat) * ((b - a) * t) = b := by grind
  rw [e1] at fin
  have e2 : (n : Rat) * (C * ((b - a) * t * ((b - a) * t))) = C * ((b - a) * (b - a)) * t := by grind
  rw [e2] at fin
  have := Rat.mul_le_mul_of_nonneg_left (show f a - f b ≤ C * ((b - a) * (b - a)) * t by grind) (show (0 : Rat) ≤ n by grind)
  have e3 : (n : Rat) * (C * ((b - a) * (b - a)) * t) = C * ((b - a) * (b - a)) := by grind
  grind
theorem mono_lt {f : Fn} (hf : Pol f) {a b : Rat} (hab : a < b) (hg : ∀ x, a ≤ x → x ≤ b → 0 < D f x) : f a < f b := by
  obtain ⟨A, hA, ha⟩ := ab_self a
  obtain ⟨B, hB, hb⟩ := ab_self b
  obtain ⟨C, hC, h⟩ := D_isD hf (A + B)
  have ga := hg a (by grind) (by grind)
  obtain ⟨t, ht, ht1, hs⟩ := small (C * (b - a)) ga
  have hw : 0 < (b - a) * t := Rat.mul_pos (by grind) ht
  have hw1 : (b - a) * t ≤ b - a := by
    have := Rat.mul_le_mul_of_nonneg_left ht1 (show 0 ≤ b - a by grind)
    grind
  have h1 := (h a (a + (b - a) * t) (ab_between ha hb (by grind) (by grind)) (ab_between ha hb (by grind) (by grind))).1
  have h2 := mono hf (show a + (b - a) * t ≤ b by grind) fun x h1 h2 => Rat.le_of_lt (hg x (by grind) h2)
  have h3 : C * ((b - a) * t) < D f a := by grind
  have h4 := Rat.mul_pos hw (show 0 < D f a - C * ((b - a) * t) by grind)
  grind
theorem lip {f : Fn} (hf : Pol f) (M : Rat) : ∃ K, 0 ≤ K ∧ ∀ x y, Ab x M → Ab y M → x ≤ y → Ab (f y - f x) (K * (y - x)) := by
  obtain ⟨C, hC, h⟩ := D_isD hf M
  obtain ⟨B, hB, hb⟩ := hf.D.bdd M
  by_cases hM : 0 ≤ M
  · refine ⟨B + C * (2 * M), by have := Rat.mul_nonneg hC (show 0 ≤ 2 * M by grind); grind, fun x y hx hy hxy => ?_⟩
    have h1 := h x y hx hy
    have h2 : Ab ((y - x) * D f x) ((y - x) * B) := (show Ab (y - x) (y - x) from ⟨by grind, Rat.le_refl⟩).mul (hb x hx)
    have h3 := (h1.add h2).mono (B := (B + C * (2 * M)) * (y - x)) (by
      have : y - x ≤ 2 * M := by grind [Ab]
      have := Rat.mul_le_mul_of_nonneg_left this (show 0 ≤ C * (y - x) from Rat.mul_nonneg hC (by grind))
      grind)
    rwa [show f y - f x - (y - x) * D f x + (y - x) * D f x = f y - f x by grind] at h3
  · exact ⟨0, by grind, fun x y hx _ _ => absurd hx.nn hM⟩
/-- A polynomial is near its values near by: from above. -/
theorem lim_right {f : Fn} (hf : Pol f) {a b c : Rat} (hab : a < b) (h : ∀ w, a < w → w ≤ b → f w ≤ c) : f a ≤ c := by
  obtain ⟨A, hA, ha⟩ := ab_self a
  obtain ⟨B, hB, hb⟩ := ab_self b
  obtain ⟨K, hK, hl⟩ := lip hf (A + B)
  refine Decidable.byContradiction fun hn => ?_
  obtain ⟨t, ht, ht1, hs⟩ := small (K * (b - a)) (show 0 < f a - c by grind)
  have hw : 0 < (b - a) * t := Rat.mul_pos (by grind) ht
  have hw1 : (b - a) * t ≤ b - a := by
    have := Rat.mul_le_mul_of_nonneg_left ht1 (show 0 ≤ b - a by grind)
    grind
  have h1 := (hl a (a + (b - a) * t) (ab_between ha hb (by grind) (by grind)) (ab_between ha hb (by grind) (by grind)) (by grind)).1
  have h2 := h (a + (b - a) * t) (by grind) (by grind)
  have h3 : K * ((b - a) * t) = K * (b - a) * t := by grind
  clear hl h hn hb ha
  grind
theorem lim_left {f : Fn} (hf : Pol f) {a b c : Rat} (hab : a < b) (h : ∀ w, a ≤ w → w < b → f w ≤ c) : f b ≤ c := by
  obtain ⟨A, hA, ha⟩ := ab_self a
  obtain ⟨B, hB, hb⟩ := ab_self b
  obtain ⟨K, hK, hl⟩ := lip hf (A + B)
  refine Decidable.byContradiction fun hn => ?_
  obtain ⟨t, ht, ht1, hs⟩ := small (K * (b - a)) (show 0 < f b - c by grind)
  have hw : 0 < (b - a) * t := Rat.mul_pos (by grind) ht
  have hw1 : (b - a) * t ≤ b - a := by
    have := Rat.mul_le_mul_of_nonneg_left ht1 (show 0 ≤ b - a by grind)
    grind
  have h1 := (hl (b - (b - a) * t) b (ab_between ha hb (by grind) (by grind)) (ab_between ha hb (by grind) (by grind)) (by grind)).2
  have h2 := h (b - (b - a) * t) (by grind) (by grind)
  have h3 : K * ((b - a) * t) = K * (b - a) * t := by grind
  clear hl h hn hb ha
  grind
end Go.Sturm

namespace Go.Sturm

structure Nest where
  u : Nat → Rat
  v : Nat → Rat
  up : ∀ n, u n ≤ u (n + 1)
  down : ∀ n, v (n + 1) ≤ v n
  lt : ∀ n, u n < v n
  sm : ∀ e : Rat, 0 < e → ∃ n, v n - u n < e
namespace Nest
variable (N : Nest)
def In (n : Nat) (x : Rat) : Prop := N.u n ≤ x ∧ x ≤ N.v n
theorem u_le {m n : Nat} (h : m ≤ n) : N.u m ≤ N.u n := by
  induction h with
  | refl => exact Rat.le_refl
  | step _ ih => exact Rat.le_trans ih (N.up _)
theorem v_le {m n : Nat} (h : m ≤ n) : N.v n ≤ N.v m := by
  induction h with
  | refl => exact Rat.le_refl
  | step _ ih => exact Rat.le_trans (N.down _) ih
theorem u_lt_v (m n : Nat) : N.u m < N.v n := by
  have h1 := N.u_le (Nat.le_max_left m n)
  have h2 := N.v_le (Nat.le_max_right m n)
  have := N.lt (max m n)
  grind
theorem In.mono {m n : Nat} (h : m ≤ n) {x : Rat} (hx : N.In n x) : N.In m x := by
  have h1 := N.u_le h
  have h2 := N.v_le h
  obtain ⟨a, b⟩ := hx
  exact ⟨by grind, by grind⟩
theorem in_u {m n : Nat} (h : m ≤ n) : N.In m (N.u n) := ⟨N.u_le h, Rat.le_of_lt (N.u_lt_v n m)⟩
theorem in_v {m n : Nat} (h : m ≤ n) : N.In m (N.v n) := ⟨Rat.le_of_lt (N.u_lt_v m n), N.v_le h⟩
theorem bnd : ∃ M, ∀ x, N.In 0 x → Ab x M := by
  obtain ⟨A, hA, ha⟩ := ab_self (N.u 0)
  obtain ⟨B, hB, hb⟩ := ab_self (N.v 0)
  exact ⟨A + B, fun x hx => ab_between ha hb hx.1 hx.2⟩
/-- Nought there. -/
def Zr (f : Fn) : Prop := ∀ e : Rat, 0 < e → ∃ n, ∀ x, N.In n x → Ab (f x) e
/-- Above nought there. -/
def Ps (f : Fn) : Prop := ∃ c : Rat, 0 < c ∧ ∃ n, ∀ x, N.In n x → c ≤ f x
/-- Left of it, right of it. -/
def Lf (x : Rat) : Prop := ∃ n, x < N.u n
def Rt (x : Rat) : Prop := ∃ n, N.v n < x
variable {N}
theorem tri {f : Fn} (hf : Pol f) : N.Zr f ∨ N.Ps f ∨ N.Ps (fun x => -f x) := by
  by_cases h1 : N.Ps f
  · exact Or.inr (Or.inl h1)
  by_cases h2 : N.Ps (fun x => -f x)
  · exact Or.inr (Or.inr h2)
  left
  intro e he
  obtain ⟨M, hM⟩ := N.bnd
  obtain ⟨K, hK, hl⟩ := lip hf M
  obtain ⟨i, hi, ei⟩ := inv_pos (show 0 < K + 1 by grind)
  have he4 : 0 < e * i := Rat.mul_pos he hi
  obtain ⟨n, hn⟩ := N.sm (e * i / 4) (by grind)
  have near : ∀ x, N.In n x → Ab (f x - f (N.u n)) (e / 4) := fun x hx => by
    have hx0 := hx.mono N (Nat.zero_le n)
    have := hl (N.u n) x (hM _ (N.in_u (Nat.zero_le n))) (hM _ hx0) hx.1
    refine this.mono ?_
    have h3 : x - N.u n ≤ e * i / 4 := by have := hx.2; grind
    have h4 := Rat.mul_le_mul_of_nonneg_left h3 hK
    have h5 : K * (e * i / 4) ≤ (K + 1) * (e * i / 4) := by grind
    have h6 : (K + 1) * (e * i / 4) = e * ((K + 1) * i) / 4 := by grind
    rw [ei] at h6
    grind
  refine ⟨n, fun x hx => ?_⟩
  have a1 : f (N.u n) ≤ e / 2 := Decidable.byContradiction fun hh => h1 ⟨e / 4, by grind, n, fun y hy => by
    have := (near y hy).1
    grind⟩
  have a2 : -(e / 2) ≤ f (N.u n) := Decidable.byContradiction fun hh => h2 ⟨e / 4, by grind, n, fun y hy => by
    have := (near y hy).2
    show e / 4 ≤ -f y
    grind⟩
  have := near x hx
  exact ⟨by grind [Ab], by grind [Ab]⟩
theorem Zr.not_Ps {f : Fn} (h : N.Zr f) : ¬ N.Ps f := fun ⟨c, hc, n, hp⟩ => by
  obtain ⟨m, hm⟩ := h (c / 2) (by grind)
  have h1 := hp (N.u (max m n)) (N.in_u (Nat.le_max_right m n))
  have h2 := (hm (N.u (max m n)) (N.in_u (Nat.le_max_left m n))).2
  grind
theorem Ps.not_neg {f : Fn} (h : N.Ps f) : ¬ N.Ps (fun x => -f x) := fun ⟨c, hc, n, hp⟩ => by
  obtain ⟨d, hd, m, hq⟩ := h
  have h1 := hp (N.u (max m n)) (N.in_u (Nat.le_max_right m n))
  have h2 := hq (N.u (max m n)) (N.in_u (Nat.le_max_left m n))
  grind
theorem Zr.neg {f : Fn} (h : N.Zr f) : N.Zr (fun x => -f x) := fun e he => by
  obtain ⟨n, h⟩ := h e he
  exact ⟨n, fun x hx => (h x hx).neg⟩
theorem Zr.add {f g : Fn} (h : N.Zr f) (k : N.Zr g) : N.Zr (fun x => f x + g x) := fun e he => by
  obtain ⟨n, h⟩ := h (e / 2) (by grind)
  obtain ⟨m, k⟩ := k (e / 2) (by grind)
  refine ⟨max n m, fun x hx => ?_⟩
  have := (h x (hx.mono N (Nat.le_max_left n m))).add (k x (hx.mono N (Nat.le_max_right n m)))
  rwa [show e / 2 + e / 2 = e by grind] at this
theorem Zr.mul {f g : Fn} (h : N.Zr f) (hg : Pol g) : N.Zr (fun x => f x * g x) := fun e he => by
  obtain ⟨M, hM⟩ := N.bnd
  obtain ⟨K, hK, hb⟩ := hg.bdd M
  obtain ⟨i, hi, ei⟩ := inv_pos (show 0 < K + 1 by grind)
  obtain ⟨n, h⟩ := h (e * i) (Rat.mul_pos he hi)
  refine ⟨n, fun x hx => ((h x hx).mul (hb x (hM x (hx.mono N (Nat.zero_le n))))).mono ?_⟩
  have h1 : e * i * K = e * ((K + 1) * i) - e * i := by grind
  rw [ei] at h1
  have := Rat.mul_pos he hi
  grind
theorem Zr.smul {f : Fn} (c : Rat) (h : N.Zr f) : N.Zr (fun x => c * f x) := by
  have := h.mul (Pol.const c)
  rwa [show (fun x => f x * c) = fun x => c * f x from funext fun x => by grind] at this
theorem zr_zero : N.Zr (fun _ => 0) := fun e he => ⟨0, fun _ _ => ⟨by grind, by grind⟩⟩
theorem Ps.add_zr {f g : Fn} (h : N.Ps f) (k : N.Zr g) : N.Ps (fun x => f x + g x) := by
  obtain ⟨c, hc, n, h⟩ := h
  obtain ⟨m, k⟩ := k (c / 2) (by grind)
  refine ⟨c / 2, by grind, max n m, fun x hx => ?_⟩
  have h1 := h x (hx.mono N (Nat.le_max_left n m))
  have h2 := (k x (hx.mono N (Nat.le_max_right n m))).1
  show c / 2 ≤ f x + g x
  grind
theorem Ps.add {f g : Fn} (h : N.Ps f) (k : N.Ps g) : N.Ps (fun x => f x + g x) := by
  obtain ⟨c, hc, n, h⟩ := h
  obtain ⟨d, hd, m, k⟩ := k
  refine ⟨c, hc, max n m, fun x hx => ?_⟩
  have h1 := h x (hx.mono N (Nat.le_max_left n m))
  have h2 := k x (hx.mono N (Nat.le_max_right n m))
  show c ≤ f x + g x
  grind
theorem Ps.smul {f : Fn} {c : Rat} (hc : 0 < c) (h : N.Ps f) : N.Ps (fun x => c * f x) := by
  obtain ⟨d, hd, n, h⟩ := h
  exact ⟨c * d, Rat.mul_pos hc hd, n, fun x hx => Rat.mul_le_mul_of_nonneg_left (h x hx) (by grind)⟩
theorem Ps.mul {f g : Fn} (h : N.Ps f) (k : N.Ps g) : N.Ps (fun x => f x * g x) := by
  obtain ⟨c, hc, n, h⟩ := h
  obtain ⟨d, hd, m, k⟩ := k
  refine ⟨c * d, Rat.mul_pos hc hd, max n m, fun x hx => ?_⟩
  have h1 := h x (hx.mono N (Nat.le_max_left n m))
  have h2 := k x (hx.mono N (Nat.le_max_right n m))
  have h3 := Rat.mul_le_mul_of_nonneg_left h2 (show 0 ≤ c by grind)
  have h4 := Rat.mul_le_mul_of_nonneg_right h1 (show 0 ≤ g x by grind)
  exact Rat.le_trans h3 h4
theorem zr_mul {f g : Fn} (hf : Pol f) (hg : Pol g) (h : N.Zr (fun x => f x * g x)) : N.Zr f ∨ N.Zr g := by
  rcases tri (N := N) hf with h1 | h1 | h1
  · exact Or.inl h1
  all_goals rcases tri (N := N) hg with h2 | h2 | h2
  · exact Or.inr h2
  · exact absurd (h1.mul h2) h.not_Ps
  · have := h1.mul h2
    rw [show (fun x => f x * -g x) = fun x => -(f x * g x) from funext fun x => by grind] at this
    exact absurd this h.neg.not_Ps
  · exact Or.inr h2
  · have := h1.mul h2
    rw [show (fun x => -f x * g x) = fun x => -(f x * g x) from funext fun x => by grind] at this
    exact absurd this h.neg.not_Ps
  · have := h1.mul h2
    rw [show (fun x => -f x * -g x) = fun x => f x * g x from funext fun x => by grind] at this
    exact absurd this h.not_Ps
/-- What is nought at a place that is no nest's inner point but a rational. -/
theorem Zr.at {f : Fn} (h : N.Zr f) {x : Rat} (hx : ∀ n, N.In n x) : f x = 0 := by
  refine Rat.le_antisymm (Decidable.byContradiction fun hh => ?_) (Decidable.byContradiction fun hh => ?_)
  · obtain ⟨n, hn⟩ := h (f x / 2) (by grind)
    have := (hn x (hx n)).2
    grind
  · obtain ⟨n, hn⟩ := h (-f x / 2) (by grind)
    have := (hn x (hx n)).1
    grind
theorem right_pos {f : Fn} (hf : Pol f) {k : Nat} (hz : N.Zr f) (hd : ∀ x, N.In k x → N.Rt x → 0 < D f x) (x : Rat) (hx : N.In k x) (hr : N.Rt x) : 0 < f x := by
  refine Decidable.byContradiction fun hn => ?_
  obtain ⟨m, hm⟩ := hr
  have hm' : N.v (max m k) < x := by have := N.v_le (Nat.le_max_left m k); grind
  generalize hK : max m k = K at hm'
  have hkK : k ≤ K := by omega
  have hz1 : N.v K < (N.v K + x) / 2 ∧ (N.v K + x) / 2 < x := by grind
  generalize (N.v K + x) / 2 = z at hz1
  have inK : ∀ w, N.v K ≤ w → w ≤ x → N.In k w := fun w h1 h2 => by
    have := N.u_lt_v k K
    exact ⟨by grind, by have := hx.2; grind⟩
  have h1 : f z < f x := mono_lt hf hz1.2 fun w h1 h2 => hd w (inK w (by grind) h2) ⟨K, by grind⟩
  have low : ∀ j, K ≤ j → f (N.v j) ≤ f z := fun j hj => by
    have hvj := N.v_le hj
    refine lim_right hf (b := z) (by grind) fun w h1 h2 => ?_
    refine mono hf h2 fun y h3 h4 => Rat.le_of_lt (hd y ?_ ⟨j, by grind⟩)
    have := N.u_lt_v k j
    have := hx.2
    exact ⟨by grind, by grind⟩
  obtain ⟨j, hj⟩ := hz (-f z) (by grind)
  have h2 := low (max j K) (Nat.le_max_right j K)
  obtain ⟨t, ht⟩ := hz (-f z / 2) (by grind)
  have h3 := (ht (N.v (max t K)) (N.in_v (Nat.le_max_left t K))).1
  have h4 := low (max t K) (Nat.le_max_right t K)
  clear hj h2 hd inK low
  grind
theorem left_pos {f : Fn} (hf : Pol f) {k : Nat} (hz : N.Zr f) (hd : ∀ x, N.In k x → N.Lf x → D f x < 0) (x : Rat) (hx : N.In k x) (hr : N.Lf x) : 0 < f x := by
  refine Decidable.byContradiction fun hn => ?_
  obtain ⟨m, hm⟩ := hr
  have hm' : x < N.u (max m k) := by have := N.u_le (Nat.le_max_left m k); grind
  generalize hK : max m k = K at hm'
  have hkK : k ≤ K := by omega
  have hz1 : x < (N.u K + x) / 2 ∧ (N.u K + x) / 2 < N.u K := by grind
  generalize (N.u K + x) / 2 = z at hz1
  have inK : ∀ w, x ≤ w → w ≤ N.u K → N.In k w := fun w h1 h2 => by
    have := N.u_lt_v K k
    exact ⟨by have := hx.1; grind, by grind⟩
  have hng : Pol (fun x => -1 * f x) := hf.smul (-1)
  have hdn : ∀ w, D (fun x => -1 * f x) w = -D f w := fun w => by rw [D_smul (-1) hf]; grind
  have h1 : -1 * f x < -1 * f z := mono_lt hng hz1.1 fun w h1 h2 => by
    rw [hdn]
    have := hd w (inK w h1 (by grind)) ⟨K, by grind⟩
    grind
  have low : ∀ j, K ≤ j → f (N.u j) ≤ f z := fun j hj => by
    have hvj := N.u_le hj
    refine lim_left hf (a := z) (by grind) fun w h1 h2 => ?_
    have h5 : -1 * f z ≤ -1 * f w := mono hng h1 fun y h3 h4 => by
      have := N.u_lt_v j k
      have h6 := hd y ⟨by have := hx.1; grind, by grind⟩ ⟨j, by grind⟩
      rw [hdn]; grind
    grind
  obtain ⟨t, ht⟩ := hz (-f z / 2) (by grind)
  have h3 := (ht (N.u (max t K)) (N.in_u (Nat.le_max_left t K))).1
  have h4 := low (max t K) (Nat.le_max_right t K)
  clear hd inK low
  grind
end Nest
end Go.Sturm

namespace Go.Sturm

/-- The slope's slope, and so on. -/
noncomputable def Dk : Nat → Fn → Fn
  | 0, f => f
  | k + 1, f => Dk k (D f)
theorem Pol.Dk {f : Fn} (h : Pol f) : ∀ k, Pol (Dk k f)
  | 0 => h
  | k + 1 => Pol.Dk h.D k
theorem Dk_succ (f : Fn) : ∀ k, Dk (k + 1) f = D (Dk k f)
  | 0 => rfl
  | k + 1 => Dk_succ (D f) k
theorem Dk_add {f g : Fn} (h : Pol f) (k : Pol g) : ∀ n, Dk n (fun x => f x + g x) = fun x => Dk n f x + Dk n g x
  | 0 => rfl
  | n + 1 => by show Dk n (D _) = _; rw [D_add h k]; exact Dk_add h.D k.D n
theorem Dk_smul {f : Fn} (c : Rat) (h : Pol f) : ∀ n, Dk n (fun x => c * f x) = fun x => c * Dk n f x
  | 0 => rfl
  | n + 1 => by show Dk n (D _) = _; rw [D_smul c h]; exact Dk_smul c h.D n
theorem Dk_zero : ∀ n, Dk n (fun _ => 0) = fun _ => 0
  | 0 => rfl
  | n + 1 => by show Dk n (D _) = _; rw [D_const]; exact Dk_zero n
theorem neg_smul (f : Fn) : (fun x => -f x) = fun x => -1 * f x := funext fun x => by grind
theorem Pol.neg {f : Fn} (h : Pol f) : Pol (fun x => -f x) := by rw [neg_smul]; exact h.smul _
theorem D_neg {f : Fn} (h : Pol f) : D (fun x => -f x) = fun x => -D f x := by rw [neg_smul, D_smul _ h, neg_smul]
theorem Dk_neg {f : Fn} (h : Pol f) (n : Nat) : Dk n (fun x => -f x) = fun x => -Dk n f x := by rw [neg_smul, Dk_smul _ h, neg_smul]
/-- All slopes end. -/
theorem pol_ends {f : Fn} (h : Pol f) : ∃ k, Dk k f = fun _ => 0 := by
  have key : ∀ k f, Pol f → Dk k f = (fun _ => 0) → Dk (k + 1) (fun x => x * f x) = fun _ => 0 := by
    intro k
    induction k with
    | zero =>
      intro f hf h
      have e : f = fun _ => 0 := h
      rw [e, show (fun x : Rat => x * 0) = fun _ => 0 from funext fun x => by grind]
      exact Dk_zero 1
    | succ k ih =>
      intro f hf h
      show Dk (k + 1) (D fun x => x * f x) = _
      rw [D_xmul hf, Dk_add hf hf.D.xmul, ih (D f) hf.D h, h]
      exact funext fun x => by grind
  refine h.ind (P := fun f => ∃ k, Dk k f = fun _ => 0) ⟨0, rfl⟩ fun a f hf ⟨k, hk⟩ => ?_
  refine ⟨k + 1, ?_⟩
  rw [Dk_add (Pol.const a) hf.xmul, key k f hf hk]
  show (fun x => Dk k (D fun _ => a) x + 0) = _
  rw [D_const, Dk_zero]
  exact funext fun x => by grind
theorem const_of {f : Fn} (hf : Pol f) (h : D f = fun _ => 0) (x y : Rat) : f x = f y := by
  have key : ∀ {f : Fn}, Pol f → D f = (fun _ => 0) → ∀ a b : Rat, a ≤ b → f a ≤ f b := fun hf h a b hab => mono hf hab fun x _ _ => by rw [h]; grind
  have two : ∀ a b : Rat, a ≤ b → f a = f b := fun a b hab => by
    have h1 := key hf h a b hab
    have h2 := key hf.neg (by rw [D_neg hf, h]; exact funext fun _ => by grind) a b hab
    grind
  by_cases hxy : x ≤ y
  · exact two x y hxy
  · exact (two y x (by grind)).symm
namespace Nest
variable {N : Nest}
/-- Nought there at least m times. -/
def Om (N : Nest) (f : Fn) (m : Nat) : Prop := ∀ j, j < m → N.Zr (Dk j f)
theorem Om.D {f : Fn} {m : Nat} (h : N.Om f (m + 1)) : N.Om (D f) m := fun j hj => h (j + 1) (by omega)
theorem om_succ {f : Fn} {m : Nat} (h : N.Zr f) (k : N.Om (D f) m) : N.Om f (m + 1)
  | 0, _ => h
  | j + 1, hj => k j (by omega)
theorem Om.le {f : Fn} {m n : Nat} (h : N.Om f m) (k : n ≤ m) : N.Om f n := fun j hj => h j (by omega)
theorem Om.add {f g : Fn} (hf : Pol f) (hg : Pol g) {m : Nat} (h : N.Om f m) (k : N.Om g m) : N.Om (fun x => f x + g x) m := fun j hj => by
  rw [Dk_add hf hg]; exact (h j hj).add (k j hj)
theorem Om.smul {f : Fn} (c : Rat) (hf : Pol f) {m : Nat} (h : N.Om f m) : N.Om (fun x => c * f x) m := fun j hj => by
  rw [Dk_smul c hf]; exact (h j hj).smul c
theorem om_of_smul {f : Fn} {c : Rat} (hc : c ≠ 0) (hf : Pol f) {m : Nat} (h : N.Om (fun x => c * f x) m) : N.Om f m := by
  have := h.smul (c⁻¹) (hf.smul c)
  rwa [show (fun x => c⁻¹ * (c * f x)) = f from funext fun x => by
    have : c⁻¹ * (c * f x) = c * c⁻¹ * f x := by grind
    rw [this, Rat.mul_inv_cancel c hc]; grind] at this
theorem Om.mul : ∀ {m : Nat} {f g : Fn}, Pol f → Pol g → N.Om f m → N.Om (fun x => f x * g x) m
  | 0, _, _, _, _, _ => fun j hj => by omega
  | m + 1, f, g, hf, hg, h => by
    refine om_succ ((h 0 (by omega)).mul hg) ?_
    rw [D_mul hf hg]
    exact Om.add (hf.D.mul hg) (hf.mul hg.D) (Om.mul hf.D hg h.D) (Om.mul hf hg.D (h.le (by omega)))
theorem Om.mul_r {m : Nat} {f g : Fn} (hf : Pol f) (hg : Pol g) (h : N.Om g m) : N.Om (fun x => f x * g x) m := by
  have := Om.mul hg hf h
  rwa [show (fun x => g x * f x) = fun x => f x * g x from funext fun x => by grind] at this
theorem Om.mul2 : ∀ {s a b : Nat} {f g : Fn}, a + b = s → Pol f → Pol g → N.Om f a → N.Om g b → N.Om (fun x => f x * g x) s
  | 0, _, _, _, _, _, _, _, _, _ => fun j hj => by omega
  | s + 1, a, b, f, g, e, hf, hg, h, k => by
    refine om_succ ?_ ?_
    · by_cases ha : a = 0
      · exact (Om.mul_r hf hg k) 0 (by omega)
      · exact (Om.mul hf hg h) 0 (by omega)
    · rw [D_mul hf hg]
      refine Om.add (hf.D.mul hg) (hf.mul hg.D) ?_ ?_
      · cases a with
        | zero => exact (Om.mul_r hf.D hg k).le (by omega)
        | succ a => exact Om.mul2 (a := a) (b := b) (by omega) hf.D hg h.D k
      · cases b with
        | zero => exact (Om.mul hf hg.D h).le (by omega)
        | succ b => exact Om.mul2 (a := a) (b := b) (by omega) hf hg.D h k.D
theorem lead0 : ∀ {n : Nat} {f g : Fn}, Pol f → Pol g → N.Om g n → N.Zr (fun x => Dk n (fun x => f x * g x) x - f x * Dk n g x)
  | 0, f, g, _, _, _ => by
    rw [show (fun x => Dk 0 (fun x => f x * g x) x - f x * Dk 0 g x) = fun _ => 0 from funext fun x => by show f x * g x - f x * g x = 0; grind]
    exact zr_zero
  | n + 1, f, g, hf, hg, h => by
    show N.Zr (fun x => Dk n (D fun x => f x * g x) x - f x * Dk n (D g) x)
    rw [D_mul hf hg, Dk_add (hf.D.mul hg) (hf.mul hg.D)]
    have h1 := (Om.mul_r hf.D hg h) n (by omega)
    have h2 := lead0 hf hg.D h.D
    have := h1.add h2
    rwa [show (fun x => Dk n (fun x => D f x * g x) x + (Dk n (fun x => f x * D g x) x - f x * Dk n (D g) x)) = fun x => Dk n (fun x => D f x * g x) x + Dk n (fun x => f x * D g x) x - f x * Dk n (D g) x from funext fun x => by grind] at this
/-- Its order is m, and above nought is what comes first. -/
def PO (N : Nest) (f : Fn) (m : Nat) : Prop := N.Om f m ∧ N.Ps (Dk m f)
theorem PO.not_om {f : Fn} {m : Nat} (h : N.PO f m) : ¬ N.Om f (m + 1) := fun k => (k m (by omega)).not_Ps h.2
theorem has_order {f : Fn} (hf : Pol f) (h0 : f ≠ fun _ => 0) : ∃ m, N.PO f m ∨ N.PO (fun x => -f x) m := by
  obtain ⟨k, hk⟩ := pol_ends hf
  have key : ∀ k, ∀ f : Fn, Pol f → f ≠ (fun _ => 0) → Dk k f = (fun _ => 0) → ∃ m, N.PO f m ∨ N.PO (fun x => -f x) m := by
    intro k
    induction k with
    | zero => intro f _ h0 hk; exact absurd hk h0
    | succ k ih =>
      intro f hf h0 hk
      rcases tri (N := N) hf with hz | hp | hn
      · have hD0 : D f ≠ fun _ => 0 := fun e => h0 (funext fun x => by
          have hc := const_of hf e
          refine Decidable.byContradiction fun hne => ?_
          rcases (show f x < 0 ∨ 0 < f x by grind) with h | h
          · exact hz.neg.not_Ps ⟨-f x, by grind, 0, fun y _ => by show -f x ≤ -f y; rw [hc y x]; grind⟩
          · exact hz.not_Ps ⟨f x, h, 0, fun y _ => by rw [hc y x]; grind⟩)
        obtain ⟨m, h⟩ := ih (D f) hf.D hD0 hk
        refine ⟨m + 1, h.imp (fun h => ⟨om_succ hz h.1, h.2⟩) fun h => ⟨om_succ hz.neg ?_, ?_⟩⟩
        · rw [D_neg hf]; exact h.1
        · show N.Ps (Dk m (D fun x => -f x)); rw [D_neg hf]; exact h.2
      · exact ⟨0, Or.inl ⟨fun j hj => by omega, hp⟩⟩
      · exact ⟨0, Or.inr ⟨fun j hj => by omega, hn⟩⟩
  exact key k f hf h0 hk
/-- -1 as often as that. -/
def alt : Nat → Rat
  | 0 => 1
  | n + 1 => -alt n
theorem alt_cases : ∀ n, alt n = 1 ∨ alt n = -1
  | 0 => Or.inl rfl
  | n + 1 => by rcases alt_cases n with h | h <;> simp [alt, h]
theorem pattern : ∀ {m : Nat} {f : Fn}, Pol f → N.PO f m → ∃ k, ∀ x, N.In k x → (N.Lf x → 0 < alt m * f x) ∧ (N.Rt x → 0 < f x)
  | 0, f, hf, h => by
    obtain ⟨c, hc, n, hn⟩ := h.2
    have e : Dk 0 f = f := rfl
    rw [e] at hn
    exact ⟨n, fun x hx => by have := hn x hx; exact ⟨fun _ => by show 0 < 1 * f x; grind, fun _ => by grind⟩⟩
  | m + 1, f, hf, h => by
    obtain ⟨k, hk⟩ := pattern (m := m) hf.D ⟨h.1.D, h.2⟩
    have hz : N.Zr f := h.1 0 (by omega)
    refine ⟨k, fun x hx => ⟨fun hl => ?_, fun hr => ?_⟩⟩
    · rcases alt_cases m with e | e
      · have := left_pos hf.neg (k := k) hz.neg (fun y hy hyl => by
          rw [D_neg hf]
          have := (hk y hy).1 hyl
          rw [e] at this
          grind) x hx hl
        show 0 < -alt m * f x
        rw [e]; grind
      · have := left_pos hf (k := k) hz (fun y hy hyl => by
          have := (hk y hy).1 hyl
          rw [e] at this
          grind) x hx hl
        show 0 < -alt m * f x
        rw [e]; grind
    · exact right_pos hf hz (fun y hy hyr => (hk y hy).2 hyr) x hx hr
end Nest
end Go.Sturm

namespace Go.Sturm

def sg (q : Rat) : Int := if 0 < q then 1 else if q < 0 then -1 else 0
theorem sg_pos {q : Rat} (h : 0 < q) : sg q = 1 := by unfold sg; rw [if_pos h]
theorem sg_neg {q : Rat} (h : q < 0) : sg q = -1 := by unfold sg; rw [if_neg (by grind), if_pos h]
theorem sg_zero : sg 0 = 0 := by unfold sg; rw [if_neg (by grind), if_neg (by grind)]
def alti : Nat → Int
  | 0 => 1
  | n + 1 => -alti n
theorem alti_cases : ∀ n, alti n = 1 ∨ alti n = -1
  | 0 => Or.inl rfl
  | n + 1 => by rcases alti_cases n with h | h <;> simp [alti, h]
theorem alt_alti : ∀ n, (alti n = 1 ∧ Nest.alt n = 1) ∨ (alti n = -1 ∧ Nest.alt n = -1)
  | 0 => Or.inl ⟨rfl, rfl⟩
  | n + 1 => by rcases alt_alti n with ⟨h, k⟩ | ⟨h, k⟩ <;> simp [alti, Nest.alt, h, k]
/-- The first slope that is not nought at a. -/
def FirstAt (f : Fn) (a : Rat) (k : Nat) : Prop := (∀ j, j < k → Dk j f a = 0) ∧ Dk k f a ≠ 0
theorem FirstAt.uniq {f : Fn} {a : Rat} {k l : Nat} (h : FirstAt f a k) (h' : FirstAt f a l) : k = l := by
  rcases Nat.lt_trichotomy k l with g | g | g
  · exact absurd (h'.1 k g) h.2
  · exact g
  · exact absurd (h.1 l g) h'.2
/-- The sign just ahead of a, and just behind it. -/
noncomputable def SA (f : Fn) (a : Rat) : Int := open Classical in if h : ∃ k, FirstAt f a k then sg (Dk h.choose f a) * alti h.choose else 0
noncomputable def SB (f : Fn) (a : Rat) : Int := open Classical in if h : ∃ k, FirstAt f a k then sg (Dk h.choose f a) else 0
theorem SA_of {f : Fn} {a : Rat} {k : Nat} (h : FirstAt f a k) : SA f a = sg (Dk k f a) * alti k := by
  have hx : ∃ k, FirstAt f a k := ⟨k, h⟩
  unfold SA
  rw [dif_pos hx, hx.choose_spec.uniq h]
theorem SB_of {f : Fn} {a : Rat} {k : Nat} (h : FirstAt f a k) : SB f a = sg (Dk k f a) := by
  have hx : ∃ k, FirstAt f a k := ⟨k, h⟩
  unfold SB
  rw [dif_pos hx, hx.choose_spec.uniq h]
namespace Nest
variable {N : Nest}
/-- Its order there, and the sign of what comes first. -/
def Loc (N : Nest) (f : Fn) (m : Nat) (s : Int) : Prop := (s = 1 ∧ N.PO f m) ∨ (s = -1 ∧ N.PO (fun x => -f x) m)
theorem has_loc {f : Fn} (hf : Pol f) (h0 : f ≠ fun _ => 0) : ∃ m s, N.Loc f m s := by
  obtain ⟨m, h | h⟩ := has_order (N := N) hf h0
  · exact ⟨m, 1, Or.inl ⟨rfl, h⟩⟩
  · exact ⟨m, -1, Or.inr ⟨rfl, h⟩⟩
theorem Loc.one {f : Fn} {m : Nat} {s : Int} (h : N.Loc f m s) : s = 1 ∨ s = -1 := h.imp (·.1) (·.1)
theorem Loc.om {f : Fn} (hf : Pol f) {m : Nat} {s : Int} (h : N.Loc f m s) : N.Om f m := by
  rcases h with ⟨_, h⟩ | ⟨_, h⟩
  · exact h.1
  · intro j hj
    have := (h.1 j hj).neg
    rw [Dk_neg hf] at this
    rwa [show (fun x => -(-Dk j f x)) = Dk j f from funext fun x => by grind] at this
theorem om_neg {f : Fn} (hf : Pol f) {m : Nat} (h : N.Om f m) : N.Om (fun x => -f x) m := fun j hj => by rw [Dk_neg hf]; exact (h j hj).neg
theorem Loc.lt {f : Fn} (hf : Pol f) {m n : Nat} {s : Int} (h : N.Loc f m s) (k : N.Om f n) : n ≤ m := by
  refine Nat.le_of_not_lt fun hl => ?_
  rcases h with ⟨_, h⟩ | ⟨_, h⟩
  · exact h.not_om (k.le hl)
  · exact h.not_om ((om_neg hf k).le hl)
theorem Loc.ge {f : Fn} (hf : Pol f) {m n : Nat} {s : Int} (h : N.Loc f m s) (k : n ≤ m) : N.Om f n := (h.om hf).le k
theorem three (x : Rat) : N.Lf x ∨ N.Rt x ∨ ∀ n, N.In n x := by
  by_cases h1 : N.Lf x
  · exact Or.inl h1
  by_cases h2 : N.Rt x
  · exact Or.inr (Or.inl h2)
  refine Or.inr (Or.inr fun n => ⟨?_, ?_⟩)
  · refine Decidable.byContradiction fun h => h1 ⟨n, by grind⟩
  · refine Decidable.byContradiction fun h => h2 ⟨n, by grind⟩
theorem loc_at {f : Fn} (hf : Pol f) {m : Nat} {s : Int} (h : N.Loc f m s) : ∃ k, ∀ x, N.In k x → (N.Lf x → SA f x = s * alti m ∧ SB f x = s * alti m) ∧ (N.Rt x → SA f x = s ∧ SB f x = s) := by
  have fst : ∀ x, f x ≠ 0 → SA f x = sg (f x) ∧ SB f x = sg (f x) := fun x hx => by
    have hF : FirstAt f x 0 := ⟨fun j hj => by omega, hx⟩
    rw [SA_of hF, SB_of hF]
    exact ⟨Int.mul_one _, rfl⟩
  rcases h with ⟨rfl, h⟩ | ⟨rfl, h⟩
  · obtain ⟨k, hk⟩ := pattern hf h
    refine ⟨k, fun x hx => ⟨fun hl => ?_, fun hr => ?_⟩⟩
    · have := (hk x hx).1 hl
      rcases alt_alti m with ⟨e, e'⟩ | ⟨e, e'⟩ <;> rw [e'] at this <;> rw [e]
      · obtain ⟨a, b⟩ := fst x (by grind)
        rw [a, b, sg_pos (by grind)]; exact ⟨rfl, rfl⟩
      · obtain ⟨a, b⟩ := fst x (by grind)
        rw [a, b, sg_neg (by grind)]; exact ⟨rfl, rfl⟩
    · have := (hk x hx).2 hr
      obtain ⟨a, b⟩ := fst x (by grind)
      rw [a, b, sg_pos this]; exact ⟨rfl, rfl⟩
  · obtain ⟨k, hk⟩ := pattern hf.neg h
    refine ⟨k, fun x hx => ⟨fun hl => ?_, fun hr => ?_⟩⟩
    · have := (hk x hx).1 hl
      rcases alt_alti m with ⟨e, e'⟩ | ⟨e, e'⟩ <;> rw [e'] at this <;> rw [e]
      · obtain ⟨a, b⟩ := fst x (by grind)
        rw [a, b, sg_neg (by grind)]; exact ⟨rfl, rfl⟩
      · obtain ⟨a, b⟩ := fst x (by grind)
        rw [a, b, sg_pos (by grind)]; exact ⟨rfl, rfl⟩
    · have := (hk x hx).2 hr
      obtain ⟨a, b⟩ := fst x (by grind)
      rw [a, b, sg_neg (by grind)]; exact ⟨rfl, rfl⟩
theorem loc_on {f : Fn} (hf : Pol f) {m : Nat} {s : Int} (h : N.Loc f m s) {x : Rat} (hx : ∀ n, N.In n x) : FirstAt f x m ∧ SA f x = s * alti m ∧ SB f x = s := by
  have hz : ∀ j, j < m → Dk j f x = 0 := fun j hj => (h.om hf j hj).at hx
  rcases h with ⟨rfl, h⟩ | ⟨rfl, h⟩
  · obtain ⟨c, hc, n, hn⟩ := h.2
    have hp := hn x (hx n)
    have hF : FirstAt f x m := ⟨hz, by grind⟩
    rw [SA_of hF, SB_of hF, sg_pos (by grind)]
    exact ⟨hF, rfl, rfl⟩
  · obtain ⟨c, hc, n, hn⟩ := h.2
    have hp := hn x (hx n)
    rw [Dk_neg hf] at hp
    have hF : FirstAt f x m := ⟨hz, by grind⟩
    rw [SA_of hF, SB_of hF, sg_neg (by grind)]
    exact ⟨hF, rfl, rfl⟩
theorem zr_iff {f : Fn} (hf : Pol f) {m : Nat} {s : Int} (h : N.Loc f m s) : N.Zr f ↔ 0 < m := by
  constructor
  · intro hz
    exact h.lt hf (n := 1) fun j hj => by rw [show j = 0 by omega]; exact hz
  · intro hm; exact h.om hf 0 hm
end Nest
/-! ### How often signs change -/
def ind (a b : Int) : Int := if b = -a then 1 else 0
def cnt (s : Nat → Int) : Nat → Nat → Int
  | _, 0 => 0
  | j, d + 1 => ind (s j) (s (j + 1)) + cnt s (j + 1) d
theorem cnt_congr {s t : Nat → Int} : ∀ {d j : Nat}, (∀ i, j ≤ i → i ≤ j + d → s i = t i) → cnt s j d = cnt t j d
  | 0, _, _ => rfl
  | d + 1, j, h => by
    show ind (s j) (s (j + 1)) + cnt s (j + 1) d = ind (t j) (t (j + 1)) + cnt t (j + 1) d
    rw [h j (by omega) (by omega), h (j + 1) (by omega) (by omega), cnt_congr fun i h1 h2 => h i (by omega) (by omega)]
/-- A chain: each the rest of the two ahead of it. -/
structure Chain0 (p : Nat → Fn) (r : Nat) : Prop where
  pol : ∀ i, i ≤ r → Pol (p i)
  nz : ∀ i, i ≤ r → p i ≠ fun _ => 0
  one : 1 ≤ r
  slope : ∃ c : Rat, 0 < c ∧ ∀ x, p 1 x = c * D (p 0) x
  step : ∀ i, i + 2 ≤ r → ∃ (a b : Rat) (Q : Fn), 0 < a ∧ b ≠ 0 ∧ Pol Q ∧ ∀ x, a * p i x + b * p (i + 2) x = Q x * p (i + 1) x
  last : ∃ (a : Rat) (Q : Fn), 0 < a ∧ Pol Q ∧ ∀ x, a * p (r - 1) x = Q x * p r x
structure Chain (p : Nat → Fn) (r : Nat) : Prop extends Chain0 p r where
  sgn : ∀ i, i + 2 ≤ r → ∃ (a b : Rat) (Q : Fn), 0 < a ∧ 0 < b ∧ Pol Q ∧ ∀ x, a * p i x + b * p (i + 2) x = Q x * p (i + 1) x
section
variable {p : Nat → Fn} {r : Nat} {N : Nest}
theorem om_left {a b : Rat} {f g h Q : Fn} (hf : Pol f) (hg : Pol g) (hh : Pol h) (hQ : Pol Q) (ha : a ≠ 0) (e : ∀ x, a * f x + b * g x = Q x * h x) {n : Nat} (kg : N.Om g n) (kh : N.Om h n) : N.Om f n := by
  have h1 := Nest.Om.add (hQ.mul hh) (hg.smul (-b)) (Nest.Om.mul_r hQ hh kh) (kg.smul (-b) hg)
  rw [show (fun x => Q x * h x + -b * g x) = fun x => a * f x from funext fun x => by rw [← e x]; grind] at h1
  exact Nest.om_of_smul ha hf h1
namespace Chain0
variable (C : Chain0 p r)
include C
theorem om_all {n : Nat} (h : N.Om (p r) n) : ∀ d, d ≤ r → N.Om (p (r - d)) n ∧ (0 < d → N.Om (p (r - d + 1)) n)
  | 0, _ => ⟨h, fun h => by omega⟩
  | d + 1, hd => by
    obtain ⟨h1, h2⟩ := om_all h d (by omega)
    have e1 : r - (d + 1) + 1 = r - d := by omega
    rw [e1]
    refine ⟨?_, fun _ => h1⟩
    by_cases h0 : d = 0
    · subst h0
      obtain ⟨a, Q, ha, hQ, e⟩ := C.last
      exact om_left (a := a) (g := fun _ => 0) (b := 0) (C.pol (r - 1) (by omega)) Pol.zero (C.pol r (Nat.le_refl _)) hQ (by grind) (fun x => by rw [← e x]; grind) (fun j _ => by rw [Dk_zero]; exact Nest.zr_zero) h
    · obtain ⟨a, b, Q, ha, hb, hQ, e⟩ := C.step (r - (d + 1)) (by omega)
      have e2 : r - (d + 1) + 2 = r - d + 1 := by omega
      rw [e1, e2] at e
      exact om_left (C.pol _ (by omega)) (C.pol _ (by omega)) (C.pol _ (by omega)) hQ (by grind) e (h2 (by omega)) h1
theorem om_on {n i : Nat} (h1 : N.Om (p i) n) (h2 : N.Om (p (i + 1)) n) (hi : i + 1 ≤ r) : N.Om (p r) n := by
  have key : ∀ d, i + 1 + d ≤ r → N.Om (p (i + d)) n ∧ N.Om (p (i + 1 + d)) n := by
    intro d
    induction d with
    | zero => intro _; exact ⟨h1, h2⟩
    | succ d ih =>
      intro hd
      obtain ⟨g1, g2⟩ := ih (by omega)
      have e1 : i + (d + 1) = i + 1 + d := by omega
      rw [e1]
      refine ⟨g2, ?_⟩
      obtain ⟨a, b, Q, ha, hb, hQ, e⟩ := C.step (i + d) (by omega)
      have e2 : i + d + 1 = i + 1 + d := by omega
      have e3 : i + d + 2 = i + 1 + (d + 1) := by omega
      rw [e2, e3] at e
      exact om_left (a := b) (b := a) (g := p (i + d)) (C.pol _ (by omega)) (C.pol _ (by omega)) (C.pol _ (by omega)) hQ hb (fun x => by rw [← e x]; grind) g1 g2
  have := (key (r - (i + 1)) (by omega)).2
  rwa [show i + 1 + (r - (i + 1)) = r by omega] at this
/-- The orders of a chain's members. -/
theorem orders {m : Nat → Nat} {s : Nat → Int} (h : ∀ i, i ≤ r → N.Loc (p i) (m i) (s i)) : (∀ i, i ≤ r → m r ≤ m i) ∧ (∀ i, i + 1 ≤ r → m i = m r ∨ m (i + 1) = m r) ∧ (0 < m 0 → m r + 1 = m 0 ∧ m 1 = m r ∧ s 1 = s 0) ∧ (m 0 = 0 → m r = 0) := by
  have hr := h r (Nat.le_refl _)
  have a1 : ∀ i, i ≤ r → m r ≤ m i := fun i hi => by
    have := (C.om_all (hr.om (C.pol r (Nat.le_refl _))) (r - i) (by omega)).1
    rw [show r - (r - i) = i by omega] at this
    exact (h i hi).lt (C.pol i hi) this
  have a2 : ∀ i, i + 1 ≤ r → m i = m r ∨ m (i + 1) = m r := fun i hi => by
    refine Decidable.byContradiction fun hn => ?_
    have g1 := a1 i (by omega)
    have g2 := a1 (i + 1) hi
    have := C.om_on (i := i) (n := m r + 1) ((h i (by omega)).ge (C.pol i (by omega)) (by omega)) ((h (i + 1) hi).ge (C.pol _ hi) (by omega)) hi
    have := hr.lt (C.pol r (Nat.le_refl _)) this
    omega
  refine ⟨a1, a2, fun h0 => ?_, fun h0 => ?_⟩
  · have h1 := C.one
    obtain ⟨c, hc, e⟩ := C.slope
    have p0 := C.pol 0 (Nat.zero_le _)
    have ep : p 1 = fun x => c * D (p 0) x := funext e
    obtain ⟨k, hk⟩ : ∃ k, m 0 = k + 1 := ⟨m 0 - 1, by omega⟩
    have hl : N.Loc (p 1) k (s 0) := by
      have hl0 := h 0 (Nat.zero_le _)
      rw [hk] at hl0
      rw [ep]
      rcases hl0 with ⟨e1, o, q⟩ | ⟨e1, o, q⟩
      · refine Or.inl ⟨e1, o.D.smul c p0.D, ?_⟩
        rw [Dk_smul c p0.D]
        exact q.smul hc
      · refine Or.inr ⟨e1, ?_⟩
        have e2 : (fun x => -(c * D (p 0) x)) = fun x => c * D (fun x => -p 0 x) x := funext fun x => by rw [D_neg p0]; grind
        rw [e2]
        refine ⟨o.D.smul c p0.neg.D, ?_⟩
        rw [Dk_smul c p0.neg.D]
        exact q.smul hc
    have hl1 := h 1 h1
    have q1 := hl.lt (C.pol 1 h1) (hl1.om (C.pol 1 h1))
    have q2 := hl1.lt (C.pol 1 h1) (hl.om (C.pol 1 h1))
    have em : m 1 = k := by omega
    have es : s 1 = s 0 := by
      rw [em] at hl1
      rcases hl1 with ⟨e1, o1⟩ | ⟨e1, o1⟩ <;> rcases hl with ⟨e2, o2⟩ | ⟨e2, o2⟩
      · rw [e1, e2]
      · have := o2.2; rw [Dk_neg (C.pol 1 h1)] at this; exact absurd this o1.2.not_neg
      · have := o1.2; rw [Dk_neg (C.pol 1 h1)] at this; exact absurd this o2.2.not_neg
      · rw [e1, e2]
    have : m 0 = m r ∨ m 1 = m r := a2 0 (by omega)
    have := a1 1 h1
    exact ⟨by omega, by omega, es⟩
  · have := a1 0 (Nat.zero_le _); omega
end Chain0
theorem ind_flip {a b : Int} (k : Nat) : ind (a * alti k) (b * alti k) = ind a b := by
  unfold ind
  rcases alti_cases k with e | e <;> rw [e]
  · rw [Int.mul_one, Int.mul_one]
  · congr 1
    simp only [eq_iff_iff]
    omega
theorem ind_two {a b c : Int} (ha : a = 1 ∨ a = -1) (hb : b = 1 ∨ b = -1) (h : c = -a) : ind a b + ind b c = 1 := by
  subst h
  rcases ha with rfl | rfl <;> rcases hb with rfl | rfl <;> decide
theorem one_mul_alti {s : Int} (h : s = 1 ∨ s = -1) (k : Nat) : s * alti k = 1 ∨ s * alti k = -1 := by
  rcases h with rfl | rfl <;> rcases alti_cases k with e | e <;> rw [e] <;> decide
/-- Sturm's rule at a place. -/
theorem Chain.local (C : Chain p r) {m : Nat → Nat} {s : Nat → Int} (h : ∀ i, i ≤ r → N.Loc (p i) (m i) (s i)) : cnt (fun i => s i * alti (m i)) 0 r = cnt s 0 r + if m 0 = 0 then 0 else 1 := by
  obtain ⟨a1, a2, a3, a4⟩ := C.toChain0.orders h
  have opp : ∀ i, i + 2 ≤ r → m r < m (i + 1) → m i = m r ∧ m (i + 2) = m r ∧ s (i + 2) = -s i := fun i hi hm => by
    have g1 : m i = m r := (a2 i (by omega)).resolve_right (by omega)
    have g2 : m (i + 2) = m r := (a2 (i + 1) (by omega)).resolve_left (by omega)
    refine ⟨g1, g2, ?_⟩
    obtain ⟨a, b, Q, ha, hb, hQ, e⟩ := C.sgn i hi
    have pi := C.pol i (by omega)
    have pj := C.pol (i + 1) (by omega)
    have pk := C.pol (i + 2) hi
    have hz : N.Zr (Dk (m r) (fun x => Q x * p (i + 1) x)) := Nest.Om.mul_r hQ pj ((h (i + 1) (by omega)).ge pj (show m r + 1 ≤ m (i + 1) by omega)) (m r) (by omega)
    rw [show (fun x => Q x * p (i + 1) x) = fun x => a * p i x + b * p (i + 2) x from funext fun x => (e x).symm, Dk_add (pi.smul a) (pk.smul b), Dk_smul a pi, Dk_smul b pk] at hz
    have l1 := h i (by omega)
    have l2 := h (i + 2) hi
    rw [g1] at l1
    rw [g2] at l2
    rcases l1 with ⟨e1, o1⟩ | ⟨e1, o1⟩ <;> rcases l2 with ⟨e2, o2⟩ | ⟨e2, o2⟩
    · exact absurd ((o1.2.smul ha).add (o2.2.smul hb)) hz.not_Ps
    · rw [e1, e2]
    · rw [e1, e2]; decide
    · have q1 := o1.2
      have q2 := o2.2
      rw [Dk_neg pi] at q1
      rw [Dk_neg pk] at q2
      have := (q1.smul ha).add (q2.smul hb)
      rw [show (fun x => a * -Dk (m r) (p i) x + b * -Dk (m r) (p (i + 2)) x) = fun x => -(a * Dk (m r) (p i) x + b * Dk (m r) (p (i + 2)) x) from funext fun x => by grind] at this
      exact absurd this hz.neg.not_Ps
  have one : ∀ i, i ≤ r → s i = 1 ∨ s i = -1 := fun i hi => (h i hi).one
  have tail : ∀ n d j, d ≤ n → j + d = r → m j = m r → cnt (fun i => s i * alti (m i)) j d = cnt s j d := by
    intro n
    induction n with
    | zero => intro d j hd _ _; rw [show d = 0 by omega]; rfl
    | succ n ih =>
      intro d j hd hj hm
      cases d with
      | zero => rfl
      | succ d =>
        show ind (s j * alti (m j)) (s (j + 1) * alti (m (j + 1))) + cnt _ (j + 1) d = ind (s j) (s (j + 1)) + cnt s (j + 1) d
        by_cases h1 : m (j + 1) = m r
        · rw [ih d (j + 1) (by omega) (by omega) h1, hm, h1, ind_flip]
        · have hlt : m r < m (j + 1) := by have := a1 (j + 1) (by omega); omega
          have hd0 : d ≠ 0 := fun e => by subst e; exact h1 (by rw [show j + 1 = r by omega])
          cases d with
          | zero => exact absurd rfl hd0
          | succ d =>
            obtain ⟨g1, g2, g3⟩ := opp j (by omega) hlt
            show ind (s j * alti (m j)) (s (j + 1) * alti (m (j + 1))) + (ind (s (j + 1) * alti (m (j + 1))) (s (j + 2) * alti (m (j + 2))) + cnt _ (j + 2) d) = ind (s j) (s (j + 1)) + (ind (s (j + 1)) (s (j + 2)) + cnt s (j + 2) d)
            rw [ih d (j + 2) (by omega) (by omega) g2]
            have i1 := ind_two (one j (by omega)) (one (j + 1) (by omega)) g3
            have i2 := ind_two (c := s (j + 2) * alti (m (j + 2))) (one_mul_alti (one j (by omega)) (m j)) (one_mul_alti (one (j + 1) (by omega)) (m (j + 1))) (by rw [g1, g2, g3, Int.neg_mul])
            omega
  by_cases h0 : m 0 = 0
  · rw [if_pos h0, tail r r 0 (Nat.le_refl _) (by omega) (by rw [h0, a4 h0]), Int.add_zero]
  · rw [if_neg h0]
    obtain ⟨b1, b2, b3⟩ := a3 (by omega)
    obtain ⟨d, hd⟩ : ∃ d, r = d + 1 := ⟨r - 1, by have := C.one; omega⟩
    have ht := tail d d 1 (Nat.le_refl _) (by omega) b2
    have hc : ∀ t : Nat → Int, cnt t 0 r = ind (t 0) (t 1) + cnt t 1 d := fun t => by rw [hd]; rfl
    rw [hc, hc, ht, b2, ← b1, b3]
    have i1 : ind (s 0 * alti (m r + 1)) (s 0 * alti (m r)) = 1 := by
      unfold ind
      rw [show alti (m r + 1) = -alti (m r) from rfl, Int.mul_neg, Int.neg_neg, if_pos rfl]
    have i2 : ind (s 0) (s 0) = 0 := by
      unfold ind
      rw [if_neg]
      rcases one 0 (Nat.zero_le _) with e | e <;> rw [e] <;> decide
    rw [i1, i2]
    omega
end
end Go.Sturm

namespace Go.Sturm

def pw : Nat → Rat
  | 0 => 1
  | n + 1 => 2 * pw n
theorem pw_ge : ∀ n : Nat, (n : Rat) + 1 ≤ pw n
  | 0 => by show ((0 : Nat) : Rat) + 1 ≤ 1; simp; grind
  | n + 1 => by
    have := pw_ge n
    have h0 : (0 : Rat) ≤ (n : Rat) := by
      have : ((0 : Nat) : Rat) ≤ (n : Rat) := Rat.natCast_le_natCast.2 (Nat.zero_le _)
      simpa using this
    have e : ((n + 1 : Nat) : Rat) = (n : Rat) + 1 := by simp
    rw [e]
    show (n : Rat) + 1 + 1 ≤ 2 * pw n
    grind
section
variable {Bad : Rat → Rat → Prop} {a b : Rat}
def BS (Bad : Rat → Rat → Prop) (a b : Rat) : Type := { q : Rat × Rat // a ≤ q.1 ∧ q.1 < q.2 ∧ q.2 ≤ b ∧ Bad q.1 q.2 }
theorem bnext_ex (st : ∀ u v, a ≤ u → u < v → v ≤ b → Bad u v → Bad u ((u + v) / 2) ∨ Bad ((u + v) / 2) v) (q : BS Bad a b) : ∃ q' : BS Bad a b, q.1.1 ≤ q'.1.1 ∧ q'.1.2 ≤ q.1.2 ∧ 2 * (q'.1.2 - q'.1.1) = q.1.2 - q.1.1 := by
  obtain ⟨⟨u, v⟩, h1, h2, h3, h4⟩ := q
  replace h1 : a ≤ u := h1
  replace h2 : u < v := h2
  replace h3 : v ≤ b := h3
  rcases st u v h1 h2 h3 h4 with h | h
  · exact ⟨⟨(u, (u + v) / 2), h1, by grind, by grind, h⟩, Rat.le_refl, show (u + v) / 2 ≤ v by grind, show 2 * ((u + v) / 2 - u) = v - u by grind⟩
  · exact ⟨⟨((u + v) / 2, v), by grind, by grind, h3, h⟩, show u ≤ (u + v) / 2 by grind, Rat.le_refl, show 2 * (v - (u + v) / 2) = v - u by grind⟩
noncomputable def bnext (st : ∀ u v, a ≤ u → u < v → v ≤ b → Bad u v → Bad u ((u + v) / 2) ∨ Bad ((u + v) / 2) v) (q : BS Bad a b) : BS Bad a b := (bnext_ex st q).choose
theorem bnext_ok (st : ∀ u v, a ≤ u → u < v → v ≤ b → Bad u v → Bad u ((u + v) / 2) ∨ Bad ((u + v) / 2) v) (q : BS Bad a b) : q.1.1 ≤ (bnext st q).1.1 ∧ (bnext st q).1.2 ≤ q.1.2 ∧ 2 * ((bnext st q).1.2 - (bnext st q).1.1) = q.1.2 - q.1.1 := (bnext_ex st q).choose_spec
noncomputable def bseq (st : ∀ u v, a ≤ u → u < v → v ≤ b → Bad u v → Bad u ((u + v) / 2) ∨ Bad ((u + v) / 2) v) (q : BS Bad a b) : Nat → BS Bad a b
  | 0 => q
  | n + 1 => bnext st (bseq st q n)
theorem bseq_len (st : ∀ u v, a ≤ u → u < v → v ≤ b → Bad u v → Bad u ((u + v) / 2) ∨ Bad ((u + v) / 2) v) (q : BS Bad a b) : ∀ n, pw n * ((bseq st q n).1.2 - (bseq st q n).1.1) = q.1.2 - q.1.1
  | 0 => by show 1 * (q.1.2 - q.1.1) = _; grind
  | n + 1 => by
    have h1 := bseq_len st q n
    have h2 := (bnext_ok st (bseq st q n)).2.2
    show 2 * pw n * ((bnext st (bseq st q n)).1.2 - (bnext st (bseq st q n)).1.1) = _
    rw [← h1, ← h2]
    grind
theorem bisect (hab : a < b) (h : Bad a b) (st : ∀ u v, a ≤ u → u < v → v ≤ b → Bad u v → Bad u ((u + v) / 2) ∨ Bad ((u + v) / 2) v) : ∃ N : Nest, (∀ n, Bad (N.u n) (N.v n)) ∧ ∀ n, a ≤ N.u n ∧ N.v n ≤ b := by
  let q : BS Bad a b := ⟨(a, b), Rat.le_refl, hab, Rat.le_refl, h⟩
  refine ⟨⟨fun n => (bseq st q n).1.1, fun n => (bseq st q n).1.2, fun n => (bnext_ok st (bseq st q n)).1, fun n => (bnext_ok st (bseq st q n)).2.1, fun n => (bseq st q n).2.2.1, fun e he => ?_⟩, fun n => (bseq st q n).2.2.2.2, fun n => ⟨(bseq st q n).2.1, (bseq st q n).2.2.2.1⟩⟩
  obtain ⟨n, t, ht, hn, _, hc⟩ := parts (b - a) he
  refine ⟨n, Decidable.byContradiction fun hh => ?_⟩
  have h1 := bseq_len st q n
  have h2 := pw_ge n
  have e0 : q.1.2 - q.1.1 = b - a := rfl
  rw [e0] at h1
  generalize (bseq st q n).1.2 - (bseq st q n).1.1 = l at *
  have h3 := Rat.mul_le_mul_of_nonneg_left (show e ≤ l by grind) (show 0 ≤ pw n by grind)
  have h4 := Rat.mul_le_mul_of_nonneg_right h2 (show 0 ≤ e by grind)
  grind
end
theorem nest_at (a : Rat) : ∃ N : Nest, ∀ n, N.In n a := by
  obtain ⟨N, h, _⟩ := bisect (Bad := fun u v => u ≤ a ∧ a ≤ v) (a := a - 1) (b := a + 1) (by grind) ⟨by grind, by grind⟩ fun u v _ _ _ h => by
    by_cases hm : a ≤ (u + v) / 2
    · exact Or.inl ⟨h.1, hm⟩
    · exact Or.inr ⟨by grind, h.2⟩
  exact ⟨N, h⟩
theorem Nest.ge_u {N : Nest} {x : Rat} (h : ∀ n, N.In n x) {y : Rat} (hy : x < y) : N.Rt y := by
  obtain ⟨n, hn⟩ := N.sm (y - x) (by grind)
  exact ⟨n, by have := (h n).1; grind⟩
theorem Nest.le_v {N : Nest} {x : Rat} (h : ∀ n, N.In n x) {y : Rat} (hy : y < x) : N.Lf y := by
  obtain ⟨n, hn⟩ := N.sm (x - y) (by grind)
  exact ⟨n, by have := (h n).2; grind⟩
/-- How often signs change ahead of a place, and behind it. -/
noncomputable def cA (p : Nat → Fn) (r : Nat) (a : Rat) : Int := cnt (fun i => SA (p i) a) 0 r
noncomputable def cB (p : Nat → Fn) (r : Nat) (a : Rat) : Int := cnt (fun i => SB (p i) a) 0 r
/-- What holds near a place. -/
structure Near (N : Nest) (p : Nat → Fn) (r : Nat) (L R : Int) (k : Nat) : Prop where
  lf : ∀ x, N.In k x → N.Lf x → cA p r x = L ∧ cB p r x = L
  rt : ∀ x, N.In k x → N.Rt x → cA p r x = R ∧ cB p r x = R
  on : ∀ x, (∀ n, N.In n x) → cA p r x = L ∧ cB p r x = R
structure NearS (N : Nest) (f : Fn) (L R : Int) (k : Nat) : Prop where
  lf : ∀ x, N.In k x → N.Lf x → SA f x = L ∧ SB f x = L
  rt : ∀ x, N.In k x → N.Rt x → SA f x = R ∧ SB f x = R
  on : ∀ x, (∀ n, N.In n x) → SA f x = L ∧ SB f x = R
theorem near_s {N : Nest} {f : Fn} (hf : Pol f) (h0 : f ≠ fun _ => 0) : ∃ L R k, NearS N f L R k ∧ (¬ N.Zr f → L = R) := by
  obtain ⟨m, s, hl⟩ := Nest.has_loc (N := N) hf h0
  obtain ⟨k, hk⟩ := Nest.loc_at hf hl
  refine ⟨s * alti m, s, k, ⟨fun x hx h => (hk x hx).1 h, fun x hx h => (hk x hx).2 h, fun x hx => (Nest.loc_on hf hl hx).2⟩, fun hz => ?_⟩
  have : m = 0 := by
    refine Decidable.byContradiction fun h => hz ((Nest.zr_iff hf hl).2 (by omega))
  rw [this]
  show s * 1 = s
  omega
theorem common {P : Nat → Nat → Prop} (mono : ∀ i k l, k ≤ l → P i k → P i l) : ∀ r, (∀ i, i ≤ r → ∃ k, P i k) → ∃ k, ∀ i, i ≤ r → P i k
  | 0, h => by
    obtain ⟨k, hk⟩ := h 0 (Nat.le_refl _)
    exact ⟨k, fun i hi => by rw [show i = 0 by omega]; exact hk⟩
  | r + 1, h => by
    obtain ⟨k, hk⟩ := common mono r fun i hi => h i (by omega)
    obtain ⟨l, hl⟩ := h (r + 1) (Nat.le_refl _)
    refine ⟨max k l, fun i hi => ?_⟩
    by_cases e : i = r + 1
    · subst e; exact mono _ _ _ (Nat.le_max_right _ _) hl
    · exact mono _ _ _ (Nat.le_max_left _ _) (hk i (by omega))
section
variable {p : Nat → Fn} {r : Nat}
theorem Chain.near (C : Chain p r) (N : Nest) : ∃ L R k, Near N p r L R k ∧ ((L = R ∧ ¬ N.Zr (p 0)) ∨ (L = R + 1 ∧ N.Zr (p 0))) := by
  have hex : ∀ i, ∃ q : Nat × Int, i ≤ r → N.Loc (p i) q.1 q.2 := fun i => by
    by_cases hi : i ≤ r
    · obtain ⟨m, s, h⟩ := Nest.has_loc (N := N) (C.pol i hi) (C.nz i hi)
      exact ⟨(m, s), fun _ => h⟩
    · exact ⟨(0, 0), fun h => absurd h hi⟩
  obtain ⟨q, hq⟩ := Classical.axiomOfChoice hex
  have hl : ∀ i, i ≤ r → N.Loc (p i) (q i).1 (q i).2 := fun i hi => hq i hi
  have hloc := C.local (m := fun i => (q i).1) (s := fun i => (q i).2) hl
  obtain ⟨k, hk⟩ := common (P := fun i k => ∀ x, N.In k x → (N.Lf x → SA (p i) x = (q i).2 * alti (q i).1 ∧ SB (p i) x = (q i).2 * alti (q i).1) ∧ (N.Rt x → SA (p i) x = (q i).2 ∧ SB (p i) x = (q i).2)) (fun i k l h hp x hx => hp x (hx.mono N h)) r fun i hi => Nest.loc_at (C.pol i hi) (hl i hi)
  refine ⟨cnt (fun i => (q i).2 * alti (q i).1) 0 r, cnt (fun i => (q i).2) 0 r, k, ⟨fun x hx h => ?_, fun x hx h => ?_, fun x hx => ?_⟩, ?_⟩
  · exact ⟨cnt_congr fun i _ hi => ((hk i (by omega) x hx).1 h).1, cnt_congr fun i _ hi => ((hk i (by omega) x hx).1 h).2⟩
  · exact ⟨cnt_congr fun i _ hi => ((hk i (by omega) x hx).2 h).1, cnt_congr fun i _ hi => ((hk i (by omega) x hx).2 h).2⟩
  · exact ⟨cnt_congr fun i _ hi => (Nest.loc_on (C.pol i (by omega)) (hl i (by omega)) hx).2.1, cnt_congr fun i _ hi => (Nest.loc_on (C.pol i (by omega)) (hl i (by omega)) hx).2.2⟩
  · have hz := Nest.zr_iff (C.pol 0 (Nat.zero_le _)) (hl 0 (Nat.zero_le _))
    by_cases h0 : (q 0).1 = 0
    · rw [if_pos h0, Int.add_zero] at hloc
      exact Or.inl ⟨hloc, fun h => by have := hz.1 h; omega⟩
    · rw [if_neg h0] at hloc
      exact Or.inr ⟨hloc, hz.2 (by omega)⟩
theorem zr_on {N : Nest} {f : Fn} (hf : Pol f) {a : Rat} (ha : ∀ n, N.In n a) : N.Zr f ↔ f a = 0 := by
  refine ⟨fun h => h.at ha, fun h => ?_⟩
  rcases Nest.tri (N := N) hf with g | ⟨c, hc, n, g⟩ | ⟨c, hc, n, g⟩
  · exact g
  · have := g a (ha n); grind
  · have := g a (ha n); grind
variable (C : Chain p r)
include C
theorem Chain.ab (a : Rat) : cA p r a = cB p r a + if p 0 a = 0 then 1 else 0 := by
  obtain ⟨N, hN⟩ := nest_at a
  obtain ⟨L, R, k, hn, h⟩ := C.near N
  obtain ⟨e1, e2⟩ := hn.on a hN
  have hz := zr_on (C.pol 0 (Nat.zero_le _)) hN
  rw [e1, e2]
  rcases h with ⟨h1, h2⟩ | ⟨h1, h2⟩
  · rw [if_neg fun h => h2 (hz.2 h), h1, Int.add_zero]
  · rw [if_pos (hz.1 h2), h1]
theorem Chain.ab_le (a : Rat) : cB p r a ≤ cA p r a := by
  rw [C.ab a]
  by_cases h : p 0 a = 0
  · rw [if_pos h]; omega
  · rw [if_neg h]; omega
theorem Chain.down {a b : Rat} (hab : a < b) : cA p r b ≤ cB p r a := by
  refine Decidable.byContradiction fun hn => ?_
  obtain ⟨N, h, _⟩ := bisect (Bad := fun u v => ¬ cA p r v ≤ cB p r u) hab hn fun u v _ _ _ h => by
    have := C.ab_le ((u + v) / 2)
    by_cases h1 : cA p r ((u + v) / 2) ≤ cB p r u
    · exact Or.inr (by omega)
    · exact Or.inl h1
  obtain ⟨L, R, k, hk, hLR⟩ := C.near N
  have hle : R ≤ L := by rcases hLR with ⟨h, _⟩ | ⟨h, _⟩ <;> omega
  have hb := h k
  have iu := N.in_u (Nat.le_refl k)
  have iv := N.in_v (Nat.le_refl k)
  rcases N.three (N.u k) with hu | ⟨j, hu⟩ | hu
  · rw [(hk.lf _ iu hu).2] at hb
    rcases N.three (N.v k) with ⟨j, hv⟩ | hv | hv
    · exact absurd (N.u_lt_v j k) (by grind)
    · rw [(hk.rt _ iv hv).1] at hb; omega
    · rw [(hk.on _ hv).1] at hb; omega
  · exact absurd (N.u_lt_v k j) (by grind)
  · rw [(hk.on _ hu).2, (hk.rt _ iv (Nest.ge_u hu (N.lt k))).1] at hb
    omega
theorem Chain.mono {a b : Rat} (hab : a ≤ b) : cA p r b ≤ cA p r a := by
  by_cases h : a = b
  · rw [h]; exact Int.le_refl _
  · have := C.down (show a < b by grind)
    have := C.ab_le a
    omega
/-- Where no root is passed, the sign is the same. -/
theorem Chain.same {a b : Rat} (hab : a ≤ b) (h : cA p r a = cA p r b) : SA (p 0) a = SA (p 0) b := by
  by_cases hne : a = b
  · rw [hne]
  refine Decidable.byContradiction fun hn => ?_
  obtain ⟨N, hB, hi⟩ := bisect (Bad := fun u v => SA (p 0) u ≠ SA (p 0) v) (show a < b by grind) hn fun u v _ _ _ h => by
    by_cases h1 : SA (p 0) u = SA (p 0) ((u + v) / 2)
    · exact Or.inr (by rwa [← h1])
    · exact Or.inl h1
  obtain ⟨L, R, k, hk, hLR⟩ := C.near N
  obtain ⟨l, t, k', hk', hz⟩ := near_s (N := N) (C.pol 0 (Nat.zero_le _)) (C.nz 0 (Nat.zero_le _))
  have hb := hB (max k k')
  have iu := N.in_u (Nat.le_max_left k k')
  have iv := N.in_v (Nat.le_max_left k k')
  have iu' := N.in_u (Nat.le_max_right k k')
  have iv' := N.in_v (Nat.le_max_right k k')
  have hlt := N.lt (max k k')
  obtain ⟨i1, i2⟩ := hi (max k k')
  generalize N.u (max k k') = u at *
  generalize N.v (max k k') = v at *
  have m1 := C.mono i1
  have m2 := C.mono i2
  have hA : cA p r u = L ∧ SA (p 0) u = l := by
    rcases N.three u with hu | ⟨j, hu⟩ | hu
    · exact ⟨(hk.lf _ iu hu).1, (hk'.lf _ iu' hu).1⟩
    · exfalso
      rcases N.three v with ⟨i, hv⟩ | ⟨i, hv⟩ | hv
      · have := N.u_lt_v i j; grind
      · refine hb ?_
        rw [(hk'.rt _ iu' ⟨j, hu⟩).1, (hk'.rt _ iv' ⟨i, hv⟩).1]
      · have := (hv j).2; grind
    · exact ⟨(hk.on _ hu).1, (hk'.on _ hu).1⟩
  rcases N.three v with hv | hv | hv
  · exact hb (by rw [hA.2, (hk'.lf _ iv' hv).1])
  · rw [(hk.rt _ iv hv).1] at m2
    rw [hA.1] at m1
    rcases hLR with ⟨e, hz'⟩ | ⟨e, _⟩
    · exact hb (by rw [hA.2, (hk'.rt _ iv' hv).1]; exact hz hz')
    · have := C.mono (Rat.le_of_lt hlt)
      omega
  · exact hb (by rw [hA.2, (hk'.on _ hv).1])
/-- Where there is no root between, no count is passed. -/
theorem Chain.none {a b : Rat} (hab : a < b) (h1 : ∀ x, a < x → x < b → p 0 x ≠ 0) (h2 : ∀ N : Nest, (∀ n, a ≤ N.u n ∧ N.v n ≤ b) → N.Zr (p 0) → (∀ n, N.In n a) ∨ ∀ n, N.In n b) : cB p r a = cA p r b := by
  refine Decidable.byContradiction fun hn => ?_
  obtain ⟨N, hB, hi⟩ := bisect (Bad := fun u v => cB p r u ≠ cA p r v) hab hn fun u v g1 g2 g3 h => by
    have e := C.ab ((u + v) / 2)
    rw [if_neg (h1 _ (by grind) (by grind)), Int.add_zero] at e
    by_cases g : cB p r u = cA p r ((u + v) / 2)
    · exact Or.inr (by rw [← e, ← g]; exact h)
    · exact Or.inl g
  obtain ⟨L, R, k, hk, hLR⟩ := C.near N
  have hb := hB k
  have iu := N.in_u (Nat.le_refl k)
  have iv := N.in_v (Nat.le_refl k)
  have hlt := N.lt k
  obtain ⟨i1, i2⟩ := hi k
  rcases hLR with ⟨e, _⟩ | ⟨e, hz⟩
  · have e1 : cB p r (N.u k) = L := by
      rcases N.three (N.u k) with hu | hu | hu
      · exact (hk.lf _ iu hu).2
      · rw [e]; exact (hk.rt _ iu hu).2
      · rw [e]; exact (hk.on _ hu).2
    have e2 : cA p r (N.v k) = L := by
      rcases N.three (N.v k) with hu | hu | hu
      · exact (hk.lf _ iv hu).1
      · rw [e]; exact (hk.rt _ iv hu).1
      · exact (hk.on _ hu).1
    exact hb (by rw [e1, e2])
  · rcases h2 N hi hz with ha | hb'
    · have eu : N.u k = a := Rat.le_antisymm (ha k).1 i1
      rw [eu] at hlt hb
      exact hb (by rw [(hk.on _ ha).2, (hk.rt _ iv (Nest.ge_u ha hlt)).1])
    · have ev : N.v k = b := Rat.le_antisymm i2 (hb' k).2
      rw [ev] at hlt hb
      exact hb (by rw [(hk.lf _ iu (Nest.le_v hb' hlt)).2, (hk.on _ hb').1])
end
end Go.Sturm

namespace Go.Sturm

/-- The value of so many numbers, from the i-th on. -/
def hq (f : Nat → Int) (x : Rat) : Nat → Nat → Rat
  | _, 0 => 0
  | i, d + 1 => hq f x (i + 1) d * x + (f i : Rat)
theorem hq_pol (f : Nat → Int) : ∀ d i, Pol (fun x => hq f x i d)
  | 0, _ => Pol.zero
  | d + 1, i => by
    have := (hq_pol f d (i + 1)).cons (f i : Rat)
    rwa [show (fun x => (f i : Rat) + x * hq f x (i + 1) d) = fun x => hq f x i (d + 1) from funext fun x => by
      show _ = hq f x (i + 1) d * x + (f i : Rat); grind] at this
/-- Weighted. -/
def eq' (f : Nat → Int) (x : Rat) : Nat → Nat → Rat → Rat
  | 0, _, _ => 0
  | d + 1, i, w => w * (f (i + 1) : Rat) + x * eq' f x d (i + 1) (w + 1)
theorem eq_step (f : Nat → Int) (x : Rat) : ∀ d i w, eq' f x d i (w + 1) = eq' f x d i w + hq f x (i + 1) d
  | 0, _, _ => by show (0 : Rat) = 0 + 0; grind
  | d + 1, i, w => by
    show (w + 1) * (f (i + 1) : Rat) + x * eq' f x d (i + 1) (w + 1 + 1) = w * (f (i + 1) : Rat) + x * eq' f x d (i + 1) (w + 1) + (hq f x (i + 1 + 1) d * x + (f (i + 1) : Rat))
    rw [eq_step f x d (i + 1) (w + 1)]
    grind
theorem D_hq (f : Nat → Int) : ∀ d i, D (fun x => hq f x i (d + 1)) = fun x => eq' f x d i 1
  | 0, i => by
    rw [show (fun x => hq f x i 1) = fun _ => (f i : Rat) from funext fun x => by show (0 : Rat) * x + _ = _; grind, D_const]
    rfl
  | d + 1, i => by
    rw [show (fun x => hq f x i (d + 2)) = fun x => (f i : Rat) + x * hq f x (i + 1) (d + 1) from funext fun x => by
      show hq f x (i + 1) (d + 1) * x + (f i : Rat) = _; grind, D_cons _ (hq_pol f (d + 1) (i + 1)), D_hq f d (i + 1)]
    refine funext fun x => ?_
    show hq f x (i + 1 + 1) d * x + (f (i + 1) : Rat) + x * eq' f x d (i + 1) 1 = 1 * (f (i + 1) : Rat) + x * eq' f x d (i + 1) (1 + 1)
    rw [eq_step f x d (i + 1) 1]
    grind
theorem eq_slope {f g : Nat → Int} (h : ∀ q, g q = f (q + 1) * ((q + 1 : Nat) : Int)) (x : Rat) : ∀ d i, hq g x i d = eq' f x d i ((i : Rat) + 1)
  | 0, _ => rfl
  | d + 1, i => by
    show hq g x (i + 1) d * x + (g i : Rat) = ((i : Rat) + 1) * (f (i + 1) : Rat) + x * eq' f x d (i + 1) ((i : Rat) + 1 + 1)
    rw [eq_slope h x d (i + 1), h i, Rat.intCast_mul, Rat.intCast_natCast]
    have e : ((i + 1 : Nat) : Rat) = (i : Rat) + 1 := by simp
    rw [e]
    grind
theorem D_poly {f g : Nat → Int} (h : ∀ q, g q = f (q + 1) * ((q + 1 : Nat) : Int)) : ∀ n, D (fun x => hq f x 0 n) = fun x => hq g x 0 (n - 1)
  | 0 => D_const 0
  | n + 1 => by
    rw [D_hq]
    refine funext fun x => ?_
    have := eq_slope h x n 0
    rw [show n + 1 - 1 = n by omega, this]
    congr 1
    simp
    grind
theorem hq_int {h : (Nat → Int) → Int → Nat → Nat → Int} (h0 : ∀ f x i, h f x i 0 = 0) (h1 : ∀ f x i d, h f x i (d + 1) = h f x (i + 1) d * x + f i) (f : Nat → Int) (x : Int) : ∀ d i, hq f (x : Rat) i d = ((h f x i d : Int) : Rat)
  | 0, i => by rw [h0]; rfl
  | d + 1, i => by
    show hq f (x : Rat) (i + 1) d * (x : Rat) + (f i : Rat) = _
    rw [hq_int h0 h1 f x d (i + 1), h1, Rat.intCast_add, Rat.intCast_mul]
theorem hq_more {f : Nat → Int} {x : Rat} : ∀ d i k, (∀ j, i + d ≤ j → f j = 0) → hq f x i (d + k) = hq f x i d
  | 0, i, 0, _ => rfl
  | 0, i, k + 1, h => by
    have := hq_more (f := f) (x := x) 0 (i + 1) k fun j hj => h j (by omega)
    rw [Nat.zero_add] at this ⊢
    show hq f x (i + 1) k * x + (f i : Rat) = 0
    rw [this, h i (by omega)]
    show (0 : Rat) * x + ((0 : Int) : Rat) = 0
    grind
  | d + 1, i, k, h => by
    rw [show d + 1 + k = d + k + 1 by omega]
    show hq f x (i + 1) (d + k) * x + (f i : Rat) = hq f x (i + 1) d * x + (f i : Rat)
    rw [hq_more d (i + 1) k fun j hj => h j (by omega)]
theorem hq_len {f : Nat → Int} {x : Rat} {n m : Nat} (h : ∀ j, n ≤ j → f j = 0) (hm : n ≤ m) : hq f x 0 m = hq f x 0 n := by
  obtain ⟨k, rfl⟩ := Nat.le.dest hm
  exact hq_more n 0 k fun j hj => h j (by omega)
theorem hq_congr {f g : Nat → Int} {x : Rat} : ∀ d i, (∀ j, i ≤ j → j < i + d → f j = g j) → hq f x i d = hq g x i d
  | 0, _, _ => rfl
  | d + 1, i, h => by
    show hq f x (i + 1) d * x + (f i : Rat) = hq g x (i + 1) d * x + (g i : Rat)
    rw [hq_congr d (i + 1) fun j h1 h2 => h j (by omega) (by omega), h i (by omega) (by omega)]
theorem hq_add (f g : Nat → Int) (x : Rat) : ∀ d i, hq (fun q => f q + g q) x i d = hq f x i d + hq g x i d
  | 0, _ => by show (0 : Rat) = 0 + 0; grind
  | d + 1, i => by
    show hq (fun q => f q + g q) x (i + 1) d * x + ((f i + g i : Int) : Rat) = hq f x (i + 1) d * x + (f i : Rat) + (hq g x (i + 1) d * x + (g i : Rat))
    rw [hq_add f g x d (i + 1), Rat.intCast_add]
    grind
theorem hq_smul (c : Int) (f : Nat → Int) (x : Rat) : ∀ d i, hq (fun q => f q * c) x i d = hq f x i d * (c : Rat)
  | 0, _ => by show (0 : Rat) = 0 * _; grind
  | d + 1, i => by
    show hq (fun q => f q * c) x (i + 1) d * x + ((f i * c : Int) : Rat) = (hq f x (i + 1) d * x + (f i : Rat)) * (c : Rat)
    rw [hq_smul c f x d (i + 1), Rat.intCast_mul]
    grind
def sh (s : Nat) (g : Nat → Int) (q : Nat) : Int := if s ≤ q then g (q - s) else 0
theorem hq_sh (s : Nat) (g : Nat → Int) (x : Rat) : ∀ d i, hq (sh s g) x (s + i) d = hq g x i d
  | 0, _ => rfl
  | d + 1, i => by
    show hq (sh s g) x (s + i + 1) d * x + ((sh s g (s + i) : Int) : Rat) = hq g x (i + 1) d * x + (g i : Rat)
    rw [show s + i + 1 = s + (i + 1) by omega, hq_sh s g x d (i + 1)]
    unfold sh
    rw [if_pos (by omega), show s + i - s = i by omega]
def xp (x : Rat) : Nat → Rat
  | 0 => 1
  | k + 1 => xp x k * x
theorem xp_pol : ∀ k, Pol (fun x => xp x k)
  | 0 => Pol.const 1
  | k + 1 => by
    have := (xp_pol k).xmul
    rwa [show (fun x => x * xp x k) = fun x => xp x (k + 1) from funext fun x => by show _ = xp x k * x; grind] at this
theorem hq_sh0 (s : Nat) (g : Nat → Int) (x : Rat) (d : Nat) : ∀ k, k ≤ s → hq (sh s g) x (s - k) (k + d) = xp x k * hq g x 0 d
  | 0, _ => by
    have := hq_sh s g x d 0
    rw [Nat.add_zero] at this
    rw [Nat.sub_zero, Nat.zero_add, this]
    show _ = 1 * _
    grind
  | k + 1, hk => by
    rw [show k + 1 + d = k + d + 1 by omega]
    show hq (sh s g) x (s - (k + 1) + 1) (k + d) * x + ((sh s g (s - (k + 1)) : Int) : Rat) = xp x k * x * hq g x 0 d
    rw [show s - (k + 1) + 1 = s - k by omega, hq_sh0 s g x d k (by omega)]
    unfold sh
    rw [if_neg (by omega)]
    show xp x k * hq g x 0 d * x + ((0 : Int) : Rat) = _
    have e : ((0 : Int) : Rat) = 0 := rfl
    rw [e]
    grind
theorem hq_shift (s : Nat) (g : Nat → Int) (x : Rat) (d : Nat) : hq (sh s g) x 0 (s + d) = xp x s * hq g x 0 d := by
  have := hq_sh0 s g x d s (Nat.le_refl _)
  rwa [Nat.sub_self] at this
theorem cnt_snoc (s : Nat → Int) : ∀ d j, cnt s j (d + 1) = cnt s j d + ind (s (j + d)) (s (j + d + 1))
  | 0, j => by show ind (s j) (s (j + 1)) + 0 = 0 + ind (s j) (s (j + 1)); omega
  | d + 1, j => by
    show ind (s j) (s (j + 1)) + cnt s (j + 1) (d + 1) = ind (s j) (s (j + 1)) + cnt s (j + 1) d + _
    rw [cnt_snoc s d (j + 1), show j + 1 + d = j + (d + 1) by omega]
    omega
end Go.Sturm
