/-
  Rsa Rsb Rsc Rb1 Rb2 Rb3 Rb4 Rb5 Rb6 Rb7, one behind the other.
-/
import Derived.Test.YtgijfbcfajhmlaaM6
import Derived.Test.YtgijfbcfajhmlaaM1
namespace Go.Proofs.Ytgijfbcfajhmlaa
open Go.Gv

/-- Its highest coefficient is not nought. -/
def Tp (p : Ply) : Prop := p.1 = 0 ∨ p.2 (p.1 - 1) ≠ 0
theorem dit_at (f : Nat → Int) : ∀ j q, ∃ c : Int, 0 < c ∧ dit f j q = f (q + j) * c
  | 0, q => ⟨1, by decide, by show f q = f q * 1; rw [Int.mul_one]⟩
  | j + 1, q => by
    obtain ⟨c, h1, h2⟩ := dit_at f j (q + 1)
    refine ⟨c * ((q + 1 : Nat) : Int), Int.mul_pos h1 (by omega), ?_⟩
    show dit f j (q + 1) * ((q + 1 : Nat) : Int) = _
    rw [h2, Int.mul_assoc, show q + 1 + j = q + (j + 1) by omega]
theorem hv_last {n : Nat} {f : Nat → Int} (hn : 0 < n) (ht : f (n - 1) ≠ 0) (x : Int) : hv f n x (n - 1) ≠ 0 := by
  obtain ⟨c, h1, h2⟩ := dit_at f (n - 1) 0
  unfold hv
  rw [show n - (n - 1) = 1 by omega]
  show 0 * x + dit f (n - 1) 0 ≠ 0
  rw [h2, Int.zero_mul, Int.zero_add, Nat.zero_add]
  exact Int.mul_ne_zero ht (by omega)
/-- Which is the first that is not nought? -/
def fnz (g : Nat → Int) : Nat → Nat
  | 0 => 0
  | k + 1 => if fnz g k < k then fnz g k else if g k ≠ 0 then k else k + 1
theorem fnz_ok (g : Nat → Int) : ∀ k, fnz g k ≤ k ∧ (∀ j, j < fnz g k → g j = 0) ∧ (fnz g k < k → g (fnz g k) ≠ 0)
  | 0 => ⟨Nat.le_refl _, fun j hj => by have : j < 0 := hj; omega, fun h => by have : 0 < 0 := h; omega⟩
  | k + 1 => by
    obtain ⟨h1, h2, h3⟩ := fnz_ok g k
    unfold fnz
    by_cases hk : fnz g k < k
    · rw [if_pos hk]; exact ⟨by omega, h2, fun _ => h3 hk⟩
    · have e : fnz g k = k := by omega
      rw [if_neg hk]
      rw [e] at h2
      by_cases hg : g k ≠ 0
      · rw [if_pos hg]; exact ⟨by omega, h2, fun _ => hg⟩
      · rw [if_neg hg]
        refine ⟨Nat.le_refl _, fun j hj => ?_, fun h => by omega⟩
        by_cases hj2 : j = k
        · rw [hj2]; exact Decidable.byContradiction hg
        · exact h2 j (by omega)
theorem fnz_lt {g : Nat → Int} {k j : Nat} (hj : j < k) (h : g j ≠ 0) : fnz g k < k := by
  obtain ⟨h1, h2, _⟩ := fnz_ok g k
  rcases Nat.lt_or_ge (fnz g k) k with hl | hg
  · exact hl
  · exact absurd (h2 j (by omega)) h
/-- The sign on one side of a place, however near. -/
def sgSd (side : Int) (p : Ply) (x : Int) : Int := (hv p.2 p.1 x (fnz (hv p.2 p.1 x) p.1)).sign * pw1 side (fnz (hv p.2 p.1 x) p.1)
section
variable {p : Ply} {B : Nat} {x : Int} (hp : 0 < p.1) (ht : Tp p)
include hp ht
theorem nz_at (x : Int) : fnz (hv p.2 p.1 x) p.1 < p.1 ∧ (∀ j, j < fnz (hv p.2 p.1 x) p.1 → hv p.2 p.1 x j = 0) ∧ hv p.2 p.1 x (fnz (hv p.2 p.1 x) p.1) ≠ 0 := by
  have htop : p.2 (p.1 - 1) ≠ 0 := ht.resolve_left (by omega)
  have hl := fnz_lt (g := hv p.2 p.1 x) (show p.1 - 1 < p.1 by omega) (hv_last hp htop x)
  obtain ⟨_, h2, h3⟩ := fnz_ok (hv p.2 p.1 x) p.1
  exact ⟨hl, h2, h3 hl⟩
theorem sgSd_one {side : Int} (hs : side = 1 ∨ side = -1) (x : Int) : sgSd side p x = 1 ∨ sgSd side p x = -1 := by
  obtain ⟨_, _, h3⟩ := nz_at hp ht x
  unfold sgSd
  rcases sign_cases (hv p.2 p.1 x (fnz (hv p.2 p.1 x) p.1)) with ⟨_, h⟩ | ⟨h, _⟩ | ⟨_, h⟩
  · rcases pw1_small hs (fnz (hv p.2 p.1 x) p.1) with e | e <;> rw [h, e] <;> decide
  · exact absurd h h3
  · rcases pw1_small hs (fnz (hv p.2 p.1 x) p.1) with e | e <;> rw [h, e] <;> decide
theorem ahP_spec (hc : Cn p.1 p.2) (hn : p.1 ≤ 1000) (hB : B ≤ 100000) (hf : ∀ i, Zw (p.2 i) ≤ B) (hx : Zw x ≤ 1) : FSpec Try.prog 54 [PlyA p, wA x] (iA (sgSd (-1) p x)) := by
  obtain ⟨h1, h2, h3⟩ := nz_at hp ht x
  exact ah_spec (fun j hj => HB_of hc hn hB hf hx j (by omega)) h2 h3
theorem bhP_spec (hc : Cn p.1 p.2) (hn : p.1 ≤ 1000) (hB : B ≤ 100000) (hf : ∀ i, Zw (p.2 i) ≤ B) (hx : Zw x ≤ 1) : FSpec Try.prog 37 [PlyA p, wA x] (iA (sgSd 1 p x)) := by
  obtain ⟨h1, h2, h3⟩ := nz_at hp ht x
  exact bh_spec (fun j hj => HB_of hc hn hB hf hx j (by omega)) h2 h3
end
/-! ### The chain's members -/
theorem rit_Tp {m : Nat} {g : Nat → Int} {p : Ply} (ht : Tp p) : ∀ t, Tp (rit m g t p)
  | 0 => ht
  | t + 1 => by
    rw [rit_succ]
    show tl (rst (rit m g t p).2 (rit m g t p).1 g m) ((rit m g t p).1 - 1) = 0 ∨ _
    by_cases h : tl (rst (rit m g t p).2 (rit m g t p).1 g m) ((rit m g t p).1 - 1) = 0
    · exact Or.inl h
    · exact Or.inr (tl_top _ _ h)
theorem cq_Tp {p : Ply} (ht : Tp p) : ∀ j, Tp (cq p j) ∧ Tp (cq p (j + 1))
  | 0 => by
    refine ⟨ht, ?_⟩
    show p.1 - 1 = 0 ∨ dsl p.2 (p.1 - 1 - 1) ≠ 0
    by_cases h : p.1 ≤ 1
    · exact Or.inl (by omega)
    · right
      unfold dsl
      rw [show p.1 - 1 - 1 + 1 = p.1 - 1 by omega]
      exact Int.mul_ne_zero (ht.resolve_left (by omega)) (by omega)
  | j + 1 => by
    obtain ⟨h1, h2⟩ := cq_Tp ht j
    refine ⟨h2, ?_⟩
    have := rit_Tp (m := (cq p (j + 1)).1) (g := (cq p (j + 1)).2) h1 (rcn (cq p (j + 1)).1 (cq p (j + 1)).2 (cq p j).1 (cq p j))
    rcases this with h | h
    · exact Or.inl h
    · right
      show -(rrem (cq p (j + 1)).1 (cq p (j + 1)).2 (cq p j)).2 ((rrem (cq p (j + 1)).1 (cq p (j + 1)).2 (cq p j)).1 - 1) ≠ 0
      have h : (rrem (cq p (j + 1)).1 (cq p (j + 1)).2 (cq p j)).2 ((rrem (cq p (j + 1)).1 (cq p (j + 1)).2 (cq p j)).1 - 1) ≠ 0 := h
      omega
/-- How long the chain is: the last member's number. -/
theorem cq_end (p : Ply) : ∃ k, k ≤ p.1 ∧ (∀ j, j < k → 0 < (cq p (j + 1)).1) ∧ (cq p (k + 1)).1 = 0 := by
  rcases all_or_first (fun j => decide (0 < (cq p (j + 1)).1)) (p.1 + 1) with hl | ⟨K, hK, hp, hq⟩
  · exfalso
    have h := cq_len (p := p) (k := p.1) (fun j hj => by simpa using hl j (by omega)) p.1 (Nat.le_refl _)
    have := hl p.1 (by omega)
    simp at this
    omega
  · exact ⟨K, by omega, fun j hj => by simpa using hq j hj, by simpa using hp⟩
end Go.Proofs.Ytgijfbcfajhmlaa

namespace Go.Proofs.Ytgijfbcfajhmlaa
open Go.Gv

/-- The polynomial whose roots are at finer places. -/
def finP (p : Ply) : Ply := (p.1, pfin p.2 p.1)
theorem Zw_pow : ∀ j : Nat, Zw ((65536 : Int) ^ j) ≤ j + 1
  | 0 => by rw [Int.pow_zero]; exact Zw_one (by decide)
  | j + 1 => by
    rw [Int.pow_succ]
    exact Nat.le_trans (Zw_mul _ _) (Nat.add_le_add (Zw_pow j) (Zw_one (by decide)))
theorem fin_Tp {p : Ply} (ht : Tp p) : Tp (finP p) := by
  rcases ht with h | h
  · exact Or.inl h
  · right
    show p.2 (p.1 - 1) * 65536 ^ (p.1 - 1 - (p.1 - 1)) ≠ 0
    rw [Nat.sub_self, Int.pow_zero, Int.mul_one]
    exact h
theorem fin_Zw {p : Ply} {B : Nat} (hn : p.1 ≤ 5) (hB : ∀ i, Zw (p.2 i) ≤ B) (i : Nat) : Zw ((finP p).2 i) ≤ B + 5 := by
  have h := Zw_pow (p.1 - 1 - i)
  exact Nat.le_trans (Zw_mul _ _) (Nat.add_le_add (hB i) (by omega))
/-- How often signs change beside a place. -/
def Nsd (side : Int) (P : Ply) (k : Nat) (a : Int) : Int := cgC (fun q => sgSd side (cq P q) a) (k + 1)
/-- How long the chain of a polynomial is. -/
noncomputable def chN' (P : Ply) : Nat := (cq_end P).choose
theorem chN'_ok (P : Ply) : chN' P ≤ P.1 ∧ (∀ j, j < chN' P → 0 < (cq P (j + 1)).1) ∧ (cq P (chN' P + 1)).1 = 0 := (cq_end P).choose_spec
theorem chN'_le (P : Ply) (hn : 0 < P.1) : chN' P + 1 ≤ P.1 := by
  obtain ⟨h1, h2, _⟩ := chN'_ok P
  cases hk : chN' P with
  | zero => omega
  | succ j =>
    rw [hk] at h2
    have h := cq_len h2 j (by omega)
    have := h2 j (by omega)
    omega
noncomputable def rtN (P : Ply) (a : Int) : Int := Nsd (-1) P (chN' P) a
noncomputable def rtC (P : Ply) (a : Int) : Int := Nsd 1 P (chN' P) a
/-- The places of the code. -/
noncomputable def plcP (p : Ply) (lo hi : Int) : List Int := plcs (rtN (finP p)) (sgSd (-1) (finP p)) (rtC (finP p) hi) lo hi
section
variable {p : Ply} {B : Nat} (hn2 : 2 ≤ p.1) (hn : p.1 ≤ 5) (hc : Cn p.1 p.2) (ht : Tp p) (hB : B ≤ 45) (hf : ∀ i, Zw (p.2 i) ≤ B)
include hn2 hn hc ht hB hf
theorem mem_ok {a : Int} (ha : -2000000000000000 ≤ a) (hb : a ≤ 2000000000000000) (q : Nat) (hq : q < chN' (finP p) + 1) : FSpec Try.prog 54 [PlyA (cq (finP p) q), wA a] (iA (sgSd (-1) (cq (finP p) q) a)) ∧ FSpec Try.prog 37 [PlyA (cq (finP p) q), wA a] (iA (sgSd 1 (cq (finP p) q) a)) ∧ 0 < (cq (finP p) q).1 := by
  obtain ⟨h1, h2, h3⟩ := chN'_ok (finP p)
  have hN : (finP p).1 = p.1 := rfl
  have hle := chN'_le (finP p) (by omega)
  have hC : Cn (finP p).1 (finP p).2 := fin_Cn hc
  have hZ := fin_Zw hn hf
  have z := Zw_cq (B := B + 5) (by omega) hC hZ h2 q (by omega)
  have bq := bz_le (B := B + 5) (by omega) q (by omega)
  have cb := CB_of (B := B + 5) (by omega) hC (by omega) hZ h2 (by omega)
  have ok := cq_ok cb h2 q (by omega)
  have hpos : 0 < (cq (finP p) q).1 := by
    cases q with
    | zero => show 0 < p.1; omega
    | succ q => exact h2 q (by omega)
  have hl : (cq (finP p) q).1 ≤ 1000 := by
    cases q with
    | zero => show p.1 ≤ 1000; omega
    | succ q => rcases cq_len h2 q (by omega) with h | h <;> omega
  have tq := (cq_Tp (fin_Tp ht) q).1
  have hx : Zw a ≤ 1 := Zw_one (by omega)
  exact ⟨ahP_spec hpos tq ok.1.1 hl (by omega) z.1 hx, bhP_spec hpos tq ok.1.1 hl (by omega) z.1 hx, hpos⟩
theorem sg_ok {lo hi : Int} (hlo : -2000000000000000 ≤ lo) (hhi : hi ≤ 2000000000000000) (mono : ∀ a b, lo ≤ a → a ≤ b → b ≤ hi → rtN (finP p) b ≤ rtN (finP p) a) : SgOk (chN' (finP p) + 1) (cq (finP p)) (rtN (finP p)) (sgSd (-1) (finP p)) lo hi := by
  have hle := chN'_le (finP p) (show 0 < p.1 by omega)
  have hN : (finP p).1 = p.1 := rfl
  refine ⟨by omega, hlo, hhi, fun a h1 h2 => (mem_ok hn2 hn hc ht hB hf (by omega) (by omega) 0 (by omega)).1, fun a h1 h2 => ?_, mono, fun a h1 h2 m u => ?_⟩
  · have := cgC_le (fun q => sgSd (-1) (cq (finP p) q) a) (chN' (finP p) + 1)
    unfold rtN Nsd
    omega
  · exact ahd_spec (by omega) (by omega) (by omega) (by omega) (fun q hq => sgSd_one (mem_ok hn2 hn hc ht hB hf (a := a) (by omega) (by omega) q hq).2.2 (cq_Tp (fin_Tp ht) q).1 (Or.inr rfl) a) (fun q hq => (mem_ok hn2 hn hc ht hB hf (by omega) (by omega) q hq).1) m u
theorem plP_spec {lo hi : Int} (hlh : lo ≤ hi) (hlo : -2000000000000000 ≤ lo) (hhi : hi ≤ 2000000000000000) (mono : ∀ a b, lo ≤ a → a ≤ b → b ≤ hi → rtN (finP p) b ≤ rtN (finP p) a) : FSpec Try.prog 16 [PlyA p, iA lo, iA hi] (lsJ (plcP p lo hi)) := by
  obtain ⟨h1, h2, h3⟩ := chN'_ok (finP p)
  have hN : (finP p).1 = p.1 := rfl
  have hle := chN'_le (finP p) (by omega)
  have hC : Cn (finP p).1 (finP p).2 := fin_Cn hc
  have cb := CB_of (B := B + 5) (by omega) hC (by omega) (fin_Zw hn hf) h2 (by omega)
  refine pls_spec (n := p.1) (f := p.2) (f1 := pfin p.2 p.1) hn2 hlh (sg_ok hn2 hn hc ht hB hf hlo hhi mono) (fi_spec (by omega) hc (fun i => Sm_of (Nat.le_trans (hf i) (by omega))) fun j hj => Sm_of (Nat.le_trans (Zw_pow j) (by omega))) (ch_spec cb (by omega) h2 h3) fun m u => ?_
  exact cg_specB (by omega) (by omega) (by omega) (fun q hq => sgSd_one (mem_ok hn2 hn hc ht hB hf (a := hi) (by omega) (by omega) q hq).2.2 (cq_Tp (fin_Tp ht) q).1 (Or.inl rfl) hi) fun q hq => (mem_ok hn2 hn hc ht hB hf (by omega) (by omega) q hq).2.1
end
end Go.Proofs.Ytgijfbcfajhmlaa

namespace Go.Proofs.Ytgijfbcfajhmlaa
open Go.Gv

theorem pl_evN (n : Nat) (f : Nat → Int) (lo hi : Int) : ev Try.prog [] [⟨33, fun _ _ => none⟩] noL Try.f16 [pA n f, iA lo, iA hi] ret = cond (plB n lo hi) (some (Out.of nilA)) none := by kernel_rfl
theorem pl_nil {n : Nat} {f : Nat → Int} {lo hi : Int} (h : plB n lo hi = true) : FSpec Try.prog 16 [pA n f, iA lo, iA hi] (lsJ []) :=
  FSpec.of_res (r := nilA) (gspec e_nil (k_cons (kno_ok _) k_nil) Try.func16 (by kernel_rfl) (by kernel_rfl) noL_ok rfl ((pl_evN n f lo hi).trans (by rw [h]; rfl))) fun _ _ => nil_like
/-- What Roots gives: places, and an error. -/
noncomputable def rtP (n : Nat) (p : Nat → Int) : Ply := (tl p n, p)
noncomputable def rtL (n : Nat) (p : Nat → Int) (lo hi : Int) : List Int := cond (plB (tl p n) lo hi) [] (plcP (rtP n p) lo hi)
noncomputable def rtB (n : Nat) (p : Nat → Int) (lo hi : Int) : Bool := cond (!mbI n p) true (!msI lo hi)
noncomputable def rtOut (n : Nat) (p : Nat → Int) (lo hi : Int) : List Int × Int := cond (decide ((n : Int) > 5)) ([], 4) (cond (rtB n p lo hi) ([], 1) (rtL n p lo hi, 0))
def rtA (o : List Int × Int) : AV := .tup [lsJ o.1, iA o.2]
theorem bad_like {f : Nat} {args : List AV} {e : Int} (h : FSpec Try.prog f args (.tup [.x (.slice none 0 0), iA e])) : FSpec Try.prog f args (rtA ([], e)) := FSpec.of_res h fun _ _ hr => tup2_like hr fun _ => nil_like
theorem ro_spec {n : Nat} {p : Nat → Int} {lo hi : Int} (hn : n ≤ 4611686018427387904) (hc : Cn n p) (mono : ∀ a b, lo ≤ a → a ≤ b → b ≤ hi → rtN (finP (rtP n p)) b ≤ rtN (finP (rtP n p)) a) : FSpec Try.prog 7 [sJ n p, iA lo, iA hi] (rtA (rtOut n p lo hi)) := by
  have hl : ∀ e, e ∈ [(⟨15, gMs msI⟩ : Entry)] → EOk Try.prog e := e_cons gMs_ok e_nil
  have ks : ∀ (b : Bool) (m : Nat) (r : Nat) (v : Nat → Int), ∀ e, e ∈ [kS Try.prog 14 (fun _ => bA b), kS Try.prog 18 (fun _ => pA n p), kS Try.prog 17 (fun _ => pA m p), kS Try.prog 16 (fun _ => sJ r v)] → KOk Try.prog e := fun _ _ _ _ => k_cons kS_ok (k_cons kS_ok (k_cons kS_ok (k_cons kS_ok k_nil)))
  have G : ∀ {r : AV}, ev Try.prog [⟨15, gMs msI⟩] [kS Try.prog 14 (fun _ => bA (mbI n p)), kS Try.prog 18 (fun _ => pA n p), kS Try.prog 17 (fun _ => pA (tl p n) p), kS Try.prog 16 (fun _ => lsJ (rtL n p lo hi))] noL Try.f7 [sJ n p, iA lo, iA hi] ret = some (Out.of r) → FSpec Try.prog 7 [sJ n p, iA lo, iA hi] r := fun h => gspec hl (ks _ _ _ _) Try.func7 (by kernel_rfl) (by kernel_rfl) noL_ok rfl h
  have ev := ro_ev msI n p lo hi (mbI n p) (tl p n) (rtL n p lo hi).length (fun q => (rtL n p lo hi).getD q 0)
  unfold rtOut
  by_cases h5 : (n : Int) > 5
  · rw [decide_eq_true h5] at ev ⊢
    exact bad_like (G ev)
  · rw [decide_eq_false h5, cond_false, gate_pos (mb_spec p hn)] at ev
    rw [decide_eq_false h5, cond_false]
    cases hb : rtB n p lo hi
    · have hb' : cond (!mbI n p) true (!msI lo hi) = false := hb
      rw [hb', cond_false] at ev
      have hmb : mbI n p = true := by cases h : mbI n p; · rw [h] at hb'; cases hb'
                                      · rfl
      have hms : msI lo hi = true := by rw [hmb] at hb'; cases h : msI lo hi; · rw [h] at hb'; cases hb'
                                        · rfl
      have hbd : ∀ i, i < n → -2147483648 ≤ p i ∧ p i ≤ 2147483648 := fun i hi => by
        have := allI_all hmb i hi
        unfold mbB at this
        by_cases g1 : p i < -2147483648
        · rw [decide_eq_true g1] at this; cases this
        · rw [decide_eq_false g1] at this
          by_cases g2 : p i > 2147483648
          · rw [decide_eq_true g2] at this; cases this
          · omega
      have hse : -1125899906842624 ≤ lo ∧ hi ≤ 1125899906842624 := by
        unfold msI at hms
        by_cases g1 : lo ≥ -1125899906842624
        · rw [decide_eq_true g1, cond_true] at hms
          exact ⟨g1, of_decide_eq_true hms⟩
        · rw [decide_eq_false g1] at hms; cases hms
      have hle := tl_le p n
      have hpl : FSpec Try.prog 16 [pA (tl p n) p, iA lo, iA hi] (lsJ (rtL n p lo hi)) := by
        unfold rtL
        cases hB : plB (tl p n) lo hi
        · have g1 : 2 ≤ tl p n ∧ lo ≤ hi := by
            unfold plB at hB
            by_cases g : ((tl p n : Nat) : Int) < 2
            · rw [decide_eq_true g] at hB; cases hB
            · rw [decide_eq_false g, cond_false] at hB
              have := of_decide_eq_false hB
              omega
          refine plP_spec (p := rtP n p) (B := 1) g1.1 (show tl p n ≤ 5 by omega) (tl_Cn hc) ?_ (by decide) (fun i => ?_) g1.2 (by omega) (by omega) mono
          · by_cases g : tl p n = 0
            · exact Or.inl g
            · exact Or.inr (tl_top p n g)
          · show Zw (p i) ≤ 1
            by_cases g : i < n
            · have := hbd i g
              exact Zw_one (by omega)
            · rw [hc i (by omega), Zw_zero]; exact Nat.zero_le _
        · exact pl_nil hB
      rw [gate_pos (wh_spec (u := p) (by omega) fun i hi => by have := hbd i hi; omega), gate_pos (po_spec p (by omega)), gate_pos (show FSpec Try.prog 16 [pA (tl p n) p, iA lo, iA hi] (sJ (rtL n p lo hi).length fun q => (rtL n p lo hi).getD q 0) from hpl)] at ev
      exact G ev
    · have hb' : cond (!mbI n p) true (!msI lo hi) = true := hb
      rw [hb', cond_true] at ev
      exact bad_like (G ev)
end Go.Proofs.Ytgijfbcfajhmlaa

namespace Go.Proofs.Ytgijfbcfajhmlaa
open Go.Gv
open Go.Em (wB wB_pos wB_eq dg dg_lt vl nw cy bw nw_lt nw_ge nw_le nw_zero top_dg dg_zero pw_pos)

/-- A part; a number's parts. -/
def mI (a : Nat) (i : Nat) : Int := ((dg a i : Nat) : Int)
def msA (a : Nat) : AV := sJ (nw a) (mI a)
/-! ### cutOff -/
def coS (n : Nat) (f : Nat → Int) : St := mkS 21 [(0, sJ n f)] []
section
variable (n : Nat) (f : Nat → Int)
def coB : Bool := cond (decide ((n : Int) > 0)) (f (w64 ((n : Int) - 1)).toNat == 0) false
theorem co_step : evC Try.prog [] [] noL (loopAt Try.f48 0) (coS n f) (finN [0] []) =
    cond (gTr (decide ((n : Int) > 0)) (w64 ((n : Int) - 1)) n) (cond (coB n f) (cond (sbB none (some (w64 ((n : Int) - 1))) none n || false) (some ⟨.normal, mkS 21 [(0, .sl 1 (sbN none (some (w64 ((n : Int) - 1))) n) fun i => [iA (f (sbL none + i))])] [], .any⟩) none) none) none := by kernel_rfl
theorem co_end : evC Try.prog [] [] noL (loopAt Try.f48 0) (coS n f) (finE [0] []) =
    cond (gTr (decide ((n : Int) > 0)) (w64 ((n : Int) - 1)) n) (cond (coB n f) (cond (sbB none (some (w64 ((n : Int) - 1))) none n || false) none none) (some ⟨.exit 0, coS n f, .any⟩)) none := by kernel_rfl
theorem co_ev (m : Nat) : ev Try.prog [] [] (oneL 1 (toldF [0] [] (coS n f) (.exit 0) (coS m f))) Try.f48 [sJ n f] ret = gate (Sub (coS n f) (coS n f)) (some (Out.of (sJ m f))) := by kernel_rfl
end
theorem co_spec (a : Nat) {n : Nat} (hn : n ≤ 35184372088832) (ha : a < wB ^ n) : FSpec Try.prog 48 [sJ n (mI a)] (msA a) := by
  have hle := nw_le ha
  have key : Leads Try.prog (.loop (loopAt Try.f48 0)) (coS (n - 0) (mI a)) (.exit 0) (coS (nw a) (mI a)) := by
    refine loop_rule (fun j => coS (n - j) (mI a)) (n - nw a) (.exit 0) _ (by simp) (fun j hj => ?_) ?_
    · obtain ⟨m, hm⟩ : ∃ m, n - j = m + 1 := ⟨n - j - 1, by omega⟩
      have e1 : n - (j + 1) = m := by omega
      rw [hm, e1]
      have ew : w64 (((m + 1 : Nat) : Int) - 1) = ((m : Nat) : Int) := by rw [w64_id (by omega) (by omega)]; omega
      have hz : dg a m = 0 := dg_zero (Nat.lt_of_lt_of_le (nw_lt a) (Nat.pow_le_pow_right wB_pos (by omega)))
      have st := co_step (m + 1) (mI a)
      have hb : coB (m + 1) (mI a) = true := by
        unfold coB
        rw [decide_eq_true (show ((m + 1 : Nat) : Int) > 0 by omega), ew, Int.toNat_natCast]
        unfold mI
        rw [hz]
        rfl
      have s1 : sbB none (some ((m : Nat) : Int)) none (m + 1) = true := by
        unfold sbB
        simp only [Option.getD_some, Option.getD_none]
        rw [decide_eq_true (Int.le_refl _), decide_eq_true (show (0 : Int) ≤ ((m : Nat) : Int) by omega), decide_eq_true (show ((m : Nat) : Int) ≤ ((m + 1 : Nat) : Int) by omega), decide_eq_true (Int.le_refl _)]
        rfl
      have s2 : sbN none (some ((m : Nat) : Int)) (m + 1) = m := by
        unfold sbN
        simp only [Option.getD_some, Option.getD_none]
        omega
      have s3 : (fun i => [iA (mI a (sbL none + i))]) = fun i => [iA (mI a i)] := funext fun i => by
        show [iA (mI a (0 + i))] = _
        rw [Nat.zero_add]
      rw [gTr_t hn (by omega), hb, ew, s1, s2, s3] at st
      exact leads_ev (finN_sub [0] []) e_nil k_nil noL_ok st
    · rw [show n - (n - nw a) = nw a by omega]
      refine leads_ev (finE_sub [0] []) e_nil k_nil noL_ok ((co_end (nw a) (mI a)).trans ?_)
      have hb : coB (nw a) (mI a) = false := by
        unfold coB
        by_cases h : a = 0
        · subst h; rw [nw_zero]; rfl
        · obtain ⟨g1, _⟩ := nw_ge h
          rw [decide_eq_true (show ((nw a : Nat) : Int) > 0 by omega), show w64 ((nw a : Int) - 1) = ((nw a - 1 : Nat) : Int) by rw [w64_id (by omega) (by omega)]; omega, Int.toNat_natCast, cond_true]
          have := top_dg h
          refine beq_false_of_ne ?_
          unfold mI
          omega
      rw [gTr_t hn hle, hb]
      rfl
  refine gspec e_nil k_nil Try.func48 (by kernel_rfl) (by kernel_rfl) (lok_at 0 1 (by kernel_rfl) (by kernel_rfl) (toldF_sound key)) rfl ((co_ev n (mI a) (nw a)).trans ?_)
  rw [gate_pos (Sub.refl _)]
  rfl
/-! ### sizes -/
def szS (n : Nat) (f : Nat → Int) (m : Nat) (g : Nat → Int) (i : Int) : St := mkS 41 [(0, sJ n f), (1, sJ m g), (5, iA i)] []
def szR (n : Nat) (f : Nat → Int) (m : Nat) (g : Nat → Int) (r i : Int) : St := mkS 41 [(0, sJ n f), (1, sJ m g), (4, iA r), (5, iA i)] []
section
variable (n : Nat) (f : Nat → Int) (m : Nat) (g : Nat → Int) (i : Int)
theorem sz_step : evC Try.prog [] [] noL (loopAt Try.f50 0) (szS n f m g i) (finN [0, 1, 5] []) =
    cond (decide (i ≥ 0)) (cpIx n m i (cond (!(f i.toNat == g i.toNat)) (cpIx n m i (cond (decide (f i.toNat < g i.toNat)) none none)) (some ⟨.normal, szS n f m g (w64 (i - 1)), .any⟩))) none := by kernel_rfl
theorem sz_end : evC Try.prog [] [] noL (loopAt Try.f50 0) (szS n f m g i) (finX [0, 1, 4, 5] []) =
    cond (decide (i ≥ 0)) (cpIx n m i (cond (!(f i.toNat == g i.toNat)) (cpIx n m i (cond (decide (f i.toNat < g i.toNat)) (some ⟨.ret, szR n f m g (-1) i, .any⟩) (some ⟨.ret, szR n f m g 1 i, .any⟩))) none)) (some ⟨.exit 0, szS n f m g i, .any⟩) := by kernel_rfl
end
end Go.Proofs.Ytgijfbcfajhmlaa

namespace Go.Proofs.Ytgijfbcfajhmlaa
open Go.Gv
open Go.Em (wB wB_pos wB_eq dg dg_lt vl nw cy bw nw_lt nw_ge nw_le nw_zero top_dg dg_zero pw_pos)

theorem msA_eq (a : Nat) : msA a = sJ (nw a) (mI a) := rfl
theorem div_nextM (a k : Nat) : a / wB ^ k = wB * (a / wB ^ (k + 1)) + dg a k := by
  unfold dg
  rw [Nat.pow_succ, ← Nat.div_div_eq_div_mul, Nat.div_add_mod]
theorem eq_downM {a b n : Nat} (ha : a < wB ^ n) (hb : b < wB ^ n) : ∀ d k, k + d = n → (∀ j, k ≤ j → j < n → dg a j = dg b j) → a / wB ^ k = b / wB ^ k
  | 0, k, hk, _ => by
    have : k = n := by omega
    subst this
    rw [Nat.div_eq_of_lt ha, Nat.div_eq_of_lt hb]
  | d + 1, k, hk, h => by
    rw [div_nextM a, div_nextM b, eq_downM ha hb d (k + 1) (by omega) fun j h1 h2 => h j (by omega) h2, h k (Nat.le_refl _) (by omega)]
theorem gt_atM {a b k : Nat} (h : a / wB ^ (k + 1) = b / wB ^ (k + 1)) (hd : dg b k < dg a k) : b < a := by
  have h1 := div_nextM a k
  have h2 := div_nextM b k
  rw [h] at h1
  rcases Nat.lt_or_ge b a with hl | hg
  · exact hl
  · have := Nat.div_le_div_right (c := wB ^ k) hg
    omega
theorem nw_monoM {a b : Nat} (h : nw a < nw b) : a < b := by
  have h1 := nw_lt a
  have hb : b ≠ 0 := fun e => by subst e; rw [nw_zero] at h; omega
  obtain ⟨_, h2⟩ := nw_ge hb
  have : wB ^ nw a ≤ wB ^ (nw b - 1) := Nat.pow_le_pow_right wB_pos (by omega)
  omega
theorem sz_round {a b n t : Nat} (hn : n ≤ 35184372088832) (ht : t < n) (h : dg a (n - 1 - t) = dg b (n - 1 - t)) : Leads Try.prog (loopAt Try.f50 0) (szS n (mI a) n (mI b) ((n : Int) - 1 - (t : Nat))) .normal (szS n (mI a) n (mI b) ((n : Int) - 1 - ((t + 1 : Nat) : Int))) := by
  refine leads_ev (finN_sub [0, 1, 5] []) e_nil k_nil noL_ok ((sz_step n (mI a) n (mI b) _).trans ?_)
  have e : (n : Int) - 1 - (t : Nat) = ((n - 1 - t : Nat) : Int) := by omega
  rw [show w64 ((n : Int) - 1 - (t : Nat) - 1) = (n : Int) - 1 - ((t + 1 : Nat) : Int) by rw [w64_id (by omega) (by omega)]; omega, e]
  unfold cpIx
  have hx : n - 1 - t < n := by omega
  rw [ixB_t hx, Int.toNat_natCast, decide_eq_true (show ((n - 1 - t : Nat) : Int) ≥ 0 by omega)]
  unfold mI
  rw [h, show (((dg b (n - 1 - t) : Nat) : Int) == ((dg b (n - 1 - t) : Nat) : Int)) = true from BEq.rfl]
  rfl
theorem sz_same {a b n : Nat} (hn : n ≤ 35184372088832) (h : ∀ t, t < n → dg a (n - 1 - t) = dg b (n - 1 - t)) : Leads Try.prog (.loop (loopAt Try.f50 0)) (szS n (mI a) n (mI b) ((n : Int) - 1)) (.exit 0) (szS n (mI a) n (mI b) (-1)) := by
  have key : Leads Try.prog (.loop (loopAt Try.f50 0)) (szS n (mI a) n (mI b) ((n : Int) - 1 - ((0 : Nat) : Int))) (.exit 0) (szS n (mI a) n (mI b) (-1)) := by
    refine loop_rule (fun t => szS n (mI a) n (mI b) ((n : Int) - 1 - (t : Nat))) n (.exit 0) _ (by simp) (fun t ht => sz_round hn ht (h t ht)) ?_
    refine leads_ev (finX_sub [0, 1, 4, 5] []) e_nil k_nil noL_ok ((sz_end n (mI a) n (mI b) _).trans ?_)
    rw [show (n : Int) - 1 - (n : Nat) = -1 by omega]
    rfl
  rw [show (n : Int) - 1 - ((0 : Nat) : Int) = (n : Int) - 1 by omega] at key
  exact key
theorem sz_other {a b n K : Nat} (hn : n ≤ 35184372088832) (hK : K < n) (hp : dg a (n - 1 - K) ≠ dg b (n - 1 - K)) (h : ∀ t, t < K → dg a (n - 1 - t) = dg b (n - 1 - t)) : Leads Try.prog (.loop (loopAt Try.f50 0)) (szS n (mI a) n (mI b) ((n : Int) - 1)) .ret (szR n (mI a) n (mI b) (if dg b (n - 1 - K) < dg a (n - 1 - K) then 1 else -1) ((n : Int) - 1 - (K : Nat))) := by
  have key : Leads Try.prog (.loop (loopAt Try.f50 0)) (szS n (mI a) n (mI b) ((n : Int) - 1 - ((0 : Nat) : Int))) .ret (szR n (mI a) n (mI b) (if dg b (n - 1 - K) < dg a (n - 1 - K) then 1 else -1) ((n : Int) - 1 - (K : Nat))) := by
    refine loop_rule (fun t => szS n (mI a) n (mI b) ((n : Int) - 1 - (t : Nat))) K .ret _ (by simp) (fun t ht => sz_round hn (by omega) (h t ht)) ?_
    refine leads_ev (finX_sub [0, 1, 4, 5] []) e_nil k_nil noL_ok ((sz_end n (mI a) n (mI b) _).trans ?_)
    have e : (n : Int) - 1 - (K : Nat) = ((n - 1 - K : Nat) : Int) := by omega
    rw [e]
    unfold cpIx
    have hx : n - 1 - K < n := by omega
    rw [ixB_t hx, Int.toNat_natCast, decide_eq_true (show ((n - 1 - K : Nat) : Int) ≥ 0 by omega)]
    unfold mI
    rw [beq_false_of_ne (show ((dg a (n - 1 - K) : Nat) : Int) ≠ ((dg b (n - 1 - K) : Nat) : Int) by omega)]
    by_cases hc : dg b (n - 1 - K) < dg a (n - 1 - K)
    · rw [decide_eq_false (show ¬ ((dg a (n - 1 - K) : Nat) : Int) < ((dg b (n - 1 - K) : Nat) : Int) by omega), if_pos hc]
      rfl
    · rw [decide_eq_true (show ((dg a (n - 1 - K) : Nat) : Int) < ((dg b (n - 1 - K) : Nat) : Int) by omega), if_neg hc]
      rfl
  rw [show (n : Int) - 1 - ((0 : Nat) : Int) = (n : Int) - 1 by omega] at key
  exact key
section
variable (n : Nat) (f : Nat → Int) (m : Nat) (g : Nat → Int) (i j r : Int)
noncomputable def szHd (x : Option Out) : Option Out := cond (!((n : Int) == (m : Int))) (cond (decide ((n : Int) < (m : Int))) (some (Out.of (iA (-1)))) (some (Out.of (iA 1)))) (gate (Sub (szS n f m g (w64 ((n : Int) - 1))) (szS n f m g i)) x)
theorem sz_evN : ev Try.prog [] [] (oneL 6 fun _ _ => none) Try.f50 [sJ n f, sJ m g] ret = cond (!((n : Int) == (m : Int))) (cond (decide ((n : Int) < (m : Int))) (some (Out.of (iA (-1)))) (some (Out.of (iA 1)))) none := by kernel_rfl
theorem sz_evE : ev Try.prog [] [] (oneL 6 (toldF [0, 1, 5] [] (szS n f m g i) (.exit 0) (szS n f m g j))) Try.f50 [sJ n f, sJ m g] ret = szHd n f m g i (some (Out.of (iA 0))) := by kernel_rfl
theorem sz_evR : ev Try.prog [] [] (oneL 6 (toldF [0, 1, 5] [] (szS n f m g i) .ret (szR n f m g r j))) Try.f50 [sJ n f, sJ m g] ret = szHd n f m g i (some (Out.of (iA r))) := by kernel_rfl
end
theorem sz_spec {a b : Nat} (ha : nw a < 35184372088832) : FSpec Try.prog 50 [msA a, msA b] (iA (cmpI a b)) := by
  by_cases hn : nw a = nw b
  · have hb := nw_lt b
    rw [← hn] at hb
    have ha' := nw_lt a
    have hw : w64 ((nw a : Int) - 1) = (nw a : Int) - 1 := w64_id (by omega) (by omega)
    rcases all_or_first (fun t => dg a (nw a - 1 - t) == dg b (nw a - 1 - t)) (nw a) with hl | ⟨K, hK, hp, hq⟩
    · have hl' : ∀ t, t < nw a → dg a (nw a - 1 - t) = dg b (nw a - 1 - t) := fun t ht => by simpa using hl t ht
      have e := eq_downM ha' hb (nw a) 0 (by omega) fun j _ h2 => by
        have := hl' (nw a - 1 - j) (by omega)
        rw [show nw a - 1 - (nw a - 1 - j) = j by omega] at this
        exact this
      rw [Nat.pow_zero, Nat.div_one, Nat.div_one] at e
      have hL := lok_at (c := bodyOf Try.f50) (i := 6) 0 1 (by kernel_rfl) (by kernel_rfl) (toldF_sound (keep := [0, 1, 5]) (τ := []) (sz_same (by omega) hl'))
      have := gspec e_nil k_nil Try.func50 (by kernel_rfl) (by kernel_rfl) hL rfl (r := iA 0) (args := [sJ (nw a) (mI a), sJ (nw a) (mI b)]) ((sz_evE (nw a) (mI a) (nw a) (mI b) ((nw a : Int) - 1) (-1)).trans (by
        unfold szHd
        rw [BEq.rfl, hw, gate_pos (Sub.refl _)]
        rfl))
      rw [msA_eq, msA_eq, ← hn]
      unfold cmpI
      rw [if_neg (by omega), if_neg (by omega)]
      exact this
    · have hp' : dg a (nw a - 1 - K) ≠ dg b (nw a - 1 - K) := by simpa using hp
      have hq' : ∀ t, t < K → dg a (nw a - 1 - t) = dg b (nw a - 1 - t) := fun t ht => by simpa using hq t ht
      have e := eq_downM ha' hb K (nw a - 1 - K + 1) (by omega) fun j h1 h2 => by
        have := hq' (nw a - 1 - j) (by omega)
        rw [show nw a - 1 - (nw a - 1 - j) = j by omega] at this
        exact this
      have hL := lok_at (c := bodyOf Try.f50) (i := 6) 0 1 (by kernel_rfl) (by kernel_rfl) (toldF_sound (keep := [0, 1, 5]) (τ := []) (sz_other (by omega) hK hp' hq'))
      have := gspec e_nil k_nil Try.func50 (by kernel_rfl) (by kernel_rfl) hL rfl (r := iA (if dg b (nw a - 1 - K) < dg a (nw a - 1 - K) then 1 else -1)) (args := [sJ (nw a) (mI a), sJ (nw a) (mI b)]) ((sz_evR (nw a) (mI a) (nw a) (mI b) ((nw a : Int) - 1) _ _).trans (by
        unfold szHd
        rw [BEq.rfl, hw, gate_pos (Sub.refl _)]
        rfl))
      rw [msA_eq, msA_eq, ← hn]
      have er : cmpI a b = if dg b (nw a - 1 - K) < dg a (nw a - 1 - K) then 1 else -1 := by
        unfold cmpI
        by_cases hc : dg b (nw a - 1 - K) < dg a (nw a - 1 - K)
        · rw [if_pos hc, if_pos (gt_atM e hc)]
        · have := gt_atM e.symm (show dg a (nw a - 1 - K) < dg b (nw a - 1 - K) by omega)
          rw [if_neg hc, if_neg (by omega), if_pos this]
      rw [er]
      exact this
  · refine gspec e_nil k_nil Try.func50 (by kernel_rfl) (by kernel_rfl) (lok_none 6) rfl ((sz_evN (nw a) (mI a) (nw b) (mI b)).trans ?_)
    rw [beq_false_of_ne (show ((nw a : Nat) : Int) ≠ ((nw b : Nat) : Int) by omega)]
    unfold cmpI
    by_cases hc : nw b < nw a
    · have := nw_monoM hc
      rw [decide_eq_false (show ¬ ((nw a : Nat) : Int) < ((nw b : Nat) : Int) by omega), if_pos this]
      rfl
    · have := nw_monoM (show nw a < nw b by omega)
      rw [decide_eq_true (show ((nw a : Nat) : Int) < ((nw b : Nat) : Int) by omega), if_neg (by omega), if_pos this]
      rfl
/-! ### addParts -/
def apS (n : Nat) (f : Nat → Int) (m : Nat) (g : Nat → Int) (cr i : Int) (c : Nat) (el : Nat → List AV) : St := mkS 54 [(0, sJ n f), (1, sJ m g), (5, .osl 0 1 0 c), (6, iA cr), (7, iA i)] [.a 3 1 c el]
def keepAp : List Nat := [0, 1, 5, 6, 7]
section
variable (n : Nat) (f : Nat → Int) (m : Nat) (g : Nat → Int) (cr i : Int) (c : Nat) (el : Nat → List AV)
def apGo : Bool := cond (cond (decide (i < (n : Int))) true (decide (i < (m : Int)))) true (decide (cr > 0))
def apN (s : Int) : Option Out := cond (apB c 8 || false) (some ⟨.normal, apS n f m g (w64 (s.tdiv 1000000)) (w64 (i + 1)) (c + 1) fun q => mixL (Nat.blt q c) (el q) [iA (s.tmod 1000000)], .any⟩) none
def apT2 (s : Int) : Option Out := cond (decide (i < (m : Int))) (cond (ixB i m || false) (apN n f m g i c el (w64 (s + g i.toNat))) none) (apN n f m g i c el s)
theorem ap_step : evC Try.prog [] [] noL (loopAt Try.f49 0) (apS n f m g cr i c el) (finN keepAp [some 2]) = cond (apGo n m cr i) (cond (decide (i < (n : Int))) (cond (ixB i n || false) (apT2 n f m g i c el (w64 (cr + f i.toNat))) none) (apT2 n f m g i c el cr)) none := by kernel_rfl
end
end Go.Proofs.Ytgijfbcfajhmlaa

namespace Go.Proofs.Ytgijfbcfajhmlaa
open Go.Gv
open Go.Em (wB wB_pos wB_eq dg dg_lt vl nw cy bw nw_lt nw_ge nw_le nw_zero top_dg dg_zero pw_pos cy_zero cy_le cy_next dg_add)

section
variable (n : Nat) (f : Nat → Int) (m : Nat) (g : Nat → Int) (cr i : Int) (c : Nat) (el : Nat → List AV)
def apZ : Option Out := cond (apB c 8 || false) none none
def apZ2 : Option Out := cond (decide (i < (m : Int))) (cond (ixB i m || false) (apZ c) none) (apZ c)
theorem ap_end : evC Try.prog [] [] noL (loopAt Try.f49 0) (apS n f m g cr i c el) (finE keepAp [some 0]) = cond (apGo n m cr i) (cond (decide (i < (n : Int))) (cond (ixB i n || false) (apZ2 m i c) none) (apZ2 m i c)) (some ⟨.exit 0, apS n f m g cr i c el, .any⟩) := by kernel_rfl
theorem ap_ev (h : Nat → Int) (i' cr' : Int) : ev Try.prog [] [] (oneL 4 (toldN keepAp [(5, 0, 1)] (.a 3 1 0 fun q => [iA (h q)]) [none] (apS n f m g 0 0 0 fun q => [iA (h q)]) (.exit 0) (apS n f m g cr' i' c fun q => [iA (h q)]))) Try.f49 [sJ n f, sJ m g] ret =
    gate (Sub (apS n f m g 0 0 0 fun q => [iA (h q)]) (apS n f m g 0 0 0 fun q => [iA (h q)])) (some (Out.of (sJ c fun j => h (0 + j)))) := by kernel_rfl
end
theorem nw_mon {a b : Nat} (h : a ≤ b) : nw a ≤ nw b := nw_le (Nat.lt_of_le_of_lt h (nw_lt b))
theorem cy_top {a b i : Nat} (ha : nw a ≤ i) (hb : nw b ≤ i) : cy a b i = (a + b) / wB ^ i := by
  have h1 : a < wB ^ i := Nat.lt_of_lt_of_le (nw_lt a) (Nat.pow_le_pow_right wB_pos ha)
  have h2 : b < wB ^ i := Nat.lt_of_lt_of_le (nw_lt b) (Nat.pow_le_pow_right wB_pos hb)
  unfold cy
  rw [Nat.mod_eq_of_lt h1, Nat.mod_eq_of_lt h2]
theorem mI_zero {a i : Nat} (h : nw a ≤ i) : mI a i = 0 := by unfold mI; rw [dg_zero (Nat.lt_of_lt_of_le (nw_lt a) (Nat.pow_le_pow_right wB_pos h))]; rfl
theorem ap_leads {a b : Nat} (hn : nw (a + b) ≤ 10000000000000) : Leads Try.prog (.loop (loopAt Try.f49 0)) (apS (nw a) (mI a) (nw b) (mI b) 0 0 0 fun q => [iA (mI (a + b) q)]) (.exit 0) (apS (nw a) (mI a) (nw b) (mI b) ((cy a b (nw (a + b)) : Nat) : Int) (nw (a + b) : Nat) (nw (a + b)) fun q => [iA (mI (a + b) q)]) := by
  have ha := nw_mon (show a ≤ a + b by omega)
  have hb := nw_mon (show b ≤ a + b by omega)
  have key : Leads Try.prog (.loop (loopAt Try.f49 0)) (apS (nw a) (mI a) (nw b) (mI b) ((cy a b 0 : Nat) : Int) ((0 : Nat) : Int) 0 fun q => [iA (mI (a + b) q)]) (.exit 0) (apS (nw a) (mI a) (nw b) (mI b) ((cy a b (nw (a + b)) : Nat) : Int) (nw (a + b) : Nat) (nw (a + b)) fun q => [iA (mI (a + b) q)]) := by
    refine loop_rule (fun i => apS (nw a) (mI a) (nw b) (mI b) ((cy a b i : Nat) : Int) (i : Nat) i fun q => [iA (mI (a + b) q)]) (nw (a + b)) (.exit 0) _ (by simp) (fun i hi => ?_) ?_
    · have st := ap_step (nw a) (mI a) (nw b) (mI b) ((cy a b i : Nat) : Int) (i : Nat) i fun q => [iA (mI (a + b) q)]
      have hcy := cy_le a b i
      have da := dg_lt a i
      have db := dg_lt b i
      rw [wB_eq] at da db
      have go : apGo (nw a) (nw b) ((cy a b i : Nat) : Int) (i : Nat) = true := by
        unfold apGo
        by_cases h1 : i < nw a
        · rw [dec_lt h1]; rfl
        · by_cases h2 : i < nw b
          · rw [dec_lt h2]; cases decide (((i : Nat) : Int) < ((nw a : Nat) : Int)) <;> rfl
          · have h0 : a + b ≠ 0 := fun h => by rw [h, nw_zero] at hi; omega
            have h3 : wB ^ i ≤ a + b := Nat.le_trans (Nat.pow_le_pow_right wB_pos (by omega)) (nw_ge h0).2
            have h4 : 0 < cy a b i := by rw [cy_top (by omega) (by omega)]; exact Nat.div_pos h3 (pw_pos i)
            rw [decide_eq_true (show ((cy a b i : Nat) : Int) > 0 by omega)]
            cases (cond (decide (((i : Nat) : Int) < ((nw a : Nat) : Int))) true (decide (((i : Nat) : Int) < ((nw b : Nat) : Int)))) <;> rfl
      have hs : (((cy a b i : Nat) : Int) + mI a i + mI b i) = ((dg a i + dg b i + cy a b i : Nat) : Int) := by unfold mI; omega
      have w1 : w64 (((cy a b i : Nat) : Int) + mI a i) = ((cy a b i : Nat) : Int) + mI a i := by unfold mI; exact w64_id (by omega) (by omega)
      have w2 : w64 (((cy a b i : Nat) : Int) + mI a i + mI b i) = ((cy a b i : Nat) : Int) + mI a i + mI b i := by unfold mI; exact w64_id (by omega) (by omega)
      have all : (cond (decide (((i : Nat) : Int) < ((nw a : Nat) : Int))) (cond (ixB (i : Nat) (nw a) || false) (apT2 (nw a) (mI a) (nw b) (mI b) (i : Nat) i (fun q => [iA (mI (a + b) q)]) (w64 (((cy a b i : Nat) : Int) + mI a ((i : Nat) : Int).toNat))) none) (apT2 (nw a) (mI a) (nw b) (mI b) (i : Nat) i (fun q => [iA (mI (a + b) q)]) ((cy a b i : Nat) : Int))) = apN (nw a) (mI a) (nw b) (mI b) (i : Nat) i (fun q => [iA (mI (a + b) q)]) (((cy a b i : Nat) : Int) + mI a i + mI b i) := by
        have t2 : apT2 (nw a) (mI a) (nw b) (mI b) (i : Nat) i (fun q => [iA (mI (a + b) q)]) (((cy a b i : Nat) : Int) + mI a i) = apN (nw a) (mI a) (nw b) (mI b) (i : Nat) i (fun q => [iA (mI (a + b) q)]) (((cy a b i : Nat) : Int) + mI a i + mI b i) := by
          unfold apT2
          by_cases h2 : i < nw b
          · rw [dec_lt h2, ixB_t h2, Int.toNat_natCast, w2]; rfl
          · have e : ((cy a b i : Nat) : Int) + mI a i + mI b i = ((cy a b i : Nat) : Int) + mI a i := by rw [mI_zero (a := b) (by omega), Int.add_zero]
            rw [decide_eq_false (show ¬ ((i : Nat) : Int) < ((nw b : Nat) : Int) by omega), cond_false, e]
        by_cases h1 : i < nw a
        · rw [dec_lt h1, ixB_t h1, Int.toNat_natCast, w1, t2]; rfl
        · rw [decide_eq_false (show ¬ ((i : Nat) : Int) < ((nw a : Nat) : Int) by omega)]
          have e : ((cy a b i : Nat) : Int) = ((cy a b i : Nat) : Int) + mI a i := by rw [mI_zero (a := a) (by omega), Int.add_zero]
          exact (congrArg (apT2 (nw a) (mI a) (nw b) (mI b) (i : Nat) i (fun q => [iA (mI (a + b) q)])) e).trans t2
      rw [go, cond_true, all, hs] at st
      unfold apN at st
      have e1 : (((dg a i + dg b i + cy a b i : Nat) : Int)).tmod 1000000 = mI (a + b) i := by
        unfold mI
        rw [dg_add, Int.tmod_eq_emod_of_nonneg (by omega)]
        rfl
      have e2 : w64 ((((dg a i + dg b i + cy a b i : Nat) : Int)).tdiv 1000000) = ((cy a b (i + 1) : Nat) : Int) := by
        rw [cy_next, Int.tdiv_eq_ediv_of_nonneg (by omega), w64_id (by omega) (by omega)]
        rfl
      rw [apB_t (by omega), e1, e2, w64_next (by omega)] at st
      refine (leads_ev (finN_sub _ _) e_nil k_nil noL_ok st).sub (Sub.refl _) ?_
      refine sub_same ⟨Or.inr ⟨3, 1, i + 1, _, _, rfl, rfl, fun q hq => ?_⟩, trivial⟩
      rw [mixI]
      cases hlt : Nat.blt q i
      · have hge := not_blt hlt
        have : q = i := by omega
        subst this
        rfl
      · rfl
    · refine leads_ev (finE_sub _ _) e_nil k_nil noL_ok ((ap_end (nw a) (mI a) (nw b) (mI b) ((cy a b (nw (a + b)) : Nat) : Int) (nw (a + b) : Nat) (nw (a + b)) fun q => [iA (mI (a + b) q)]).trans ?_)
      have h0 : cy a b (nw (a + b)) = 0 := by rw [cy_top ha hb, Nat.div_eq_of_lt (nw_lt _)]
      have go : apGo (nw a) (nw b) ((cy a b (nw (a + b)) : Nat) : Int) (nw (a + b) : Nat) = false := by
        unfold apGo
        rw [h0, decide_eq_false (show ¬ ((nw (a + b) : Nat) : Int) < ((nw a : Nat) : Int) by omega), decide_eq_false (show ¬ ((nw (a + b) : Nat) : Int) < ((nw b : Nat) : Int) by omega)]
        rfl
      rw [go, cond_false]
  rw [cy_zero] at key
  exact key
theorem ap_spec {a b : Nat} (hn : nw (a + b) ≤ 10000000000000) : FSpec Try.prog 49 [msA a, msA b] (msA (a + b)) := by
  have hL := lok_hd (c := bodyOf Try.f49) (i := 4) 0 (by kernel_rfl) (by kernel_rfl) (toldN_sound (keep := keepAp) (nils := [(5, 0, 1)]) (nr := .a 3 1 0 fun q => [iA (mI (a + b) q)]) (τ := [none]) (ap_leads hn))
  refine gspec e_nil k_nil Try.func49 (by kernel_rfl) (by kernel_rfl) hL rfl ((ap_ev (nw a) (mI a) (nw b) (mI b) (nw (a + b)) (mI (a + b)) _ _).trans ?_)
  have e : (fun j => mI (a + b) (0 + j)) = mI (a + b) := funext fun j => by rw [Nat.zero_add]
  rw [gate_pos (Sub.refl _), e]
  rfl
end Go.Proofs.Ytgijfbcfajhmlaa

namespace Go.Proofs.Ytgijfbcfajhmlaa
open Go.Gv
open Go.Em (wB wB_pos wB_eq dg dg_lt vl nw cy bw nw_lt nw_ge nw_le nw_zero top_dg dg_zero pw_pos bw_zero bw_le bw_next dg_sub)

def suS (n : Nat) (f : Nat → Int) (m : Nat) (g : Nat → Int) (br i : Int) (c : Nat) (el : Nat → List AV) : St := mkS 41 [(0, sJ n f), (1, sJ m g), (5, .osl 0 1 0 c), (6, iA br), (7, iA i)] [.a 3 1 c el]
def keepSu : List Nat := [0, 1, 5, 6, 7]
section
variable (n : Nat) (f : Nat → Int) (m : Nat) (g : Nat → Int) (br i : Int) (c : Nat) (el : Nat → List AV)
def suK (k : Int → Int → Option Out) (d : Int) : Option Out := cond (decide (d < 0)) (cond (apB c 8 || false) (k (w64 (d + 1000000)) 1) none) (cond (apB c 8 || false) (k d 0) none)
def suT (k : Int → Int → Option Out) (z : Option Out) : Option Out := cond (decide (i < (n : Int))) (cond (ixB i n || false) (cond (decide (i < (m : Int))) (cond (ixB i m || false) (suK c k (w64 (w64 (f i.toNat - br) - g i.toNat))) none) (suK c k (w64 (f i.toNat - br)))) none) z
theorem su_step : evC Try.prog [] [] noL (loopAt Try.f51 0) (suS n f m g br i c el) (finN keepSu [some 2]) = suT n f m g br i c (fun v b => some ⟨.normal, suS n f m g b (w64 (i + 1)) (c + 1) fun q => mixL (Nat.blt q c) (el q) [iA v], .any⟩) none := by kernel_rfl
theorem su_end : evC Try.prog [] [] noL (loopAt Try.f51 0) (suS n f m g br i c el) (finE keepSu [some 0]) = suT n f m g br i c (fun _ _ => none) (some ⟨.exit 0, suS n f m g br i c el, .any⟩) := by kernel_rfl
theorem su_ev (h : Nat → Int) (i' br' : Int) (k : Nat) (F : Nat → Int) : evZ Try.prog [] [kS Try.prog 48 (fun _ => sJ k F)] [] (oneL 4 (toldN keepSu [(5, 0, 1)] (.a 3 1 0 fun q => [iA (h q)]) [none] (suS n f m g 0 0 0 fun q => [iA (h q)]) (.exit 0) (suS n f m g br' i' c fun q => [iA (h q)]))) (oneZ 14 (frzK 0)) Try.f51 [sJ n f, sJ m g] ret =
    gate (Sub (suS n f m g 0 0 0 fun q => [iA (h q)]) (suS n f m g 0 0 0 fun q => [iA (h q)])) (cond (fz1 c) (gate (FSpec Try.prog 48 [sJ c h] (sJ k F)) (some (Out.of (sJ k F)))) none) := by kernel_rfl
end
theorem su_leads {a b : Nat} (hab : b ≤ a) (hn : nw a ≤ 10000000000000) : Leads Try.prog (.loop (loopAt Try.f51 0)) (suS (nw a) (mI a) (nw b) (mI b) 0 0 0 fun q => [iA (mI (a - b) q)]) (.exit 0) (suS (nw a) (mI a) (nw b) (mI b) ((bw a b (nw a) : Nat) : Int) (nw a : Nat) (nw a) fun q => [iA (mI (a - b) q)]) := by
  have key : Leads Try.prog (.loop (loopAt Try.f51 0)) (suS (nw a) (mI a) (nw b) (mI b) ((bw a b 0 : Nat) : Int) ((0 : Nat) : Int) 0 fun q => [iA (mI (a - b) q)]) (.exit 0) (suS (nw a) (mI a) (nw b) (mI b) ((bw a b (nw a) : Nat) : Int) (nw a : Nat) (nw a) fun q => [iA (mI (a - b) q)]) := by
    refine loop_rule (fun i => suS (nw a) (mI a) (nw b) (mI b) ((bw a b i : Nat) : Int) (i : Nat) i fun q => [iA (mI (a - b) q)]) (nw a) (.exit 0) _ (by simp) (fun i hi => ?_) ?_
    · have st := su_step (nw a) (mI a) (nw b) (mI b) ((bw a b i : Nat) : Int) (i : Nat) i fun q => [iA (mI (a - b) q)]
      have hbw := bw_le a b i
      have da := dg_lt a i
      have db := dg_lt b i
      have e1 : mI (a - b) i = ((dg a i + wB - dg b i - bw a b i) % wB : Nat) := by unfold mI; rw [dg_sub hab]
      have e2 := bw_next a b i
      rw [wB_eq] at da db e1
      have go : ∀ k : Int → Int → Option Out, suT (nw a) (mI a) (nw b) (mI b) ((bw a b i : Nat) : Int) (i : Nat) i k none = k (mI (a - b) i) ((bw a b (i + 1) : Nat) : Int) := fun k => by
        have fin : ∀ d : Int, d = (dg a i : Int) - (bw a b i : Int) - (dg b i : Int) → suK i k d = k (mI (a - b) i) ((bw a b (i + 1) : Nat) : Int) := fun d hd => by
          unfold suK
          rw [apB_t (by omega), e1, e2]
          by_cases hneg : d < 0
          · rw [decide_eq_true hneg, if_pos (by omega), w64_id (by omega) (by omega), show d + 1000000 = (((dg a i + 1000000 - dg b i - bw a b i) % 1000000 : Nat) : Int) by omega]
            rfl
          · rw [decide_eq_false hneg, if_neg (by omega), show d = (((dg a i + 1000000 - dg b i - bw a b i) % 1000000 : Nat) : Int) by omega]
            rfl
        unfold suT
        rw [dec_lt hi, ixB_t hi, Int.toNat_natCast]
        have w1 : w64 (mI a i - ((bw a b i : Nat) : Int)) = (dg a i : Int) - (bw a b i : Int) := by unfold mI; exact w64_id (by omega) (by omega)
        rw [w1]
        by_cases h2 : i < nw b
        · rw [dec_lt h2, ixB_t h2]
          have w2 : w64 ((dg a i : Int) - (bw a b i : Int) - mI b i) = (dg a i : Int) - (bw a b i : Int) - (dg b i : Int) := by unfold mI; exact w64_id (by omega) (by omega)
          rw [w2]
          exact fin _ rfl
        · have hz : dg b i = 0 := dg_zero (Nat.lt_of_lt_of_le (nw_lt b) (Nat.pow_le_pow_right wB_pos (by omega)))
          rw [decide_eq_false (show ¬ ((i : Nat) : Int) < ((nw b : Nat) : Int) by omega)]
          exact fin _ (by rw [hz]; omega)
      rw [go, w64_next (by omega)] at st
      refine (leads_ev (finN_sub _ _) e_nil k_nil noL_ok st).sub (Sub.refl _) ?_
      refine sub_same ⟨Or.inr ⟨3, 1, i + 1, _, _, rfl, rfl, fun q hq => ?_⟩, trivial⟩
      rw [mixI]
      cases hlt : Nat.blt q i
      · have hge := not_blt hlt
        have : q = i := by omega
        subst this
        rfl
      · rfl
    · refine leads_ev (finE_sub _ _) e_nil k_nil noL_ok ((su_end (nw a) (mI a) (nw b) (mI b) ((bw a b (nw a) : Nat) : Int) (nw a : Nat) (nw a) fun q => [iA (mI (a - b) q)]).trans ?_)
      unfold suT
      rw [dec_self, cond_false]
  rw [bw_zero] at key
  exact key
theorem su_spec {a b : Nat} (hab : b ≤ a) (hn : nw a ≤ 10000000000000) : FSpec Try.prog 51 [msA a, msA b] (msA (a - b)) := by
  have hL := lok_hd (c := bodyOf Try.f51) (i := 4) 0 (by kernel_rfl) (by kernel_rfl) (toldN_sound (keep := keepSu) (nils := [(5, 0, 1)]) (nr := .a 3 1 0 fun q => [iA (mI (a - b) q)]) (τ := [none]) (su_leads hab hn))
  refine gspecZ (oneZ_ok (frzK_ok 0)) e_nil (k_cons kS_ok k_nil) m_nil Try.func51 (by kernel_rfl) (by kernel_rfl) hL rfl ((su_ev (nw a) (mI a) (nw b) (mI b) (nw a) (mI (a - b)) _ _ (nw (a - b)) (mI (a - b))).trans ?_)
  have hlt := nw_lt a
  rw [gate_pos (Sub.refl _), fz1_t, gate_pos (show FSpec Try.prog 48 [sJ (nw a) (mI (a - b))] (sJ (nw (a - b)) (mI (a - b))) from co_spec (a - b) (by omega) (by omega))]
  rfl
end Go.Proofs.Ytgijfbcfajhmlaa

namespace Go.Proofs.Ytgijfbcfajhmlaa
open Go.Gv
open Go.Em (wB wB_pos wB_eq dg dg_lt vl vl_dg nw nw_lt nw_ge nw_le nw_zero)

/-- Whether it is below nought, and its size (nought may be called either). -/
abbrev Bg : Type := Bool × Nat
def bgA (x : Bg) : AV := .agg [bA x.1, msA x.2]
def bv (x : Bg) : Int := if x.1 then -(x.2 : Int) else (x.2 : Int)
def decM : AV → Nat
  | .sl _ n el => vl (fun i => u64V (el i)) n
  | _ => 0
theorem decM_ms (a : Nat) : decM (msA a) = a := by
  show vl (fun i => (((dg a i : Nat) : Int)).toNat) (nw a) = a
  simp only [Int.toNat_natCast]
  exact (vl_dg a (nw a)).trans (Nat.mod_eq_of_lt (nw_lt a))
def decB : AV → Bg
  | .agg [.x (.bool s), a] => (s, decM a)
  | _ => (false, 0)
theorem decB_b (x : Bg) : decB (bgA x) = x := by
  show (x.1, decM (msA x.2)) = x
  rw [decM_ms]
def adG (l : List AV) : AV := msA (decM (a0 l) + decM (a1 l))
def suG' (l : List AV) : AV := msA (decM (a0 l) - decM (a1 l))
def szG (cf : Nat → Nat → Int) (l : List AV) : AV := iA (cf (decM (a0 l)) (decM (a1 l)))
section
variable (x y : Bg)
theorem bs_ev : ev Try.prog [] [] noL Try.f31 [bgA x] ret = cond (((nw x.2 : Nat) : Int) == 0) (some (Out.of (iA 0))) (cond x.1 (some (Out.of (iA (-1)))) (some (Out.of (iA 1)))) := by kernel_rfl
theorem bn_ev : ev Try.prog [] [] noL Try.f29 [bgA x] ret = some (Out.of (bgA (!x.1, x.2))) := by kernel_rfl
noncomputable def baT (cf : Nat → Nat → Int) : Option Out := gate (FSpec Try.prog 50 [msA x.2, msA y.2] (szG cf [msA x.2, msA y.2])) (cond (decide (cf (decM (msA x.2)) (decM (msA y.2)) ≥ 0)) (gate (FSpec Try.prog 51 [msA x.2, msA y.2] (suG' [msA x.2, msA y.2])) (some (Out.of (.agg [bA x.1, suG' [msA x.2, msA y.2]])))) (gate (FSpec Try.prog 51 [msA y.2, msA x.2] (suG' [msA y.2, msA x.2])) (some (Out.of (.agg [bA y.1, suG' [msA y.2, msA x.2]])))))
theorem ba_ev (cf : Nat → Nat → Int) : ev Try.prog [] [kS Try.prog 49 adG, kS Try.prog 50 (szG cf), kS Try.prog 51 suG'] noL Try.f28 [bgA x, bgA y] ret = cond (x.1 == y.1) (gate (FSpec Try.prog 49 [msA x.2, msA y.2] (adG [msA x.2, msA y.2])) (some (Out.of (.agg [bA x.1, adG [msA x.2, msA y.2]])))) (baT x y cf) := by kernel_rfl
end
theorem nw_eq0 {a : Nat} : nw a = 0 ↔ a = 0 := ⟨fun h => Decidable.byContradiction fun h0 => by have := (nw_ge h0).1; omega, fun h => by rw [h, nw_zero]⟩
theorem bs_spec (x : Bg) : FSpec Try.prog 31 [bgA x] (iA (bv x).sign) := by
  refine gspec e_nil k_nil Try.func31 (by kernel_rfl) (by kernel_rfl) noL_ok rfl ((bs_ev x).trans ?_)
  obtain ⟨s, a⟩ := x
  by_cases h : a = 0
  · subst h
    rw [nw_zero]
    cases s <;> rfl
  · have h1 : nw a ≠ 0 := fun e => h (nw_eq0.1 e)
    rw [beq_false_of_ne (show ((nw a : Nat) : Int) ≠ 0 by omega)]
    cases s
    · rw [show (bv (false, a)).sign = 1 from Int.sign_eq_one_of_pos (show (0 : Int) < (a : Int) by omega)]; rfl
    · rw [show (bv (true, a)).sign = -1 from Int.sign_eq_neg_one_of_neg (show -(a : Int) < 0 by omega)]; rfl
def bneg (x : Bg) : Bg := (!x.1, x.2)
theorem bv_neg (x : Bg) : bv (bneg x) = -bv x := by obtain ⟨s, a⟩ := x; cases s <;> simp [bv, bneg]
theorem bn_spec (x : Bg) : FSpec Try.prog 29 [bgA x] (bgA (bneg x)) := gspec e_nil k_nil Try.func29 (by kernel_rfl) (by kernel_rfl) noL_ok rfl (bn_ev x)
def badd (x y : Bg) : Bg := if x.1 = y.1 then (x.1, x.2 + y.2) else if y.2 ≤ x.2 then (x.1, x.2 - y.2) else (y.1, y.2 - x.2)
theorem bv_add (x y : Bg) : bv (badd x y) = bv x + bv y := by
  obtain ⟨s, a⟩ := x
  obtain ⟨t, b⟩ := y
  unfold badd bv
  by_cases h : b ≤ a
  · cases s <;> cases t <;> simp [h] <;> omega
  · cases s <;> cases t <;> simp [h] <;> omega
theorem ba_spec {x y : Bg} (hx : nw x.2 ≤ 9000000000000) (hy : nw y.2 ≤ 9000000000000) (hs : nw (x.2 + y.2) ≤ 10000000000000) : FSpec Try.prog 28 [bgA x, bgA y] (bgA (badd x y)) := by
  refine gspec e_nil (k_cons kS_ok (k_cons kS_ok (k_cons kS_ok k_nil))) Try.func28 (by kernel_rfl) (by kernel_rfl) noL_ok rfl ((ba_ev x y cmpI).trans ?_)
  have eA : adG [msA x.2, msA y.2] = msA (x.2 + y.2) := by show msA (decM (msA x.2) + decM (msA y.2)) = _; rw [decM_ms, decM_ms]
  have eS : suG' [msA x.2, msA y.2] = msA (x.2 - y.2) := by show msA (decM (msA x.2) - decM (msA y.2)) = _; rw [decM_ms, decM_ms]
  have eS' : suG' [msA y.2, msA x.2] = msA (y.2 - x.2) := by show msA (decM (msA y.2) - decM (msA x.2)) = _; rw [decM_ms, decM_ms]
  have eZ : szG cmpI [msA x.2, msA y.2] = iA (cmpI x.2 y.2) := by show iA (cmpI (decM (msA x.2)) (decM (msA y.2))) = _; rw [decM_ms, decM_ms]
  unfold badd
  by_cases h : x.1 = y.1
  · rw [if_pos h, h, show (y.1 == y.1) = true from BEq.rfl, eA, gate_pos (ap_spec hs)]
    rfl
  · rw [if_neg h, beq_false_of_ne h]
    unfold baT
    rw [eZ, gate_pos (sz_spec (by omega)), decM_ms, decM_ms]
    by_cases hle : y.2 ≤ x.2
    · rw [if_pos hle, decide_eq_true (show cmpI x.2 y.2 ≥ 0 by unfold cmpI; split <;> (try split) <;> omega), eS, gate_pos (su_spec hle (by omega))]
      rfl
    · rw [if_neg hle, decide_eq_false (show ¬ cmpI x.2 y.2 ≥ 0 by unfold cmpI; rw [if_neg (by omega), if_pos (by omega)]; omega), eS', gate_pos (su_spec (by omega) (by omega))]
      rfl
end Go.Proofs.Ytgijfbcfajhmlaa

namespace Go.Proofs.Ytgijfbcfajhmlaa
open Go.Gv
open Go.Em (wB wB_pos wB_eq dg dg_lt vl vl_dg nw nw_lt nw_ge nw_le nw_zero dg_zero)

def mkI8 (n : Int) : Bool := decide (0 ≤ n) && (decide (n ≤ n) && decide (((8 : Nat) : Int) * n ≤ 281474976710656))
def bgZ : List AV := [bA false, .x (.slice none 0 0)]
def boS (s : Bool) (n : Int) (m : Nat) (el : Nat → List AV) : St := mkS 25 [(0, iA n), (2, .own 0 0), (3, bA s), (4, .osl 1 1 0 m)] [.c bgZ, .a 3 1 m el]
def keepBo : List Nat := [0, 2, 3, 4]
section
variable (s : Bool) (n : Int) (m : Nat) (el : Nat → List AV)
def boA (r : Int) : Option Out := cond (apB m 8 || false) (some ⟨.normal, boS s (w64 (n.tdiv 1000000)) (m + 1) (fun q => mixL (Nat.blt q m) (el q) [iA r]), .any⟩) none
theorem bo_step : evC Try.prog [] [] noL (loopAt Try.f20 0) (boS s n m el) (finN keepBo [some 0, some 3]) =
    cond (!(n == 0)) (cond (decide (n.tmod 1000000 < 0)) (boA s n m el (w64 (0 - n.tmod 1000000))) (boA s n m el (n.tmod 1000000))) none := by kernel_rfl
theorem bo_end : evC Try.prog [] [] noL (loopAt Try.f20 0) (boS s n m el) (finE keepBo [some 0, some 1]) =
    cond (!(n == 0)) (cond (decide (n.tmod 1000000 < 0)) (cond (apB m 8 || false) none none) (cond (apB m 8 || false) none none)) (some ⟨.exit 0, boS s n m el, .any⟩) := by kernel_rfl
theorem bo_ev (h : Nat → Int) (n' : Int) : ev Try.prog [] [] (oneL 3 (toldN keepBo [(4, 1, 1)] (.a 3 1 0 fun q => [iA (h q)]) [some 0, none] (boS s n 0 fun q => [iA (h q)]) (.exit 0) (boS s n' m fun q => [iA (h q)]))) Try.f20 [iA n] ret =
    gate (Sub (boS (decide (n < 0)) n 0 fun q => [iA (h q)]) (boS s n 0 fun q => [iA (h q)])) (some (Out.of (.agg [bA s, .sl 1 m fun j => [iA (h (0 + j))]]))) := by kernel_rfl
end
end Go.Proofs.Ytgijfbcfajhmlaa

namespace Go.Proofs.Ytgijfbcfajhmlaa
open Go.Gv
open Go.Em (wB wB_pos wB_eq dg dg_lt vl vl_dg nw nw_lt nw_ge nw_le nw_zero dg_zero pw_pos mod_next)

def bOf (n : Int) : Bg := (decide (n < 0), n.natAbs)
theorem bv_of (n : Int) : bv (bOf n) = n := by
  unfold bv bOf
  by_cases h : n < 0
  · simp only [decide_eq_true h, if_true]; omega
  · simp only [decide_eq_false h]; simp; omega
/-- What is left of a number when so many parts are cut off. -/
def cur (n : Int) (k : Nat) : Int := if n < 0 then -((n.natAbs / wB ^ k : Nat) : Int) else ((n.natAbs / wB ^ k : Nat) : Int)
theorem cur_zero (n : Int) : cur n 0 = n := by
  unfold cur
  rw [Nat.pow_zero, Nat.div_one]
  split <;> omega
theorem tq_neg (a : Nat) : Int.tdiv (-(a : Int)) 1000000 = -((a / 1000000 : Nat) : Int) ∧ Int.tmod (-(a : Int)) 1000000 = -((a % 1000000 : Nat) : Int) := by
  rw [Int.neg_tdiv, Int.neg_tmod]
  have h1 : Int.tdiv (a : Int) 1000000 = ((a / 1000000 : Nat) : Int) := (Int.ofNat_tdiv a 1000000).symm
  have h2 : Int.tmod (a : Int) 1000000 = ((a % 1000000 : Nat) : Int) := (Int.ofNat_tmod a 1000000).symm
  rw [h1, h2]
  exact ⟨rfl, rfl⟩
theorem tq_pos (a : Nat) : Int.tdiv (a : Int) 1000000 = ((a / 1000000 : Nat) : Int) ∧ Int.tmod (a : Int) 1000000 = ((a % 1000000 : Nat) : Int) := ⟨(Int.ofNat_tdiv a 1000000).symm, (Int.ofNat_tmod a 1000000).symm⟩
theorem cur_div (n : Int) (k : Nat) : (cur n k).tdiv 1000000 = cur n (k + 1) := by
  have e : n.natAbs / wB ^ (k + 1) = n.natAbs / wB ^ k / 1000000 := by rw [Nat.pow_succ, ← Nat.div_div_eq_div_mul]; rfl
  unfold cur
  rw [e]
  by_cases h : n < 0
  · rw [if_pos h, if_pos h, (tq_neg _).1]
  · rw [if_neg h, if_neg h, (tq_pos _).1]
theorem cur_mod (n : Int) (k : Nat) : (cur n k).tmod 1000000 = if n < 0 then -(mI n.natAbs k) else mI n.natAbs k := by
  unfold cur mI dg
  by_cases h : n < 0
  · rw [if_pos h, if_pos h, (tq_neg _).2]; rfl
  · rw [if_neg h, if_neg h, (tq_pos _).2]; rfl
theorem cur_nz {n : Int} {k : Nat} (hk : k < nw n.natAbs) : cur n k ≠ 0 := by
  have h0 : n.natAbs ≠ 0 := fun e => by rw [e, nw_zero] at hk; omega
  have h1 := (nw_ge h0).2
  have h2 : wB ^ k ≤ n.natAbs := Nat.le_trans (Nat.pow_le_pow_right wB_pos (by omega)) h1
  have h3 : 0 < n.natAbs / wB ^ k := Nat.div_pos h2 (pw_pos k)
  unfold cur
  split <;> omega
theorem cur_end (n : Int) : cur n (nw n.natAbs) = 0 := by
  unfold cur
  rw [Nat.div_eq_of_lt (nw_lt _)]
  split <;> rfl
theorem cur_le (n : Int) (k : Nat) : (n < 0 → n ≤ cur n k ∧ cur n k ≤ 0) ∧ (0 ≤ n → 0 ≤ cur n k ∧ cur n k ≤ n) := by
  have h := Nat.div_le_self n.natAbs (wB ^ k)
  unfold cur
  generalize n.natAbs / wB ^ k = d at *
  constructor
  · intro hn; rw [if_pos hn]; omega
  · intro hn; rw [if_neg (by omega)]; omega
theorem app_i' {g : Nat → Int} {m q : Nat} {v : Int} (hq : q < m + 1) (hv : g m = v) : mixL (Nat.blt q m) [iA (g q)] [iA v] = [iA (g q)] := by
  rw [mixI]
  cases h : Nat.blt q m
  · have := not_blt h
    have : q = m := by omega
    subst this
    rw [cond_false, hv]
  · rfl
theorem bo_leads {n : Int} (h1 : -9223372036854775808 ≤ n) (h2 : n ≤ 9223372036854775807) : Leads Try.prog (.loop (loopAt Try.f20 0)) (boS (decide (n < 0)) n 0 fun q => [iA (mI n.natAbs q)]) (.exit 0) (boS (decide (n < 0)) 0 (nw n.natAbs) fun q => [iA (mI n.natAbs q)]) := by
  have hN : nw n.natAbs ≤ 4 := nw_le (by rw [wB_eq]; omega)
  have key : Leads Try.prog (.loop (loopAt Try.f20 0)) (boS (decide (n < 0)) (cur n 0) 0 fun q => [iA (mI n.natAbs q)]) (.exit 0) (boS (decide (n < 0)) (cur n (nw n.natAbs)) (nw n.natAbs) fun q => [iA (mI n.natAbs q)]) := by
    refine loop_rule (fun k => boS (decide (n < 0)) (cur n k) k fun q => [iA (mI n.natAbs q)]) (nw n.natAbs) (.exit 0) _ (by simp) (fun k hk => ?_) ?_
    · have st := bo_step (decide (n < 0)) (cur n k) k fun q => [iA (mI n.natAbs q)]
      have hd := dg_lt n.natAbs k
      have hd1 : 0 ≤ mI n.natAbs k ∧ mI n.natAbs k < 1000000 := by unfold mI; rw [wB_eq] at hd; omega
      have hle := cur_le n (k + 1)
      have e : evC Try.prog [] [] noL (loopAt Try.f20 0) (boS (decide (n < 0)) (cur n k) k fun q => [iA (mI n.natAbs q)]) (finN keepBo [some 0, some 3]) = some ⟨.normal, boS (decide (n < 0)) (cur n (k + 1)) (k + 1) (fun q => mixL (Nat.blt q k) [iA (mI n.natAbs q)] [iA (mI n.natAbs k)]), .any⟩ := by
        rw [st, beq_false_of_ne (cur_nz hk)]
        unfold boA
        rw [apB_t (by omega), cur_div, w64_id (n := cur n (k + 1)) (by omega) (by omega), cur_mod]
        by_cases h : n < 0
        · rw [if_pos h]
          by_cases hz : mI n.natAbs k = 0
          · rw [hz]; rfl
          · rw [decide_eq_true (show -mI n.natAbs k < 0 by omega), w64_id (n := 0 - -mI n.natAbs k) (by omega) (by omega), show 0 - -mI n.natAbs k = mI n.natAbs k by omega]; rfl
        · rw [if_neg h, decide_eq_false (show ¬ mI n.natAbs k < 0 by omega)]; rfl
      refine (leads_ev (finN_sub _ _) e_nil k_nil noL_ok e).sub (Sub.refl _) ?_
      exact sub_same ⟨Or.inl rfl, Or.inr ⟨3, 1, k + 1, _, _, rfl, rfl, fun q hq => (app_i' hq rfl).symm ▸ rfl⟩, trivial⟩
    · refine leads_ev (finE_sub _ _) e_nil k_nil noL_ok ((bo_end (decide (n < 0)) (cur n (nw n.natAbs)) (nw n.natAbs) _).trans ?_)
      rw [cur_end]
      rfl
  rw [cur_zero, cur_end] at key
  exact key
theorem bo_spec {n : Int} (h1 : -9223372036854775808 ≤ n) (h2 : n ≤ 9223372036854775807) : FSpec Try.prog 20 [iA n] (bgA (bOf n)) := by
  have hL := lok_hd (c := bodyOf Try.f20) (i := 3) 0 (by kernel_rfl) (by kernel_rfl) (toldN_sound (keep := keepBo) (nils := [(4, 1, 1)]) (nr := .a 3 1 0 fun q => [iA (mI n.natAbs q)]) (τ := [some 0, none]) (bo_leads h1 h2))
  refine gspec e_nil k_nil Try.func20 (by kernel_rfl) (by kernel_rfl) hL rfl ((bo_ev (decide (n < 0)) n (nw n.natAbs) (mI n.natAbs) 0).trans ?_)
  have e : (fun j => [iA (mI n.natAbs (0 + j))]) = fun j => [iA (mI n.natAbs j)] := funext fun j => by rw [Nat.zero_add]
  rw [gate_pos (Sub.refl _), e]
  rfl
/-! ### Products: the text -/
def bgC (s : Bool) (n : Nat) (f : Nat → Int) : List AV := [bA s, sJ n f]
def bmI (s : Bool) (n : Nat) (f : Nat → Int) (t : Bool) (m : Nat) (g : Nat → Int) (N : Nat) (i cr j : Int) (Y : Nat → Int) : St := mkS 80 [(2, .own 0 0), (3, .own 1 0), (4, .own 2 0), (5, .osl 3 1 0 N), (6, iA i), (7, iA cr), (8, iA j)] [.c (bgC s n f), .c (bgC t m g), .c bgZ, .a 3 1 N fun q => [iA (Y q)]]
def keepMI : List Nat := [2, 3, 4, 5, 6, 7, 8]
def bmO (s : Bool) (n : Nat) (f : Nat → Int) (t : Bool) (m : Nat) (g : Nat → Int) (N : Nat) (i : Int) (Y : Nat → Int) : St := mkS 80 [(2, .own 0 0), (3, .own 1 0), (4, .own 2 0), (5, .osl 3 1 0 N), (6, iA i)] [.c (bgC s n f), .c (bgC t m g), .c bgZ, .a 3 1 N fun q => [iA (Y q)]]
def keepMO : List Nat := [2, 3, 4, 5, 6]
section
variable (s : Bool) (n : Nat) (f : Nat → Int) (t : Bool) (m : Nat) (g : Nat → Int) (N : Nat) (i cr j : Int) (Y : Nat → Int)
def miK : Nat := (w64 (i + j)).toNat
def miV (v : Int) (q : Nat) : Int := cond (q == 0 + miK i j) (v.tmod 1000000) (Y q)
def miT (v : Int) : Option Out := cond (ixB (w64 (i + j)) N || false) (cond (stU (miK i j) N) (some ⟨.normal, bmI s n f t m g N i (w64 (v.tdiv 1000000)) (w64 (j + 1)) (miV i j Y v), .any⟩) none) none
def miZ : Option Out := cond (ixB (w64 (i + j)) N || false) (cond (stU (miK i j) N) none none) none
def miS : Int := w64 (Y (0 + miK i j) + cr)
def miC (x y z : Option Out) : Option Out := cond (cond (decide (j < (m : Int))) true (decide (cr > 0))) (cond (ixB (w64 (i + j)) N || false) (cond (stU (miK i j) N) (cond (decide (j < (m : Int))) (cond ((ixB i n || false) && ((ixB j m || false) && true)) x none) y) none) none) z
theorem mi_step : evC Try.prog [] [] noL (loopAt Try.f27 1) (bmI s n f t m g N i cr j Y) (finN keepMI [some 0, some 1, some 2, some 3]) =
    miC n m N i cr j (miT s n f t m g N i j Y (w64 (miS i cr j Y + w64 (f i.toNat * g j.toNat)))) (miT s n f t m g N i j Y (miS i cr j Y)) none := by kernel_rfl
theorem mi_end : evC Try.prog [] [] noL (loopAt Try.f27 1) (bmI s n f t m g N i cr j Y) (finE keepMI [some 0, some 1, some 2, some 3]) =
    miC n m N i cr j (miZ N i j) (miZ N i j) (some ⟨.exit 2, bmI s n f t m g N i cr j Y, .any⟩) := by kernel_rfl
noncomputable def moL (j' : Int) (Y1 : Nat → Int) : Nat → Option LFun := oneL 7 (toldF keepMI [some 0, some 1, some 2, some 3] (bmI s n f t m g N i 0 0 Y) (.exit 2) (bmI s n f t m g N i 0 j' Y1))
theorem mo_step (j' : Int) (Y1 : Nat → Int) : evC Try.prog [] [] (moL s n f t m g N i Y j' Y1) (loopAt Try.f27 0) (bmO s n f t m g N i Y) (finN keepMO [some 0, some 1, some 2, some 3]) =
    cond (decide (i < (n : Int))) (gate (Sub (bmI s n f t m g N i 0 0 Y) (bmI s n f t m g N i 0 0 Y)) (some ⟨.normal, bmO s n f t m g N (w64 (i + 1)) Y1, .any⟩)) none := by kernel_rfl
theorem mo_end : evC Try.prog [] [] (oneL 7 fun _ _ => none) (loopAt Try.f27 0) (bmO s n f t m g N i Y) (finE keepMO [some 0, some 1, some 2, some 3]) =
    cond (decide (i < (n : Int))) none (some ⟨.exit 0, bmO s n f t m g N i Y, .any⟩) := by kernel_rfl
theorem mo_ev (k : Nat) (z : Nat → Int) : evZ Try.prog [] [kS Try.prog 48 (fun _ => sJ k z)] [] (oneL 3 (toldF keepMO [some 0, some 1, some 2, some 3] (bmO s n f t m g N 0 fun _ => 0) (.exit 0) (bmO s n f t m g N (n : Nat) Y))) (oneZ 14 (frzK 3)) Try.f27 [.agg (bgC s n f), .agg (bgC t m g)] ret =
    cond (mkI8 (w64 (w64 ((n : Int) + (m : Int)) + 1)) || false) (gate (Sub (bmO s n f t m g (w64 (w64 ((n : Int) + (m : Int)) + 1)).toNat 0 fun _ => 0) (bmO s n f t m g N 0 fun _ => 0)) (cond (fz1 N) (gate (FSpec Try.prog 48 [sJ N Y] (sJ k z)) (some (Out.of (.agg [bA (!(s == t)), sJ k z])))) none)) none := by kernel_rfl
end
end Go.Proofs.Ytgijfbcfajhmlaa
