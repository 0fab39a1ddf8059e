/-
  Rt1 Rt2 Tc2 Rc2 Gyn Rc3 Rc4 Rc5 Rc6 Rc7, one behind the other.
-/
import Derived.Test.YtgijfbcfajhmlaaM7
import Derived.Test.YtgijfbcfajhmlaaM8
import Derived.Test.YtgijfbcfajhmlaaM4
namespace Go.Proofs.Ytgijfbcfajhmlaa
open Go.Gv
open Go.Sturm (Pol hq SA SB cA cB FirstAt Dk alti cnt ind Chain Chain0 xp sh)

def fnP (p : Ply) : Go.Sturm.Fn := fun x => hq p.2 x 0 p.1
theorem fnP_pol (p : Ply) : Pol (fnP p) := Go.Sturm.hq_pol p.2 p.1 0
theorem fnP_D (p : Ply) : Go.Sturm.D (fnP p) = fnP (p.1 - 1, dsl p.2) := Go.Sturm.D_poly (fun _ => rfl) p.1
theorem fnP_Dk (p : Ply) : ∀ j, Dk j (fnP p) = fnP (p.1 - j, dit p.2 j)
  | 0 => rfl
  | j + 1 => by
    rw [Go.Sturm.Dk_succ, fnP_Dk p j, fnP_D]
    show fnP (p.1 - j - 1, dsl (dit p.2 j)) = _
    rw [Nat.sub_sub]
    rfl
theorem hq_hor (f : Nat → Int) (x : Int) (d i : Nat) : hq f (x : Rat) i d = ((hor f x i d : Int) : Rat) := Go.Sturm.hq_int (h := hor) (fun _ _ _ => by simp only [hor]) (fun _ _ _ _ => by simp only [hor]) f x d i
theorem fnP_at (p : Ply) (x : Int) (j : Nat) : Dk j (fnP p) (x : Rat) = ((hv p.2 p.1 x j : Int) : Rat) := by
  rw [fnP_Dk]
  exact hq_hor _ _ _ _
theorem sg_cast (n : Int) : Go.Sturm.sg (n : Rat) = n.sign := by
  rcases sign_cases n with ⟨h, e⟩ | ⟨h, e⟩ | ⟨h, e⟩
  all_goals first
    | (rw [e]; subst h; exact Go.Sturm.sg_zero)
    | (rw [e]; exact Go.Sturm.sg_neg (Rat.intCast_lt_intCast.2 h))
    | (rw [e]; exact Go.Sturm.sg_pos (Rat.intCast_lt_intCast.2 h))
theorem pw1_alt : ∀ k, pw1 (-1) k = alti k
  | 0 => rfl
  | k + 1 => by show pw1 (-1) k * -1 = -alti k; rw [pw1_alt k]; omega
theorem pw1_one : ∀ k, pw1 1 k = 1
  | 0 => rfl
  | k + 1 => by show pw1 1 k * 1 = 1; rw [pw1_one k]; rfl
theorem cast_ne {n : Int} (h : n ≠ 0) : ((n : Int) : Rat) ≠ 0 := fun e => h (Rat.intCast_inj.1 (by rw [e]; rfl))
section
variable {p : Ply} (hp : 0 < p.1) (ht : Tp p)
include hp ht
theorem fnP_first (x : Int) : FirstAt (fnP p) (x : Rat) (fnz (hv p.2 p.1 x) p.1) := by
  obtain ⟨_, h2, h3⟩ := nz_at hp ht x
  refine ⟨fun j hj => ?_, ?_⟩
  · rw [fnP_at, h2 j hj]; rfl
  · rw [fnP_at]; exact cast_ne h3
theorem sgSd_A (x : Int) : sgSd (-1) p x = SA (fnP p) (x : Rat) := by
  rw [Go.Sturm.SA_of (fnP_first hp ht x), fnP_at, sg_cast, ← pw1_alt]
  rfl
theorem sgSd_B (x : Int) : sgSd 1 p x = SB (fnP p) (x : Rat) := by
  rw [Go.Sturm.SB_of (fnP_first hp ht x), fnP_at, sg_cast]
  unfold sgSd
  rw [pw1_one, Int.mul_one]
theorem fnP_nz : fnP p ≠ fun _ => 0 := fun e => by
  have := (fnP_first hp ht 0).2
  rw [e, Go.Sturm.Dk_zero] at this
  exact this rfl
end
/-! ### The chain -/
theorem fn_rstep {m : Nat} {g : Nat → Int} {p : Ply} (hm : 1 ≤ m) (hmp : m ≤ p.1) (hp : Cn p.1 p.2) (hg : Cn m g) (x : Rat) : fnP (rstep m g p) x = (tpA g m : Rat) * fnP p x + (ldA p.2 p.1 g m : Rat) * (xp x (p.1 - m) * hq g x 0 m) := by
  have hc := tl_Cn (rst_Cn hm hmp hp hg)
  have hl := tl_le (rst p.2 p.1 g m) (p.1 - 1)
  have e1 : fnP (rstep m g p) x = hq (rst p.2 p.1 g m) x 0 p.1 := (Go.Sturm.hq_len (fun j hj => hc j hj) (by omega)).symm
  have e2 : rst p.2 p.1 g m = fun q => p.2 q * tpA g m + sh (p.1 - m) g q * ldA p.2 p.1 g m := funext fun q => by
    unfold rst sh
    by_cases h : p.1 - m ≤ q
    · rw [if_pos h, if_pos h, Int.mul_comm (ldA _ _ _ _)]
    · rw [if_neg h, if_neg h, Int.zero_mul]
  rw [e1, e2, Go.Sturm.hq_add (fun q => p.2 q * tpA g m) (fun q => sh (p.1 - m) g q * ldA p.2 p.1 g m), Go.Sturm.hq_smul, Go.Sturm.hq_smul]
  have e3 := Go.Sturm.hq_shift (p.1 - m) g x m
  rw [show p.1 - m + m = p.1 by omega] at e3
  rw [e3]
  show hq p.2 x 0 p.1 * _ + _ = _ * hq p.2 x 0 p.1 + _
  grind
theorem fn_rit {m : Nat} {g : Nat → Int} {p : Ply} (hm : 1 ≤ m) (hp : Cn p.1 p.2) (hg : Cn m g) (ht : g (m - 1) ≠ 0) : ∀ t, (∀ j, j < t → m ≤ (rit m g j p).1) → ∃ (a : Rat) (Q : Go.Sturm.Fn), 0 < a ∧ Pol Q ∧ ∀ x, fnP (rit m g t p) x = a * fnP p x + Q x * fnP (m, g) x
  | 0, _ => ⟨1, fun _ => 0, by decide, Pol.zero, fun x => by show fnP p x = _; grind⟩
  | t + 1, h => by
    obtain ⟨a, Q, ha, hQ, e⟩ := fn_rit hm hp hg ht t fun j hj => h j (by omega)
    have hc := (rit_Cn hm hg hp (k := t) (fun j hj => h j (by omega)) t (Nat.le_refl _)).1
    have hT : (0 : Rat) < (tpA g m : Rat) := by
      have : 0 < tpA g m := by unfold tpA; omega
      exact Rat.intCast_lt_intCast.2 this
    refine ⟨(tpA g m : Rat) * a, fun x => (tpA g m : Rat) * Q x + (ldA (rit m g t p).2 (rit m g t p).1 g m : Rat) * xp x ((rit m g t p).1 - m), Rat.mul_pos hT ha, (hQ.smul _).add ((Go.Sturm.xp_pol _).smul _), fun x => ?_⟩
    rw [rit_succ, fn_rstep hm (h t (by omega)) hc hg, e x]
    show _ + _ * (_ * fnP (m, g) x) = _
    grind
theorem fn_neg (n : Nat) (f : Nat → Int) (x : Rat) : fnP (n, pneg f) x = -fnP (n, f) x := by
  have h := Go.Sturm.hq_smul (-1) f x n 0
  have e : pneg f = fun q => f q * -1 := funext fun q => by unfold pneg; omega
  show hq (pneg f) x 0 n = -hq f x 0 n
  rw [e, h]
  have : ((-1 : Int) : Rat) = -1 := rfl
  rw [this]
  grind
theorem fn_nxt {a b : Ply} (hb : 0 < b.1) (ha : Cn a.1 a.2) (hc : Cn b.1 b.2) (ht : Tp b) : ∃ (c : Rat) (Q : Go.Sturm.Fn), 0 < c ∧ Pol Q ∧ ∀ x, c * fnP a x + fnP (nxt a b) x = Q x * fnP b x := by
  obtain ⟨h1, h2⟩ := rcn_ok (m := b.1) hb b.2 a.1 a (Nat.le_refl _)
  obtain ⟨c, Q, h3, hQ, e⟩ := fn_rit hb ha hc (ht.resolve_left (by omega)) _ h1
  refine ⟨c, fun x => -Q x, h3, hQ.neg, fun x => ?_⟩
  have e2 : fnP (nxt a b) x = -fnP (rrem b.1 b.2 a) x := fn_neg _ _ x
  have e3 : fnP (rrem b.1 b.2 a) x = _ := e x
  rw [e2, e3]
  grind
theorem nxt_Cn {a b : Ply} (hb : 0 < b.1) (ha : Cn a.1 a.2) (hc : Cn b.1 b.2) : Cn (nxt a b).1 (nxt a b).2 := by
  obtain ⟨h1, h2⟩ := rcn_ok (m := b.1) hb b.2 a.1 a (Nat.le_refl _)
  have := (rit_Cn hb hc ha h1 _ (Nat.le_refl _)).1
  intro i hi
  show -(rrem b.1 b.2 a).2 i = 0
  rw [show (rrem b.1 b.2 a).2 i = 0 from this i hi]
  rfl
section
variable {P : Ply} (h2 : 2 ≤ P.1) (hc : Cn P.1 P.2) (ht : Tp P)
include hc in
theorem cq_Cn : ∀ j, j ≤ chN' P → Cn (cq P j).1 (cq P j).2 ∧ Cn (cq P (j + 1)).1 (cq P (j + 1)).2
  | 0, _ => ⟨hc, dsl_Cn hc⟩
  | j + 1, hj => by
    obtain ⟨a, b⟩ := cq_Cn j (by omega)
    exact ⟨b, nxt_Cn ((chN'_ok P).2.1 j (by omega)) a b⟩
include h2 in
theorem chN'_one : 1 ≤ chN' P := by
  obtain ⟨_, _, h3⟩ := chN'_ok P
  refine Nat.pos_of_ne_zero fun e => ?_
  rw [e] at h3
  have : P.1 - 1 = 0 := h3
  omega
include h2 in
theorem cq_pos {j : Nat} (hj : j ≤ chN' P) : 0 < (cq P j).1 := by
  cases j with
  | zero => show 0 < P.1; omega
  | succ j => exact (chN'_ok P).2.1 j (by omega)
include h2 hc ht
theorem cq_step {i : Nat} (hi : i + 1 ≤ chN' P) : ∃ (c : Rat) (Q : Go.Sturm.Fn), 0 < c ∧ Pol Q ∧ ∀ x, c * fnP (cq P i) x + fnP (cq P (i + 2)) x = Q x * fnP (cq P (i + 1)) x := fn_nxt (cq_pos h2 hi) (cq_Cn hc i (by omega)).1 (cq_Cn hc i (by omega)).2 (cq_Tp ht i).2
theorem cq_chain : Chain (fun i => fnP (cq P i)) (chN' P) := by
  have st : ∀ i, i + 2 ≤ chN' P → ∃ (a b : Rat) (Q : Go.Sturm.Fn), 0 < a ∧ 0 < b ∧ Pol Q ∧ ∀ x, a * fnP (cq P i) x + b * fnP (cq P (i + 2)) x = Q x * fnP (cq P (i + 1)) x := fun i hi => by
    obtain ⟨c, Q, h1, h3, h4⟩ := cq_step h2 hc ht (i := i) (by omega)
    exact ⟨c, 1, Q, h1, by decide, h3, fun x => by rw [← h4 x]; grind⟩
  refine ⟨⟨fun i _ => fnP_pol _, fun i hi => fnP_nz (cq_pos h2 hi) (cq_Tp ht i).1, chN'_one h2, ⟨1, by decide, fun x => ?_⟩, fun i hi => ?_, ?_⟩, st⟩
  · show fnP (cq P 1) x = 1 * Go.Sturm.D (fnP P) x
    rw [fnP_D]
    show fnP (P.1 - 1, dsl P.2) x = _
    grind
  · obtain ⟨a, b, Q, h1, h3, h4, h5⟩ := st i hi
    exact ⟨a, b, Q, h1, by grind, h4, h5⟩
  · have h1 := chN'_one h2
    obtain ⟨c, Q, h3, h4, h5⟩ := cq_step h2 hc ht (i := chN' P - 1) (by omega)
    refine ⟨c, Q, h3, h4, fun x => ?_⟩
    have h6 := h5 x
    rw [show chN' P - 1 + 2 = chN' P + 1 by omega, show chN' P - 1 + 1 = chN' P by omega] at h6
    have e : fnP (cq P (chN' P + 1)) x = 0 := by
      show hq _ x 0 (cq P (chN' P + 1)).1 = 0
      rw [(chN'_ok P).2.2]
      rfl
    rw [e] at h6
    rw [← h6]
    grind
omit h2 hc ht in
theorem cgC_cnt {s : Nat → Int} (h0 : s 0 ≠ 0) : ∀ k, cgC s (k + 1) = cnt s 0 k
  | 0 => by
    show 0 + (if s 0 = -0 then 1 else 0) = 0
    rw [if_neg (by simpa using h0)]
    rfl
  | k + 1 => by
    rw [Go.Sturm.cnt_snoc, Nat.zero_add]
    show cgC s (k + 1) + (if s (k + 1) = -s k then 1 else 0) = cnt s 0 k + (if s (k + 1) = -s k then 1 else 0)
    rw [cgC_cnt h0 k]
omit hc in
theorem rtN_eq (a : Int) : rtN P a = cA (fun i => fnP (cq P i)) (chN' P) (a : Rat) := by
  have h0 : sgSd (-1) (cq P 0) a ≠ 0 := by rcases sgSd_one (cq_pos h2 (Nat.zero_le _)) (cq_Tp ht 0).1 (Or.inr rfl) a with e | e <;> rw [e] <;> decide
  show cgC (fun q => sgSd (-1) (cq P q) a) (chN' P + 1) = _
  rw [cgC_cnt h0]
  exact Go.Sturm.cnt_congr fun i _ hi => sgSd_A (cq_pos h2 (by omega)) (cq_Tp ht i).1 a
omit hc in
theorem rtC_eq (a : Int) : rtC P a = cB (fun i => fnP (cq P i)) (chN' P) (a : Rat) := by
  have h0 : sgSd 1 (cq P 0) a ≠ 0 := by rcases sgSd_one (cq_pos h2 (Nat.zero_le _)) (cq_Tp ht 0).1 (Or.inl rfl) a with e | e <;> rw [e] <;> decide
  show cgC (fun q => sgSd 1 (cq P q) a) (chN' P + 1) = _
  rw [cgC_cnt h0]
  exact Go.Sturm.cnt_congr fun i _ hi => sgSd_B (cq_pos h2 (by omega)) (cq_Tp ht i).1 a
theorem rt_mono {a b : Int} (h : a ≤ b) : rtN P b ≤ rtN P a := by
  rw [rtN_eq h2 ht, rtN_eq h2 ht]
  exact (cq_chain h2 hc ht).mono (Rat.intCast_le_intCast.2 h)
theorem rt_down {a b : Int} (h : a < b) : rtN P b ≤ rtC P a := by
  rw [rtN_eq h2 ht, rtC_eq h2 ht]
  exact (cq_chain h2 hc ht).down (Rat.intCast_lt_intCast.2 h)
theorem rt_ab (a : Int) : rtN P a = rtC P a + if hor P.2 a 0 P.1 = 0 then 1 else 0 := by
  rw [rtN_eq h2 ht, rtC_eq h2 ht, (cq_chain h2 hc ht).ab]
  have e : fnP (cq P 0) (a : Rat) = ((hor P.2 a 0 P.1 : Int) : Rat) := hq_hor _ _ _ _
  rw [e]
  by_cases h : hor P.2 a 0 P.1 = 0
  · rw [if_pos h, if_pos (by rw [h]; rfl)]
  · rw [if_neg h, if_neg (cast_ne h)]
theorem rt_same {a b : Int} (h : a ≤ b) (e : rtN P a = rtN P b) : sgSd (-1) P a = sgSd (-1) P b := by
  rw [rtN_eq h2 ht, rtN_eq h2 ht] at e
  rw [sgSd_A (show 0 < P.1 by omega) ht, sgSd_A (show 0 < P.1 by omega) ht]
  exact (cq_chain h2 hc ht).same (Rat.intCast_le_intCast.2 h) e
omit hc in
theorem sgSd_of {a : Int} (h : hor P.2 a 0 P.1 ≠ 0) : sgSd (-1) P a = (hor P.2 a 0 P.1).sign := by
  rw [sgSd_A (show 0 < P.1 by omega) ht]
  have hF : FirstAt (fnP P) (a : Rat) 0 := ⟨fun j hj => by omega, by rw [fnP_at]; exact cast_ne h⟩
  rw [Go.Sturm.SA_of hF, fnP_at, sg_cast]
  show _ * 1 = _
  rw [Int.mul_one]
  rfl
end
end Go.Proofs.Ytgijfbcfajhmlaa

namespace Go.Proofs.Ytgijfbcfajhmlaa
open Go.Gv

/-- Each place as often as the count falls there. -/
def can (N : Int → Int) : Int → Nat → List Int
  | _, 0 => []
  | a, d + 1 => List.replicate (N a - N (a + 1)).toNat a ++ can N (a + 1) d
theorem can_app (N : Int → Int) : ∀ d a e, can N a (d + e) = can N a d ++ can N (a + (d : Nat)) e
  | 0, a, e => by
    rw [Nat.zero_add]
    show can N a e = [] ++ can N (a + ((0 : Nat) : Int)) e
    rw [List.nil_append]
    congr 1
    omega
  | d + 1, a, e => by
    rw [show d + 1 + e = d + e + 1 by omega]
    show _ ++ can N (a + 1) (d + e) = (_ ++ can N (a + 1) d) ++ _
    rw [can_app N d (a + 1) e, List.append_assoc, show a + ((d + 1 : Nat) : Int) = a + 1 + (d : Nat) by omega]
theorem can_nil {N : Int → Int} : ∀ (d : Nat) (a : Int), (∀ y, a ≤ y → y < a + (d : Nat) → N y = N (y + 1)) → can N a d = []
  | 0, _, _ => rfl
  | d + 1, a, h => by
    show List.replicate (N a - N (a + 1)).toNat a ++ can N (a + 1) d = []
    rw [can_nil d (a + 1) fun y h1 h2 => h y (by omega) (by omega), h a (by omega) (by omega), Int.sub_self]
    rfl
theorem can_flat {N : Int → Int} {a : Int} {d : Nat} (mono : ∀ x y, a ≤ x → x ≤ y → y ≤ a + (d : Nat) → N y ≤ N x) (h : N a = N (a + (d : Nat))) : can N a d = [] := can_nil d a fun y h1 h2 => by
  have m1 := mono a y (by omega) h1 (by omega)
  have m2 := mono y (y + 1) h1 (by omega) (by omega)
  have m3 := mono (y + 1) (a + (d : Nat)) (by omega) (by omega) (by omega)
  omega
theorem can_one {N : Int → Int} {a q : Int} {d : Nat} (mono : ∀ x y, a ≤ x → x ≤ y → y ≤ a + (d : Nat) → N y ≤ N x) (h : N a - N (a + (d : Nat)) = 1) (h1 : a ≤ q) (h2 : q < a + (d : Nat)) (hq : N q ≠ N (q + 1)) : can N a d = [q] := by
  have m1 := mono a q (by omega) h1 (by omega)
  have m2 := mono q (q + 1) h1 (by omega) (by omega)
  have m3 := mono (q + 1) (a + (d : Nat)) (by omega) (by omega) (by omega)
  obtain ⟨k, hk⟩ : ∃ k : Nat, q = a + (k : Nat) := ⟨(q - a).toNat, by omega⟩
  have ed : d = k + (1 + (d - k - 1)) := by omega
  have e1 : can N a k = [] := can_flat (fun x y g1 g2 g3 => mono x y g1 g2 (by omega)) (by rw [← hk]; omega)
  have e2 : can N (q + 1) (d - k - 1) = [] := can_flat (fun x y g1 g2 g3 => mono x y (by omega) g2 (by omega)) (by rw [show q + 1 + ((d - k - 1 : Nat) : Int) = a + (d : Nat) by omega]; omega)
  rw [ed, can_app, e1, can_app, ← hk]
  show [] ++ ((List.replicate (N q - N (q + 1)).toNat q ++ []) ++ can N (q + ((1 : Nat) : Int)) (d - k - 1)) = [q]
  rw [show q + ((1 : Nat) : Int) = q + 1 from rfl, e2, show (N q - N (q + 1)).toNat = 1 by omega]
  rfl
theorem mem_can {N : Int → Int} {y : Int} : ∀ {d a}, y ∈ can N a d ↔ a ≤ y ∧ y < a + (d : Nat) ∧ 0 < N y - N (y + 1)
  | 0, a => ⟨fun h => absurd h (by simp [can]), fun h => by omega⟩
  | d + 1, a => by
    show y ∈ List.replicate (N a - N (a + 1)).toNat a ++ can N (a + 1) d ↔ _
    rw [List.mem_append, List.mem_replicate, mem_can (d := d)]
    constructor
    · rintro (⟨h1, rfl⟩ | ⟨h1, h2, h3⟩)
      · exact ⟨by omega, by omega, by omega⟩
      · exact ⟨by omega, by omega, h3⟩
    · rintro ⟨h1, h2, h3⟩
      by_cases e : y = a
      · subst e; exact Or.inl ⟨by omega, rfl⟩
      · exact Or.inr ⟨by omega, by omega, h3⟩
theorem can_sorted (N : Int → Int) : ∀ d a, (can N a d).Pairwise (· ≤ ·)
  | 0, _ => List.Pairwise.nil
  | d + 1, a => by
    show (List.replicate (N a - N (a + 1)).toNat a ++ can N (a + 1) d).Pairwise _
    rw [List.pairwise_append]
    refine ⟨List.pairwise_replicate.2 (Or.inr (Int.le_refl _)), can_sorted N d (a + 1), fun x hx y hy => ?_⟩
    have := (List.mem_replicate.1 hx).2
    have := (mem_can.1 hy).1
    omega
/-! ### What single and seek give -/
theorem sgi_sg {S : Int → Int} {s : Int} : ∀ j p, S p.1 = s → S p.2 ≠ s → S (sgi S s j p).1 = s ∧ S (sgi S s j p).2 ≠ s
  | 0, _, h1, h2 => ⟨h1, h2⟩
  | j + 1, p, h1, h2 => by
    obtain ⟨g1, g2⟩ := sgi_sg j p h1 h2
    rw [sgi_succ]
    unfold sgs
    by_cases h : S (mdI (sgi S s j p).1 (sgi S s j p).2) = s
    · rw [if_pos h]; exact ⟨h, g2⟩
    · rw [if_neg h]; exact ⟨g1, h⟩
theorem sgl_ok {S : Int → Int} {a b : Int} (hab : a < b) (hne : S a ≠ S b) : a ≤ sgl S (S a) a b ∧ sgl S (S a) a b < b ∧ S (sgl S (S a) a b) ≠ S (sgl S (S a) a b + 1) := by
  obtain ⟨h1, h2, h3⟩ := sgn_ok S (S a) (b - a).toNat (a, b) hab (Nat.le_refl _)
  obtain ⟨g1, g2, g3⟩ := h3 _ (Nat.le_refl _)
  obtain ⟨k1, k2⟩ := sgi_sg (S := S) (s := S a) (sgn S (S a) (b - a).toNat (a, b)) (a, b) rfl (Ne.symm hne)
  have e : sgl S (S a) a b = (sgi S (S a) (sgn S (S a) (b - a).toNat (a, b)) (a, b)).1 := rfl
  replace g1 : a ≤ (sgi S (S a) (sgn S (S a) (b - a).toNat (a, b)) (a, b)).1 := g1
  replace g2 : (sgi S (S a) (sgn S (S a) (b - a).toNat (a, b)) (a, b)).2 ≤ b := g2
  rw [e]
  refine ⟨g1, by omega, ?_⟩
  rw [k1, show (sgi S (S a) (sgn S (S a) (b - a).toNat (a, b)) (a, b)).1 + 1 = (sgi S (S a) (sgn S (S a) (b - a).toNat (a, b)) (a, b)).2 by omega]
  exact Ne.symm k2
theorem skL_can {N S : Int → Int} {lo hi : Int} (mono : ∀ x y, lo ≤ x → x ≤ y → y ≤ hi → N y ≤ N x) (same : ∀ x y, lo ≤ x → x ≤ y → y ≤ hi → N x = N y → S x = S y) : ∀ d a b, lo ≤ a → a ≤ b → b ≤ hi → b - a ≤ (d : Nat) → skL N S (d + 1) a b = can N a (b - a).toNat := by
  intro d
  induction d with
  | zero =>
    intro a b h1 h2 h3 h4
    have e : a = b := by omega
    subst e
    show (if N a = N a then [] else _) = _
    rw [if_pos rfl, show (a - a).toNat = 0 by omega]
    rfl
  | succ d ih =>
    intro a b h1 h2 h3 h4
    have eb : a + (((b - a).toNat : Nat) : Int) = b := by omega
    have mono' : ∀ x y, a ≤ x → x ≤ y → y ≤ a + (((b - a).toNat : Nat) : Int) → N y ≤ N x := fun x y g1 g2 g3 => mono x y (by omega) g2 (by omega)
    show (if N a = N b then [] else if b - a = 1 then List.replicate (N a - N b).toNat a else if N a - N b = 1 ∧ S a ≠ S b then [sgl S (S a) a b] else skL N S (d + 1) a (mdI a b) ++ skL N S (d + 1) (mdI a b) b) = _
    by_cases c1 : N a = N b
    · rw [if_pos c1, can_flat mono' (by rw [eb]; exact c1)]
    rw [if_neg c1]
    by_cases c2 : b - a = 1
    · rw [if_pos c2, c2]
      show _ = List.replicate (N a - N (a + 1)).toNat a ++ []
      rw [List.append_nil, show a + 1 = b by omega]
    rw [if_neg c2]
    have hlt : a < b := by
      rcases Int.lt_or_le a b with h | h
      · exact h
      · exact absurd (by rw [show a = b by omega]) c1
    by_cases c3 : N a - N b = 1 ∧ S a ≠ S b
    · rw [if_pos c3]
      obtain ⟨q1, q2, q3⟩ := sgl_ok hlt c3.2
      exact (can_one mono' (by rw [eb]; exact c3.1) q1 (by omega) fun e => q3 (same _ _ (by omega) (by omega) (by omega) e)).symm
    rw [if_neg c3]
    have hm : a < mdI a b ∧ mdI a b < b := by unfold mdI; omega
    rw [ih a (mdI a b) h1 (by omega) (by omega) (by omega), ih (mdI a b) b (by omega) (by omega) h3 (by omega)]
    rw [show (b - a).toNat = (mdI a b - a).toNat + (b - mdI a b).toNat by omega, can_app]
    congr 2
    omega
/-- The code's places. -/
theorem plcP_can {p : Ply} (h2 : 2 ≤ p.1) (hc : Cn p.1 p.2) (ht : Tp p) {lo hi : Int} (hlh : lo ≤ hi) : plcP p lo hi = can (rtN (finP p)) lo (hi - lo).toNat ++ if rtN (finP p) hi > rtC (finP p) hi then [hi] else [] := by
  unfold plcP plcs
  rw [skL_can (fun x y _ h _ => rt_mono (P := finP p) h2 (fin_Cn hc) (fin_Tp ht) h) (fun x y _ h _ e => rt_same (P := finP p) h2 (fin_Cn hc) (fin_Tp ht) h e) _ lo hi (Int.le_refl _) hlh (Int.le_refl _) (by omega)]
/-- The code's Roots, with no premise. -/
theorem roots_spec {n : Nat} {p : Nat → Int} {lo hi : Int} (hn : n ≤ 4611686018427387904) (hc : Cn n p) : FSpec Try.prog 7 [sJ n p, iA lo, iA hi] (rtA (rtOut n p lo hi)) := by
  by_cases h2 : 2 ≤ tl p n
  · have ht : Tp (rtP n p) := by
      by_cases g : tl p n = 0
      · exact Or.inl g
      · exact Or.inr (tl_top p n g)
    exact ro_spec hn hc fun a b _ h _ => rt_mono (P := finP (rtP n p)) h2 (fin_Cn (tl_Cn hc)) (fin_Tp ht) h
  · refine ro_spec hn hc fun a b _ h _ => ?_
    have e1 : (finP (rtP n p)).1 = tl p n := rfl
    have hk : chN' (finP (rtP n p)) = 0 := by
      obtain ⟨g1, g2, g3⟩ := chN'_ok (finP (rtP n p))
      refine Decidable.byContradiction fun hh => ?_
      have := g2 0 (by omega)
      have e2 : (cq (finP (rtP n p)) 1).1 = tl p n - 1 := rfl
      rw [e2] at this
      omega
    unfold rtN Nsd
    rw [hk]
    have hz : ∀ s : Nat → Int, cgC s 1 = if s 0 = 0 then 1 else 0 := fun s => by
      show 0 + (if s 0 = -0 then 1 else 0) = _
      simp
    rw [hz, hz]
    by_cases h0 : tl p n = 0
    · have hs : ∀ x, sgSd (-1) (cq (finP (rtP n p)) 0) x = 0 := fun x => by
        show Int.sign (hv (finP (rtP n p)).2 (finP (rtP n p)).1 x (fnz (hv (finP (rtP n p)).2 (finP (rtP n p)).1 x) (finP (rtP n p)).1)) * _ = 0
        rw [e1, h0]
        have e3 : hv (finP (rtP n p)).2 0 x (fnz (hv (finP (rtP n p)).2 0 x) 0) = 0 := rfl
        rw [e3]
        exact Int.zero_mul _
      rw [hs, hs]
      exact Int.le_refl _
    · have ht : Tp (finP (rtP n p)) := fin_Tp (Or.inr (tl_top p n h0))
      have hs : ∀ x, sgSd (-1) (cq (finP (rtP n p)) 0) x ≠ 0 := fun x => by
        rcases sgSd_one (p := finP (rtP n p)) (show 0 < tl p n by omega) ht (Or.inr rfl) x with e | e
        · show sgSd (-1) (finP (rtP n p)) x ≠ 0; rw [e]; decide
        · show sgSd (-1) (finP (rtP n p)) x ≠ 0; rw [e]; decide
      rw [if_neg (hs _), if_neg (hs _)]
      exact Int.le_refl _
end Go.Proofs.Ytgijfbcfajhmlaa

namespace Go.Proofs.Ytgijfbcfajhmlaa
open Go.Gv
open Go.Em (wB wB_pos wB_eq nw nw_lt nw_le nw_zero nw_mul_le nw_add_le nw_mono)

def I64 (x : Int) : Prop := -9223372036854775808 ≤ x ∧ x ≤ 9223372036854775807
theorem nw_of {x : Int} (h : I64 x) : nw (bOf x).2 ≤ 4 := nw_le (by
  show x.natAbs < wB ^ 4
  have := h.1
  have := h.2
  rw [wB_eq]
  omega)
def a6V : Nat → Bg
  | 0 => bOf 1
  | k + 1 => bmul (a6V k) (bOf 65536)
def a6U (n : Nat) (p : Nat → Int) (x : Int) : Nat → Bg
  | 0 => bOf 0
  | k + 1 => badd (bmul (a6U n p x k) (bOf x)) (bmul (bOf (p (n - 1 - k))) (a6V k))
theorem a6m_eq (a b : Bg) : a6m a b = bmul a b := by unfold a6m; rw [decB_b, decB_b]
theorem a6a_eq (a b : Bg) : a6a a b = badd a b := by unfold a6a; rw [decB_b, decB_b]
theorem bv_V : ∀ k, bv (a6V k) = 65536 ^ k
  | 0 => rfl
  | k + 1 => by show bv (bmul (a6V k) (bOf 65536)) = _; rw [bv_mul, bv_V k, bv_of, Int.pow_succ]
theorem bv_U (n : Nat) (p : Nat → Int) (x : Int) : ∀ k, k ≤ n → bv (a6U n p x k) = hor (pfin p n) x (n - k) k
  | 0, _ => by show bv (bOf 0) = _; rw [bv_of]; simp only [hor]
  | k + 1, hk => by
    show bv (badd (bmul (a6U n p x k) (bOf x)) (bmul (bOf (p (n - 1 - k))) (a6V k))) = _
    rw [bv_add, bv_mul, bv_mul, bv_U n p x k (by omega), bv_of, bv_of, bv_V]
    simp only [hor]
    rw [show n - (k + 1) + 1 = n - k by omega]
    congr 1
    unfold pfin
    rw [show n - (k + 1) = n - 1 - k by omega, show n - 1 - (n - 1 - k) = k by omega]
theorem nw_bmul (a b : Bg) : nw (bmul a b).2 ≤ nw a.2 + nw b.2 := nw_mul_le a.2 b.2
theorem nw_badd {a b : Bg} {n : Nat} (ha : nw a.2 ≤ n) (hb : nw b.2 ≤ n) : nw (badd a b).2 ≤ n + 1 := by
  unfold badd
  split
  · exact nw_add_le ha hb
  · split
    · have := Go.Em.nw_mono (Nat.sub_le a.2 b.2); show nw (a.2 - b.2) ≤ _; omega
    · have := Go.Em.nw_mono (Nat.sub_le b.2 a.2); show nw (b.2 - a.2) ≤ _; omega
theorem nw_V : ∀ k, nw (a6V k).2 ≤ 4 * k + 4
  | 0 => nw_of ⟨by decide, by decide⟩
  | k + 1 => by
    have h1 := nw_bmul (a6V k) (bOf 65536)
    have h2 := nw_V k
    have h3 := nw_of (x := 65536) ⟨by decide, by decide⟩
    show nw (bmul (a6V k) (bOf 65536)).2 ≤ _
    omega
theorem nw_U {n : Nat} {p : Nat → Int} {x : Int} (hp : ∀ i, i < n → I64 (p i)) (hx : I64 x) : ∀ k, k ≤ n → nw (a6U n p x k).2 ≤ 9 * k + 9
  | 0, _ => by have := nw_of (x := 0) ⟨by decide, by decide⟩; show nw (bOf 0).2 ≤ _; omega
  | k + 1, hk => by
    have h1 := nw_bmul (a6U n p x k) (bOf x)
    have h2 := nw_U hp hx k (by omega)
    have h3 := nw_of hx
    have h4 := nw_bmul (bOf (p (n - 1 - k))) (a6V k)
    have h5 := nw_of (hp (n - 1 - k) (by omega))
    have h6 := nw_V k
    have := nw_badd (n := 9 * k + 13) (a := bmul (a6U n p x k) (bOf x)) (b := bmul (bOf (p (n - 1 - k))) (a6V k)) (by omega) (by omega)
    show nw (badd (bmul (a6U n p x k) (bOf x)) (bmul (bOf (p (n - 1 - k))) (a6V k))).2 ≤ _
    omega
theorem a6_spec {n : Nat} {p : Nat → Int} {x : Int} (hn : n ≤ 1000) (hp : ∀ i, i < n → I64 (p i)) (hx : I64 x) : FSpec Try.prog 13 [sJ n p, iA x] (iA (hor (pfin p n) x 0 n).sign) := by
  have ks : ∀ e, e ∈ bigK Try.prog → KOk Try.prog e := k_cons kS_ok (k_cons kS_ok (k_cons kS_ok k_nil))
  have of_pos : ∀ {m : Int} {o : Option Out}, I64 m → gOf m o = o := fun h => gate_pos (bo_spec h.1 h.2)
  have mul_pos : ∀ {a b : Bg} {o : Option Out}, nw a.2 + nw b.2 ≤ 900000 → gMul a b o = o := fun {a b o} h => by unfold gMul; rw [a6m_eq]; exact gate_pos (bm_spec (by omega))
  have add_pos : ∀ {a b : Bg} {o : Option Out}, nw a.2 ≤ 100000 → nw b.2 ≤ 100000 → gAdd a b o = o := fun {a b o} h1 h2 => by
    unfold gAdd
    rw [a6a_eq]
    have := nw_add_le h1 h2
    exact gate_pos (ba_spec (by omega) (by omega) (by omega))
  have i65 : I64 65536 := ⟨by decide, by decide⟩
  have lead : Leads Try.prog (.loop (loopAt Try.f13 0)) (a6S n p x ((n : Int) - 1 - ((0 : Nat) : Int)) (a6U n p x 0) (a6V 0)) (.exit 0) (a6S n p x ((n : Int) - 1 - (n : Nat)) (a6U n p x n) (a6V n)) := by
    refine loop_rule (fun k => a6S n p x ((n : Int) - 1 - (k : Nat)) (a6U n p x k) (a6V k)) n (.exit 0) _ (by simp) (fun k hk => ?_) ?_
    · have st := a6_step n p x ((n : Int) - 1 - (k : Nat)) (a6U n p x k) (a6V k)
      have e1 : (n : Int) - 1 - (k : Nat) = ((n - 1 - k : Nat) : Int) := by omega
      have e2 : w64 (((n - 1 - k : Nat) : Int) - 1) = (n : Int) - 1 - ((k + 1 : Nat) : Int) := by rw [w64_id (by omega) (by omega)]; omega
      have hq := hp (n - 1 - k) (by omega)
      have n1 := nw_U hp hx k (by omega)
      have n2 := nw_V k
      have n3 := nw_of hx
      have n4 := nw_of hq
      have n5 := nw_of i65
      have n6 := nw_bmul (a6U n p x k) (bOf x)
      have n7 := nw_bmul (bOf (p (n - 1 - k))) (a6V k)
      unfold a6T a6u a6v at st
      rw [e1, Int.toNat_natCast, decide_eq_true (show ((n - 1 - k : Nat) : Int) ≥ 0 by omega), of_pos hx, mul_pos (by omega), of_pos hq, mul_pos (by omega), a6m_eq, a6m_eq, add_pos (by omega) (by omega), ixB_t (by omega), of_pos i65, mul_pos (by omega), e2, a6a_eq, a6m_eq] at st
      rw [e1]
      exact leads_ev (finN_sub _ _) e_nil ks noL_ok st
    · refine leads_ev (finE_sub _ _) e_nil ks noL_ok ((a6_end n p x ((n : Int) - 1 - (n : Nat)) (a6U n p x n) (a6V n)).trans ?_)
      unfold a6T
      rw [decide_eq_false (by omega), cond_false]
  have hL := lok_at (c := bodyOf Try.f13) (i := 4) 0 1 (by kernel_rfl) (by kernel_rfl) (toldF_sound (keep := keepA6) (τ := [some 0, some 1]) lead)
  refine gspec e_nil (k_cons kS_ok ks) Try.func13 (by kernel_rfl) (by kernel_rfl) hL rfl ((a6_ev n p x ((n : Int) - 1 - ((0 : Nat) : Int)) _ (a6U n p x n) (a6V n) (hor (pfin p n) x 0 n).sign).trans ?_)
  have hb := bs_spec (a6U n p x n)
  rw [bv_U n p x n (Nat.le_refl _), Nat.sub_self] at hb
  rw [of_pos ⟨by decide, by decide⟩, of_pos ⟨by decide, by decide⟩, show w64 ((n : Int) - 1) = (n : Int) - 1 - ((0 : Nat) : Int) by rw [w64_id (by omega) (by omega)]; omega, gate_pos (Sub.refl _), gate_pos hb]
end Go.Proofs.Ytgijfbcfajhmlaa

namespace Go.Proofs.Ytgijfbcfajhmlaa
open Go.Gv
open Go.Em (wB wB_pos wB_eq nw nw_lt nw_le nw_zero nw_mul_le nw_add_le)

/-- No number has more parts than that. -/
def PB (n : Nat) (f : Nat → Bg) (B : Nat) : Prop := ∀ i, i < n → nw (f i).2 ≤ B
theorem bgZ_like {E : Env} {v : Value} (h : rel E (.agg bgZ) v) : rel E (bgA (false, 0)) v := by
  obtain ⟨vs, h1, h2⟩ := rel_agg.1 h
  refine rel_agg.2 ⟨vs, h1, ?_⟩
  obtain ⟨u0, t0, e0, r0, h2⟩ := rels_cons.1 h2
  obtain ⟨u1, t1, e1, r1, h2⟩ := rels_cons.1 h2
  refine rels_cons.2 ⟨u0, t0, e0, r0, rels_cons.2 ⟨u1, t1, e1, ?_, h2⟩⟩
  show rel E (sJ (nw 0) (mI 0)) u1
  rw [nw_zero]
  exact nil_like r1
theorem ba_specZ {y : Bg} (hy : nw y.2 ≤ 1000000000000) : FSpec Try.prog 28 [.agg bgZ, bgA y] (bgA (badd (false, 0) y)) := by
  have h : FSpec Try.prog 28 [bgA (false, 0), bgA y] (bgA (badd (false, 0) y)) := ba_spec (by rw [nw_zero]; omega) (by omega) (by rw [Nat.zero_add]; omega)
  refine FSpec.of_args h fun E vs hr => ?_
  obtain ⟨u0, t0, e0, r0, hr⟩ := rels_cons.1 hr
  exact rels_cons.2 ⟨u0, t0, e0, bgZ_like r0, hr⟩
theorem ba_specN {x y : Bg} (hx : nw x.2 ≤ 1000000000000) (hy : nw y.2 ≤ 1000000000000) : FSpec Try.prog 28 [bgA x, bgA y] (bgA (badd x y)) := by
  have := nw_add_le hx hy
  exact ba_spec (by omega) (by omega) (by omega)
theorem mixBg (b : Bool) (x y : Bg) : mixL b (bgc x) (bgc y) = bgc (cond b x y) := by
  unfold bgc bA msA sJ iA
  cases b <;> simp only [mixL, mixA, decide_true, cond_true, cond_false, Nat.beq_refl]
theorem app_b {g : Nat → Bg} {m q : Nat} {v : Bg} (hq : q < m + 1) (hv : g m = v) : mixL (Nat.blt q m) (bgc (g q)) (bgc v) = bgc (g q) := by
  rw [mixBg]
  cases h : Nat.blt q m
  · have := not_blt h
    have : q = m := by omega
    subst this
    rw [hv]
    rfl
  · rfl
/-! ### Sums -/
def padB (n : Nat) (f : Nat → Bg) (m : Nat) (g : Nat → Bg) (i : Nat) : Bg := if i < n then (if i < m then badd (f i) (g i) else f i) else badd (false, 0) (g i)
theorem pa_leads {n : Nat} {f : Nat → Bg} {m : Nat} {g : Nat → Bg} {B : Nat} (hn : n ≤ 1000) (hm : m ≤ 1000) (hB : B ≤ 100000000000) (hf : PB n f B) (hg : PB m g B) : Leads Try.prog (.loop (loopAt Try.f26 0)) (paS n f m g 0 0 fun q => bgc (padB n f m g q)) (.exit 0) (paS n f m g (max n m : Nat) (max n m) fun q => bgc (padB n f m g q)) := by
  refine loop_rule (fun i => paS n f m g (i : Nat) i fun q => bgc (padB n f m g q)) (max n m) (.exit 0) _ (by simp) (fun i hi => ?_) ?_
  · have st := pa_step n f m g (i : Nat) i fun q => bgc (padB n f m g q)
    have e : evC Try.prog [] [kS Try.prog 28 baG] noL (loopAt Try.f26 0) (paS n f m g (i : Nat) i fun q => bgc (padB n f m g q)) (finN keepPA [some 3]) = some ⟨.normal, paS n f m g ((i + 1 : Nat) : Int) (i + 1) (fun q => mixL (Nat.blt q i) (bgc (padB n f m g q)) (bgc (padB n f m g i))), .any⟩ := by
      rw [st]
      unfold paT paM paN
      rw [apB_t (by omega), w64_next (by omega), Int.toNat_natCast, decB_b]
      by_cases h1 : i < n
      · have b1 := hf i h1
        rw [dec_lt h1, ixB_t h1, show decC (bgc (f i)) = f i from decB_b (f i)]
        by_cases h2 : i < m
        · have b2 := hg i h2
          rw [dec_lt h2, ixB_t h2, gate_pos (show FSpec Try.prog 28 [.agg (bgc (f i)), bgA (g i)] (bgA (badd (f i) (g i))) from ba_specN (by omega) (by omega)), show padB n f m g i = badd (f i) (g i) by unfold padB; rw [if_pos h1, if_pos h2]]
          rfl
        · rw [show decide (((i : Nat) : Int) < ((m : Nat) : Int)) = false from decide_eq_false (by omega), show padB n f m g i = f i by unfold padB; rw [if_pos h1, if_neg h2]]
          rfl
      · have h2 : i < m := by omega
        have b2 := hg i h2
        rw [show decide (((i : Nat) : Int) < ((n : Nat) : Int)) = false from decide_eq_false (by omega), dec_lt h2, ixB_t h2, show decC bgZ = (false, 0) from rfl, gate_pos (ba_specZ (y := g i) (by omega)), show padB n f m g i = badd (false, 0) (g i) by unfold padB; rw [if_neg h1]]
        rfl
    refine (leads_ev (finN_sub _ _) e_nil (k_cons kS_ok k_nil) noL_ok e).sub (Sub.refl _) ?_
    exact sub_same ⟨Or.inr ⟨44, 2, i + 1, _, _, rfl, rfl, fun q hq => (app_b hq rfl).symm ▸ rfl⟩, trivial⟩
  · refine leads_ev (finE_sub _ _) e_nil (k_cons kS_ok k_nil) noL_ok ((pa_end n f m g (max n m : Nat) (max n m) _).trans ?_)
    unfold paT
    rw [show decide (((max n m : Nat) : Int) < ((n : Nat) : Int)) = false from decide_eq_false (by omega), show decide (((max n m : Nat) : Int) < ((m : Nat) : Int)) = false from decide_eq_false (by omega)]
    rfl
theorem pa_spec {n : Nat} {f : Nat → Bg} {m : Nat} {g : Nat → Bg} {B : Nat} (hn : n ≤ 1000) (hm : m ≤ 1000) (hB : B ≤ 100000000000) (hf : PB n f B) (hg : PB m g B) : FSpec Try.prog 26 [bpA n f, bpA m g] (bpA (btl (padB n f m g) (max n m)) (padB n f m g)) := by
  have hL := lok_hd (c := bodyOf Try.f26) (i := 3) 0 (by kernel_rfl) (by kernel_rfl) (toldN_sound (keep := keepPA) (nils := [(5, 0, 2)]) (nr := .a 44 2 0 fun q => bgc (padB n f m g q)) (τ := [none]) (pa_leads hn hm hB hf hg))
  refine gspecZ (oneZ_ok (frzK_ok 0)) e_nil (k_cons kS_ok (k_cons kS_ok k_nil)) m_nil Try.func26 (by kernel_rfl) (by kernel_rfl) hL rfl ((pa_ev n f m g (max n m) (padB n f m g) (max n m : Nat) (btl (padB n f m g) (max n m)) (padB n f m g)).trans ?_)
  rw [gate_pos (Sub.refl _), fz1_t, gate_pos (pc_spec (padB n f m g) (by omega))]
  rfl
/-! ### Multiples -/
theorem bm_specN {x y : Bg} (hx : nw x.2 ≤ 1000000000000) (hy : nw y.2 ≤ 1000000000000) : FSpec Try.prog 27 [bgA x, bgA y] (bgA (bmul x y)) := bm_spec (by omega)
theorem gMul_pos {a b : Bg} {o : Option Out} (ha : nw a.2 ≤ 1000000000000) (hb : nw b.2 ≤ 1000000000000) : gMul a b o = o := by unfold gMul; rw [a6m_eq]; exact gate_pos (bm_specN ha hb)
theorem gOf_pos {m : Int} {o : Option Out} (h : I64 m) : gOf m o = o := gate_pos (bo_spec h.1 h.2)
theorem bigK_ok : ∀ e, e ∈ bigK Try.prog → KOk Try.prog e := k_cons kS_ok (k_cons kS_ok (k_cons kS_ok k_nil))
def pbyB (f : Nat → Bg) (k : Bg) (i : Nat) : Bg := bmul (f i) k
theorem pb_leads {n : Nat} {f : Nat → Bg} {k : Bg} {B : Nat} (hn : n ≤ 1000) (hB : B ≤ 100000000000) (hf : PB n f B) (hk : nw k.2 ≤ B) : Leads Try.prog (.loop (loopAt Try.f30 0)) (pbS n f k 0 0 fun q => bgc (pbyB f k q)) (.exit 0) (pbS n f k (n : Nat) n fun q => bgc (pbyB f k q)) := by
  refine loop_rule (fun i => pbS n f k (i : Nat) i fun q => bgc (pbyB f k q)) n (.exit 0) _ (by simp) (fun i hi => ?_) ?_
  · have st := pb_step n f k (i : Nat) i fun q => bgc (pbyB f k q)
    have b1 := hf i hi
    unfold pbT at st
    rw [dec_lt hi, Int.toNat_natCast, gMul_pos (by omega) (by omega), ixB_t hi, apB_t (by omega), w64_next (by omega), a6m_eq] at st
    refine (leads_ev (finN_sub _ _) e_nil bigK_ok noL_ok st).sub (Sub.refl _) ?_
    exact sub_same ⟨Or.inl rfl, Or.inr ⟨44, 2, i + 1, _, _, rfl, rfl, fun q hq => (app_b hq rfl).symm ▸ rfl⟩, trivial⟩
  · refine leads_ev (finE_sub _ _) e_nil bigK_ok noL_ok ((pb_end n f k (n : Nat) n _).trans ?_)
    unfold pbT
    rw [dec_self, cond_false]
theorem pb_spec {n : Nat} {f : Nat → Bg} {k : Bg} {B : Nat} (hn : n ≤ 1000) (hB : B ≤ 100000000000) (hf : PB n f B) (hk : nw k.2 ≤ B) : FSpec Try.prog 30 [bpA n f, bgA k] (bpA (btl (pbyB f k) n) (pbyB f k)) := by
  have hL := lok_hd (c := bodyOf Try.f30) (i := 3) 0 (by kernel_rfl) (by kernel_rfl) (toldN_sound (keep := keepPB) (nils := [(5, 1, 2)]) (nr := .a 44 2 0 fun q => bgc (pbyB f k q)) (τ := [some 0, none]) (pb_leads hn hB hf hk))
  refine gspecZ (oneZ_ok (frzK_ok 1)) e_nil (k_cons kS_ok bigK_ok) m_nil Try.func30 (by kernel_rfl) (by kernel_rfl) hL rfl ((pb_ev n f k n (pbyB f k) (n : Nat) (btl (pbyB f k) n) (pbyB f k)).trans ?_)
  rw [gate_pos (Sub.refl _), fz1_t, gate_pos (pc_spec (pbyB f k) (by omega))]
  rfl
/-! ### Slopes -/
def pslB (f : Nat → Bg) (i : Nat) : Bg := bmul (f (i + 1)) (bOf ((i + 1 : Nat) : Int))
theorem ps_leads {n : Nat} {f : Nat → Bg} {B : Nat} (hn : n ≤ 1000) (hB : B ≤ 100000000000) (hf : PB n f B) : Leads Try.prog (.loop (loopAt Try.f57 0)) (psS n f 1 0 fun q => bgc (pslB f q)) (.exit 0) (psS n f ((n - 1 + 1 : Nat) : Int) (n - 1) fun q => bgc (pslB f q)) := by
  have key : Leads Try.prog (.loop (loopAt Try.f57 0)) (psS n f ((0 + 1 : Nat) : Int) 0 fun q => bgc (pslB f q)) (.exit 0) (psS n f ((n - 1 + 1 : Nat) : Int) (n - 1) fun q => bgc (pslB f q)) := by
    refine loop_rule (fun i => psS n f ((i + 1 : Nat) : Int) i fun q => bgc (pslB f q)) (n - 1) (.exit 0) _ (by simp) (fun i hi => ?_) ?_
    · have st := ps_step n f ((i + 1 : Nat) : Int) i fun q => bgc (pslB f q)
      have b1 := hf (i + 1) (by omega)
      have hI : I64 ((i + 1 : Nat) : Int) := ⟨by omega, by omega⟩
      have b2 := nw_of hI
      unfold psT at st
      rw [dec_lt (show i + 1 < n by omega), Int.toNat_natCast, gOf_pos hI, gMul_pos (by omega) (by omega), ixB_t (show i + 1 < n by omega), apB_t (by omega), w64_next (by omega), a6m_eq] at st
      refine (leads_ev (finN_sub _ _) e_nil bigK_ok noL_ok st).sub (Sub.refl _) ?_
      exact sub_same ⟨Or.inr ⟨44, 2, i + 1, _, _, rfl, rfl, fun q hq => (app_b hq rfl).symm ▸ rfl⟩, trivial⟩
    · refine leads_ev (finE_sub _ _) e_nil bigK_ok noL_ok ((ps_end n f ((n - 1 + 1 : Nat) : Int) (n - 1) _).trans ?_)
      unfold psT
      rw [decide_eq_false (by omega), cond_false]
  exact key
theorem ps_spec {n : Nat} {f : Nat → Bg} {B : Nat} (hn : n ≤ 1000) (hB : B ≤ 100000000000) (hf : PB n f B) : FSpec Try.prog 57 [bpA n f] (bpA (btl (pslB f) (n - 1)) (pslB f)) := by
  have hL := lok_hd (c := bodyOf Try.f57) (i := 3) 0 (by kernel_rfl) (by kernel_rfl) (toldN_sound (keep := keepPS) (nils := [(3, 0, 2)]) (nr := .a 44 2 0 fun q => bgc (pslB f q)) (τ := [none]) (ps_leads hn hB hf))
  refine gspecZ (oneZ_ok (frzK_ok 0)) e_nil (k_cons kS_ok bigK_ok) m_nil Try.func57 (by kernel_rfl) (by kernel_rfl) hL rfl ((ps_ev n f (n - 1) (pslB f) ((n - 1 + 1 : Nat) : Int) (btl (pslB f) (n - 1)) (pslB f)).trans ?_)
  rw [gate_pos (Sub.refl _), fz1_t, gate_pos (pc_spec (pslB f) (by omega))]
  rfl
end Go.Proofs.Ytgijfbcfajhmlaa

namespace Go.Gv

def SlotLike (x y : AV × Chain) : Prop := x.2 = [] ∧ y.2 = [] ∧ ∀ (E : Env) (v : Value), rel E x.1 v → rel E y.1 v
theorem SlotLike.same (x : AV) : SlotLike (x, []) (x, []) := ⟨rfl, rfl, fun _ _ h => h⟩
def SlotsLike : List (AV × Chain) → List (AV × Chain) → Prop
  | [], [] => True
  | x :: xs, y :: ys => SlotLike x y ∧ SlotsLike xs ys
  | _, _ => False
theorem slots_like : ∀ {xs ys : List (AV × Chain)}, SlotsLike xs ys → ys.length = xs.length ∧ ∀ t, SlotLike (xs.getD t dflt) (ys.getD t dflt)
  | [], [], _ => ⟨rfl, fun _ => ⟨rfl, rfl, fun _ _ h => h⟩⟩
  | x :: xs, y :: ys, h => by
    obtain ⟨h1, h2⟩ := slots_like (xs := xs) (ys := ys) h.2
    refine ⟨by simp [h1], fun t => ?_⟩
    cases t with
    | zero => exact h.1
    | succ t => exact h2 t
  | [], _ :: _, h => h.elim
  | _ :: _, [], h => h.elim
theorem sub_slots {np : Nat} {sl sl' : List (AV × Chain)} {mem : List Row} (h : SlotsLike sl sl') : SubN np ⟨sl, mem⟩ ⟨sl', mem⟩ := by
  obtain ⟨hl, hs⟩ := slots_like h
  intro A0 R w0 E a hp hI
  refine ⟨E, rfl, hI.defers, ?_, hI.wd⟩
  have hf := hI.frame
  refine ⟨⟨by rw [hf.1.1]; exact hl.symm, hf.1.2⟩, fun t => ?_⟩
  have h0 := hf.2 t
  obtain ⟨h1, h2, h3⟩ := hs t
  have h1' : (sl.getD t dflt).2 = [] := h1
  have h2' : (sl'.getD t dflt).2 = [] := h2
  show (tru sl' (sl'.getD t dflt).2 = true → _) ∧ (tru sl' (sl'.getD t dflt).2 = false → _)
  rw [h2']
  refine ⟨fun _ => h3 E _ (h0.1 ?_), fun h' => by cases h'⟩
  show tru sl (sl.getD t dflt).2 = true
  rw [h1']
  rfl
theorem slotsLike_map {f g : Nat → AV × Chain} (h : ∀ i, SlotLike (f i) (g i)) : ∀ l : List Nat, SlotsLike (l.map f) (l.map g)
  | [] => trivial
  | i :: l => ⟨h i, slotsLike_map h l⟩
/-- The last slot that is told, told more weakly. -/
theorem sub_mk1 {np n k : Nat} {l : List (Nat × AV)} {x y : AV} {mem : List Row} (h : ∀ (E : Env) (v : Value), rel E x v → rel E y v) : SubN np (mkS n (l ++ [(k, x)]) mem) (mkS n (l ++ [(k, y)]) mem) := by
  refine sub_slots (slotsLike_map (fun i => ?_) _)
  refine ⟨rfl, rfl, fun E v hv => ?_⟩
  simp only [List.find?_append] at hv ⊢
  cases hf : l.find? (fun p => Nat.beq p.1 i) with
  | some p => rw [hf] at hv; exact hv
  | none =>
    rw [hf] at hv
    simp only [Option.none_or, List.find?_cons, List.find?_nil] at hv ⊢
    cases hb : Nat.beq k i with
    | true => rw [hb] at hv; exact h E v hv
    | false => rw [hb] at hv; exact hv
end Go.Gv

namespace Go.Proofs.Ytgijfbcfajhmlaa
open Go.Gv
open Go.Em (wB wB_pos wB_eq nw nw_lt nw_le nw_zero)

/-! ### Products -/
def pmI (n : Nat) (f : Nat → Bg) (m : Nat) (g : Nat → Bg) (N : Nat) (i j : Int) (Y : Nat → List AV) : St := mkS 51 [(0, bpA n f), (1, bpA m g), (5, .osl 0 2 0 N), (6, iA i), (7, iA j)] [.a 44 2 N Y]
def keepPMI : List Nat := [0, 1, 5, 6, 7]
def pmO (n : Nat) (f : Nat → Bg) (m : Nat) (g : Nat → Bg) (N : Nat) (i : Int) (Y : Nat → List AV) : St := mkS 51 [(0, bpA n f), (1, bpA m g), (5, .osl 0 2 0 N), (6, iA i)] [.a 44 2 N Y]
def keepPMO : List Nat := [0, 1, 5, 6]
section
variable (n : Nat) (f : Nat → Bg) (m : Nat) (g : Nat → Bg) (N : Nat) (i j : Int) (y : Nat → Bg)
def pmK : Nat := (w64 (i + j)).toNat
def pmV : Bg := a6a (y (0 + pmK i j)) (a6m (f i.toNat) (g j.toNat))
noncomputable def pmT (x z : Option Out) : Option Out := cond (decide (j < (m : Int))) (gMul (f i.toNat) (g j.toNat) (cond ((ixB i n || false) && ((ixB j m || false) && true)) (gAdd (y (0 + pmK i j)) (a6m (f i.toNat) (g j.toNat)) (cond ((ixB (w64 (i + j)) N || false) && (stU (pmK i j) N && stB (w64 (i + j)) N)) x none)) none)) z
theorem pmI_step : evC Try.prog [] (bigK Try.prog) noL (loopAt Try.f24 1) (pmI n f m g N i j fun q => bgc (y q)) (finN keepPMI [some 0]) = pmT n f m g N i j y (some ⟨.normal, pmI n f m g N i (w64 (j + 1)) fun q => mixL (q == 0 + pmK i j) (bgc (pmV f g i j y)) (bgc (y q)), .any⟩) none := by kernel_rfl
theorem pmI_end : evC Try.prog [] (bigK Try.prog) noL (loopAt Try.f24 1) (pmI n f m g N i j fun q => bgc (y q)) (finE keepPMI [some 0]) = pmT n f m g N i j y none (some ⟨.exit 2, pmI n f m g N i j fun q => bgc (y q), .any⟩) := by kernel_rfl
noncomputable def pmL (y1 : Nat → Bg) : Nat → Option LFun := oneL 6 (toldF keepPMI [some 0] (pmI n f m g N i 0 fun q => bgc (y q)) (.exit 2) (pmI n f m g N i (m : Nat) fun q => bgc (y1 q)))
theorem pmO_step (y1 : Nat → Bg) : evC Try.prog [] [] (pmL n f m g N i y y1) (loopAt Try.f24 0) (pmO n f m g N i fun q => bgc (y q)) (finN keepPMO [some 0]) = cond (decide (i < (n : Int))) (gate (Sub (pmI n f m g N i 0 fun q => bgc (y q)) (pmI n f m g N i 0 fun q => bgc (y q))) (some ⟨.normal, pmO n f m g N (w64 (i + 1)) fun q => bgc (y1 q), .any⟩)) none := by kernel_rfl
theorem pmO_end : evC Try.prog [] [] (oneL 6 fun _ _ => none) (loopAt Try.f24 0) (pmO n f m g N i fun q => bgc (y q)) (finE keepPMO [some 0]) = cond (decide (i < (n : Int))) none (some ⟨.exit 0, pmO n f m g N i fun q => bgc (y q), .any⟩) := by kernel_rfl
theorem pm_ev (k : Nat) (z : Nat → Bg) : evZ Try.prog [] [kS Try.prog 25 (fun _ => bpA k z)] [] (oneL 3 (toldF keepPMO [some 0] (pmO n f m g N 0 fun _ => bgc (false, 0)) (.exit 0) (pmO n f m g N (n : Nat) fun q => bgc (y q)))) (oneZ 10 (frzK 0)) Try.f24 [bpA n f, bpA m g] ret =
    cond (mk32 (w64 ((n : Int) + (m : Int))) || false) (gate (Sub (pmO n f m g (w64 ((n : Int) + (m : Int))).toNat 0 fun _ => bgZ) (pmO n f m g N 0 fun _ => bgc (false, 0))) (cond (fz1 N) (gate (FSpec Try.prog 25 [bpA N y] (bpA k z)) (some (Out.of (bpA k z)))) none)) none := by kernel_rfl
end
/-! ### Signs -/
def pvS (n : Nat) (f : Nat → Bg) (x i : Int) (u : List AV) (v : Bg) : St := mkS 33 [(0, bpA n f), (1, iA x), (5, .own 0 0), (6, .own 1 0), (7, iA i)] [.c u, .c (bgc v)]
section
variable (n : Nat) (f : Nat → Bg) (x i : Int) (u v : Bg)
noncomputable def pvT (y z : Option Out) : Option Out := cond (decide (i ≥ 0)) (gOf x (gMul u (bOf x) (gMul (f i.toNat) v (gAdd (a6m u (bOf x)) (a6m (f i.toNat) v) (cond ((ixB i n || false) && true) (gOf 65536 (gMul v (bOf 65536) y)) none))))) z
theorem pv_step : evC Try.prog [] (bigK Try.prog) noL (loopAt Try.f42 0) (pvS n f x i (bgc u) v) (finN keepA6 [some 0, some 1]) = pvT n f x i u v (some ⟨.normal, pvS n f x (w64 (i - 1)) (bgc (a6a (a6m u (bOf x)) (a6m (f i.toNat) v))) (a6v v), .any⟩) none := by kernel_rfl
theorem pv_end : evC Try.prog [] (bigK Try.prog) noL (loopAt Try.f42 0) (pvS n f x i (bgc u) v) (finE keepA6 [some 0, some 1]) = pvT n f x i u v none (some ⟨.exit 0, pvS n f x i (bgc u) v, .any⟩) := by kernel_rfl
theorem pv_ev (i' : Int) (w r : Bg) (e : Int) : ev Try.prog [] (kS Try.prog 31 (fun _ => iA e) :: bigK Try.prog) (oneL 4 (toldF keepA6 [some 0, some 1] (pvS n f x i (bgc (false, 0)) (bOf 1)) (.exit 0) (pvS n f x i' (bgc w) r))) Try.f42 [bpA n f, iA x] ret =
    gOf 1 (gate (Sub (pvS n f x (w64 ((n : Int) - 1)) bgZ (bOf 1)) (pvS n f x i (bgc (false, 0)) (bOf 1))) (gate (FSpec Try.prog 31 [bgA w] (iA e)) (some (Out.of (iA e))))) := by kernel_rfl
end
end Go.Proofs.Ytgijfbcfajhmlaa

namespace Go.Proofs.Ytgijfbcfajhmlaa
open Go.Gv
open Go.Em (wB wB_pos wB_eq nw nw_lt nw_le nw_zero nw_mul_le nw_add_le)

/-- The numbers themselves. -/
def bval (n : Nat) (f : Nat → Bg) (i : Nat) : Int := if i < n then bv (f i) else 0
theorem bval_Cn (n : Nat) (f : Nat → Bg) : Cn n (bval n f) := fun i hi => by unfold bval; rw [if_neg (by omega)]
theorem bval_lt {n : Nat} {f : Nat → Bg} {i : Nat} (h : i < n) : bval n f i = bv (f i) := by unfold bval; rw [if_pos h]
theorem bval_cut (N : Nat) (h : Nat → Bg) : bval (btl h N) h = bval N h := funext fun i => by
  have hle : btl h N ≤ N := tl_le _ N
  unfold bval
  by_cases g : i < btl h N
  · rw [if_pos g, if_pos (by omega)]
  · rw [if_neg g]
    by_cases g2 : i < N
    · rw [if_pos g2]
      exact (tl_zero (fun i => bv (h i)) N i (show tl _ N ≤ i by unfold btl at g; omega) g2).symm
    · rw [if_neg g2]
theorem btl_tl (N : Nat) (h : Nat → Bg) : btl h N = tl (bval N h) N := tl_congr fun _ hi => (bval_lt hi).symm
theorem bval_add (n : Nat) (f : Nat → Bg) (m : Nat) (g : Nat → Bg) : bval (max n m) (padB n f m g) = fun i => bval n f i + bval m g i := funext fun i => by
  unfold bval padB
  by_cases h1 : i < n
  · rw [if_pos (show i < max n m by omega), if_pos h1, if_pos h1]
    by_cases h2 : i < m
    · rw [if_pos h2, if_pos h2, bv_add]
    · rw [if_neg h2, if_neg h2, Int.add_zero]
  · rw [if_neg h1, if_neg h1]
    by_cases h2 : i < m
    · rw [if_pos (show i < max n m by omega), if_pos h2, bv_add]; rfl
    · rw [if_neg (show ¬ i < max n m by omega), if_neg h2]; rfl
theorem bval_by (n : Nat) (f : Nat → Bg) (k : Bg) : bval n (pbyB f k) = fun i => bval n f i * bv k := funext fun i => by
  unfold bval pbyB
  by_cases h : i < n
  · rw [if_pos h, if_pos h, bv_mul]
  · rw [if_neg h, if_neg h, Int.zero_mul]
theorem bval_slope (n : Nat) (f : Nat → Bg) : bval (n - 1) (pslB f) = dsl (bval n f) := funext fun i => by
  show _ = bval n f (i + 1) * ((i + 1 : Nat) : Int)
  by_cases h : i < n - 1
  · rw [bval_lt h, bval_lt (show i + 1 < n by omega)]
    unfold pslB
    rw [bv_mul, bv_of]
  · rw [bval_Cn (n - 1) _ i (by omega), bval_Cn n _ (i + 1) (by omega), Int.zero_mul]
/-! ### Products -/
def yI (f g : Nat → Bg) (i j : Nat) (y : Nat → Bg) (q : Nat) : Bg := if i ≤ q ∧ q < i + j then badd (y q) (bmul (f i) (g (q - i))) else y q
def yO (f g : Nat → Bg) (m : Nat) : Nat → Nat → Bg
  | 0 => fun _ => (false, 0)
  | i + 1 => yI f g i m (yO f g m i)
theorem yO_val {n : Nat} (f : Nat → Bg) (m : Nat) (g : Nat → Bg) : ∀ i, i ≤ n → ∀ q, bv (yO f g m i q) = psm (bval n f) (bval m g) i q
  | 0, _, q => rfl
  | i + 1, hi, q => by
    have ih := yO_val (n := n) f m g i (by omega) q
    show bv (yI f g i m (yO f g m i) q) = psm (bval n f) (bval m g) i q + if i ≤ q then bval n f i * bval m g (q - i) else 0
    unfold yI
    rw [bval_lt (show i < n by omega)]
    by_cases h : i ≤ q ∧ q < i + m
    · rw [if_pos h, if_pos h.1, bv_add, bv_mul, ih, bval_lt (show q - i < m by omega)]
    · rw [if_neg h, ih]
      by_cases h2 : i ≤ q
      · rw [if_pos h2, bval_Cn m g (q - i) (by omega), Int.mul_zero, Int.add_zero]
      · rw [if_neg h2, Int.add_zero]
theorem nw_yO {n : Nat} {f : Nat → Bg} {m : Nat} {g : Nat → Bg} {A B : Nat} (hf : PB n f A) (hg : PB m g B) : ∀ i, i ≤ n → ∀ q, nw (yO f g m i q).2 ≤ A + B + i
  | 0, _, q => by show nw 0 ≤ _; rw [nw_zero]; omega
  | i + 1, hi, q => by
    have ih := nw_yO hf hg i (by omega) q
    show nw (yI f g i m (yO f g m i) q).2 ≤ _
    unfold yI
    by_cases h : i ≤ q ∧ q < i + m
    · rw [if_pos h]
      have h1 := nw_bmul (f i) (g (q - i))
      have h2 := hf i (by omega)
      have h3 := hg (q - i) (by omega)
      exact nw_badd (n := A + B + i) (by omega) (by omega)
    · rw [if_neg h]; omega
theorem gAdd_pos {a b : Bg} {o : Option Out} (ha : nw a.2 ≤ 1000000000000) (hb : nw b.2 ≤ 1000000000000) : gAdd a b o = o := by unfold gAdd; rw [a6a_eq]; exact gate_pos (ba_specN ha hb)
theorem bgZ_cells : (bgc (false, 0)).length = bgZ.length ∧ ∀ (E : Env) (cs : List Value), pre E bgZ cs → pre E (bgc (false, 0)) cs := ⟨rfl, fun E cs h => by
  obtain ⟨u0, t0, e0, r0, h⟩ := pre_cons.1 h
  obtain ⟨u1, t1, e1, r1, h⟩ := pre_cons.1 h
  refine pre_cons.2 ⟨u0, t0, e0, r0, pre_cons.2 ⟨u1, t1, e1, ?_, h⟩⟩
  show rel E (sJ (nw 0) (mI 0)) u1
  rw [nw_zero]
  exact nil_like r1⟩
theorem bgZ_row {e : TypeId} {N : Nat} {sl : List (AV × Chain)} : Sub ⟨sl, [.a e 2 N fun _ => bgZ]⟩ ⟨sl, [.a e 2 N fun _ => bgc (false, 0)]⟩ :=
  sub_like ⟨Or.inr (Or.inl ⟨e, 2, N, _, _, rfl, rfl, fun _ _ => bgZ_cells⟩), trivial⟩
section
variable {n : Nat} {f : Nat → Bg} {m : Nat} {g : Nat → Bg} {B : Nat} (hn : n ≤ 1000) (hm : m ≤ 1000) (hB : B ≤ 100000000000) (hf : PB n f B) (hg : PB m g B)
include hn hm hB hf hg
theorem pmI_leads {i : Nat} (hi : i < n) : Leads Try.prog (.loop (loopAt Try.f24 1)) (pmI n f m g (n + m) (i : Nat) 0 fun q => bgc (yO f g m i q)) (.exit 2) (pmI n f m g (n + m) (i : Nat) (m : Nat) fun q => bgc (yO f g m (i + 1) q)) := by
  have e0 : yI f g i 0 (yO f g m i) = yO f g m i := funext fun q => by unfold yI; rw [if_neg (by omega)]
  have key : Leads Try.prog (.loop (loopAt Try.f24 1)) (pmI n f m g (n + m) (i : Nat) ((0 : Nat) : Int) fun q => bgc (yI f g i 0 (yO f g m i) q)) (.exit 2) (pmI n f m g (n + m) (i : Nat) (m : Nat) fun q => bgc (yI f g i m (yO f g m i) q)) := by
    refine loop_rule (fun j => pmI n f m g (n + m) (i : Nat) (j : Nat) fun q => bgc (yI f g i j (yO f g m i) q)) m (.exit 2) _ (by simp) (fun j hj => ?_) ?_
    · have st := pmI_step n f m g (n + m) (i : Nat) (j : Nat) (yI f g i j (yO f g m i))
      have ew : w64 (((i : Nat) : Int) + ((j : Nat) : Int)) = ((i + j : Nat) : Int) := by rw [w64_id (by omega) (by omega)]; omega
      have eK : pmK (i : Nat) (j : Nat) = i + j := by unfold pmK; rw [ew, Int.toNat_natCast]
      have b1 := hf i hi
      have b2 := hg j hj
      have b3 := nw_yO hf hg i (by omega) (i + j)
      have b4 := nw_bmul (f i) (g j)
      have ey : yI f g i j (yO f g m i) (0 + (i + j)) = yO f g m i (i + j) := by unfold yI; rw [if_neg (by omega), Nat.zero_add]
      unfold pmT pmV at st
      rw [eK, ew, Int.toNat_natCast, Int.toNat_natCast, ey, dec_lt hj, gMul_pos (by omega) (by omega), ixB_t hi, ixB_t hj, a6m_eq, gAdd_pos (by omega) (by omega), ixB_t (show i + j < n + m by omega), stU_t (show i + j < n + m by omega), stB_t (show i + j < n + m by omega), w64_next (by omega), a6a_eq] at st
      refine (leads_ev (finN_sub _ _) e_nil bigK_ok noL_ok st).sub (Sub.refl _) ?_
      refine sub_same ⟨Or.inr ⟨44, 2, n + m, _, _, rfl, rfl, fun q hq => ?_⟩, trivial⟩
      rw [mixBg, Nat.zero_add]
      refine congrArg bgc ?_
      unfold yI
      by_cases h : q = i + j
      · subst h
        rw [show (i + j == i + j) = true from BEq.rfl, if_pos (by omega), show i + j - i = j by omega]
        rfl
      · rw [beq_false_of_ne h, cond_false]
        by_cases h2 : i ≤ q ∧ q < i + j
        · rw [if_pos h2, if_pos (by omega)]
        · rw [if_neg h2, if_neg (by omega)]
    · refine leads_ev (finE_sub _ _) e_nil bigK_ok noL_ok ((pmI_end n f m g (n + m) (i : Nat) (m : Nat) (yI f g i m (yO f g m i))).trans ?_)
      unfold pmT
      rw [dec_self, cond_false]
  rw [e0] at key
  exact key
theorem pmO_leads : Leads Try.prog (.loop (loopAt Try.f24 0)) (pmO n f m g (n + m) 0 fun _ => bgc (false, 0)) (.exit 0) (pmO n f m g (n + m) (n : Nat) fun q => bgc (yO f g m n q)) := by
  refine loop_rule (fun i => pmO n f m g (n + m) (i : Nat) fun q => bgc (yO f g m i q)) n (.exit 0) _ (by simp) (fun i hi => ?_) ?_
  · have hL : LOk Try.prog (pmL n f m g (n + m) (i : Nat) (yO f g m i) (yO f g m (i + 1))) (loopAt Try.f24 0) := lok_at (i := 6) 0 1 (by kernel_rfl) (by kernel_rfl) (toldF_sound (pmI_leads hn hm hB hf hg hi))
    have st := pmO_step n f m g (n + m) (i : Nat) (yO f g m i) (yO f g m (i + 1))
    rw [dec_lt hi, gate_pos (Sub.refl _), w64_next (by omega)] at st
    exact leads_ev (finN_sub _ _) e_nil k_nil hL st
  · refine leads_ev (finE_sub _ _) e_nil k_nil (lok_none 6) ((pmO_end n f m g (n + m) (n : Nat) (yO f g m n)).trans ?_)
    rw [dec_self, cond_false]
theorem pm_spec : FSpec Try.prog 24 [bpA n f, bpA m g] (bpA (btl (yO f g m n) (n + m)) (yO f g m n)) := by
  have hL := lok_at (c := bodyOf Try.f24) (i := 3) 0 2 (by kernel_rfl) (by kernel_rfl) (toldF_sound (keep := keepPMO) (τ := [some 0]) (pmO_leads hn hm hB hf hg))
  refine gspecZ (oneZ_ok (frzK_ok 0)) e_nil (k_cons kS_ok k_nil) m_nil Try.func24 (by kernel_rfl) (by kernel_rfl) hL rfl ((pm_ev n f m g (n + m) (yO f g m n) (btl (yO f g m n) (n + m)) (yO f g m n)).trans ?_)
  have ew : w64 (((n : Nat) : Int) + ((m : Nat) : Int)) = ((n + m : Nat) : Int) := by rw [w64_id (by omega) (by omega)]; omega
  rw [ew, mk32_t (by omega), Int.toNat_natCast, gate_pos (show Sub (pmO n f m g (n + m) 0 fun _ => bgZ) (pmO n f m g (n + m) 0 fun _ => bgc (false, 0)) from bgZ_row), fz1_t, gate_pos (pc_spec (yO f g m n) (by omega))]
  rfl
end
/-! ### Signs -/
def pvU (n : Nat) (f : Nat → Bg) (x : Int) : Nat → Bg
  | 0 => (false, 0)
  | k + 1 => badd (bmul (pvU n f x k) (bOf x)) (bmul (f (n - 1 - k)) (a6V k))
theorem bv_pvU (n : Nat) (f : Nat → Bg) (x : Int) : ∀ k, k ≤ n → bv (pvU n f x k) = hor (pfin (bval n f) n) x (n - k) k
  | 0, _ => by show (0 : Int) = _; simp only [hor]
  | k + 1, hk => by
    show bv (badd (bmul (pvU n f x k) (bOf x)) (bmul (f (n - 1 - k)) (a6V k))) = _
    rw [bv_add, bv_mul, bv_mul, bv_pvU n f x k (by omega), bv_of, bv_V]
    simp only [hor]
    rw [show n - (k + 1) + 1 = n - k by omega]
    congr 1
    unfold pfin
    rw [show n - (k + 1) = n - 1 - k by omega, show n - 1 - (n - 1 - k) = k by omega, bval_lt (by omega)]
theorem nw_pvU {n : Nat} {f : Nat → Bg} {x : Int} {B : Nat} (hf : PB n f B) (hx : I64 x) : ∀ k, k ≤ n → nw (pvU n f x k).2 ≤ B + 9 * k + 9
  | 0, _ => by show nw 0 ≤ _; rw [nw_zero]; omega
  | k + 1, hk => by
    have h1 := nw_bmul (pvU n f x k) (bOf x)
    have h2 := nw_pvU hf hx k (by omega)
    have h3 := nw_of hx
    have h4 := nw_bmul (f (n - 1 - k)) (a6V k)
    have h5 := hf (n - 1 - k) (by omega)
    have h6 := nw_V k
    have := nw_badd (n := B + 9 * k + 13) (a := bmul (pvU n f x k) (bOf x)) (b := bmul (f (n - 1 - k)) (a6V k)) (by omega) (by omega)
    show nw (badd (bmul (pvU n f x k) (bOf x)) (bmul (f (n - 1 - k)) (a6V k))).2 ≤ _
    omega
theorem pv_spec {n : Nat} {f : Nat → Bg} {x : Int} {B : Nat} (hn : n ≤ 1000) (hB : B ≤ 100000000000) (hf : PB n f B) (hx : I64 x) : FSpec Try.prog 42 [bpA n f, iA x] (iA (hor (pfin (bval n f) n) x 0 n).sign) := by
  have i65 : I64 65536 := ⟨by decide, by decide⟩
  have lead : Leads Try.prog (.loop (loopAt Try.f42 0)) (pvS n f x ((n : Int) - 1 - ((0 : Nat) : Int)) (bgc (pvU n f x 0)) (a6V 0)) (.exit 0) (pvS n f x ((n : Int) - 1 - (n : Nat)) (bgc (pvU n f x n)) (a6V n)) := by
    refine loop_rule (fun k => pvS n f x ((n : Int) - 1 - (k : Nat)) (bgc (pvU n f x k)) (a6V k)) n (.exit 0) _ (by simp) (fun k hk => ?_) ?_
    · have st := pv_step n f x ((n : Int) - 1 - (k : Nat)) (pvU n f x k) (a6V k)
      have e1 : (n : Int) - 1 - (k : Nat) = ((n - 1 - k : Nat) : Int) := by omega
      have e2 : w64 (((n - 1 - k : Nat) : Int) - 1) = (n : Int) - 1 - ((k + 1 : Nat) : Int) := by rw [w64_id (by omega) (by omega)]; omega
      have n1 := nw_pvU hf hx k (by omega)
      have n2 := nw_V k
      have n3 := nw_of hx
      have n4 := hf (n - 1 - k) (by omega)
      have n5 := nw_of i65
      have n6 := nw_bmul (pvU n f x k) (bOf x)
      have n7 := nw_bmul (f (n - 1 - k)) (a6V k)
      unfold pvT a6v at st
      rw [e1, Int.toNat_natCast, decide_eq_true (show ((n - 1 - k : Nat) : Int) ≥ 0 by omega), gOf_pos hx, gMul_pos (by omega) (by omega), gMul_pos (by omega) (by omega), a6m_eq, a6m_eq, gAdd_pos (by omega) (by omega), ixB_t (by omega), gOf_pos i65, gMul_pos (by omega) (by omega), e2, a6a_eq, a6m_eq] at st
      rw [e1]
      exact leads_ev (finN_sub _ _) e_nil bigK_ok noL_ok st
    · refine leads_ev (finE_sub _ _) e_nil bigK_ok noL_ok ((pv_end n f x ((n : Int) - 1 - (n : Nat)) (pvU n f x n) (a6V n)).trans ?_)
      unfold pvT
      rw [decide_eq_false (by omega), cond_false]
  have hL := lok_at (c := bodyOf Try.f42) (i := 4) 0 1 (by kernel_rfl) (by kernel_rfl) (toldF_sound (keep := keepA6) (τ := [some 0, some 1]) lead)
  refine gspec e_nil (k_cons kS_ok bigK_ok) Try.func42 (by kernel_rfl) (by kernel_rfl) hL rfl ((pv_ev n f x ((n : Int) - 1 - ((0 : Nat) : Int)) _ (pvU n f x n) (a6V n) (hor (pfin (bval n f) n) x 0 n).sign).trans ?_)
  have hb := bs_spec (pvU n f x n)
  rw [bv_pvU n f x n (Nat.le_refl _), Nat.sub_self] at hb
  have hs : ∀ i, Sub (pvS n f x i bgZ (bOf 1)) (pvS n f x i (bgc (false, 0)) (bOf 1)) := fun i => sub_like ⟨Or.inr (Or.inr ⟨_, _, rfl, rfl, bgZ_cells.2⟩), Or.inl rfl, trivial⟩
  rw [gOf_pos ⟨by decide, by decide⟩, show w64 ((n : Int) - 1) = (n : Int) - 1 - ((0 : Nat) : Int) by rw [w64_id (by omega) (by omega)]; omega, gate_pos (hs _), gate_pos hb]
end Go.Proofs.Ytgijfbcfajhmlaa

namespace Go.Proofs.Ytgijfbcfajhmlaa
open Go.Gv
open Go.Em (wB wB_pos wB_eq nw nw_lt nw_le nw_zero)

theorem rowsLike_refl : ∀ mem : List Row, RowsLike mem mem
  | [] => trivial
  | _ :: rs => ⟨Or.inl rfl, rowsLike_refl rs⟩
theorem rowsLike_set {row' : Row} : ∀ {mem : List Row} {k : Nat} {row : Row}, mem[k]? = some row → RowLike row row' → RowsLike mem (mem.set k row')
  | [], k, row, h, _ => by simp at h
  | r :: rs, 0, row, h, hl => by
    simp at h
    subst h
    exact ⟨hl, rowsLike_refl rs⟩
  | r :: rs, k + 1, row, h, hl => ⟨Or.inl rfl, rowsLike_set (k := k) (by simpa using h) hl⟩
/-- New numbers, all nought: their slices are told as slices of nothing. -/
noncomputable def zlike (k : Nat) : ZFun := fun s kont => match s.mem[k]? with
  | some (.a e sz n el) => cond (Nat.beq sz 2) (gate (∀ i, i < n → el i = bgZ) (kont ⟨s.slots, s.mem.set k (.a e 2 n fun _ => bgc (false, 0))⟩)) none
  | _ => none
theorem zlike_ok (k : Nat) : ZSoundN 0 (zlike k) := fun s kont r h => by
  unfold zlike at h
  split at h
  · rename_i e sz n el hk
    cases hb : Nat.beq sz 2
    · rw [hb] at h; cases h
    · rw [hb, cond_true] at h
      obtain rfl := Nat.eq_of_beq_eq_true hb
      by_cases hp : ∀ i, i < n → el i = bgZ
      · rw [gate_pos hp] at h
        refine ⟨_, h, ?_⟩
        exact sub_like (rowsLike_set hk (Or.inr (Or.inl ⟨e, 2, n, _, _, rfl, rfl, fun i hi => by rw [hp i hi]; exact bgZ_cells⟩)))
      · unfold gate at h
        rw [if_neg hp] at h
        cases h
  · cases h
/-! ### Divisions -/
abbrev BP : Type := Nat × (Nat → Bg)
def bpP (p : BP) : AV := bpA p.1 p.2
abbrev BF' : Type := List AV → BP
noncomputable def divK (by' ad mu : BF') : List KEntry := [kS Try.prog 30 (fun l => bpP (by' l)), kS Try.prog 26 (fun l => bpP (ad l)), kS Try.prog 24 (fun l => bpP (mu l)), kS Try.prog 20 boG, kS Try.prog 29 (fun l => bgA (bneg (decB (a0 l))))]
def pdS (a b : BP) (ld : Bg) (qv : AV) : St := mkS 66 [(0, bpP a), (1, bpP b), (6, .own 0 0), (7, .own 1 0), (8, qv)] [.c (bgc ld), .c (bgc (false, ld.2))]
def keepPD : List Nat := [0, 1, 6, 7, 8]
def fz4 (N : Nat) : Bool := (Nat.beq N N && (Nat.beq N N && (Nat.beq N N && (Nat.beq N N && true)))) && true
theorem fz4_t (N : Nat) : fz4 N = true := by unfold fz4; rw [Nat.beq_refl]; rfl
section
variable (by' ad mu : BF') (a b : BP) (ld : Bg) (q : BP)
def pdN : Int := w64 (w64 ((a.1 : Int) - (b.1 : Int)) + 1)
def pdX : Int := w64 (((pdN a b).toNat : Int) - 1)
def tmA (c : Bg) : AV := .sl 2 (pdN a b).toNat fun q => mixL (q == 0 + (pdX a b).toNat) (bgc c) (bgc (false, 0))
def pdC : Bg := a.2 (w64 ((a.1 : Int) - 1)).toNat
noncomputable def gP (f : Nat) (l : List AV) (p : BP) (o : Option Out) : Option Out := gate (FSpec Try.prog f l (bpP p)) o
def pdq1 : BP := by' [bpP q, bgA (false, ld.2)]
def pdq2 (c : Bg) : BP := ad [bpP (pdq1 by' ld q), tmA a b c]
def pdpt (c : Bg) : BP := mu [tmA a b c, bpP b]
def pda1 : BP := by' [bpP a, bgA (false, ld.2)]
def pda2 (c : Bg) : BP := by' [bpP (pdpt mu a b c), bgA (bOf (-1))]
def pda3 (c : Bg) : BP := ad [bpP (pda1 by' a ld), bpP (pda2 by' mu a b c)]
noncomputable def pdB (c : Bg) (y : Option Out) : Option Out := cond (mk32 (pdN a b) || false) (gate (∀ i, i < (pdN a b).toNat → (fun _ : Nat => bgZ) i = bgZ) (cond (ixB (pdX a b) (pdN a b).toNat || false) (cond (stU (pdX a b).toNat (pdN a b).toNat) (cond (fz4 (pdN a b).toNat)
  (gP 30 [bpP q, bgA (false, ld.2)] (pdq1 by' ld q) (gP 26 [bpP (pdq1 by' ld q), tmA a b c] (pdq2 by' ad a b ld q c) (gP 24 [tmA a b c, bpP b] (pdpt mu a b c) (gP 30 [bpP a, bgA (false, ld.2)] (pda1 by' a ld) (gOf (-1) (gP 30 [bpP (pdpt mu a b c), bgA (bOf (-1))] (pda2 by' mu a b c) (gP 26 [bpP (pda1 by' a ld), bpP (pda2 by' mu a b c)] (pda3 by' ad mu a b ld c) y))))))) none) none) none)) none
noncomputable def pdT (y : Bg → Option Out) (z : Option Out) : Option Out := cond (decide ((a.1 : Int) ≥ (b.1 : Int))) (cond (ixB (w64 ((a.1 : Int) - 1)) a.1 || false) (cond ld.1 (gate (FSpec Try.prog 29 [bgA (pdC a)] (bgA (bneg (decB (bgA (pdC a)))))) (pdB by' ad mu a b ld q (bneg (decB (bgA (pdC a)))) (y (bneg (decB (bgA (pdC a))))))) (pdB by' ad mu a b ld q (pdC a) (y (pdC a)))) none) z
theorem pd_step : evCZ Try.prog [] (divK by' ad mu) [] noL (twoZ 9 (zlike 3) 10 (frzK 3)) (loopAt Try.f58 0) (pdS a b ld (bpP q)) (finN keepPD [some 0, some 1]) =
    pdT by' ad mu a b ld q (fun c => some ⟨.normal, pdS (pda3 by' ad mu a b ld c) b ld (bpP (pdq2 by' ad a b ld q c)), .any⟩) none := by kernel_rfl
theorem pd_end : evCZ Try.prog [] (divK by' ad mu) [] noL (twoZ 9 (zlike 3) 10 (frzK 3)) (loopAt Try.f58 0) (pdS a b ld (bpP q)) (finE keepPD [some 0, some 1]) =
    pdT by' ad mu a b ld q (fun _ => none) (some ⟨.exit 0, pdS a b ld (bpP q), .any⟩) := by kernel_rfl
theorem pd_ev (a' q' q0 : BP) : ev Try.prog [] [] (oneL 4 (toldF keepPD [some 0, some 1] (pdS a b ld (bpP q0)) (.exit 0) (pdS a' b ld (bpP q')))) Try.f58 [bpP a, bpP b] ret =
    cond (ixB (w64 ((b.1 : Int) - 1)) b.1 || false) (gate (Sub (pdS a b (b.2 (w64 ((b.1 : Int) - 1)).toNat) nilA) (pdS a b ld (bpP q0))) (some (Out.of (.tup [bpP q', bpP a'])))) none := by kernel_rfl
end
end Go.Proofs.Ytgijfbcfajhmlaa

namespace Go.Proofs.Ytgijfbcfajhmlaa
open Go.Gv
open Go.Sturm (Pol hq xp sh)
open Go.Em (wB wB_pos wB_eq nw nw_lt nw_le nw_zero)

def bBy (p : BP) (k : Bg) : BP := (btl (pbyB p.2 k) p.1, pbyB p.2 k)
def bAdd (p q : BP) : BP := (btl (padB p.1 p.2 q.1 q.2) (max p.1 q.1), padB p.1 p.2 q.1 q.2)
def bMul (p q : BP) : BP := (btl (yO p.2 q.2 q.1 p.1) (p.1 + q.1), yO p.2 q.2 q.1 p.1)
def bSl (p : BP) : BP := (btl (pslB p.2) (p.1 - 1), pslB p.2)
/-- The numbers of a polynomial. -/
def bV (p : BP) : Nat → Int := bval p.1 p.2
def bPly (p : BP) : Ply := (p.1, bV p)
theorem bV_Cn (p : BP) : Cn p.1 (bV p) := bval_Cn p.1 p.2
theorem bV_by (p : BP) (k : Bg) : bV (bBy p k) = fun i => bV p i * bv k := (bval_cut p.1 _).trans (bval_by p.1 p.2 k)
theorem bV_add (p q : BP) : bV (bAdd p q) = fun i => bV p i + bV q i := (bval_cut _ _).trans (bval_add p.1 p.2 q.1 q.2)
theorem bV_sl (p : BP) : bV (bSl p) = dsl (bV p) := (bval_cut _ _).trans (bval_slope p.1 p.2)
theorem yO_beyond (f g : Nat → Bg) (m : Nat) : ∀ i q, i + m ≤ q → yO f g m i q = (false, 0)
  | 0, _, _ => rfl
  | i + 1, q, h => by
    show yI f g i m (yO f g m i) q = _
    unfold yI
    rw [if_neg (by omega)]
    exact yO_beyond f g m i q (by omega)
theorem bV_mul (p q : BP) : bV (bMul p q) = psm (bV p) (bV q) p.1 := (bval_cut _ _).trans (funext fun i => by
  have h := yO_val (n := p.1) p.2 q.1 q.2 p.1 (Nat.le_refl _) i
  unfold bval
  by_cases g : i < p.1 + q.1
  · rw [if_pos g]; exact h
  · rw [if_neg g, ← show bv (yO p.2 q.2 q.1 p.1 i) = psm (bV p) (bV q) p.1 i from h, yO_beyond p.2 q.2 q.1 p.1 i (by omega)]
    rfl)
/-! ### As functions of rationals -/
theorem hq_snoc (f : Nat → Int) (x : Rat) : ∀ d i, hq f x i (d + 1) = hq f x i d + xp x d * (f (i + d) : Rat)
  | 0, i => by
    show 0 * x + (f i : Rat) = 0 + 1 * (f (i + 0) : Rat)
    rw [Nat.add_zero]
    grind
  | d + 1, i => by
    show hq f x (i + 1) (d + 1) * x + (f i : Rat) = (hq f x (i + 1) d * x + (f i : Rat)) + xp x d * x * (f (i + (d + 1)) : Rat)
    rw [hq_snoc f x d (i + 1), show i + 1 + d = i + (d + 1) by omega]
    grind
theorem hq_psm {f g : Nat → Int} {m : Nat} (hg : Cn m g) (x : Rat) : ∀ n, hq (psm f g n) x 0 (n + m) = hq f x 0 n * hq g x 0 m
  | 0 => by
    have e : psm f g 0 = fun _ => 0 := funext fun q => rfl
    rw [e, Go.Sturm.hq_len (n := 0) (m := 0 + m) (fun _ _ => rfl) (by omega)]
    show (0 : Rat) = 0 * _
    grind
  | n + 1 => by
    have ih := hq_psm (f := f) hg x n
    have e : psm f g (n + 1) = fun q => psm f g n q + sh n g q * f n := funext fun q => by
      show psm f g n q + (if n ≤ q then f n * g (q - n) else 0) = _
      unfold sh
      by_cases h : n ≤ q
      · rw [if_pos h, if_pos h, Int.mul_comm (f n)]
      · rw [if_neg h, if_neg h, Int.zero_mul]
    have hz : ∀ j, n + m ≤ j → psm f g n j = 0 := fun j hj => by
      have : ∀ k, k ≤ n → psm f g k j = 0 := fun k => by
        induction k with
        | zero => intro _; rfl
        | succ k ihk =>
          intro hk
          show psm f g k j + (if k ≤ j then f k * g (j - k) else 0) = 0
          rw [ihk (by omega), if_pos (by omega), hg (j - k) (by omega), Int.mul_zero]
          rfl
      exact this n (Nat.le_refl _)
    rw [e, Go.Sturm.hq_add (psm f g n) (fun q => sh n g q * f n), Go.Sturm.hq_smul, Go.Sturm.hq_len hz (show n + m ≤ n + 1 + m by omega), ih]
    have e2 : hq (sh n g) x 0 (n + 1 + m) = xp x n * hq g x 0 m := by
      rw [show n + 1 + m = n + (1 + m) by omega, Go.Sturm.hq_shift, Go.Sturm.hq_len (fun j hj => hg j hj) (show m ≤ 1 + m by omega)]
    rw [e2, hq_snoc f x n 0, Nat.zero_add]
    grind
theorem fn_len {n m : Nat} {f : Nat → Int} (hc : Cn n f) (h : n ≤ m) (x : Rat) : fnP (m, f) x = fnP (n, f) x := Go.Sturm.hq_len (fun j hj => hc j hj) h
theorem fn_by (p : BP) (k : Bg) (x : Rat) : fnP (bPly (bBy p k)) x = (bv k : Rat) * fnP (bPly p) x := by
  have hle : btl (pbyB p.2 k) p.1 ≤ p.1 := tl_le _ p.1
  refine (fn_len (bV_Cn (bBy p k)) (show (bBy p k).1 ≤ p.1 from hle) x).symm.trans ?_
  show hq (bV (bBy p k)) x 0 p.1 = _ * hq (bV p) x 0 p.1
  rw [bV_by, Go.Sturm.hq_smul]
  grind
theorem fn_add (p q : BP) (x : Rat) : fnP (bPly (bAdd p q)) x = fnP (bPly p) x + fnP (bPly q) x := by
  have hle : (bAdd p q).1 ≤ max p.1 q.1 := tl_le _ (max p.1 q.1)
  refine (fn_len (bV_Cn (bAdd p q)) hle x).symm.trans ?_
  show hq (bV (bAdd p q)) x 0 (max p.1 q.1) = _
  rw [bV_add, Go.Sturm.hq_add (bV p) (bV q)]
  have h1 : hq (bV p) x 0 (max p.1 q.1) = fnP (bPly p) x := fn_len (bV_Cn p) (Nat.le_max_left _ _) x
  have h2 : hq (bV q) x 0 (max p.1 q.1) = fnP (bPly q) x := fn_len (bV_Cn q) (Nat.le_max_right _ _) x
  rw [h1, h2]
theorem fn_mul (p q : BP) (x : Rat) : fnP (bPly (bMul p q)) x = fnP (bPly p) x * fnP (bPly q) x := by
  have hle : (bMul p q).1 ≤ p.1 + q.1 := tl_le _ (p.1 + q.1)
  refine (fn_len (bV_Cn (bMul p q)) hle x).symm.trans ?_
  show hq (bV (bMul p q)) x 0 (p.1 + q.1) = _
  rw [bV_mul]
  exact hq_psm (bV_Cn q) x p.1
theorem fn_sl (p : BP) : fnP (bPly (bSl p)) = Go.Sturm.D (fnP (bPly p)) := by
  rw [fnP_D]
  refine funext fun x => ?_
  have hle : (bSl p).1 ≤ p.1 - 1 := tl_le _ (p.1 - 1)
  refine (fn_len (bV_Cn (bSl p)) hle x).symm.trans ?_
  show hq (bV (bSl p)) x 0 (p.1 - 1) = hq (dsl (bV p)) x 0 (p.1 - 1)
  rw [bV_sl]
/-- Its last number is not nought. -/
def BT (p : BP) : Prop := p.1 = 0 ∨ bv (p.2 (p.1 - 1)) ≠ 0
theorem btl_top (f : Nat → Bg) (n : Nat) : BT (btl f n, f) := by
  by_cases h : btl f n = 0
  · exact Or.inl h
  · exact Or.inr (tl_top (fun i => bv (f i)) n h)
theorem BT.tp {p : BP} (h : BT p) : Tp (bPly p) := by
  rcases h with h | h
  · exact Or.inl h
  · by_cases h0 : p.1 = 0
    · exact Or.inl h0
    · right
      show bval p.1 p.2 (p.1 - 1) ≠ 0
      rw [bval_lt (by omega)]
      exact h
/-! ### One step of a division -/
def tmP (L : Nat) (c : Bg) : BP := (L, fun q => cond (q == L - 1) c (false, 0))
theorem fn_tm {L : Nat} (hL : 0 < L) (c : Bg) (x : Rat) : fnP (bPly (tmP L c)) x = xp x (L - 1) * (bv c : Rat) := by
  have e : bV (tmP L c) = fun q => sh (L - 1) (fun i => if i = 0 then 1 else 0) q * bv c := funext fun q => by
    show bval L (fun q => cond (q == L - 1) c (false, 0)) q = _
    unfold sh
    by_cases h : q < L
    · rw [bval_lt h]
      by_cases h2 : q = L - 1
      · subst h2
        rw [show (L - 1 == L - 1) = true from BEq.rfl, if_pos (Nat.le_refl _), Nat.sub_self]
        show bv c = (if 0 = 0 then 1 else 0) * bv c
        rw [if_pos rfl, Int.one_mul]
      · rw [beq_false_of_ne h2, if_neg (by omega), Int.zero_mul]
        rfl
    · rw [bval_Cn L _ q (by omega)]
      by_cases h2 : L - 1 ≤ q
      · rw [if_pos h2]
        show 0 = (if q - (L - 1) = 0 then 1 else 0) * bv c
        rw [if_neg (show ¬ q - (L - 1) = 0 by omega), Int.zero_mul]
      · rw [if_neg h2, Int.zero_mul]
  show hq (bV (tmP L c)) x 0 L = _
  rw [e, Go.Sturm.hq_smul]
  have e2 := Go.Sturm.hq_shift (L - 1) (fun i => if i = 0 then 1 else 0) x 1
  rw [show L - 1 + 1 = L by omega] at e2
  rw [e2]
  show xp x (L - 1) * (0 * x + ((1 : Int) : Rat)) * _ = _
  have : ((1 : Int) : Rat) = 1 := rfl
  rw [this]
  grind
theorem tm_mul {L : Nat} (hL : 0 < L) (c : Bg) (b : BP) : bV (bMul (tmP L c) b) = fun q => sh (L - 1) (bV b) q * bv c := by
  rw [bV_mul]
  refine funext fun q => ?_
  have key : ∀ k, psm (bV (tmP L c)) (bV b) k q = if L ≤ k then sh (L - 1) (bV b) q * bv c else 0 := fun k => by
    induction k with
    | zero => rw [if_neg (by omega)]; rfl
    | succ k ih =>
      show psm (bV (tmP L c)) (bV b) k q + (if k ≤ q then bV (tmP L c) k * bV b (q - k) else 0) = _
      have z : ∀ (p : Prop) [Decidable p], (if p then (0 : Int) else 0) = 0 := fun p _ => by split <;> rfl
      rw [ih]
      by_cases h1 : k + 1 < L
      · have hz : bV (tmP L c) k = 0 := by
          show bval L (fun q => cond (q == L - 1) c (false, 0)) k = 0
          rw [bval_lt (by omega), beq_false_of_ne (show k ≠ L - 1 by omega)]
          rfl
        rw [hz, Int.zero_mul, z, Int.add_zero, if_neg (show ¬ L ≤ k by omega), if_neg (show ¬ L ≤ k + 1 by omega)]
      · by_cases h2 : L ≤ k
        · rw [bV_Cn (tmP L c) k h2, Int.zero_mul, z, Int.add_zero, if_pos h2, if_pos (show L ≤ k + 1 by omega)]
        · obtain rfl : k = L - 1 := by omega
          have hc : bV (tmP L c) (L - 1) = bv c := by
            show bval L (fun q => cond (q == L - 1) c (false, 0)) (L - 1) = _
            rw [bval_lt (by omega), show (L - 1 == L - 1) = true from BEq.rfl]
            rfl
          rw [hc, if_neg h2, if_pos (show L ≤ L - 1 + 1 by omega), Int.zero_add]
          unfold sh
          by_cases h3 : L - 1 ≤ q
          · rw [if_pos h3, if_pos h3, Int.mul_comm]
          · rw [if_neg h3, if_neg h3, Int.zero_mul]
  rw [key]
  exact if_pos (Nat.le_refl L)
end Go.Proofs.Ytgijfbcfajhmlaa

namespace Go.Proofs.Ytgijfbcfajhmlaa
open Go.Gv
open Go.Sturm (Pol hq xp sh)
open Go.Em (wB wB_pos wB_eq nw nw_lt nw_le nw_zero)

def PBP (p : BP) (B : Nat) : Prop := PB p.1 p.2 B
theorem PBP.le {p : BP} {A B : Nat} (h : PBP p A) (hAB : A ≤ B) : PBP p B := fun i hi => Nat.le_trans (h i hi) hAB
theorem len_by (p : BP) (k : Bg) : (bBy p k).1 ≤ p.1 := tl_le _ p.1
theorem len_add (p q : BP) : (bAdd p q).1 ≤ max p.1 q.1 := tl_le _ _
theorem len_mul (p q : BP) : (bMul p q).1 ≤ p.1 + q.1 := tl_le _ _
theorem len_sl (p : BP) : (bSl p).1 ≤ p.1 - 1 := tl_le _ _
theorem pb_by {p : BP} {k : Bg} {A B : Nat} (h : PBP p A) (hk : nw k.2 ≤ B) : PBP (bBy p k) (A + B) := fun i hi => by
  have h1 := len_by p k
  have h2 := h i (by omega)
  exact Nat.le_trans (nw_bmul (p.2 i) k) (by omega)
theorem pb_add {p q : BP} {B : Nat} (h : PBP p B) (g : PBP q B) : PBP (bAdd p q) (B + 1) := fun i hi => by
  have h1 := len_add p q
  show nw (padB p.1 p.2 q.1 q.2 i).2 ≤ B + 1
  unfold padB
  by_cases g1 : i < p.1
  · rw [if_pos g1]
    by_cases g2 : i < q.1
    · rw [if_pos g2]; exact nw_badd (h i g1) (g i g2)
    · rw [if_neg g2]; have := h i g1; omega
  · rw [if_neg g1]
    exact nw_badd (by show nw 0 ≤ B; rw [nw_zero]; omega) (g i (by omega))
theorem pb_mul {p q : BP} {A B : Nat} (h : PBP p A) (g : PBP q B) : PBP (bMul p q) (A + B + p.1) := fun i _ => nw_yO h g p.1 (Nat.le_refl _) i
theorem pb_sl {p : BP} {B : Nat} (hn : p.1 ≤ 1000) (h : PBP p B) : PBP (bSl p) (B + 4) := fun i hi => by
  have h1 := len_sl p
  have h2 := h (i + 1) (by omega)
  have h3 := nw_of (x := ((i + 1 : Nat) : Int)) ⟨by omega, by omega⟩
  exact Nat.le_trans (nw_bmul (p.2 (i + 1)) (bOf ((i + 1 : Nat) : Int))) (by omega)
theorem pb_tm {L : Nat} {c : Bg} {B : Nat} (h : nw c.2 ≤ B) : PBP (tmP L c) B := fun i _ => by
  show nw (cond (i == L - 1) c (false, 0)).2 ≤ B
  cases i == L - 1
  · show nw 0 ≤ B; rw [nw_zero]; omega
  · exact h
/-! ### Steps -/
def dC (a : BP) (ld : Bg) : Bg := if ld.1 then bneg (a.2 (a.1 - 1)) else a.2 (a.1 - 1)
def dTm (a b : BP) (ld : Bg) : BP := tmP (a.1 - b.1 + 1) (dC a ld)
def dA (a b : BP) (ld : Bg) : BP := bAdd (bBy a (false, ld.2)) (bBy (bMul (dTm a b ld) b) (bOf (-1)))
def dQ (a b : BP) (ld : Bg) (q : BP) : BP := bAdd (bBy q (false, ld.2)) (dTm a b ld)
def dst (b : BP) (ld : Bg) (s : BP × BP) : BP × BP := (dA s.1 b ld, dQ s.1 b ld s.2)
def dits (b : BP) (ld : Bg) (s : BP × BP) : Nat → BP × BP
  | 0 => s
  | k + 1 => dst b ld (dits b ld s k)
theorem bv_dC (a b : BP) : bv (b.2 (b.1 - 1)) * bv (dC a (b.2 (b.1 - 1))) = bv (a.2 (a.1 - 1)) * ((b.2 (b.1 - 1)).2 : Int) := by
  unfold dC
  generalize a.2 (a.1 - 1) = t
  obtain ⟨s, d⟩ := b.2 (b.1 - 1)
  cases s
  · show (d : Int) * bv t = bv t * (d : Int)
    exact Int.mul_comm _ _
  · show -(d : Int) * bv (bneg t) = bv t * (d : Int)
    rw [bv_neg, Int.neg_mul_neg, Int.mul_comm]
section
variable {a b : BP} (hb : 1 ≤ b.1) (hab : b.1 ≤ a.1)
include hb hab
omit hb hab in
theorem dA_val (i : Nat) : bV (dA a b (b.2 (b.1 - 1))) i = bV a i * ((b.2 (b.1 - 1)).2 : Int) - sh (a.1 - b.1) (bV b) i * bv (dC a (b.2 (b.1 - 1))) := by
  show bV (bAdd _ _) i = _
  rw [bV_add, bV_by, bV_by]
  unfold dTm
  rw [tm_mul (by omega)]
  show bV a i * ((b.2 (b.1 - 1)).2 : Int) + sh (a.1 - b.1 + 1 - 1) (bV b) i * bv (dC a (b.2 (b.1 - 1))) * bv (bOf (-1)) = _
  rw [bv_of, Nat.add_sub_cancel]
  omega
theorem dA_len : (dA a b (b.2 (b.1 - 1))).1 + 1 ≤ a.1 := by
  have hz : ∀ i, a.1 - 1 ≤ i → bV (dA a b (b.2 (b.1 - 1))) i = 0 := fun i hi => by
    rw [dA_val]
    unfold sh
    rw [if_pos (by omega)]
    by_cases h : i = a.1 - 1
    · subst h
      rw [show a.1 - 1 - (a.1 - b.1) = b.1 - 1 by omega, show bV a (a.1 - 1) = bv (a.2 (a.1 - 1)) from bval_lt (by omega), show bV b (b.1 - 1) = bv (b.2 (b.1 - 1)) from bval_lt (by omega), bv_dC a b, Int.sub_self]
    · rw [bV_Cn a i (by omega), bV_Cn b (i - (a.1 - b.1)) (by omega), Int.zero_mul, Int.zero_mul]
      rfl
  refine Nat.le_of_not_lt fun hlt => ?_
  have ht : BT (dA a b (b.2 (b.1 - 1))) := btl_top _ _
  rcases ht with h | h
  · omega
  · have := hz ((dA a b (b.2 (b.1 - 1))).1 - 1) (by omega)
    rw [show bV (dA a b (b.2 (b.1 - 1))) ((dA a b (b.2 (b.1 - 1))).1 - 1) = bv ((dA a b (b.2 (b.1 - 1))).2 ((dA a b (b.2 (b.1 - 1))).1 - 1)) from bval_lt (by omega)] at this
    exact h this
omit hb hab in
theorem dA_fn (ld : Bg) (x : Rat) : fnP (bPly (dA a b ld)) x = ((ld.2 : Int) : Rat) * fnP (bPly a) x - fnP (bPly (dTm a b ld)) x * fnP (bPly b) x := by
  show fnP (bPly (bAdd _ _)) x = _
  rw [fn_add, fn_by, fn_by, fn_mul, bv_of]
  have e : ((-1 : Int) : Rat) = -1 := rfl
  rw [e]
  show ((ld.2 : Int) : Rat) * _ + _ = _
  grind
omit hb hab in
theorem dQ_fn (ld : Bg) (q : BP) (x : Rat) : fnP (bPly (dQ a b ld q)) x = ((ld.2 : Int) : Rat) * fnP (bPly q) x + fnP (bPly (dTm a b ld)) x := by
  show fnP (bPly (bAdd _ _)) x = _
  rw [fn_add, fn_by]
  rfl
end
/-- How often. -/
def dcn (b : BP) (ld : Bg) : Nat → BP × BP → Nat
  | 0, _ => 0
  | k + 1, s => if b.1 ≤ s.1.1 then dcn b ld k (dst b ld s) + 1 else 0
theorem dits_succ (b : BP) (ld : Bg) : ∀ k s, dits b ld (dst b ld s) k = dits b ld s (k + 1)
  | 0, _ => rfl
  | k + 1, s => by show dst b ld (dits b ld (dst b ld s) k) = dst b ld (dits b ld s (k + 1)); rw [dits_succ b ld k s]
theorem dcn_ok {b : BP} (hb : 1 ≤ b.1) : ∀ (k : Nat) (s : BP × BP), s.1.1 ≤ k → (∀ j, j < dcn b (b.2 (b.1 - 1)) k s → b.1 ≤ (dits b (b.2 (b.1 - 1)) s j).1.1) ∧ (dits b (b.2 (b.1 - 1)) s (dcn b (b.2 (b.1 - 1)) k s)).1.1 < b.1
  | 0, s, h => ⟨fun j hj => by have : j < 0 := hj; omega, by show s.1.1 < b.1; omega⟩
  | k + 1, s, h => by
    unfold dcn
    by_cases hs : b.1 ≤ s.1.1
    · rw [if_pos hs]
      have hl := dA_len (a := s.1) hb hs
      obtain ⟨h1, h2⟩ := dcn_ok hb k (dst b (b.2 (b.1 - 1)) s) (by show (dA s.1 b (b.2 (b.1 - 1))).1 ≤ k; omega)
      refine ⟨fun j hj => ?_, ?_⟩
      · cases j with
        | zero => exact hs
        | succ j => rw [← dits_succ]; exact h1 j (by omega)
      · rw [← dits_succ]; exact h2
    · rw [if_neg hs]
      exact ⟨fun j hj => by omega, by show s.1.1 < b.1; omega⟩
def q0 : BP := (0, fun _ => (false, 0))
def dvN (a b : BP) : Nat := dcn b (b.2 (b.1 - 1)) a.1 (a, q0)
/-- What is left, and what comes out. -/
def dvP (a b : BP) : BP × BP := dits b (b.2 (b.1 - 1)) (a, q0) (dvN a b)
section
variable {a b : BP} {M : Nat} (hb : 1 ≤ b.1) (ha5 : a.1 ≤ 5) (hb5 : b.1 ≤ 5) (hM : M ≤ 1000000000) (pa : PBP a M) (pb : PBP b M)
include hb ha5 hb5 hM pa pb
theorem dv_inv : ∀ k, k ≤ dvN a b → (dits b (b.2 (b.1 - 1)) (a, q0) k).1.1 + k ≤ a.1 ∧ (dits b (b.2 (b.1 - 1)) (a, q0) k).2.1 ≤ 5 ∧ PBP (dits b (b.2 (b.1 - 1)) (a, q0) k).1 (M + k * (M + 10)) ∧ PBP (dits b (b.2 (b.1 - 1)) (a, q0) k).2 (M + k * (M + 10))
  | 0, _ => ⟨by show a.1 + 0 ≤ a.1; omega, by show 0 ≤ 5; omega, pa.le (by omega), fun i hi => by have : i < 0 := hi; omega⟩
  | k + 1, hk => by
    obtain ⟨h1, h2, h3, h4⟩ := dv_inv k (by omega)
    have hge := (dcn_ok hb a.1 (a, q0) (Nat.le_refl _)).1 k (show k < dvN a b by omega)
    have hld : nw (b.2 (b.1 - 1)).2 ≤ M := pb (b.1 - 1) (by omega)
    generalize hs : dits b (b.2 (b.1 - 1)) (a, q0) k = s at *
    have hl := dA_len (a := s.1) hb hge
    have hc : nw (dC s.1 (b.2 (b.1 - 1))).2 ≤ M + k * (M + 10) := by
      have := h3 (s.1.1 - 1) (by omega)
      unfold dC
      split
      · exact this
      · exact this
    have hs1 : dits b (b.2 (b.1 - 1)) (a, q0) (k + 1) = dst b (b.2 (b.1 - 1)) s := by show dst _ _ (dits b (b.2 (b.1 - 1)) (a, q0) k) = _; rw [hs]
    have em : (k + 1) * (M + 10) = k * (M + 10) + (M + 10) := Nat.succ_mul k (M + 10)
    rw [hs1, em]
    have t1 : PBP (dTm s.1 b (b.2 (b.1 - 1))) (M + k * (M + 10)) := pb_tm hc
    have lt1 : (dTm s.1 b (b.2 (b.1 - 1))).1 ≤ 5 := by show s.1.1 - b.1 + 1 ≤ 5; omega
    generalize k * (M + 10) = K at *
    refine ⟨by show (dA s.1 b (b.2 (b.1 - 1))).1 + (k + 1) ≤ a.1; omega, ?_, ?_, ?_⟩
    · have g1 := len_add (bBy s.2 (false, (b.2 (b.1 - 1)).2)) (dTm s.1 b (b.2 (b.1 - 1)))
      have g2 := len_by s.2 (false, (b.2 (b.1 - 1)).2)
      show (bAdd (bBy s.2 (false, (b.2 (b.1 - 1)).2)) (dTm s.1 b (b.2 (b.1 - 1)))).1 ≤ 5
      omega
    · have g1 := pb_by (k := (false, (b.2 (b.1 - 1)).2)) h3 hld
      have g2 := pb_mul t1 pb
      have g3 := pb_by (k := bOf (-1)) g2 (nw_of (x := -1) ⟨by decide, by decide⟩)
      exact (pb_add (g1.le (show _ ≤ M + K + M + 9 by omega)) (g3.le (by omega))).le (by omega)
    · have g1 := pb_by (k := (false, (b.2 (b.1 - 1)).2)) h4 hld
      exact (pb_add (g1.le (show _ ≤ M + K + M by omega)) (t1.le (by omega))).le (by omega)
theorem dvN_le : dvN a b ≤ 5 := by
  have := (dv_inv hb ha5 hb5 hM pa pb (dvN a b) (Nat.le_refl _)).1
  omega
theorem dv_bound : (dvP a b).1.1 < b.1 ∧ (dvP a b).2.1 ≤ 5 ∧ PBP (dvP a b).1 (6 * M + 50) ∧ PBP (dvP a b).2 (6 * M + 50) := by
  obtain ⟨h1, h2, h3, h4⟩ := dv_inv hb ha5 hb5 hM pa pb (dvN a b) (Nat.le_refl _)
  have hn := dvN_le hb ha5 hb5 hM pa pb
  have hm : dvN a b * (M + 10) ≤ 5 * (M + 10) := Nat.mul_le_mul_right _ hn
  exact ⟨(dcn_ok hb a.1 (a, q0) (Nat.le_refl _)).2, h2, h3.le (by omega), h4.le (by omega)⟩
end
theorem dv_BT {a b : BP} (ha : BT a) : BT (dvP a b).1 := by
  unfold dvP
  generalize dvN a b = k
  cases k with
  | zero => exact ha
  | succ k => exact btl_top _ _
theorem dv_fn {a b : BP} (hb : 1 ≤ b.1) (hbt : BT b) : ∃ c : Rat, 0 < c ∧ ∀ x, c * fnP (bPly a) x = fnP (bPly (dvP a b).2) x * fnP (bPly b) x + fnP (bPly (dvP a b).1) x := by
  unfold dvP
  have hld : (0 : Rat) < (((b.2 (b.1 - 1)).2 : Int) : Rat) := by
    have h := hbt.resolve_left (by omega)
    have : (b.2 (b.1 - 1)).2 ≠ 0 := fun e => h (bv_zero.2 e)
    exact Rat.intCast_lt_intCast.2 (show (0 : Int) < ((b.2 (b.1 - 1)).2 : Int) by omega)
  generalize dvN a b = k
  induction k with
  | zero =>
    refine ⟨1, by decide, fun x => ?_⟩
    show 1 * fnP (bPly a) x = fnP (bPly q0) x * _ + fnP (bPly a) x
    have e : fnP (bPly q0) x = 0 := rfl
    rw [e]
    grind
  | succ k ih =>
    obtain ⟨c, hc, ih⟩ := ih
    refine ⟨(((b.2 (b.1 - 1)).2 : Int) : Rat) * c, Rat.mul_pos hld hc, fun x => ?_⟩
    show _ = fnP (bPly (dQ _ b _ _)) x * _ + fnP (bPly (dA _ b _)) x
    rw [dQ_fn, dA_fn, Rat.mul_assoc, ih x]
    grind
end Go.Proofs.Ytgijfbcfajhmlaa
