/-
  Rt1 Rt2 Tq1 Tq2 Tq3 Tq4 Arg0, one behind the other.
-/
import Derived.Test.YtgijfbcfajhmlaaM6
import Derived.Test.YtgijfbcfajhmlaaM1
import Derived.Test.YtgijfbcfajhmlaaGi
namespace Go.Proofs.Ytgijfbcfajhmlaa
open Go.Gv
open Go.Sturm (Pol hq SA SB cA cB FirstAt Dk alti cnt ind Chain Chain0 xp sh)

def fnP (p : Ply) : Go.Sturm.Fn := fun x => hq p.2 x 0 p.1
theorem fnP_pol (p : Ply) : Pol (fnP p) := Go.Sturm.hq_pol p.2 p.1 0
theorem fnP_D (p : Ply) : Go.Sturm.D (fnP p) = fnP (p.1 - 1, dsl p.2) := Go.Sturm.D_poly (fun _ => rfl) p.1
theorem fnP_Dk (p : Ply) : ∀ j, Dk j (fnP p) = fnP (p.1 - j, dit p.2 j)
  | 0 => rfl
  | j + 1 => by
    rw [Go.Sturm.Dk_succ, fnP_Dk p j, fnP_D]
    show fnP (p.1 - j - 1, dsl (dit p.2 j)) = _
    rw [Nat.sub_sub]
    rfl
theorem hq_hor (f : Nat → Int) (x : Int) (d i : Nat) : hq f (x : Rat) i d = ((hor f x i d : Int) : Rat) := Go.Sturm.hq_int (h := hor) (fun _ _ _ => by simp only [hor]) (fun _ _ _ _ => by simp only [hor]) f x d i
theorem fnP_at (p : Ply) (x : Int) (j : Nat) : Dk j (fnP p) (x : Rat) = ((hv p.2 p.1 x j : Int) : Rat) := by
  rw [fnP_Dk]
  exact hq_hor _ _ _ _
theorem sg_cast (n : Int) : Go.Sturm.sg (n : Rat) = n.sign := by
  rcases sign_cases n with ⟨h, e⟩ | ⟨h, e⟩ | ⟨h, e⟩
  all_goals first
    | (rw [e]; subst h; exact Go.Sturm.sg_zero)
    | (rw [e]; exact Go.Sturm.sg_neg (Rat.intCast_lt_intCast.2 h))
    | (rw [e]; exact Go.Sturm.sg_pos (Rat.intCast_lt_intCast.2 h))
theorem pw1_alt : ∀ k, pw1 (-1) k = alti k
  | 0 => rfl
  | k + 1 => by show pw1 (-1) k * -1 = -alti k; rw [pw1_alt k]; omega
theorem pw1_one : ∀ k, pw1 1 k = 1
  | 0 => rfl
  | k + 1 => by show pw1 1 k * 1 = 1; rw [pw1_one k]; rfl
theorem cast_ne {n : Int} (h : n ≠ 0) : ((n : Int) : Rat) ≠ 0 := fun e => h (Rat.intCast_inj.1 (by rw [e]; rfl))
section
variable {p : Ply} (hp : 0 < p.1) (ht : Tp p)
include hp ht
theorem fnP_first (x : Int) : FirstAt (fnP p) (x : Rat) (fnz (hv p.2 p.1 x) p.1) := by
  obtain ⟨_, h2, h3⟩ := nz_at hp ht x
  refine ⟨fun j hj => ?_, ?_⟩
  · rw [fnP_at, h2 j hj]; rfl
  · rw [fnP_at]; exact cast_ne h3
theorem sgSd_A (x : Int) : sgSd (-1) p x = SA (fnP p) (x : Rat) := by
  rw [Go.Sturm.SA_of (fnP_first hp ht x), fnP_at, sg_cast, ← pw1_alt]
  rfl
theorem sgSd_B (x : Int) : sgSd 1 p x = SB (fnP p) (x : Rat) := by
  rw [Go.Sturm.SB_of (fnP_first hp ht x), fnP_at, sg_cast]
  unfold sgSd
  rw [pw1_one, Int.mul_one]
theorem fnP_nz : fnP p ≠ fun _ => 0 := fun e => by
  have := (fnP_first hp ht 0).2
  rw [e, Go.Sturm.Dk_zero] at this
  exact this rfl
end
/-! ### The chain -/
theorem fn_rstep {m : Nat} {g : Nat → Int} {p : Ply} (hm : 1 ≤ m) (hmp : m ≤ p.1) (hp : Cn p.1 p.2) (hg : Cn m g) (x : Rat) : fnP (rstep m g p) x = (tpA g m : Rat) * fnP p x + (ldA p.2 p.1 g m : Rat) * (xp x (p.1 - m) * hq g x 0 m) := by
  have hc := tl_Cn (rst_Cn hm hmp hp hg)
  have hl := tl_le (rst p.2 p.1 g m) (p.1 - 1)
  have e1 : fnP (rstep m g p) x = hq (rst p.2 p.1 g m) x 0 p.1 := (Go.Sturm.hq_len (fun j hj => hc j hj) (by omega)).symm
  have e2 : rst p.2 p.1 g m = fun q => p.2 q * tpA g m + sh (p.1 - m) g q * ldA p.2 p.1 g m := funext fun q => by
    unfold rst sh
    by_cases h : p.1 - m ≤ q
    · rw [if_pos h, if_pos h, Int.mul_comm (ldA _ _ _ _)]
    · rw [if_neg h, if_neg h, Int.zero_mul]
  rw [e1, e2, Go.Sturm.hq_add (fun q => p.2 q * tpA g m) (fun q => sh (p.1 - m) g q * ldA p.2 p.1 g m), Go.Sturm.hq_smul, Go.Sturm.hq_smul]
  have e3 := Go.Sturm.hq_shift (p.1 - m) g x m
  rw [show p.1 - m + m = p.1 by omega] at e3
  rw [e3]
  show hq p.2 x 0 p.1 * _ + _ = _ * hq p.2 x 0 p.1 + _
  grind
theorem fn_rit {m : Nat} {g : Nat → Int} {p : Ply} (hm : 1 ≤ m) (hp : Cn p.1 p.2) (hg : Cn m g) (ht : g (m - 1) ≠ 0) : ∀ t, (∀ j, j < t → m ≤ (rit m g j p).1) → ∃ (a : Rat) (Q : Go.Sturm.Fn), 0 < a ∧ Pol Q ∧ ∀ x, fnP (rit m g t p) x = a * fnP p x + Q x * fnP (m, g) x
  | 0, _ => ⟨1, fun _ => 0, by decide, Pol.zero, fun x => by show fnP p x = _; grind⟩
  | t + 1, h => by
    obtain ⟨a, Q, ha, hQ, e⟩ := fn_rit hm hp hg ht t fun j hj => h j (by omega)
    have hc := (rit_Cn hm hg hp (k := t) (fun j hj => h j (by omega)) t (Nat.le_refl _)).1
    have hT : (0 : Rat) < (tpA g m : Rat) := by
      have : 0 < tpA g m := by unfold tpA; omega
      exact Rat.intCast_lt_intCast.2 this
    refine ⟨(tpA g m : Rat) * a, fun x => (tpA g m : Rat) * Q x + (ldA (rit m g t p).2 (rit m g t p).1 g m : Rat) * xp x ((rit m g t p).1 - m), Rat.mul_pos hT ha, (hQ.smul _).add ((Go.Sturm.xp_pol _).smul _), fun x => ?_⟩
    rw [rit_succ, fn_rstep hm (h t (by omega)) hc hg, e x]
    show _ + _ * (_ * fnP (m, g) x) = _
    grind
theorem fn_neg (n : Nat) (f : Nat → Int) (x : Rat) : fnP (n, pneg f) x = -fnP (n, f) x := by
  have h := Go.Sturm.hq_smul (-1) f x n 0
  have e : pneg f = fun q => f q * -1 := funext fun q => by unfold pneg; omega
  show hq (pneg f) x 0 n = -hq f x 0 n
  rw [e, h]
  have : ((-1 : Int) : Rat) = -1 := rfl
  rw [this]
  grind
theorem fn_nxt {a b : Ply} (hb : 0 < b.1) (ha : Cn a.1 a.2) (hc : Cn b.1 b.2) (ht : Tp b) : ∃ (c : Rat) (Q : Go.Sturm.Fn), 0 < c ∧ Pol Q ∧ ∀ x, c * fnP a x + fnP (nxt a b) x = Q x * fnP b x := by
  obtain ⟨h1, h2⟩ := rcn_ok (m := b.1) hb b.2 a.1 a (Nat.le_refl _)
  obtain ⟨c, Q, h3, hQ, e⟩ := fn_rit hb ha hc (ht.resolve_left (by omega)) _ h1
  refine ⟨c, fun x => -Q x, h3, hQ.neg, fun x => ?_⟩
  have e2 : fnP (nxt a b) x = -fnP (rrem b.1 b.2 a) x := fn_neg _ _ x
  have e3 : fnP (rrem b.1 b.2 a) x = _ := e x
  rw [e2, e3]
  grind
theorem nxt_Cn {a b : Ply} (hb : 0 < b.1) (ha : Cn a.1 a.2) (hc : Cn b.1 b.2) : Cn (nxt a b).1 (nxt a b).2 := by
  obtain ⟨h1, h2⟩ := rcn_ok (m := b.1) hb b.2 a.1 a (Nat.le_refl _)
  have := (rit_Cn hb hc ha h1 _ (Nat.le_refl _)).1
  intro i hi
  show -(rrem b.1 b.2 a).2 i = 0
  rw [show (rrem b.1 b.2 a).2 i = 0 from this i hi]
  rfl
section
variable {P : Ply} (h2 : 2 ≤ P.1) (hc : Cn P.1 P.2) (ht : Tp P)
include hc in
theorem cq_Cn : ∀ j, j ≤ chN' P → Cn (cq P j).1 (cq P j).2 ∧ Cn (cq P (j + 1)).1 (cq P (j + 1)).2
  | 0, _ => ⟨hc, dsl_Cn hc⟩
  | j + 1, hj => by
    obtain ⟨a, b⟩ := cq_Cn j (by omega)
    exact ⟨b, nxt_Cn ((chN'_ok P).2.1 j (by omega)) a b⟩
include h2 in
theorem chN'_one : 1 ≤ chN' P := by
  obtain ⟨_, _, h3⟩ := chN'_ok P
  refine Nat.pos_of_ne_zero fun e => ?_
  rw [e] at h3
  have : P.1 - 1 = 0 := h3
  omega
include h2 in
theorem cq_pos {j : Nat} (hj : j ≤ chN' P) : 0 < (cq P j).1 := by
  cases j with
  | zero => show 0 < P.1; omega
  | succ j => exact (chN'_ok P).2.1 j (by omega)
include h2 hc ht
theorem cq_step {i : Nat} (hi : i + 1 ≤ chN' P) : ∃ (c : Rat) (Q : Go.Sturm.Fn), 0 < c ∧ Pol Q ∧ ∀ x, c * fnP (cq P i) x + fnP (cq P (i + 2)) x = Q x * fnP (cq P (i + 1)) x := fn_nxt (cq_pos h2 hi) (cq_Cn hc i (by omega)).1 (cq_Cn hc i (by omega)).2 (cq_Tp ht i).2
theorem cq_chain : Chain (fun i => fnP (cq P i)) (chN' P) := by
  have st : ∀ i, i + 2 ≤ chN' P → ∃ (a b : Rat) (Q : Go.Sturm.Fn), 0 < a ∧ 0 < b ∧ Pol Q ∧ ∀ x, a * fnP (cq P i) x + b * fnP (cq P (i + 2)) x = Q x * fnP (cq P (i + 1)) x := fun i hi => by
    obtain ⟨c, Q, h1, h3, h4⟩ := cq_step h2 hc ht (i := i) (by omega)
    exact ⟨c, 1, Q, h1, by decide, h3, fun x => by rw [← h4 x]; grind⟩
  refine ⟨⟨fun i _ => fnP_pol _, fun i hi => fnP_nz (cq_pos h2 hi) (cq_Tp ht i).1, chN'_one h2, ⟨1, by decide, fun x => ?_⟩, fun i hi => ?_, ?_⟩, st⟩
  · show fnP (cq P 1) x = 1 * Go.Sturm.D (fnP P) x
    rw [fnP_D]
    show fnP (P.1 - 1, dsl P.2) x = _
    grind
  · obtain ⟨a, b, Q, h1, h3, h4, h5⟩ := st i hi
    exact ⟨a, b, Q, h1, by grind, h4, h5⟩
  · have h1 := chN'_one h2
    obtain ⟨c, Q, h3, h4, h5⟩ := cq_step h2 hc ht (i := chN' P - 1) (by omega)
    refine ⟨c, Q, h3, h4, fun x => ?_⟩
    have h6 := h5 x
    rw [show chN' P - 1 + 2 = chN' P + 1 by omega, show chN' P - 1 + 1 = chN' P by omega] at h6
    have e : fnP (cq P (chN' P + 1)) x = 0 := by
      show hq _ x 0 (cq P (chN' P + 1)).1 = 0
      rw [(chN'_ok P).2.2]
      rfl
    rw [e] at h6
    rw [← h6]
    grind
omit h2 hc ht in
theorem cgC_cnt {s : Nat → Int} (h0 : s 0 ≠ 0) : ∀ k, cgC s (k + 1) = cnt s 0 k
  | 0 => by
    show 0 + (if s 0 = -0 then 1 else 0) = 0
    rw [if_neg (by simpa using h0)]
    rfl
  | k + 1 => by
    rw [Go.Sturm.cnt_snoc, Nat.zero_add]
    show cgC s (k + 1) + (if s (k + 1) = -s k then 1 else 0) = cnt s 0 k + (if s (k + 1) = -s k then 1 else 0)
    rw [cgC_cnt h0 k]
omit hc in
theorem rtN_eq (a : Int) : rtN P a = cA (fun i => fnP (cq P i)) (chN' P) (a : Rat) := by
  have h0 : sgSd (-1) (cq P 0) a ≠ 0 := by rcases sgSd_one (cq_pos h2 (Nat.zero_le _)) (cq_Tp ht 0).1 (Or.inr rfl) a with e | e <;> rw [e] <;> decide
  show cgC (fun q => sgSd (-1) (cq P q) a) (chN' P + 1) = _
  rw [cgC_cnt h0]
  exact Go.Sturm.cnt_congr fun i _ hi => sgSd_A (cq_pos h2 (by omega)) (cq_Tp ht i).1 a
omit hc in
theorem rtC_eq (a : Int) : rtC P a = cB (fun i => fnP (cq P i)) (chN' P) (a : Rat) := by
  have h0 : sgSd 1 (cq P 0) a ≠ 0 := by rcases sgSd_one (cq_pos h2 (Nat.zero_le _)) (cq_Tp ht 0).1 (Or.inl rfl) a with e | e <;> rw [e] <;> decide
  show cgC (fun q => sgSd 1 (cq P q) a) (chN' P + 1) = _
  rw [cgC_cnt h0]
  exact Go.Sturm.cnt_congr fun i _ hi => sgSd_B (cq_pos h2 (by omega)) (cq_Tp ht i).1 a
theorem rt_mono {a b : Int} (h : a ≤ b) : rtN P b ≤ rtN P a := by
  rw [rtN_eq h2 ht, rtN_eq h2 ht]
  exact (cq_chain h2 hc ht).mono (Rat.intCast_le_intCast.2 h)
theorem rt_down {a b : Int} (h : a < b) : rtN P b ≤ rtC P a := by
  rw [rtN_eq h2 ht, rtC_eq h2 ht]
  exact (cq_chain h2 hc ht).down (Rat.intCast_lt_intCast.2 h)
theorem rt_ab (a : Int) : rtN P a = rtC P a + if hor P.2 a 0 P.1 = 0 then 1 else 0 := by
  rw [rtN_eq h2 ht, rtC_eq h2 ht, (cq_chain h2 hc ht).ab]
  have e : fnP (cq P 0) (a : Rat) = ((hor P.2 a 0 P.1 : Int) : Rat) := hq_hor _ _ _ _
  rw [e]
  by_cases h : hor P.2 a 0 P.1 = 0
  · rw [if_pos h, if_pos (by rw [h]; rfl)]
  · rw [if_neg h, if_neg (cast_ne h)]
theorem rt_same {a b : Int} (h : a ≤ b) (e : rtN P a = rtN P b) : sgSd (-1) P a = sgSd (-1) P b := by
  rw [rtN_eq h2 ht, rtN_eq h2 ht] at e
  rw [sgSd_A (show 0 < P.1 by omega) ht, sgSd_A (show 0 < P.1 by omega) ht]
  exact (cq_chain h2 hc ht).same (Rat.intCast_le_intCast.2 h) e
omit hc in
theorem sgSd_of {a : Int} (h : hor P.2 a 0 P.1 ≠ 0) : sgSd (-1) P a = (hor P.2 a 0 P.1).sign := by
  rw [sgSd_A (show 0 < P.1 by omega) ht]
  have hF : FirstAt (fnP P) (a : Rat) 0 := ⟨fun j hj => by omega, by rw [fnP_at]; exact cast_ne h⟩
  rw [Go.Sturm.SA_of hF, fnP_at, sg_cast]
  show _ * 1 = _
  rw [Int.mul_one]
  rfl
end
end Go.Proofs.Ytgijfbcfajhmlaa

namespace Go.Proofs.Ytgijfbcfajhmlaa
open Go.Gv

/-- Each place as often as the count falls there. -/
def can (N : Int → Int) : Int → Nat → List Int
  | _, 0 => []
  | a, d + 1 => List.replicate (N a - N (a + 1)).toNat a ++ can N (a + 1) d
theorem can_app (N : Int → Int) : ∀ d a e, can N a (d + e) = can N a d ++ can N (a + (d : Nat)) e
  | 0, a, e => by
    rw [Nat.zero_add]
    show can N a e = [] ++ can N (a + ((0 : Nat) : Int)) e
    rw [List.nil_append]
    congr 1
    omega
  | d + 1, a, e => by
    rw [show d + 1 + e = d + e + 1 by omega]
    show _ ++ can N (a + 1) (d + e) = (_ ++ can N (a + 1) d) ++ _
    rw [can_app N d (a + 1) e, List.append_assoc, show a + ((d + 1 : Nat) : Int) = a + 1 + (d : Nat) by omega]
theorem can_nil {N : Int → Int} : ∀ (d : Nat) (a : Int), (∀ y, a ≤ y → y < a + (d : Nat) → N y = N (y + 1)) → can N a d = []
  | 0, _, _ => rfl
  | d + 1, a, h => by
    show List.replicate (N a - N (a + 1)).toNat a ++ can N (a + 1) d = []
    rw [can_nil d (a + 1) fun y h1 h2 => h y (by omega) (by omega), h a (by omega) (by omega), Int.sub_self]
    rfl
theorem can_flat {N : Int → Int} {a : Int} {d : Nat} (mono : ∀ x y, a ≤ x → x ≤ y → y ≤ a + (d : Nat) → N y ≤ N x) (h : N a = N (a + (d : Nat))) : can N a d = [] := can_nil d a fun y h1 h2 => by
  have m1 := mono a y (by omega) h1 (by omega)
  have m2 := mono y (y + 1) h1 (by omega) (by omega)
  have m3 := mono (y + 1) (a + (d : Nat)) (by omega) (by omega) (by omega)
  omega
theorem can_one {N : Int → Int} {a q : Int} {d : Nat} (mono : ∀ x y, a ≤ x → x ≤ y → y ≤ a + (d : Nat) → N y ≤ N x) (h : N a - N (a + (d : Nat)) = 1) (h1 : a ≤ q) (h2 : q < a + (d : Nat)) (hq : N q ≠ N (q + 1)) : can N a d = [q] := by
  have m1 := mono a q (by omega) h1 (by omega)
  have m2 := mono q (q + 1) h1 (by omega) (by omega)
  have m3 := mono (q + 1) (a + (d : Nat)) (by omega) (by omega) (by omega)
  obtain ⟨k, hk⟩ : ∃ k : Nat, q = a + (k : Nat) := ⟨(q - a).toNat, by omega⟩
  have ed : d = k + (1 + (d - k - 1)) := by omega
  have e1 : can N a k = [] := can_flat (fun x y g1 g2 g3 => mono x y g1 g2 (by omega)) (by rw [← hk]; omega)
  have e2 : can N (q + 1) (d - k - 1) = [] := can_flat (fun x y g1 g2 g3 => mono x y (by omega) g2 (by omega)) (by rw [show q + 1 + ((d - k - 1 : Nat) : Int) = a + (d : Nat) by omega]; omega)
  rw [ed, can_app, e1, can_app, ← hk]
  show [] ++ ((List.replicate (N q - N (q + 1)).toNat q ++ []) ++ can N (q + ((1 : Nat) : Int)) (d - k - 1)) = [q]
  rw [show q + ((1 : Nat) : Int) = q + 1 from rfl, e2, show (N q - N (q + 1)).toNat = 1 by omega]
  rfl
theorem mem_can {N : Int → Int} {y : Int} : ∀ {d a}, y ∈ can N a d ↔ a ≤ y ∧ y < a + (d : Nat) ∧ 0 < N y - N (y + 1)
  | 0, a => ⟨fun h => absurd h (by simp [can]), fun h => by omega⟩
  | d + 1, a => by
    show y ∈ List.replicate (N a - N (a + 1)).toNat a ++ can N (a + 1) d ↔ _
    rw [List.mem_append, List.mem_replicate, mem_can (d := d)]
    constructor
    · rintro (⟨h1, rfl⟩ | ⟨h1, h2, h3⟩)
      · exact ⟨by omega, by omega, by omega⟩
      · exact ⟨by omega, by omega, h3⟩
    · rintro ⟨h1, h2, h3⟩
      by_cases e : y = a
      · subst e; exact Or.inl ⟨by omega, rfl⟩
      · exact Or.inr ⟨by omega, by omega, h3⟩
theorem can_sorted (N : Int → Int) : ∀ d a, (can N a d).Pairwise (· ≤ ·)
  | 0, _ => List.Pairwise.nil
  | d + 1, a => by
    show (List.replicate (N a - N (a + 1)).toNat a ++ can N (a + 1) d).Pairwise _
    rw [List.pairwise_append]
    refine ⟨List.pairwise_replicate.2 (Or.inr (Int.le_refl _)), can_sorted N d (a + 1), fun x hx y hy => ?_⟩
    have := (List.mem_replicate.1 hx).2
    have := (mem_can.1 hy).1
    omega
/-! ### What single and seek give -/
theorem sgi_sg {S : Int → Int} {s : Int} : ∀ j p, S p.1 = s → S p.2 ≠ s → S (sgi S s j p).1 = s ∧ S (sgi S s j p).2 ≠ s
  | 0, _, h1, h2 => ⟨h1, h2⟩
  | j + 1, p, h1, h2 => by
    obtain ⟨g1, g2⟩ := sgi_sg j p h1 h2
    rw [sgi_succ]
    unfold sgs
    by_cases h : S (mdI (sgi S s j p).1 (sgi S s j p).2) = s
    · rw [if_pos h]; exact ⟨h, g2⟩
    · rw [if_neg h]; exact ⟨g1, h⟩
theorem sgl_ok {S : Int → Int} {a b : Int} (hab : a < b) (hne : S a ≠ S b) : a ≤ sgl S (S a) a b ∧ sgl S (S a) a b < b ∧ S (sgl S (S a) a b) ≠ S (sgl S (S a) a b + 1) := by
  obtain ⟨h1, h2, h3⟩ := sgn_ok S (S a) (b - a).toNat (a, b) hab (Nat.le_refl _)
  obtain ⟨g1, g2, g3⟩ := h3 _ (Nat.le_refl _)
  obtain ⟨k1, k2⟩ := sgi_sg (S := S) (s := S a) (sgn S (S a) (b - a).toNat (a, b)) (a, b) rfl (Ne.symm hne)
  have e : sgl S (S a) a b = (sgi S (S a) (sgn S (S a) (b - a).toNat (a, b)) (a, b)).1 := rfl
  replace g1 : a ≤ (sgi S (S a) (sgn S (S a) (b - a).toNat (a, b)) (a, b)).1 := g1
  replace g2 : (sgi S (S a) (sgn S (S a) (b - a).toNat (a, b)) (a, b)).2 ≤ b := g2
  rw [e]
  refine ⟨g1, by omega, ?_⟩
  rw [k1, show (sgi S (S a) (sgn S (S a) (b - a).toNat (a, b)) (a, b)).1 + 1 = (sgi S (S a) (sgn S (S a) (b - a).toNat (a, b)) (a, b)).2 by omega]
  exact Ne.symm k2
theorem skL_can {N S : Int → Int} {lo hi : Int} (mono : ∀ x y, lo ≤ x → x ≤ y → y ≤ hi → N y ≤ N x) (same : ∀ x y, lo ≤ x → x ≤ y → y ≤ hi → N x = N y → S x = S y) : ∀ d a b, lo ≤ a → a ≤ b → b ≤ hi → b - a ≤ (d : Nat) → skL N S (d + 1) a b = can N a (b - a).toNat := by
  intro d
  induction d with
  | zero =>
    intro a b h1 h2 h3 h4
    have e : a = b := by omega
    subst e
    show (if N a = N a then [] else _) = _
    rw [if_pos rfl, show (a - a).toNat = 0 by omega]
    rfl
  | succ d ih =>
    intro a b h1 h2 h3 h4
    have eb : a + (((b - a).toNat : Nat) : Int) = b := by omega
    have mono' : ∀ x y, a ≤ x → x ≤ y → y ≤ a + (((b - a).toNat : Nat) : Int) → N y ≤ N x := fun x y g1 g2 g3 => mono x y (by omega) g2 (by omega)
    show (if N a = N b then [] else if b - a = 1 then List.replicate (N a - N b).toNat a else if N a - N b = 1 ∧ S a ≠ S b then [sgl S (S a) a b] else skL N S (d + 1) a (mdI a b) ++ skL N S (d + 1) (mdI a b) b) = _
    by_cases c1 : N a = N b
    · rw [if_pos c1, can_flat mono' (by rw [eb]; exact c1)]
    rw [if_neg c1]
    by_cases c2 : b - a = 1
    · rw [if_pos c2, c2]
      show _ = List.replicate (N a - N (a + 1)).toNat a ++ []
      rw [List.append_nil, show a + 1 = b by omega]
    rw [if_neg c2]
    have hlt : a < b := by
      rcases Int.lt_or_le a b with h | h
      · exact h
      · exact absurd (by rw [show a = b by omega]) c1
    by_cases c3 : N a - N b = 1 ∧ S a ≠ S b
    · rw [if_pos c3]
      obtain ⟨q1, q2, q3⟩ := sgl_ok hlt c3.2
      exact (can_one mono' (by rw [eb]; exact c3.1) q1 (by omega) fun e => q3 (same _ _ (by omega) (by omega) (by omega) e)).symm
    rw [if_neg c3]
    have hm : a < mdI a b ∧ mdI a b < b := by unfold mdI; omega
    rw [ih a (mdI a b) h1 (by omega) (by omega) (by omega), ih (mdI a b) b (by omega) (by omega) h3 (by omega)]
    rw [show (b - a).toNat = (mdI a b - a).toNat + (b - mdI a b).toNat by omega, can_app]
    congr 2
    omega
/-- The code's places. -/
theorem plcP_can {p : Ply} (h2 : 2 ≤ p.1) (hc : Cn p.1 p.2) (ht : Tp p) {lo hi : Int} (hlh : lo ≤ hi) : plcP p lo hi = can (rtN (finP p)) lo (hi - lo).toNat ++ if rtN (finP p) hi > rtC (finP p) hi then [hi] else [] := by
  unfold plcP plcs
  rw [skL_can (fun x y _ h _ => rt_mono (P := finP p) h2 (fin_Cn hc) (fin_Tp ht) h) (fun x y _ h _ e => rt_same (P := finP p) h2 (fin_Cn hc) (fin_Tp ht) h e) _ lo hi (Int.le_refl _) hlh (Int.le_refl _) (by omega)]
/-- The code's Roots, with no premise. -/
theorem roots_spec {n : Nat} {p : Nat → Int} {lo hi : Int} (hn : n ≤ 4611686018427387904) (hc : Cn n p) : FSpec Try.prog 7 [sJ n p, iA lo, iA hi] (rtA (rtOut n p lo hi)) := by
  by_cases h2 : 2 ≤ tl p n
  · have ht : Tp (rtP n p) := by
      by_cases g : tl p n = 0
      · exact Or.inl g
      · exact Or.inr (tl_top p n g)
    exact ro_spec hn hc fun a b _ h _ => rt_mono (P := finP (rtP n p)) h2 (fin_Cn (tl_Cn hc)) (fin_Tp ht) h
  · refine ro_spec hn hc fun a b _ h _ => ?_
    have e1 : (finP (rtP n p)).1 = tl p n := rfl
    have hk : chN' (finP (rtP n p)) = 0 := by
      obtain ⟨g1, g2, g3⟩ := chN'_ok (finP (rtP n p))
      refine Decidable.byContradiction fun hh => ?_
      have := g2 0 (by omega)
      have e2 : (cq (finP (rtP n p)) 1).1 = tl p n - 1 := rfl
      rw [e2] at this
      omega
    unfold rtN Nsd
    rw [hk]
    have hz : ∀ s : Nat → Int, cgC s 1 = if s 0 = 0 then 1 else 0 := fun s => by
      show 0 + (if s 0 = -0 then 1 else 0) = _
      simp
    rw [hz, hz]
    by_cases h0 : tl p n = 0
    · have hs : ∀ x, sgSd (-1) (cq (finP (rtP n p)) 0) x = 0 := fun x => by
        show Int.sign (hv (finP (rtP n p)).2 (finP (rtP n p)).1 x (fnz (hv (finP (rtP n p)).2 (finP (rtP n p)).1 x) (finP (rtP n p)).1)) * _ = 0
        rw [e1, h0]
        have e3 : hv (finP (rtP n p)).2 0 x (fnz (hv (finP (rtP n p)).2 0 x) 0) = 0 := rfl
        rw [e3]
        exact Int.zero_mul _
      rw [hs, hs]
      exact Int.le_refl _
    · have ht : Tp (finP (rtP n p)) := fin_Tp (Or.inr (tl_top p n h0))
      have hs : ∀ x, sgSd (-1) (cq (finP (rtP n p)) 0) x ≠ 0 := fun x => by
        rcases sgSd_one (p := finP (rtP n p)) (show 0 < tl p n by omega) ht (Or.inr rfl) x with e | e
        · show sgSd (-1) (finP (rtP n p)) x ≠ 0; rw [e]; decide
        · show sgSd (-1) (finP (rtP n p)) x ≠ 0; rw [e]; decide
      rw [if_neg (hs _), if_neg (hs _)]
      exact Int.le_refl _
end Go.Proofs.Ytgijfbcfajhmlaa

namespace Go.Proofs.Ytgijfbcfajhmlaa
open Go.Gv

def rA (M : Nat) (P : Nat → Int) : Row := .a 3 1 M fun q => [iA (P q)]
def tqI (n : Nat) (l : Nat → Int) (lo hi i r : Int) (M : Nat) (P : Nat → Int) (K : Nat) (Q : Nat → Int) (j : Int) : St := mkS 138 [(0, sJ n l), (1, iA lo), (2, iA hi), (9, .osl 0 1 0 M), (10, iA i), (11, iA r), (12, .osl 1 1 0 K), (13, iA j)] [rA M P, rA K Q]
def keepTqI : List Nat := [0, 1, 2, 9, 10, 11, 12, 13]
def tqO (n : Nat) (l : Nat → Int) (lo hi i : Int) (M : Nat) (P : Nat → Int) : St := mkS 138 [(0, sJ n l), (1, iA lo), (2, iA hi), (9, .osl 0 1 0 M), (10, iA i)] [rA M P]
def keepTqO : List Nat := [0, 1, 2, 9, 10]
def tqH (n : Nat) (l : Nat → Int) (hi : Int) (m : Nat) (A : Nat → Int) (k x : Int) (t : Bool) (i : Int) : St := mkS 138 [(0, sJ n l), (2, iA hi), (14, sJ m A), (16, iA k), (17, iA x), (18, bA t), (19, iA i)] []
def keepTqH : List Nat := [0, 2, 14, 16, 17, 18, 19]
def tqX (n : Nat) (l : Nat → Int) (hi : Int) (m : Nat) (A : Nat → Int) (k x : Int) : St := mkS 138 [(0, sJ n l), (2, iA hi), (14, sJ m A), (16, iA k), (17, iA x)] []
def keepTqX : List Nat := [0, 2, 14, 16, 17]
section
variable (n : Nat) (l : Nat → Int) (lo hi i r : Int) (M : Nat) (P : Nat → Int) (K : Nat) (Q : Nat → Int) (j : Int)
def tqC (k : Int) : Bool := (ixB k K || false) && (stU k.toNat K && ((ixB j M || false) && (stU j.toNat M && stB k K)))
def tqV1 : Int := w64 (Q (0 + j.toNat) - w64 (r * P (0 + j.toNat)))
def tqQ1 (q : Nat) : Int := cond (q == 0 + j.toNat) (tqV1 r P Q j) (Q q)
def tqV2 : Int := w64 (tqQ1 r P Q j (0 + (w64 (j + 1)).toNat) + P (0 + j.toNat))
def tqQ2 (q : Nat) : Int := cond (q == 0 + (w64 (j + 1)).toNat) (tqV2 r P Q j) (tqQ1 r P Q j q)
theorem tqI_step : evC Try.prog [] [] noL (loopAt Try.f5 1) (tqI n l lo hi i r M P K Q j) (finN keepTqI [some 0, some 1]) =
    cond (decide (j < (M : Int))) (cond (tqC M K j j) (cond (tqC M K j (w64 (j + 1))) (some ⟨.normal, tqI n l lo hi i r M P K (tqQ2 r P Q j) (w64 (j + 1)), .any⟩) none) none) none := by kernel_rfl
theorem tqI_end : evC Try.prog [] [] noL (loopAt Try.f5 1) (tqI n l lo hi i r M P K Q j) (finE keepTqI [some 0, some 1]) =
    cond (decide (j < (M : Int))) (cond (tqC M K j j) (cond (tqC M K j (w64 (j + 1))) none none) none) (some ⟨.exit 2, tqI n l lo hi i r M P K Q j, .any⟩) := by kernel_rfl
def mk8 (n : Int) : Bool := decide (0 ≤ n) && (decide (n ≤ n) && decide (((8 : Nat) : Int) * n ≤ 281474976710656))
noncomputable def tqL (Q1 : Nat → Int) : Nat → Option LFun := oneL 10 (toldF keepTqI [some 0, some 1] (tqI n l lo hi i r M P K (fun _ => 0) 0) (.exit 2) (tqI n l lo hi i r M P K Q1 (M : Nat)))
def tqR (pf : Int → Int → Int) : Int := w64 (pf (l i.toNat) 101 - 50)
noncomputable def tqT (pf : Int → Int → Int) (x z : Option Out) : Option Out := cond (decide (i < (n : Int))) (cond (ixB i n || false) (cond (mk8 (w64 ((M : Int) + 1)) || false) (gate (Sub (tqI n l lo hi i (tqR l i pf) M P (w64 ((M : Int) + 1)).toNat (fun _ => 0) 0) (tqI n l lo hi i r M P K (fun _ => 0) 0)) x) none) none) z
theorem tqO_step (pf : Int → Int → Int) (Q1 : Nat → Int) : evC Try.prog [] [kPick pf] (tqL n l lo hi i r M P K Q1) (loopAt Try.f5 0) (tqO n l lo hi i M P) (finN keepTqO [some 1]) =
    tqT n l lo hi i r M P K pf (some ⟨.normal, tqO n l lo hi (w64 (i + 1)) K Q1, .any⟩) none := by kernel_rfl
theorem tqO_end (pf : Int → Int → Int) : evC Try.prog [] [kPick pf] (oneL 10 fun _ _ => none) (loopAt Try.f5 0) (tqO n l lo hi i M P) (finE keepTqO [some 0]) =
    cond (decide (i < (n : Int))) (cond (ixB i n || false) (cond (mk8 (w64 ((M : Int) + 1)) || false) none none) none) (some ⟨.exit 0, tqO n l lo hi i M P, .any⟩) := by kernel_rfl
end
section
variable (n : Nat) (l : Nat → Int) (hi : Int) (m : Nat) (A : Nat → Int) (k x : Int) (t : Bool) (i : Int)
theorem tqH_step (pf : Int → Int → Int) : evC Try.prog [] [kPick pf] noL (loopAt Try.f5 3) (tqH n l hi m A k x t i) (finN keepTqH []) =
    cond (decide (i < (n : Int))) (cond (ixB i n || !(decide (t = false) && true)) (some ⟨.normal, tqH n l hi m A k x (cond t true (tqR l i pf == x)) (w64 (i + 1)), .any⟩) none) none := by kernel_rfl
theorem tqH_end (pf : Int → Int → Int) : evC Try.prog [] [kPick pf] noL (loopAt Try.f5 3) (tqH n l hi m A k x t i) (finE keepTqH []) =
    cond (decide (i < (n : Int))) (cond (ixB i n || !(decide (t = false) && true)) none none) (some ⟨.exit 6, tqH n l hi m A k x t i, .any⟩) := by kernel_rfl
noncomputable def thL : Nat → Option LFun := oneL 26 (toldF keepTqH [] (tqH n l hi m A k x false 0) (.exit 6) (tqH n l hi m A k x t (n : Nat)))
def thE : Bool := decide (k ≥ (m : Int))
def thF : Bool := cond (thE m k) true (!(A k.toNat == w64 (65536 * x)))
noncomputable def thT (r o z : Option Out) : Option Out := cond (decide (x ≤ hi)) (gate (Sub (tqH n l hi m A k x false 0) (tqH n l hi m A k x false 0)) (cond t (cond (ixB k m || !(decide (thE m k = false) && true)) (cond (thF m A k x) none r) none) o)) z
theorem tqX_step : evC Try.prog [] [] (thL n l hi m A k x t) (loopAt Try.f5 2) (tqX n l hi m A k x) (finN keepTqX []) =
    thT n l hi m A k x t (some ⟨.normal, tqX n l hi m A (w64 (k + 1)) (w64 (x + 1)), .any⟩) (some ⟨.normal, tqX n l hi m A k (w64 (x + 1)), .any⟩) none := by kernel_rfl
theorem tqX_end : evC Try.prog [] [] (oneL 26 fun _ _ => none) (loopAt Try.f5 2) (tqX n l hi m A k x) (finE keepTqX []) =
    cond (decide (x ≤ hi)) none (some ⟨.exit 4, tqX n l hi m A k x, .any⟩) := by kernel_rfl
end
end Go.Proofs.Ytgijfbcfajhmlaa

namespace Go.Proofs.Ytgijfbcfajhmlaa
open Go.Gv

def tqO0 (n : Nat) (l : Nat → Int) (lo hi c : Int) : St := mkS 138 [(0, sJ n l), (1, iA lo), (2, iA hi), (9, .osl 0 1 0 1), (10, iA 0)] [.a 3 1 1 (chunk [iA c] 1)]
def pk120 (pf : Int → Int → Int) (lo : Int) : Int := w64 (pf lo 120 - 60)
section
variable (n : Nat) (l : Nat → Int) (lo hi k : Int) (M : Nat) (P : Nat → Int) (pf : Int → Int → Int) (m : Nat) (A : Nat → Int) (e : Int) (c kf xf : Int)
noncomputable def tqTail : Option Out := cond (fz1 M) (gate (FSpec Try.prog 7 [sJ M P, iA (w64 (65536 * pk120 pf lo)), iA (w64 (65536 * pk120 pf hi))] (.tup [sJ m A, iA e])) (cond (!(e == 0)) (some (Out.of (bA false))) (gate (Sub (tqX n l (pk120 pf hi) m A 0 (pk120 pf lo)) (tqX n l (pk120 pf hi) m A 0 (pk120 pf lo))) (some (Out.of (bA (kf == (m : Int)))))))) none
theorem tq_ev : evZ Try.prog [] [kPick pf, kS Try.prog 7 (fun _ => .tup [sJ m A, iA e])] [] (twoL 5 (toldF keepTqO [some 0] (tqO n l lo hi 0 1 (fun _ => c)) (.exit 0) (tqO n l lo hi (n : Nat) M P)) 22 (toldF keepTqX [] (tqX n l (pk120 pf hi) m A 0 (pk120 pf lo)) (.exit 4) (tqX n l (pk120 pf hi) m A kf xf))) (oneZ 17 (frzK 0)) Try.f5 [sJ n l, iA lo, iA hi, iA k] ret =
    cond (decide ((n : Int) > 4)) (some (Out.of (bA true))) (gate (Sub (tqO0 n l lo hi (w64 (1 + pf k 9))) (tqO n l lo hi 0 1 (fun _ => c))) (tqTail n l lo hi M P pf m A e kf)) := by kernel_rfl
end
end Go.Proofs.Ytgijfbcfajhmlaa

namespace Go.Proofs.Ytgijfbcfajhmlaa
open Go.Gv
open Go.Sturm (Nest Pol hq cA cB)

/-- Times (x - r). -/
def pstep (r : Int) (P : Nat → Int) (q : Nat) : Int := (if 1 ≤ q then P (q - 1) else 0) - r * P q
def prd (c : Int) (rs : Nat → Int) : Nat → Nat → Int
  | 0 => fun q => if q = 0 then c else 0
  | i + 1 => pstep (rs i) (prd c rs i)
theorem pstep_Cn {r : Int} {P : Nat → Int} {M : Nat} (h : Cn M P) : Cn (M + 1) (pstep r P) := fun q hq => by
  unfold pstep
  rw [if_pos (by omega), h (q - 1) (by omega), h q (by omega), Int.mul_zero]
  rfl
theorem prd_Cn (c : Int) (rs : Nat → Int) : ∀ i, Cn (i + 1) (prd c rs i)
  | 0 => fun q hq => by show (if q = 0 then c else 0) = 0; rw [if_neg (by omega)]
  | i + 1 => pstep_Cn (prd_Cn c rs i)
theorem prd_top (c : Int) (rs : Nat → Int) : ∀ i, prd c rs i i = c
  | 0 => rfl
  | i + 1 => by
    show (if 1 ≤ i + 1 then prd c rs i (i + 1 - 1) else 0) - rs i * prd c rs i (i + 1) = c
    rw [if_pos (by omega), Nat.add_sub_cancel, prd_top c rs i, prd_Cn c rs i (i + 1) (by omega), Int.mul_zero, Int.sub_zero]
theorem abs_mul_le {a b : Int} {A B : Nat} (ha : a.natAbs ≤ A) (hb : b.natAbs ≤ B) : (a * b).natAbs ≤ A * B := by
  rw [Int.natAbs_mul]; exact Nat.mul_le_mul ha hb
theorem prd_bd {c : Int} {rs : Nat → Int} (hc : c.natAbs ≤ 9) : ∀ i, (∀ j, j < i → (rs j).natAbs ≤ 50) → ∀ q, (prd c rs i q).natAbs ≤ 9 * 51 ^ i
  | 0, _, q => by
    show (if q = 0 then c else 0).natAbs ≤ 9 * 51 ^ 0
    split <;> simp <;> omega
  | i + 1, h, q => by
    have ih := prd_bd hc i (fun j hj => h j (by omega))
    have h1 := abs_mul_le (h i (by omega)) (ih q)
    have h2 : (if 1 ≤ q then prd c rs i (q - 1) else 0).natAbs ≤ 9 * 51 ^ i := by
      split
      · exact ih _
      · exact Nat.zero_le _
    show ((if 1 ≤ q then prd c rs i (q - 1) else 0) - rs i * prd c rs i q).natAbs ≤ 9 * 51 ^ (i + 1)
    generalize (if 1 ≤ q then prd c rs i (q - 1) else 0) = a at *
    generalize rs i * prd c rs i q = b at *
    rw [Nat.pow_succ]
    generalize 51 ^ i = t at *
    omega
theorem prd_bd4 {c : Int} {rs : Nat → Int} (hc : c.natAbs ≤ 9) {i : Nat} (hi : i ≤ 4) (h : ∀ j, j < i → (rs j).natAbs ≤ 50) (q : Nat) : (prd c rs i q).natAbs ≤ 60886809 := by
  refine Nat.le_trans (prd_bd hc i h q) ?_
  have : 51 ^ i ≤ 51 ^ 4 := Nat.pow_le_pow_right (by decide) hi
  have e : (51 : Nat) ^ 4 = 6765201 := by decide
  omega
/-- Finer: the roots are farther apart. -/
def W6 (rs : Nat → Int) (j : Nat) : Int := 65536 * rs j
theorem prd_fin (c : Int) (rs : Nat → Int) : ∀ i, pfin (prd c rs i) (i + 1) = prd c (W6 rs) i
  | 0 => funext fun q => by
    show (if q = 0 then c else 0) * 65536 ^ (0 + 1 - 1 - q) = if q = 0 then c else 0
    by_cases h : q = 0
    · subst h; rw [if_pos rfl]; exact Int.mul_one c
    · rw [if_neg h, Int.zero_mul]
  | i + 1 => funext fun q => by
    have ih := prd_fin c rs i
    have e : ∀ t, prd c (W6 rs) i t = prd c rs i t * 65536 ^ (i + 1 - 1 - t) := fun t => by rw [← ih]; rfl
    show ((if 1 ≤ q then prd c rs i (q - 1) else 0) - rs i * prd c rs i q) * 65536 ^ (i + 1 + 1 - 1 - q) = (if 1 ≤ q then prd c (W6 rs) i (q - 1) else 0) - W6 rs i * prd c (W6 rs) i q
    rw [e, e, Int.sub_mul]
    congr 1
    · by_cases h : 1 ≤ q
      · rw [if_pos h, if_pos h, show i + 1 + 1 - 1 - q = i + 1 - 1 - (q - 1) by omega]
      · rw [if_neg h, if_neg h, Int.zero_mul]
    · by_cases h : q ≤ i
      · rw [show i + 1 + 1 - 1 - q = i + 1 - 1 - q + 1 by omega, Int.pow_succ]
        unfold W6
        generalize (65536 : Int) ^ (i + 1 - 1 - q) = t
        grind
      · rw [prd_Cn c rs i q (by omega)]
        simp
theorem fn_pstep {r : Int} {P : Nat → Int} {M : Nat} (h : Cn M P) (x : Rat) : fnP (M + 1, pstep r P) x = (x - (r : Rat)) * fnP (M, P) x := by
  have e : pstep r P = fun q => Go.Sturm.sh 1 P q + P q * -r := funext fun q => by
    unfold pstep Go.Sturm.sh
    rw [Int.mul_neg, Int.mul_comm r]
    rfl
  show hq (pstep r P) x 0 (M + 1) = _ * hq P x 0 M
  have e1 := Go.Sturm.hq_shift 1 P x M
  rw [e, Go.Sturm.hq_add (Go.Sturm.sh 1 P) (fun q => P q * -r), Go.Sturm.hq_smul, Nat.add_comm M 1, e1, Go.Sturm.hq_len (n := M) (m := 1 + M) (fun j hj => h j hj) (by omega)]
  show (1 * x) * hq P x 0 M + _ = _
  rw [Rat.intCast_neg]
  grind
/-- One of the roots? -/
def tb (rs : Nat → Int) : Nat → Int → Bool
  | 0, _ => false
  | i + 1, x => cond (tb rs i x) true (rs i == x)
theorem tb_iff {rs : Nat → Int} {x : Int} {i : Nat} : tb rs i x = true ↔ ∃ j, j < i ∧ rs j = x := by
  induction i with
  | zero => exact ⟨fun h => (by cases h), fun h => (by obtain ⟨j, hj, _⟩ := h; omega)⟩
  | succ i ih =>
    show cond (tb rs i x) true (rs i == x) = true ↔ _
    cases h : tb rs i x with
    | true =>
      obtain ⟨j, hj, e⟩ := ih.1 h
      exact ⟨fun _ => ⟨j, by omega, e⟩, fun _ => rfl⟩
    | false =>
      constructor
      · intro h2; exact ⟨i, by omega, eq_of_beq h2⟩
      · intro ⟨j, hj, e⟩
        by_cases hji : j = i
        · subst hji; show (rs j == x) = true; rw [e]; exact BEq.rfl
        · have := ih.2 ⟨j, by omega, e⟩
          rw [h] at this; cases this
theorem fn_prd_zero {c : Int} (hc : c ≠ 0) (w : Nat → Int) (x : Rat) : ∀ i, fnP (i + 1, prd c w i) x = 0 ↔ ∃ j, j < i ∧ x = (w j : Rat)
  | 0 => by
    have e : fnP (0 + 1, prd c w 0) x = (c : Rat) := by show 0 * x + ((c : Int) : Rat) = _; grind
    rw [e]
    exact ⟨fun h => absurd h (cast_ne hc), fun ⟨j, hj, _⟩ => by omega⟩
  | i + 1 => by
    show fnP (i + 1 + 1, pstep (w i) (prd c w i)) x = 0 ↔ _
    rw [fn_pstep (prd_Cn c w i), Rat.mul_eq_zero, fn_prd_zero hc w x i]
    constructor
    · rintro (h | ⟨j, hj, e⟩)
      · exact ⟨i, by omega, by grind⟩
      · exact ⟨j, by omega, e⟩
    · rintro ⟨j, hj, e⟩
      by_cases hji : j = i
      · subst hji; exact Or.inl (by grind)
      · exact Or.inr ⟨j, by omega, e⟩
theorem zr_term {N : Nest} {w : Rat} (h : N.Zr (fun x => x - w)) (n : Nat) : N.In n w := by
  refine ⟨Decidable.byContradiction fun hh => ?_, Decidable.byContradiction fun hh => ?_⟩
  · obtain ⟨m, hm⟩ := h ((N.u n - w) / 2) (by grind)
    have h1 := (hm (N.u (max m n)) (N.in_u (Nat.le_max_left m n))).2
    have h2 := N.u_le (Nat.le_max_right m n)
    grind
  · obtain ⟨m, hm⟩ := h ((w - N.v n) / 2) (by grind)
    have h1 := (hm (N.v (max m n)) (N.in_v (Nat.le_max_left m n))).1
    have h2 := N.v_le (Nat.le_max_right m n)
    grind
theorem zr_prd {c : Int} (hc : c ≠ 0) (w : Nat → Int) {N : Nest} : ∀ i, N.Zr (fnP (i + 1, prd c w i)) → ∃ j, j < i ∧ ∀ n, N.In n (w j : Rat)
  | 0, h => by
    have e : fnP (0 + 1, prd c w 0) = fun _ => (c : Rat) := funext fun x => by show 0 * x + ((c : Int) : Rat) = _; grind
    rw [e] at h
    obtain ⟨M, hM⟩ := Go.Sturm.nest_at 0
    have hne : (c : Rat) ≠ 0 := cast_ne hc
    rcases (show (c : Rat) < 0 ∨ 0 < (c : Rat) by grind) with g | g
    · exact absurd ⟨-(c : Rat), by grind, 0, fun x _ => by grind⟩ h.neg.not_Ps
    · exact absurd ⟨(c : Rat), g, 0, fun x _ => by grind⟩ h.not_Ps
  | i + 1, h => by
    have e : fnP (i + 1 + 1, prd c w (i + 1)) = fun x => (x - (w i : Rat)) * fnP (i + 1, prd c w i) x := funext fun x => fn_pstep (prd_Cn c w i) x
    rw [e] at h
    have hp : Pol (fun x : Rat => x - (w i : Rat)) := by
      have := (Pol.const 1).cons (-(w i : Rat))
      rwa [show (fun x : Rat => -(w i : Rat) + x * 1) = fun x => x - (w i : Rat) from funext fun x => by grind] at this
    rcases Nest.zr_mul hp (fnP_pol _) h with g | g
    · exact ⟨i, by omega, zr_term g⟩
    · obtain ⟨j, hj, hn⟩ := zr_prd hc w i g
      exact ⟨j, by omega, hn⟩
/-! ### The count -/
section
variable {c : Int} {w : Nat → Int} {n : Nat} (hc : c ≠ 0) (hn : 1 ≤ n)
include hc
theorem prd_Tp : Tp (n + 1, prd c w n) := Or.inr (by show prd c w n (n + 1 - 1) ≠ 0; rw [Nat.add_sub_cancel, prd_top]; exact hc)
theorem hor_tb (y : Int) : hor (prd c w n) y 0 (n + 1) = 0 ↔ tb w n y = true := by
  have h := fn_prd_zero hc w (y : Rat) n
  have e : fnP (n + 1, prd c w n) (y : Rat) = ((hor (prd c w n) y 0 (n + 1) : Int) : Rat) := hq_hor _ _ _ _
  rw [e] at h
  constructor
  · intro h0
    obtain ⟨j, hj, e2⟩ := h.1 (by rw [h0]; rfl)
    exact tb_iff.2 ⟨j, hj, (Rat.intCast_inj.1 e2).symm⟩
  · intro h0
    obtain ⟨j, hj, e2⟩ := tb_iff.1 h0
    exact Decidable.byContradiction fun hne => cast_ne hne (h.2 ⟨j, hj, by rw [e2]⟩)
include hn
theorem prd_next (y : Int) : rtC (n + 1, prd c w n) y = rtN (n + 1, prd c w n) (y + 1) := by
  have h2 : 2 ≤ ((n + 1, prd c w n) : Ply).1 := by show 2 ≤ n + 1; omega
  have ht := prd_Tp (w := w) (n := n) hc
  rw [rtN_eq h2 ht, rtC_eq h2 ht]
  have hlt : ((y : Int) : Rat) < ((y + 1 : Int) : Rat) := Rat.intCast_lt_intCast.2 (by omega)
  refine (cq_chain h2 (prd_Cn c w n) ht).none hlt (fun x h1 h3 hz => ?_) fun N hi hz => ?_
  · obtain ⟨j, hj, e⟩ := (fn_prd_zero hc w x n).1 hz
    rw [e] at h1 h3
    have := Rat.intCast_lt_intCast.1 h1
    have := Rat.intCast_lt_intCast.1 h3
    omega
  · obtain ⟨j, hj, hN⟩ := zr_prd hc w n hz
    have h1 : ((y : Int) : Rat) ≤ (w j : Rat) := Rat.le_trans (hi 0).1 (hN 0).1
    have h3 : (w j : Rat) ≤ ((y + 1 : Int) : Rat) := Rat.le_trans (hN 0).2 (hi 0).2
    have h1 := Rat.intCast_le_intCast.1 h1
    have h3 := Rat.intCast_le_intCast.1 h3
    rcases (show w j = y ∨ w j = y + 1 by omega) with e | e <;> rw [e] at hN
    · exact Or.inl hN
    · exact Or.inr hN
theorem prd_diff (y : Int) : rtN (n + 1, prd c w n) y - rtN (n + 1, prd c w n) (y + 1) = cond (tb w n y) 1 0 := by
  have h2 : 2 ≤ ((n + 1, prd c w n) : Ply).1 := by show 2 ≤ n + 1; omega
  have ht := prd_Tp (w := w) (n := n) hc
  have hab := rt_ab h2 (prd_Cn c w n) ht y
  have := prd_next (w := w) hc hn y
  have hh := hor_tb (w := w) (n := n) hc y
  replace hab : rtN (n + 1, prd c w n) y = rtC (n + 1, prd c w n) y + if hor (prd c w n) y 0 (n + 1) = 0 then 1 else 0 := hab
  cases hb : tb w n y
  · rw [if_neg fun h => by rw [hh.1 h] at hb; cases hb] at hab
    show _ = (0 : Int); omega
  · rw [if_pos (hh.2 hb)] at hab
    show _ = (1 : Int); omega
end
/-! ### The list -/
def zl (z : Int → Bool) : Int → Nat → List Int
  | _, 0 => []
  | a, d + 1 => cond (z a) [a] [] ++ zl z (a + 1) d
theorem zl_app (z : Int → Bool) : ∀ (d : Nat) (a : Int) (e : Nat), zl z a (d + e) = zl z a d ++ zl z (a + (d : Nat)) e
  | 0, a, e => by
    rw [Nat.zero_add, show a + ((0 : Nat) : Int) = a by omega]
    rfl
  | d + 1, a, e => by
    rw [show d + 1 + e = d + e + 1 by omega]
    show _ ++ zl z (a + 1) (d + e) = (_ ++ zl z (a + 1) d) ++ _
    rw [zl_app z d (a + 1) e, List.append_assoc, show a + ((d + 1 : Nat) : Int) = a + 1 + (d : Nat) by omega]
theorem zl_nil {z : Int → Bool} : ∀ (d : Nat) (a : Int), (∀ y, a ≤ y → y < a + (d : Nat) → z y = false) → zl z a d = []
  | 0, _, _ => rfl
  | d + 1, a, h => by
    show cond (z a) [a] [] ++ zl z (a + 1) d = []
    rw [zl_nil d (a + 1) fun y h1 h2 => h y (by omega) (by omega), h a (by omega) (by omega)]
    rfl
theorem can_zl {N : Int → Int} {z : Int → Bool} (h : ∀ y, N y - N (y + 1) = cond (z y) 1 0) : ∀ (d : Nat) (a : Int), can N a d = zl z a d
  | 0, _ => rfl
  | d + 1, a => by
    show List.replicate (N a - N (a + 1)).toNat a ++ can N (a + 1) d = cond (z a) [a] [] ++ zl z (a + 1) d
    rw [can_zl h d (a + 1), h a]
    cases z a <;> rfl
/-- The whole numbers among them, each 65536 times. -/
def el (z : Int → Bool) : Int → Nat → List Int
  | _, 0 => []
  | a, d + 1 => cond (z a) [65536 * a] [] ++ el z (a + 1) d
theorem el_app (z : Int → Bool) : ∀ (d : Nat) (a : Int) (e : Nat), el z a (d + e) = el z a d ++ el z (a + (d : Nat)) e
  | 0, a, e => by
    rw [Nat.zero_add, show a + ((0 : Nat) : Int) = a by omega]
    rfl
  | d + 1, a, e => by
    rw [show d + 1 + e = d + e + 1 by omega]
    show _ ++ el z (a + 1) (d + e) = (_ ++ el z (a + 1) d) ++ _
    rw [el_app z d (a + 1) e, List.append_assoc, show a + ((d + 1 : Nat) : Int) = a + 1 + (d : Nat) by omega]
theorem zl_el {z Z : Int → Bool} (h1 : ∀ x, Z (65536 * x) = z x) (h2 : ∀ y, y % 65536 ≠ 0 → Z y = false) : ∀ (d : Nat) (a : Int), zl Z (65536 * a) (65536 * d + 1) = el z a (d + 1)
  | 0, a => by
    show cond (Z (65536 * a)) [65536 * a] [] ++ [] = cond (z a) [65536 * a] [] ++ []
    rw [h1]
  | d + 1, a => by
    rw [show 65536 * (d + 1) + 1 = 1 + (65535 + (65536 * d + 1)) by omega, zl_app, zl_app Z 65535, zl_nil 65535 (65536 * a + ((1 : Nat) : Int)) fun y g1 g2 => h2 y (by omega)]
    rw [show 65536 * a + ((1 : Nat) : Int) + ((65535 : Nat) : Int) = 65536 * (a + 1) by omega, zl_el h1 h2 d (a + 1)]
    show (cond (Z (65536 * a)) [65536 * a] [] ++ []) ++ ([] ++ el z (a + 1) (d + 1)) = cond (z a) [65536 * a] [] ++ el z (a + 1) (d + 1)
    rw [h1, List.append_nil, List.nil_append]
theorem tb_W6 (rs : Nat → Int) (n : Nat) (x : Int) : tb (W6 rs) n (65536 * x) = tb rs n x := by
  rw [Bool.eq_iff_iff, tb_iff, tb_iff]
  exact ⟨fun ⟨j, h, e⟩ => ⟨j, h, by unfold W6 at e; omega⟩, fun ⟨j, h, e⟩ => ⟨j, h, by unfold W6; omega⟩⟩
theorem tb_W6f (rs : Nat → Int) (n : Nat) (y : Int) (hy : y % 65536 ≠ 0) : tb (W6 rs) n y = false := by
  cases h : tb (W6 rs) n y
  · rfl
  · obtain ⟨j, _, e⟩ := tb_iff.1 h
    unfold W6 at e
    omega
theorem tl_prd {c : Int} (hc : c ≠ 0) (rs : Nat → Int) (n : Nat) : tl (prd c rs n) (n + 1) = n + 1 := by
  have h := tl_le (prd c rs n) (n + 1)
  refine Nat.le_antisymm h (Nat.le_of_not_lt fun hlt => ?_)
  have := tl_zero (prd c rs n) (n + 1) n (by omega) (by omega)
  rw [prd_top] at this
  exact hc this
theorem rt_prd {c : Int} (hc : c.natAbs ≤ 9) (hc1 : 1 ≤ c) {rs : Nat → Int} {n : Nat} (hn : n ≤ 4) (hr : ∀ j, j < n → (rs j).natAbs ≤ 50) {lo hi : Int} (hl : lo.natAbs ≤ 60) (hh : hi.natAbs ≤ 60) : rtOut (n + 1) (prd c rs n) (65536 * lo) (65536 * hi) = (el (tb rs n) lo (hi - lo + 1).toNat, 0) := by
  have hc0 : c ≠ 0 := by omega
  have htl := tl_prd hc0 rs n
  have hmb : mbI (n + 1) (prd c rs n) = true := allI_t fun i _ => by
    have := prd_bd4 hc hn hr i
    unfold mbB
    rw [decide_eq_false (by omega), decide_eq_false (by omega)]
    rfl
  have hms : msI (65536 * lo) (65536 * hi) = true := by
    unfold msI
    rw [decide_eq_true (by omega), decide_eq_true (by omega)]
    rfl
  have hb : rtB (n + 1) (prd c rs n) (65536 * lo) (65536 * hi) = false := by unfold rtB; rw [hmb, hms]; rfl
  unfold rtOut
  rw [decide_eq_false (show ¬ (((n + 1 : Nat) : Int) > 5) by omega), hb]
  show (rtL (n + 1) (prd c rs n) (65536 * lo) (65536 * hi), (0 : Int)) = _
  refine Prod.ext ?_ rfl
  show rtL (n + 1) (prd c rs n) (65536 * lo) (65536 * hi) = _
  unfold rtL
  rw [htl]
  cases hB : plB (n + 1) (65536 * lo) (65536 * hi)
  · have g : 1 ≤ n ∧ lo ≤ hi := by
      unfold plB at hB
      by_cases g : ((n + 1 : Nat) : Int) < 2
      · rw [decide_eq_true g] at hB; cases hB
      · rw [decide_eq_false g, cond_false] at hB
        have := of_decide_eq_false hB
        omega
    have eP : rtP (n + 1) (prd c rs n) = (n + 1, prd c rs n) := by unfold rtP; rw [htl]
    have eF : finP (n + 1, prd c rs n) = (n + 1, prd c (W6 rs) n) := by unfold finP; rw [prd_fin]
    rw [cond_false, eP, plcP_can (show 2 ≤ n + 1 by omega) (prd_Cn c rs n) (prd_Tp hc0) (by omega), eF, can_zl (prd_diff hc0 g.1)]
    have hlast : (if rtN (n + 1, prd c (W6 rs) n) (65536 * hi) > rtC (n + 1, prd c (W6 rs) n) (65536 * hi) then [65536 * hi] else []) = zl (tb (W6 rs) n) (65536 * hi) 1 := by
      have h1 := prd_next (w := W6 rs) hc0 g.1 (65536 * hi)
      have h2 := prd_diff (w := W6 rs) hc0 g.1 (65536 * hi)
      show _ = cond (tb (W6 rs) n (65536 * hi)) [65536 * hi] [] ++ []
      cases hz : tb (W6 rs) n (65536 * hi) <;> rw [hz] at h2
      · rw [if_neg (by have h2 : _ = (0 : Int) := h2; omega)]; rfl
      · rw [if_pos (by have h2 : _ = (1 : Int) := h2; omega)]; rfl
    rw [hlast]
    have e2 := zl_app (tb (W6 rs) n) (65536 * hi - 65536 * lo).toNat (65536 * lo) 1
    rw [show 65536 * lo + (((65536 * hi - 65536 * lo).toNat : Nat) : Int) = 65536 * hi by omega] at e2
    rw [← e2, show (65536 * hi - 65536 * lo).toNat + 1 = 65536 * (hi - lo).toNat + 1 by omega, zl_el (tb_W6 rs n) (tb_W6f rs n), show (hi - lo + 1).toNat = (hi - lo).toNat + 1 by omega]
  · rw [cond_true]
    unfold plB at hB
    by_cases g : ((n + 1 : Nat) : Int) < 2
    · obtain rfl : n = 0 := by omega
      have : ∀ (d : Nat) (a : Int), el (tb rs 0) a d = [] := fun d => by
        induction d with
        | zero => intro a; rfl
        | succ d ih => intro a; show [] ++ el (tb rs 0) (a + 1) d = []; rw [ih]; rfl
      exact (this _ _).symm
    · rw [decide_eq_false g, cond_false] at hB
      have := of_decide_eq_true hB
      rw [show (hi - lo + 1).toNat = 0 by omega]
      rfl
end Go.Proofs.Ytgijfbcfajhmlaa

namespace Go.Proofs.Ytgijfbcfajhmlaa
open Go.Gv

/-- The roots that are asked for. -/
def rts (l : Nat → Int) (j : Nat) : Int := pk (l j) 101 - 50
theorem pk_rng {c : Int} (n : Int) (hc : (Lit.int .i64 c).wf = true) (hn : 0 < n) : 0 ≤ pk c n ∧ pk c n < n := by
  obtain ⟨m, rfl⟩ : ∃ m : Nat, n = m := ⟨n.toNat, by omega⟩
  obtain ⟨k, h1, h2⟩ := pk_nat (n := m) hc (by omega)
  omega
section
variable {n : Nat} {l : Nat → Int} {lo hi c : Int} (hb : ∀ i, i < n → (Lit.int .i64 (l i)).wf = true) (hn : n ≤ 4) (hc : 1 ≤ c) (hc9 : c ≤ 9)
include hb in
theorem rts_bd {j : Nat} (hj : j < n) : (rts l j).natAbs ≤ 50 := by
  have := pk_rng 101 (hb j hj) (by decide)
  unfold rts
  omega
include hb in
theorem tqR_eq {j : Nat} (hj : j < n) : tqR l (j : Nat) pk = rts l j := by
  have := pk_rng 101 (hb j hj) (by decide)
  unfold tqR rts
  rw [Int.toNat_natCast, w64_id (by omega) (by omega)]
/-- A product half made. -/
def qin (r : Int) (P : Nat → Int) (j q : Nat) : Int := (if 1 ≤ q ∧ q ≤ j then P (q - 1) else 0) - (if q < j then r * P q else 0)
theorem qin_zero (r : Int) (P : Nat → Int) : qin r P 0 = fun _ => 0 := funext fun q => by unfold qin; rw [if_neg (by omega), if_neg (by omega)]; rfl
theorem qin_all {r : Int} {P : Nat → Int} {M : Nat} (h : Cn M P) : qin r P M = pstep r P := funext fun q => by
  unfold qin pstep
  congr 1
  · by_cases g : 1 ≤ q
    · by_cases g2 : q ≤ M
      · rw [if_pos ⟨g, g2⟩, if_pos g]
      · rw [if_neg (by omega), if_pos g, h (q - 1) (by omega)]
    · rw [if_neg (by omega), if_neg g]
  · by_cases g : q < M
    · rw [if_pos g]
    · rw [if_neg g, h q (by omega), Int.mul_zero]
theorem qin_next {r : Int} {P : Nat → Int} {j : Nat} (hr : r.natAbs ≤ 50) (hP : ∀ q, (P q).natAbs ≤ 60886809) (hj : j ≤ 100) : tqQ2 r P (qin r P j) (j : Nat) = qin r P (j + 1) := by
  have ew : w64 (((j : Nat) : Int) + 1) = ((j + 1 : Nat) : Int) := w64_next (by omega)
  have b1 : ∀ q, (r * P q).natAbs ≤ 50 * 60886809 := fun q => abs_mul_le hr (hP q)
  have v1 : tqV1 r P (qin r P j) (j : Nat) = qin r P (j + 1) j := by
    unfold tqV1
    rw [Int.toNat_natCast, Nat.zero_add]
    have e1 : qin r P j j = if 1 ≤ j then P (j - 1) else 0 := by
      unfold qin
      rw [if_neg (show ¬ j < j by omega), Int.sub_zero]
      by_cases g : 1 ≤ j
      · rw [if_pos ⟨g, Nat.le_refl _⟩, if_pos g]
      · rw [if_neg (by omega), if_neg g]
    have e2 : qin r P (j + 1) j = (if 1 ≤ j then P (j - 1) else 0) - r * P j := by
      unfold qin
      rw [if_pos (show j < j + 1 by omega)]
      congr 1
      by_cases g : 1 ≤ j
      · rw [if_pos ⟨g, by omega⟩, if_pos g]
      · rw [if_neg (by omega), if_neg g]
    have := b1 j
    have h3 : (if 1 ≤ j then P (j - 1) else 0).natAbs ≤ 60886809 := by
      split
      · exact hP _
      · exact Nat.zero_le _
    rw [e1, e2]
    generalize (if 1 ≤ j then P (j - 1) else 0) = a at *
    generalize r * P j = b at *
    rw [w64_id (n := b) (by omega) (by omega), w64_id (by omega) (by omega)]
  have v2 : tqV2 r P (qin r P j) (j : Nat) = qin r P (j + 1) (j + 1) := by
    unfold tqV2
    rw [ew, Int.toNat_natCast, Int.toNat_natCast, Nat.zero_add, Nat.zero_add]
    have e1 : tqQ1 r P (qin r P j) (j : Nat) (j + 1) = 0 := by
      unfold tqQ1
      rw [Int.toNat_natCast, beq_false_of_ne (show j + 1 ≠ 0 + j by omega)]
      show qin r P j (j + 1) = 0
      unfold qin
      rw [if_neg (by omega), if_neg (by omega)]
      rfl
    have e2 : qin r P (j + 1) (j + 1) = P j := by
      unfold qin
      rw [if_pos ⟨by omega, by omega⟩, if_neg (by omega), Nat.add_sub_cancel, Int.sub_zero]
    have := hP j
    rw [e1, e2, Int.zero_add, w64_id (by omega) (by omega)]
  funext q
  unfold tqQ2
  rw [ew, Int.toNat_natCast, Nat.zero_add, v2]
  by_cases h1 : q = j + 1
  · subst h1; rw [show (j + 1 == j + 1) = true from BEq.rfl]; rfl
  · rw [beq_false_of_ne h1]
    unfold tqQ1
    rw [v1, Int.toNat_natCast, Nat.zero_add]
    by_cases h2 : q = j
    · subst h2; rw [show (q == q) = true from BEq.rfl]; rfl
    · rw [beq_false_of_ne h2]
      show qin r P j q = qin r P (j + 1) q
      unfold qin
      congr 1
      · by_cases g : 1 ≤ q ∧ q ≤ j
        · rw [if_pos g, if_pos (by omega)]
        · rw [if_neg g, if_neg (by omega)]
      · by_cases g : q < j
        · rw [if_pos g, if_pos (by omega)]
        · rw [if_neg g, if_neg (by omega)]
theorem tqC_t {M K j k : Nat} (h1 : k < K) (h2 : j < M) : tqC M K (j : Nat) (k : Nat) = true := by
  unfold tqC
  rw [ixB_t h1, ixB_t h2, stB_t h1, Int.toNat_natCast, Int.toNat_natCast, stU_t h1, stU_t h2]
  rfl
theorem tqI_leads {i r : Int} {M : Nat} {P : Nat → Int} (hM : M ≤ 5) (hr : r.natAbs ≤ 50) (hP : ∀ q, (P q).natAbs ≤ 60886809) (hC : Cn M P) : Leads Try.prog (.loop (loopAt Try.f5 1)) (tqI n l lo hi i r M P (M + 1) (fun _ => 0) 0) (.exit 2) (tqI n l lo hi i r M P (M + 1) (pstep r P) (M : Nat)) := by
  rw [← qin_zero r P, ← qin_all hC]
  refine loop_rule (fun j => tqI n l lo hi i r M P (M + 1) (qin r P j) (j : Nat)) M (.exit 2) _ (by simp) (fun j hj => ?_) ?_
  · have st := tqI_step n l lo hi i r M P (M + 1) (qin r P j) (j : Nat)
    rw [dec_lt hj, tqC_t (show j < M + 1 by omega) hj, w64_next (by omega), tqC_t (show j + 1 < M + 1 by omega) hj, qin_next hr hP (by omega)] at st
    exact leads_ev (finN_sub _ _) e_nil k_nil noL_ok st
  · refine leads_ev (finE_sub _ _) e_nil k_nil noL_ok ((tqI_end n l lo hi i r M P (M + 1) (qin r P M) (M : Nat)).trans ?_)
    rw [dec_self, cond_false]
theorem mk8_t {n : Nat} (h : n ≤ 1000) : mk8 (n : Nat) = true := by
  unfold mk8
  rw [decide_eq_true (by omega), decide_eq_true (by omega), decide_eq_true (by omega)]
  rfl
include hb hn hc hc9
theorem tqO_leads : Leads Try.prog (.loop (loopAt Try.f5 0)) (tqO n l lo hi 0 1 fun _ => c) (.exit 0) (tqO n l lo hi (n : Nat) (n + 1) (prd c (rts l) n)) := by
  have hrt : ∀ j, j < n → (rts l j).natAbs ≤ 50 := fun j hj => rts_bd hb hj
  have h0 : Sub (tqO n l lo hi 0 1 fun _ => c) (tqO n l lo hi ((0 : Nat) : Int) (0 + 1) (prd c (rts l) 0)) := sub_same ⟨Or.inr ⟨3, 1, 1, _, _, rfl, rfl, fun q hq => by
    show [iA (if q = 0 then c else 0)] = [iA c]
    rw [if_pos (by omega)]⟩, trivial⟩
  refine Leads.sub ?_ h0 (Sub.refl _)
  refine loop_rule (fun i => tqO n l lo hi (i : Nat) (i + 1) (prd c (rts l) i)) n (.exit 0) _ (by simp) (fun i hi' => ?_) ?_
  · have hP : ∀ q, (prd c (rts l) i q).natAbs ≤ 60886809 := prd_bd4 (by omega) (by omega) fun j hj => hrt j (by omega)
    have inner := tqI_leads (n := n) (l := l) (lo := lo) (hi := hi) (i := (i : Nat)) (r := rts l i) (M := i + 1) (by omega) (hrt i hi') hP (prd_Cn c (rts l) i)
    have hL : LOk Try.prog (tqL n l lo hi (i : Nat) (rts l i) (i + 1) (prd c (rts l) i) (i + 1 + 1) (prd c (rts l) (i + 1))) (loopAt Try.f5 0) := lok_at (i := 10) 0 1 (by kernel_rfl) (by kernel_rfl) (toldF_sound inner)
    have st := tqO_step n l lo hi (i : Nat) (rts l i) (i + 1) (prd c (rts l) i) (i + 1 + 1) pk (prd c (rts l) (i + 1))
    unfold tqT at st
    have ew : w64 (((i + 1 : Nat) : Int) + 1) = ((i + 1 + 1 : Nat) : Int) := w64_next (by omega)
    rw [dec_lt hi', ixB_t hi', ew, mk8_t (by omega), tqR_eq hb hi', Int.toNat_natCast, gate_pos (Sub.refl _), w64_next (by omega)] at st
    exact leads_ev (finN_sub _ _) e_nil (k_cons kPick_ok k_nil) hL st
  · refine leads_ev (finE_sub _ _) e_nil (k_cons kPick_ok k_nil) (lok_none 10) ((tqO_end n l lo hi (n : Nat) (n + 1) (prd c (rts l) n) pk).trans ?_)
    rw [dec_self, cond_false]
end
/-! ### The check -/
section
variable {n : Nat} {l : Nat → Int} {hi : Int} {m : Nat} {A : Nat → Int} (hb : ∀ i, i < n → (Lit.int .i64 (l i)).wf = true) (hn : n ≤ 4)
include hb hn
theorem tqH_leads (k x : Int) : Leads Try.prog (.loop (loopAt Try.f5 3)) (tqH n l hi m A k x false 0) (.exit 6) (tqH n l hi m A k x (tb (rts l) n x) (n : Nat)) := by
  refine loop_rule (fun i => tqH n l hi m A k x (tb (rts l) i x) (i : Nat)) n (.exit 6) _ (by simp) (fun i hi' => ?_) ?_
  · have st := tqH_step n l hi m A k x (tb (rts l) i x) (i : Nat) pk
    rw [dec_lt hi', ixB_t hi', tqR_eq hb hi', w64_next (by omega)] at st
    exact leads_ev (finN_sub _ _) e_nil (k_cons kPick_ok k_nil) noL_ok st
  · refine leads_ev (finE_sub _ _) e_nil (k_cons kPick_ok k_nil) noL_ok ((tqH_end n l hi m A k x (tb (rts l) n x) (n : Nat) pk).trans ?_)
    rw [dec_self, cond_false]
theorem tqX_leads {lo : Int} (hl : lo.natAbs ≤ 60) (hh : hi.natAbs ≤ 60) {L : List Int} (hL : L = el (tb (rts l) n) lo (hi - lo + 1).toNat) : Leads Try.prog (.loop (loopAt Try.f5 2)) (tqX n l hi L.length (fun q => L.getD q 0) 0 lo) (.exit 4) (tqX n l hi L.length (fun q => L.getD q 0) (L.length : Nat) (lo + ((hi - lo + 1).toNat : Nat))) := by
  have key : ∀ d, d ≤ (hi - lo + 1).toNat → ∃ R, L = el (tb (rts l) n) lo d ++ R ∧ R = el (tb (rts l) n) (lo + (d : Nat)) ((hi - lo + 1).toNat - d) := fun d hd => by
    refine ⟨_, ?_, rfl⟩
    rw [hL, ← el_app]
    congr 1
    omega
  have hlen : (el (tb (rts l) n) lo (hi - lo + 1).toNat).length = L.length := by rw [hL]
  have le_len : ∀ (z : Int → Bool) (d : Nat) (a : Int), (el z a d).length ≤ d := fun z d => by
    induction d with
    | zero => intro a; exact Nat.le_refl _
    | succ d ih =>
      intro a
      show (cond (z a) [65536 * a] [] ++ el z (a + 1) d).length ≤ d + 1
      rw [List.length_append]
      have := ih (a + 1)
      cases z a
      · show 0 + _ ≤ _; omega
      · show 1 + _ ≤ _; omega
  have h0 : Sub (tqX n l hi L.length (fun q => L.getD q 0) 0 lo) (tqX n l hi L.length (fun q => L.getD q 0) (((el (tb (rts l) n) lo 0).length : Nat) : Int) (lo + ((0 : Nat) : Int))) := by
    rw [show lo + ((0 : Nat) : Int) = lo by omega]; exact Sub.refl _
  have hfin : ((L.length : Nat) : Int) = (((el (tb (rts l) n) lo (hi - lo + 1).toNat).length : Nat) : Int) := by rw [hlen]
  refine Leads.sub ?_ h0 (Sub.refl _)
  rw [show tqX n l hi L.length (fun q => L.getD q 0) (L.length : Nat) (lo + ((hi - lo + 1).toNat : Nat)) = tqX n l hi L.length (fun q => L.getD q 0) (((el (tb (rts l) n) lo (hi - lo + 1).toNat).length : Nat) : Int) (lo + ((hi - lo + 1).toNat : Nat)) by rw [← hfin]]
  refine loop_rule (fun d => tqX n l hi L.length (fun q => L.getD q 0) (((el (tb (rts l) n) lo d).length : Nat) : Int) (lo + (d : Nat))) (hi - lo + 1).toNat (.exit 4) _ (by simp) (fun d hd => ?_) ?_
  · have inner := tqH_leads (hi := hi) (m := L.length) (A := fun q => L.getD q 0) hb hn (((el (tb (rts l) n) lo d).length : Nat) : Int) (lo + (d : Nat))
    have hLk : LOk Try.prog (thL n l hi L.length (fun q => L.getD q 0) (((el (tb (rts l) n) lo d).length : Nat) : Int) (lo + (d : Nat)) (tb (rts l) n (lo + (d : Nat)))) (loopAt Try.f5 2) := lok_at (i := 26) 0 1 (by kernel_rfl) (by kernel_rfl) (toldF_sound inner)
    have st := tqX_step n l hi L.length (fun q => L.getD q 0) (((el (tb (rts l) n) lo d).length : Nat) : Int) (lo + (d : Nat)) (tb (rts l) n (lo + (d : Nat)))
    have hd1 := le_len (tb (rts l) n) d lo
    have hx : lo + (d : Nat) ≤ hi := by omega
    unfold thT at st
    rw [decide_eq_true hx, gate_pos (Sub.refl _)] at st
    have ex : w64 (lo + (d : Nat) + 1) = lo + ((d + 1 : Nat) : Int) := by rw [w64_id (by omega) (by omega)]; omega
    rw [ex] at st
    have enx : el (tb (rts l) n) lo (d + 1) = el (tb (rts l) n) lo d ++ (cond (tb (rts l) n (lo + (d : Nat))) [65536 * (lo + (d : Nat))] []) := by
      rw [el_app]
      show _ ++ (cond _ _ _ ++ []) = _
      rw [List.append_nil]
    obtain ⟨R, e1, e2⟩ := key d (by omega)
    cases ht : tb (rts l) n (lo + (d : Nat)) with
    | false =>
      rw [ht] at st hLk enx
      have el2 : (el (tb (rts l) n) lo (d + 1)).length = (el (tb (rts l) n) lo d).length := by rw [enx]; exact congrArg List.length (List.append_nil _)
      rw [el2]
      exact leads_ev (finN_sub _ _) e_nil k_nil hLk st
    | true =>
      rw [ht] at st hLk enx
      have el2 : (el (tb (rts l) n) lo (d + 1)).length = (el (tb (rts l) n) lo d).length + 1 := by rw [enx, List.length_append]; rfl
      have e3 : R = [65536 * (lo + (d : Nat))] ++ el (tb (rts l) n) (lo + (d : Nat) + 1) ((hi - lo + 1).toNat - d - 1) := by
        rw [e2, show (hi - lo + 1).toNat - d = (hi - lo + 1).toNat - d - 1 + 1 by omega]
        show cond (tb (rts l) n (lo + (d : Nat))) [65536 * (lo + (d : Nat))] [] ++ _ = _
        rw [ht]
        rfl
      have hlt : (el (tb (rts l) n) lo d).length < L.length := by
        rw [e1, List.length_append, e3]
        show _ < _ + (_ + 1)
        omega
      have hget : L.getD (el (tb (rts l) n) lo d).length 0 = 65536 * (lo + (d : Nat)) := by
        rw [e1, List.getD_eq_getElem?_getD, List.getElem?_append_right (Nat.le_refl _), Nat.sub_self, e3]
        rfl
      have hE : thE L.length (((el (tb (rts l) n) lo d).length : Nat) : Int) = false := by unfold thE; exact decide_eq_false (by omega)
      have hF : thF L.length (fun q => L.getD q 0) (((el (tb (rts l) n) lo d).length : Nat) : Int) (lo + (d : Nat)) = false := by
        unfold thF
        rw [hE, cond_false, Int.toNat_natCast]
        show (!(L.getD (el (tb (rts l) n) lo d).length 0 == w64 (65536 * (lo + (d : Nat))))) = false
        rw [hget, w64_id (by omega) (by omega), BEq.rfl]
        rfl
      rw [hF, ixB_t hlt, w64_next (by omega)] at st
      rw [el2]
      exact leads_ev (finN_sub _ _) e_nil k_nil hLk st
  · refine leads_ev (finE_sub _ _) e_nil k_nil (lok_none 26) ((tqX_end n l hi L.length (fun q => L.getD q 0) _ (lo + ((hi - lo + 1).toNat : Nat))).trans ?_)
    rw [decide_eq_false (by omega), cond_false]
end
theorem tq_ev0 (n : Nat) (l : Nat → Int) (lo hi k : Int) : evZ Try.prog [] [kPick pk, kS Try.prog 7 (fun _ => .any)] [] (oneL 5 fun _ _ => none) (oneZ 17 (frzK 0)) Try.f5 [sJ n l, iA lo, iA hi, iA k] ret = cond (decide ((n : Int) > 4)) (some (Out.of (bA true))) none := by kernel_rfl
theorem topRoots_law {n : Nat} {l : Nat → Int} {lo hi k : Int} (hb : ∀ i, i < n → (Lit.int .i64 (l i)).wf = true) (hlo : (Lit.int .i64 lo).wf = true) (hhi : (Lit.int .i64 hi).wf = true) (hk : (Lit.int .i64 k).wf = true) : FSpec Try.prog 5 [sJ n l, iA lo, iA hi, iA k] (bA true) := by
  have h1 := pk_rng 120 hlo (by decide)
  have h2 := pk_rng 120 hhi (by decide)
  have h3 := pk_rng 9 hk (by decide)
  have e1 : pk120 pk lo = pk lo 120 - 60 := by unfold pk120; rw [w64_id (by omega) (by omega)]
  have e2 : pk120 pk hi = pk hi 120 - 60 := by unfold pk120; rw [w64_id (by omega) (by omega)]
  have e3 : w64 (1 + pk k 9) = 1 + pk k 9 := w64_id (by omega) (by omega)
  by_cases hn : n ≤ 4
  · have b1 : (pk120 pk lo).natAbs ≤ 60 := by rw [e1]; omega
    have b2 : (pk120 pk hi).natAbs ≤ 60 := by rw [e2]; omega
    have hrt := rt_prd (c := 1 + pk k 9) (by omega) (by omega) hn (fun j hj => rts_bd hb hj) b1 b2
    have lA := tqO_leads (lo := lo) (hi := hi) hb hn (show 1 ≤ 1 + pk k 9 by omega) (by omega)
    have lB := tqX_leads (l := l) hb hn b1 b2 (L := el (tb (rts l) n) (pk120 pk lo) (pk120 pk hi - pk120 pk lo + 1).toNat) rfl
    generalize el (tb (rts l) n) (pk120 pk lo) (pk120 pk hi - pk120 pk lo + 1).toNat = L at *
    have hL : LOk Try.prog (twoL 5 (toldF keepTqO [some 0] (tqO n l lo hi 0 1 (fun _ => 1 + pk k 9)) (.exit 0) (tqO n l lo hi (n : Nat) (n + 1) (prd (1 + pk k 9) (rts l) n))) 22 (toldF keepTqX [] (tqX n l (pk120 pk hi) L.length (fun q => L.getD q 0) 0 (pk120 pk lo)) (.exit 4) (tqX n l (pk120 pk hi) L.length (fun q => L.getD q 0) (L.length : Nat) (pk120 pk lo + ((pk120 pk hi - pk120 pk lo + 1).toNat : Nat))))) (bodyOf Try.f5) := lok_two (lok_at (i := 5) 0 4 (by kernel_rfl) (by kernel_rfl) (toldF_sound lA)) (lok_at (i := 22) 2 4 (by kernel_rfl) (by kernel_rfl) (toldF_sound lB))
    refine gspecZ (oneZ_ok (frzK_ok 0)) e_nil (k_cons kPick_ok (k_cons kS_ok k_nil)) m_nil Try.func5 (by kernel_rfl) (by kernel_rfl) hL rfl ((tq_ev n l lo hi k (n + 1) (prd (1 + pk k 9) (rts l) n) pk L.length (fun q => L.getD q 0) 0 (1 + pk k 9) (L.length : Nat) _).trans ?_)
    have hs : Sub (tqO0 n l lo hi (w64 (1 + pk k 9))) (tqO n l lo hi 0 1 fun _ => 1 + pk k 9) := by
      rw [e3]
      exact sub_same ⟨Or.inr ⟨3, 1, 1, _, _, rfl, rfl, fun q hq => by rw [show q = 0 by omega]; rfl⟩, trivial⟩
    have hR : FSpec Try.prog 7 [sJ (n + 1) (prd (1 + pk k 9) (rts l) n), iA (w64 (65536 * pk120 pk lo)), iA (w64 (65536 * pk120 pk hi))] (.tup [sJ L.length (fun q => L.getD q 0), iA 0]) := by
      rw [w64_id (n := 65536 * pk120 pk lo) (by omega) (by omega), w64_id (n := 65536 * pk120 pk hi) (by omega) (by omega)]
      have := roots_spec (lo := 65536 * pk120 pk lo) (hi := 65536 * pk120 pk hi) (show n + 1 ≤ 4611686018427387904 by omega) (prd_Cn (1 + pk k 9) (rts l) n)
      rw [hrt] at this
      exact this
    unfold tqTail
    rw [decide_eq_false (by omega), cond_false, gate_pos hs, fz1_t, gate_pos hR, gate_pos (Sub.refl _), BEq.rfl, BEq.rfl]
    rfl
  · refine gspecZ (oneZ_ok (frzK_ok 0)) e_nil (k_cons kPick_ok (k_cons kS_ok k_nil)) m_nil Try.func5 (by kernel_rfl) (by kernel_rfl) (lok_none 5) rfl ((tq_ev0 n l lo hi k).trans ?_)
    rw [decide_eq_true (by omega)]
    rfl
end Go.Proofs.Ytgijfbcfajhmlaa

namespace Go.Proofs.Ytgijfbcfajhmlaa
open Go.Gv Go.RowKit Go.ChangeShapes Go.WideShapes Go.ChangeAt

def rsl (n : Nat) (hs : Nat → Int) : AV := .sl 1 n fun i => [iA (hs i)]
theorem open_num {H : Type} {enc : TypeId × Value → H} {P : Program} {w : World} {r : Reach} {b0 : Nat} {t : TypeId} {v : Value} {d : DataW H} {p : List MemPlace} {k : IntKind} (hu : P.underlying t = some (.int k)) (hk : kds P 1 t = some [.i k]) (hv : Value.okWide P w r b0 t v)
    (h : DataW.Trod enc P w 0 (fun _ => true) true t v d p) : ∃ n, rel (Env.all w) (.x (.int k n)) v ∧ (Lit.int k n).wf = true := by
  have hone : v.cells = #[v] := by
    obtain ⟨n, rfl, _⟩ := okWide_int hu hv
    rfl
  obtain ⟨fuel, hf⟩ := h
  obtain ⟨a, h1, h2⟩ := open_arg hf hk hone
  rw [fitA] at h1
  obtain ⟨n, rfl, hw⟩ := h1
  exact ⟨n, h2, hw⟩
def numOf (el : Nat → List AV) (i : Nat) : Int := match el i with
  | [.x (.int .i64 h)] => h
  | _ => 0
theorem sl_same {E : Env} {sz n : Nat} {el el' : Nat → List AV} {v : Value} (h : rel E (.sl sz n el) v) (he : ∀ i, i < n → el' i = el i) : rel E (.sl sz n el') v := by
  have h : relA _ _ _ := h
  show relA _ _ _
  rw [relA] at h ⊢
  obtain ⟨a, c, h1, h2, h3⟩ := h
  refine ⟨a, c, h1, h2, ?_⟩
  rcases h3 with h3 | ⟨b, o, cs, e, fz, h4, h5, h6, h7⟩
  · exact Or.inl h3
  · exact Or.inr ⟨b, o, cs, e, fz, h4, h5, h6, fun i hi => by rw [he i hi]; exact h7 i hi⟩
theorem fitL_single {k : Kd} {zs : List AV} (h : fitL [k] zs) : ∃ a, zs = [a] ∧ fitA k a := by
  match zs, h with
  | [a], h => exact ⟨a, rfl, (fitL_cons.1 h).1⟩
  | [], h => have := fitL_length h; simp at this
  | _ :: _ :: _, h => have := fitL_length h; simp at this
/-- A row of whole numbers that came in: as many, each a number of 64 bits. -/
theorem open_raw {H : Type} {enc : TypeId × Value → H} {P : Program} {w : World} {r : Reach} {b0 : Nat} {t e : TypeId} {v : Value} {d : DataW H} {p : List MemPlace} (hu : P.underlying t = some (.slice e)) (hk : kds P 2 t = some [.l 1 [.i .i64]]) (hv : Value.okWide P w r b0 t v)
    (h : DataW.Trod enc P w 0 (fun _ => true) true t v d p) : ∃ n hs, rel (Env.all w) (rsl n hs) v ∧ ∀ i, i < n → (Lit.int .i64 (hs i)).wf = true := by
  have hone : v.cells = #[v] := by
    obtain ⟨a, len, cap, rfl⟩ := okWide_slice hu hv
    rfl
  obtain ⟨fuel, hf⟩ := h
  obtain ⟨a, h1, h2⟩ := open_arg hf hk hone
  rw [fitA] at h1
  obtain ⟨n, el, rfl, _, hel⟩ := h1
  have key : ∀ i, i < n → el i = [iA (numOf el i)] ∧ (Lit.int .i64 (numOf el i)).wf = true := fun i hi => by
    obtain ⟨a, ha, hf⟩ := fitL_single (hel i hi)
    rw [fitA] at hf
    obtain ⟨m, rfl, hw⟩ := hf
    have e : numOf el i = m := by unfold numOf; rw [ha]
    rw [e]
    exact ⟨ha, hw⟩
  exact ⟨n, numOf el, sl_same h2 fun i hi => (key i hi).1.symm, fun i hi => (key i hi).2⟩
end Go.Proofs.Ytgijfbcfajhmlaa
