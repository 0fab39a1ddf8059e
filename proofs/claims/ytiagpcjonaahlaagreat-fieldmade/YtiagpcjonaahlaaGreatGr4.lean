/-
  The document's answer on fields: its face.
-/
import Derived.Test.YtiagpcjonaahlaaGreatGr3
namespace Go.Proofs.YtiagpcjonaahlaaGreat
open Go.Gv
open Go.Ev (cn fadd fsub fmul fdiv feq flt fle fgt fge)

def rsS (F : Fd) (n : Nat) (p : Nat → Nat → Nat) (r : Nat → Nat) (a : Int) (t : Nat) (q : Int) : St := mkS 73 [(2, .own 0 0), (3, .own 1 0), (8, .sl 13 n fun q => shC (p q) F.sk), (13, iA a), (14, .f t), (15, iA q)] [.c F.c, .c (rC r)]
def keepW : List Nat := [2, 3, 8, 13, 14, 15]
def betterR (sk : Int) (s r : Nat → Nat) (a : Int) (t : Nat) : Bool := cond (triK sk (l11 s) (l7 r)) (cond (decide (a < 0)) true (flt (triF sk (l11 s) (l7 r)) t)) false
theorem rs_step (F : Fd) (n : Nat) (p : Nat → Nat → Nat) (r : Nat → Nat) (a : Int) (t : Nat) (q : Int) : evC Tryz.prog D2 [] noL (loopAt Tryz.f13 0) (rsS F n p r a t q) (finN keepW [some 0, some 1]) =
    cond (decide (q < (n : Int))) (cond ((inR q n || false) && true) (cond (betterR F.sk (p q.toNat) r a t) (some ⟨.normal, rsS F n p r q (triF F.sk (l11 (p q.toNat)) (l7 r)) (w64 (q + 1)), .any⟩) (some ⟨.normal, rsS F n p r a t (w64 (q + 1)), .any⟩)) none) none := by kernel_rfl
theorem rs_end (F : Fd) (n : Nat) (p : Nat → Nat → Nat) (r : Nat → Nat) (a : Int) (t : Nat) (q : Int) : evC Tryz.prog D2 [] noL (loopAt Tryz.f13 0) (rsS F n p r a t q) (finX keepW [some 0, some 1]) =
    cond (decide (q < (n : Int))) (cond ((inR q n || false) && true) (cond (betterR F.sk (p q.toNat) r a t) none none) none) (some ⟨.exit 0, rsS F n p r a t q, .any⟩) := by kernel_rfl
def Hit.a (x : Hit) : Int := cond x.ok x.at_ (-1)
theorem hit_ge (sk : Int) (p : Nat → Nat → Nat) (r : Nat → Nat) : ∀ n, 0 ≤ (hitQ sk p r n).at_ ∧ ((hitQ sk p r n).ok = false → (hitQ sk p r n).at_ = 0 ∧ (hitQ sk p r n).t = 0)
  | 0 => ⟨by simp [hitQ], fun _ => ⟨rfl, rfl⟩⟩
  | n + 1 => by
    simp only [hitQ]
    cases better sk (p n) r (hitQ sk p r n)
    · exact hit_ge sk p r n
    · exact ⟨Int.natCast_nonneg _, fun h => by cases h⟩
theorem hit_neg (sk : Int) (p : Nat → Nat → Nat) (r : Nat → Nat) (n : Nat) : decide ((hitQ sk p r n).a < 0) = !(hitQ sk p r n).ok := by
  have h := (hit_ge sk p r n).1
  unfold Hit.a
  cases (hitQ sk p r n).ok
  · rfl
  · exact decide_eq_false (by simp only [cond_true]; omega)
theorem rs_leads {F : Fd} {n : Nat} (p : Nat → Nat → Nat) (r : Nat → Nat) (hn : n < 4611686018427387904) : Leads Tryz.prog (.loop (loopAt Tryz.f13 0)) (rsS F n p r (-1) 0 0) (.exit 0) (rsS F n p r (hitQ F.sk p r n).a (hitQ F.sk p r n).t (n : Nat)) := by
  refine loop_rule (fun q => rsS F n p r (hitQ F.sk p r q).a (hitQ F.sk p r q).t (q : Nat)) n (.exit 0) _ (by simp) (fun q hq => ?_) ?_
  · refine leads_ev (finN_sub keepW [some 0, some 1]) D2_ok k_nil noL_ok ?_
    have e : betterR F.sk (p q) r (hitQ F.sk p r q).a (hitQ F.sk p r q).t = better F.sk (p q) r (hitQ F.sk p r q) := by unfold betterR better; rw [hit_neg]
    rw [rs_step, dec_lt hq, inR_nat hq, w64_next (by omega)]
    simp only [Int.toNat_natCast, hitQ, e]
    cases better F.sk (p q) r (hitQ F.sk p r q) <;> rfl
  · refine leads_ev (finX_sub keepW [some 0, some 1]) D2_ok k_nil noL_ok ?_
    rw [rs_end, dec_self]
    rfl
noncomputable def rsL (F : Fd) (n : Nat) (p : Nat → Nat → Nat) (r : Nat → Nat) : Nat → Option LFun := oneL 12 (toldF keepW [some 0, some 1] (rsS F n p r (-1) 0 0) (.exit 0) (rsS F n p r (hitQ F.sk p r n).a (hitQ F.sk p r n).t (n : Nat)))
theorem rsL_ok {F : Fd} {n : Nat} (p : Nat → Nat → Nat) (r : Nat → Nat) (hn : n < 4611686018427387904) : LOk Tryz.prog (rsL F n p r) (bodyOf Tryz.f13) :=
  lok_one (i := 12) 1 (by kernel_rfl) fun j hj _ => by
    have : j = 0 := by omega
    subst this
    exact toldF_sound (rs_leads p r hn)
theorem rs_ev1 (F : Fd) (r : Nat → Nat) (e : Int) : ev Tryz.prog D2 [kfix 11 [.agg F.c] (.tup [.x (.slice none 0 0), iA e])] (oneL 12 fun _ _ => none) Tryz.f13 [.agg F.c, .agg (rC r)] ret =
    gate ([AV.agg F.c] = [AV.agg F.c]) (cond (e == 0) (cond (!(rayS (l7 r) == 0)) (some (Out.of (.tup [iA 0, .f 0, bA false, iA (rayS (l7 r))]))) none) (cond (!(e == 0)) (some (Out.of (.tup [iA 0, .f 0, bA false, iA e]))) none)) := by kernel_rfl
theorem rs_ev2 (F : Fd) (n : Nat) (p : Nat → Nat → Nat) (b r : Nat → Nat) : ev Tryz.prog D2 [kfix 11 [.agg F.c] (.tup [.sl 13 n fun q => shC (p q) F.sk, iA 0]), kfix 19 [.agg F.c] (.agg (c6 b))] (rsL F n p r) Tryz.f13 [.agg F.c, .agg (rC r)] ret =
    gate ([AV.agg F.c] = [AV.agg F.c]) (cond (!(rayS (l7 r) == 0)) (some (Out.of (.tup [iA 0, .f 0, bA false, iA (rayS (l7 r))]))) (gate ([AV.agg F.c] = [AV.agg F.c]) (cond (!meetK (l6 b) (l7 r)) (some (Out.of (.tup [iA 0, .f 0, bA false, iA 0])))
      (gate (Sub (rsS F n p r (-1) 0 0) (rsS F n p r (-1) 0 0)) (cond (decide ((hitQ F.sk p r n).a < 0)) (some (Out.of (.tup [iA 0, .f 0, bA false, iA 0]))) (some (Out.of (.tup [iA (hitQ F.sk p r n).a, .f (hitQ F.sk p r n).t, bA true, iA 0])))))))) := by kernel_rfl
/-- What the answer gives of a field that may not be. -/
structure BadR (F : Fd) (e : Int) (r : Nat → Nat) : Prop where
  bounds : FSpec Tryz.prog 6 [.agg F.c] (.tup [.agg z6, iA e])
  may : FSpec Tryz.prog 8 [.agg F.c] (iA e)
  pieces : FSpec Tryz.prog 11 [.agg F.c] (.tup [.x (.slice none 0 0), iA e])
  strike : FSpec Tryz.prog 13 [.agg F.c, .agg (rC r)] (.tup [iA 0, .f 0, bA false, iA e])
theorem badR {F : Fd} {e : Int} (r : Nat → Nat) (hne : e ≠ 0) (hm : FSpec Tryz.prog 8 [.agg F.c] (iA e)) : BadR F e r := by
  have hk := k_cons (kfix_ok hm) k_nil
  have he := beq_false_of_ne hne
  have hp : FSpec Tryz.prog 11 [.agg F.c] (.tup [.x (.slice none 0 0), iA e]) := by
    refine gspec D2_ok hk Tryz.func11 (by kernel_rfl) (by kernel_rfl) (lok_none 6) rfl ?_
    rw [rp_ev1, gate_pos rfl, he]; rfl
  refine ⟨gspec D2_ok hk Tryz.func6 (by kernel_rfl) (by kernel_rfl) noL_ok rfl ?_, hm, hp, gspec D2_ok (k_cons (kfix_ok hp) k_nil) Tryz.func13 (by kernel_rfl) (by kernel_rfl) (lok_none 12) rfl ?_⟩
  · rw [rb_ev1, gate_pos rfl, he]; rfl
  · rw [rs_ev1, gate_pos rfl, he]; rfl
structure GoodR (F : Fd) (w h : Nat) (r : Nat → Nat) : Prop where
  bounds : FSpec Tryz.prog 6 [.agg F.c] (.tup [.agg (c6 (bx F)), iA 0])
  may : FSpec Tryz.prog 8 [.agg F.c] (iA 0)
  pieces : FSpec Tryz.prog 11 [.agg F.c] (.tup [.sl 13 (npc w h) fun q => shC (pc F w q) F.sk, iA 0])
  strike : FSpec Tryz.prog 13 [.agg F.c, .agg (rC r)] (.tup [iA (sX F w h r).at_, .f (sX F w h r).t, bA (sX F w h r).ok, iA (sE r)])
theorem goodR {F : Fd} {w h : Nat} (r : Nat → Nat) (d : Dim F w h) (hm : FSpec Tryz.prog 8 [.agg F.c] (iA 0)) : GoodR F w h r := by
  have hb := fb_spec d
  have hnpc : npc w h < 4611686018427387904 := by
    have h1 : (h - 1) * (w - 1) ≤ 8 * 8 := Nat.mul_le_mul (by have := d.h8; omega) (by have := d.w8; omega)
    unfold npc
    omega
  have hp : FSpec Tryz.prog 11 [.agg F.c] (.tup [.sl 13 (npc w h) fun q => shC (pc F w q) F.sk, iA 0]) := by
    refine gspec D2_ok (k_cons (kfix_ok hm) k_nil) Tryz.func11 (by kernel_rfl) (by kernel_rfl) (rpL_ok d) rfl ?_
    have hs : Sub (rpO F 1 0 (pcs F w)) (rpO F 1 (2 * (0 * (w - 1))) (pcs F w)) := by
      rw [Nat.zero_mul]
      exact Sub.refl _
    have e : (fun i => shC (pc F w (0 + i)) F.sk) = fun q => shC (pc F w q) F.sk := funext fun i => by rw [Nat.zero_add]
    rw [rp_ev2, gate_pos rfl, gate_pos hs, e]
    rfl
  refine ⟨gspec D2_ok (k_cons (kfix_ok hm) (k_cons (kfix_ok hb) k_nil)) Tryz.func6 (by kernel_rfl) (by kernel_rfl) noL_ok rfl ?_, hm, hp, gspec D2_ok (k_cons (kfix_ok hp) (k_cons (kfix_ok hb) k_nil)) Tryz.func13 (by kernel_rfl) (by kernel_rfl) (rsL_ok (F := F) (pc F w) r hnpc) rfl ?_⟩
  · rw [rb_ev2, gate_pos rfl, gate_pos rfl]
  · rw [rs_ev2, gate_pos rfl, gate_pos rfl, gate_pos (Sub.refl _), hit_neg]
    have hg := (hit_ge F.sk (pc F w) r (npc w h)).2
    unfold sX
    cases hr : sE r == 0
    · have hr' : (rayS (l7 r) == 0) = false := hr
      rw [hr']; rfl
    · have hr' : (rayS (l7 r) == 0) = true := hr
      have e0 : sE r = 0 := by simpa using hr
      rw [hr', e0]
      cases meetK (l6 (bx F)) (l7 r)
      · rfl
      · simp only [Bool.not_true, cond_false, cond_true]
        unfold Hit.a
        cases ho : (hitQ F.sk (pc F w) r (npc w h)).ok
        · rw [(hg ho).1, (hg ho).2]; rfl
        · rfl
end Go.Proofs.YtiagpcjonaahlaaGreat
