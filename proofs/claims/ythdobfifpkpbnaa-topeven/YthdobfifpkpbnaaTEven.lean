/-
  The law TopEven returns true for every three numbers: of the first base-to-the-m numbers just one is mirrored into each of as many equal parts.
-/
import Derived.Test.YthdobfifpkpbnaaMir
import Derived.Carry
import Derived.ChangeSlices
namespace Go.Proofs.Ythdobfifpkpbnaa
open Go.Gv Go.RowKit Go.ChangeShapes Go.WideShapes Go.ChangeAt
open Go.Ev (law_post)

/-! ### Pick -/
def pk0 (c : Int) : Int := cond (decide (c < 0)) (w64 (0 - w64 (c + 1))) c
def pk (c n : Int) : Int := (pk0 c).tmod n
theorem pick_ev (c n : Int) : ev Try.prog [] [] noL Try.f4 [iA c, iA n] ret = cond (decide (c < 0)) (cond ((!(n == 0)) && true) (some (Out.of (iA ((w64 (0 - w64 (c + 1))).tmod n)))) none) (cond ((!(n == 0)) && true) (some (Out.of (iA (c.tmod n)))) none) := by kernel_rfl
theorem pick_spec {c n : Int} (hn : (!(n == 0)) = true) : FSpec Try.prog 4 [iA c, iA n] (iA (pk c n)) := by
  refine gspec e_nil k_nil Try.func4 (by kernel_rfl) (by kernel_rfl) noL_ok rfl ?_
  rw [pick_ev, hn]
  unfold pk pk0
  cases decide (c < 0) <;> rfl
def pkC : List AV → Bool
  | [.x (.int .i64 _), .x (.int .i64 n)] => !(n == 0)
  | _ => false
def pkG : List AV → AV
  | [.x (.int .i64 c), .x (.int .i64 n)] => iA (pk c n)
  | _ => .any
theorem kPick_ok : KOk Try.prog (kIf 4 pkC pkG) := kIf_ok fun args h => by
  unfold pkC at h
  split at h
  · exact pick_spec h
  · cases h
theorem pk_nat {c : Int} {n : Nat} (hc : (Lit.int .i64 c).wf = true) (hn : 0 < n) : ∃ k : Nat, pk c n = k ∧ k < n := by
  have h0 : ∃ m : Nat, pk0 c = m := by
    have hr : -9223372036854775808 ≤ c ∧ c ≤ 9223372036854775807 := by
      simp [Lit.wf, IntKind.min, IntKind.max, IntKind.signed, IntKind.bits] at hc
      omega
    unfold pk0
    by_cases h : c < 0
    · rw [decide_eq_true h]
      simp only [cond_true]
      rw [w64_id (n := c + 1) (by omega) (by omega), w64_id (by omega) (by omega)]
      exact ⟨(0 - (c + 1)).toNat, by omega⟩
    · rw [decide_eq_false h]
      exact ⟨c.toNat, by simp only [cond_false]; omega⟩
  obtain ⟨m, hm⟩ := h0
  refine ⟨m % n, ?_, Nat.mod_lt _ hn⟩
  unfold pk
  rw [hm, ← Int.ofNat_tmod]

/-! ### Turned about twice -/
def tb (b A j : Nat) : Nat := mnum b j (dgs b 24 j) * A / b ^ dgs b 24 j
def upTo : Nat → (Nat → Bool) → Bool
  | 0, _ => true
  | n + 1, p => p n && upTo n p
theorem upTo_all : ∀ {n : Nat} {p : Nat → Bool}, upTo n p = true → ∀ i, i < n → p i = true
  | 0, _, _, i, h => by omega
  | n + 1, p, h, i, hi => by
    simp only [upTo, Bool.and_eq_true] at h
    by_cases e : i = n
    · subst e; exact h.1
    · exact upTo_all h.2 i (by omega)
def tbOk (b m : Nat) : Bool := cond (Nat.ble (b ^ m) 1000) (upTo (b ^ m) fun j => Nat.blt (tb b (b ^ m) j) (b ^ m) && Nat.beq (tb b (b ^ m) (tb b (b ^ m) j)) j) true
theorem tb_all : upTo 17 (fun b => cond (Nat.blt b 2) true (upTo 4 (tbOk b))) = true := by decide +kernel
theorem tb_inv {b m : Nat} (hb : 2 ≤ b) (hb' : b ≤ 16) (hm : m < 4) (hA : b ^ m ≤ 1000) {j : Nat} (hj : j < b ^ m) : tb b (b ^ m) j < b ^ m ∧ tb b (b ^ m) (tb b (b ^ m) j) = j := by
  have h1 := upTo_all tb_all b (by omega)
  have e1 : Nat.blt b 2 = false := by
    cases h : Nat.blt b 2
    · rfl
    · have : b < 2 := Nat.le_of_ble_eq_true h
      omega
  rw [e1] at h1
  have h2 := upTo_all h1 m hm
  unfold tbOk at h2
  rw [Nat.ble_eq_true_of_le hA] at h2
  have h3 := upTo_all h2 j hj
  simp only [Bool.and_eq_true] at h3
  exact ⟨Nat.le_of_ble_eq_true h3.1, Nat.eq_of_beq_eq_true h3.2⟩
def cnt (f : Nat → Nat) (p : Nat) : Nat → Nat
  | 0 => 0
  | n + 1 => cond (f n == p) (cnt f p n + 1) (cnt f p n)
theorem cnt_le (f : Nat → Nat) (p : Nat) : ∀ n, cnt f p n ≤ n
  | 0 => Nat.le_refl _
  | n + 1 => by
    have := cnt_le f p n
    simp only [cnt]
    cases f n == p <;> simp only [cond_true, cond_false] <;> omega
theorem cnt_one {f : Nat → Nat} {p q : Nat} : ∀ {n : Nat}, (∀ j, j < n → (f j = p ↔ j = q)) → cnt f p n = cond (Nat.blt q n) 1 0
  | 0, _ => rfl
  | n + 1, h => by
    have ih := cnt_one (n := n) fun j hj => h j (by omega)
    have hn := h n (by omega)
    simp only [cnt, ih]
    by_cases e : n = q
    · subst e
      have e1 : (f n == p) = true := beq_iff_eq.2 (hn.2 rfl)
      have e2 : Nat.blt n n = false := by
        cases hb : Nat.blt n n
        · rfl
        · have : n < n := Nat.le_of_ble_eq_true hb
          omega
      have e3 : Nat.blt n (n + 1) = true := Nat.ble_eq_true_of_le (Nat.le_refl _)
      rw [e1, e2, e3]
      rfl
    · have e1 : (f n == p) = false := beq_false_of_ne fun hc => e (hn.1 hc)
      rw [e1]
      have e2 : Nat.blt q (n + 1) = Nat.blt q n := by
        cases hb : Nat.blt q n
        · cases hb' : Nat.blt q (n + 1)
          · rfl
          · have h1 : q < n + 1 := Nat.le_of_ble_eq_true hb'
            have h2 : q < n := by omega
            have h3 : Nat.blt q n = true := Nat.ble_eq_true_of_le h2
            rw [h3] at hb; cases hb
        · have h1 : q < n := Nat.le_of_ble_eq_true hb
          exact Nat.ble_eq_true_of_le (show q + 1 ≤ n + 1 by omega)
      rw [e2]
      rfl

/-! ### The loops of the law -/
def powS (b m p all k : Int) : St := mkS 70 [(0, iA b), (1, iA m), (2, iA p), (7, iA all), (8, iA k)] []
def keepPw : List Nat := [0, 1, 2, 7, 8]
theorem pow_step (b m p all k : Int) : evC Try.prog [] [] noL (loopAt Try.f3 0) (powS b m p all k) (finN keepPw []) = cond (decide (k < m)) (some ⟨.normal, powS b m p (w64 (all * b)) (w64 (k + 1)), .any⟩) none := by kernel_rfl
theorem pow_end (b m p all k : Int) : evC Try.prog [] [] noL (loopAt Try.f3 0) (powS b m p all k) (finX keepPw []) = cond (decide (k < m)) none (some ⟨.exit 0, powS b m p all k, .any⟩) := by kernel_rfl
theorem pow_leads {b m : Nat} (p : Int) (hb : b ≤ 16) (hm : m < 4) : Leads Try.prog (.loop (loopAt Try.f3 0)) (powS b m p 1 0) (.exit 0) (powS b m p (b ^ m : Nat) m) := by
  have h0 : Leads Try.prog (.loop (loopAt Try.f3 0)) (powS b m p (b ^ 0 : Nat) (0 : Nat)) (.exit 0) (powS b m p (b ^ m : Nat) m) := by
    refine loop_rule (fun k => powS b m p (b ^ k : Nat) (k : Nat)) m (.exit 0) _ (by simp) (fun k hk => ?_) ?_
    · refine leads_ev (finN_sub keepPw []) e_nil k_nil noL_ok ?_
      have hs : b ^ (k + 1) ≤ 4096 := Nat.le_trans (Nat.pow_le_pow_left hb (k + 1)) (Nat.le_trans (Nat.pow_le_pow_right (by decide) (show k + 1 ≤ 3 by omega)) (by decide))
      have e4 : w64 (((b ^ k : Nat) : Int) * (b : Int)) = ((b ^ (k + 1) : Nat) : Int) := by
        rw [← Int.natCast_mul, ← Nat.pow_succ]; exact w64_nat (Nat.le_trans hs (by decide))
      rw [pow_step, dec_lt hk, e4, w64_next (by omega)]
      rfl
    · refine leads_ev (finX_sub keepPw []) e_nil k_nil noL_ok ?_
      rw [pow_end, dec_self]
      rfl
  exact h0
def hitS (b p all h n : Int) : St := mkS 70 [(0, iA b), (2, iA p), (7, iA all), (9, iA h), (10, iA n)] []
def keepHi : List Nat := [0, 2, 7, 9, 10]
def E1 : List Entry := [⟨5, gMir⟩]
theorem E1_ok : ∀ e, e ∈ E1 → EOk Try.prog e := e_cons gMir_ok e_nil
def hitBad (b n : Int) : Bool := cond (cond (cond (!(mE b n == 0)) true (decide (mB b n < 1))) true (decide (mA b n < 0))) true (decide (mA b n ≥ mB b n))
theorem hit_step (b p all h n : Int) : evC Try.prog E1 [] noL (loopAt Try.f3 1) (hitS b p all h n) (finN keepHi []) =
    cond (decide (n < all)) (cond (hitBad b n) none (cond ((!(mB b n == 0)) && true) (cond (w64 (Int.tdiv (w64 (mA b n * all)) (mB b n)) == p) (some ⟨.normal, hitS b p all (w64 (h + 1)) (w64 (n + 1)), .any⟩) (some ⟨.normal, hitS b p all h (w64 (n + 1)), .any⟩)) none)) none := by kernel_rfl
theorem hit_end (b p all h n : Int) : evC Try.prog E1 [] noL (loopAt Try.f3 1) (hitS b p all h n) (finE keepHi []) =
    cond (decide (n < all)) (cond (hitBad b n) none (cond ((!(mB b n == 0)) && true) (cond (w64 (Int.tdiv (w64 (mA b n * all)) (mB b n)) == p) none none) none)) (some ⟨.exit 2, hitS b p all h n, .any⟩) := by kernel_rfl
theorem hit_good {b n : Nat} (hb : 2 ≤ b) (hb' : b ≤ 16) (hn : n < 16777216) : hitBad b n = false ∧ mA b n = (mnum b n (dgs b 24 n) : Nat) ∧ mB b n = (b ^ dgs b 24 n : Nat) := by
  have hbad : mBad (b : Int) (n : Int) = false := by
    unfold mBad
    rw [decide_eq_false (show ¬ (b : Int) < 2 by omega), decide_eq_false (show ¬ (b : Int) > 16 by omega), decide_eq_false (show ¬ (n : Int) < 0 by omega), decide_eq_false (show ¬ (n : Int) ≥ 16777216 by omega)]
    rfl
  have e1 : mA b n = (mnum b n (dgs b 24 n) : Nat) := by simp only [mA, hbad, cond_false, Int.toNat_natCast]
  have e2 : mB b n = (b ^ dgs b 24 n : Nat) := by simp only [mB, hbad, cond_false, Int.toNat_natCast]
  refine ⟨?_, e1, e2⟩
  have h1 := mnum_lt (n := n) hb (dgs b 24 n)
  have h2 : 0 < b ^ dgs b 24 n := Nat.pow_pos (by omega)
  unfold hitBad
  rw [e1, e2, decide_eq_false (show ¬ ((b ^ dgs b 24 n : Nat) : Int) < 1 by omega), decide_eq_false (show ¬ ((mnum b n (dgs b 24 n) : Nat) : Int) < 0 by omega), decide_eq_false (show ¬ ((mnum b n (dgs b 24 n) : Nat) : Int) ≥ ((b ^ dgs b 24 n : Nat) : Int) by omega)]
  simp only [mE, hbad, cond_false]
  rfl
theorem hit_leads {b A p : Nat} (hb : 2 ≤ b) (hb' : b ≤ 16) (hA : A ≤ 1000) : Leads Try.prog (.loop (loopAt Try.f3 1)) (hitS b p A 0 0) (.exit 2) (hitS b p A (cnt (tb b A) p A : Nat) A) := by
  have h0 : Leads Try.prog (.loop (loopAt Try.f3 1)) (hitS b p A (cnt (tb b A) p 0 : Nat) (0 : Nat)) (.exit 2) (hitS b p A (cnt (tb b A) p A : Nat) A) := by
    refine loop_rule (fun n => hitS b p A (cnt (tb b A) p n : Nat) (n : Nat)) A (.exit 2) _ (by simp) (fun n hn => ?_) ?_
    · refine leads_ev (finN_sub keepHi []) E1_ok k_nil noL_ok ?_
      obtain ⟨h1, h2, h3⟩ := hit_good (n := n) hb hb' (by omega)
      have hm := mnum_lt (n := n) hb (dgs b 24 n)
      have hs := pow_small (n := n) hb hb' (by omega) (Nat.le_refl (dgs b 24 n))
      have hp : 0 < b ^ dgs b 24 n := Nat.pow_pos (by omega)
      have hmul : mnum b n (dgs b 24 n) * A ≤ 268435456 * 1000 := Nat.mul_le_mul (Nat.le_trans (Nat.le_of_lt hm) hs) hA
      have e1 : w64 (((mnum b n (dgs b 24 n) : Nat) : Int) * (A : Int)) = ((mnum b n (dgs b 24 n) * A : Nat) : Int) := by
        rw [← Int.natCast_mul]; exact w64_nat (by omega)
      have hdle : tb b A n ≤ mnum b n (dgs b 24 n) * A := Nat.div_le_self _ _
      have e2 : w64 (Int.tdiv ((mnum b n (dgs b 24 n) * A : Nat) : Int) ((b ^ dgs b 24 n : Nat) : Int)) = ((tb b A n : Nat) : Int) := by
        rw [← Int.ofNat_tdiv]; exact w64_nat (Nat.le_trans hdle (by omega))
      have hc := cnt_le (tb b A) p n
      rw [hit_step, dec_lt hn, h1, h3, nat_ne hp, h2, e1, e2, w64_next (n := n) (by omega), w64_next (by omega)]
      simp only [cnt, cond_true, cond_false, Bool.and_true]
      by_cases e : tb b A n = p
      · have e3 : (((tb b A n : Nat) : Int) == (p : Int)) = true := beq_iff_eq.2 (by omega)
        have e4 : (tb b A n == p) = true := beq_iff_eq.2 e
        rw [e3, e4]; rfl
      · have e3 : (((tb b A n : Nat) : Int) == (p : Int)) = false := beq_false_of_ne (by omega)
        have e4 : (tb b A n == p) = false := beq_false_of_ne e
        rw [e3, e4]; rfl
    · refine leads_ev (finE_sub keepHi []) E1_ok k_nil noL_ok ?_
      rw [hit_end, dec_self]
      rfl
  exact h0

/-! ### The law -/
noncomputable def lawL (b m p : Nat) (q : Int) : Nat → Option LFun := twoL 5 (toldF keepPw [] (powS b m q 1 0) (.exit 0) (powS b m q (b ^ m : Nat) m)) 13 (toldF keepHi [] (hitS b p (b ^ m : Nat) 0 0) (.exit 2) (hitS b p (b ^ m : Nat) (cnt (tb b (b ^ m)) p (b ^ m) : Nat) (b ^ m : Nat)))
theorem lawL_ok {b m p : Nat} {q : Int} (hb : 2 ≤ b) (hb' : b ≤ 16) (hm : m < 4) (hA : b ^ m ≤ 1000) : LOk Try.prog (lawL b m p q) (bodyOf Try.f3) :=
  lok_all 2 (by kernel_rfl) fun j hj i g hi hg => by
    have : j = 0 ∨ j = 1 := by omega
    rcases this with rfl | rfl
    · have e : firstId ((loopsOf (bodyOf Try.f3)).getD 0 .skip) = some 5 := by kernel_rfl
      rw [e] at hi; cases hi; cases hg
      exact toldF_sound (pow_leads q hb' hm)
    · have e : firstId ((loopsOf (bodyOf Try.f3)).getD 1 .skip) = some 13 := by kernel_rfl
      rw [e] at hi; cases hi; cases hg
      exact toldF_sound (hit_leads hb hb' hA)
noncomputable def lawL1 (b m : Nat) (q : Int) : Nat → Option LFun := twoL 5 (toldF keepPw [] (powS b m q 1 0) (.exit 0) (powS b m q (b ^ m : Nat) m)) 13 (fun _ _ => none)
theorem lawL1_ok {b m : Nat} {q : Int} (hb' : b ≤ 16) (hm : m < 4) : LOk Try.prog (lawL1 b m q) (bodyOf Try.f3) :=
  lok_all 2 (by kernel_rfl) fun j hj i g hi hg => by
    have : j = 0 ∨ j = 1 := by omega
    rcases this with rfl | rfl
    · have e : firstId ((loopsOf (bodyOf Try.f3)).getD 0 .skip) = some 5 := by kernel_rfl
      rw [e] at hi; cases hi; cases hg
      exact toldF_sound (pow_leads q hb' hm)
    · have e : firstId ((loopsOf (bodyOf Try.f3)).getD 1 .skip) = some 13 := by kernel_rfl
      rw [e] at hi; cases hi; cases hg
      exact ⟨fun _ _ _ hr => (by cases hr), fun _ _ _ hk => (by have := hk (fun e s => some ⟨e, s, .any⟩); cases this)⟩
theorem law_ev (x y z : Int) (b m p : Nat) : ev Try.prog E1 [kIf 4 pkC pkG] (lawL b m p z) Try.f3 [iA x, iA y, iA z] ret =
    gate (Sub (powS (w64 (2 + pk x 15)) (pk y 4) z 1 0) (powS b m z 1 0)) (cond (decide (((b ^ m : Nat) : Int) > 1000)) (some (Out.of (bA true)))
      (cond (!(((b ^ m : Nat) : Int) == 0)) (gate (Sub (hitS b (pk z (b ^ m : Nat)) (b ^ m : Nat) 0 0) (hitS b p (b ^ m : Nat) 0 0)) (some (Out.of (bA (((cnt (tb b (b ^ m)) p (b ^ m) : Nat) : Int) == 1))))) none)) := by kernel_rfl
theorem law_ev1 (x y z : Int) (b m : Nat) : ev Try.prog E1 [kIf 4 pkC pkG] (lawL1 b m z) Try.f3 [iA x, iA y, iA z] ret =
    gate (Sub (powS (w64 (2 + pk x 15)) (pk y 4) z 1 0) (powS b m z 1 0)) (cond (decide (((b ^ m : Nat) : Int) > 1000)) (some (Out.of (bA true)))
      (cond (!(((b ^ m : Nat) : Int) == 0)) none none)) := by kernel_rfl
theorem law_all {x y z : Int} (hx : (Lit.int .i64 x).wf = true) (hy : (Lit.int .i64 y).wf = true) (hz : (Lit.int .i64 z).wf = true) : FSpec Try.prog 3 [iA x, iA y, iA z] (bA true) := by
  obtain ⟨k, hk, hk1⟩ := pk_nat hx (show 0 < 15 by decide)
  obtain ⟨m, hm, hm1⟩ := pk_nat hy (show 0 < 4 by decide)
  have hk : pk x 15 = k := hk
  have hm : pk y 4 = m := hm
  have eb : w64 (2 + pk x 15) = ((2 + k : Nat) : Int) := by rw [hk, w64_id (by omega) (by omega)]; omega
  have hpos : 0 < (2 + k) ^ m := Nat.pow_pos (by omega)
  by_cases hA : (2 + k) ^ m ≤ 1000
  · obtain ⟨p, hp, hp1⟩ := pk_nat hz hpos
    refine gspec E1_ok (k_cons kPick_ok k_nil) Try.func3 (by kernel_rfl) (by kernel_rfl) (lawL_ok (b := 2 + k) (m := m) (p := p) (q := z) (by omega) (by omega) hm1 hA) rfl ?_
    rw [law_ev, eb, hm, hp, gate_pos (Sub.refl _), gate_pos (Sub.refl _), decide_eq_false (show ¬ (((2 + k) ^ m : Nat) : Int) > 1000 by omega), nat_ne hpos]
    have h1 : cnt (tb (2 + k) ((2 + k) ^ m)) p ((2 + k) ^ m) = 1 := by
      have hq := tb_inv (b := 2 + k) (m := m) (by omega) (by omega) hm1 hA hp1
      rw [cnt_one (q := tb (2 + k) ((2 + k) ^ m) p) fun j hj => ?_]
      · have : Nat.blt (tb (2 + k) ((2 + k) ^ m) p) ((2 + k) ^ m) = true := Nat.ble_eq_true_of_le hq.1
        rw [this]; rfl
      · have hj2 := (tb_inv (b := 2 + k) (m := m) (by omega) (by omega) hm1 hA hj).2
        constructor
        · intro e; rw [e] at hj2; exact hj2.symm
        · intro e; rw [e]; exact hq.2
    rw [h1]
    rfl
  · refine gspec E1_ok (k_cons kPick_ok k_nil) Try.func3 (by kernel_rfl) (by kernel_rfl) (lawL1_ok (b := 2 + k) (m := m) (q := z) (by omega) hm1) rfl ?_
    rw [law_ev1, eb, hm, gate_pos (Sub.refl _), decide_eq_true (show (((2 + k) ^ m : Nat) : Int) > 1000 by omega)]
    rfl

theorem trodAll_three {H : Type} {enc : TypeId × Value → H} {P : Program} {w : World} {base : Nat} {spare : Nat → Bool} {held : Bool} {t t' t'' : TypeId} {args : Array Value} {ds : List (DataW H)} {ps : List MemPlace} (h : DataW.TrodAll enc P w base spare held [t, t', t''] args.toList ds ps) :
    ∃ v v' v'' d d' d'' p p' p'', args = #[v, v', v''] ∧ ds = [d, d', d''] ∧ ps = p ++ (p' ++ (p'' ++ [])) ∧ DataW.Trod enc P w base spare held t v d p ∧ DataW.Trod enc P w base spare held t' v' d' p' ∧ DataW.Trod enc P w base spare held t'' v'' d'' p'' := by
  obtain ⟨v, vs, d, dt, p, pt, e1, rfl, rfl, h1, h⟩ := trodAll_cons h
  obtain ⟨v', vs', d', dt', p', pt', rfl, rfl, rfl, h2, h⟩ := trodAll_cons h
  obtain ⟨v'', vs'', d'', dt'', p'', pt'', rfl, rfl, rfl, h3, h⟩ := trodAll_cons h
  obtain ⟨rfl, rfl, rfl⟩ := trodAll_nil h
  exact ⟨v, v', v'', d, d', d'', p, p', p'', by rw [← Array.toList_inj, e1], rfl, rfl, h1, h2, h3⟩
set_option maxRecDepth 100000 in
theorem even_lifted (os : Os) (started : os.Started) (H : Type) (enc : TypeId × Value → H) :
    ReturnsInHanded {} Try.checked os 3 .any (Rows.topEvenSpec.pre6 enc Try.prog Try.f3 Rows.topEvenRow.domain false) (Rows.topEvenSpec.post enc Try.prog Try.f3 false true false false) := by
  refine returnsInHanded_of_change (C := Try.checked) Try.own started (by kernel_rfl) Try.func3
    (ChangeSpec.witness6 (enc := enc) (C := Try.checked) false ⟨#[], #[.int .i64 0, .int .i64 0, .int .i64 0], []⟩ 8 (by kernel_rfl) (by kernel_rfl) (by kernel_rfl) (by kernel_rfl)) ?_
  intro W base args ds gs before hval0 hW hcnd _
  have hval : ∀ (j : Nat) t v, Try.f3.params[j]? = some t → args[j]? = some v → Value.okWide Try.prog W .any base t v := hval0
  have hW' := hW
  obtain ⟨p, q, hA0, hV, rfl, hfz, hnd⟩ := hW
  have hA : DataW.TrodAll enc Try.prog W 0 (fun _ => true) true Try.f3.params.toList args.toList ds p := hA0
  rw [Try.params3] at hA hval
  obtain ⟨v0, v1, v2, d0, d1, d2, p0, p1, p2, rfl, rfl, rfl, h0, h1, h2⟩ := trodAll_three hA
  obtain ⟨rfl, rfl⟩ := trodVars_none hV
  obtain ⟨x, r0, w0⟩ := open_int Try.underlying3 (by kernel_rfl) (hval 0 3 v0 rfl rfl) h0
  obtain ⟨y, r1, w1⟩ := open_int Try.underlying3 (by kernel_rfl) (hval 1 3 v1 rfl rfl) h1
  obtain ⟨z, r2, w2⟩ := open_int Try.underlying3 (by kernel_rfl) (hval 2 3 v2 rfl rfl) h2
  refine ((law_all w0 w1 w2).2 (fun _ => False) W #[v0, v1, v2] (fun _ h => h.elim) (rels_cons.2 ⟨v0, [v1, v2], rfl, r0, rels_cons.2 ⟨v1, [v2], rfl, r1, rels_cons.2 ⟨v2, [], rfl, r2, rels_nil.2 rfl⟩⟩⟩)).mono ?_
  rintro e' W' ⟨v, rfl, hv, hb⟩
  have hvt : v = .bool true := rel_x.1 hv
  subst hvt
  exact ⟨_, rfl, law_post Try.laidOut (by kernel_rfl) rfl (by kernel_rfl) Try.underlying4 rfl hW' hb⟩

/-- THE STATEMENT. -/
theorem topEven_holds : Rows.TopEvenSaid :=
  OpenClaim.holds_of_wide 3 Try.f3 rfl rfl rfl rfl rfl rfl rfl ⟨rfl, rfl, rfl, rfl, rfl⟩ rfl rfl rfl rfl rfl (by kernel_rfl) Try.func3 (by kernel_rfl)
    (of_decide_eq_true (by kernel_rfl)) (by unfold Func.isWrapper; first | (rw [if_pos (by decide +kernel)]; kernel_rfl) | (rw [if_neg (by decide +kernel)]; exact ⟨rfl, rfl⟩))
    (fun os started H enc _ => even_lifted os started H enc)
#print axioms topEven_holds
end Go.Proofs.Ythdobfifpkpbnaa
