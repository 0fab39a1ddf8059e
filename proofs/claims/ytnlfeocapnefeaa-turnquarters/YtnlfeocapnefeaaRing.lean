/-
  The law TurnQuarters returns true for every axis, all counts and all floats, and leaves its arguments as they were.
-/
import Derived.Test.YtnlfeocapnefeaaQuart
import Derived.Test.YtnlfeocapnefeaaLaws
import Derived.Test.YtnlfeocapnefeaaFl3
namespace Go.Proofs.Ytnlfeocapnefeaa
open Go.Ev Go.RowKit Go.ChangeShapes Go.WideShapes Go.ChangeAt

theorem sameT_self (t : Nat → Nat) : sameT t t = true := by
  unfold sameT; rw [sameVS_self, sameVS_self, sameVS_self, sameVS_self]; rfl

/-- '==' of rows, of vectors. -/
def eqV (a b c d e f : Nat) : Bool := feq a d && (feq b e && (feq c f && true))
def eqM (s t : Nat → Nat) : Bool := eqV (s 0) (s 1) (s 2) (t 0) (t 1) (t 2) && (eqV (s 3) (s 4) (s 5) (t 3) (t 4) (t 5) && (eqV (s 6) (s 7) (s 8) (t 6) (t 7) (t 8) && true))
/-- What is asked of three turns: 'x' that of two behind one another, 'd' that of both counts, 'z' that of the count turned. -/
def ringS (q r d z : Nat → Nat) : Bool :=
  cond (cond (cond (backE q != 0) true (!eqM (thenS q r) d)) true (!eqM (backS q) z)) true (!eqV (thenS q r 9) (thenS q r 10) (thenS q r 11) 0 0 0)
def wayS (q : Nat → Nat) (a b c : Nat) : Bool :=
  eqV (pointS (backS q) 0 (pointS q 0 a b c) (pointS q 1 a b c) (pointS q 2 a b c)) (pointS (backS q) 1 (pointS q 0 a b c) (pointS q 1 a b c) (pointS q 2 a b c)) (pointS (backS q) 2 (pointS q 0 a b c) (pointS q 1 a b c) (pointS q 2 a b c))
    (fadd a 0) (fadd b 0) (fadd c 0)
def tooFar (ax m n : Int) : Bool := cond (cond (cond (cond (qE ax != 0) true (decide (m > 1000))) true (decide (m < -1000))) true (decide (n > 1000))) true (decide (n < -1000))

theorem ring_ev0 (ax m n : Int) (a b c : Nat) : ev Try.prog (L9 Try.prog Try.f67) Try.f7 [I ax, I m, I n, V a b c] =
    cond (cond (qE ax != qE ax) true (!sameT (qS ax m) (qS ax m))) (some (B false))
    (cond (tooFar ax m n) (some (B true))
    (cond (ringS (qS ax m) (qS ax n) (qS ax (IntKind.wrap .i64 (m + n))) (qS ax (IntKind.wrap .i64 (0 - m)))) (some (B false))
    (cond (!fineS a b c) (some (B true)) (some (B (wayS (qS ax m) a b c)))))) := by kernel_rfl


/-! ### Quarters are a ring -/
theorem rings : ((List.range 3).all fun ax => (List.range 4).all fun r => (List.range 4).all fun k => !ringS (qt ax r) (qt ax k) (qt ax ((r + k) % 4)) (qt ax ((4 - r) % 4))) = true := by decide +kernel

theorem ring_false {ax r k : Nat} (h1 : ax < 3) (h2 : r < 4) (h3 : k < 4) : ringS (qt ax r) (qt ax k) (qt ax ((r + k) % 4)) (qt ax ((4 - r) % 4)) = false := by
  have h := rings
  rw [List.all_eq_true] at h
  have g1 := h ax (List.mem_range.2 h1)
  rw [List.all_eq_true] at g1
  have g2 := g1 r (List.mem_range.2 h2)
  rw [List.all_eq_true] at g2
  have g3 := g2 k (List.mem_range.2 h3)
  simpa using g3

/-! ### There and back -/
/-- A row with one number in it that is not nought: where, and which. -/
def rowOf (M : Nat → Nat) (i : Nat) : Option (Nat × Int) :=
  match cls (M (3 * i)), cls (M (3 * i + 1)), cls (M (3 * i + 2)), cls (M (9 + i)) with
  | some k0, some k1, some k2, some 0 => cond (k1 == 0 && k2 == 0) (some (0, k0)) (cond (k0 == 0 && k2 == 0) (some (1, k1)) (cond (k0 == 0 && k1 == 0) (some (2, k2)) none))
  | _, _, _, _ => none
def sel {α : Type} (j : Nat) (a b c : α) : α := match j with
  | 0 => a
  | 1 => b
  | _ => c

theorem nice_nought {c : Nat} (h : cls c = some 0) : Nice c 0 := by
  unfold cls at h
  cases h1 : (c == 4607182418800017408)
  · rw [h1, cond_false] at h
    cases h2 : (c == 13830554455654793216)
    · rw [h2, cond_false] at h
      cases h3 : (c == 0)
      · rw [h3, cond_false] at h
        cases h4 : (c == 9223372036854775808)
        · rw [h4] at h; cases h
        · have e : c = 9223372036854775808 := by simpa using h4
          subst e
          exact nice_zero (s := true) (i := -1074) (by decide +kernel)
      · have e : c = 0 := by simpa using h3
        subst e
        exact nice_zero (s := false) (i := -1074) (by decide +kernel)
    · rw [h2, cond_true] at h; simp at h
  · rw [h1, cond_true] at h; simp at h

theorem point_nice {M : Nat → Nat} {i j : Nat} {k : Int} {a b c : Nat} {va vb vc : Int} (h : rowOf M i = some (j, k)) (ha : Nice a va) (hb : Nice b vb) (hc : Nice c vc) : Nice (pointS M i a b c) (k * sel j va vb vc) := by
  unfold rowOf at h
  split at h
  · rename_i k0 k1 k2 h0 h1 h2 h9
    have n0 := nice_coef h0 ha
    have n1 := nice_coef h1 hb
    have n2 := nice_coef h2 hc
    have n9 := nice_nought h9
    unfold pointS dirS dotS
    cases e1 : (k1 == 0 && k2 == 0)
    · rw [e1, cond_false] at h
      cases e2 : (k0 == 0 && k2 == 0)
      · rw [e2, cond_false] at h
        cases e3 : (k0 == 0 && k1 == 0)
        · rw [e3] at h; cases h
        · rw [e3, cond_true] at h
          simp only [Option.some.injEq, Prod.mk.injEq] at h
          obtain ⟨rfl, rfl⟩ := h
          simp only [Bool.and_eq_true, beq_iff_eq] at e3
          rw [e3.1, Int.zero_mul] at n0
          rw [e3.2, Int.zero_mul] at n1
          exact nice_add (nice_add' (nice_add n0 n1) n2) n9
      · rw [e2, cond_true] at h
        simp only [Option.some.injEq, Prod.mk.injEq] at h
        obtain ⟨rfl, rfl⟩ := h
        simp only [Bool.and_eq_true, beq_iff_eq] at e2
        rw [e2.1, Int.zero_mul] at n0
        rw [e2.2, Int.zero_mul] at n2
        exact nice_add (nice_add (nice_add' n0 n1) n2) n9
    · rw [e1, cond_true] at h
      simp only [Option.some.injEq, Prod.mk.injEq] at h
      obtain ⟨rfl, rfl⟩ := h
      simp only [Bool.and_eq_true, beq_iff_eq] at e1
      rw [e1.1, Int.zero_mul] at n1
      rw [e1.2, Int.zero_mul] at n2
      exact nice_add (nice_add (nice_add n0 n1) n2) n9
  · cases h

/-- The second turn undoes the first. -/
def undoes (M N : Nat → Nat) : Bool := (List.range 3).all fun i => match rowOf N i with
  | some (j, k) => match rowOf M j with
    | some (l, k2) => Nat.blt j 3 && (l == i && k * k2 == 1)
    | none => false
  | none => false
theorem undo : ((List.range 3).all fun ax => (List.range 4).all fun r => ((List.range 3).all fun i => (rowOf (qt ax r) i).isSome) && undoes (qt ax r) (backS (qt ax r))) = true := by decide +kernel

theorem way_true {ax r : Nat} (h1 : ax < 3) (h2 : r < 4) {a b c : Nat} (hf : fineS a b c = true) : wayS (qt ax r) a b c = true := by
  have h := undo
  rw [List.all_eq_true] at h
  have g1 := h ax (List.mem_range.2 h1)
  rw [List.all_eq_true] at g1
  have g2 := g1 r (List.mem_range.2 h2)
  simp only [Bool.and_eq_true] at g2
  obtain ⟨hs, hu⟩ := g2
  obtain ⟨ha, hb, hc⟩ := fine_parts hf
  have nice : ∀ x, nearS x = true → ∃ v, Nice x v := fun x hx => by
    obtain ⟨s, m, i, p1, p2, p3, p4⟩ := near_of hx
    exact ⟨_, s, m, i, p1, p2, p3, p4, rfl⟩
  obtain ⟨va, na⟩ := nice a ha
  obtain ⟨vb, nb⟩ := nice b hb
  obtain ⟨vc, nc⟩ := nice c hc
  rw [List.all_eq_true] at hs
  have row : ∀ i, i < 3 → ∃ j k, rowOf (qt ax r) i = some (j, k) := fun i hi => by
    have := hs i (List.mem_range.2 hi)
    cases hr : rowOf (qt ax r) i with
    | none => rw [hr] at this; cases this
    | some q => exact ⟨q.1, q.2, rfl⟩
  obtain ⟨j0, k0, r0⟩ := row 0 (by decide)
  obtain ⟨j1, k1, r1⟩ := row 1 (by decide)
  obtain ⟨j2, k2, r2⟩ := row 2 (by decide)
  have p0 := point_nice r0 na nb nc
  have p1 := point_nice r1 na nb nc
  have p2 := point_nice r2 na nb nc
  have fin : ∀ i, i < 3 → ∀ x, Nice x (sel i va vb vc) → feq (pointS (backS (qt ax r)) i (pointS (qt ax r) 0 a b c) (pointS (qt ax r) 1 a b c) (pointS (qt ax r) 2 a b c)) (fadd x 0) = true := fun i hi x hx => by
    unfold undoes at hu
    rw [List.all_eq_true] at hu
    have hui := hu i (List.mem_range.2 hi)
    split at hui
    · rename_i j k hN
      split at hui
      · rename_i l kk hM
        simp only [Bool.and_eq_true, beq_iff_eq] at hui
        obtain ⟨hj, hl, hk⟩ := hui
        have hj' : j < 3 := Nat.le_of_ble_eq_true hj
        have hp := point_nice hN p0 p1 p2
        have hval : k * sel j (k0 * sel j0 va vb vc) (k1 * sel j1 va vb vc) (k2 * sel j2 va vb vc) = sel i va vb vc := by
          have hjc : j = 0 ∨ j = 1 ∨ j = 2 := by omega
          rcases hjc with rfl | rfl | rfl
          · rw [r0] at hM; simp only [Option.some.injEq, Prod.mk.injEq] at hM; obtain ⟨rfl, rfl⟩ := hM
            show k * (k0 * sel j0 va vb vc) = _
            rw [← Int.mul_assoc, hk, Int.one_mul, hl]
          · rw [r1] at hM; simp only [Option.some.injEq, Prod.mk.injEq] at hM; obtain ⟨rfl, rfl⟩ := hM
            show k * (k1 * sel j1 va vb vc) = _
            rw [← Int.mul_assoc, hk, Int.one_mul, hl]
          · rw [r2] at hM; simp only [Option.some.injEq, Prod.mk.injEq] at hM; obtain ⟨rfl, rfl⟩ := hM
            show k * (k2 * sel j2 va vb vc) = _
            rw [← Int.mul_assoc, hk, Int.one_mul, hl]
        rw [hval] at hp
        exact nice_eq hp (nice_add hx (nice_nought rfl))
      · cases hui
    · cases hui
  unfold wayS eqV
  rw [fin 0 (by decide) a na, fin 1 (by decide) b nb, fin 2 (by decide) c nc]
  rfl

theorem qS_in {ax : Nat} (h : ax < 3) (t : Int) : qS ax t = qt ax (t.emod 4).toNat := by
  have ho : axOk ax = true := by
    have : ax = 0 ∨ ax = 1 ∨ ax = 2 := by omega
    rcases this with rfl | rfl | rfl <;> rfl
  funext i
  unfold qS
  rw [ho, cond_true, Int.toNat_natCast]

theorem wrap_small {x : Int} (h1 : -2000 ≤ x) (h2 : x ≤ 2000) : IntKind.wrap .i64 x = x := by
  show (if (true && decide (x % 18446744073709551616 ≥ 9223372036854775808)) = true then x % 18446744073709551616 - 18446744073709551616 else x % 18446744073709551616) = x
  simp only [Bool.true_and, decide_eq_true_eq]
  split <;> omega

theorem ring_ev (ax m n : Int) (a b c : Nat) : ev Try.prog (L9 Try.prog Try.f67) Try.f7 [I ax, I m, I n, V a b c] = some (B true) := by
  rw [ring_ev0, sameT_self]
  have hne : (qE ax != qE ax) = false := by simp
  rw [hne]
  simp only [Bool.not_true, cond_false]
  cases hf : tooFar ax m n
  · rw [cond_false]
    have hq : qE ax = 0 := by
      cases h : axOk ax
      · unfold tooFar at hf; unfold qE at hf; rw [h] at hf; simp at hf
      · unfold qE; rw [h]; rfl
    have hax : axOk ax = true := by
      cases h : axOk ax
      · unfold qE at hq; rw [h] at hq; simp at hq
      · rfl
    have hb : ¬ m > 1000 ∧ ¬ m < -1000 ∧ ¬ n > 1000 ∧ ¬ n < -1000 := by
      unfold tooFar at hf
      rw [hq] at hf
      by_cases h1 : m > 1000
      · simp [h1] at hf
      · by_cases h2 : m < -1000
        · simp [h2] at hf
        · by_cases h3 : n > 1000
          · simp [h3] at hf
          · by_cases h4 : n < -1000
            · simp [h4] at hf
            · exact ⟨h1, h2, h3, h4⟩
    obtain ⟨k, hk3, rfl⟩ : ∃ k : Nat, k < 3 ∧ ax = k := by
      rcases ax_cases hax with rfl | rfl | rfl
      · exact ⟨0, by decide, rfl⟩
      · exact ⟨1, by decide, rfl⟩
      · exact ⟨2, by decide, rfl⟩
    rw [wrap_small (by omega) (by omega), wrap_small (by omega) (by omega), qS_in hk3, qS_in hk3, qS_in hk3, qS_in hk3]
    have e1 : ((m + n).emod 4).toNat = ((m.emod 4).toNat + (n.emod 4).toNat) % 4 := by
      show ((m + n) % 4).toNat = ((m % 4).toNat + (n % 4).toNat) % 4
      omega
    have e2 : ((0 - m).emod 4).toNat = (4 - (m.emod 4).toNat) % 4 := by
      show ((0 - m) % 4).toNat = (4 - (m % 4).toNat) % 4
      omega
    have hm4 : (m.emod 4).toNat < 4 := by rcases emod4 m with e | e | e | e <;> rw [e] <;> decide
    have hn4 : (n.emod 4).toNat < 4 := by rcases emod4 n with e | e | e | e <;> rw [e] <;> decide
    rw [e1, e2, ring_false hk3 hm4 hn4, cond_false]
    cases hfin : fineS a b c
    · rfl
    · rw [way_true hk3 hm4 hfin]; rfl
  · rfl

theorem ring7 (ax m n : Int) (a b c : Nat) : FSpec Try.prog 7 [] [I ax, I m, I n, V a b c] (B true) := sp L9_ok Try.func7 (by kernel_rfl) rfl (ring_ev ax m n a b c)

set_option maxRecDepth 100000 in
theorem ring_lifted (os : Os) (started : os.Started) (H : Type) (enc : TypeId × Value → H) :
    ReturnsInHanded {} Try.checked os 7 .any (Rows.turnQuartersSpec.pre6 enc Try.prog Try.f7 Rows.turnQuartersRow.domain false) (Rows.turnQuartersSpec.post enc Try.prog Try.f7 false true false false) := by
  refine returnsInHanded_of_change (C := Try.checked) Try.own started (by kernel_rfl) Try.func7
    (ChangeSpec.witness6 (enc := enc) (C := Try.checked) false ⟨#[], #[.int .i64 0, .int .i64 0, .int .i64 0, .agg #[.float .f64 0, .float .f64 0, .float .f64 0]], []⟩ 8 (by kernel_rfl) (by kernel_rfl) (by kernel_rfl) (by kernel_rfl)) ?_
  intro W base args ds gs before hval0 hW hcnd _
  have hval : ∀ (j : Nat) t v, Try.f7.params[j]? = some t → args[j]? = some v → Value.okWide Try.prog W .any base t v := hval0
  have hW' := hW
  obtain ⟨p, q, hA0, hV, rfl, hfz, hnd⟩ := hW
  have hA : DataW.TrodAll enc Try.prog W 0 (fun _ => true) true Try.f7.params.toList args.toList ds p := hA0
  rw [Try.params7] at hA hval
  obtain ⟨v0, v1, v2, v3, d0, d1, d2, d3, p0, p1, p2, p3, rfl, rfl, rfl, h0, h1, h2, h3⟩ := trodAll_four hA
  obtain ⟨rfl, rfl⟩ := trodVars_none hV
  obtain ⟨ax, rfl, rfl, rfl, _⟩ := open_int Try.underlying3 (hval 0 3 v0 rfl rfl) h0
  obtain ⟨m, rfl, rfl, rfl, _⟩ := open_int Try.underlying3 (hval 1 3 v1 rfl rfl) h1
  obtain ⟨n, rfl, rfl, rfl, _⟩ := open_int Try.underlying3 (hval 2 3 v2 rfl rfl) h2
  obtain ⟨a, b, c, rfl⟩ := vec_arg (hval 3 24 v3 rfl rfl) h3
  refine ((ring7 ax m n (cn a) (cn b) (cn c)).2 [] W #[.int .i64 ax, .int .i64 m, .int .i64 n, .agg #[.float .f64 a, .float .f64 b, .float .f64 c]] ⟨rfl, fun i b cells hb => by simp at hb⟩ ⟨rfl, rfl, rfl, vec_rel _ a b c, trivial⟩).mono ?_
  rintro e' W' ⟨v, rfl, hv, hb⟩
  have hvt : v = .bool true := vrel_bool hv
  subst hvt
  exact ⟨_, rfl, law_post Try.laidOut (by kernel_rfl) rfl (by kernel_rfl) Try.underlying4 rfl hW' hb⟩

/-- THE STATEMENT. -/
theorem turnQuarters_holds : Rows.TurnQuartersSaid :=
  OpenClaim.holds_of_wide 7 Try.f7 rfl rfl rfl rfl rfl rfl rfl ⟨rfl, rfl, rfl, rfl, rfl⟩ rfl rfl rfl rfl rfl (by kernel_rfl) Try.func7 (by kernel_rfl)
    (of_decide_eq_true (by kernel_rfl)) (by unfold Func.isWrapper; first | (rw [if_pos (by decide +kernel)]; kernel_rfl) | (rw [if_neg (by decide +kernel)]; exact ⟨rfl, rfl⟩))
    (fun os started H enc _ => ring_lifted os started H enc)
#print axioms turnQuarters_holds
end Go.Proofs.Ytnlfeocapnefeaa
