/-
  Package chance: digits turned about.
-/
import Derived.Test.YthdobfifpkpbnaaDoorGi
namespace Go.Proofs.YthdobfifpkpbnaaDoor
open Go.Gv

/-! ### Plainly -/
def mnum (b n : Nat) : Nat → Nat
  | 0 => 0
  | k + 1 => mnum b n k * b + (n / b ^ k) % b
def dgs (b : Nat) : Nat → Nat → Nat
  | 0, _ => 0
  | f + 1, n => cond (Nat.beq n 0) 0 (dgs b f (n / b) + 1)
theorem dgs_end {b : Nat} (hb : 2 ≤ b) : ∀ (f n : Nat), n < 2 ^ f → n / b ^ dgs b f n = 0
  | 0, n, h => by simp only [dgs, Nat.pow_zero, Nat.div_one]; omega
  | f + 1, n, h => by
    simp only [dgs]
    cases hz : Nat.beq n 0
    · simp only [cond_false]
      rw [Nat.pow_succ, Nat.mul_comm, ← Nat.div_div_eq_div_mul]
      refine dgs_end hb f (n / b) ?_
      have : n / b ≤ n / 2 := Nat.div_le_div_left hb (by omega)
      rw [Nat.pow_succ] at h
      omega
    · have := Nat.eq_of_beq_eq_true hz
      subst this
      simp
theorem dgs_pos {b : Nat} (hb : 2 ≤ b) : ∀ (f n k : Nat), k < dgs b f n → 0 < n / b ^ k
  | 0, n, k, h => by simp [dgs] at h
  | f + 1, n, k, h => by
    simp only [dgs] at h
    cases hz : Nat.beq n 0
    · rw [hz] at h
      simp only [cond_false] at h
      cases k with
      | zero =>
        have : n ≠ 0 := fun h0 => by subst h0; cases hz
        simp only [Nat.pow_zero, Nat.div_one]; omega
      | succ k =>
        rw [Nat.pow_succ, Nat.mul_comm, ← Nat.div_div_eq_div_mul]
        exact dgs_pos hb f (n / b) k (by omega)
    · rw [hz] at h
      simp at h
theorem pow_small {b n : Nat} (hb : 2 ≤ b) (hb' : b ≤ 16) (hn : n < 16777216) {f k : Nat} (hk : k ≤ dgs b f n) : b ^ k ≤ 268435456 := by
  cases k with
  | zero => simp
  | succ k =>
    have h1 := dgs_pos hb f n k (by omega)
    have hp : 0 < b ^ k := Nat.pow_pos (by omega)
    have h2 : b ^ k ≤ n := by
      have := (Nat.le_div_iff_mul_le hp).1 h1
      omega
    rw [Nat.pow_succ]
    calc b ^ k * b ≤ 16777216 * 16 := Nat.mul_le_mul (by omega) hb'
      _ = 268435456 := rfl
theorem mnum_lt {b n : Nat} (hb : 2 ≤ b) : ∀ k, mnum b n k < b ^ k
  | 0 => by simp [mnum]
  | k + 1 => by
    simp only [mnum]
    have h1 := mnum_lt (n := n) hb k
    have h2 : n / b ^ k % b < b := Nat.mod_lt _ (by omega)
    have h3 : (mnum b n k + 1) * b ≤ b ^ k * b := Nat.mul_le_mul_right b h1
    rw [Nat.pow_succ]
    rw [Nat.succ_mul] at h3
    omega
/-! ### The loop -/
def mirS (b n a d : Int) : St := mkS 23 [(0, iA b), (1, iA n), (4, iA a), (5, iA d)] []
def keepMi : List Nat := [0, 1, 4, 5]
theorem mir_step (b n a d : Int) : evC Tryd.prog [] [] noL (loopAt Tryd.f12 0) (mirS b n a d) (finN keepMi []) =
    cond (decide (n > 0)) (cond ((!(b == 0)) && true) (cond ((!(b == 0)) && true) (some ⟨.normal, mirS b (w64 (n.tdiv b)) (w64 (w64 (a * b) + n.tmod b)) (w64 (d * b)), .any⟩) none) none) none := by kernel_rfl
theorem mir_end (b n a d : Int) : evC Tryd.prog [] [] noL (loopAt Tryd.f12 0) (mirS b n a d) (finX keepMi []) =
    cond (decide (n > 0)) (cond ((!(b == 0)) && true) (cond ((!(b == 0)) && true) none none) none) (some ⟨.exit 0, mirS b n a d, .any⟩) := by kernel_rfl
theorem nat_ne {b : Nat} (h : 0 < b) : (!(((b : Nat) : Int) == 0)) = true := by
  have : ((b : Int) == 0) = false := beq_false_of_ne (by omega)
  rw [this]; rfl
theorem mir_leads {b n : Nat} (hb : 2 ≤ b) (hb' : b ≤ 16) (hn : n < 16777216) : Leads Tryd.prog (.loop (loopAt Tryd.f12 0)) (mirS b (n : Nat) 0 1) (.exit 0) (mirS b 0 (mnum b n (dgs b 24 n) : Nat) (b ^ dgs b 24 n : Nat)) := by
  have h0 : Leads Tryd.prog (.loop (loopAt Tryd.f12 0)) (mirS b (n / b ^ 0 : Nat) (mnum b n 0 : Nat) (b ^ 0 : Nat)) (.exit 0) (mirS b 0 (mnum b n (dgs b 24 n) : Nat) (b ^ dgs b 24 n : Nat)) := by
    refine loop_rule (fun k => mirS b (n / b ^ k : Nat) (mnum b n k : Nat) (b ^ k : Nat)) (dgs b 24 n) (.exit 0) _ (by simp) (fun k hk => ?_) ?_
    · refine leads_ev (finN_sub keepMi []) e_nil k_nil noL_ok ?_
      have hp := dgs_pos hb 24 n k hk
      have hs := pow_small hb hb' hn (show k + 1 ≤ dgs b 24 n by omega)
      have hm := mnum_lt (n := n) hb (k + 1)
      have hd : n / b ^ k / b = n / b ^ (k + 1) := by rw [Nat.div_div_eq_div_mul, ← Nat.pow_succ]
      have hle : n / b ^ (k + 1) ≤ n := Nat.div_le_self _ _
      rw [mir_step, decide_eq_true (show ((n / b ^ k : Nat) : Int) > 0 by omega), nat_ne (by omega)]
      have e1 : w64 (Int.tdiv ((n / b ^ k : Nat) : Int) (b : Int)) = ((n / b ^ (k + 1) : Nat) : Int) := by
        rw [← Int.ofNat_tdiv, hd]; exact w64_nat (by omega)
      have hmul : mnum b n k * b ≤ mnum b n (k + 1) := by simp only [mnum]; omega
      have e2 : w64 (((mnum b n k : Nat) : Int) * (b : Int)) = ((mnum b n k * b : Nat) : Int) := by
        rw [← Int.natCast_mul]; exact w64_nat (by omega)
      have e3 : w64 (((mnum b n k * b : Nat) : Int) + Int.tmod ((n / b ^ k : Nat) : Int) (b : Int)) = ((mnum b n (k + 1) : Nat) : Int) := by
        rw [← Int.ofNat_tmod, ← Int.natCast_add]
        exact w64_nat (Nat.le_trans (Nat.le_of_lt hm) (Nat.le_trans hs (by decide)))
      have e4 : w64 (((b ^ k : Nat) : Int) * (b : Int)) = ((b ^ (k + 1) : Nat) : Int) := by
        rw [← Int.natCast_mul, ← Nat.pow_succ]; exact w64_nat (Nat.le_trans hs (by decide))
      rw [e1, e2, e3, e4]
      rfl
    · refine leads_ev (finX_sub keepMi []) e_nil k_nil noL_ok ?_
      have he := dgs_end hb 24 n (by omega)
      rw [he, mir_end]
      rfl
  have e : n / b ^ 0 = n := by simp
  rw [e] at h0
  exact h0
noncomputable def mirL (b n : Nat) : Nat → Option LFun := oneL 2 (toldF keepMi [] (mirS b (n : Nat) 0 1) (.exit 0) (mirS b 0 (mnum b n (dgs b 24 n) : Nat) (b ^ dgs b 24 n : Nat)))
theorem mirL_ok {b n : Nat} (hb : 2 ≤ b) (hb' : b ≤ 16) (hn : n < 16777216) : LOk Tryd.prog (mirL b n) (bodyOf Tryd.f12) :=
  lok_one (i := 2) 1 (by kernel_rfl) fun j hj _ => by
    have : j = 0 := by omega
    subst this
    exact toldF_sound (mir_leads hb hb' hn)
theorem mir_ev (b n : Nat) : ev Tryd.prog [] [] (mirL b n) Tryd.f12 [iA b, iA n] ret =
    gate (Sub (mirS b (n : Nat) 0 1) (mirS b (n : Nat) 0 1)) (some (Out.of (.tup [iA (mnum b n (dgs b 24 n) : Nat), iA (b ^ dgs b 24 n : Nat)]))) := by kernel_rfl
theorem mir_spec {b n : Nat} (hb : 2 ≤ b) (hb' : b ≤ 16) (hn : n < 16777216) : FSpec Tryd.prog 12 [iA b, iA n] (.tup [iA (mnum b n (dgs b 24 n) : Nat), iA (b ^ dgs b 24 n : Nat)]) := by
  refine gspec e_nil k_nil Tryd.func12 (by kernel_rfl) (by kernel_rfl) (mirL_ok hb hb' hn) rfl ?_
  rw [mir_ev, gate_pos (Sub.refl _)]
/-! ### What may be asked -/
def mBad (b n : Int) : Bool := cond (cond (cond (decide (b < 2)) true (decide (b > 16))) true (decide (n < 0))) true (decide (n ≥ 16777216))
def mA (b n : Int) : Int := cond (mBad b n) 0 (mnum b.toNat n.toNat (dgs b.toNat 24 n.toNat) : Nat)
def mB (b n : Int) : Int := cond (mBad b n) 0 (b.toNat ^ dgs b.toNat 24 n.toNat : Nat)
def mE (b n : Int) : Int := cond (mBad b n) 6 0
theorem Mir_ev1 (b n : Int) : ev Tryd.prog [] [⟨12, fun _ _ => none⟩] noL Tryd.f4 [iA b, iA n] ret = cond (mBad b n) (some (Out.of (.tup [iA 0, iA 0, iA 6]))) none := by kernel_rfl
theorem Mir_ev2 (b n : Int) (x y : Int) : ev Tryd.prog [] [kfix 12 [iA b, iA n] (.tup [iA x, iA y])] noL Tryd.f4 [iA b, iA n] ret = cond (mBad b n) (some (Out.of (.tup [iA 0, iA 0, iA 6]))) (gate ([iA b, iA n] = [iA b, iA n]) (some (Out.of (.tup [iA x, iA y, iA 0])))) := by kernel_rfl
theorem k_none {P : Program} (f : Nat) : KOk P ⟨f, fun _ _ => none⟩ := by
  constructor
  · intro args k o h; simp at h
  · intro args v h
    have h1 := h fun x => some (Out.of x)
    simp at h1
theorem mGood {b n : Int} (h : mBad b n = false) : ∃ b' n' : Nat, b = b' ∧ n = n' ∧ 2 ≤ b' ∧ b' ≤ 16 ∧ n' < 16777216 := by
  unfold mBad at h
  by_cases h1 : b < 2 <;> by_cases h2 : b > 16 <;> by_cases h3 : n < 0 <;> by_cases h4 : n ≥ 16777216 <;> simp [h1, h2, h3, h4] at h
  exact ⟨b.toNat, n.toNat, by omega, by omega, by omega, by omega, by omega⟩
theorem Mir_spec (b n : Int) : FSpec Tryd.prog 4 [iA b, iA n] (.tup [iA (mA b n), iA (mB b n), iA (mE b n)]) := by
  cases hbad : mBad b n
  · obtain ⟨b', n', rfl, rfl, h1, h2, h3⟩ := mGood hbad
    refine gspec e_nil (k_cons (kfix_ok (mir_spec h1 h2 h3)) k_nil) Tryd.func4 (by kernel_rfl) (by kernel_rfl) noL_ok rfl ?_
    rw [Mir_ev2, hbad, gate_pos rfl]
    simp only [mA, mB, mE, hbad, Int.toNat_natCast, cond_false]
  · refine gspec e_nil (k_cons (k_none 12) k_nil) Tryd.func4 (by kernel_rfl) (by kernel_rfl) noL_ok rfl ?_
    rw [Mir_ev1, hbad]
    simp only [mA, mB, mE, hbad, cond_true]
def gMir : List AV → Option AV
  | [.x (.int .i64 b), .x (.int .i64 n)] => some (.tup [iA (mA b n), iA (mB b n), iA (mE b n)])
  | _ => none
theorem gMir_ok : EOk Tryd.prog ⟨4, gMir⟩ := by
  intro args r hr
  simp only [gMir] at hr
  split at hr
  · cases hr; exact Or.inl (Mir_spec _ _)
  · cases hr
end Go.Proofs.YthdobfifpkpbnaaDoor
