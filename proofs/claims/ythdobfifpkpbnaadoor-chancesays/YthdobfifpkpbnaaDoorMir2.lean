/-
  The answer: digits turned about.
-/
import Derived.Test.YthdobfifpkpbnaaDoorMir
namespace Go.Proofs.YthdobfifpkpbnaaDoor
open Go.Gv

/-! ### The answer's digits turned about -/
def mrS (b n a d : Int) : St := mkS 40 [(0, iA b), (1, iA n), (7, iA a), (8, iA d)] []
def keepMr : List Nat := [0, 1, 7, 8]
theorem mr_step (b n a d : Int) : evC Tryd.prog [] [] noL (loopAt Tryd.f5 0) (mrS b n a d) (finN keepMr []) =
    cond (decide (n > 0)) (cond ((!(b == 0)) && true) (cond ((!(b == 0)) && true) (some ⟨.normal, mrS b (w64 (n.tdiv b)) (w64 (w64 (a * b) + n.tmod b)) (w64 (d * b)), .any⟩) none) none) none := by kernel_rfl
theorem mr_end (b n a d : Int) : evC Tryd.prog [] [] noL (loopAt Tryd.f5 0) (mrS b n a d) (finX keepMr []) =
    cond (decide (n > 0)) (cond ((!(b == 0)) && true) (cond ((!(b == 0)) && true) none none) none) (some ⟨.exit 0, mrS b n a d, .any⟩) := by kernel_rfl
theorem mr_leads {b n : Nat} (hb : 2 ≤ b) (hb' : b ≤ 16) (hn : n < 16777216) : Leads Tryd.prog (.loop (loopAt Tryd.f5 0)) (mrS b (n : Nat) 0 1) (.exit 0) (mrS b 0 (mnum b n (dgs b 24 n) : Nat) (b ^ dgs b 24 n : Nat)) := by
  have h0 : Leads Tryd.prog (.loop (loopAt Tryd.f5 0)) (mrS b (n / b ^ 0 : Nat) (mnum b n 0 : Nat) (b ^ 0 : Nat)) (.exit 0) (mrS b 0 (mnum b n (dgs b 24 n) : Nat) (b ^ dgs b 24 n : Nat)) := by
    refine loop_rule (fun k => mrS b (n / b ^ k : Nat) (mnum b n k : Nat) (b ^ k : Nat)) (dgs b 24 n) (.exit 0) _ (by simp) (fun k hk => ?_) ?_
    · refine leads_ev (finN_sub keepMr []) e_nil k_nil noL_ok ?_
      have hp := dgs_pos hb 24 n k hk
      have hs := pow_small hb hb' hn (show k + 1 ≤ dgs b 24 n by omega)
      have hm := mnum_lt (n := n) hb (k + 1)
      have hd : n / b ^ k / b = n / b ^ (k + 1) := by rw [Nat.div_div_eq_div_mul, ← Nat.pow_succ]
      have hle : n / b ^ (k + 1) ≤ n := Nat.div_le_self _ _
      rw [mr_step, decide_eq_true (show ((n / b ^ k : Nat) : Int) > 0 by omega), nat_ne (by omega)]
      have e1 : w64 (Int.tdiv ((n / b ^ k : Nat) : Int) (b : Int)) = ((n / b ^ (k + 1) : Nat) : Int) := by
        rw [← Int.ofNat_tdiv, hd]; exact w64_nat (by omega)
      have hmul : mnum b n k * b ≤ mnum b n (k + 1) := by simp only [mnum]; omega
      have e2 : w64 (((mnum b n k : Nat) : Int) * (b : Int)) = ((mnum b n k * b : Nat) : Int) := by
        rw [← Int.natCast_mul]; exact w64_nat (by omega)
      have e3 : w64 (((mnum b n k * b : Nat) : Int) + Int.tmod ((n / b ^ k : Nat) : Int) (b : Int)) = ((mnum b n (k + 1) : Nat) : Int) := by
        rw [← Int.ofNat_tmod, ← Int.natCast_add]
        exact w64_nat (Nat.le_trans (Nat.le_of_lt hm) (Nat.le_trans hs (by decide)))
      have e4 : w64 (((b ^ k : Nat) : Int) * (b : Int)) = ((b ^ (k + 1) : Nat) : Int) := by
        rw [← Int.natCast_mul, ← Nat.pow_succ]; exact w64_nat (Nat.le_trans hs (by decide))
      rw [e1, e2, e3, e4]
      rfl
    · refine leads_ev (finX_sub keepMr []) e_nil k_nil noL_ok ?_
      have he := dgs_end hb 24 n (by omega)
      rw [he, mr_end]
      rfl
  have e : n / b ^ 0 = n := by simp
  rw [e] at h0
  exact h0
noncomputable def mrL (b n : Nat) : Nat → Option LFun := oneL 5 (toldF keepMr [] (mrS b (n : Nat) 0 1) (.exit 0) (mrS b 0 (mnum b n (dgs b 24 n) : Nat) (b ^ dgs b 24 n : Nat)))
theorem mrL_ok {b n : Nat} (hb : 2 ≤ b) (hb' : b ≤ 16) (hn : n < 16777216) : LOk Tryd.prog (mrL b n) (bodyOf Tryd.f5) :=
  lok_one (i := 5) 1 (by kernel_rfl) fun j hj _ => by
    have : j = 0 := by omega
    subst this
    exact toldF_sound (mr_leads hb hb' hn)
theorem lok_none {P : Program} {c : Code} (i : Nat) : LOk P (oneL i fun _ _ => none) c := by
  intro c' _ i' g' _ hg
  unfold oneL at hg
  cases hb : Nat.beq i' i
  · rw [hb] at hg; cases hg
  · rw [hb] at hg
    cases hg
    exact ⟨fun _ _ _ hr => (by cases hr), fun _ _ _ hk => (by have := hk (fun e s => some ⟨e, s, .any⟩); cases this)⟩
theorem mr_ev (b n : Nat) : ev Tryd.prog [] [] (mrL b n) Tryd.f5 [iA b, iA n] ret =
    cond (mBad b n) (some (Out.of (.tup [iA 0, iA 0, iA 6]))) (gate (Sub (mrS b (n : Nat) 0 1) (mrS b (n : Nat) 0 1)) (some (Out.of (.tup [iA (mnum b n (dgs b 24 n) : Nat), iA (b ^ dgs b 24 n : Nat), iA 0])))) := by kernel_rfl
theorem mr_ev1 (b n : Int) : ev Tryd.prog [] [] (oneL 5 fun _ _ => none) Tryd.f5 [iA b, iA n] ret = cond (mBad b n) (some (Out.of (.tup [iA 0, iA 0, iA 6]))) none := by kernel_rfl
theorem mr_spec (b n : Int) : FSpec Tryd.prog 5 [iA b, iA n] (.tup [iA (mA b n), iA (mB b n), iA (mE b n)]) := by
  cases hbad : mBad b n
  · obtain ⟨b', n', rfl, rfl, h1, h2, h3⟩ := mGood hbad
    refine gspec e_nil k_nil Tryd.func5 (by kernel_rfl) (by kernel_rfl) (mrL_ok h1 h2 h3) rfl ?_
    rw [mr_ev, hbad, gate_pos (Sub.refl _)]
    simp only [mA, mB, mE, hbad, Int.toNat_natCast, cond_false]
  · refine gspec e_nil k_nil Tryd.func5 (by kernel_rfl) (by kernel_rfl) (lok_none 5) rfl ?_
    rw [mr_ev1, hbad]
    simp only [mA, mB, mE, hbad, cond_true]
end Go.Proofs.YthdobfifpkpbnaaDoor
