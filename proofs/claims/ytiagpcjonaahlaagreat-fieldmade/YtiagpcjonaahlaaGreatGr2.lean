/-
  The document's answer on fields: whether one may be, and its box.
-/
import Derived.Test.YtiagpcjonaahlaaGreatGr1
namespace Go.Proofs.YtiagpcjonaahlaaGreat
open Go.Gv
open Go.Ev (cn fadd fsub fmul fdiv feq flt fle fgt fge)

theorem rm_step (F : Fd) (q : Int) : evC Tryz.prog D2 [] noL (loopAt Tryz.f8 0) (rmS F 0 q) (finN keepR2 [some 0]) =
    cond (decide (q < (F.n : Int))) (cond (inR q F.n || false) (cond (inR q F.n || !((decide (F.hs q.toNat < -1000000) == false) && true)) (cond (hBad (F.hs q.toNat)) none (some ⟨.normal, rmS F 0 (w64 (q + 1)), .any⟩)) none) none) none := by kernel_rfl
theorem rm_end (F : Fd) (q : Int) : evC Tryz.prog D2 [] noL (loopAt Tryz.f8 0) (rmS F 0 q) (finX keepR2 [some 0]) =
    cond (decide (q < (F.n : Int))) (cond (inR q F.n || false) (cond (inR q F.n || !((decide (F.hs q.toNat < -1000000) == false) && true)) (cond (hBad (F.hs q.toNat)) (some ⟨.ret, rmS F 6 q, .any⟩) none) none) none) (some ⟨.exit 0, rmS F 0 q, .any⟩) := by kernel_rfl
theorem rm_round {F : Fd} {q : Nat} (hn : F.n < 4611686018427387904) (hq : q < F.n) (hb : hBad (F.hs q) = false) : Leads Tryz.prog (loopAt Tryz.f8 0) (rmS F 0 (q : Nat)) .normal (rmS F 0 ((q + 1 : Nat) : Int)) := by
  refine leads_ev (finN_sub keepR2 [some 0]) D2_ok k_nil noL_ok ?_
  rw [rm_step, dec_lt hq, inR_nat hq, w64_next (by omega)]
  simp only [Int.toNat_natCast, hb, Bool.true_or, cond_true, cond_false]
theorem rm_ok {F : Fd} (hn : F.n < 4611686018427387904) (h : ∀ q, q < F.n → hBad (F.hs q) = false) : Leads Tryz.prog (.loop (loopAt Tryz.f8 0)) (rmS F 0 0) (.exit 0) (rmS F 0 F.n) := by
  refine loop_rule (fun q => rmS F 0 (q : Nat)) F.n (.exit 0) _ (by simp) (fun q hq => rm_round hn hq (h q hq)) ?_
  refine leads_ev (finX_sub keepR2 [some 0]) D2_ok k_nil noL_ok ?_
  rw [rm_end, dec_self]
  rfl
theorem rm_bad {F : Fd} (hn : F.n < 4611686018427387904) {j : Nat} (hj : j < F.n) (hb : hBad (F.hs j) = true) (h : ∀ q, q < j → hBad (F.hs q) = false) : Leads Tryz.prog (.loop (loopAt Tryz.f8 0)) (rmS F 0 0) .ret (rmS F 6 (j : Nat)) := by
  refine loop_rule (fun q => rmS F 0 (q : Nat)) j .ret _ (by simp) (fun q hq => rm_round hn (by omega) (h q hq)) ?_
  refine leads_ev (finX_sub keepR2 [some 0]) D2_ok k_nil noL_ok ?_
  rw [rm_end, dec_lt hj, inR_nat hj]
  simp only [Int.toNat_natCast, hb, Bool.true_or, cond_true]
noncomputable def rmL (F : Fd) (ex : Exit) (sf : St) : Nat → Option LFun := oneL 14 (toldF keepR2 [some 0] (rmS F 0 0) ex sf)
theorem rmL_lok {F : Fd} {ex : Exit} {sf : St} (h : Leads Tryz.prog (.loop (loopAt Tryz.f8 0)) (rmS F 0 0) ex sf) : LOk Tryz.prog (rmL F ex sf) (bodyOf Tryz.f8) :=
  lok_one (i := 14) 1 (by kernel_rfl) fun j hj _ => by
    have : j = 0 := by omega
    subst this
    exact toldF_sound h
def Fd.firstR (F : Fd) (X : Option Out) : Option Out := cond F.dims (some (Out.of (iA 4))) (cond (!((F.n : Int) == w64 (F.W * F.H))) (some (Out.of (iA 5))) (cond (skBad F.sk) (some (Out.of (iA 4))) (cond F.far (some (Out.of (iA 1))) (cond (fle F.sd 0) (some (Out.of (iA 6))) X))))
theorem rm_ev0 (F : Fd) : ev Tryz.prog D2 [] (rmL F (.exit 0) (rmS F 0 F.n)) Tryz.f8 [.agg F.c] ret = F.firstR (gate (Sub (rmS F 0 0) (rmS F 0 0)) none) := by kernel_rfl
theorem rm_ev1 (F : Fd) (j : Int) : ev Tryz.prog D2 [] (rmL F .ret (rmS F 6 j)) Tryz.f8 [.agg F.c] ret = F.firstR (gate (Sub (rmS F 0 0) (rmS F 0 0)) (some (Out.of (iA 6)))) := by kernel_rfl
theorem rm_ev2 (F : Fd) (b : Nat → Nat) : ev Tryz.prog D2 [kfix 19 [.agg F.c] (.agg (c6 b))] (rmL F (.exit 0) (rmS F 0 F.n)) Tryz.f8 [.agg F.c] ret =
    F.firstR (gate (Sub (rmS F 0 0) (rmS F 0 0)) (gate ([AV.agg F.c] = [AV.agg F.c]) (cond (!(mayS b == 0)) (some (Out.of (iA 1))) (some (Out.of (iA 0)))))) := by kernel_rfl
theorem near_le {x : Nat} (h : nearS x = true) : fle x 0 = !fgt x 0 := by
  have hn : Ev.isNan x = false := (nr_of h).nan
  rw [Ev.fle_key hn (by decide +kernel), Ev.fgt_key hn (by decide +kernel)]
  by_cases g : Ev.key 0 < Ev.key x
  · rw [decide_eq_true g, decide_eq_false (show ¬ Ev.key x ≤ Ev.key 0 by omega)]; rfl
  · rw [decide_eq_false g, decide_eq_true (show Ev.key x ≤ Ev.key 0 by omega)]; rfl
theorem firstR_eq (F : Fd) (X : Option Out) : F.firstR X = F.first X := by
  unfold Fd.firstR Fd.first
  cases hf : F.far
  · have hn : nearS F.sd = true := by
      unfold Fd.far at hf
      revert hf
      cases fineS (F.at_ 0) (F.at_ 1) (F.at_ 2) <;> cases nearS F.sd <;> intro hf <;> first | rfl | (cases hf)
    rw [near_le hn]
  · rfl
theorem rmay_bad {F : Fd} (hn : F.n < 4611686018427387904) (he : F.mayN ≠ 0) : FSpec Tryz.prog 8 [.agg F.c] (iA F.mayN) := by
  have fin : ∀ (X : Option Out), (F.okAll = true ∨ X = some (Out.of (iA 6)) ∧ F.okAll = false) → F.first X = some (Out.of (iA F.mayN)) := fun X hX => by
    revert he
    unfold Fd.first Fd.mayN
    cases F.dims <;> simp only [cond_true, cond_false]
    · cases (!((F.n : Int) == w64 (F.W * F.H))) <;> simp only [cond_true, cond_false]
      · cases skBad F.sk <;> simp only [cond_true, cond_false]
        · cases F.far <;> simp only [cond_true, cond_false]
          · cases (!fgt F.sd 0) <;> simp only [cond_true, cond_false]
            · rcases hX with h1 | ⟨h1, h2⟩
              · rw [h1]; intro he; exact absurd rfl he
              · rw [h1, h2]; intro _; rfl
            · intro _; trivial
          · intro _; trivial
        · intro _; trivial
      · intro _; trivial
    · intro _; trivial
  rcases first_bad F.hs F.n with h | ⟨j, h1, h2, h3⟩
  · refine gspec D2_ok k_nil Tryz.func8 (by kernel_rfl) (by kernel_rfl) (rmL_lok (rm_ok hn h)) rfl ?_
    rw [rm_ev0, gate_pos (Sub.refl _), firstR_eq]
    refine fin _ (Or.inl ?_)
    unfold Fd.okAll
    rw [List.all_eq_true.2]
    intro q hq
    rw [h q (List.mem_range.1 hq)]
    rfl
  · refine gspec D2_ok k_nil Tryz.func8 (by kernel_rfl) (by kernel_rfl) (rmL_lok (rm_bad hn h1 h2 h3)) rfl ?_
    rw [rm_ev1, gate_pos (Sub.refl _), firstR_eq]
    refine fin _ (Or.inr ⟨rfl, ?_⟩)
    unfold Fd.okAll
    rw [List.all_eq_false.2 ⟨j, List.mem_range.2 h1, by rw [h2]; simp⟩]
theorem rmay_good {F : Fd} {w h : Nat} (d : Dim F w h) (he : F.mayN = 0) : FSpec Tryz.prog 8 [.agg F.c] (iA (cond (mayS (bx F) == 0) 0 1)) := by
  have hle := d.le
  have hn := d.n
  rcases first_bad F.hs F.n with h | ⟨j, h1, h2, h3⟩
  · refine gspec D2_ok (k_cons (kfix_ok (fb_spec d)) k_nil) Tryz.func8 (by kernel_rfl) (by kernel_rfl) (rmL_lok (rm_ok (by omega) h)) rfl ?_
    rw [rm_ev2, gate_pos (Sub.refl _), gate_pos rfl, firstR_eq]
    revert he
    unfold Fd.first Fd.mayN
    cases F.dims <;> simp only [cond_true, cond_false]
    · cases (!((F.n : Int) == w64 (F.W * F.H))) <;> simp only [cond_true, cond_false]
      · cases skBad F.sk <;> simp only [cond_true, cond_false]
        · cases F.far <;> simp only [cond_true, cond_false]
          · cases (!fgt F.sd 0) <;> simp only [cond_true, cond_false]
            · intro _; cases mayS (bx F) == 0 <;> rfl
            · intro he; cases he
          · intro he; cases he
        · intro he; cases he
      · intro he; cases he
    · intro he; cases he
  · exfalso
    have hk : F.okAll = false := by
      unfold Fd.okAll
      rw [List.all_eq_false.2 ⟨j, List.mem_range.2 h1, by rw [h2]; simp⟩]
    revert he
    unfold Fd.mayN
    rw [hk]
    cases F.dims <;> cases (!((F.n : Int) == w64 (F.W * F.H))) <;> cases skBad F.sk <;> cases F.far <;> cases (!fgt F.sd 0) <;> intro he <;> cases he
theorem rb_ev1 (F : Fd) (e : Int) : ev Tryz.prog D2 [kfix 8 [.agg F.c] (iA e)] noL Tryz.f6 [.agg F.c] ret = gate ([AV.agg F.c] = [AV.agg F.c]) (cond (!(e == 0)) (some (Out.of (.tup [.agg z6, iA e]))) none) := by kernel_rfl
theorem rb_ev2 (F : Fd) (b : Nat → Nat) : ev Tryz.prog D2 [kfix 8 [.agg F.c] (iA 0), kfix 19 [.agg F.c] (.agg (c6 b))] noL Tryz.f6 [.agg F.c] ret = gate ([AV.agg F.c] = [AV.agg F.c]) (gate ([AV.agg F.c] = [AV.agg F.c]) (some (Out.of (.tup [.agg (c6 b), iA 0])))) := by kernel_rfl
end Go.Proofs.YtiagpcjonaahlaaGreat
