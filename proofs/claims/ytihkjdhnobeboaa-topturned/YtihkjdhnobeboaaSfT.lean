/-
  Films that are the same, as the laws of the whole ask it.
-/
import Derived.Test.YtihkjdhnobeboaaM1
namespace Go.Proofs.Ytihkjdhnobeboaa
open Go.Gv

/-! ### Rows that are the same -/
def siST (n m : Nat) (a b : Nat → Int) (i : Int) : St := mkS 26 [(0, sI n a), (1, sI m b), (5, iA i)] []
section
variable (n m : Nat) (a b : Nat → Int) (i : Int)
def siTT : Option Out := cond (decide (i < n)) (cond ((ixB i n || false) && ((ixB i m || false) && true)) (cond (!(a i.toNat == b i.toNat)) none (some ⟨.normal, siST n m a b (w64 (i + 1)), .any⟩)) none) none
def siUT : Option Out := cond (decide (i < n)) (cond ((ixB i n || false) && ((ixB i m || false) && true)) (cond (!(a i.toNat == b i.toNat)) none none) none) (some ⟨.exit 0, siST n m a b i, .any⟩)
theorem si_stepT : evC Try.prog [] [] noL (loopAt Try.f17 0) (siST n m a b i) (finN [0, 1, 5] []) = siTT n m a b i := by kernel_rfl
theorem si_endT : evC Try.prog [] [] noL (loopAt Try.f17 0) (siST n m a b i) (finE [0, 1, 5] []) = siUT n m a b i := by kernel_rfl
end
theorem si_leadsT {n : Nat} (hn : n ≤ 4611686018427387904) {a b : Nat → Int} (h : ∀ i, i < n → a i = b i) : Leads Try.prog (.loop (loopAt Try.f17 0)) (siST n n a b 0) (.exit 0) (siST n n a b (n : Nat)) := by
  refine loop_rule (fun k => siST n n a b (k : Nat)) n (.exit 0) _ (by simp) (fun k hk => ?_) ?_
  · refine leads_ev (finN_sub _ _) e_nil k_nil noL_ok ((si_stepT n n a b (k : Nat)).trans ?_)
    unfold siTT
    rw [dec_lt hk, ixB_t hk, Int.toNat_natCast, h k hk, BEq.rfl, w64_next (by omega)]
    rfl
  · refine leads_ev (finE_sub _ _) e_nil k_nil noL_ok ((si_endT n n a b (n : Nat)).trans ?_)
    unfold siUT
    rw [dec_self, cond_false]
noncomputable def siLT (n : Nat) (a b : Nat → Int) : Nat → Option LFun := oneL 4 (toldF [0, 1, 5] [] (siST n n a b 0) (.exit 0) (siST n n a b (n : Nat)))
theorem si_evT (n : Nat) (a b : Nat → Int) : ev Try.prog [] [] (siLT n a b) Try.f17 [sI n a, sI n b] ret = cond (!((n : Int) == (n : Int))) (some (Out.of (bA false))) (gate (Sub (siST n n a b 0) (siST n n a b 0)) (some (Out.of (bA true)))) := by kernel_rfl
theorem same_intsT {n : Nat} (hn : n ≤ 4611686018427387904) {a b : Nat → Int} (h : ∀ i, i < n → a i = b i) : FSpec Try.prog 17 [sI n a, sI n b] (bA true) := by
  have hL := lok_hd (c := bodyOf Try.f17) (i := 4) 0 (by kernel_rfl) (by kernel_rfl) (toldF_sound (keep := [0, 1, 5]) (τ := []) (si_leadsT hn h))
  refine gspec e_nil k_nil Try.func17 (by kernel_rfl) (by kernel_rfl) hL rfl ((si_evT n a b).trans ?_)
  rw [BEq.rfl, gate_pos (Sub.refl _)]
  rfl
theorem sfm_evT (f g : Flm) : ev Try.prog [] [kS Try.prog 17 fun _ => bA true] noL Try.f8 [.agg f.c, .agg g.c] ret =
    gate (FSpec Try.prog 17 [sI f.n f.lt, sI g.n g.lt] (bA true)) (gate (FSpec Try.prog 17 [sI f.m f.sh, sI g.m g.sh] (bA true)) (some (Out.of (bA (cond (cond (cond (f.W == g.W) (f.H == g.H) false) true false) true false))))) := by kernel_rfl
theorem same_filmT {f g : Flm} (hn : f.n ≤ 4611686018427387904) (hm : f.m ≤ 4611686018427387904) (hW : f.W = g.W) (hH : f.H = g.H) (en : f.n = g.n) (em : f.m = g.m) (hl : ∀ i, i < f.n → f.lt i = g.lt i) (hs : ∀ i, i < f.m → f.sh i = g.sh i) : FSpec Try.prog 8 [.agg f.c, .agg g.c] (bA true) := by
  refine gspec e_nil (k_cons kS_ok k_nil) Try.func8 (by kernel_rfl) (by kernel_rfl) noL_ok rfl ((sfm_evT f g).trans ?_)
  have h1 := same_intsT hn hl
  have h2 := same_intsT hm hs
  rw [en] at h1
  rw [em] at h2
  rw [← en] at h1
  rw [← em] at h2
  have h1' : FSpec Try.prog 17 [sI f.n f.lt, sI g.n g.lt] (bA true) := en ▸ h1
  have h2' : FSpec Try.prog 17 [sI f.m f.sh, sI g.m g.sh] (bA true) := em ▸ h2
  rw [gate_pos h1', gate_pos h2', hW, hH, BEq.rfl, BEq.rfl]
  rfl
theorem sft_self {f : Flm} (hn : f.n ≤ 4611686018427387904) (hm : f.m ≤ 4611686018427387904) : FSpec Try.prog 8 [.agg f.c, .agg f.c] (bA true) := same_filmT hn hm rfl rfl rfl rfl (fun _ _ => rfl) fun _ _ => rfl
end Go.Proofs.Ytihkjdhnobeboaa
