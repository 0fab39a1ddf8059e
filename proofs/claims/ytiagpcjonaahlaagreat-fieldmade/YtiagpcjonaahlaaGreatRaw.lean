/-
  The answer's makers: raw numbers, picked, as thousandths, as vectors.
-/
import Derived.Test.YtiagpcjonaahlaaGreatGs
import Derived.Test.YtiagpcjonaahlaaGreatGh
namespace Go.Proofs.YtiagpcjonaahlaaGreat
open Go.Gv
open Go.Ev (cn fadd fsub fmul fdiv feq flt fle fgt fge)

/-! ### Pick -/
def pk0 (c : Int) : Int := cond (decide (c < 0)) (w64 (0 - w64 (c + 1))) c
def pk (c n : Int) : Int := (pk0 c).tmod n
theorem pick_ev (c n : Int) : ev Tryz.prog [] [] noL Tryz.f16 [iA c, iA n] ret = cond (decide (c < 0)) (cond ((!(n == 0)) && true) (some (Out.of (iA ((w64 (0 - w64 (c + 1))).tmod n)))) none) (cond ((!(n == 0)) && true) (some (Out.of (iA (c.tmod n)))) none) := by kernel_rfl
theorem pick_spec {c n : Int} (hn : (!(n == 0)) = true) : FSpec Tryz.prog 16 [iA c, iA n] (iA (pk c n)) := by
  refine gspec e_nil k_nil Tryz.func16 (by kernel_rfl) (by kernel_rfl) noL_ok rfl ?_
  rw [pick_ev, hn]
  unfold pk pk0
  cases decide (c < 0) <;> rfl
def pkC : List AV → Bool
  | [.x (.int .i64 _), .x (.int .i64 n)] => !(n == 0)
  | _ => false
def pkG (pf : Int → Int → Int) : List AV → AV
  | [.x (.int .i64 c), .x (.int .i64 n)] => iA (pf c n)
  | _ => .any
def kPick (pf : Int → Int → Int) : KEntry := kIf 16 pkC (pkG pf)
theorem kPick_ok : KOk Tryz.prog (kPick pk) := kIf_ok fun args h => by
  unfold pkC at h
  split at h
  · exact pick_spec h
  · cases h
theorem pk_nat {c : Int} {n : Nat} (hc : (Lit.int .i64 c).wf = true) (hn : 0 < n) : ∃ k : Nat, pk c n = k ∧ k < n := by
  have h0 : ∃ m : Nat, pk0 c = m := by
    have hr : -9223372036854775808 ≤ c ∧ c ≤ 9223372036854775807 := by
      simp [Lit.wf, IntKind.min, IntKind.max, IntKind.signed, IntKind.bits] at hc
      omega
    unfold pk0
    by_cases h : c < 0
    · rw [decide_eq_true h]
      simp only [cond_true]
      rw [w64_id (n := c + 1) (by omega) (by omega), w64_id (by omega) (by omega)]
      exact ⟨(0 - (c + 1)).toNat, by omega⟩
    · rw [decide_eq_false h]
      exact ⟨c.toNat, by simp only [cond_false]; omega⟩
  obtain ⟨m, hm⟩ := h0
  refine ⟨m % n, ?_, Nat.mod_lt _ hn⟩
  unfold pk
  rw [hm, ← Int.ofNat_tmod]
/-! ### Raw -/
def rsl (n : Nat) (hs : Nat → Int) : AV := .sl 1 n fun i => [iA (hs i)]
def rawV (n : Nat) (hs : Nat → Int) (k : Int) : Int := cond ((n : Int) == 0) 0 (hs (k.tmod n).toNat)
theorem raw_ev (n : Nat) (hs : Nat → Int) (k : Int) : ev Tryz.prog [] [] noL Tryz.f34 [rsl n hs, iA k] ret =
    cond ((n : Int) == 0) (some (Out.of (iA 0))) (cond ((!((n : Int) == 0)) && true) (cond ((decide (0 ≤ k.tmod n) && decide (k.tmod n < (n : Int))) && true) (some (Out.of (iA (hs (k.tmod n).toNat)))) none) none) := by kernel_rfl
theorem raw_spec {n : Nat} {hs : Nat → Int} {k : Int} (hk : 0 ≤ k) : FSpec Tryz.prog 34 [rsl n hs, iA k] (iA (rawV n hs k)) := by
  refine gspec e_nil k_nil Tryz.func34 (by kernel_rfl) (by kernel_rfl) noL_ok rfl ((raw_ev n hs k).trans ?_)
  unfold rawV
  by_cases h : n = 0
  · subst h; rfl
  · have e1 : ((n : Int) == 0) = false := beq_false_of_ne (by omega)
    obtain ⟨m, rfl⟩ : ∃ m : Nat, k = m := ⟨k.toNat, by omega⟩
    have e2 : Int.tmod (m : Int) (n : Int) = ((m % n : Nat) : Int) := (Int.ofNat_tmod m n).symm
    have hlt : m % n < n := Nat.mod_lt _ (by omega)
    rw [e1, e2, dec_nonneg, dec_lt hlt]
    rfl
def rawC : List AV → Bool
  | [_, .x (.int .i64 k)] => decide (0 ≤ k)
  | _ => false
def rawG (rv : Int → Int) : List AV → AV
  | [_, .x (.int .i64 k)] => iA (rv k)
  | _ => .any
noncomputable def kRaw (n : Nat) (hs : Nat → Int) (rv : Int → Int) : KEntry := kIfP 34 (fun args => args.head? = some (rsl n hs)) rawC (rawG rv)
theorem kRaw_ok (n : Nat) (hs : Nat → Int) : KOk Tryz.prog (kRaw n hs (rawV n hs)) := kIfP_ok fun args hp h => by
  unfold rawC at h
  split at h
  · simp only [List.head?_cons, Option.some.injEq] at hp
    subst hp
    exact raw_spec (of_decide_eq_true h)
  · cases h
/-! ### Thousandths -/
def thS (n : Int) : Nat := fdiv (cn (FloatKind.f64.nearest n)) (cn 4652007308841189376)
theorem th_ev (n : Int) : ev Tryz.prog [] [] noL Tryz.f33 [iA n] ret = some (Out.of (.f (thS n))) := by kernel_rfl
def g1f (tf : Int → Nat) : List AV → Option AV
  | [.x (.int .i64 n)] => some (.f (tf n))
  | _ => none
def eTh (tf : Int → Nat) : List Entry := [⟨33, g1f tf⟩]
theorem eTh_ok : ∀ e, e ∈ eTh thS → EOk Tryz.prog e := e_cons (fun args r hr => by
  simp only [g1f] at hr
  split at hr
  · cases hr; exact Or.inl (gspec e_nil k_nil Tryz.func33 (by kernel_rfl) (by kernel_rfl) noL_ok rfl (th_ev _))
  · cases hr) e_nil
section
variable (pf : Int → Int → Int) (tf : Int → Nat) (rv : Int → Int) (n : Nat) (hs : Nat → Int)
def milG (c most : Int) : Nat := tf (w64 (pf c (w64 (w64 (2 * most) + 1)) - most))
def milB (most : Int) : Bool := !(w64 (w64 (2 * most) + 1) == 0)
theorem mil_ev (c most : Int) : ev Tryz.prog (eTh tf) [kPick pf] noL Tryz.f54 [iA c, iA most] ret = cond (milB most) (some (Out.of (.f (milG pf tf c most)))) none := by kernel_rfl
def milC : List AV → Bool
  | [.x (.int .i64 _), .x (.int .i64 m)] => milB m
  | _ => false
def milV (mf : Int → Int → Nat) : List AV → AV
  | [.x (.int .i64 c), .x (.int .i64 m)] => .f (mf c m)
  | _ => .any
def kMil (mf : Int → Int → Nat) : KEntry := kIf 54 milC (milV mf)
end
def mil (c most : Int) : Nat := milG pk thS c most
theorem kMil_ok : KOk Tryz.prog (kMil mil) := kIf_ok fun args h => by
  unfold milC at h
  split at h
  · rename_i c m
    exact gspec eTh_ok (k_cons kPick_ok k_nil) Tryz.func54 (by kernel_rfl) (by kernel_rfl) noL_ok rfl ((mil_ev pk thS c m).trans (by rw [h]; exact cond_true _ _))
  · cases h
section
variable (mf : Int → Int → Nat) (rv : Int → Int) (n : Nat) (hs : Nat → Int)
theorem vec_ev (from_ most : Int) : ev Tryz.prog [] [kMil mf, kRaw n hs rv] noL Tryz.f32 [rsl n hs, iA from_, iA most] ret =
    gate (some (rsl n hs) = some (rsl n hs)) (cond (decide (0 ≤ from_)) (cond (milB most) (gate (some (rsl n hs) = some (rsl n hs)) (cond (decide (0 ≤ w64 (from_ + 1))) (cond (milB most) (gate (some (rsl n hs) = some (rsl n hs)) (cond (decide (0 ≤ w64 (from_ + 2))) (cond (milB most)
      (some (Out.of (.agg [.f (mf (rv from_) most), .f (mf (rv (w64 (from_ + 1))) most), .f (mf (rv (w64 (from_ + 2))) most)]))) none) none)) none) none)) none) none) := by kernel_rfl
end
end Go.Proofs.YtiagpcjonaahlaaGreat
