/-
  The answer's makers: raw numbers, picked.
-/
import Derived.Test.YtkibceiellnggaaGi
namespace Go.Proofs.Ytkibceiellnggaa
open Go.Gv

/-! ### Pick -/
def pk0 (c : Int) : Int := cond (decide (c < 0)) (w64 (0 - w64 (c + 1))) c
def pk (c n : Int) : Int := (pk0 c).tmod n
theorem pick_ev (c n : Int) : ev Try.prog [] [] noL Try.f16 [iA c, iA n] ret = cond (decide (c < 0)) (cond ((!(n == 0)) && true) (some (Out.of (iA ((w64 (0 - w64 (c + 1))).tmod n)))) none) (cond ((!(n == 0)) && true) (some (Out.of (iA (c.tmod n)))) none) := by kernel_rfl
theorem pick_spec {c n : Int} (hn : (!(n == 0)) = true) : FSpec Try.prog 16 [iA c, iA n] (iA (pk c n)) := by
  refine gspec e_nil k_nil Try.func16 (by kernel_rfl) (by kernel_rfl) noL_ok rfl ?_
  rw [pick_ev, hn]
  unfold pk pk0
  cases decide (c < 0) <;> rfl
def pkC : List AV → Bool
  | [.x (.int .i64 _), .x (.int .i64 n)] => !(n == 0)
  | _ => false
def pkG (pf : Int → Int → Int) : List AV → AV
  | [.x (.int .i64 c), .x (.int .i64 n)] => iA (pf c n)
  | _ => .any
def kPick (pf : Int → Int → Int) : KEntry := kIf 16 pkC (pkG pf)
theorem kPick_ok : KOk Try.prog (kPick pk) := kIf_ok fun args h => by
  unfold pkC at h
  split at h
  · exact pick_spec h
  · cases h
theorem pk_nat {c : Int} {n : Nat} (hc : (Lit.int .i64 c).wf = true) (hn : 0 < n) : ∃ k : Nat, pk c n = k ∧ k < n := by
  have h0 : ∃ m : Nat, pk0 c = m := by
    have hr : -9223372036854775808 ≤ c ∧ c ≤ 9223372036854775807 := by
      simp [Lit.wf, IntKind.min, IntKind.max, IntKind.signed, IntKind.bits] at hc
      omega
    unfold pk0
    by_cases h : c < 0
    · rw [decide_eq_true h]
      simp only [cond_true]
      rw [w64_id (n := c + 1) (by omega) (by omega), w64_id (by omega) (by omega)]
      exact ⟨(0 - (c + 1)).toNat, by omega⟩
    · rw [decide_eq_false h]
      exact ⟨c.toNat, by simp only [cond_false]; omega⟩
  obtain ⟨m, hm⟩ := h0
  refine ⟨m % n, ?_, Nat.mod_lt _ hn⟩
  unfold pk
  rw [hm, ← Int.ofNat_tmod]
/-! ### Raw -/
def rsl (n : Nat) (hs : Nat → Int) : AV := .sl 1 n fun i => [iA (hs i)]
def rawV (n : Nat) (hs : Nat → Int) (k : Int) : Int := cond ((n : Int) == 0) 0 (hs (k.tmod n).toNat)
theorem raw_ev (n : Nat) (hs : Nat → Int) (k : Int) : ev Try.prog [] [] noL Try.f27 [rsl n hs, iA k] ret =
    cond ((n : Int) == 0) (some (Out.of (iA 0))) (cond ((!((n : Int) == 0)) && true) (cond ((decide (0 ≤ k.tmod n) && decide (k.tmod n < (n : Int))) && true) (some (Out.of (iA (hs (k.tmod n).toNat)))) none) none) := by kernel_rfl
theorem raw_spec {n : Nat} {hs : Nat → Int} {k : Int} (hk : 0 ≤ k) : FSpec Try.prog 27 [rsl n hs, iA k] (iA (rawV n hs k)) := by
  refine gspec e_nil k_nil Try.func27 (by kernel_rfl) (by kernel_rfl) noL_ok rfl ((raw_ev n hs k).trans ?_)
  unfold rawV
  by_cases h : n = 0
  · subst h; rfl
  · have e1 : ((n : Int) == 0) = false := beq_false_of_ne (by omega)
    obtain ⟨m, rfl⟩ : ∃ m : Nat, k = m := ⟨k.toNat, by omega⟩
    have e2 : Int.tmod (m : Int) (n : Int) = ((m % n : Nat) : Int) := (Int.ofNat_tmod m n).symm
    have hlt : m % n < n := Nat.mod_lt _ (by omega)
    rw [e1, e2, dec_nonneg, dec_lt hlt]
    rfl
def rawC : List AV → Bool
  | [_, .x (.int .i64 k)] => decide (0 ≤ k)
  | _ => false
def rawG (rv : Int → Int) : List AV → AV
  | [_, .x (.int .i64 k)] => iA (rv k)
  | _ => .any
noncomputable def kRaw (n : Nat) (hs : Nat → Int) (rv : Int → Int) : KEntry := kIfP 27 (fun args => args.head? = some (rsl n hs)) rawC (rawG rv)
theorem kRaw_ok (n : Nat) (hs : Nat → Int) : KOk Try.prog (kRaw n hs (rawV n hs)) := kIfP_ok fun args hp h => by
  unfold rawC at h
  split at h
  · simp only [List.head?_cons, Option.some.injEq] at hp
    subst hp
    exact raw_spec (of_decide_eq_true h)
  · cases h
end Go.Proofs.Ytkibceiellnggaa
