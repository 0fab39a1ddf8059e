/-
  Thousandths: multiples of a power of two, not too great; and what they are times a power of two. Of no particular program.
-/
import Derived.Test.YtfdfnnmgpjamdaiGreatThou
import Derived.Test.YtfdfnnmgpjamdaiGreatFl16
namespace Go.Proofs.YtfdfnnmgpjamdaiGreat
open Go.Ev

theorem gr_key {m x : Nat} (hm : m = 1064) (h : key x = 0 ∨ 4562254508917369340 ≤ key x ∨ key x ≤ -4562254508917369340) : Gr (m - 52) x := by
  refine gr_low (by omega) ?_
  have a := key_abs x
  by_cases h0 : key x = 0
  · right; exact val_zero.2 (by omega)
  · left
    rw [val_abs, ← rv_pw (n := m) (by omega)]
    refine rv_le ?_
    have e : pw m = 4562146422526312448 := by subst hm; decide
    omega
theorem thou_gr {m : Nat} (hm : m = 1064) {n : Int} (h1 : -1000000 ≤ n) (h2 : n ≤ 1000000) : Gr (m - 52) (thouS n) := by
  refine gr_key hm ?_
  rcases Int.lt_trichotomy n 0 with h | h | h
  · exact Or.inr (Or.inr (thou_neg h1 (by omega)))
  · subst h; rw [thou_zero]; exact Or.inl (by decide +kernel)
  · exact Or.inr (Or.inl (thou_pos (by omega) h2))
theorem thou_bd {m : Nat} (hm : m = 1077) {n : Int} (h1 : -8000 ≤ n) (h2 : n ≤ 8000) : Bd m (thouS n) := by
  have a := thou_mono (m := -8000) h1 (by omega) (by omega)
  have b := thou_mono (n := 8000) h2 (by omega) (by omega)
  have e1 : key (thouS (-8000)) = -4620693217682128896 := by decide +kernel
  have e2 : key (thouS 8000) = 4620693217682128896 := by decide +kernel
  have e : pw m = 4620693217682128896 := by subst hm; decide
  unfold Bd
  rw [e, ← key_abs]
  omega
/-- Times 2^k. -/
theorem sv_up {c k n g x : Nat} (hc : c = 1074) (hk : k ≤ 3) (hx : isFin x = true) (hg : Gr g x) (hg2 : 52 ≤ g) (hb : Bd n x) (hn : 52 ≤ n) (hn2 : n ≤ 2000) : SV k g n x (fmul x (pw (c + k))) := by
  obtain ⟨v, f, s⟩ := val_pw (n := c + k) (by omega) (by omega)
  have bp : Bd (c + k) (pw (c + k)) := by
    unfold Bd
    rw [← key_abs, ← KR_val f, v]
    have := bd_of (x := pw (c + k)) (g := 1) (v := ((2 ^ (c + k) : Nat) : Int)) (n := c + k) (by rw [← v]; exact (KR_val f).symm) (by decide) (by rw [Int.natAbs_natCast, Nat.mul_one]; exact Nat.le_refl _) (by omega)
    unfold Bd at this
    rw [← key_abs, ← KR_val f, v] at this
    exact this
  have b := bd_mul (l := n + k) hc hb bp hn (by omega) (by omega) (by omega) (by omega) (by omega)
  exact ⟨sc_up hc v f s hx (hg.mono hg2) (b.fin (by omega)), hg, hb⟩
/-- Through 2^k: the pair the other way about. -/
theorem sv_down {c k n g x : Nat} (hc : c = 1074) (hk : k ≤ 3) (hx : isFin x = true) (hg : Gr (g + k) x) (hg2 : 52 ≤ g) (hb : Bd n x) (hn : 52 ≤ n) (hn2 : n ≤ 2000) : SV k g n (fmul x (pw (c - k))) x := by
  obtain ⟨v, f, s⟩ := val_pw (n := c - k) (by omega) (by omega)
  have bp : Bd (c - k) (pw (c - k)) := by
    have := bd_of (x := pw (c - k)) (g := 1) (v := ((2 ^ (c - k) : Nat) : Int)) (n := c - k) (by rw [← v]; exact (KR_val f).symm) (by decide) (by rw [Int.natAbs_natCast, Nat.mul_one]; exact Nat.le_refl _) (by omega)
    exact this
  have b := bd_mul (l := n) hc hb (bp.mono (show c - k ≤ c by omega)) hn (by omega) (by omega) (by omega) (by omega) hn
  have fm := b.fin (by omega)
  have sc := sc_down hc (by omega) v f s hx (hg.mono (by omega)) fm
  refine ⟨sc, ?_, b⟩
  refine gr_of hg2 (Nat.two_pow_pos c) (key_mul hc hx f).1 fm ?_
  rw [v, Int.natAbs_mul, Int.natAbs_natCast, ← Nat.pow_add, show g + c = (g + k) + (c - k) by omega, Nat.pow_add]
  exact Nat.mul_dvd_mul_right hg _
end Go.Proofs.YtfdfnnmgpjamdaiGreat
