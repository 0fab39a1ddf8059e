/-
  Floats: what is taken off, added or divided by is in order behind it as ahead.
-/
import Derived.Test.YtenaeijehjnfeaaFl7
namespace Go.Ev
open Ieee

theorem fsub_mono {a b o : Nat} (ha : isFin a = true) (hb : isFin b = true) (ho : isFin o = true) (h : key a ≤ key b) : key (fsub a o) ≤ key (fsub b o) := by
  rw [(key_sub ha ho).1, (key_sub hb ho).1]
  have := val_le.2 h
  exact KR_mono 1 (by omega)
theorem fadd_mono {a b o : Nat} (ha : isFin a = true) (hb : isFin b = true) (ho : isFin o = true) (h : key a ≤ key b) : key (fadd a o) ≤ key (fadd b o) := by
  rw [(key_add ha ho).1, (key_add hb ho).1]
  have := val_le.2 h
  exact KR_mono 1 (by omega)
theorem val_pos {x : Nat} : 0 < val x ↔ 0 < key x := by
  have h := val_lt (x := 0) (y := x)
  have h1 : val 0 = 0 := by decide +kernel
  have h2 : key 0 = 0 := by decide +kernel
  rw [h1, h2] at h; exact h
theorem val_negative {x : Nat} : val x < 0 ↔ key x < 0 := by
  have h := val_lt (x := x) (y := 0)
  have h1 : val 0 = 0 := by decide +kernel
  have h2 : key 0 = 0 := by decide +kernel
  rw [h1, h2] at h; exact h
theorem fdiv_mono {a b d : Nat} (ha : isFin a = true) (hb : isFin b = true) (hd : isFin d = true) (h0 : 0 < key d) (h : key a ≤ key b) : key (fdiv a d) ≤ key (fdiv b d) := by
  have hv := val_pos.2 h0
  obtain ⟨c, hc⟩ : ∃ c, c = 1074 := ⟨_, rfl⟩
  rw [(key_div hc ha hd (by omega)).1, (key_div hc hb hd (by omega)).1]
  have hsg : sg (val d) = 1 := by unfold sg; rw [decide_eq_false (by omega)]; rfl
  rw [hsg, Int.mul_one, Int.mul_one]
  exact KR_mono _ (Int.mul_le_mul_of_nonneg_right (val_le.2 h) (Int.natCast_nonneg _))
theorem fdiv_anti {a b d : Nat} (ha : isFin a = true) (hb : isFin b = true) (hd : isFin d = true) (h0 : key d < 0) (h : key a ≤ key b) : key (fdiv b d) ≤ key (fdiv a d) := by
  have hv := val_negative.2 h0
  obtain ⟨c, hc⟩ : ∃ c, c = 1074 := ⟨_, rfl⟩
  rw [(key_div hc ha hd (by omega)).1, (key_div hc hb hd (by omega)).1]
  have hsg : sg (val d) = -1 := by unfold sg; rw [decide_eq_true hv]; rfl
  rw [hsg]
  have := val_le.2 h
  exact KR_mono _ (Int.mul_le_mul_of_nonneg_right (by omega) (Int.natCast_nonneg _))

/-- A float between two numbers is a number. -/
theorem fin_between {x lo hi : Nat} (h0 : isNan x = false) (h1 : key lo ≤ key x) (h2 : key x ≤ key hi) (hl : -9218868437227405312 < key lo) (hh : key hi < 9218868437227405312) : isFin x = true := by
  rcases fin_or_inf h0 with h | h
  · exact h
  · exfalso
    have e : key x = 9218868437227405312 ∨ key x = -9218868437227405312 := by
      unfold key; rw [h]; cases sgn x
      · exact Or.inl rfl
      · exact Or.inr rfl
    omega
/-- A million; two million. -/
theorem near_fin {x : Nat} (h1 : fge x 13920209183539462144 = true) (h2 : fle x 4696837146684686336 = true) : isFin x = true ∧ -4696837146684686336 ≤ key x ∧ key x ≤ 4696837146684686336 := by
  obtain ⟨a, _, h3⟩ := fge_true h1
  obtain ⟨_, _, h4⟩ := fle_true h2
  have e1 : key 13920209183539462144 = -4696837146684686336 := by decide +kernel
  have e2 : key 4696837146684686336 = 4696837146684686336 := by decide +kernel
  refine ⟨fin_between a h3 h4 (by rw [e1]; decide) (by rw [e2]; decide), by omega, by omega⟩
theorem sub_fin {x y : Nat} (hx : isFin x = true) (hy : isFin y = true) (x1 : -4696837146684686336 ≤ key x) (x2 : key x ≤ 4696837146684686336) (y1 : -4696837146684686336 ≤ key y) (y2 : key y ≤ 4696837146684686336) : isFin (fsub x y) = true := by
  have e1 : key 13920209183539462144 = -4696837146684686336 := by decide +kernel
  have e2 : key 4696837146684686336 = 4696837146684686336 := by decide +kernel
  have a1 := val_le.2 (show key 13920209183539462144 ≤ key x by omega)
  have a2 := val_le.2 (show key x ≤ key 4696837146684686336 by omega)
  have b1 := val_le.2 (show key 13920209183539462144 ≤ key y by omega)
  have b2 := val_le.2 (show key y ≤ key 4696837146684686336 by omega)
  have t1 : val 4696837146684686336 - val 13920209183539462144 = val 4701340746312056832 := by decide +kernel
  have t2 : val 13920209183539462144 - val 4696837146684686336 = val 13924712783166832640 := by decide +kernel
  have f1 : isFin 4701340746312056832 = true := by decide +kernel
  have f2 : isFin 13924712783166832640 = true := by decide +kernel
  obtain ⟨k, n⟩ := key_sub hx hy
  refine fin_between (lo := 13924712783166832640) (hi := 4701340746312056832) n ?_ ?_ (by decide +kernel) (by decide +kernel)
  · rw [k, ← KR_val f2]; exact KR_mono 1 (by omega)
  · rw [k, ← KR_val f1]; exact KR_mono 1 (by omega)
end Go.Ev
