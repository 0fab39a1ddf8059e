/-
  The colour at a place: code and answer give the same.
-/
import Derived.Test.YtkibceiellnggaaSk6
namespace Go.Proofs.Ytkibceiellnggaa
open Go.Gv

theorem way_eq (w : Int) : cond (decide (w < 0)) true (decide (w > 2)) = wayS w := by
  unfold wayS
  by_cases h0 : w = 0
  · subst h0; rfl
  · by_cases h1 : w = 1
    · subst h1; rfl
    · by_cases h2 : w = 2
      · subst h2; rfl
      · rw [beq_false_of_ne h0, beq_false_of_ne h1, beq_false_of_ne h2]
        by_cases h3 : w < 0
        · rw [decide_eq_true h3]; rfl
        · rw [decide_eq_false h3, decide_eq_true (show w > 2 by omega)]; rfl
theorem uv_rng {u v : Int} (h : uvS u v = false) : (-1073741824 ≤ u ∧ u ≤ 1073741824) ∧ -1073741824 ≤ v ∧ v ≤ 1073741824 := by
  unfold uvS at h
  by_cases h1 : u < -1073741824 <;> by_cases h2 : u > 1073741824 <;> by_cases h3 : v < -1073741824 <;> by_cases h4 : v > 1073741824 <;> simp [h1, h2, h3, h4] at h
  omega
theorem may_pg {p : Pic} (h : mayS p.W p.H p.n = 0) (hpx : ∀ i, i < p.n → 0 ≤ p.px i ∧ p.px i ≤ 255) : PG p p.W.toNat p.H.toNat := by
  unfold mayS at h
  cases hb : badS p.W p.H
  · rw [hb, cond_false] at h
    obtain ⟨h1, h2, h3, h4⟩ := badS_false hb
    cases hn : !((p.n : Int) == w64 (w64 (p.W * p.H) * 4))
    · have hm : p.W * p.H ≤ 64 * 64 := Int.mul_le_mul h2 h4 (by omega) (by omega)
      have hm0 : 0 ≤ p.W * p.H := Int.mul_nonneg (by omega) (by omega)
      have hn : (p.n : Int) = w64 (w64 (p.W * p.H) * 4) := by simpa using hn
      rw [w64_id (n := p.W * p.H) (by omega) (by omega), w64_id (by omega) (by omega)] at hn
      have eW : p.W = (p.W.toNat : Nat) := by omega
      have eH : p.H = (p.H.toNat : Nat) := by omega
      have hn2 : (p.n : Int) = ((p.W.toNat * p.H.toNat * 4 : Nat) : Int) := by
        rw [hn, Int.natCast_mul, Int.natCast_mul, ← eW, ← eH]
        rfl
      exact ⟨eW, eH, by omega, by omega, by omega, by omega, by omega, hpx⟩
    · rw [hn, cond_true] at h; cases h
  · rw [hb, cond_true] at h; cases h
theorem mat_zero {W H : Int} {n : Nat} {w u v : Int} (h : matS W H n w u v = 0) : mayS W H n = 0 ∧ wayS w = false ∧ uvS u v = false := by
  unfold matS at h
  cases hm : !(mayS W H n == 0)
  · rw [hm, cond_false] at h
    cases hw : wayS w
    · rw [hw, cond_false] at h
      cases hu : uvS u v
      · exact ⟨by simpa using hm, rfl, rfl⟩
      · rw [hu, cond_true] at h; cases h
    · rw [hw, cond_true] at h; cases h
  · rw [hm, cond_true] at h
    simp only [Bool.not_eq_true'] at hm
    exact absurd h (by simpa using hm)
/-- Where a place lies. -/
def xQ (u : Int) : Int := (u - 128) / 256
def xR (u : Int) : Int := (u - 128) % 256
theorem xQ_in {u : Int} (h : -1073741824 ≤ u ∧ u ≤ 1073741824) : inB (xQ u) = true ∧ inB (xQ u + 1) = true ∧ inB (u - 128) = true := by
  unfold xQ inB
  simp only [Bool.and_eq_true, decide_eq_true_eq]
  omega
theorem atR_bad {p : Pic} {w u v : Int} (h : matS p.W p.H p.n w u v ≠ 0) : FSpec Try.prog 8 [.agg p.c, iA w, iA u, iA v] (.tup [.x (.slice none 0 0), iA (matS p.W p.H p.n w u v)]) := by
  have kno : KOk Try.prog ⟨23, fun _ _ => none⟩ := by
    constructor
    · intro args k o h; simp at h
    · intro args v h
      have h1 := h fun x => some (Out.of x)
      simp at h1
  refine gspec (e_cons (gPm_ok mayR_spec) e_nil) (k_cons kno k_nil) Try.func8 (by kernel_rfl) (by kernel_rfl) (lok_none 12) rfl ((atR_ev0 mayS p w u v).trans ?_)
  rw [way_eq]
  unfold matS at h ⊢
  cases hm : !(mayS p.W p.H p.n == 0)
  · rw [hm] at h
    cases hw : wayS w
    · rw [hw] at h
      cases hu : uvS u v
      · rw [hu] at h; exact absurd rfl h
      · rfl
    · rfl
  · rfl
theorem atR_good {p : Pic} {w u v : Int} (h : matS p.W p.H p.n w u v = 0) (hpx : ∀ i, i < p.n → 0 ≤ p.px i ∧ p.px i ≤ 255) : FSpec Try.prog 8 [.agg p.c, iA w, iA u, iA v] (.tup [.sl 1 4 (fun i => [yA (rB p w (xQ u) (xQ v) (xR u) (xR v) i)]), iA 0]) := by
  obtain ⟨h1, h2, h3⟩ := mat_zero h
  have hg := may_pg h1 hpx
  obtain ⟨hu, hv⟩ := uv_rng h3
  obtain ⟨i1, i2, i3⟩ := xQ_in hu
  obtain ⟨j1, j2, j3⟩ := xQ_in hv
  have hL : LOk Try.prog (atRL p w (xQ u) (xQ v) (xR u) (xR v) (rB p w (xQ u) (xQ v) (xR u) (xR v))) (bodyOf Try.f8) :=
    lok_one (i := 12) 3 (by kernel_rfl) fun j hj hid => by
      have : j = 0 ∨ j = 1 ∨ j = 2 := by omega
      rcases this with rfl | rfl | rfl
      · exact toldN_sound (ao_leads hg (xR u) (xR v) j1 i1 j2 i2)
      · have e : firstId ((loopsOf (bodyOf Try.f8)).getD 1 .skip) = some 16 := by kernel_rfl
        rw [e] at hid; cases hid
      · have e : firstId ((loopsOf (bodyOf Try.f8)).getD 2 .skip) = some 19 := by kernel_rfl
        rw [e] at hid; cases hid
  refine gspec (e_cons (gPm_ok mayR_spec) e_nil) (k_cons kFl_ok k_nil) Try.func8 (by kernel_rfl) (by kernel_rfl) hL rfl ((atR_ev mayS flQ flR p w u v (xQ u) (xQ v) (xR u) (xR v) _).trans ?_)
  have e1 : flQ (w64 (u - 128)) 256 = xQ u := by rw [w64_id (by omega) (by omega), flQ_eq i3]; rfl
  have e2 : flQ (w64 (v - 128)) 256 = xQ v := by rw [w64_id (by omega) (by omega), flQ_eq j3]; rfl
  have e3 : flR (w64 (u - 128)) 256 = xR u := by rw [w64_id (by omega) (by omega), flR_eq (by decide) (by decide) i3]; rfl
  have e4 : flR (w64 (v - 128)) 256 = xR v := by rw [w64_id (by omega) (by omega), flR_eq (by decide) (by decide) j3]; rfl
  have e5 : (fun i => [yA (rB p w (xQ u) (xQ v) (xR u) (xR v) (0 + i))]) = fun i => [yA (rB p w (xQ u) (xQ v) (xR u) (xR v) i)] := funext fun i => by rw [Nat.zero_add]
  rw [way_eq, h1, h2, h3, e1, e2, e3, e4, gate_pos (Sub.refl _), e5]
  rfl
end Go.Proofs.Ytkibceiellnggaa
