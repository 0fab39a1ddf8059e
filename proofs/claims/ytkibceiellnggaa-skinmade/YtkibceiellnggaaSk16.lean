/-
  The answer: a picture of half the sides: what it gives; the code's Half.
-/
import Derived.Test.YtkibceiellnggaaSk15
namespace Go.Proofs.Ytkibceiellnggaa
open Go.Gv

noncomputable def hrL (p : Pic) (W' H' y' : Int) (m : Nat) (g : Nat → Int) : Nat → Option LFun := oneL 6 (toldC keepRy 2 [(2, 3, 1)] (.a 5 1 0 fun q => [yA (g q)]) [some 0, some 1, some 2, none] (ryS p W' H' 0 0 fun q => [yA (g q)]) (.exit 0) (ryS p W' H' y' m fun q => [yA (g q)]))
theorem hr_ev (mf : Int → Int → Nat → Int) (p : Pic) (W' H' y' : Int) (m : Nat) (g : Nat → Int) : ev Try.prog [⟨10, gPm mf⟩] [] (hrL p W' H' y' m g) Try.f12 [.agg p.c] ret =
    cond (!(mf p.W p.H p.n == 0)) (some (Out.of (.tup [.agg picZ, iA (mf p.W p.H p.n)])))
      (gate (Sub (ryS p (hw p.W) (hw p.H) 0 0 fun q => [yA (g q)]) (ryS p W' H' 0 0 fun q => [yA (g q)])) (some (Out.of (.tup [.agg [iA W', iA H', .sl 1 m fun i => [yA (g (0 + i))]], iA 0])))) := by kernel_rfl
theorem hr_ev0 (mf : Int → Int → Nat → Int) (p : Pic) : ev Try.prog [⟨10, gPm mf⟩] [] (oneL 6 fun _ _ => none) Try.f12 [.agg p.c] ret =
    cond (!(mf p.W p.H p.n == 0)) (some (Out.of (.tup [.agg picZ, iA (mf p.W p.H p.n)]))) none := by kernel_rfl
theorem halfR_bad {p : Pic} (h : mayS p.W p.H p.n ≠ 0) : FSpec Try.prog 12 [.agg p.c] (.tup [.agg picZ, iA (mayS p.W p.H p.n)]) := by
  refine gspec (e_cons (gPm_ok mayR_spec) e_nil) k_nil Try.func12 (by kernel_rfl) (by kernel_rfl) (lok_none 6) rfl ((hr_ev0 mayS p).trans ?_)
  rw [beq_false_of_ne h]
  rfl
theorem may_zero {p : Pic} {wd ht : Nat} (h : PG p wd ht) : mayS p.W p.H p.n = 0 := by
  have h1 := h.w1; have h2 := h.w64; have h3 := h.h1; have h4 := h.h64
  have hn : wd * ht ≤ 64 * 64 := Nat.mul_le_mul h2 h4
  unfold mayS badS
  have e1 : (wd : Int) * (ht : Int) = ((wd * ht : Nat) : Int) := by rw [Int.natCast_mul]
  rw [h.W, h.H, h.n, e1, w64_id (n := ((wd * ht : Nat) : Int)) (by omega) (by omega), w64_id (by omega) (by omega)]
  have e2 : ((wd * ht * 4 : Nat) : Int) = ((wd * ht : Nat) : Int) * 4 := by omega
  have a1 : decide ((wd : Int) < 1) = false := decide_eq_false (by omega)
  have a2 : decide ((wd : Int) > 64) = false := decide_eq_false (by omega)
  have a3 : decide ((ht : Int) < 1) = false := decide_eq_false (by omega)
  have a4 : decide ((ht : Int) > 64) = false := decide_eq_false (by omega)
  rw [e2, BEq.rfl, a1, a2, a3, a4]
  rfl
theorem halfR_good {p : Pic} {wd ht : Nat} (h : PG p wd ht) : FSpec Try.prog 12 [.agg p.c] (.tup [.agg (hpic p wd ht).c, iA 0]) := by
  have hL := lok_hd (c := bodyOf Try.f12) (i := 6) 4 (by kernel_rfl) (by kernel_rfl) (toldC_sound (keep := keepRy) (r0 := 2) (nils := [(2, 3, 1)]) (nr := .a 5 1 0 fun q => [yA (hpx p wd ht q)]) (τ := [some 0, some 1, some 2, none]) (ry_leads h))
  refine gspec (e_cons (gPm_ok mayR_spec) e_nil) k_nil Try.func12 (by kernel_rfl) (by kernel_rfl) hL rfl ((hr_ev mayS p (half2 wd : Nat) (half2 ht : Nat) (half2 ht : Nat) (half2 ht * half2 wd * 4) (hpx p wd ht)).trans ?_)
  have e1 : hw p.W = (half2 wd : Nat) := by rw [h.W]; exact hw_eq h.w64
  have e2 : hw p.H = (half2 ht : Nat) := by rw [h.H]; exact hw_eq h.h64
  have e5 : (fun i => [yA (hpx p wd ht (0 + i))]) = fun i => [yA (hpx p wd ht i)] := funext fun i => by rw [Nat.zero_add]
  rw [may_zero h, e1, e2, gate_pos (Sub.refl _), e5, Nat.mul_comm (half2 ht)]
  rfl
/-! ### The code's Half -/
theorem hf_ev (mf : Int → Int → Nat → Int) (p h : Pic) : ev Try.prog [⟨9, gPm mf⟩] [kfix 25 [.agg p.c] (.agg h.c)] noL Try.f11 [.agg p.c] ret =
    cond (!(mf p.W p.H p.n == 0)) (some (Out.of (.tup [.agg picZ, iA (mf p.W p.H p.n)]))) (gate ([AV.agg p.c] = [AV.agg p.c]) (some (Out.of (.tup [.agg h.c, iA 0])))) := by kernel_rfl
theorem hf_ev0 (mf : Int → Int → Nat → Int) (p : Pic) : ev Try.prog [⟨9, gPm mf⟩] [⟨25, fun _ _ => none⟩] noL Try.f11 [.agg p.c] ret =
    cond (!(mf p.W p.H p.n == 0)) (some (Out.of (.tup [.agg picZ, iA (mf p.W p.H p.n)]))) none := by kernel_rfl
theorem kno_ok (f : Nat) : KOk Try.prog ⟨f, fun _ _ => none⟩ := by
  constructor
  · intro args k o h; simp at h
  · intro args v h
    have h1 := h fun x => some (Out.of x)
    simp at h1
theorem half_bad {p : Pic} (h : mayS p.W p.H p.n ≠ 0) : FSpec Try.prog 11 [.agg p.c] (.tup [.agg picZ, iA (mayS p.W p.H p.n)]) := by
  refine gspec (e_cons (gPm_ok may_spec) e_nil) (k_cons (kno_ok _) k_nil) Try.func11 (by kernel_rfl) (by kernel_rfl) noL_ok rfl ((hf_ev0 mayS p).trans ?_)
  rw [beq_false_of_ne h]
  rfl
theorem half_good {p : Pic} {wd ht : Nat} (h : PG p wd ht) : FSpec Try.prog 11 [.agg p.c] (.tup [.agg (hpic p wd ht).c, iA 0]) := by
  refine gspec (e_cons (gPm_ok may_spec) e_nil) (k_cons (kfix_ok (half_spec h)) k_nil) Try.func11 (by kernel_rfl) (by kernel_rfl) noL_ok rfl ((hf_ev mayS p (hpic p wd ht)).trans ?_)
  rw [may_zero h, gate_pos rfl]
  rfl
/-! ### Half of a picture that may be, may be -/
theorem u8_rng (n : Int) : 0 ≤ IntKind.u8.wrap n ∧ IntKind.u8.wrap n ≤ 255 := by
  have e : IntKind.u8.wrap n = n % 256 := by
    unfold IntKind.wrap
    simp only [IntKind.bits, IntKind.signed, Bool.false_and]
    rfl
  rw [e]
  omega
theorem hpic_pg {p : Pic} {wd ht : Nat} (h : PG p wd ht) : PG (hpic p wd ht) (half2 wd) (half2 ht) := by
  obtain ⟨w1, w2⟩ := half2_le h.w64 h.w1
  obtain ⟨h1, h2⟩ := half2_le h.h64 h.h1
  exact ⟨rfl, rfl, w1, by omega, h1, by omega, rfl, fun i _ => u8_rng _⟩
end Go.Proofs.Ytkibceiellnggaa
