/-
  The colour at a place: what the answer gives.
-/
import Derived.Test.YtkibceiellnggaaSk5
namespace Go.Proofs.Ytkibceiellnggaa
open Go.Gv

def aoS (p : Pic) (w X Y s t k : Int) (m : Nat) (el : Nat → List AV) : St := mkS 122 [(1, iA w), (4, .own 0 0), (11, iA X), (12, iA s), (13, iA Y), (14, iA t), (15, .osl 1 1 0 m), (16, iA k)] [.c p.c, .a 5 1 m el]
def keepAo : List Nat := [1, 4, 11, 12, 13, 14, 15, 16]
noncomputable def aoL (p : Pic) (w X Y s t k tot : Int) (m : Nat) (el : Nat → List AV) : Nat → Option LFun := oneL 16 (toldF keepAi [some 0, some 1] (ainS p w X Y s t k 32768 0 m el) (.exit 2) (ainS p w X Y s t k tot 2 m el))
section
variable (p : Pic) (w X Y s t k tot : Int) (m : Nat) (el : Nat → List AV)
theorem ao_step : evC Try.prog [] [] (aoL p w X Y s t k tot m el) (loopAt Try.f8 0) (aoS p w X Y s t k m el) (finN keepAo [some 0, some 3]) =
    cond (decide (k < 4)) (gate (Sub (ainS p w X Y s t k 32768 0 m el) (ainS p w X Y s t k 32768 0 m el)) (cond (((m == m) && Nat.ble ((m + 1) * 1) 140737488355328) && true)
      (some ⟨.normal, aoS p w X Y s t (w64 (k + 1)) (m + 1) (fun q => mixL (Nat.blt q m) (el q) [yA (rFin tot)]), .any⟩) none)) none := by kernel_rfl
theorem ao_end : evC Try.prog [] [] (oneL 16 fun _ _ => none) (loopAt Try.f8 0) (aoS p w X Y s t k m el) (finX keepAo [some 0, some 1]) = cond (decide (k < 4)) none (some ⟨.exit 0, aoS p w X Y s t k m el, .any⟩) := by kernel_rfl
end
theorem lok_none {P : Program} {c : Code} (i : Nat) : LOk P (oneL i fun _ _ => none) c := by
  intro c' _ i' g' _ hg
  unfold oneL at hg
  cases hb : Nat.beq i' i
  · rw [hb] at hg; cases hg
  · rw [hb] at hg
    cases hg
    exact ⟨fun _ _ _ hr => (by cases hr), fun _ _ _ hk => (by have := hk (fun e s => some ⟨e, s, .any⟩); cases this)⟩
theorem not_blt {q m : Nat} (h : Nat.blt q m = false) : m ≤ q := Nat.le_of_not_lt fun hc => by
  have : Nat.blt q m = true := Nat.ble_eq_true_of_le hc
  rw [this] at h; cases h
/-- A byte of the answer's colour. -/
def rB (p : Pic) (w X Y s t : Int) (q : Nat) : Int := rFin (rTot p w X Y s t q)
theorem ao_leads {p : Pic} {wd ht : Nat} (h : PG p wd ht) {w X Y : Int} (s t : Int) (hY : inB Y = true) (hX : inB X = true) (hY1 : inB (Y + 1) = true) (hX1 : inB (X + 1) = true) :
    Leads Try.prog (.loop (loopAt Try.f8 0)) (aoS p w X Y s t 0 0 fun q => [yA (rB p w X Y s t q)]) (.exit 0) (aoS p w X Y s t 4 4 fun q => [yA (rB p w X Y s t q)]) := by
  refine loop_rule (fun k => aoS p w X Y s t (k : Nat) k fun q => [yA (rB p w X Y s t q)]) 4 (.exit 0) _ (by simp) (fun k hk => ?_) ?_
  · have hL : LOk Try.prog (aoL p w X Y s t (k : Nat) (rTot p w X Y s t k) k fun q => [yA (rB p w X Y s t q)]) (loopAt Try.f8 0) :=
      lok_one (i := 16) 2 (by kernel_rfl) fun j hj hid => by
        have : j = 0 ∨ j = 1 := by omega
        rcases this with rfl | rfl
        · exact toldF_sound (aj_leads h s t k _ hY hX hY1 hX1 hk)
        · have e : firstId ((loopsOf (loopAt Try.f8 0)).getD 1 .skip) = some 19 := by kernel_rfl
          rw [e] at hid
          cases hid
    have st := ao_step p w X Y s t (k : Nat) (rTot p w X Y s t k) k fun q => [yA (rB p w X Y s t q)]
    rw [decide_eq_true (show ((k : Nat) : Int) < 4 by omega), gate_pos (Sub.refl _), Nat.ble_eq_true_of_le (show (k + 1) * 1 ≤ 140737488355328 by omega), w64_next (by omega)] at st
    simp only [BEq.rfl, Bool.and_true, cond_true] at st
    refine (leads_ev (finN_sub keepAo [some 0, some 3]) e_nil k_nil hL st).sub (Sub.refl _) ?_
    refine sub_same ⟨Or.inl rfl, Or.inr ⟨5, 1, k + 1, _, _, rfl, rfl, fun q hq => ?_⟩, trivial⟩
    cases hlt : Nat.blt q k
    · have hge := not_blt hlt
      have : q = k := by omega
      subst this
      unfold rB yA
      simp only [mixL, mixA, cond_false, decide_true, cond_true]
    · unfold yA
      simp only [mixL, mixA, decide_true, cond_true]
  · exact leads_ev (finX_sub keepAo [some 0, some 1]) e_nil k_nil (lok_none 16) (ao_end p w X Y s t 4 4 _)
noncomputable def atRL (p : Pic) (w X Y s t : Int) (g : Nat → Int) : Nat → Option LFun := oneL 12 (toldN keepAo [(15, 1, 1)] (.a 5 1 0 fun q => [yA (g q)]) [some 0, none] (aoS p w X Y s t 0 0 fun q => [yA (g q)]) (.exit 0) (aoS p w X Y s t 4 4 fun q => [yA (g q)]))
theorem atR_ev (mf : Int → Int → Nat → Int) (qf rf : Int → Int → Int) (p : Pic) (w u v X Y s t : Int) (g : Nat → Int) : ev Try.prog [⟨10, gPm mf⟩] [kIf 23 roC (flG qf rf)] (atRL p w X Y s t g) Try.f8 [.agg p.c, iA w, iA u, iA v] ret =
    cond (!(mf p.W p.H p.n == 0)) (some (Out.of (.tup [.x (.slice none 0 0), iA (mf p.W p.H p.n)]))) (cond (cond (decide (w < 0)) true (decide (w > 2))) (some (Out.of (.tup [.x (.slice none 0 0), iA 3])))
      (cond (uvS u v) (some (Out.of (.tup [.x (.slice none 0 0), iA 1])))
        (gate (Sub (aoS p w (qf (w64 (u - 128)) 256) (qf (w64 (v - 128)) 256) (rf (w64 (u - 128)) 256) (rf (w64 (v - 128)) 256) 0 0 fun q => [yA (g q)]) (aoS p w X Y s t 0 0 fun q => [yA (g q)])) (some (Out.of (.tup [.sl 1 4 (fun i => [yA (g (0 + i))]), iA 0])))))) := by kernel_rfl
theorem atR_ev0 (mf : Int → Int → Nat → Int) (p : Pic) (w u v : Int) : ev Try.prog [⟨10, gPm mf⟩] [⟨23, fun _ _ => none⟩] (oneL 12 fun _ _ => none) Try.f8 [.agg p.c, iA w, iA u, iA v] ret =
    cond (!(mf p.W p.H p.n == 0)) (some (Out.of (.tup [.x (.slice none 0 0), iA (mf p.W p.H p.n)]))) (cond (cond (decide (w < 0)) true (decide (w > 2))) (some (Out.of (.tup [.x (.slice none 0 0), iA 3])))
      (cond (uvS u v) (some (Out.of (.tup [.x (.slice none 0 0), iA 1]))) none)) := by kernel_rfl
end Go.Proofs.Ytkibceiellnggaa
