/-
  The law TopSkin: its second loop: a picture that is the same everywhere.
-/
import Derived.Test.YtkibceiellnggaaTs1
import Derived.Test.YtkibceiellnggaaGz
namespace Go.Proofs.Ytkibceiellnggaa
open Go.Gv

def toS (w h x t : Int) (b : ByteArray) (i : Int) (m : Nat) (el : Nat → List AV) : St := mkS 263 [(1, iA w), (2, iA h), (3, iA x), (5, iA t), (14, .x (.string b)), (25, .own 0 0), (26, iA i)] [.c [iA w, iA h, .osl 1 1 0 m], .a 5 1 m el]
def tfS (w h x t : Int) (b : ByteArray) (i : Int) (m : Nat) (el : Nat → List AV) : St := mkS 263 [(1, iA w), (2, iA h), (3, iA x), (5, iA t), (14, .x (.string b)), (25, .own 0 0), (26, iA i)] [.c [iA w, iA h, .sl 1 m el], .dead]
def keepTo : List Nat := [1, 2, 3, 5, 14, 25, 26]
section
variable (w h x t : Int) (b : ByteArray) (i : Int) (m : Nat) (el : Nat → List AV)
theorem to_step : evC Try.prog [] [] noL (loopAt Try.f5 1) (toS w h x t b i m el) (finN keepTo [some 0, some 2]) =
    cond (decide (i < w64 (w * h))) (cond (((m == m) && (Nat.blt 0 b.size && Nat.ble ((m + b.size) * 1) 140737488355328)) && true) (some ⟨.normal, toS w h x t b (w64 (i + 1)) (m + b.size) (fun q => mixL (Nat.blt q m) (el q) [yA (byAt b (q - m))]), .any⟩) none) none := by kernel_rfl
theorem to_end : evC Try.prog [] [] noL (loopAt Try.f5 1) (toS w h x t b i m el) (finX keepTo [some 0, some 1]) =
    cond (decide (i < w64 (w * h))) (cond (((m == m) && (Nat.blt 0 b.size && Nat.ble ((m + b.size) * 1) 140737488355328)) && true) none none) (some ⟨.exit 2, toS w h x t b i m el, .any⟩) := by kernel_rfl
end
/-- What it holds in the end. -/
def cpx (b : ByteArray) (q : Nat) : Int := byAt b (q % 4)
theorem to_leads {wd ht : Nat} (hw : wd ≤ 64) (hh : ht ≤ 64) (x t : Int) {b : ByteArray} (hb : b.size = 4) :
    Leads Try.prog (.loop (loopAt Try.f5 1)) (toS (wd : Nat) (ht : Nat) x t b 0 0 fun q => [yA (cpx b q)]) (.exit 2) (tfS (wd : Nat) (ht : Nat) x t b (wd * ht : Nat) (4 * (wd * ht)) fun q => [yA (cpx b q)]) := by
  have hn : wd * ht ≤ 64 * 64 := Nat.mul_le_mul hw hh
  have em : w64 ((wd : Int) * (ht : Int)) = ((wd * ht : Nat) : Int) := by rw [← Int.natCast_mul, w64_id (by omega) (by omega)]
  have h0 : Leads Try.prog (.loop (loopAt Try.f5 1)) (toS (wd : Nat) (ht : Nat) x t b (0 : Nat) (4 * 0) fun q => [yA (cpx b q)]) (.exit 2) (toS (wd : Nat) (ht : Nat) x t b (wd * ht : Nat) (4 * (wd * ht)) fun q => [yA (cpx b q)]) := by
    refine loop_rule (fun i => toS (wd : Nat) (ht : Nat) x t b (i : Nat) (4 * i) fun q => [yA (cpx b q)]) (wd * ht) (.exit 2) _ (by simp) (fun i hi => ?_) ?_
    · have st := to_step (wd : Nat) (ht : Nat) x t b (i : Nat) (4 * i) fun q => [yA (cpx b q)]
      rw [em, dec_lt hi, hb, Nat.ble_eq_true_of_le (show (4 * i + 4) * 1 ≤ 140737488355328 by omega), w64_next (by omega)] at st
      have e1 : Nat.blt 0 4 = true := rfl
      simp only [e1, BEq.rfl, Bool.and_true, cond_true] at st
      refine (leads_ev (finN_sub keepTo [some 0, some 2]) e_nil k_nil noL_ok st).sub (Sub.refl _) ?_
      refine sub_same ⟨Or.inl rfl, Or.inr ⟨5, 1, 4 * i + 4, _, _, rfl, rfl, fun q hq => ?_⟩, trivial⟩
      rw [mix1]
      cases hlt : Nat.blt q (4 * i)
      · have hge := not_blt hlt
        rw [cond_false]
        unfold cpx
        rw [show q - 4 * i = q % 4 by omega]
      · rfl
    · refine leads_ev (finX_sub keepTo [some 0, some 1]) e_nil k_nil noL_ok ((to_end _ _ _ _ _ _ _ _).trans ?_)
      rw [em, dec_self, cond_false]
  refine LeadsN.sub h0 (Sub.refl _) ?_
  refine sub_freeze (k := 1) (e := 5) (sz := 1) (n := 4 * (wd * ht)) (el := fun q => [yA (cpx b q)]) rfl fun j row hj => ?_
  match j, hj with
  | 0, hj =>
    cases hj
    exact ⟨_, rfl, Or.inr ⟨by omega, Or.inr ⟨_, _, rfl, rfl, ⟨Or.inl rfl, Or.inl rfl, Or.inr ⟨rfl, rfl⟩, trivial⟩⟩⟩⟩
  | 1, hj =>
    cases hj
    exact ⟨_, rfl, Or.inl ⟨rfl, rfl⟩⟩
  | j + 2, hj => cases hj
end Go.Proofs.Ytkibceiellnggaa
