/-
  The answer's makers: fields.
-/
import Derived.Test.YtiagpcjonaahlaaGreatRaw2
namespace Go.Proofs.YtiagpcjonaahlaaGreat
open Go.Gv
open Go.Ev (cn fadd fsub fmul fdiv feq flt fle fgt fge)

def fldC (W H : Int) (a : Nat → Nat) (sd : Nat) (hi : AV) (sk : Int) : List AV := [iA W, iA H, .f (a 0), .f (a 1), .f (a 2), .f sd, hi, iA sk]
def fldZ : List AV := [iA 0, iA 0, .f 0, .f 0, .f 0, .f 0, .x (.slice none 0 0), iA 0]
def fS0 (n : Nat) (hs : Nat → Int) (f W H : Int) (a : Nat → Nat) (sd : Nat) (sk : Int) (i : Int) : St := mkS 61 [(0, rsl n hs), (1, iA f), (6, .own 0 0), (7, .own 1 0), (8, iA i)] [.c fldZ, .c (fldC W H a sd (.x (.slice none 0 0)) sk)]
def fS1 (n : Nat) (hs : Nat → Int) (f W H : Int) (a : Nat → Nat) (sd : Nat) (sk : Int) (i : Int) (j : Nat) (el : Nat → List AV) : St := mkS 61 [(0, rsl n hs), (1, iA f), (6, .own 0 0), (7, .own 1 0), (8, iA i)] [.c fldZ, .c (fldC W H a sd (.osl 2 1 0 j) sk), .a 3 1 j el]
def keepFo : List Nat := [0, 1, 6, 7, 8]
section
variable (pf : Int → Int → Int) (rv : Int → Int) (n : Nat) (hs : Nat → Int) (f W H : Int) (a : Nat → Nat) (sd : Nat) (sk : Int)
/-- A height. -/
def hiG (i : Int) : Int := w64 (pf (rv (w64 (w64 (f + 7) + i))) 2000 - 1000)
theorem fo_step (i : Int) (j : Nat) (el : Nat → List AV) : evC Tryz.prog [] [kPick pf, kRaw n hs rv] noL (loopAt Tryz.f17 0) (fS1 n hs f W H a sd sk i j el) (finN keepFo [some 0, some 1, some 4]) =
    cond (decide (i < w64 (W * H))) (gate (some (rsl n hs) = some (rsl n hs)) (cond (decide (0 ≤ w64 (w64 (f + 7) + i))) (cond ((((j == j) && Nat.ble ((j + 1) * 8) 140737488355328) || false) && true)
      (some ⟨.normal, fS1 n hs f W H a sd sk (w64 (i + 1)) (j + 1) (fun q => mixL (Nat.blt q j) (el q) [iA (hiG pf rv f i)]), .any⟩) none) none)) none := by kernel_rfl
theorem fo_step0 (i : Int) : evC Tryz.prog [] [kPick pf, kRaw n hs rv] noL (loopAt Tryz.f17 0) (fS0 n hs f W H a sd sk i) (finN keepFo [some 0, some 1, some 3]) =
    cond (decide (i < w64 (W * H))) (gate (some (rsl n hs) = some (rsl n hs)) (cond (decide (0 ≤ w64 (w64 (f + 7) + i)))
      (some ⟨.normal, fS1 n hs f W H a sd sk (w64 (i + 1)) 1 (fun _ => [iA (hiG pf rv f i)]), .any⟩) none)) none := by kernel_rfl
theorem fo_end (i : Int) (j : Nat) (el : Nat → List AV) : evC Tryz.prog [] [⟨34, fun _ _ => none⟩] noL (loopAt Tryz.f17 0) (fS1 n hs f W H a sd sk i j el) (finX keepFo [some 0, some 1, some 2]) =
    cond (decide (i < w64 (W * H))) none (some ⟨.exit 0, fS1 n hs f W H a sd sk i j el, .any⟩) := by kernel_rfl
end
theorem not_blt2 {q m : Nat} (h : Nat.blt q m = false) : m ≤ q := Nat.le_of_not_lt fun hc => by
  have : Nat.blt q m = true := Nat.ble_eq_true_of_le hc
  rw [this] at h; cases h
/-- The heights. -/
def hiS (n : Nat) (hs : Nat → Int) (f : Int) (q : Nat) : Int := hiG pk (rawV n hs) f (q : Nat)
theorem kNo_ok {P : Program} (f : Nat) : KOk P ⟨f, fun _ _ => none⟩ := by
  constructor
  · intro args k o h; simp at h
  · intro args v h
    have h1 := h fun x => some (Out.of x)
    simp at h1
def foS (n : Nat) (hs : Nat → Int) (f W H : Int) (a : Nat → Nat) (sd : Nat) (sk : Int) : Nat → St
  | 0 => fS0 n hs f W H a sd sk 0
  | j + 1 => fS1 n hs f W H a sd sk (j + 1 : Nat) (j + 1) fun q => [iA (hiS n hs f q)]
theorem fo_leads {n : Nat} {hs : Nat → Int} {f W H : Int} (a : Nat → Nat) (sd : Nat) (sk : Int) {m : Nat} (h0 : 0 ≤ f) (h1 : f < 100000) (hm : w64 (W * H) = ((m + 1 : Nat) : Int)) (hm' : m < 1000) :
    Leads Tryz.prog (.loop (loopAt Tryz.f17 0)) (fS0 n hs f W H a sd sk 0) (.exit 0) (fS1 n hs f W H a sd sk (m + 1 : Nat) (m + 1) fun q => [iA (hiS n hs f q)]) := by
  have hk : ∀ e, e ∈ [kPick pk, kRaw n hs (rawV n hs)] → KOk Tryz.prog e := k_cons kPick_ok (k_cons (kRaw_ok n hs) k_nil)
  refine loop_rule (foS n hs f W H a sd sk) (m + 1) (.exit 0) _ (by simp) (fun j hj => ?_) ?_
  · have e8 : w64 (w64 (f + 7) + (j : Nat)) = f + 7 + (j : Nat) := by rw [w64_id (n := f + 7) (by omega) (by omega), w64_id (by omega) (by omega)]
    have c2 : decide (0 ≤ w64 (w64 (f + 7) + (j : Nat))) = true := by rw [e8]; exact decide_eq_true (by omega)
    cases j with
    | zero =>
      have c1 : decide ((0 : Int) < w64 (W * H)) = true := by rw [hm]; exact decide_eq_true (by omega)
      have c2' : decide (0 ≤ w64 (w64 (f + 7) + 0)) = true := c2
      have st := fo_step0 pk (rawV n hs) n hs f W H a sd sk 0
      rw [c1, cond_true, gate_pos rfl, c2', cond_true] at st
      refine (leads_ev (finN_sub keepFo [some 0, some 1, some 3]) e_nil hk noL_ok st).sub (Sub.refl _) ?_
      refine sub_same ⟨Or.inl rfl, Or.inl rfl, Or.inr ⟨3, 1, 1, _, _, rfl, rfl, fun q hq => ?_⟩, trivial⟩
      have : q = 0 := by omega
      subst this
      rfl
    | succ j =>
      have c1 : decide (((j + 1 : Nat) : Int) < w64 (W * H)) = true := by rw [hm]; exact dec_lt hj
      have c3 : Nat.ble ((j + 1 + 1) * 8) 140737488355328 = true := Nat.ble_eq_true_of_le (by omega)
      have st := fo_step pk (rawV n hs) n hs f W H a sd sk (j + 1 : Nat) (j + 1) fun q => [iA (hiS n hs f q)]
      rw [c1, cond_true, gate_pos rfl, c2, cond_true, c3, w64_next (by omega)] at st
      simp only [BEq.rfl, Bool.and_true, Bool.or_false, cond_true] at st
      refine (leads_ev (finN_sub keepFo [some 0, some 1, some 4]) e_nil hk noL_ok st).sub (Sub.refl _) ?_
      refine sub_same ⟨Or.inl rfl, Or.inl rfl, Or.inr ⟨3, 1, j + 1 + 1, _, _, rfl, rfl, fun q hq => ?_⟩, trivial⟩
      cases hlt : Nat.blt q (j + 1)
      · have hge := not_blt2 hlt
        have : q = j + 1 := by omega
        subst this
        unfold hiS iA
        simp only [mixL, mixA, cond_false, decide_true, cond_true]
      · unfold hiS iA
        simp only [mixL, mixA, decide_true, cond_true]
  · refine leads_ev (finX_sub keepFo [some 0, some 1, some 2]) e_nil (k_cons (kNo_ok 34) k_nil) noL_ok ((fo_end n hs f W H a sd sk (m + 1 : Nat) (m + 1) _).trans ?_)
    rw [hm, dec_self, cond_false]
end Go.Proofs.YtiagpcjonaahlaaGreat
