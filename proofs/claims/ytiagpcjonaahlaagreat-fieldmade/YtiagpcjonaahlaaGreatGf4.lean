/-
  Package field: the pieces of a grid.
-/
import Derived.Test.YtiagpcjonaahlaaGreatGf3
import Derived.Test.YtiagpcjonaahlaaGreatGe
namespace Go.Proofs.YtiagpcjonaahlaaGreat
open Go.Gv
open Go.Ev (cn fadd fsub fmul fdiv feq flt fle fgt fge)

/-- A triangle of three points. -/
def tri (a b c : Nat → Nat) : Nat → Nat := ls [a 0, a 1, a 2, b 0, b 1, b 2, c 0, c 1, c 2, 0, 0]
def shC (s : Nat → Nat) (sk : Int) : List AV := [iA 3, .f (s 0), .f (s 1), .f (s 2), .f (s 3), .f (s 4), .f (s 5), .f (s 6), .f (s 7), .f (s 8), .f (s 9), .f (s 10), iA sk]
def pinS (F : Fd) (n : Nat) (b : Nat → Nat) (y x : Int) (m : Nat) (ps : Nat → List AV) : St := mkS 73 [(1, .own 0 0), (3, .osl 1 13 0 m), (4, iA y), (13, iA (w64 (F.H - 1))), (14, iA y), (19, iA (w64 (F.W - 1))), (20, iA x)] [.c (gridC F n b), .a 41 13 m ps]
def keepP : List Nat := [1, 3, 4, 13, 14, 19, 20]
def PK (P : Program) (g : Func) : List KEntry := [inl P [] [] (fun _ => noL) 43 g]
theorem PK_ok : ∀ e, e ∈ PK Tryz.prog Tryz.f43 → KOk Tryz.prog e := k_cons (inl_ok e_nil k_nil (by kernel_rfl) Tryz.func43 (by kernel_rfl) (by kernel_rfl) (c := bodyOf Tryz.f43) fun _ => noL_ok) k_nil
def inR (k : Int) (n : Nat) : Bool := decide (0 ≤ k) && decide (k < (n : Int))
theorem pin_step (F : Fd) (n : Nat) (b : Nat → Nat) (y x : Int) (m : Nat) (ps : Nat → List AV) : evC Tryz.prog [] (PK Tryz.prog Tryz.f43) noL (loopAt Tryz.f24 1) (pinS F n b y x m ps) (finN keepP [some 0, some 7]) =
    cond (decide (x < w64 (F.W - 1))) (cond ((inR (ix F.W y x) n || false) && ((inR (w64 (ix F.W y x + 1)) n || false) && true)) (cond ((inR (w64 (ix F.W y x + F.W)) n || false) && ((inR (w64 (w64 (ix F.W y x + F.W) + 1)) n || false) && true))
      (cond ((((m == m) && Nat.ble ((m + 2) * 104) 140737488355328) || false) && true)
        (some ⟨.normal, pinS F n b y (w64 (x + 1)) (m + 2) (fun q => mixL (Nat.blt q m) (ps q) (mixL (Nat.blt q (m + 1)) (shC (tri (pt F (ix F.W y x).toNat) (pt F (w64 (ix F.W y x + F.W)).toNat) (pt F (w64 (ix F.W y x + 1)).toNat)) F.sk)
          (shC (tri (pt F (w64 (ix F.W y x + 1)).toNat) (pt F (w64 (ix F.W y x + F.W)).toNat) (pt F (w64 (w64 (ix F.W y x + F.W) + 1)).toNat)) F.sk))), .any⟩) none) none) none) none := by kernel_rfl
theorem pin_end (F : Fd) (n : Nat) (b : Nat → Nat) (y x : Int) (m : Nat) (ps : Nat → List AV) : evC Tryz.prog [] (PK Tryz.prog Tryz.f43) noL (loopAt Tryz.f24 1) (pinS F n b y x m ps) (finX keepP [some 0, some 1]) =
    cond (decide (x < w64 (F.W - 1))) (cond ((inR (ix F.W y x) n || false) && ((inR (w64 (ix F.W y x + 1)) n || false) && true)) (cond ((inR (w64 (ix F.W y x + F.W)) n || false) && ((inR (w64 (w64 (ix F.W y x + F.W) + 1)) n || false) && true))
      (cond ((((m == m) && Nat.ble ((m + 2) * 104) 140737488355328) || false) && true) none none) none) none) (some ⟨.exit 2, pinS F n b y x m ps, .any⟩) := by kernel_rfl
/-- The corner of a square that a piece is of; the piece. -/
def crn (w q : Nat) : Nat := q / 2 / (w - 1) * w + q / 2 % (w - 1)
def pc (F : Fd) (w q : Nat) : Nat → Nat := cond (q % 2 == 0) (tri (pt F (crn w q)) (pt F (crn w q + w)) (pt F (crn w q + 1))) (tri (pt F (crn w q + 1)) (pt F (crn w q + w)) (pt F (crn w q + w + 1)))
def pcs (F : Fd) (w : Nat) : Nat → List AV := fun q => shC (pc F w q) F.sk
theorem crn_at {w y x : Nat} (hx : x < w - 1) : crn w (2 * (y * (w - 1) + x)) = y * w + x ∧ crn w (2 * (y * (w - 1) + x) + 1) = y * w + x := by
  have h1 : 2 * (y * (w - 1) + x) / 2 = y * (w - 1) + x := by omega
  have h2 : (2 * (y * (w - 1) + x) + 1) / 2 = y * (w - 1) + x := by omega
  have hm : (y * (w - 1) + x) % (w - 1) = x := by rw [Nat.mul_comm, Nat.mul_add_mod]; exact Nat.mod_eq_of_lt hx
  have hd : (y * (w - 1) + x) / (w - 1) = y := by
    rw [Nat.mul_comm, Nat.mul_add_div (by omega), Nat.div_eq_of_lt hx]; omega
  unfold crn
  rw [h1, h2, hm, hd]
  exact ⟨rfl, rfl⟩
theorem inR_nat {k n : Nat} (h : k < n) : inR (k : Nat) n = true := by unfold inR; rw [dec_nonneg, dec_lt h]; rfl
theorem Dim.less {F : Fd} {w h : Nat} (d : Dim F w h) : w64 (F.W - 1) = ((w - 1 : Nat) : Int) ∧ w64 (F.H - 1) = ((h - 1 : Nat) : Int) := by
  have := d.w1; have := d.h1; have := d.w8; have := d.h8
  rw [d.W, d.H]
  exact ⟨by rw [w64_id (by omega) (by omega)]; omega, by rw [w64_id (by omega) (by omega)]; omega⟩
theorem pin_leads {F : Fd} {w h y : Nat} (b : Nat → Nat) (d : Dim F w h) (hy : y < h - 1) :
    Leads Tryz.prog (.loop (loopAt Tryz.f24 1)) (pinS F F.n b (y : Nat) 0 (2 * (y * (w - 1))) (pcs F w)) (.exit 2) (pinS F F.n b (y : Nat) ((w - 1 : Nat) : Int) (2 * (y * (w - 1) + (w - 1))) (pcs F w)) := by
  have hle := d.le
  have hyW := d.row (y := y + 1) (by omega)
  have e1 : (y + 1) * w = y * w + w := Nat.succ_mul y w
  rw [e1] at hyW
  have hw := d.w1
  have hn := d.n
  have hyv : y * (w - 1) ≤ y * w := Nat.mul_le_mul_left _ (by omega)
  refine loop_rule (fun j => pinS F F.n b (y : Nat) (j : Nat) (2 * (y * (w - 1) + j)) (pcs F w)) (w - 1) (.exit 2) _ (by simp) (fun j hj => ?_) ?_
  · have hix := d.ix (y := y) (x := j) (by omega) (by omega)
    have i1 : w64 (ix F.W (y : Nat) (j : Nat) + 1) = ((y * w + j + 1 : Nat) : Int) := by rw [hix, w64_id (by omega) (by omega)]; omega
    have i2 : w64 (ix F.W (y : Nat) (j : Nat) + F.W) = ((y * w + j + w : Nat) : Int) := by rw [hix, d.W, w64_id (by omega) (by omega)]; omega
    have i3 : w64 (w64 (ix F.W (y : Nat) (j : Nat) + F.W) + 1) = ((y * w + j + w + 1 : Nat) : Int) := by rw [i2, w64_id (by omega) (by omega)]; omega
    have hstep := pin_step F F.n b (y : Nat) (j : Nat) (2 * (y * (w - 1) + j)) (pcs F w)
    rw [d.less.1, dec_lt hj, i3, i2, i1, hix, inR_nat (show y * w + j < F.n by omega), inR_nat (show y * w + j + 1 < F.n by omega), inR_nat (show y * w + j + w < F.n by omega), inR_nat (show y * w + j + w + 1 < F.n by omega),
      Nat.ble_eq_true_of_le (show (2 * (y * (w - 1) + j) + 2) * 104 ≤ 140737488355328 by omega), w64_next (by omega)] at hstep
    simp only [cond_true, Bool.and_self, Bool.or_false, BEq.rfl, Int.toNat_natCast] at hstep
    refine Leads.sub (leads_ev (finN_sub keepP [some 0, some 7]) e_nil PK_ok noL_ok hstep) (Sub.refl _) ?_
    have e2 : 2 * (y * (w - 1) + (j + 1)) = 2 * (y * (w - 1) + j) + 2 := by omega
    rw [e2]
    refine sub_same ⟨Or.inl rfl, Or.inr ⟨41, 13, 2 * (y * (w - 1) + j) + 2, _, _, rfl, rfl, fun q hq => ?_⟩, trivial⟩
    obtain ⟨k1, k2⟩ := crn_at (w := w) (y := y) (x := j) hj
    cases hlt : Nat.blt q (2 * (y * (w - 1) + j))
    · have hge := not_blt hlt
      cases hlt2 : Nat.blt q (2 * (y * (w - 1) + j) + 1)
      · have hq2 : q = 2 * (y * (w - 1) + j) + 1 := by have := not_blt hlt2; omega
        subst hq2
        have hm : ((2 * (y * (w - 1) + j) + 1) % 2 == 0) = false := by rw [show (2 * (y * (w - 1) + j) + 1) % 2 = 1 by omega]; rfl
        unfold pcs pc shC iA
        rw [hm, k2]
        simp only [mixL, mixA, cond_false, decide_true, cond_true]
      · have hq2 : q = 2 * (y * (w - 1) + j) := by have : q < _ := Nat.le_of_ble_eq_true hlt2; omega
        subst hq2
        have hm : (2 * (y * (w - 1) + j) % 2 == 0) = true := by rw [show 2 * (y * (w - 1) + j) % 2 = 0 by omega]; rfl
        unfold pcs pc shC iA
        rw [hm, k1]
        simp only [mixL, mixA, cond_false, decide_true, cond_true]
    · unfold pcs shC iA
      simp only [mixL, mixA, decide_true, cond_true]
  · refine leads_ev (finX_sub keepP [some 0, some 1]) e_nil PK_ok noL_ok ?_
    rw [pin_end, d.less.1, dec_self]
    rfl
end Go.Proofs.YtiagpcjonaahlaaGreat
