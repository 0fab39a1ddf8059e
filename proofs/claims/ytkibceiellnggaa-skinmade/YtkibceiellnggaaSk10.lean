/-
  The mean of four pixels: its contract; a picture of half the sides: a pixel that is laid.
-/
import Derived.Test.YtkibceiellnggaaSk9
namespace Go.Proofs.Ytkibceiellnggaa
open Go.Gv

noncomputable def mofL (p : Pic) (x y cnt down a b c d : Int) : Nat → Option LFun := oneL 4 (toldF keepMo [some 0, some 1, some 2] (moS p x y 0 y 0 0 0 0) (.exit 0) (moS p x y cnt down a b c d))
theorem mof_ev (ef : Int → Int → Int) (p : Pic) (x y cnt down a b c d : Int) : ev Try.prog [] [kIf 22 meC (meG ef)] (mofL p x y cnt down a b c d) Try.f29 [.agg p.c, iA x, iA y] ret =
    gate (Sub (moS p x y 0 y 0 0 0 0) (moS p x y 0 y 0 0 0 0)) (cond (!(w64 (2 * cnt) == 0)) (some (Out.of (.agg [yA (ef a cnt), yA (ef b cnt), yA (ef c cnt), yA (ef d cnt)]))) none) := by kernel_rfl
/-- A byte of the mean of four pixels. -/
def hbt (p : Pic) (wd ht x y k : Nat) : Int := meS (accY p wd x y (min 2 (wd - x)) k (min 2 (ht - y))) (min 2 (ht - y) * min 2 (wd - x) : Nat)
theorem mof_spec {p : Pic} {wd ht : Nat} (h : PG p wd ht) {x y : Nat} (hx : x < wd) (hy : y < ht) : FSpec Try.prog 29 [.agg p.c, iA x, iA y] (.agg [yA (hbt p wd ht x y 0), yA (hbt p wd ht x y 1), yA (hbt p wd ht x y 2), yA (hbt p wd ht x y 3)]) := by
  have hL : LOk Try.prog (mofL p (x : Nat) (y : Nat) (min 2 (ht - y) * min 2 (wd - x) : Nat) (y + min 2 (ht - y) : Nat) (accY p wd x y (min 2 (wd - x)) 0 (min 2 (ht - y))) (accY p wd x y (min 2 (wd - x)) 1 (min 2 (ht - y))) (accY p wd x y (min 2 (wd - x)) 2 (min 2 (ht - y))) (accY p wd x y (min 2 (wd - x)) 3 (min 2 (ht - y)))) (bodyOf Try.f29) :=
    lok_one (i := 4) 2 (by kernel_rfl) fun j hj hid => by
      have : j = 0 ∨ j = 1 := by omega
      rcases this with rfl | rfl
      · exact toldF_sound (mo_leads h hx hy rfl rfl)
      · have e : firstId ((loopsOf (bodyOf Try.f29)).getD 1 .skip) = some 7 := by kernel_rfl
        rw [e] at hid; cases hid
  refine gspec e_nil (k_cons kMe_ok k_nil) Try.func29 (by kernel_rfl) (by kernel_rfl) hL rfl ((mof_ev meS p _ _ _ _ _ _ _ _).trans ?_)
  have hw := h.w64; have hh := h.h64
  have h1 : 1 * 1 ≤ min 2 (ht - y) * min 2 (wd - x) := Nat.mul_le_mul (by omega) (by omega)
  have h2 : min 2 (ht - y) * min 2 (wd - x) ≤ 2 * 2 := Nat.mul_le_mul (by omega) (by omega)
  have e : (!(w64 (2 * ((min 2 (ht - y) * min 2 (wd - x) : Nat) : Int)) == 0)) = true := by
    rw [w64_id (by omega) (by omega), beq_false_of_ne (by omega)]; rfl
  rw [gate_pos (Sub.refl _), e, cond_true]
  rfl
/-! ### A pixel of a picture that is being made -/
def pixC : List AV → List Row → Option (Bool × AV × List Row)
  | [.agg [.x (.int .i64 W), .x (.int .i64 _), .osl 0 1 0 n], .x (.int .i64 x), .x (.int .i64 y)], [.a e 1 m el] => cond (Nat.beq e 5) (some (Nat.beq n m && pxCB W n x y, .view 0 1 (pxF W x y).toNat 0 4, [.a e 1 m el])) none
  | _, _ => none
def mPix : MEntry := ⟨21, liftM none pixC⟩
theorem mPix_ok : MEOk Try.prog mPix := liftM_ok fun args rs v mem1 h => by
  unfold pixC at h
  split at h
  · rename_i W H n x y e m el
    cases he : Nat.beq e 5
    · rw [he] at h; cases h
    · rw [he] at h
      simp only [cond_true, Option.some.injEq, Prod.mk.injEq, Bool.and_eq_true] at h
      obtain ⟨⟨hn, hp⟩, rfl, rfl⟩ := h
      have e1 := Nat.eq_of_beq_eq_true he
      have e2 := Nat.eq_of_beq_eq_true hn
      subst e1
      subst e2
      refine ⟨?_, fun i _ _ => rfl⟩
      unfold pxCB at hp
      simp only [Bool.and_eq_true, decide_eq_true_eq] at hp
      refine gspecG e_nil k_nil m_nil Try.func21 (by kernel_rfl) (by kernel_rfl) (fun _ _ _ _ _ h => by cases h) rfl rfl ((pxG_ev W H n el x y).trans ?_)
      have e : sbN (some (pxF W x y)) (some (w64 (pxF W x y + 4))) n = 4 := by
        unfold sbN
        simp only [Option.getD_some]
        rw [hp.2]
        rfl
      rw [hp.1, Bool.and_true, cond_true, e, Nat.zero_add]
      rfl
  · cases h
def picZ : List AV := [iA 0, iA 0, .x (.slice none 0 0)]
def hiS (p : Pic) (W' H' y x : Int) (n : Nat) (el : Nat → List AV) : St := mkS 49 [(1, .own 0 0), (2, .own 1 0), (3, .own 2 0), (4, iA y), (25, iA H'), (26, iA y), (30, iA W'), (31, iA x)] [.c p.c, .c picZ, .c [iA W', iA H', .osl 3 1 0 n], .a 5 1 n el]
def keepHi : List Nat := [1, 2, 3, 4, 25, 26, 30, 31]
section
variable (p : Pic) (W' H' y x b0 b1 b2 b3 : Int) (n : Nat) (el : Nat → List AV)
def hiB : Bool := ((((Nat.beq n n && pxCB W' n x y) && ((Nat.blt 0 (0 + n) && true) && true)) || false) && ((Nat.ble ((pxF W' x y).toNat + 4) n || false) && true))
def lay4 (st q : Nat) : List AV := mixL (Nat.blt q st) (el q) (mixL (Nat.blt q (st + 4)) (spread st [[yA b0], [yA b1], [yA b2], [yA b3]] q) (el q))
theorem hi_step : evCM Try.prog [] [kfix 29 [.agg p.c, iA (w64 (2 * x)), iA (w64 (2 * y))] (.agg [yA b0, yA b1, yA b2, yA b3])] [mPix] noL (loopAt Try.f25 1) (hiS p W' H' y x n el) (finN keepHi [some 0, some 1, some 2, some 3]) =
    cond (decide (x < W')) (gate ([.agg p.c, iA (w64 (2 * x)), iA (w64 (2 * y))] = [AV.agg p.c, iA (w64 (2 * x)), iA (w64 (2 * y))]) (cond (hiB W' y x n) (some ⟨.normal, hiS p W' H' y (w64 (x + 1)) n (fun q => lay4 b0 b1 b2 b3 el (pxF W' x y).toNat q), .any⟩) none)) none := by kernel_rfl
theorem hi_end : evCM Try.prog [] [⟨29, fun _ _ => none⟩] [] noL (loopAt Try.f25 1) (hiS p W' H' y x n el) (finX keepHi [some 0, some 1, some 2, some 3]) = cond (decide (x < W')) none (some ⟨.exit 2, hiS p W' H' y x n el, .any⟩) := by kernel_rfl
end
end Go.Proofs.Ytkibceiellnggaa
