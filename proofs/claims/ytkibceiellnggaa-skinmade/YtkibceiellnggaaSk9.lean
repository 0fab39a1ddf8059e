/-
  The mean of four pixels, as far as there are any.
-/
import Derived.Test.YtkibceiellnggaaSk8
namespace Go.Proofs.Ytkibceiellnggaa
open Go.Gv

theorem at_bad {p : Pic} {w u v : Int} (h : matS p.W p.H p.n w u v ≠ 0) : FSpec Try.prog 7 [.agg p.c, iA w, iA u, iA v] (.tup [.agg [yA 0, yA 0, yA 0, yA 0], iA (matS p.W p.H p.n w u v)]) := by
  refine gspecM (e_cons gMat_ok e_nil) (k_cons kCe_ok (k_cons kOn_ok (k_cons kPx_ok (k_cons kMe_ok k_nil)))) (m_cons mAdd_ok m_nil) Try.func7 (by kernel_rfl) (by kernel_rfl) noL_ok rfl ((at_ev matS onP q256 r256 addS meS p w u v).trans ?_)
  rw [beq_false_of_ne h]
  rfl
def mfS (p : Pic) (x y cnt down along a b c d : Int) : St := mkS 41 [(1, iA x), (2, iA y), (3, .own 0 0), (6, .own 1 0), (7, .own 2 0), (8, iA cnt), (9, iA down), (10, iA along)] [.c p.c, .c [yA 0, yA 0, yA 0, yA 0], .c [iA a, iA b, iA c, iA d]]
def keepMf : List Nat := [1, 2, 3, 6, 7, 8, 9, 10]
section
variable (af : Int → Int → Int → Int) (p : Pic) (x y cnt down along a b c d : Int)
def pxI (i : Nat) : Int := p.px ((pxF p.W along down).toNat + i)
theorem mf_step : evCM Try.prog [] [kIf 21 pxC pxG] [mAdd af] noL (loopAt Try.f29 1) (mfS p x y cnt down along a b c d) (finN keepMf [some 0, some 1, some 2]) =
    cond (decide (along < mn (w64 (x + 2)) p.W)) (cond (pxCB p.W p.n along down) (some ⟨.normal, mfS p x y (w64 (cnt + 1)) down (w64 (along + 1)) (af a (pxI p down along 0) 1) (af b (pxI p down along 1) 1) (af c (pxI p down along 2) 1) (af d (pxI p down along 3) 1), .any⟩) none) none := by kernel_rfl
theorem mf_end : evCM Try.prog [] [kIf 21 pxC pxG] [mAdd af] noL (loopAt Try.f29 1) (mfS p x y cnt down along a b c d) (finX keepMf [some 0, some 1, some 2]) =
    cond (decide (along < mn (w64 (x + 2)) p.W)) (cond (pxCB p.W p.n along down) none none) (some ⟨.exit 2, mfS p x y cnt down along a b c d, .any⟩) := by kernel_rfl
end
theorem pxN {p : Pic} {wd ht : Nat} (h : PG p wd ht) {x y : Nat} (hx : x < wd) (hy : y < ht) : pxF p.W x y = (((y * wd + x) * 4 : Nat) : Int) ∧ pxCB p.W p.n x y = true := by
  have hlt := h.at_lt hx hy (show 3 < 4 by omega)
  have hn := h.n_le
  have e : pxF p.W x y = (((y * wd + x) * 4 : Nat) : Int) := by
    unfold pxF
    rw [h.W]
    have e1 : (y : Int) * (wd : Int) = ((y * wd : Nat) : Int) := by rw [Int.natCast_mul]
    rw [e1, w64_id (n := ((y * wd : Nat) : Int)) (by omega) (by omega), w64_id (n := ((y * wd : Nat) : Int) + _) (by omega) (by omega), w64_id (by omega) (by omega)]
    omega
  refine ⟨e, ?_⟩
  unfold pxCB pxB sbB
  rw [e]
  generalize (y * wd + x) * 4 = N at hlt
  rw [w64_id (by omega) (by omega)]
  simp only [Option.getD_some, Bool.and_eq_true, decide_eq_true_eq]
  omega
/-- The sum of some bytes of a row; of some rows. -/
def accX (p : Pic) (wd x y k : Nat) : Nat → Int
  | 0 => 0
  | m + 1 => accX p wd x y k m + p.px ((y * wd + (x + m)) * 4 + k)
def accY (p : Pic) (wd x y nx k : Nat) : Nat → Int
  | 0 => 0
  | m + 1 => accY p wd x y nx k m + accX p wd x (y + m) k nx
theorem accX_rng {p : Pic} {wd ht : Nat} (h : PG p wd ht) {x y k : Nat} (hy : y < ht) (hk : k < 4) : ∀ m, x + m ≤ wd → 0 ≤ accX p wd x y k m ∧ accX p wd x y k m ≤ 255 * m
  | 0, _ => by simp [accX]
  | m + 1, hm => by
    have ih := accX_rng h (x := x) hy hk m (by omega)
    have hp := h.px _ (h.at_lt (x := x + m) (y := y) (by omega) hy hk)
    simp only [accX]
    omega
theorem addS_one {a b : Int} (ha : 0 ≤ a ∧ a ≤ 100000) (hb : 0 ≤ b ∧ b ≤ 255) : addS a b 1 = a + b := by
  rw [addS_eq (by omega) hb (by omega), Int.mul_one]
theorem mf_leads {p : Pic} {wd ht : Nat} (h : PG p wd ht) {x down nx c0 : Nat} (y : Int) (base : Nat → Int) (hx : x < wd) (hd : down < ht) (hnx : nx = min 2 (wd - x)) (hc : c0 ≤ 100) (hb : ∀ k, k < 4 → 0 ≤ base k ∧ base k ≤ 10000) :
    Leads Try.prog (.loop (loopAt Try.f29 1)) (mfS p (x : Nat) y (c0 : Nat) (down : Nat) (x : Nat) (base 0) (base 1) (base 2) (base 3)) (.exit 2)
      (mfS p (x : Nat) y (c0 + nx : Nat) (down : Nat) (x + nx : Nat) (base 0 + accX p wd x down 0 nx) (base 1 + accX p wd x down 1 nx) (base 2 + accX p wd x down 2 nx) (base 3 + accX p wd x down 3 nx)) := by
  have hw := h.w64
  have emn : mn (w64 ((x : Nat) + 2)) p.W = ((x + nx : Nat) : Int) := by
    rw [w64_id (by omega) (by omega), h.W]
    unfold mn
    split <;> omega
  have h0 : Leads Try.prog (.loop (loopAt Try.f29 1)) (mfS p (x : Nat) y (c0 + 0 : Nat) (down : Nat) (x + 0 : Nat) (base 0 + accX p wd x down 0 0) (base 1 + accX p wd x down 1 0) (base 2 + accX p wd x down 2 0) (base 3 + accX p wd x down 3 0)) (.exit 2)
      (mfS p (x : Nat) y (c0 + nx : Nat) (down : Nat) (x + nx : Nat) (base 0 + accX p wd x down 0 nx) (base 1 + accX p wd x down 1 nx) (base 2 + accX p wd x down 2 nx) (base 3 + accX p wd x down 3 nx)) := by
    refine loop_rule (fun j => mfS p (x : Nat) y (c0 + j : Nat) (down : Nat) (x + j : Nat) (base 0 + accX p wd x down 0 j) (base 1 + accX p wd x down 1 j) (base 2 + accX p wd x down 2 j) (base 3 + accX p wd x down 3 j)) nx (.exit 2) _ (by simp) (fun j hj => ?_) ?_
    · refine leads_evM (finN_sub keepMf [some 0, some 1, some 2]) e_nil (k_cons kPx_ok k_nil) (m_cons mAdd_ok m_nil) noL_ok ((mf_step addS p (x : Nat) y (c0 + j : Nat) (down : Nat) (x + j : Nat) _ _ _ _).trans ?_)
      obtain ⟨q1, q2⟩ := pxN h (x := x + j) (y := down) (by omega) hd
      have key : ∀ k, k < 4 → addS (base k + accX p wd x down k j) (pxI p (down : Nat) (x + j : Nat) k) 1 = base k + accX p wd x down k (j + 1) := fun k hk => by
        have r := accX_rng h (x := x) hd hk j (by omega)
        have hb := hb k hk
        have e : pxI p (down : Nat) (x + j : Nat) k = p.px ((down * wd + (x + j)) * 4 + k) := by
          unfold pxI
          rw [q1, Int.toNat_natCast]
        have hp := h.px _ (h.at_lt (x := x + j) (y := down) (by omega) hd hk)
        rw [e, addS_one (by omega) hp]
        simp only [accX]
        omega
      rw [emn, dec_lt (show x + j < x + nx by omega), q2, key 0 (by omega), key 1 (by omega), key 2 (by omega), key 3 (by omega), w64_next (n := c0 + j) (by omega), w64_next (n := x + j) (by omega)]
      rfl
    · refine leads_evM (finX_sub keepMf [some 0, some 1, some 2]) e_nil (k_cons kPx_ok k_nil) (m_cons mAdd_ok m_nil) noL_ok ((mf_end addS p (x : Nat) y (c0 + nx : Nat) (down : Nat) (x + nx : Nat) _ _ _ _).trans ?_)
      rw [emn, dec_self, cond_false]
  simpa [accX] using h0
def moS (p : Pic) (x y cnt down a b c d : Int) : St := mkS 41 [(1, iA x), (2, iA y), (3, .own 0 0), (6, .own 1 0), (7, .own 2 0), (8, iA cnt), (9, iA down)] [.c p.c, .c [yA 0, yA 0, yA 0, yA 0], .c [iA a, iA b, iA c, iA d]]
def keepMo : List Nat := [1, 2, 3, 6, 7, 8, 9]
noncomputable def moL (p : Pic) (x y cnt down a b c d cnt' along' a' b' c' d' : Int) : Nat → Option LFun := oneL 7 (toldF keepMf [some 0, some 1, some 2] (mfS p x y cnt down x a b c d) (.exit 2) (mfS p x y cnt' down along' a' b' c' d'))
section
variable (p : Pic) (x y cnt down a b c d cnt' along' a' b' c' d' : Int)
theorem mo_step : evC Try.prog [] [] (moL p x y cnt down a b c d cnt' along' a' b' c' d') (loopAt Try.f29 0) (moS p x y cnt down a b c d) (finN keepMo [some 0, some 1, some 2]) =
    cond (decide (down < mn (w64 (y + 2)) p.H)) (gate (Sub (mfS p x y cnt down x a b c d) (mfS p x y cnt down x a b c d)) (some ⟨.normal, moS p x y cnt' (w64 (down + 1)) a' b' c' d', .any⟩)) none := by kernel_rfl
theorem mo_end : evC Try.prog [] [] (oneL 7 fun _ _ => none) (loopAt Try.f29 0) (moS p x y cnt down a b c d) (finX keepMo [some 0, some 1, some 2]) =
    cond (decide (down < mn (w64 (y + 2)) p.H)) none (some ⟨.exit 0, moS p x y cnt down a b c d, .any⟩) := by kernel_rfl
end
theorem accY_rng {p : Pic} {wd ht : Nat} (h : PG p wd ht) {x y nx k : Nat} (hx : x + nx ≤ wd) (hn : nx ≤ 2) (hk : k < 4) : ∀ m, y + m ≤ ht → 0 ≤ accY p wd x y nx k m ∧ accY p wd x y nx k m ≤ 510 * m
  | 0, _ => by simp [accY]
  | m + 1, hm => by
    have ih := accY_rng h (x := x) (y := y) hx hn hk m (by omega)
    have r := accX_rng h (x := x) (y := y + m) (by omega) hk nx hx
    simp only [accY]
    omega
theorem mo_leads {p : Pic} {wd ht : Nat} (h : PG p wd ht) {x y nx ny : Nat} (hx : x < wd) (hy : y < ht) (hnx : nx = min 2 (wd - x)) (hny : ny = min 2 (ht - y)) :
    Leads Try.prog (.loop (loopAt Try.f29 0)) (moS p (x : Nat) (y : Nat) 0 (y : Nat) 0 0 0 0) (.exit 0)
      (moS p (x : Nat) (y : Nat) (ny * nx : Nat) (y + ny : Nat) (accY p wd x y nx 0 ny) (accY p wd x y nx 1 ny) (accY p wd x y nx 2 ny) (accY p wd x y nx 3 ny)) := by
  have hh := h.h64
  have emn : mn (w64 ((y : Nat) + 2)) p.H = ((y + ny : Nat) : Int) := by
    rw [w64_id (by omega) (by omega), h.H]
    unfold mn
    split <;> omega
  have h0 : Leads Try.prog (.loop (loopAt Try.f29 0)) (moS p (x : Nat) (y : Nat) (0 * nx : Nat) (y + 0 : Nat) (accY p wd x y nx 0 0) (accY p wd x y nx 1 0) (accY p wd x y nx 2 0) (accY p wd x y nx 3 0)) (.exit 0)
      (moS p (x : Nat) (y : Nat) (ny * nx : Nat) (y + ny : Nat) (accY p wd x y nx 0 ny) (accY p wd x y nx 1 ny) (accY p wd x y nx 2 ny) (accY p wd x y nx 3 ny)) := by
    refine loop_rule (fun i => moS p (x : Nat) (y : Nat) (i * nx : Nat) (y + i : Nat) (accY p wd x y nx 0 i) (accY p wd x y nx 1 i) (accY p wd x y nx 2 i) (accY p wd x y nx 3 i)) ny (.exit 0) _ (by simp) (fun i hi => ?_) ?_
    · have hin : i * nx ≤ 2 * 2 := Nat.mul_le_mul (by omega) (by omega)
      have hl := mf_leads h (x := x) (down := y + i) (nx := nx) (c0 := i * nx) (y : Nat) (fun k => accY p wd x y nx k i) hx (by omega) hnx (by omega) (fun k hk => by
        have := accY_rng h (x := x) (y := y) (nx := nx) (k := k) (by omega) (by omega) hk i (by omega)
        omega)
      have hL : LOk Try.prog (moL p (x : Nat) (y : Nat) (i * nx : Nat) (y + i : Nat) (accY p wd x y nx 0 i) (accY p wd x y nx 1 i) (accY p wd x y nx 2 i) (accY p wd x y nx 3 i) (i * nx + nx : Nat) (x + nx : Nat) (accY p wd x y nx 0 i + accX p wd x (y + i) 0 nx) (accY p wd x y nx 1 i + accX p wd x (y + i) 1 nx) (accY p wd x y nx 2 i + accX p wd x (y + i) 2 nx) (accY p wd x y nx 3 i + accX p wd x (y + i) 3 nx)) (loopAt Try.f29 0) :=
        lok_one (i := 7) 1 (by kernel_rfl) fun j hj _ => by
          have : j = 0 := by omega
          subst this
          exact toldF_sound hl
      refine leads_ev (finN_sub keepMo [some 0, some 1, some 2]) e_nil k_nil hL ((mo_step p _ _ _ _ _ _ _ _ _ _ _ _ _ _).trans ?_)
      rw [emn, dec_lt (show y + i < y + ny by omega), gate_pos (Sub.refl _), w64_next (n := y + i) (by omega), Nat.succ_mul]
      rfl
    · refine leads_ev (finX_sub keepMo [some 0, some 1, some 2]) e_nil k_nil (lok_none 7) ((mo_end p _ _ _ _ _ _ _ _).trans ?_)
      rw [emn, dec_self, cond_false]
  simpa [accY] using h0
end Go.Proofs.Ytkibceiellnggaa
