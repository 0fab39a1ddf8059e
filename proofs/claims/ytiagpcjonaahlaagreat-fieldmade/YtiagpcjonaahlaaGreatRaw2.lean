/-
  The answer's makers: vectors, rays.
-/
import Derived.Test.YtiagpcjonaahlaaGreatRaw
namespace Go.Proofs.YtiagpcjonaahlaaGreat
open Go.Gv
open Go.Ev (cn fadd fsub fmul fdiv feq flt fle fgt fge)

def vecB (from_ most : Int) : Bool := decide (0 ≤ from_) && (decide (from_ < 1000000) && milB most)
def vecS (n : Nat) (hs : Nat → Int) (from_ most : Int) : Nat → Nat
  | 0 => mil (rawV n hs from_) most
  | 1 => mil (rawV n hs (w64 (from_ + 1))) most
  | _ => mil (rawV n hs (w64 (from_ + 2))) most
def vecC : List AV → Bool
  | [_, .x (.int .i64 f), .x (.int .i64 m)] => vecB f m
  | _ => false
def vecG (vf : Int → Int → Nat → Nat) : List AV → AV
  | [_, .x (.int .i64 f), .x (.int .i64 m)] => .agg [.f (vf f m 0), .f (vf f m 1), .f (vf f m 2)]
  | _ => .any
noncomputable def kVec (n : Nat) (hs : Nat → Int) (vf : Int → Int → Nat → Nat) : KEntry := kIfP 32 (fun args => args.head? = some (rsl n hs)) vecC (vecG vf)
theorem vec_spec {n : Nat} {hs : Nat → Int} {f m : Int} (h : vecB f m = true) : FSpec Tryz.prog 32 [rsl n hs, iA f, iA m] (.agg [.f (vecS n hs f m 0), .f (vecS n hs f m 1), .f (vecS n hs f m 2)]) := by
  unfold vecB at h
  simp only [Bool.and_eq_true, decide_eq_true_eq] at h
  obtain ⟨h0, h1, h2⟩ := h
  refine gspec e_nil (k_cons kMil_ok (k_cons (kRaw_ok n hs) k_nil)) Tryz.func32 (by kernel_rfl) (by kernel_rfl) noL_ok rfl ((vec_ev mil (rawV n hs) n hs f m).trans ?_)
  have e1 : decide (0 ≤ f) = true := decide_eq_true h0
  have e2 : decide (0 ≤ w64 (f + 1)) = true := decide_eq_true (by rw [w64_id (by omega) (by omega)]; omega)
  have e3 : decide (0 ≤ w64 (f + 2)) = true := decide_eq_true (by rw [w64_id (by omega) (by omega)]; omega)
  rw [gate_pos rfl, e1, cond_true, h2, cond_true, gate_pos rfl, e2, cond_true, cond_true, gate_pos rfl, e3, cond_true, cond_true]
  rfl
theorem kVec_ok (n : Nat) (hs : Nat → Int) : KOk Tryz.prog (kVec n hs (vecS n hs)) := kIfP_ok fun args hp h => by
  unfold vecC at h
  split at h
  · simp only [List.head?_cons, Option.some.injEq] at hp
    subst hp
    exact vec_spec h
  · cases h
/-! ### Nought -/
def noS (a b c : Nat) : Bool := cond (cond (feq a 0) (feq b 0) false) (feq c 0) false
theorem no_ev (a b c : Nat) : ev Tryz.prog [] [] noL Tryz.f35 [.agg [.f a, .f b, .f c]] ret = some (Out.of (bA (noS a b c))) := by kernel_rfl
def gNo (nf : Nat → Nat → Nat → Bool) : List AV → Option AV
  | [.agg [.f a, .f b, .f c]] => some (bA (nf a b c))
  | _ => none
theorem gNo_ok : EOk Tryz.prog ⟨35, gNo noS⟩ := fun args r hr => by
  simp only [gNo] at hr
  split at hr
  · cases hr; exact Or.inl (gspec e_nil k_nil Tryz.func35 (by kernel_rfl) (by kernel_rfl) noL_ok rfl (no_ev _ _ _))
  · cases hr
/-! ### Rays -/
section
variable (pf : Int → Int → Int) (tf : Int → Nat) (rv : Int → Int) (vf : Int → Int → Nat → Nat) (nf : Nat → Nat → Nat → Bool) (n : Nat) (hs : Nat → Int)
def eRay : List Entry := ⟨35, gNo nf⟩ :: eTh tf
def rLeaf (a : Nat → Nat) (x y z l : Nat) : Option Out := some (Out.of (.agg [.f (a 0), .f (a 1), .f (a 2), .f x, .f y, .f z, .f l]))
def rTwo (a : Nat → Nat) (x y z l : Nat) : Option Out := cond (nf x y z) (rLeaf a x y 4607182418800017408 l) (rLeaf a x y z l)
noncomputable def rOne (f : Int) (a : Nat → Nat) (x y z l : Nat) : Option Out := gate (some (rsl n hs) = some (rsl n hs)) (cond (decide (0 ≤ w64 (f + 8))) (cond (pf (rv (w64 (f + 8))) 4 == 0) (rTwo nf a x 0 z l) (rTwo nf a x y z l)) none)
theorem ray_ev (f : Int) : ev Tryz.prog (eRay tf nf) [kPick pf, kRaw n hs rv, kVec n hs vf] noL Tryz.f15 [rsl n hs, iA f] ret =
    gate (some (rsl n hs) = some (rsl n hs)) (cond (vecB f 6000) (gate (some (rsl n hs) = some (rsl n hs)) (cond (vecB (w64 (f + 3)) 1500) (gate (some (rsl n hs) = some (rsl n hs)) (cond (decide (0 ≤ w64 (f + 6)))
      (gate (some (rsl n hs) = some (rsl n hs)) (cond (decide (0 ≤ w64 (f + 7))) (cond (pf (rv (w64 (f + 7))) 3 == 0)
        (rOne pf rv nf n hs f (vf f 6000) 0 (vf (w64 (f + 3)) 1500 1) (vf (w64 (f + 3)) 1500 2) (tf (pf (rv (w64 (f + 6))) 3)))
        (rOne pf rv nf n hs f (vf f 6000) (vf (w64 (f + 3)) 1500 0) (vf (w64 (f + 3)) 1500 1) (vf (w64 (f + 3)) 1500 2) (tf (pf (rv (w64 (f + 6))) 3)))) none)) none)) none)) none) := by kernel_rfl
end
def rX (n : Nat) (hs : Nat → Int) (f : Int) : Nat := cond (pk (rawV n hs (w64 (f + 7))) 3 == 0) 0 (vecS n hs (w64 (f + 3)) 1500 0)
def rY (n : Nat) (hs : Nat → Int) (f : Int) : Nat := cond (pk (rawV n hs (w64 (f + 8))) 4 == 0) 0 (vecS n hs (w64 (f + 3)) 1500 1)
def rZ (n : Nat) (hs : Nat → Int) (f : Int) : Nat := cond (noS (rX n hs f) (rY n hs f) (vecS n hs (w64 (f + 3)) 1500 2)) 4607182418800017408 (vecS n hs (w64 (f + 3)) 1500 2)
def rL (n : Nat) (hs : Nat → Int) (f : Int) : Nat := thS (pk (rawV n hs (w64 (f + 6))) 3)
theorem eRay_ok : ∀ e, e ∈ eRay thS noS → EOk Tryz.prog e := e_cons gNo_ok eTh_ok
theorem ray_spec {n : Nat} {hs : Nat → Int} {f : Int} (h0 : 0 ≤ f) (h1 : f < 100000) : FSpec Tryz.prog 15 [rsl n hs, iA f] (.agg [.f (vecS n hs f 6000 0), .f (vecS n hs f 6000 1), .f (vecS n hs f 6000 2), .f (rX n hs f), .f (rY n hs f), .f (rZ n hs f), .f (rL n hs f)]) := by
  refine gspec eRay_ok (k_cons kPick_ok (k_cons (kRaw_ok n hs) (k_cons (kVec_ok n hs) k_nil))) Tryz.func15 (by kernel_rfl) (by kernel_rfl) noL_ok rfl ((ray_ev pk thS (rawV n hs) (vecS n hs) noS n hs f).trans ?_)
  have d : ∀ i : Int, 0 ≤ i → i < 10 → decide (0 ≤ w64 (f + i)) = true := fun i hi hi' => decide_eq_true (by rw [w64_id (by omega) (by omega)]; omega)
  have e1 : vecB f 6000 = true := by
    unfold vecB
    rw [decide_eq_true h0, decide_eq_true (show f < 1000000 by omega)]
    rfl
  have e2 : vecB (w64 (f + 3)) 1500 = true := by
    unfold vecB
    rw [d 3 (by omega) (by omega), decide_eq_true (show w64 (f + 3) < 1000000 by rw [w64_id (by omega) (by omega)]; omega)]
    rfl
  rw [gate_pos rfl, e1, cond_true, gate_pos rfl, e2, cond_true, gate_pos rfl, d 6 (by omega) (by omega), cond_true, gate_pos rfl, d 7 (by omega) (by omega), cond_true]
  unfold rOne rTwo rLeaf rZ rX rY rL
  rw [gate_pos rfl, d 8 (by omega) (by omega), cond_true, gate_pos rfl, cond_true]
  cases pk (rawV n hs (w64 (f + 7))) 3 == 0 <;> cases pk (rawV n hs (w64 (f + 8))) 4 == 0 <;> simp only [cond_true, cond_false]
  · cases noS (vecS n hs (w64 (f + 3)) 1500 0) (vecS n hs (w64 (f + 3)) 1500 1) (vecS n hs (w64 (f + 3)) 1500 2) <;> simp only [cond_true, cond_false]
  · cases noS (vecS n hs (w64 (f + 3)) 1500 0) 0 (vecS n hs (w64 (f + 3)) 1500 2) <;> simp only [cond_true, cond_false]
  · cases noS 0 (vecS n hs (w64 (f + 3)) 1500 1) (vecS n hs (w64 (f + 3)) 1500 2) <;> simp only [cond_true, cond_false]
  · cases noS 0 0 (vecS n hs (w64 (f + 3)) 1500 2) <;> simp only [cond_true, cond_false]
end Go.Proofs.YtiagpcjonaahlaaGreat
