/-
  Package chance, and the answer: noise; where shots go.
-/
import Derived.Test.YthdobfifpkpbnaaDoorMix
namespace Go.Proofs.YthdobfifpkpbnaaDoor
open Go.Gv

def g4i (g : Int → Int → Int → Int → AV) : List AV → Option AV
  | [.x (.int .i64 a), .x (.int .i64 b), .x (.int .i64 c), .x (.int .i64 d)] => some (g a b c d)
  | _ => none
theorem g4i_ok {P : Program} {f : Nat} {g : Int → Int → Int → Int → AV} (h : ∀ a b c d, FSpec P f [iA a, iA b, iA c, iA d] (g a b c d)) : EOk P ⟨f, g4i g⟩ := by
  intro args r hr
  simp only [g4i] at hr
  split at hr
  · cases hr; exact Or.inl (h _ _ _ _)
  · cases hr
def rea (n : Int) : Bool := cond (decide (n ≥ -1073741824)) (decide (n ≤ 1073741824)) false
theorem rea_ev (n : Int) : ev Tryd.prog [] [] noL Tryd.f15 [iA n] ret = some (Out.of (bA (rea n))) := by kernel_rfl
def EC3 : List Entry := ⟨15, g1i fun n => bA (rea n)⟩ :: ⟨16, g1i fun n => .tup [iA (ceQ n), iA (ceR n)]⟩ :: ⟨17, g4i fun i j k u => iA (rw_ i j k u)⟩ :: EC2
theorem EC3_ok : ∀ e, e ∈ EC3 → EOk Tryd.prog e :=
  e_cons (g1i_ok fun n => gspec e_nil k_nil Tryd.func15 (by kernel_rfl) (by kernel_rfl) noL_ok rfl (rea_ev n)) <|
  e_cons (g1i_ok fun n => gspec e_nil k_nil Tryd.func16 (by kernel_rfl) (by kernel_rfl) noL_ok rfl (ce_ev n)) <|
  e_cons (g4i_ok fun i j k u => gspec EC2_ok k_nil Tryd.func17 (by kernel_rfl) (by kernel_rfl) noL_ok rfl (row_ev i j k u)) EC2_ok
def nBad (x y z : Int) : Bool := cond (cond (!rea x) true (!rea y)) true (!rea z)
theorem noiC_ev (x y z : Int) : ev Tryd.prog EC3 [] noL Tryd.f10 [iA x, iA y, iA z] ret =
    cond (nBad x y z) (some (Out.of (.tup [iA 0, iA 1]))) (some (Out.of (.tup [iA (noi (ceQ x) (ceR x) (ceQ y) (ceR y) (ceQ z) (ceR z)), iA 0]))) := by kernel_rfl
def nBadR (x y z : Int) : Bool := cond (cond (cond (cond (cond (decide (x < -1073741824)) true (decide (x > 1073741824))) true (decide (y < -1073741824))) true (decide (y > 1073741824))) true (decide (z < -1073741824))) true (decide (z > 1073741824))
section
variable (cf bf : Int → Int → Int → Int) (fq fr : Int → Int → Int)
def rwG (i j k u : Int) : Int := bf (cf i j k) (cf (w64 (i + 1)) j k) u
def planeG (i j k u v : Int) : Int := bf (rwG cf bf i j k u) (rwG cf bf i (w64 (j + 1)) k u) v
def noiG (i u j v k w : Int) : Int := bf (planeG cf bf i j (w64 (k + 0)) u v) (planeG cf bf i j (w64 (k + 1)) u v) w
def EG : List Entry := [⟨21, g3i fun i j k => iA (cf i j k)⟩, ⟨20, g3i fun i j k => iA (bf i j k)⟩]
def flGG : List AV → AV
  | [.x (.int .i64 n), .x (.int .i64 m)] => .tup [iA (fq n m), iA (fr n m)]
  | _ => .any
theorem noiR_ev (x y z : Int) : ev Tryd.prog (EG cf bf) [kIf 19 flC (flGG fq fr)] noL Tryd.f11 [iA x, iA y, iA z] ret =
    cond (nBadR x y z) (some (Out.of (.tup [iA 0, iA 1]))) (some (Out.of (.tup [iA (noiG cf bf (fq x 256) (fr x 256) (fq y 256) (fr y 256) (fq z 256) (fr z 256)), iA 0]))) := by kernel_rfl
end
end Go.Proofs.YthdobfifpkpbnaaDoor
