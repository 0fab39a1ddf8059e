/-
  The answer: a picture of half the sides: its loops.
-/
import Derived.Test.YtkibceiellnggaaSk12
import Derived.Test.YtkibceiellnggaaGn
namespace Go.Proofs.Ytkibceiellnggaa
open Go.Gv

def rhR (p : Pic) (W' H' : Int) (m : Nat) (el : Nat → List AV) : List Row := [.c p.c, .c picZ, .c [iA W', iA H', .osl 3 1 0 m], .a 5 1 m el]
def riS (p : Pic) (W' H' y x k sum n j i : Int) (m : Nat) (el : Nat → List AV) : St := mkS 106 [(1, .own 0 0), (2, .own 1 0), (5, .own 2 0), (6, iA y), (7, iA x), (8, iA k), (9, iA sum), (10, iA n), (11, iA j), (12, iA i)] (rhR p W' H' m el)
def keepRi : List Nat := [1, 2, 5, 6, 7, 8, 9, 10, 11, 12]
def t4 : List (Option Nat) := [some 0, some 1, some 2, some 3]
section
variable (p : Pic) (W' H' y x k sum n j i : Int) (m : Nat) (el : Nat → List AV)
def riX : Int := w64 (w64 (4 * w64 (w64 (j * p.W) + i)) + k)
def riT : Bool := cond (decide (i < w64 (w64 (2 * x) + 2))) (decide (i < p.W)) false
theorem ri_step : evC Try.prog [] [] noL (loopAt Try.f12 4) (riS p W' H' y x k sum n j i m el) (finN keepRi t4) =
    cond (riT p x i) (cond ((decide (0 ≤ riX p k j i) && decide (riX p k j i < (p.n : Int))) && true) (some ⟨.normal, riS p W' H' y x k (w64 (sum + w64 (p.px (riX p k j i).toNat))) (w64 (n + 1)) j (w64 (i + 1)) m el, .any⟩) none) none := by kernel_rfl
theorem ri_end : evC Try.prog [] [] noL (loopAt Try.f12 4) (riS p W' H' y x k sum n j i m el) (finX keepRi t4) =
    cond (riT p x i) (cond ((decide (0 ≤ riX p k j i) && decide (riX p k j i < (p.n : Int))) && true) none none) (some ⟨.exit 8, riS p W' H' y x k sum n j i m el, .any⟩) := by kernel_rfl
end
end Go.Proofs.Ytkibceiellnggaa
