/-
  The answer's pictures that are made of raw numbers.
-/
import Derived.Test.YtkibceiellnggaaSkB
import Derived.Test.YtkibceiellnggaaArg0
namespace Go.Proofs.Ytkibceiellnggaa
open Go.Gv

def poS (n : Nat) (hs : Nat → Int) (w h i : Int) (m : Nat) (el : Nat → List AV) : St := mkS 65 [(0, rsl n hs), (1, iA w), (2, iA h), (3, bA false), (8, .own 0 0), (9, .own 1 0), (10, iA i)] [.c picZ, .c [iA w, iA h, .osl 2 1 0 m], .a 5 1 m el]
def keepPo : List Nat := [0, 1, 2, 3, 8, 9, 10]
def t3 : List (Option Nat) := [some 0, some 1, some 2]
def t3n : List (Option Nat) := [some 0, some 1, some 10]
def aC (m : Nat) : Bool := ((m == m) && Nat.ble ((m + 1) * 1) 140737488355328) && true
def apE (el : Nat → List AV) (m : Nat) (v : Int) : Nat → List AV := fun q => mixL (Nat.blt q m) (el q) [yA (IntKind.u8.wrap v)]
section
variable (n : Nat) (hs : Nat → Int) (pf : Int → Int → Int) (rv : Int → Int) (w h i : Int) (m : Nat) (el : Nat → List AV)
def poK (i c : Int) : Int := w64 (w64 (4 * i) + c)
def poN (c : Int) : Int := pf (w64 (rv (poK i c) * 53)) 256
def poC : Int := pf (w64 (rv (poK i 3) * 37)) 256
noncomputable def poG (c : Int) (o : Option Out) : Option Out := gate (some (rsl n hs) = some (rsl n hs)) (cond (decide (0 ≤ poK i c)) o none)
theorem po_step : evC Try.prog [] [kRaw n hs rv, kPick pf] noL (loopAt Try.f15 0) (poS n hs w h i m el) (finN keepPo t3n) =
    cond (decide (i < w64 (w * h))) (poG n hs i 3 (poG n hs i 0 (cond (aC m) (poG n hs i 1 (cond (aC (m + 1)) (poG n hs i 2 (cond (aC (m + 2)) (cond (aC (m + 3))
      (some ⟨.normal, poS n hs w h (w64 (i + 1)) (m + 4) (apE (apE (apE (apE el m (poN pf rv i 0)) (m + 1) (poN pf rv i 1)) (m + 2) (poN pf rv i 2)) (m + 3) (poC pf rv i)), .any⟩) none) none)) none)) none))) none := by kernel_rfl
theorem po_end : evC Try.prog [] [⟨27, fun _ _ => none⟩, kPick pf] noL (loopAt Try.f15 0) (poS n hs w h i m el) (finX keepPo t3) =
    cond (decide (i < w64 (w * h))) none (some ⟨.exit 0, poS n hs w h i m el, .any⟩) := by kernel_rfl
end
end Go.Proofs.Ytkibceiellnggaa
