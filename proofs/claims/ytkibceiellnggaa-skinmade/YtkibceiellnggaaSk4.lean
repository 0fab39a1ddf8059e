/-
  The answer: the colour at a place.
-/
import Derived.Test.YtkibceiellnggaaSk3
namespace Go.Proofs.Ytkibceiellnggaa
open Go.Gv

section
variable (mf : Int → Int → Nat → Int) (of : Int → Int → Int → Int) (qf rf : Int → Int → Int) (p : Pic) (w X Y : Int)
def rIx (j i k : Int) : Int := w64 (w64 (4 * w64 (w64 (of w (w64 (Y + j)) p.H * p.W) + of w (w64 (X + i)) p.W)) + k)
def rStep (j i k : Int) (cont : Int → Option Out) : Option Out :=
  cond (inB (w64 (Y + j)) && siB p.H) (cond (inB (w64 (X + i)) && siB p.W) (cond ((decide (0 ≤ rIx of p w X Y j i k) && decide (rIx of p w X Y j i k < (p.n : Int))) && true) (cont (p.px (rIx of p w X Y j i k).toNat)) none) none) none
def rSum (s t b0 b1 b2 b3 : Int) : Int := w64 (w64 (w64 (w64 (32768 + w64 (w64 (w64 b0 * w64 (256 - s)) * w64 (256 - t))) + w64 (w64 (w64 b1 * s) * w64 (256 - t))) + w64 (w64 (w64 b2 * w64 (256 - s)) * t)) + w64 (w64 (w64 b3 * s) * t))
def rFin (x : Int) : Int := IntKind.u8.wrap (w64 (x.tdiv 65536))
def rByte (s t k : Int) (cont : Int → Option Out) : Option Out :=
  rStep of p w X Y 0 0 k fun b0 => rStep of p w X Y 0 1 k fun b1 => rStep of p w X Y 1 0 k fun b2 => rStep of p w X Y 1 1 k fun b3 => cont (rFin (rSum s t b0 b1 b2 b3))
def four (v0 v1 v2 v3 : Int) (i : Nat) : Int := cond (Nat.blt i 3) (cond (Nat.blt i 2) (cond (Nat.blt i 1) v0 v1) v2) v3
end
def ainS (p : Pic) (w X Y s t k sum : Int) (j : Int) (m : Nat) (el : Nat → List AV) : St := mkS 122 [(1, iA w), (4, .own 0 0), (11, iA X), (12, iA s), (13, iA Y), (14, iA t), (15, .osl 1 1 0 m), (16, iA k), (17, iA sum), (18, iA j)] [.c p.c, .a 5 1 m el]
def keepAi : List Nat := [1, 4, 11, 12, 13, 14, 15, 16, 17, 18]
section
variable (of : Int → Int → Int → Int) (p : Pic) (w X Y s t k sum : Int) (m : Nat) (el : Nat → List AV)
def rAdd (sum b a c : Int) : Int := w64 (sum + w64 (w64 (w64 b * a) * c))
theorem aj0_ev : evC Try.prog [] [kIf 24 onC (onG of)] noL (loopAt Try.f8 1) (ainS p w X Y s t k sum 0 m el) (finN keepAi [some 0, some 1]) =
    rStep of p w X Y 0 0 k fun b0 => rStep of p w X Y 0 1 k fun b1 => some ⟨.normal, ainS p w X Y s t k (rAdd (rAdd sum b0 (w64 (256 - s)) (w64 (256 - t))) b1 s (w64 (256 - t))) 1 m el, .any⟩ := by kernel_rfl
theorem aj1_ev : evC Try.prog [] [kIf 24 onC (onG of)] noL (loopAt Try.f8 1) (ainS p w X Y s t k sum 1 m el) (finN keepAi [some 0, some 1]) =
    rStep of p w X Y 1 0 k fun b0 => rStep of p w X Y 1 1 k fun b1 => some ⟨.normal, ainS p w X Y s t k (rAdd (rAdd sum b0 (w64 (256 - s)) t) b1 s t) 2 m el, .any⟩ := by kernel_rfl
theorem aj2_ev : evC Try.prog [] [] noL (loopAt Try.f8 1) (ainS p w X Y s t k sum 2 m el) (finX keepAi [some 0, some 1]) = some ⟨.exit 2, ainS p w X Y s t k sum 2 m el, .any⟩ := by kernel_rfl
end
end Go.Proofs.Ytkibceiellnggaa
