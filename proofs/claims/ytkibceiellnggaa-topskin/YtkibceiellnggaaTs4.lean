/-
  The law TopSkin: its text.
-/
import Derived.Test.YtkibceiellnggaaTs3
namespace Go.Proofs.Ytkibceiellnggaa
open Go.Gv

def loP (w x y : Int) : Int := w64 (4 * w64 (w64 (y * w) + x))
noncomputable def cutP (p : Pic) (l h : Int) : ByteArray := strF (sbN (some l) (some h) p.n) fun i => p.px (sbL (some l) + i)
def coL (w h : Int) : Int := w64 (w64 (4 * w64 (h - 1)) * w)
def b6 (n : Nat) (hs : Nat → Int) (w h x y t : Int) : List AV := [rsl n hs, iA w, iA h, iA x, iA y, iA t]
noncomputable def tkK (pf : Int → Int → Int) (af : AF) (n : Nat) (hs : Nat → Int) (p q : Pic) (w h : Int) (M : Nat) (f : Nat → Pic) : List KEntry :=
  [kPick pf, kfix 15 [rsl n hs, iA w, iA h, bA false] (.agg p.c), kS Try.prog 7 (atG af), kfix 14 [.agg q.c] (.tup [.sl 3 M (fun j => (f j).c), iA 0])]
noncomputable def tkL (w h x y t : Int) (p : Pic) (b : ByteArray) (i' : Int) (m : Nat) (g : Nat → Int) : Nat → Option LFun := twoL 11 (toldF keepL1 [some 0] (l1S w h x y t p b 0) (.exit 0) (l1S w h x y t p b 3))
  24 (toldC keepTo 4 [(2, 1, 1)] (.a 5 1 0 fun q => [yA (g q)]) [some 4, none] (toS w h x t b 0 0 fun q => [yA (g q)]) (.exit 2) (tfS w h x t b i' m fun q => [yA (g q)]))
section
variable (pf : Int → Int → Int) (af : AF) (n : Nat) (hs : Nat → Int) (p : Pic) (w h x y t : Int) (b : ByteArray) (i' : Int) (m M : Nat) (g : Nat → Int) (f : Nat → Pic)
noncomputable def gAt (q : Pic) (w u v : Int) (o : Option Out) : Option Out := gate (FSpec Try.prog 7 (aP q w u v) (atG af (aP q w u v))) o
def u1 : Int := w64 (w64 (256 * w64 (x + w64 (t * w))) + 128)
def v1 : Int := w64 (w64 (256 * w64 (y - w64 (t * h))) + 128)
def u2 : Int := w64 (w64 (256 * w64 (w64 (w64 (w64 (2 * t) * w) - 1) - x)) + 128)
def v2 : Int := w64 (w64 (256 * w64 (w64 (w64 (2 * t) * h) + y)) + 128)
def u3 : Int := w64 (128 - w64 (256 * x))
def v3 : Int := w64 (w64 (256 * w64 (h + y)) + 128)
def co4 : Int := w64 (coL w h + 4)
noncomputable def nS (a c : ByteArray) : Bool := !(a.toList == c.toList)
noncomputable def tkC : Bool := cond (cond (nS (strA af p 0 (u1 w x t) (v1 h y t)) b) true (nS (strA af p 1 (u2 w x t) (v2 h y t)) b)) true (cond (nS (strA af p 2 (u3 x) (v3 h y)) (cutP p (coL w h) (co4 w h))) (decide (x > 0)) false)
/-- Between the loops. -/
noncomputable def tkB (o : Option Out) : Option Out :=
  gAt af p 0 (u1 w x t) (v1 h y t) (gAt af p 1 (u2 w x t) (v2 h y t) (gAt af p 2 (u3 x) (v3 h y) (cond (sbB (some (coL w h)) (some (co4 w h)) none p.n && true) (cond (allB (sbN (some (coL w h)) (some (co4 w h)) p.n) (fun _ => true) && true)
    (cond (tkC af p w h x y t b) (some (Out.of (bA false))) o) none) none)))
def qP : Pic := ⟨w, h, m, g⟩
end
end Go.Proofs.Ytkibceiellnggaa
