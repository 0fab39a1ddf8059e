/-
  The law TopSkin: what its text comes to.
-/
import Derived.Test.YtkibceiellnggaaTs4
namespace Go.Proofs.Ytkibceiellnggaa
open Go.Gv

section
variable (pf : Int → Int → Int) (af : AF) (n : Nat) (hs : Nat → Int) (p : Pic) (w h x y t : Int) (b : ByteArray) (i' : Int) (m M : Nat) (g : Nat → Int) (f : Nat → Pic)
def lastI : Nat := (w64 ((M : Int) - 1)).toNat
/-- Behind the loops. -/
noncomputable def tkE : Option Out :=
  gate ([AV.agg (qP w h m g).c] = [AV.agg (qP w h m g).c]) (gAt af (qP w h m g) (pf t 3) (w64 (37 * t)) (w64 (91 * x))
    (cond (cond ((M : Int) == 0) true (nS (strA af (qP w h m g) (pf t 3) (w64 (37 * t)) (w64 (91 * x))) b)) (some (Out.of (bA false)))
      (cond ((decide (0 ≤ w64 ((M : Int) - 1)) && decide (w64 ((M : Int) - 1) < (M : Int))) && true)
        (cond (allB (f (lastI M)).n (fun _ => true) || !(decide ((cond ((f (lastI M)).W == 1) ((f (lastI M)).H == 1) false) = true) && true))
          (some (Out.of (bA (cond (cond ((f (lastI M)).W == 1) ((f (lastI M)).H == 1) false) ((strF (f (lastI M)).n (f (lastI M)).px).toList == b.toList) false)))) none) none)))
def kpW (z : Int) : Int := w64 (1 + pf z 8)
theorem tk_ev (w0 h0 x0 y0 t0 : Int) : ev Try.prog [] (tkK pf af n hs p (qP w h m g) w h M f) (tkL w h x y t p b i' m g) Try.f5 (b6 n hs w0 h0 x0 y0 t0) ret =
    cond (decide ((n : Int) > 512)) (some (Out.of (bA true))) (cond (!(kpW pf w0 == 0)) (cond (!(kpW pf h0 == 0)) (gate ([rsl n hs, iA (kpW pf w0), iA (kpW pf h0), bA false] = [rsl n hs, iA w, iA h, bA false])
      (cond (sbB (some (loP (kpW pf w0) (pf x0 (kpW pf w0)) (pf y0 (kpW pf h0)))) (some (w64 (loP (kpW pf w0) (pf x0 (kpW pf w0)) (pf y0 (kpW pf h0)) + 4))) none p.n && true)
        (cond (allB (sbN (some (loP (kpW pf w0) (pf x0 (kpW pf w0)) (pf y0 (kpW pf h0)))) (some (w64 (loP (kpW pf w0) (pf x0 (kpW pf w0)) (pf y0 (kpW pf h0)) + 4))) p.n) (fun _ => true) && true)
          (gate (Sub (l1S (kpW pf w0) (kpW pf h0) (pf x0 (kpW pf w0)) (pf y0 (kpW pf h0)) (w64 (pf t0 1000 - 500)) p (cutP p (loP (kpW pf w0) (pf x0 (kpW pf w0)) (pf y0 (kpW pf h0))) (w64 (loP (kpW pf w0) (pf x0 (kpW pf w0)) (pf y0 (kpW pf h0)) + 4))) 0) (l1S w h x y t p b 0))
            (tkB af p w h x y t b (gate (Sub (toS w h x t b 0 0 fun q => [yA (g q)]) (toS w h x t b 0 0 fun q => [yA (g q)])) (tkE pf af w h x t b m M g f)))) none) none)) none) none) := by kernel_rfl
end
end Go.Proofs.Ytkibceiellnggaa
