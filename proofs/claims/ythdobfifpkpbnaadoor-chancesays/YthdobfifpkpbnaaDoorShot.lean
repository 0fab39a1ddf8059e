/-
  Package chance, and the answer: where shots go.
-/
import Derived.Test.YthdobfifpkpbnaaDoorNoi3
import Derived.Test.YthdobfifpkpbnaaDoorMir2
namespace Go.Proofs.YthdobfifpkpbnaaDoor
open Go.Gv

def wi (n m : Int) : Bool := cond (decide (n ≥ 0)) (decide (n < m)) false
theorem wi_ev (n m : Int) : ev Tryd.prog [] [] noL Tryd.f13 [iA n, iA m] ret = some (Out.of (bA (wi n m))) := by kernel_rfl
def gMiC : List AV → Bool
  | [.x (.int .i64 b), .x (.int .i64 n)] => !mBad b n
  | _ => false
def gMiG (fa fb : Int → Int → Int) : List AV → AV
  | [.x (.int .i64 b), .x (.int .i64 n)] => .tup [iA (fa b n), iA (fb b n)]
  | _ => .any
theorem kMi_ok : KOk Tryd.prog (kIf 12 gMiC (gMiG mA mB)) := kIf_ok fun args h => by
  unfold gMiC at h
  split at h
  · rename_i b n
    have hbad : mBad b n = false := by simpa using h
    obtain ⟨b', n', rfl, rfl, h1, h2, h3⟩ := mGood hbad
    have := mir_spec h1 h2 h3
    have e1 : mA b' n' = (mnum b' n' (dgs b' 24 n') : Nat) := by simp only [mA, hbad, Int.toNat_natCast, cond_false]
    have e2 : mB b' n' = (b' ^ dgs b' 24 n' : Nat) := by simp only [mB, hbad, Int.toNat_natCast, cond_false]
    show FSpec Tryd.prog 12 [iA b', iA n'] (.tup [iA (mA b' n'), iA (mB b' n')])
    rw [e1, e2]
    exact this
  · cases h
section
variable (fa fb fe : Int → Int → Int) (mx : Int → Int → Int → Int)
/-- Where a shot goes along one side. -/
def mvG (b k h : Int) : Int := (w64 (w64 ((w64 (fa b k * 65536)).tdiv (fb b k)) + w64 h)).tmod 65536
theorem mv_ev (b k h : Int) : ev Tryd.prog [] [kIf 12 gMiC (gMiG fa fb)] noL Tryd.f14 [iA b, iA k, uA h] ret =
    cond (!mBad b k) (cond ((!(fb b k == 0)) && true) (some (Out.of (iA (mvG fa fb b k h)))) none) none := by kernel_rfl
def sBadR (x y k : Int) : Bool := cond (cond (cond (cond (cond (decide (x < 0)) true (decide (x ≥ 64))) true (decide (y < 0))) true (decide (y ≥ 64))) true (decide (k < 0))) true (decide (k ≥ 16))
def sBad (x y k : Int) : Bool := cond (cond (!wi x 64) true (!wi y 64)) true (!wi k 16)
def shG (b k h : Int) : AV := iA (mvG fa fb b k h)
def EGR : List Entry := [⟨7, g3u fun a b c => uA (mx a b c)⟩, ⟨5, g2i fun b n => .tup [iA (fa b n), iA (fb b n), iA (fe b n)]⟩]
def EGC : List Entry := [⟨6, g3u fun a b c => uA (mx a b c)⟩, ⟨13, g2i fun n m => bA (wi n m)⟩]
def mvC : List AV → Bool
  | [.x (.int .i64 b), .x (.int .i64 k), .x (.int .u32 _)] => !mBad b k
  | _ => false
def mvV : List AV → AV
  | [.x (.int .i64 b), .x (.int .i64 k), .x (.int .u32 h)] => iA (mvG fa fb b k h)
  | _ => .any
theorem shR_ev (x y k : Int) : ev Tryd.prog (EGR fa fb fe mx) [] noL Tryd.f9 [iA x, iA y, iA k] ret =
    cond (sBadR x y k) (some (Out.of (.tup [iA 0, iA 0, iA 6]))) (cond ((!(fb 2 k == 0)) && true) (cond ((!(fb 3 k == 0)) && true)
      (some (Out.of (.tup [iA (mvG fa fb 2 k ((mx (u32 x) (u32 y) 77).tmod 65536)), iA (mvG fa fb 3 k (qu (mx (u32 x) (u32 y) 77) 65536)), iA 0]))) none) none) := by kernel_rfl
theorem shC_ev (x y k : Int) : ev Tryd.prog (EGC mx) [kIf 14 mvC (mvV fa fb)] noL Tryd.f8 [iA x, iA y, iA k] ret =
    cond (sBad x y k) (some (Out.of (.tup [iA 0, iA 0, iA 6]))) (cond (!mBad 2 k) (cond (!mBad 3 k)
      (some (Out.of (.tup [iA (mvG fa fb 2 k ((mx (u32 x) (u32 y) 77).tmod 65536)), iA (mvG fa fb 3 k (qu (mx (u32 x) (u32 y) 77) 65536)), iA 0]))) none) none) := by kernel_rfl
end
end Go.Proofs.YthdobfifpkpbnaaDoor
