/-
  The law TopSkin: its first loop.
-/
import Derived.Test.YtkibceiellnggaaTs2
namespace Go.Proofs.Ytkibceiellnggaa
open Go.Gv

/-- A contract that is asked for where it is used. -/
noncomputable def kS (P : Program) (f : Nat) (g : List AV → AV) : KEntry := ⟨f, fun args k => gate (FSpec P f args (g args)) (k (g args))⟩
theorem kS_ok {P : Program} {f : Nat} {g : List AV → AV} : KOk P (kS P f g) := by
  constructor
  · intro args k o ho
    simp only [kS] at ho ⊢
    obtain ⟨hp, ho⟩ := gate_some ho
    exact ⟨g args, ho, fun k' => by rw [gate_pos hp]⟩
  · intro args v hv
    have h1 := hv fun x => some (Out.of x)
    simp only [kS] at h1
    obtain ⟨hp, h1⟩ := gate_some h1
    simp only [Option.some.injEq, Out.of, Out.mk.injEq, true_and] at h1
    subst h1
    exact Or.inl hp
abbrev AF : Type := Int → Int → Nat → (Nat → List AV) → Int → Int → Int → Nat → Int
def atG (af : AF) : List AV → AV
  | [.agg [.x (.int .i64 W), .x (.int .i64 H), .sl _ n el], .x (.int .i64 w), .x (.int .i64 u), .x (.int .i64 v)] => .tup [.agg [yA (af W H n el w u v 0), yA (af W H n el w u v 1), yA (af W H n el w u v 2), yA (af W H n el w u v 3)], iA 0]
  | _ => .any
/-- What At gives. -/
def atS : AF := fun W H n el w u v k => rB ⟨W, H, n, fun i => Gv.byteOf (el i)⟩ w (xQ u) (xQ v) (xR u) (xR v) k
def aP (p : Pic) (w u v : Int) : List AV := [.agg p.c, iA w, iA u, iA v]
noncomputable def strA (af : AF) (p : Pic) (w u v : Int) : ByteArray := strF 4 (four4 (af p.W p.H p.n (fun i => [yA (p.px i)]) w u v 0) (af p.W p.H p.n (fun i => [yA (p.px i)]) w u v 1) (af p.W p.H p.n (fun i => [yA (p.px i)]) w u v 2) (af p.W p.H p.n (fun i => [yA (p.px i)]) w u v 3))
def l1S (w h x y t : Int) (p : Pic) (b : ByteArray) (k : Int) : St := mkS 263 [(1, iA w), (2, iA h), (3, iA x), (4, iA y), (5, iA t), (13, .own 0 0), (14, .x (.string b)), (15, iA k)] [.c p.c]
def keepL1 : List Nat := [1, 2, 3, 4, 5, 13, 14, 15]
def mid (x : Int) : Int := w64 (w64 (256 * x) + 128)
section
variable (af : AF) (w h x y t : Int) (p : Pic) (b : ByteArray) (k : Int)
theorem l1_step : evC Try.prog [] [kS Try.prog 7 (atG af)] noL (loopAt Try.f5 0) (l1S w h x y t p b k) (finN keepL1 [some 0]) =
    cond (decide (k < 3)) (gate (FSpec Try.prog 7 (aP p k (mid x) (mid y)) (atG af (aP p k (mid x) (mid y)))) (cond (!((strA af p k (mid x) (mid y)).toList == b.toList)) none (some ⟨.normal, l1S w h x y t p b (w64 (k + 1)), .any⟩))) none := by kernel_rfl
theorem l1_end : evC Try.prog [] [⟨7, fun _ _ => none⟩] noL (loopAt Try.f5 0) (l1S w h x y t p b k) (finX keepL1 [some 0]) =
    cond (decide (k < 3)) none (some ⟨.exit 0, l1S w h x y t p b k, .any⟩) := by kernel_rfl
end
end Go.Proofs.Ytkibceiellnggaa
