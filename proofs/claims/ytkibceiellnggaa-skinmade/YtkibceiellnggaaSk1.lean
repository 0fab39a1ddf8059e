/-
  Package skin, and the answer: pictures, whether they may be, pixels.
-/
import Derived.Test.YtkibceiellnggaaGi
import Derived.Test.YtkibceiellnggaaGq2
namespace Go.Proofs.Ytkibceiellnggaa
open Go.Gv

def yA (b : Int) : AV := .x (.int .u8 b)
structure Pic where
  W : Int
  H : Int
  n : Nat
  px : Nat → Int
def Pic.sl (p : Pic) : AV := .sl 1 p.n fun i => [yA (p.px i)]
def Pic.c (p : Pic) : List AV := [iA p.W, iA p.H, p.sl]
def skK : Kont := fun e _ => some ⟨e, ⟨[], []⟩, .any⟩
theorem gspecM {l : List Entry} {ks : List KEntry} {ms : List MEntry} {L : Nat → Option LFun} (hl : ∀ e, e ∈ l → EOk Try.prog e) (hks : ∀ e, e ∈ ks → KOk Try.prog e) (hms : ∀ e, e ∈ ms → MEOk Try.prog e) {f : Nat} {fn : Func} (hf : Try.prog.funcs[f]? = some fn) (hnm : (fn.name == "runtime.NumGoroutine") = false) (hb : fn.body = some (bodyOf fn)) (hL : LOk Try.prog L (bodyOf fn))
    {args : List AV} (hlen : Nat.ble args.length fn.ntmps = true) {r : AV} (h : evM Try.prog l ks ms L fn args ret = some (Out.of r)) : FSpec Try.prog f args r := spec_of_evM hl hks hms (by kernel_rfl) hf hnm hb hL hlen h
theorem gspecG {l : List Entry} {ks : List KEntry} {ms : List MEntry} {L : Nat → Option LFun} (hl : ∀ e, e ∈ l → EOk Try.prog e) (hks : ∀ e, e ∈ ks → KOk Try.prog e) (hms : ∀ e, e ∈ ms → MEOk Try.prog e) {f : Nat} {fn : Func} (hf : Try.prog.funcs[f]? = some fn) (hnm : (fn.name == "runtime.NumGoroutine") = false) (hb : fn.body = some (bodyOf fn))
    {args : List AV} {mem : List Row} (hL : LOkN mem.length Try.prog L (bodyOf fn)) (hlen : Nat.ble args.length fn.ntmps = true) {τ : List (Option Nat)} (hpin : pinT mem.length τ = true) {v : AV} {mem1 : List Row} (h : evG Try.prog l ks ms L fn args mem τ = gout v mem1) : GSpec Try.prog f args mem v mem1 :=
  spec_of_evG hl hks hms (by kernel_rfl) hf hnm hb hL hlen hpin h
theorem m_nil {P : Program} : ∀ e, e ∈ ([] : List MEntry) → MEOk P e := fun _ h => by cases h
theorem m_cons {P : Program} {e : MEntry} {l : List MEntry} (h : MEOk P e) (hl : ∀ e, e ∈ l → MEOk P e) : ∀ e', e' ∈ e :: l → MEOk P e' := fun e' he => by
  rcases List.mem_cons.1 he with rfl | he
  · exact h
  · exact hl e' he
theorem leads_evM {l : List Entry} {ks : List KEntry} {ms : List MEntry} {L : Nat → Option LFun} {c : Code} {s s' : St} {e : Exit} {k : Kont} (hk : KSub k) (hl : ∀ e, e ∈ l → EOk Try.prog e) (hks : ∀ e, e ∈ ks → KOk Try.prog e) (hms : ∀ e, e ∈ ms → MEOk Try.prog e) (hL : LOk Try.prog L c) (h : evCM Try.prog l ks ms L c s k = some ⟨e, s', .any⟩) : Leads Try.prog c s e s' :=
  leads_ofK hk (tabM_ok hl hks hms) (drawnK_ok (tabM_ok hl hks hms) (by kernel_rfl)) hL h
/-! ### Whether a picture may be -/
def badS (W H : Int) : Bool := cond (cond (cond (decide (W < 1)) true (decide (W > 64))) true (decide (H < 1))) true (decide (H > 64))
def mayS (W H : Int) (n : Nat) : Int := cond (badS W H) 4 (cond (!((n : Int) == w64 (w64 (W * H) * 4))) 5 0)
theorem may_ev (W H : Int) (sz n : Nat) (el : Nat → List AV) : ev Try.prog [] [] noL Try.f9 [.agg [iA W, iA H, .sl sz n el]] ret =
    cond (badS W H) (some (Out.of (iA 4))) (cond (!((n : Int) == w64 (w64 (W * H) * 4))) (some (Out.of (iA 5))) (some (Out.of (iA 0)))) := by kernel_rfl
theorem mayR_ev (W H : Int) (sz n : Nat) (el : Nat → List AV) : ev Try.prog [] [] noL Try.f10 [.agg [iA W, iA H, .sl sz n el]] ret =
    cond (cond (cond (cond (decide (W < 1)) true (decide (H < 1))) true (decide (W > 64))) true (decide (H > 64))) (some (Out.of (iA 4))) (cond (!((n : Int) == w64 (w64 (4 * W) * H))) (some (Out.of (iA 5))) (some (Out.of (iA 0)))) := by kernel_rfl
theorem may_spec (W H : Int) (sz n : Nat) (el : Nat → List AV) : FSpec Try.prog 9 [.agg [iA W, iA H, .sl sz n el]] (iA (mayS W H n)) := by
  refine gspec e_nil k_nil Try.func9 (by kernel_rfl) (by kernel_rfl) noL_ok rfl ((may_ev W H sz n el).trans ?_)
  unfold mayS
  cases badS W H <;> cases !((n : Int) == w64 (w64 (W * H) * 4)) <;> rfl
theorem badS_false {W H : Int} (h : badS W H = false) : 1 ≤ W ∧ W ≤ 64 ∧ 1 ≤ H ∧ H ≤ 64 := by
  unfold badS at h
  by_cases h1 : W < 1 <;> by_cases h2 : W > 64 <;> by_cases h3 : H < 1 <;> by_cases h4 : H > 64 <;> simp [h1, h2, h3, h4] at h
  omega
theorem mayR_spec (W H : Int) (sz n : Nat) (el : Nat → List AV) : FSpec Try.prog 10 [.agg [iA W, iA H, .sl sz n el]] (iA (mayS W H n)) := by
  refine gspec e_nil k_nil Try.func10 (by kernel_rfl) (by kernel_rfl) noL_ok rfl ((mayR_ev W H sz n el).trans ?_)
  have e1 : (cond (cond (cond (decide (W < 1)) true (decide (H < 1))) true (decide (W > 64))) true (decide (H > 64))) = badS W H := by
    unfold badS
    cases decide (W < 1) <;> cases decide (W > 64) <;> cases decide (H < 1) <;> cases decide (H > 64) <;> rfl
  rw [e1]
  unfold mayS
  cases hb : badS W H
  · obtain ⟨h1, h2, h3, h4⟩ := badS_false hb
    have hm : W * H ≤ 64 * 64 := Int.mul_le_mul h2 h4 (by omega) (by omega)
    have hm0 : 0 ≤ W * H := Int.mul_nonneg (by omega) (by omega)
    have e2 : w64 (w64 (4 * W) * H) = w64 (w64 (W * H) * 4) := by
      rw [w64_id (n := 4 * W) (by omega) (by omega), w64_id (n := W * H) (by omega) (by omega)]
      congr 1
      rw [Int.mul_assoc, Int.mul_comm]
    rw [e2]
    cases !((n : Int) == w64 (w64 (W * H) * 4)) <;> rfl
  · rfl
def gPm (mf : Int → Int → Nat → Int) : List AV → Option AV
  | [.agg [.x (.int .i64 W), .x (.int .i64 H), .sl _ n _]] => some (iA (mf W H n))
  | _ => none
theorem gPm_ok {f : Nat} {mf : Int → Int → Nat → Int} (h : ∀ W H sz n el, FSpec Try.prog f [.agg [iA W, iA H, .sl sz n el]] (iA (mf W H n))) : EOk Try.prog ⟨f, gPm mf⟩ := fun args r hr => by
  simp only [gPm] at hr
  split at hr
  · cases hr; exact Or.inl (h _ _ _ _ _)
  · cases hr
/-! ### A pixel -/
def pxF (W x y : Int) : Int := w64 (w64 (w64 (y * W) + x) * 4)
def pxB (W : Int) (n : Nat) (x y : Int) : Bool := sbB (some (pxF W x y)) (some (w64 (pxF W x y + 4))) (some (w64 (pxF W x y + 4))) n
theorem px_ev (W H : Int) (n : Nat) (el : Nat → List AV) (x y : Int) : ev Try.prog [] [] noL Try.f21 [.agg [iA W, iA H, .sl 1 n el], iA x, iA y] ret =
    cond (pxB W n x y && true) (some (Out.of (.sl 1 (sbN (some (pxF W x y)) (some (w64 (pxF W x y + 4))) n) fun i => el (sbL (some (pxF W x y)) + i)))) none := by kernel_rfl
def pxC : List AV → Bool
  | [.agg [.x (.int .i64 W), .x (.int .i64 _), .sl 1 n _], .x (.int .i64 x), .x (.int .i64 y)] => pxB W n x y && decide (w64 (pxF W x y + 4) - pxF W x y = 4)
  | _ => false
def pxG : List AV → AV
  | [.agg [.x (.int .i64 W), .x (.int .i64 _), .sl 1 _ el], .x (.int .i64 x), .x (.int .i64 y)] => .sl 1 4 fun i => el ((pxF W x y).toNat + i)
  | _ => .any
theorem kPx_ok : KOk Try.prog (kIf 21 pxC pxG) := kIf_ok fun args h => by
  unfold pxC at h
  split at h
  · rename_i W H n el x y
    simp only [Bool.and_eq_true, decide_eq_true_eq] at h
    refine gspec e_nil k_nil Try.func21 (by kernel_rfl) (by kernel_rfl) noL_ok rfl ((px_ev W H n el x y).trans ?_)
    have e : sbN (some (pxF W x y)) (some (w64 (pxF W x y + 4))) n = 4 := by
      unfold sbN
      simp only [Option.getD_some]
      rw [h.2]
      rfl
    rw [h.1, Bool.and_true, cond_true, e]
    rfl
  · cases h
/-- A pixel of a picture that is being made. -/
theorem pxG_ev (W H : Int) (n : Nat) (el : Nat → List AV) (x y : Int) : evG Try.prog [] [] [] noL Try.f21 [.agg [iA W, iA H, .osl 0 1 0 n], iA x, iA y] [.a 5 1 n el] [some 0] =
    cond (pxB W n x y && true) (gout (.view 0 1 (0 + sbL (some (pxF W x y))) 0 (sbN (some (pxF W x y)) (some (w64 (pxF W x y + 4))) n)) [.a 5 1 n el]) none := by kernel_rfl
/-! ### Sums -/
def addS (a b t : Int) : Int := w64 (a + w64 (w64 b * t))
theorem add_ev (a b c d t : Int) (g : Nat → Int) : evG Try.prog [] [] [] noL Try.f20 [.own 0 0, .sl 1 4 (fun i => [yA (g i)]), iA t] [.c [iA a, iA b, iA c, iA d]] [some 0] =
    gout (.tup []) [.c [iA (addS a (g 0) t), iA (addS b (g 1) t), iA (addS c (g 2) t), iA (addS d (g 3) t)]] := by kernel_rfl
end Go.Proofs.Ytkibceiellnggaa
