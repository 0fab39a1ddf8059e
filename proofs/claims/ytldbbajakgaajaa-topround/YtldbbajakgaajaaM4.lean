/-
  Wv3 Fr0 Rd1 Rd2 Fl14 Bw Bw2 Rd3 Er0 Er1, one behind the other.
-/
import Derived.Test.YtldbbajakgaajaaM3
import Derived.Test.YtldbbajakgaajaaM1
import Derived.Test.YtldbbajakgaajaaGy
import Derived.Test.YtldbbajakgaajaaGu
namespace Go.Proofs.Ytldbbajakgaajaa
open Go.Gv
open Go.Ev (fneg CX cmul cadd csub one64 two64 mone rt rtB pws wv)

theorem wvB_t {k h : Nat} (hk : k < h) (hh : h ≤ 1048576) : wvB (k : Nat) h k = true := by
  unfold wvB
  rw [ixB_t hk, apB_t (by omega)]
  rfl
theorem wv_leads {h : Nat} (hh : h ≤ 1048576) (E O : Nat → CX) (w : CX) : Leads Try.prog (.loop (loopAt Try.f18 0)) (wvS ((2 * h : Nat) : Int) h E O w (one64, 0) 0 0 (loW w E O) (loW w E O)) (.exit 0) (wvZ ((2 * h : Nat) : Int) h E O w (pws w h) (h : Nat) h (loW w E O) (hiW w E O)) := by
  have eh : w64 ((((2 * h : Nat)) : Int).tdiv 2) = (h : Int) := by
    rw [Int.tdiv_eq_ediv_of_nonneg (by omega), w64_id (by omega) (by omega)]
    omega
  have h1 : Leads Try.prog (.loop (loopAt Try.f18 0)) (wvS ((2 * h : Nat) : Int) h E O w (one64, 0) 0 0 (loW w E O) (hiW w E O)) (.exit 0) (wvS ((2 * h : Nat) : Int) h E O w (pws w h) (h : Nat) h (loW w E O) (hiW w E O)) := by
    refine loop_rule (fun k => wvS ((2 * h : Nat) : Int) h E O w (pws w k) (k : Nat) k (loW w E O) (hiW w E O)) h (.exit 0) _ (by simp) (fun k hk => ?_) ?_
    · have st := wv_step cmul ((2 * h : Nat) : Int) h E O w (pws w k) (k : Nat) k (loW w E O) (hiW w E O)
      rw [eh, dec_lt hk, ixB_t hk, wvB_t hk hh] at st
      simp only [Bool.true_or, cond_true] at st
      unfold wvN at st
      rw [w64_next (by omega), Int.toNat_natCast] at st
      refine (leads_ev (finN_sub keepWv [some 3, some 5]) (e_cons gPr_ok e_nil) k_nil noL_ok st).sub (Sub.refl _) ?_
      refine sub_same ⟨Or.inr ⟨36, 1, k + 1, _, _, rfl, rfl, fun q hq => ?_⟩, Or.inr ⟨36, 1, k + 1, _, _, rfl, rfl, fun q hq => ?_⟩, trivial⟩
      · rw [mixC]
        cases hb : Nat.blt q k with
        | true => rfl
        | false =>
          have hge := not_blt hb
          obtain rfl : q = k := by omega
          rfl
      · rw [mixC]
        cases hb : Nat.blt q k with
        | true => rfl
        | false =>
          have hge := not_blt hb
          obtain rfl : q = k := by omega
          rfl
    · refine leads_ev (finE_sub keepWv [some 0, some 1]) (e_cons gPr_ok e_nil) k_nil noL_ok ((wv_end cmul ((2 * h : Nat) : Int) h E O w (pws w h) (h : Nat) h (loW w E O) (hiW w E O)).trans ?_)
      rw [eh, dec_self, cond_false]
  refine h1.sub ?_ ?_
  · exact sub_same ⟨Or.inl rfl, Or.inr ⟨36, 1, 0, _, _, rfl, rfl, fun q hq => absurd hq (Nat.not_lt_zero q)⟩, trivial⟩
  · refine sub_freezeM (k := 1) (e := 36) (sz := 1) (n := h) (el := fun q => [cA (hiW w E O q)]) rfl (fun j row hj => ?_) ⟨rfl, Or.inl rfl, rfl, Or.inl rfl, rfl, Or.inl rfl, rfl, Or.inl rfl, rfl, Or.inl rfl, rfl, Or.inr ⟨rfl, rfl⟩, rfl, Or.inl rfl, rfl, Or.inl rfl, trivial⟩
    match j, hj with
    | 0, hj => exact ⟨_, rfl, Or.inr ⟨by decide, Or.inl (by cases hj; rfl)⟩⟩
    | 1, hj => exact ⟨.dead, rfl, Or.inl ⟨rfl, rfl⟩⟩
    | j + 2, hj => cases hj
theorem apSm_t {h : Nat} (h0 : 0 < h) (hh : h ≤ 1048576) : apSm h = true := by
  unfold apSm
  rw [BEq.rfl, blt_t h0, allB_true fun _ _ => rfl, ble_t (show (h + h) * 16 ≤ 140737488355328 by omega)]
  rfl
/-- THE WAVES. -/
theorem waves_spec (b : Bool) {N : Nat} (hN : N ≤ 1048576) (g : Nat → CX) : ∀ (m s a : Nat), m ≤ 20 → 1 ≤ s → s * 2 ^ m = N → a < s → FSpec Try.prog 18 [sC N g, iA (a : Nat), iA (s : Nat), bA b] (sC (2 ^ m) (wv b m fun i => g (a + s * i)))
  | 0, s, a, _, hs, hm, ha => by
    have e1 : wN N (s : Nat) = 1 := by
      unfold wN
      rw [← hm, Nat.pow_zero, Nat.mul_one, Int.tdiv_self (by omega)]
      rfl
    have e2 : ixB (a : Nat) N = true := ixB_t (by omega)
    have h1 : FSpec Try.prog 18 [sC N g, iA (a : Nat), iA (s : Nat), bA b] (.sl 1 1 fun i => chunk [cA (g a)] 1 (0 + i)) := by
      refine gspec e_nil (k_cons (kno_ok _) k_nil) Try.func18 (by kernel_rfl) (by kernel_rfl) noL_ok rfl ((wv_evN N g (a : Nat) (s : Nat) b).trans ?_)
      unfold wv1
      rw [e1, e2, beq_false_of_ne (show (s : Int) ≠ 0 by omega), Int.toNat_natCast]
      rfl
    refine FSpec.of_res h1 fun E v hv => sl_like hv fun i hi => ?_
    obtain rfl : i = 0 := by omega
    show [cA (g (a + s * 0))] = [cA (g a)]
    rw [Nat.mul_zero, Nat.add_zero]
  | m + 1, s, a, hm20, hs, hm, ha => by
    have e2 : 2 ^ (m + 1) = 2 * 2 ^ m := by rw [Nat.pow_succ]; omega
    have hp0 : 0 < 2 ^ m := Nat.two_pow_pos m
    have hm2 : 2 * s * 2 ^ m = N := by rw [← hm, e2, Nat.mul_comm 2 s, Nat.mul_assoc]
    have hsN : s ≤ N := by rw [← hm]; exact Nat.le_mul_of_pos_right s (by omega)
    have hpN : 2 * 2 ^ m ≤ N := by rw [← hm, e2]; exact Nat.le_mul_of_pos_left _ (by omega)
    have c1 := waves_spec b hN g m (2 * s) a (by omega) (by omega) hm2 (by omega)
    have c2 := waves_spec b hN g m (2 * s) (a + s) (by omega) (by omega) hm2 (by omega)
    have cr := rt_spec (m + 1) (by omega) (by omega)
    have en : wN N (s : Nat) = ((2 * 2 ^ m : Nat) : Int) := by
      unfold wN
      rw [← hm, e2, Int.natCast_mul, Int.mul_tdiv_cancel_left _ (by omega), w64_id (by omega) (by omega)]
    have es2 : w64 (2 * (s : Int)) = ((2 * s : Nat) : Int) := by rw [w64_id (by omega) (by omega)]; omega
    have eas : w64 ((a : Int) + (s : Int)) = ((a + s : Nat) : Int) := by rw [w64_id (by omega) (by omega)]; omega
    let F : Int → Nat → CX := fun a' => wv b m fun i => g (a'.toNat + 2 * s * i)
    let E : Nat → CX := wv b m fun i => g (a + 2 * s * i)
    let O : Nat → CX := wv b m fun i => g (a + s + 2 * s * i)
    have eE : F (a : Nat) = E := by show (wv b m fun i => g (((a : Nat) : Int).toNat + 2 * s * i)) = _; rw [Int.toNat_natCast]
    have eO : F ((a + s : Nat) : Int) = O := by show (wv b m fun i => g ((((a + s : Nat)) : Int).toNat + 2 * s * i)) = _; rw [Int.toNat_natCast]
    have hl := wv_leads (h := 2 ^ m) (by omega) E O (rtB b (m + 1))
    have hL : LOk Try.prog (wvL ((2 * 2 ^ m : Nat) : Int) (2 ^ m) E O (rtB b (m + 1)) (pws (rtB b (m + 1)) (2 ^ m)) ((2 ^ m : Nat) : Int) (loW (rtB b (m + 1)) E O) (hiW (rtB b (m + 1)) E O)) (bodyOf Try.f18) :=
      lok_at 0 1 (by kernel_rfl) (by kernel_rfl) (toldN_sound hl)
    have ev1 : ev Try.prog [] [kS Try.prog 18 (gWv (2 ^ m) F), kS Try.prog 24 (gRt fun _ => rt (m + 1))] (wvL ((2 * 2 ^ m : Nat) : Int) (2 ^ m) E O (rtB b (m + 1)) (pws (rtB b (m + 1)) (2 ^ m)) ((2 ^ m : Nat) : Int) (loW (rtB b (m + 1)) E O) (hiW (rtB b (m + 1)) E O)) Try.f18 [sC N g, iA (a : Nat), iA (s : Nat), bA b] ret =
        wv3 F (fun _ => rt (m + 1)) N g (a : Nat) (s : Nat) (2 ^ m) (loW (rtB b (m + 1)) E O) (hiW (rtB b (m + 1)) E O) b (rtB b (m + 1)) := by
      cases b
      · have := wv_evF F (fun _ => rt (m + 1)) N g (a : Nat) (s : Nat) (2 ^ m) (loW (rtB false (m + 1)) E O) (hiW (rtB false (m + 1)) E O) (pws (rtB false (m + 1)) (2 ^ m)) ((2 ^ m : Nat) : Int)
        rw [en, eas, eE, eO] at this
        exact this
      · have := wv_evB F (fun _ => rt (m + 1)) N g (a : Nat) (s : Nat) (2 ^ m) (loW (rtB true (m + 1)) E O) (hiW (rtB true (m + 1)) E O) (pws (rtB true (m + 1)) (2 ^ m)) ((2 ^ m : Nat) : Int)
        rw [en, eas, eE, eO] at this
        exact this
    have h1 : FSpec Try.prog 18 [sC N g, iA (a : Nat), iA (s : Nat), bA b] (.sl 1 (2 ^ m + 2 ^ m) fun i => mixL (Nat.blt (0 + i) (2 ^ m)) [cA (loW (rtB b (m + 1)) E O (0 + i))] [cA (hiW (rtB b (m + 1)) E O (0 + i - 2 ^ m))]) := by
      refine gspec e_nil (k_cons kS_ok (k_cons kS_ok k_nil)) Try.func18 (by kernel_rfl) (by kernel_rfl) hL rfl (ev1.trans ?_)
      unfold wv3 wv1 wv2 WVok
      rw [en, eas, es2, eE, eO, beq_false_of_ne (show (s : Int) ≠ 0 by omega), beq_false_of_ne (show ((2 * 2 ^ m : Nat) : Int) ≠ 1 by omega), gate_pos c1, gate_pos c2, ← e2, gate_pos cr, gate_pos (Sub.refl _), apSm_t hp0 (by omega)]
      rfl
    have ed : 2 ^ m + 2 ^ m = 2 ^ (m + 1) := by omega
    rw [ed] at h1
    refine FSpec.of_res h1 fun E' v hv => sl_like hv fun i hi => ?_
    rw [mixC, Nat.zero_add]
    have x1 : (fun i => g (a + s * (2 * i))) = fun i => g (a + 2 * s * i) := funext fun i => by rw [← Nat.mul_assoc, Nat.mul_comm s 2]
    have x2 : (fun i => g (a + s * (2 * i + 1))) = fun i => g (a + s + 2 * s * i) := funext fun i => by
      congr 1
      rw [Nat.mul_add, Nat.mul_one, ← Nat.mul_assoc, Nat.mul_comm s 2]; omega
    unfold wv
    rw [x1, x2]
    rfl
end Go.Proofs.Ytldbbajakgaajaa

namespace Go.Ev
open Ieee

/-- The next whole number below. -/
def flr (a : Nat) : Nat := cond (isNan a) nanB (double.write ((double.read a).integral .down))
theorem quiet_pos (t : Nat) : double.quiet t % 4503599627370496 ≠ 0 := fun h => by
  have h1 : (double.quiet t % 2 ^ 52).testBit 51 = true := by
    rw [Nat.testBit_mod_two_pow]
    show (decide (51 < 52) && (t ||| 2 ^ 51).testBit 51) = true
    rw [Nat.testBit_or, Nat.testBit_two_pow_self]
    simp
  have h2 : double.quiet t % 2 ^ 52 = 0 := h
  rw [h2] at h1
  simp at h1
theorem isNan_quiet (s : Bool) (t : Nat) : isNan (double.write (.nan s (double.quiet t))) = true := by
  have h := quiet_pos t
  have hl : double.quiet t % 4503599627370496 < 4503599627370496 := Nat.mod_lt _ (by decide)
  unfold isNan
  rw [read_isNaN]
  show decide (9218868437227405312 < double.word s (double.infRung + double.quiet t % double.binade) % 9223372036854775808) = true
  rw [infR, binadeV]
  generalize double.quiet t % 4503599627370496 = r at h hl
  unfold Format.word
  rw [signW]
  cases s
  · simp only [Bool.false_eq_true, if_false, decide_eq_true_eq]; omega
  · simp only [if_true, decide_eq_true_eq]; omega
theorem isNaN_integral {d : Datum} (w : Toward) (h : d.isNaN = false) : (d.integral w).isNaN = false := by
  cases d with
  | number s m p => rfl
  | infinity s => rfl
  | nan s f => simp [Datum.isNaN] at h
theorem run_floor (P : Program) (w : World) (name : String) (b : Nat) : ∃ r w', (Extern.MathFloor.toIntegral name .down #[.float .f64 b]).run P w = .ok (.float .f64 r) w' ∧ (w' = w ∨ w' = w.drew) ∧ cn r = flr (cn b) := by
  have e : Extern.MathFloor.toIntegral name .down #[.float .f64 b] = (match double.read b with
    | .nan s t => if double.quiet t = t then (pure (.float .f64 b) : Sem Value) else do
      let kept ← choose (.extern "math.Floor,Ceil,Trunc,RoundToEven.signallingNaN kept" 2)
      pure (.float .f64 (if kept == 1 then b else double.write (.nan s (double.quiet t))))
    | d => pure (.float .f64 (double.write (d.integral .down)))) := rfl
  rw [e]
  cases hd : double.read b with
  | nan s t =>
    have hn : isNan b = true := by unfold isNan; rw [hd]; rfl
    have hf : flr (cn b) = nanB := by unfold flr; rw [isNan_cn, hn]; rfl
    rw [hf]
    by_cases hq : double.quiet t = t
    · refine ⟨b, w, ?_, Or.inl rfl, cn_of_nan hn⟩
      simp only [hq, if_true]
      rfl
    · simp only [hq, if_false]
      have key : ∀ c : Nat, cn (if c == 1 then b else double.write (.nan s (double.quiet t))) = nanB := fun c => by
        cases c == 1
        · exact cn_of_nan (isNan_quiet s t)
        · exact cn_of_nan hn
      refine ⟨_, w.drew, ?_, Or.inr rfl, key (Question.cut (.extern "math.Floor,Ceil,Trunc,RoundToEven.signallingNaN kept" 2) (w.tape w.drawn (.extern "math.Floor,Ceil,Trunc,RoundToEven.signallingNaN kept" 2)))⟩
      simp [Question.forced]
  | number s m p =>
    have hn : isNan b = false := by unfold isNan; rw [hd]; rfl
    have h2 : isNan (double.write ((Datum.number s m p).integral .down)) = false := isNan_write rfl
    refine ⟨_, w, rfl, Or.inl rfl, ?_⟩
    unfold flr
    rw [cn_of_not h2, cn_of_not hn, hn, hd]
    rfl
  | infinity s =>
    have hn : isNan b = false := by unfold isNan; rw [hd]; rfl
    have h2 : isNan (double.write ((Datum.infinity s).integral .down)) = false := isNan_write rfl
    refine ⟨_, w, rfl, Or.inl rfl, ?_⟩
    unfold flr
    rw [cn_of_not h2, cn_of_not hn, hn, hd]
    rfl
end Go.Ev
namespace Go.Proofs.Ytldbbajakgaajaa
open Go.Gv
open Go.Ev (flr)

theorem floorX {f : Nat} {fn : Func} {nm : String} (hf : Try.prog.funcs[f]? = some fn) (hname : (fn.name == "runtime.NumGoroutine") = false) (hb : fn.body.isNone = true) (hn : Extern.findNext fn = none)
    (he : Extern.find fn = some (Extern.MathFloor.toIntegral nm .down)) (a : Nat) : XSpec Try.prog f [.f a] (.f (flr a)) := fun E cargs hv => by
  obtain ⟨l⟩ := cargs
  obtain ⟨v, t, e1, h1, h2⟩ := rels_cons.1 hv
  have e2 := rels_nil.1 h2
  obtain ⟨b, rfl, rfl⟩ := rel_f.1 h1
  have e3 : l = [.float .f64 b] := by rw [e2] at e1; exact e1
  subst e3
  obtain ⟨r, w', g1, g2, g3⟩ := Go.Ev.run_floor Try.prog E.w nm b
  refine ⟨.float .f64 r, w', ?_, g2, rel_f.2 ⟨r, rfl, g3⟩⟩
  rw [run_callFunc_extern hf hname hb hn he, g1]
  rfl
def gFl (h : Nat → Nat) : List AV → Option AV
  | [.f a] => some (.f (h a))
  | _ => none
theorem gFl0_ok : EOk Try.prog ⟨22, gFl flr⟩ := fun args r hr => by
  simp only [gFl] at hr
  split at hr
  · cases hr; exact Or.inr (floorX (nm := "math.archFloor") Try.func22 (by kernel_rfl) rfl (by kernel_rfl) (by kernel_rfl) _)
  · cases hr
theorem fl_ev (h : Nat → Nat) (a : Nat) : ev Try.prog [⟨22, gFl h⟩] [] noL Try.f17 [.f a] ret = some (Out.of (.f (h a))) := by kernel_rfl
theorem gFl_ok : EOk Try.prog ⟨17, gFl flr⟩ := fun args r hr => by
  simp only [gFl] at hr
  split at hr
  · cases hr; exact Or.inl (gspec (e_cons gFl0_ok e_nil) k_nil Try.func17 (by kernel_rfl) (by kernel_rfl) noL_ok rfl (fl_ev flr _))
  · cases hr
end Go.Proofs.Ytldbbajakgaajaa

namespace Go.Proofs.Ytldbbajakgaajaa
open Go.Gv
open Go.Ev (fadd fdiv cn CX cmul cadd csub one64 flr)

def toC (x : Int) : CX := (cn (FloatKind.f64.nearest x), 0)
def vB (x y : Int) : Bool := cond (cond (cond (decide (x < 0)) true (decide (x > 255))) true (decide (y < 0))) true (decide (y > 255))
def gB (b : Bool) (i : Int) (n : Nat) : Bool := ixB i n || !(decide (b = false) && true)
def rdS (n : Nat) (g h : Nat → Int) (i : Int) (c : Nat) (A B : Nat → CX) : St := mkS 142 [(0, sI n g), (1, sI n h), (6, iA (n : Nat)), (7, .osl 0 1 0 c), (8, .osl 1 1 0 c), (9, iA i)] [.a 36 1 c fun q => [cA (A q)], .a 36 1 c fun q => [cA (B q)]]
def rdE : St := mkS 142 [(4, .x (.slice none 0 0)), (5, iA 6)] []
def keepRd : List Nat := [0, 1, 6, 7, 8, 9]
section
variable (n : Nat) (g h : Nat → Int) (i : Int) (c : Nat) (A B : Nat → CX)
def rdC (n : Nat) (i : Int) (c : Nat) (x y : Int) (bad good fin : Option Out) : Option Out := cond (decide (i < (n : Int))) (cond (ixB i n || false) (cond (gB (decide (x < 0)) i n) (cond (gB (cond (decide (x < 0)) true (decide (x > 255))) i n) (cond (gB (cond (cond (decide (x < 0)) true (decide (x > 255))) true (decide (y < 0))) i n) (cond (vB x y) bad
  (cond (ixB i n || false) (cond (apB c 16 || false) (cond (ixB i n || false) (cond (apB c 16 || false) good none) none) none) none)) none) none) none) none) fin
def rdN : St := mkS 142 [(0, sI n g), (1, sI n h), (6, iA (n : Nat)), (7, .osl 0 1 0 (c + 1)), (8, .osl 1 1 0 (c + 1)), (9, iA (w64 (i + 1)))] [.a 36 1 (c + 1) fun q => mixL (Nat.blt q c) [cA (A q)] [cA (toC (g i.toNat))], .a 36 1 (c + 1) fun q => mixL (Nat.blt q c) [cA (B q)] [cA (toC (h i.toNat))]]
theorem rd_step : evC Try.prog [] [] noL (loopAt Try.f6 0) (rdS n g h i c A B) (finN keepRd [some 3, some 5]) = rdC n i c (g i.toNat) (h i.toNat) none (some ⟨.normal, rdN n g h i c A B, .any⟩) none := by kernel_rfl
theorem rd_ret : evC Try.prog [] [] noL (loopAt Try.f6 0) (rdS n g h i c A B) (finR [4, 5] []) = rdC n i c (g i.toNat) (h i.toNat) (some ⟨.ret, rdE, .any⟩) none none := by kernel_rfl
theorem rd_end : evC Try.prog [] [] noL (loopAt Try.f6 0) (rdS n g h i c A B) (finE keepRd [some 0, some 1]) = rdC n i c (g i.toNat) (h i.toNat) none none (some ⟨.exit 0, rdS n g h i c A B, .any⟩) := by kernel_rfl
end
def r2S (n : Nat) (A B : Nat → CX) (i : Int) (c : Nat) (C : Nat → CX) : St := mkS 142 [(6, iA (n : Nat)), (7, sC n A), (8, sC n B), (10, .osl 0 1 0 c), (11, iA i)] [.a 36 1 c fun q => [cA (C q)]]
def keepR2 : List Nat := [6, 7, 8, 10, 11]
section
variable (pf : CX → CX → CX) (n : Nat) (A B : Nat → CX) (i : Int) (c : Nat) (C : Nat → CX)
def r2B : Bool := (ixB i n || false) && ((ixB i n || false) && ((apB c 16 || false) && true))
def r2N : St := mkS 142 [(6, iA (n : Nat)), (7, sC n A), (8, sC n B), (10, .osl 0 1 0 (c + 1)), (11, iA (w64 (i + 1)))] [.a 36 1 (c + 1) fun q => mixL (Nat.blt q c) [cA (C q)] [cA (pf (A i.toNat) (B i.toNat))]]
theorem r2_step : evC Try.prog [⟨19, gC2 pf⟩] [] noL (loopAt Try.f6 1) (r2S n A B i c C) (finN keepR2 [some 2]) =
    cond (decide (i < (n : Int))) (cond (r2B n i c) (some ⟨.normal, r2N pf n A B i c C, .any⟩) none) none := by kernel_rfl
theorem r2_end : evC Try.prog [⟨19, gC2 pf⟩] [] noL (loopAt Try.f6 1) (r2S n A B i c C) (finE keepR2 [some 0]) =
    cond (decide (i < (n : Int))) (cond (r2B n i c) none none) (some ⟨.exit 2, r2S n A B i c C, .any⟩) := by kernel_rfl
end
def r3S (n : Nat) (C : Nat → CX) (i : Int) (c : Nat) (Z : Nat → Int) : St := mkS 142 [(6, iA (n : Nat)), (10, sC n C), (12, .osl 0 1 0 c), (13, iA i)] [.a 3 1 c fun q => [iA (Z q)]]
def keepR3 : List Nat := [6, 10, 12, 13]
def rdX (n : Nat) (z : CX) : Nat := fadd (fdiv z.1 (cn (FloatKind.f64.nearest (n : Nat)))) 4602678819172646912
section
variable (fl : Nat → Nat) (n : Nat) (C : Nat → CX) (i : Int) (c : Nat) (Z : Nat → Int)
def r3N : St := mkS 142 [(6, iA (n : Nat)), (10, sC n C), (12, .osl 0 1 0 (c + 1)), (13, iA (w64 (i + 1)))] [.a 3 1 (c + 1) fun q => mixL (Nat.blt q c) [iA (Z q)] [iA (f2i .i64 (fl (rdX n (C i.toNat))))]]
theorem r3_step : evC Try.prog [⟨17, gFl fl⟩] [] noL (loopAt Try.f6 2) (r3S n C i c Z) (finN keepR3 [some 2]) =
    cond (decide (i < (n : Int))) (cond (ixB i n || false) (cond (fitI .i64 (fl (rdX n (C i.toNat))) || false) (cond (apB c 8 || false) (some ⟨.normal, r3N fl n C i c Z, .any⟩) none) none) none) none := by kernel_rfl
theorem r3_end : evC Try.prog [⟨17, gFl fl⟩] [] noL (loopAt Try.f6 2) (r3S n C i c Z) (finE keepR3 [some 0]) =
    cond (decide (i < (n : Int))) (cond (ixB i n || false) (cond (fitI .i64 (fl (rdX n (C i.toNat))) || false) (cond (apB c 8 || false) none none) none) none) (some ⟨.exit 4, r3S n C i c Z, .any⟩) := by kernel_rfl
end
end Go.Proofs.Ytldbbajakgaajaa

namespace Go.Proofs.Ytldbbajakgaajaa
open Go.Gv
open Go.Ev (fadd fdiv cn CX cmul cadd csub one64 flr)

def cntB (n : Int) : Bool := cond (cond (cond (cond (cond (cond (!(n == 1)) (!(n == 2)) false) (!(n == 4)) false) (!(n == 8)) false) (!(n == 16)) false) (!(n == 32)) false) (!(n == 64)) false
def rdCnt (n n' : Nat) : Bool := cond (!((n : Int) == (n' : Int))) true (cntB (n : Int))
def rBad (e : Int) : Option Out := some (Out.of (.tup [.x (.slice none 0 0), iA e]))
def rdZ (n : Nat) (g h : Nat → Int) (A B : Nat → CX) : St := mkS 142 [(0, sI n g), (1, sI n h), (6, iA (n : Nat)), (7, sC n A), (8, sC n B), (9, iA (n : Nat))] [.dead, .dead]
def r2Z (n : Nat) (A B C : Nat → CX) : St := mkS 142 [(6, iA (n : Nat)), (7, sC n A), (8, sC n B), (10, sC n C), (11, iA (n : Nat))] [.dead]
abbrev WB : Type := Bool → (Nat → List AV) → Nat → CX
def gW (W : WB) : List AV → AV
  | [.sl _ n el, _, _, .x (.bool b)] => sC n (W b el)
  | _ => .any
abbrev WRok (W : WB) (b : Bool) (n : Nat) (A : Nat → CX) : Prop := FSpec Try.prog 18 [sC n A, iA 0, iA 1, bA b] (sC n (W b fun q => [cA (A q)]))
def thrL (i : Nat) (g : LFun) (i' : Nat) (g' : LFun) (i'' : Nat) (g'' : LFun) : Nat → Option LFun := fun j => cond (Nat.beq j i) (some g) (twoL i' g' i'' g'' j)
section
variable (W : WB) (n n' : Nat) (g h : Nat → Int) (A B C : Nat → CX) (Z : Nat → Int)
theorem rd_ev0 : ev Try.prog [] [⟨18, fun _ _ => none⟩] (oneL 7 fun _ _ => none) Try.f6 [sI n g, sI n' h] ret = cond (rdCnt n n') (rBad 5) none := by kernel_rfl
noncomputable def rdL1 : LFun := toldN keepRd [(7, 0, 1), (8, 1, 1)] (.a 36 1 0 fun q => [cA (A q)]) [none, none] (rdS n g h 0 0 A A) (.exit 0) (rdZ n g h A B)
noncomputable def rdL1r : LFun := toldN keepRd [(7, 0, 1), (8, 1, 1)] (.a 36 1 0 fun q => [cA (A q)]) [none, none] (rdS n g h 0 0 A A) .ret rdE
noncomputable def rdL2 (A B : Nat → CX) : LFun := toldN keepR2 [(10, 0, 1)] (.a 36 1 0 fun q => [cA (C q)]) [none] (r2S n A B 0 0 C) (.exit 2) (r2Z n A B C)
noncomputable def rdL3 (C : Nat → CX) : LFun := toldN keepR3 [(12, 0, 1)] (.a 3 1 0 fun q => [iA (Z q)]) [none] (r3S n C 0 0 Z) (.exit 4) (r3S n C (n : Nat) n Z)
theorem rd_evR : ev Try.prog [] [⟨18, fun _ _ => none⟩] (oneL 7 (rdL1r n g h A)) Try.f6 [sI n g, sI n h] ret = cond (rdCnt n n) (rBad 5) (gate (Sub (rdS n g h 0 0 A A) (rdS n g h 0 0 A A)) (rBad 6)) := by kernel_rfl
def wA : Nat → CX := W false fun q => [cA (A q)]
def wC : Nat → CX := W true fun q => [cA (C q)]
theorem rd_evG : ev Try.prog [] [kS Try.prog 18 (gW W)] (thrL 7 (rdL1 n g h A B) 17 (rdL2 n C (wA W A) (wA W B)) 23 (rdL3 n Z (wC W C))) Try.f6 [sI n g, sI n h] ret =
    cond (rdCnt n n) (rBad 5) (gate (Sub (rdS n g h 0 0 A A) (rdS n g h 0 0 A A)) (gate (WRok W false n A) (gate (WRok W false n B) (gate (Sub (r2S n (wA W A) (wA W B) 0 0 C) (r2S n (wA W A) (wA W B) 0 0 C))
      (gate (WRok W true n C) (gate (Sub (r3S n (wC W C) 0 0 Z) (r3S n (wC W C) 0 0 Z)) (some (Out.of (.tup [.sl 1 n fun i => [iA (Z (0 + i))], iA 0]))))))))) := by kernel_rfl
end
end Go.Proofs.Ytldbbajakgaajaa

namespace Go.Ev
open Ieee

theorem low_of {l g z : Nat} {v : Int} (hl : 52 ≤ l) (hg : 0 < g) (hz : key z = KR v g) (f : isFin z = true) (h : 2 ^ l * g ≤ v.natAbs) : 2 ^ l ≤ (val z).natAbs := by
  rw [val_abs, ← rv_pw hl]
  refine rv_le ?_
  have fz := isFin_lt f
  rw [← key_abs, hz] at fz
  have cap : rq 52 v.natAbs g < 9218868437227405312 := by
    unfold KR at fz
    cases hd : decide (v < 0)
    · rw [hd, cond_false, Int.natAbs_natCast] at fz; omega
    · rw [hd, cond_true, Int.natAbs_neg, Int.natAbs_natCast] at fz; omega
  rw [← key_abs, hz, KR_big cap]
  have e := rq_mul 52 (2 ^ l) 1 hg
  rw [Nat.one_mul, ← rv_pw hl, rq_rv] at e
  rw [← e, rv_pw hl]
  exact rq_mono1 52 h
theorem val_div0 {c x y : Nat} (hc : c = 1074) (hx : isFin x = true) (hy : isFin y = true) (h0 : val y ≠ 0) (h : val x = 0) : val (fdiv x y) = 0 := by
  have k := (key_div hc hx hy h0).1
  rw [h, Int.zero_mul, Int.zero_mul, KR_zero (by omega)] at k
  exact val_zero.2 (by have := key_abs (fdiv x y); omega)
/-- A quotient: at most 2^(n + c - k), and, where it isn't nought, at least 2^(k' + c - n'). -/
theorem bd_div2 {c n k l x y : Nat} (hc : c = 1074) (hx : Bd n x) (hn : 52 ≤ n) (hn' : n ≤ 2097) (hy : Gr k y) (fy : isFin y = true) (h0 : val y ≠ 0) (hl : l + k = n + c) (hl2 : 52 ≤ l) : Bd l (fdiv x y) := by
  refine bd_of (key_div hc (hx.fin hn') fy h0).1 (by omega) ?_ hl2
  rw [Int.natAbs_mul, Int.natAbs_mul]
  have e : (sg (val y)).natAbs = 1 := by unfold sg; cases decide (val y < 0) <;> rfl
  rw [e, Nat.mul_one, Int.natAbs_natCast]
  refine Nat.le_trans (Nat.mul_le_mul_right _ (hx.val hn)) ?_
  rw [← Nat.pow_add, ← hl, Nat.pow_add]
  exact Nat.mul_le_mul_left _ (hy.low h0)
theorem gr_div {c n k l x y : Nat} (hc : c = 1074) (hx : Gr k x) (fx : isFin x = true) (hy : Bd n y) (hn : 52 ≤ n) (hn' : n ≤ 2097) (h0 : val y ≠ 0) (hl : l + n = k + c) (hl2 : 52 ≤ l) (f : isFin (fdiv x y) = true) : Gr (l - 52) (fdiv x y) ∧ (val x ≠ 0 → 2 ^ 52 ≤ (val x).natAbs * 2 ^ c / (val y).natAbs) := by
  have big : val x ≠ 0 → 2 ^ l * (val y).natAbs ≤ (val x).natAbs * 2 ^ c := fun hv => by
    refine Nat.le_trans (Nat.mul_le_mul_left _ (hy.val hn)) ?_
    rw [← Nat.pow_add, hl, Nat.pow_add]
    exact Nat.mul_le_mul_right _ (hx.low hv)
  have hp : 0 < (val y).natAbs := by omega
  constructor
  · refine gr_low hl2 ?_
    by_cases hv : val x = 0
    · exact Or.inr (val_div0 hc fx (hy.fin hn') h0 hv)
    · left
      refine low_of hl2 hp (key_div hc fx (hy.fin hn') h0).1 f ?_
      rw [Int.natAbs_mul, Int.natAbs_mul]
      have e : (sg (val y)).natAbs = 1 := by unfold sg; cases decide (val y < 0) <;> rfl
      rw [e, Nat.mul_one, Int.natAbs_natCast]
      exact big hv
  · intro hv
    rw [Nat.le_div_iff_mul_le hp]
    exact Nat.le_trans (Nat.mul_le_mul_right _ (pow_le_pow' hl2)) (big hv)

/-! ### Roots -/
theorem rootFrom_lt (n : Nat) : ∀ (k x : Nat), Datum.rootFrom n k x < x + 2 ^ k
  | 0, x => by rw [Datum.rootFrom.eq_1, Nat.pow_zero]; omega
  | k + 1, x => by
    rw [Datum.rootFrom.eq_2, Nat.shiftLeft_eq, Nat.one_mul]
    have p := Nat.two_pow_pos k
    split
    · have := rootFrom_lt n k (x + 2 ^ k)
      rw [Nat.pow_succ]; omega
    · have := rootFrom_lt n k x
      rw [Nat.pow_succ]; omega
theorem rootW_lt (m : Nat) (i : Int) : rootW m i < 2 ^ ((rootM m i).log2 / 2 + 2) := by
  unfold rootW
  have h := rootFrom_lt (rootM m i) ((rootM m i).log2 / 2 + 1) 0
  rw [Nat.zero_add] at h
  rw [show (rootM m i).log2 / 2 + 2 = ((rootM m i).log2 / 2 + 1) + 1 by omega, Nat.pow_succ]
  generalize Datum.rootFrom (rootM m i) ((rootM m i).log2 / 2 + 1) 0 = w at *
  have hb := toNat_le_one (w * w != rootM m i)
  generalize (w * w != rootM m i).toNat = s at hb
  generalize 2 ^ ((rootM m i).log2 / 2 + 1) = p at *
  omega
theorem rootM_log {m : Nat} (hm : m ≠ 0) (i : Int) : (rootM m i).log2 = m.log2 + (108 - m.log2 + ((i - ((108 - m.log2 : Nat) : Int)) % 2).toNat) := by
  unfold rootM; exact log2_shl _ hm
/-- A root: at most about half the power. -/
theorem root_size {m : Nat} (hm : m ≠ 0) (i : Int) : (((rootM m i).log2 / 2 + 2 : Nat) : Int) + rootE m i ≤ ((m.log2 : Int) + i) / 2 + 1 := by
  rw [rootM_log hm]
  unfold rootE
  have hq : ((i - ((108 - m.log2 : Nat) : Int)) % 2).toNat = ((i - ((108 - m.log2 : Nat) : Int)) % 2) := by omega
  generalize hqq : ((i - ((108 - m.log2 : Nat) : Int)) % 2).toNat = q at *
  generalize 108 - m.log2 = t at *
  generalize m.log2 = L at *
  omega
theorem nearest_bd {s : Bool} {m n u : Nat} {p : Int} (hp : p + 1074 = (u : Int)) (h : m * 2 ^ u ≤ 2 ^ n) (hn : 52 ≤ n) : Bd n (double.nearest s m p) := by
  have e := nearest_rq s m u 0 p (by omega)
  unfold Bd
  rw [e, infR, rung_word s (Nat.min_le_right _ _), Nat.pow_zero]
  refine Nat.le_trans (Nat.min_le_left _ _) (Nat.le_trans (rq_mono1 52 h) ?_)
  rw [← rv_pw hn, rq_rv]
  exact Nat.le_refl _
theorem bd_sqrt {n k x : Nat} (hx : Bd n x) (hn : 52 ≤ n) (hn' : n ≤ 2097) (hs : rung x = 0 ∨ sgn x = false) (hk : n + 1076 ≤ 2 * k) (hk2 : 700 ≤ k) : Bd k (fsqrt x) := by
  have fx := hx.fin hn'
  obtain ⟨m, i, hr, hi, _, hv⟩ := read_fin fx
  by_cases m0 : m = 0
  · subst m0
    have e : fsqrt x = double.word (sgn x) 0 := by
      unfold fsqrt Format.sqrt
      rw [hr]
      simp only [Datum.root, if_true, Option.map_some, Option.getD_some, Format.write, nearest_zero]
    unfold Bd
    rw [e, rung_word _ (by decide)]
    exact Nat.zero_le _
  · have hs' : sgn x = false := by
      rcases hs with e | e
      · rw [e, rv_zero] at hv
        have := Nat.mul_ne_zero m0 (Nat.ne_of_gt (Nat.two_pow_pos (i + 1074).toNat))
        omega
      · exact e
    rw [hs'] at hr
    rw [fsqrt_text hr m0]
    have hlow := rootE_low m hi
    have hsz := root_size m0 i
    have hW := rootW_lt m i
    have hL : (m.log2 : Int) + i + 1074 ≤ n := by
      have h1 := hx.val hn
      rw [val_abs, hv] at h1
      have h2 := Nat.log2_self_le m0
      have h3 : 2 ^ (m.log2 + (i + 1074).toNat) ≤ 2 ^ n := by
        rw [Nat.pow_add]; exact Nat.le_trans (Nat.mul_le_mul_right _ h2) h1
      have h4 := (Nat.pow_le_pow_iff_right (by decide)).1 h3
      omega
    generalize rootE m i = E at *
    refine nearest_bd (u := (E + 1074).toNat) (by omega) ?_ (by omega)
    refine Nat.le_trans (Nat.mul_le_mul_right _ (Nat.le_of_lt hW)) ?_
    rw [← Nat.pow_add]
    exact pow_le_pow' (by omega)
/-- A root that isn't nought is not small. -/
theorem gr_sqrt {n x : Nat} (hn : n = 452) (fx : isFin x = true) (hs : rung x = 0 ∨ sgn x = false) (f : isFin (fsqrt x) = true) : Gr (n - 52) (fsqrt x) := by
  obtain ⟨m, i, hr, hi, _, hv⟩ := read_fin fx
  refine gr_low (n := n) (by omega) ?_
  by_cases m0 : m = 0
  · right
    subst m0
    have e : fsqrt x = double.word (sgn x) 0 := by
      unfold fsqrt Format.sqrt
      rw [hr]
      simp only [Datum.root, if_true, Option.map_some, Option.getD_some, Format.write, nearest_zero]
    rw [e]
    exact val_zero.2 (rung_word _ (by decide))
  · left
    have hs' : sgn x = false := by
      rcases hs with e | e
      · rw [e, rv_zero] at hv
        have := Nat.mul_ne_zero m0 (Nat.ne_of_gt (Nat.two_pow_pos (i + 1074).toNat))
        omega
      · exact e
    rw [hs'] at hr
    rw [fsqrt_text hr m0] at f ⊢
    have hlow := rootE_low m hi
    have hw := rootW_pos m0 i
    generalize rootE m i = E at *
    generalize rootW m i = W at *
    have e := nearest_rq false W (E + 1074).toNat 0 E (by omega)
    have fz := isFin_lt f
    rw [e, infR, rung_word _ (Nat.min_le_right _ _), Nat.pow_zero] at fz
    rw [val_abs, e, infR, rung_word _ (Nat.min_le_right _ _), Nat.pow_zero, Nat.min_eq_left (by omega), ← rv_pw (n := n) (by omega)]
    refine rv_le ?_
    have hb : 2 ^ n ≤ W * 2 ^ (E + 1074).toNat := Nat.le_trans (pow_le_pow' (show n ≤ (E + 1074).toNat by omega)) (Nat.le_mul_of_pos_left _ hw)
    have h2 := rq_mono1 52 (g := 1) hb
    rw [← rv_pw (n := n) (by omega), rq_rv] at h2
    exact h2
end Go.Ev

namespace Go.Ev
open Ieee

def VB (a j x : Nat) : Prop := isFin x = true ∧ (val x).natAbs ≤ a * 2 ^ j
theorem VB.more {a j a' x : Nat} (h : VB a j x) (ha : a ≤ a') : VB a' j x := ⟨h.1, Nat.le_trans h.2 (Nat.mul_le_mul_right _ ha)⟩
theorem VB.up {a j k x : Nat} (h : VB a j x) (hk : a ≤ 2 ^ k) : VB 1 (j + k) x := ⟨h.1, Nat.le_trans h.2 (by rw [Nat.one_mul, Nat.pow_add, Nat.mul_comm]; exact Nat.mul_le_mul_left _ hk)⟩
theorem vb_of {z g a j : Nat} {v : Int} (hz : key z = KR v g) (hg : 0 < g) (hv : v.natAbs ≤ a * 2 ^ j * g) (ha : a ≠ 0) (ha' : a < 2 ^ 53) (hj : 52 ≤ j) (hj' : j ≤ 2000) : VB a j z := by
  have h1 : rung z ≤ rq 52 (a * 2 ^ j) 1 := by
    rw [← key_abs, hz]
    exact Nat.le_trans (KR_abs v g) (rq_mono 52 hg (by decide) (by rw [Nat.mul_one]; exact hv))
  constructor
  · have h2 : rq 52 (a * 2 ^ j) 1 ≤ pw (53 + j) := by
      refine Nat.le_trans (rq_mono1 52 (Nat.mul_le_mul_right _ (Nat.le_of_lt ha'))) ?_
      rw [← Nat.pow_add, ← rv_pw (by omega), rq_rv]
      exact Nat.le_refl _
    have h3 : Bd (53 + j) z := Nat.le_trans h1 h2
    exact h3.fin (by omega)
  · rw [val_abs]
    have h4 := rv_le h1
    rw [wh_rv hj ha ha'] at h4
    exact h4
theorem vb_zero (a j : Nat) : VB a j 0 := ⟨by decide +kernel, by
  have : val 0 = 0 := val_zero.2 (by decide)
  rw [this]; exact Nat.zero_le _⟩
section
variable {c x y a b i j : Nat} (hc : c = 1074)
theorem vb_add (hx : VB a j x) (hy : VB b j y) (h0 : a + b ≠ 0) (h : a + b < 2 ^ 53) (hj : 52 ≤ j) (hj' : j ≤ 2000) : VB (a + b) j (fadd x y) := by
  refine vb_of (key_add hx.1 hy.1).1 (by decide) ?_ h0 h hj hj'
  have h1 := hx.2
  have h2 := hy.2
  rw [Nat.mul_one, Nat.add_mul]
  generalize a * 2 ^ j = A at *
  generalize b * 2 ^ j = B at *
  omega
theorem vb_sub (hx : VB a j x) (hy : VB b j y) (h0 : a + b ≠ 0) (h : a + b < 2 ^ 53) (hj : 52 ≤ j) (hj' : j ≤ 2000) : VB (a + b) j (fsub x y) := by
  refine vb_of (key_sub hx.1 hy.1).1 (by decide) ?_ h0 h hj hj'
  have h1 := hx.2
  have h2 := hy.2
  rw [Nat.mul_one, Nat.add_mul]
  generalize a * 2 ^ j = A at *
  generalize b * 2 ^ j = B at *
  omega
include hc
theorem vb_mul {k : Nat} (hx : VB a i x) (hy : VB 1 j y) (hk : k + c = i + j) (h0 : a ≠ 0) (h : a < 2 ^ 53) (hj : 52 ≤ k) (hj' : k ≤ 2000) : VB a k (fmul x y) := by
  refine vb_of (key_mul hc hx.1 hy.1).1 (Nat.two_pow_pos _) ?_ h0 h hj hj'
  rw [Int.natAbs_mul, Nat.mul_assoc, ← Nat.pow_add, hk, Nat.pow_add, ← Nat.mul_assoc]
  have := hy.2
  rw [Nat.one_mul] at this
  exact Nat.mul_le_mul hx.2 this
end
structure PB (c : Nat) (p : CX) (a b : Nat) : Prop where
  re : VB a (c - 3) p.1
  im : VB b (c - 3) p.2
  sum : a + b ≤ 16
  ne : a ≠ 0 ∧ b ≠ 0
structure CB (j : Nat) (z : CX) : Prop where
  re : VB 1 j z.1
  im : VB 1 j z.2
theorem cb_q {c j a b : Nat} {p o : CX} (hc : c = 1074) (hp : PB c p a b) (ho : CB j o) (hj : 60 ≤ j) (hj' : j ≤ 2000) : VB 16 (j - 3) (cmul p o).1 ∧ VB 16 (j - 3) (cmul p o).2 := by
  have hs := hp.sum
  have hn := hp.ne
  have e : (j - 3) + c = (c - 3) + j := by omega
  constructor
  · exact (vb_sub (vb_mul hc hp.re ho.re e hn.1 (by omega) (by omega) (by omega)) (vb_mul hc hp.im ho.im e hn.2 (by omega) (by omega) (by omega)) (by omega) (by omega) (by omega) (by omega)).more hs
  · exact (vb_add (vb_mul hc hp.re ho.im e hn.1 (by omega) (by omega) (by omega)) (vb_mul hc hp.im ho.re e hn.2 (by omega) (by omega) (by omega)) (by omega) (by omega) (by omega) (by omega)).more hs
theorem vb_8 {j x : Nat} (hj : 3 ≤ j) (h : VB 1 j x) : VB 8 (j - 3) x := ⟨h.1, by
  have h2 := h.2
  rw [Nat.one_mul] at h2
  have e : 2 ^ j = 8 * 2 ^ (j - 3) := by rw [show j = 3 + (j - 3) by omega, Nat.pow_add, show 3 + (j - 3) - 3 = j - 3 by omega]
  rw [← e]; exact h2⟩
theorem vb_24 {j x : Nat} (hj : 3 ≤ j) (h : VB 24 (j - 3) x) : VB 1 (j + 2) x := by
  have := h.up (k := 5) (by decide)
  rwa [show j - 3 + 5 = j + 2 by omega] at this
theorem cb_add {c j a b : Nat} {p o e : CX} (hc : c = 1074) (hp : PB c p a b) (ho : CB j o) (he : CB j e) (hj : 60 ≤ j) (hj' : j ≤ 2000) : CB (j + 2) (cadd e (cmul p o)) ∧ CB (j + 2) (csub e (cmul p o)) := by
  obtain ⟨q1, q2⟩ := cb_q hc hp ho hj hj'
  have e1 := vb_8 (by omega) he.re
  have e2 := vb_8 (by omega) he.im
  exact ⟨⟨vb_24 (by omega) (vb_add e1 q1 (by omega) (by omega) (by omega) (by omega)), vb_24 (by omega) (vb_add e2 q2 (by omega) (by omega) (by omega) (by omega))⟩,
    ⟨vb_24 (by omega) (vb_sub e1 q1 (by omega) (by omega) (by omega) (by omega)), vb_24 (by omega) (vb_sub e2 q2 (by omega) (by omega) (by omega) (by omega))⟩⟩
/-! ### The powers of the roots -/
def rungB (r : Nat) (x : Nat) : Bool := Nat.ble (rung x) r
def pchk (p : CX) : Bool := (rungB 4607182418800017408 p.1 && rungB 4607182418800017408 p.2) || ((rungB 4609434218613702656 p.1 && rungB 4602678819172646912 p.2) || (rungB 4602678819172646912 p.1 && rungB 4609434218613702656 p.2))
theorem vb_rung {c x r a : Nat} (hr : r < 9218868437227405312) (hv : rv 52 r = a * 2 ^ (c - 3)) (h : rungB r x = true) : VB a (c - 3) x := by
  have h1 : rung x ≤ r := Nat.le_of_ble_eq_true h
  refine ⟨?_, ?_⟩
  · unfold isFin
    exact Nat.ble_eq_true_of_le (by omega)
  · rw [val_abs, ← hv]; exact rv_le h1
theorem rv_a {c : Nat} (hc : c = 1074) : rv 52 4607182418800017408 = 8 * 2 ^ (c - 3) ∧ rv 52 4609434218613702656 = 12 * 2 ^ (c - 3) ∧ rv 52 4602678819172646912 = 4 * 2 ^ (c - 3) := by
  have e : 2 ^ (c - 3) = 2 ^ 49 * 2 ^ (c - 52) := by rw [← Nat.pow_add]; congr 1; omega
  have e2 : 2 ^ (c - 52) = 2 * 2 ^ (c - 53) := by rw [show c - 52 = 1 + (c - 53) by omega, Nat.pow_add]
  rw [e]
  refine ⟨?_, ?_, ?_⟩
  · rw [rv_high (by decide), show 4607182418800017408 / 4503599627370496 - 1 = c - 52 by omega]
    generalize 2 ^ (c - 52) = P
    omega
  · rw [rv_high (by decide), show 4609434218613702656 / 4503599627370496 - 1 = c - 52 by omega]
    generalize 2 ^ (c - 52) = P
    omega
  · rw [rv_high (by decide), show 4602678819172646912 / 4503599627370496 - 1 = c - 53 by omega, e2]
    generalize 2 ^ (c - 53) = P
    omega
theorem pb_of {c : Nat} (hc : c = 1074) {p : CX} (h : pchk p = true) : ∃ a b, PB c p a b := by
  obtain ⟨r8, r12, r4⟩ := rv_a hc
  unfold pchk at h
  simp only [Bool.or_eq_true, Bool.and_eq_true] at h
  rcases h with ⟨h1, h2⟩ | ⟨h1, h2⟩ | ⟨h1, h2⟩
  · exact ⟨8, 8, vb_rung (by decide) r8 h1, vb_rung (by decide) r8 h2, by decide, by decide⟩
  · exact ⟨12, 4, vb_rung (by decide) r12 h1, vb_rung (by decide) r4 h2, by decide, by decide⟩
  · exact ⟨4, 12, vb_rung (by decide) r4 h1, vb_rung (by decide) r12 h2, by decide, by decide⟩
/-- All of them, gone through. -/
def pall (w : CX) : Nat → CX → Bool
  | 0, _ => true
  | k + 1, p => pchk p && pall w k (cmul p w)
theorem pall_at {w : CX} : ∀ {n : Nat} {q : Nat}, pall w n (pws w q) = true → ∀ k, k < n → pchk (pws w (q + k)) = true
  | 0, _, _, k, hk => absurd hk (Nat.not_lt_zero k)
  | n + 1, q, h, k, hk => by
    unfold pall at h
    simp only [Bool.and_eq_true] at h
    match k with
    | 0 => exact h.1
    | k + 1 =>
      have := pall_at (q := q + 1) h.2 k (by omega)
      rwa [show q + 1 + k = q + (k + 1) by omega] at this
theorem pall_true : ∀ b m, m < 6 → pall (rtB b (m + 1)) (2 ^ m) (one64, 0) = true := by
  intro b m hm
  rcases (by omega : m = 0 ∨ m = 1 ∨ m = 2 ∨ m = 3 ∨ m = 4 ∨ m = 5) with rfl | rfl | rfl | rfl | rfl | rfl <;> cases b <;> decide +kernel
theorem cb_wv {c : Nat} (hc : c = 1074) (b : Bool) : ∀ m, m ≤ 6 → ∀ (j : Nat) (x : Nat → CX), 60 ≤ j → j + 2 * m ≤ 2000 → (∀ i, i < 2 ^ m → CB j (x i)) → ∀ k, k < 2 ^ m → CB (j + 2 * m) (wv b m x k)
  | 0, _, j, x, _, _, h, k, hk => h k hk
  | m + 1, hm, j, x, hj, hj', h, k, hk => by
    have e : 2 ^ (m + 1) = 2 * 2 ^ m := by rw [Nat.pow_succ]; omega
    have h1 := cb_wv hc b m (by omega) j (fun i => x (2 * i)) hj (by omega) fun i hi => h _ (by omega)
    have h2 := cb_wv hc b m (by omega) j (fun i => x (2 * i + 1)) hj (by omega) fun i hi => h _ (by omega)
    have hp := pall_true b m (by omega)
    rw [show j + 2 * (m + 1) = j + 2 * m + 2 by omega]
    unfold wv
    cases hb : Nat.blt k (2 ^ m) with
    | true =>
      have hl : k < 2 ^ m := Nat.le_of_ble_eq_true hb
      have hk2 := pall_at (w := rtB b (m + 1)) (q := 0) hp k hl
      rw [Nat.zero_add] at hk2
      obtain ⟨u, v, hpb⟩ := pb_of hc hk2
      rw [cond_true]
      exact (cb_add hc hpb (h2 k hl) (h1 k hl) (by omega) (by omega)).1
    | false =>
      have hl : k - 2 ^ m < 2 ^ m := by omega
      have hk2 := pall_at (w := rtB b (m + 1)) (q := 0) hp _ hl
      rw [Nat.zero_add] at hk2
      obtain ⟨u, v, hpb⟩ := pb_of hc hk2
      rw [cond_false]
      exact (cb_add hc hpb (h2 _ hl) (h1 _ hl) (by omega) (by omega)).2
theorem cb_mul {c j k : Nat} {x y : CX} (hc : c = 1074) (hx : CB j x) (hy : CB j y) (hk : k + c = j + j) (hk2 : 52 ≤ k) (hk3 : k ≤ 1900) : CB (k + 1) (cmul x y) :=
  ⟨(vb_sub (vb_mul hc hx.re hy.re hk (by decide) (by decide) hk2 (by omega)) (vb_mul hc hx.im hy.im hk (by decide) (by decide) hk2 (by omega)) (by decide) (by decide) hk2 (by omega)).up (by decide),
    (vb_add (vb_mul hc hx.re hy.im hk (by decide) (by decide) hk2 (by omega)) (vb_mul hc hx.im hy.re hk (by decide) (by decide) hk2 (by omega)) (by decide) (by decide) hk2 (by omega)).up (by decide)⟩
theorem vb_div {c j x y : Nat} {n : Int} (hc : c = 1074) (hx : VB 1 j x) (hy : Wh c y n) (hn : 1 ≤ n) (hj : 52 ≤ j) (hj' : j ≤ 2000) : VB 1 j (fdiv x y) := by
  have hP : 0 < 2 ^ c := Nat.two_pow_pos c
  have hv : ((2 ^ c : Nat) : Int) ≤ val y := by
    rw [hy.val]
    have := Int.mul_le_mul_of_nonneg_right hn (show (0 : Int) ≤ ((2 ^ c : Nat) : Int) by omega)
    rwa [Int.one_mul] at this
  generalize hPe : 2 ^ c = P at *
  refine vb_of (key_div hc hx.1 hy.fin (by omega)).1 (by omega) ?_ (by decide) (by decide) hj hj'
  have e1 : sg (val y) = 1 := by unfold sg; rw [decide_eq_false (by omega)]; rfl
  rw [e1, Int.mul_one, hPe, Int.natAbs_mul, Int.natAbs_natCast]
  exact Nat.mul_le_mul hx.2 (by omega)
end Go.Ev

namespace Go.Ev
open Ieee

theorem cut_le (way : Toward) (s : Bool) (n d : Nat) : way.cut s n d ≤ n + 1 := by
  unfold Toward.cut
  exact Nat.add_le_add (Nat.div_le_self n _) (toNat_le_one _)
/-- A number of no more than 2^54, made whole. -/
theorem whole_le {c j x : Nat} (way : Toward) (hc : c = 1074) (hx : VB 1 (c + j) x) (hj : 53 ≤ j) : ∃ s M, (double.read x).integral way = .number s M 0 ∧ M ≤ 2 ^ j + 1 := by
  obtain ⟨m, i, h1, h2, h3, h4⟩ := read_fin hx.1
  have hv := hx.2
  rw [val_abs, h4, Nat.one_mul] at hv
  rw [h1]
  refine ⟨_, _, rfl, Nat.le_trans (cut_le _ _ _ _) (Nat.add_le_add_right ?_ 1)⟩
  rw [Nat.shiftLeft_eq]
  by_cases hi : 0 ≤ i
  · obtain ⟨u, rfl⟩ : ∃ u : Nat, i = u := ⟨i.toNat, by omega⟩
    rw [show ((u : Int) + 1074).toNat = u + c by omega, Nat.pow_add, ← Nat.mul_assoc, Nat.add_comm c j, Nat.pow_add] at hv
    have := Nat.le_of_mul_le_mul_right hv (Nat.two_pow_pos c)
    rw [Int.toNat_natCast]
    exact this
  · rw [show i.toNat = 0 by omega, Nat.pow_zero, Nat.mul_one]
    have : 2 ^ 53 ≤ 2 ^ j := Nat.pow_le_pow_right (by decide) hj
    have e : 2 ^ 53 = 9007199254740992 := by decide
    omega
theorem vb_flr {c j x : Nat} (hc : c = 1074) (hx : VB 1 (c + j) x) (hj : 53 ≤ j) (hj' : j ≤ 60) : VB 1 (c + (j + 1)) (flr x) := by
  obtain ⟨s, M, h1, h2⟩ := whole_le .down hc hx hj
  unfold flr
  rw [fin_not_nan hx.1, cond_false, h1]
  show VB 1 (c + (j + 1)) (double.nearest s M 0)
  have hb : Bd (c + (j + 1)) (double.nearest s M 0) := by
    refine nearest_bd (u := c) (by omega) ?_ (by omega)
    rw [Nat.add_comm c, Nat.pow_add]
    refine Nat.mul_le_mul_right _ ?_
    rw [Nat.pow_succ]
    have := Nat.two_pow_pos j
    omega
  refine ⟨hb.fin (by omega), ?_⟩
  rw [Nat.one_mul]
  exact hb.val (by omega)
theorem fit_vb {c j x : Nat} (hc : c = 1074) (hx : VB 1 (c + j) x) (hj : 53 ≤ j) (hj' : j ≤ 60) : Go.Gv.fitI .i64 x = true := by
  obtain ⟨s, M, h1, h2⟩ := whole_le .zero hc hx hj
  have hM : M ≤ 2 ^ 60 + 1 := Nat.le_trans h2 (Nat.add_le_add_right (Nat.pow_le_pow_right (by decide) hj') 1)
  have e60 : 2 ^ 60 = 1152921504606846976 := by decide
  unfold Go.Gv.fitI floatToIntVal
  have ht : (FloatKind.f64.decode x).toInt .zero = some (signed s M 0) := by
    show (double.read x).toInt .zero = _
    unfold Datum.toInt
    rw [h1]
  rw [ht]
  have hs : signed s M 0 = cond s (-(M : Int)) (M : Int) := by
    rw [signed_val, Nat.pow_zero, Nat.mul_one]
  have h3 : IntKind.i64.min ≤ signed s M 0 ∧ signed s M 0 ≤ IntKind.i64.max := by
    rw [hs, show IntKind.i64.min = -9223372036854775808 by decide, show IntKind.i64.max = 9223372036854775807 by decide]
    cases s
    · rw [cond_false]; omega
    · rw [cond_true]; omega
  simp only [h3, and_self, if_true]
  rfl
end Go.Ev

namespace Go.Proofs.Ytldbbajakgaajaa
open Go.Gv
open Go.Ev (fadd fdiv cn CX cmul cadd csub one64 flr wv Wh wh_int fin_not_nan cn_of_not VB CB cb_wv cb_mul vb_div vb_add vb_flr fit_vb)

/-! ### The answer, in plain words -/
def rdA (g : Nat → Int) (q : Nat) : CX := toC (g q)
def rdP (m : Nat) (g h : Nat → Int) (q : Nat) : CX := cmul (wv false m (rdA g) q) (wv false m (rdA h) q)
def rdV (m : Nat) (g h : Nat → Int) (q : Nat) : Int := f2i .i64 (flr (rdX (2 ^ m) (wv true m (rdP m g h) q)))
theorem vB_false {x y : Int} (h : vB x y = false) : 0 ≤ x ∧ x ≤ 255 ∧ 0 ≤ y ∧ y ≤ 255 := by
  unfold vB at h
  by_cases h1 : x < 0 <;> by_cases h2 : x > 255 <;> by_cases h3 : y < 0 <;> by_cases h4 : y > 255 <;> simp [h1, h2, h3, h4] at h
  omega
theorem toC_cb {c : Nat} (hc : c = 1074) {x : Int} (h0 : 0 ≤ x) (h1 : x ≤ 255) : CB (c + 8) (toC x) := by
  have hw := wh_int hc (n := x) (by omega)
  refine ⟨?_, Go.Ev.vb_zero _ _⟩
  show VB 1 (c + 8) (cn (FloatKind.f64.nearest x))
  rw [cn_of_not (fin_not_nan hw.fin)]
  refine ⟨hw.fin, ?_⟩
  rw [hw.val, Int.natAbs_mul, Int.natAbs_natCast, Nat.one_mul, Nat.add_comm, Nat.pow_add]
  exact Nat.mul_le_mul_right _ (by have : (2 : Nat) ^ 8 = 256 := rfl; omega)
theorem rd_fit {m : Nat} (hm : m ≤ 6) {g h : Nat → Int} (hv : ∀ i, i < 2 ^ m → vB (g i) (h i) = false) {q : Nat} (hq : q < 2 ^ m) : fitI .i64 (flr (rdX (2 ^ m) (wv true m (rdP m g h) q))) = true := by
  obtain ⟨c, hc⟩ : ∃ c, c = 1074 := ⟨_, rfl⟩
  have hp64 : 2 ^ m ≤ 64 := Nat.le_trans (Nat.pow_le_pow_right (by decide) hm) (by decide)
  have hp0 : 0 < 2 ^ m := Nat.two_pow_pos m
  have ha := cb_wv hc false m hm (c + 8) (rdA g) (by omega) (by omega) fun i hi => by
    obtain ⟨h1, h2, _, _⟩ := vB_false (hv i hi)
    exact toC_cb hc h1 h2
  have hb := cb_wv hc false m hm (c + 8) (rdA h) (by omega) (by omega) fun i hi => by
    obtain ⟨_, _, h1, h2⟩ := vB_false (hv i hi)
    exact toC_cb hc h1 h2
  have hpr : ∀ i, i < 2 ^ m → CB (c + (16 + 4 * m) + 1) (rdP m g h i) := fun i hi => cb_mul hc (ha i hi) (hb i hi) (by omega) (by omega) (by omega)
  have hw := cb_wv hc true m hm (c + (16 + 4 * m) + 1) (rdP m g h) (by omega) (by omega) hpr q hq
  have hn := wh_int hc (n := ((2 ^ m : Nat) : Int)) (by omega)
  have hr : VB 1 (c + 53) (wv true m (rdP m g h) q).1 := by
    have := hw.re.2
    refine ⟨hw.re.1, Nat.le_trans this ?_⟩
    exact Nat.mul_le_mul_left _ (Nat.pow_le_pow_right (by decide) (by omega))
  have hd : VB 1 (c + 53) (fdiv (wv true m (rdP m g h) q).1 (cn (FloatKind.f64.nearest ((2 ^ m : Nat) : Int)))) := by
    rw [cn_of_not (fin_not_nan hn.fin)]
    exact vb_div hc hr hn (by omega) (by omega) (by omega)
  have hh : VB 1 (c + 53) 4602678819172646912 := by
    have h4 := Go.Ev.vb_rung (x := 4602678819172646912) (by decide) (Go.Ev.rv_a hc).2.2 (by decide)
    refine ⟨h4.1, Nat.le_trans h4.2 ?_⟩
    rw [Nat.one_mul, show 4 = 2 ^ 2 from rfl, ← Nat.pow_add]
    exact Nat.pow_le_pow_right (by decide) (by omega)
  have hx : VB 1 (c + 54) (rdX (2 ^ m) (wv true m (rdP m g h) q)) := (vb_add hd hh (by decide) (by decide) (by omega) (by omega)).up (k := 1) (by decide)
  exact fit_vb hc (vb_flr hc hx (by decide) (by decide)) (by decide) (by decide)
/-! ### The loops -/
theorem gB_t {b : Bool} {i n : Nat} (h : i < n) : gB b (i : Nat) n = true := by unfold gB; rw [ixB_t h]; rfl
theorem rdC_in {n i : Nat} (hn : n ≤ 1000) (hi : i < n) {x y : Int} {bad good fin : Option Out} : rdC n (i : Nat) i x y bad good fin = cond (vB x y) bad good := by
  unfold rdC
  rw [dec_lt hi, ixB_t hi, gB_t hi, gB_t hi, gB_t hi, apB_t (by omega)]
  rfl
theorem rd_step1 {n : Nat} (hn : n ≤ 1000) (g h : Nat → Int) {i : Nat} (hi : i < n) (hv : vB (g i) (h i) = false) : Leads Try.prog (loopAt Try.f6 0) (rdS n g h (i : Nat) i (rdA g) (rdA h)) .normal (rdS n g h (i + 1 : Nat) (i + 1) (rdA g) (rdA h)) := by
  have st := rd_step n g h (i : Nat) i (rdA g) (rdA h)
  rw [rdC_in hn hi, Int.toNat_natCast, hv, cond_false] at st
  unfold rdN at st
  rw [w64_next (by omega), Int.toNat_natCast] at st
  refine (leads_ev (finN_sub keepRd [some 3, some 5]) e_nil k_nil noL_ok st).sub (Sub.refl _) ?_
  refine sub_same ⟨Or.inr ⟨36, 1, i + 1, _, _, rfl, rfl, fun q hq => ?_⟩, Or.inr ⟨36, 1, i + 1, _, _, rfl, rfl, fun q hq => ?_⟩, trivial⟩
  · rw [mixC]
    cases hb : Nat.blt q i with
    | true => rfl
    | false =>
      have hge := not_blt hb
      obtain rfl : q = i := by omega
      rfl
  · rw [mixC]
    cases hb : Nat.blt q i with
    | true => rfl
    | false =>
      have hge := not_blt hb
      obtain rfl : q = i := by omega
      rfl
theorem rd_head (n : Nat) (g h : Nat → Int) : Sub (rdS n g h 0 0 (rdA g) (rdA g)) (rdS n g h 0 0 (rdA g) (rdA h)) :=
  sub_same ⟨Or.inl rfl, Or.inr ⟨36, 1, 0, _, _, rfl, rfl, fun q hq => absurd hq (Nat.not_lt_zero q)⟩, trivial⟩
theorem rd_good {n : Nat} (hn : n ≤ 1000) {g h : Nat → Int} (hv : ∀ i, i < n → vB (g i) (h i) = false) : Leads Try.prog (.loop (loopAt Try.f6 0)) (rdS n g h 0 0 (rdA g) (rdA g)) (.exit 0) (rdZ n g h (rdA g) (rdA h)) := by
  have h1 : Leads Try.prog (.loop (loopAt Try.f6 0)) (rdS n g h 0 0 (rdA g) (rdA h)) (.exit 0) (rdS n g h (n : Nat) n (rdA g) (rdA h)) := by
    refine loop_rule (fun i => rdS n g h (i : Nat) i (rdA g) (rdA h)) n (.exit 0) _ (by simp) (fun i hi => rd_step1 hn g h hi (hv i hi)) ?_
    refine leads_ev (finE_sub keepRd [some 0, some 1]) e_nil k_nil noL_ok ((rd_end n g h (n : Nat) n (rdA g) (rdA h)).trans ?_)
    unfold rdC
    rw [dec_self, cond_false]
  refine h1.sub (rd_head n g h) ?_
  have f1 : Sub (rdS n g h (n : Nat) n (rdA g) (rdA h)) (mkS 142 [(0, sI n g), (1, sI n h), (6, iA (n : Nat)), (7, sC n (rdA g)), (8, .osl 1 1 0 n), (9, iA (n : Nat))] [.dead, .a 36 1 n fun q => [cA (rdA h q)]]) := by
    refine sub_freezeM (k := 0) (e := 36) (sz := 1) (n := n) (el := fun q => [cA (rdA g q)]) rfl (fun j row hj => ?_) ⟨rfl, Or.inl rfl, rfl, Or.inl rfl, rfl, Or.inl rfl, rfl, Or.inr ⟨rfl, rfl⟩, rfl, Or.inl rfl, rfl, Or.inl rfl, trivial⟩
    match j, hj with
    | 0, hj => exact ⟨.dead, rfl, Or.inl ⟨rfl, rfl⟩⟩
    | 1, hj => exact ⟨_, rfl, Or.inr ⟨by decide, Or.inl (by cases hj; rfl)⟩⟩
    | j + 2, hj => cases hj
  refine f1.trans ?_
  refine sub_freezeM (k := 1) (e := 36) (sz := 1) (n := n) (el := fun q => [cA (rdA h q)]) rfl (fun j row hj => ?_) ⟨rfl, Or.inl rfl, rfl, Or.inl rfl, rfl, Or.inl rfl, rfl, Or.inl rfl, rfl, Or.inr ⟨rfl, rfl⟩, rfl, Or.inl rfl, trivial⟩
  match j, hj with
  | 0, hj => exact ⟨_, rfl, Or.inr ⟨by decide, Or.inl (by cases hj; rfl)⟩⟩
  | 1, hj => exact ⟨.dead, rfl, Or.inl ⟨rfl, rfl⟩⟩
  | j + 2, hj => cases hj
theorem rd_bad {n : Nat} (hn : n ≤ 1000) {g h : Nat → Int} {K : Nat} (hK : K < n) (hb : vB (g K) (h K) = true) (hv : ∀ i, i < K → vB (g i) (h i) = false) : Leads Try.prog (.loop (loopAt Try.f6 0)) (rdS n g h 0 0 (rdA g) (rdA g)) .ret rdE := by
  refine Leads.sub (s1 := rdS n g h 0 0 (rdA g) (rdA h)) (s2 := rdE) ?_ (rd_head n g h) (Sub.refl _)
  refine loop_rule (fun i => rdS n g h (i : Nat) i (rdA g) (rdA h)) K .ret _ (by simp) (fun i hi => rd_step1 hn g h (by omega) (hv i hi)) ?_
  refine leads_ev (finR_sub [4, 5] []) e_nil k_nil noL_ok ((rd_ret n g h (K : Nat) K (rdA g) (rdA h)).trans ?_)
  rw [rdC_in hn hK, Int.toNat_natCast, hb, cond_true]
theorem r2_leads {n : Nat} (hn : n ≤ 1000) (A B : Nat → CX) : Leads Try.prog (.loop (loopAt Try.f6 1)) (r2S n A B 0 0 fun q => cmul (A q) (B q)) (.exit 2) (r2Z n A B fun q => cmul (A q) (B q)) := by
  have h1 : Leads Try.prog (.loop (loopAt Try.f6 1)) (r2S n A B 0 0 fun q => cmul (A q) (B q)) (.exit 2) (r2S n A B (n : Nat) n fun q => cmul (A q) (B q)) := by
    refine loop_rule (fun i => r2S n A B (i : Nat) i fun q => cmul (A q) (B q)) n (.exit 2) _ (by simp) (fun i hi => ?_) ?_
    · have st := r2_step cmul n A B (i : Nat) i fun q => cmul (A q) (B q)
      unfold r2B r2N at st
      rw [dec_lt hi, ixB_t hi, apB_t (by omega), w64_next (by omega), Int.toNat_natCast] at st
      refine (leads_ev (finN_sub keepR2 [some 2]) (e_cons gPr_ok e_nil) k_nil noL_ok st).sub (Sub.refl _) ?_
      refine sub_same ⟨Or.inr ⟨36, 1, i + 1, _, _, rfl, rfl, fun q hq => ?_⟩, trivial⟩
      rw [mixC]
      cases hb : Nat.blt q i with
      | true => rfl
      | false =>
        have hge := not_blt hb
        obtain rfl : q = i := by omega
        rfl
    · refine leads_ev (finE_sub keepR2 [some 0]) (e_cons gPr_ok e_nil) k_nil noL_ok ((r2_end cmul n A B (n : Nat) n _).trans ?_)
      rw [dec_self, cond_false]
  refine h1.sub (Sub.refl _) ?_
  refine sub_freezeM (k := 0) (e := 36) (sz := 1) (n := n) (el := fun q => [cA (cmul (A q) (B q))]) rfl (fun j row hj => ?_) ⟨rfl, Or.inl rfl, rfl, Or.inl rfl, rfl, Or.inl rfl, rfl, Or.inr ⟨rfl, rfl⟩, rfl, Or.inl rfl, trivial⟩
  match j, hj with
  | 0, hj => exact ⟨.dead, rfl, Or.inl ⟨rfl, rfl⟩⟩
  | j + 1, hj => cases hj
theorem r3_leads {n : Nat} (hn : n ≤ 1000) (C : Nat → CX) (hf : ∀ i, i < n → fitI .i64 (flr (rdX n (C i))) = true) : Leads Try.prog (.loop (loopAt Try.f6 2)) (r3S n C 0 0 fun q => f2i .i64 (flr (rdX n (C q)))) (.exit 4) (r3S n C (n : Nat) n fun q => f2i .i64 (flr (rdX n (C q)))) := by
  refine loop_rule (fun i => r3S n C (i : Nat) i fun q => f2i .i64 (flr (rdX n (C q)))) n (.exit 4) _ (by simp) (fun i hi => ?_) ?_
  · have st := r3_step flr n C (i : Nat) i fun q => f2i .i64 (flr (rdX n (C q)))
    unfold r3N at st
    rw [dec_lt hi, ixB_t hi, apB_t (by omega), w64_next (by omega), Int.toNat_natCast, hf i hi] at st
    refine (leads_ev (finN_sub keepR3 [some 2]) (e_cons gFl_ok e_nil) k_nil noL_ok st).sub (Sub.refl _) ?_
    refine sub_same ⟨Or.inr ⟨3, 1, i + 1, _, _, rfl, rfl, fun q hq => ?_⟩, trivial⟩
    rw [mixI]
    cases hb : Nat.blt q i with
    | true => rfl
    | false =>
      have hge := not_blt hb
      obtain rfl : q = i := by omega
      rfl
  · refine leads_ev (finE_sub keepR3 [some 0]) (e_cons gFl_ok e_nil) k_nil noL_ok ((r3_end flr n C (n : Nat) n _).trans ?_)
    rw [dec_self, cond_false]
end Go.Proofs.Ytldbbajakgaajaa

namespace Go.Ev
open Ieee

theorem rnd_err (a : Nat) {g : Nat} (hg : 0 < g) : 2 * (rnd a g * g) ≤ 2 * a + g ∧ 2 * a ≤ 2 * (rnd a g * g) + g := by
  have hd := Nat.div_add_mod a g
  have hm := Nat.mod_lt a hg
  unfold rnd
  generalize ha : a / g = q at *
  generalize hr : a % g = r at *
  rw [Nat.mul_comm g q] at hd
  cases hb : (decide (g < 2 * r) || (g == 2 * r && q % 2 == 1)) with
  | true =>
    have h2 : g ≤ 2 * r := by
      simp only [Bool.or_eq_true, decide_eq_true_eq, Bool.and_eq_true, beq_iff_eq] at hb
      omega
    have e : (q + true.toNat) * g = q * g + g := by rw [Nat.add_mul]; simp
    rw [e]
    generalize q * g = Q at *
    omega
  | false =>
    have h2 : 2 * r ≤ g := by
      simp only [Bool.or_eq_false_iff, decide_eq_false_iff_not] at hb
      omega
    have e : (q + false.toNat) * g = q * g := by simp
    rw [e]
    generalize q * g = Q at *
    omega
/-- The value of what is rounded. -/
theorem rv_rqg {a g : Nat} (hg : 0 < g) : rv 52 (rq 52 a g) = rnd a (g * 2 ^ ((a / g).log2 - 52)) * 2 ^ ((a / g).log2 - 52) := by
  unfold rq
  generalize hE : (a / g).log2 - 52 = E
  have hG : 0 < g * 2 ^ E := Nat.mul_pos hg (Nat.two_pow_pos E)
  have hup : rnd a (g * 2 ^ E) ≤ 2 ^ 53 := by
    refine Nat.le_trans (rnd_le _ _) ?_
    rw [← Nat.div_div_eq_div_mul]
    have h1 : a / g / 2 ^ E < 2 ^ 53 := by
      rw [Nat.div_lt_iff_lt_mul (Nat.two_pow_pos E), ← Nat.pow_add]
      by_cases h0 : a / g = 0
      · rw [h0]; exact Nat.two_pow_pos _
      · exact (Nat.log2_lt h0).1 (by omega)
    omega
  have hlo : E = 0 ∨ 2 ^ 52 ≤ rnd a (g * 2 ^ E) := by
    by_cases h : E = 0
    · exact Or.inl h
    · refine Or.inr (Nat.le_trans ?_ (le_rnd _ _))
      rw [← Nat.div_div_eq_div_mul, Nat.le_div_iff_mul_le (Nat.two_pow_pos E), ← Nat.pow_add]
      have h0 : a / g ≠ 0 := fun h0 => by rw [h0] at hE; simp at hE; omega
      exact (Nat.le_log2 h0).1 (by omega)
  have e52 : (2 : Nat) ^ 52 = 4503599627370496 := by decide
  have e53 : (2 : Nat) ^ 53 = 9007199254740992 := by decide
  generalize rnd a (g * 2 ^ E) = R at *
  rw [e52] at hlo ⊢
  rw [e53] at hup
  by_cases hR : R < 4503599627370496
  · have h0 : E = 0 := by omega
    subst h0
    rw [Nat.zero_mul, Nat.zero_add, rv_low hR]; omega
  · rw [rv_high (by omega)]
    by_cases hS : R = 9007199254740992
    · subst hS
      rw [show (E * 4503599627370496 + 9007199254740992) % 4503599627370496 = 0 by omega, show (E * 4503599627370496 + 9007199254740992) / 4503599627370496 - 1 = E + 1 by omega, Nat.pow_succ]
      generalize 2 ^ E = P
      omega
    · rw [show (E * 4503599627370496 + R) % 4503599627370496 = R - 4503599627370496 by omega, show (E * 4503599627370496 + R) / 4503599627370496 - 1 = E by omega, show 4503599627370496 + (R - 4503599627370496) = R by omega]
theorem rq_err {a g b : Nat} (hg : 0 < g) (hb : 53 ≤ b) (ha : a ≤ 2 ^ b * g) : rv 52 (rq 52 a g) * g ≤ a + 2 ^ (b - 53) * g ∧ a ≤ rv 52 (rq 52 a g) * g + 2 ^ (b - 53) * g := by
  rw [rv_rqg hg]
  generalize hE : (a / g).log2 - 52 = E
  have hG : 0 < g * 2 ^ E := Nat.mul_pos hg (Nat.two_pow_pos E)
  obtain ⟨h1, h2⟩ := rnd_err a hG
  have hle : 2 ^ E ≤ 2 * 2 ^ (b - 53) := by
    rw [← Nat.pow_succ']
    refine Nat.pow_le_pow_right (by decide) ?_
    by_cases h0 : a / g = 0
    · rw [h0] at hE; simp at hE; omega
    · have : a / g ≤ 2 ^ b := Nat.div_le_of_le_mul (by rw [Nat.mul_comm]; exact ha)
      have h3 : (a / g).log2 < b + 1 := (Nat.log2_lt h0).2 (by rw [Nat.pow_succ]; have := Nat.two_pow_pos b; omega)
      omega
  have hg2 : g * 2 ^ E ≤ 2 * (2 ^ (b - 53) * g) := by
    rw [Nat.mul_comm g, ← Nat.mul_assoc]
    exact Nat.mul_le_mul_right g hle
  have e : rnd a (g * 2 ^ E) * 2 ^ E * g = rnd a (g * 2 ^ E) * (g * 2 ^ E) := by rw [Nat.mul_assoc, Nat.mul_comm (2 ^ E) g]
  rw [e]
  generalize rnd a (g * 2 ^ E) * (g * 2 ^ E) = Q at *
  generalize g * 2 ^ E = G at *
  generalize 2 ^ (b - 53) * g = W at *
  omega
/-- ROUNDING: what comes out, against the exact. -/
theorem round_err {z g b : Nat} {v : Int} (hz : key z = KR v g) (hf : isFin z = true) (hg : 0 < g) (hb : 53 ≤ b) (hv : v.natAbs ≤ 2 ^ b * g) : (val z * (g : Int) - v).natAbs ≤ 2 ^ (b - 53) * g := by
  have hlt : rung z < 9218868437227405312 := isFin_lt hf
  have hq : rq 52 v.natAbs g < 9218868437227405312 ∨ (KR v g).natAbs = 9218868437227405312 := by
    by_cases h : rq 52 v.natAbs g < 9218868437227405312
    · exact Or.inl h
    · refine Or.inr ?_
      unfold KR
      rw [Nat.min_eq_right (by omega)]
      cases decide (v < 0)
      · rw [cond_false, Int.natAbs_natCast]
      · rw [cond_true, Int.natAbs_neg, Int.natAbs_natCast]
  have hrz : rung z = rq 52 v.natAbs g := by
    rcases hq with h | h
    · rw [← key_abs, hz, KR_big h]
    · rw [← key_abs, hz, h] at hlt; omega
  obtain ⟨h1, h2⟩ := rq_err hg hb hv
  rw [← hrz, ← val_abs] at h1 h2
  have hpos : 0 ≤ v → 0 ≤ val z := fun h => by
    have := (KR_sign (v := v) (g := g)).1 h
    rw [← hz] at this
    have hn : ¬ val z < 0 := fun hc => by have := val_negative.1 hc; omega
    omega
  have hneg : v ≤ 0 → val z ≤ 0 := fun h => by
    have := (KR_sign (v := v) (g := g)).2 h hg
    rw [← hz] at this
    have hn : ¬ 0 < val z := fun hc => by have := val_pos.1 hc; omega
    omega
  generalize 2 ^ (b - 53) * g = W at *
  rcases Int.le_total 0 v with h | h
  · have h3 := hpos h
    have e : (((val z).natAbs * g : Nat) : Int) = val z * (g : Int) := by rw [Int.natCast_mul, show (((val z).natAbs : Nat) : Int) = val z by omega]
    generalize (val z).natAbs * g = Q at *
    omega
  · have h3 := hneg h
    have e : (((val z).natAbs * g : Nat) : Int) = -(val z * (g : Int)) := by rw [Int.natCast_mul, show (((val z).natAbs : Nat) : Int) = -val z by omega, Int.neg_mul]
    generalize (val z).natAbs * g = Q at *
    omega
end Go.Ev

namespace Go.Ev
open Ieee

def uT : List (Int × Int) := [(1152921504606846976, 0), (1147369872436662991, -113006068906017470), (1130768441178740757, -224923827593068887), (1103277091691359535, -334675446864527722), (1065160580698383124, -441203958630471860), (1016785991037278313, -543483435088187080), (958619196450722178, -640528868967736374), (891220374967787610, -731405659690429196), (815238614083298888, -815238614083298888), (731405659690429196, -891220374967787610), (640528868967736374, -958619196450722178), (543483435088187080, -1016785991037278313), (441203958630471860, -1065160580698383124), (334675446864527722, -1103277091691359535), (224923827593068887, -1130768441178740757), (113006068906017470, -1147369872436662991), (0, -1152921504606846976), (-113006068906017470, -1147369872436662991), (-224923827593068887, -1130768441178740757), (-334675446864527722, -1103277091691359535), (-441203958630471860, -1065160580698383124), (-543483435088187080, -1016785991037278313), (-640528868967736374, -958619196450722178), (-731405659690429196, -891220374967787610), (-815238614083298888, -815238614083298888), (-891220374967787610, -731405659690429196), (-958619196450722178, -640528868967736374), (-1016785991037278313, -543483435088187080), (-1065160580698383124, -441203958630471860), (-1103277091691359535, -334675446864527722), (-1130768441178740757, -224923827593068887), (-1147369872436662991, -113006068906017470), (-1152921504606846976, 0), (-1147369872436662991, 113006068906017470), (-1130768441178740757, 224923827593068887), (-1103277091691359535, 334675446864527722), (-1065160580698383124, 441203958630471860), (-1016785991037278313, 543483435088187080), (-958619196450722178, 640528868967736374), (-891220374967787610, 731405659690429196), (-815238614083298888, 815238614083298888), (-731405659690429196, 891220374967787610), (-640528868967736374, 958619196450722178), (-543483435088187080, 1016785991037278313), (-441203958630471860, 1065160580698383124), (-334675446864527722, 1103277091691359535), (-224923827593068887, 1130768441178740757), (-113006068906017470, 1147369872436662991), (0, 1152921504606846976), (113006068906017470, 1147369872436662991), (224923827593068887, 1130768441178740757), (334675446864527722, 1103277091691359535), (441203958630471860, 1065160580698383124), (543483435088187080, 1016785991037278313), (640528868967736374, 958619196450722178), (731405659690429196, 891220374967787610), (815238614083298888, 815238614083298888), (891220374967787610, 731405659690429196), (958619196450722178, 640528868967736374), (1016785991037278313, 543483435088187080), (1065160580698383124, 441203958630471860), (1103277091691359535, 334675446864527722), (1130768441178740757, 224923827593068887), (1147369872436662991, 113006068906017470)]
def uS : Int := 1152921504606846976
def u (t : Nat) : Int × Int := uT.getD (t % 64) (0, 0)
def zcj (z : Int × Int) : Int × Int := (z.1, -z.2)
def ub (b : Bool) (t : Nat) : Int × Int := cond b (zcj (u t)) (u t)
theorem all64 {p : Nat → Bool} (h : ((List.range 64).all p) = true) : ∀ t, t < 64 → p t = true := fun t ht => (List.all_eq_true.1 h) t (List.mem_range.2 ht)
theorem u_mod (t : Nat) : u t = u (t % 64) := by unfold u; rw [Nat.mod_mod]
theorem u_add (s t : Nat) : u (s + t) = u (s % 64 + t % 64) := by unfold u; rw [← Nat.add_mod]
theorem ub_mod (b : Bool) (t : Nat) : ub b t = ub b (t % 64) := by unfold ub; rw [u_mod]
theorem ub_per (b : Bool) (t k : Nat) : ub b (t + 64 * k) = ub b t := by rw [ub_mod, Nat.add_mul_mod_self_left, ← ub_mod]
def zle (z : Int × Int) (n : Nat) : Bool := Nat.ble z.1.natAbs n && Nat.ble z.2.natAbs n
theorem zle_cj {z : Int × Int} {n : Nat} : zle (zcj z) n = zle z n := by unfold zle zcj; rw [Int.natAbs_neg]
def zsc (k : Int) (z : Int × Int) : Int × Int := (k * z.1, k * z.2)
theorem u_size0 : ((List.range 64).all fun t => zle (u t) 1152921504606846976) = true := by decide +kernel
theorem u_neg0 : ((List.range 64).all fun t => (u (t + 32) == (-(u t).1, -(u t).2))) = true := by decide +kernel
theorem u_cj0 : ((List.range 64).all fun t => (u (64 - t) == zcj (u t))) = true := by decide +kernel
theorem u_mul0 : ((List.range 64).all fun s => (List.range 64).all fun t => zle (zsub (zmul (u s) (u t)) (zsc uS (u (s + t)))) 2305843009213693952) = true := by decide +kernel
theorem u_zero : u 0 = (uS, 0) := rfl
theorem ub_size (b : Bool) (t : Nat) : (ub b t).1.natAbs ≤ 1152921504606846976 ∧ (ub b t).2.natAbs ≤ 1152921504606846976 := by
  have h := all64 u_size0 (t % 64) (Nat.mod_lt _ (by decide))
  rw [← u_mod] at h
  have h : zle (ub b t) 1152921504606846976 = true := by
    cases b
    · exact h
    · exact zle_cj.trans h
  unfold zle at h
  simp only [Bool.and_eq_true] at h
  exact ⟨Nat.le_of_ble_eq_true h.1, Nat.le_of_ble_eq_true h.2⟩
theorem u_neg (t : Nat) : u (t + 32) = (-(u t).1, -(u t).2) := by
  have h := eq_of_beq (all64 u_neg0 (t % 64) (Nat.mod_lt _ (by decide)))
  rw [u_add, u_mod t]
  exact h
theorem ub_neg (b : Bool) (t : Nat) : ub b (t + 32) = (-(ub b t).1, -(ub b t).2) := by
  unfold ub
  rw [u_neg]
  cases b <;> rfl
theorem ub_mul (b : Bool) (s t : Nat) : ((zmul (ub b s) (ub b t)).1 - uS * (ub b (s + t)).1).natAbs ≤ 2305843009213693952 * 1 ∧ ((zmul (ub b s) (ub b t)).2 - uS * (ub b (s + t)).2).natAbs ≤ 2305843009213693952 * 1 := by
  have h := all64 (all64 u_mul0 (s % 64) (Nat.mod_lt _ (by decide))) (t % 64) (Nat.mod_lt _ (by decide))
  rw [← u_mod, ← u_mod, ← u_add] at h
  unfold zle at h
  simp only [Bool.and_eq_true] at h
  have h1 := Nat.le_of_ble_eq_true h.1
  have h2 := Nat.le_of_ble_eq_true h.2
  unfold zsub zsc at h1 h2
  dsimp only at h1 h2
  rw [Nat.mul_one]
  cases b
  · exact ⟨h1, h2⟩
  · unfold zmul at h1 h2 ⊢
    unfold ub zcj
    dsimp only [cond_true] at h1 h2 ⊢
    generalize u s = x at *
    generalize u t = y at *
    generalize u (s + t) = z at *
    have e1 : x.1 * y.1 - -x.2 * -y.2 = x.1 * y.1 - x.2 * y.2 := by rw [Int.neg_mul_neg]
    have e2 : x.1 * -y.2 + -x.2 * y.1 - uS * -z.2 = -(x.1 * y.2 + x.2 * y.1 - uS * z.2) := by
      rw [Int.mul_neg, Int.neg_mul, Int.mul_neg]; omega
    rw [e1, e2, Int.natAbs_neg]
    exact ⟨h1, h2⟩
theorem u_cj {s t : Nat} (h : (s + t) % 64 = 0) : u s = zcj (u t) := by
  have h1 := eq_of_beq (all64 u_cj0 (t % 64) (Nat.mod_lt _ (by decide)))
  rw [← u_mod] at h1
  rw [← h1, u_mod s]
  have ht : t % 64 < 64 := Nat.mod_lt _ (by decide)
  by_cases h0 : t % 64 = 0
  · rw [h0]; rw [show s % 64 = 0 by omega]; rfl
  · rw [show s % 64 = 64 - t % 64 by omega]
/-! ### The powers that the waves take -/
def pnear (c : Nat) (b : Bool) (p : CX) (t : Nat) : Bool := Nat.ble (uS * val p.1 - ((2 ^ c : Nat) : Int) * (ub b t).1).natAbs (2 ^ (c + 11)) && Nat.ble (uS * val p.2 - ((2 ^ c : Nat) : Int) * (ub b t).2).natAbs (2 ^ (c + 11))
def pnAll (b : Bool) (w : CX) (h : Nat) : Nat → Nat → CX → Bool
  | 0, _, _ => true
  | k + 1, t, p => pnear 1074 b p t && pnAll b w h k (t + h) (cmul p w)
theorem pnAll_at {b : Bool} {w : CX} {h : Nat} : ∀ {n q : Nat}, pnAll b w h n (q * h) (pws w q) = true → ∀ k, k < n → pnear 1074 b (pws w (q + k)) ((q + k) * h) = true
  | 0, _, _, k, hk => absurd hk (Nat.not_lt_zero k)
  | n + 1, q, hh, k, hk => by
    unfold pnAll at hh
    simp only [Bool.and_eq_true] at hh
    match k with
    | 0 => exact hh.1
    | k + 1 =>
      have h2 := hh.2
      rw [show q * h + h = (q + 1) * h by rw [Nat.add_mul, Nat.one_mul]] at h2
      have := pnAll_at (q := q + 1) h2 k (by omega)
      rwa [show q + 1 + k = q + (k + 1) by omega] at this
theorem pn_true : ∀ b m, m < 6 → pnAll b (rtB b (m + 1)) (2 ^ (5 - m)) (2 ^ m) 0 (one64, 0) = true := by
  intro b m hm
  rcases (by omega : m = 0 ∨ m = 1 ∨ m = 2 ∨ m = 3 ∨ m = 4 ∨ m = 5) with rfl | rfl | rfl | rfl | rfl | rfl <;> cases b <;> decide +kernel
theorem p_near {c : Nat} (hc : c = 1074) (b : Bool) {m k : Nat} (hm : m < 6) (hk : k < 2 ^ m) :
    (uS * val (pws (rtB b (m + 1)) k).1 - ((2 ^ c : Nat) : Int) * (ub b (k * 2 ^ (5 - m))).1).natAbs ≤ 2 ^ (c + 11) ∧ (uS * val (pws (rtB b (m + 1)) k).2 - ((2 ^ c : Nat) : Int) * (ub b (k * 2 ^ (5 - m))).2).natAbs ≤ 2 ^ (c + 11) := by
  have h0 : pnAll b (rtB b (m + 1)) (2 ^ (5 - m)) (2 ^ m) (0 * 2 ^ (5 - m)) (pws (rtB b (m + 1)) 0) = true := by rw [Nat.zero_mul]; exact pn_true b m hm
  have h := pnAll_at h0 k hk
  rw [Nat.zero_add, ← hc] at h
  unfold pnear at h
  simp only [Bool.and_eq_true] at h
  exact ⟨Nat.le_of_ble_eq_true h.1, Nat.le_of_ble_eq_true h.2⟩
end Go.Ev
