/-
  Rd5 Wx1 Wx2 Wx3 Wx4 Wx6 Wy1 Wy2 Wy3 Arg0, one behind the other.
-/
import Derived.Test.YtldbbajakgaajaaM3
import Derived.Test.YtldbbajakgaajaaM2
import Derived.Test.YtldbbajakgaajaaGi
namespace Go.Proofs.Ytldbbajakgaajaa
open Go.Gv

/-- What the code's own Round must give. -/
abbrev RoundOk : Prop := ∀ (n n' : Nat) (g h : Nat → Int), n ≤ maxLen → n' ≤ maxLen → FSpec Try.prog 5 [sI n g, sI n' h] (rdOut n n' g h)
section
variable (n n' : Nat) (g h : Nat → Int) (N : Nat) (Z : Nat → Int) (e : Int)
theorem wr_ev : ev Try.prog [] [kS Try.prog 5 (fun _ => .tup [sI N Z, iA e]), kS Try.prog 6 (fun _ => .tup [sI N Z, iA e]), kS Try.prog 7 (fun _ => bA true)] noL Try.f3 [sI n g, sI n' h] ret =
    cond (decide (w64 ((n : Int) + (n' : Int)) > 150)) (some (Out.of (bA true))) (gate (FSpec Try.prog 5 [sI n g, sI n' h] (.tup [sI N Z, iA e])) (gate (FSpec Try.prog 6 [sI n g, sI n' h] (.tup [sI N Z, iA e]))
      (gate (FSpec Try.prog 7 [sI N Z, sI N Z] (bA true)) (some (Out.of (bA (cond (e == e) true false))))))) := by kernel_rfl
theorem wr_ev0 : ev Try.prog [] [⟨5, fun _ _ => none⟩] noL Try.f3 [sI n g, sI n' h] ret = cond (decide (w64 ((n : Int) + (n' : Int)) > 150)) (some (Out.of (bA true))) none := by kernel_rfl
end
theorem rounds_law (ok : RoundOk) {n n' : Nat} (hn : n ≤ maxLen) (hn' : n' ≤ maxLen) (g h : Nat → Int) : FSpec Try.prog 3 [sI n g, sI n' h] (bA true) := by
  cases hb : decide (w64 ((n : Int) + (n' : Int)) > 150)
  · refine gspec e_nil (k_cons kS_ok (k_cons kS_ok (k_cons kS_ok k_nil))) Try.func3 (by kernel_rfl) (by kernel_rfl) noL_ok rfl ((wr_ev n n' g h (cond (rdE0 n n' g h == 0) n 0) (rdV n.log2 g h) (rdE0 n n' g h)).trans ?_)
    have hN : cond (rdE0 n n' g h == 0) n 0 ≤ 4611686018427387904 := by
      cases h0 : rdE0 n n' g h == 0
      · exact Nat.zero_le _
      · rw [cond_true]
        unfold rdE0 at h0
        cases hc : rdCnt n n'
        · obtain ⟨_, m, hm, rfl⟩ := rdCnt_false hc
          exact Nat.le_trans (Nat.pow_le_pow_right (by decide) hm) (by decide)
        · rw [hc] at h0; cases h0
    rw [hb, cond_false, gate_pos (show FSpec Try.prog 5 [sI n g, sI n' h] (.tup [sI (cond (rdE0 n n' g h == 0) n 0) (rdV n.log2 g h), iA (rdE0 n n' g h)]) from ok n n' g h hn hn'), gate_pos (show FSpec Try.prog 6 [sI n g, sI n' h] (.tup [sI (cond (rdE0 n n' g h == 0) n 0) (rdV n.log2 g h), iA (rdE0 n n' g h)]) from round_spec n n' g h), gate_pos (same_ints hN fun _ _ => rfl), BEq.rfl]
    rfl
  · refine gspec e_nil (k_cons (kno_ok _) k_nil) Try.func3 (by kernel_rfl) (by kernel_rfl) noL_ok rfl ((wr_ev0 n n' g h).trans ?_)
    rw [hb, cond_true]
end Go.Proofs.Ytldbbajakgaajaa

namespace Go.Proofs.Ytldbbajakgaajaa
open Go.Gv
open Go.Ev (fadd fsub fmul fdiv fneg fsqrt cn CX cmul cadd csub one64 two64 mone rt rtB pws wv)

theorem xpr_ev (x y : CX) : ev Try.prog [] [] noL Try.f15 [cA x, cA y] ret = some (Out.of (.cx (fsub (fmul x.1 y.1) (fmul x.2 y.2)) (fadd (fmul x.1 y.2) (fmul x.2 y.1)))) := by kernel_rfl
theorem xpr_spec (x y : CX) : FSpec Try.prog 15 [cA x, cA y] (cA (cmul x y)) := gspec e_nil k_nil Try.func15 (by kernel_rfl) (by kernel_rfl) noL_ok rfl (xpr_ev x y)
theorem xPr_ok : EOk Try.prog ⟨15, gC2 cmul⟩ := fun args r hr => by
  simp only [gC2] at hr
  split at hr
  · cases hr; exact Or.inl (xpr_spec (_, _) (_, _))
  · cases hr
/-! ### Roots -/
theorem xrt_ev (s : Nat → Nat) (h : Int → CX) (n : Int) : ev Try.prog [⟨21, gF1 s⟩] [kS Try.prog 14 (gRt h)] noL Try.f14 [iA n] ret =
    cond (n == 2) (some (Out.of (.cx mone 0))) (cond (n == 4) (some (Out.of (.cx 0 mone)))
      (gate (FSpec Try.prog 14 [iA (w64 (n.tdiv 2))] (cA (h (w64 (n.tdiv 2))))) (some (Out.of (.cx (s (fdiv (fadd one64 (h (w64 (n.tdiv 2))).1) two64)) (fneg (s (fdiv (fsub one64 (h (w64 (n.tdiv 2))).1) two64)))))))) := by kernel_rfl
theorem xrt_spec : ∀ m, 1 ≤ m → m ≤ 30 → FSpec Try.prog 14 [iA ((2 ^ m : Nat) : Int)] (cA (rt m))
  | 0, h, _ => absurd h (by omega)
  | 1, _, _ => gspec (e_cons gSq_ok e_nil) (k_cons (kS_ok (P := Try.prog) (f := 14) (g := gRt fun _ => (0, 0))) k_nil) Try.func14 (by kernel_rfl) (by kernel_rfl) noL_ok rfl (xrt_ev fsqrt (fun _ => (0, 0)) 2)
  | 2, _, _ => gspec (e_cons gSq_ok e_nil) (k_cons (kS_ok (P := Try.prog) (f := 14) (g := gRt fun _ => (0, 0))) k_nil) Try.func14 (by kernel_rfl) (by kernel_rfl) noL_ok rfl (xrt_ev fsqrt (fun _ => (0, 0)) 4)
  | m + 3, _, hm => by
    have ih := xrt_spec (m + 2) (by omega) (by omega)
    have hp : 4 ≤ 2 ^ (m + 2) := by
      have := Nat.pow_le_pow_right (n := 2) (by omega) (show 2 ≤ m + 2 by omega)
      exact this
    have hq : 2 ^ (m + 2) ≤ 2 ^ 30 := Nat.pow_le_pow_right (by omega) (by omega)
    have e2 : 2 ^ (m + 3) = 2 * 2 ^ (m + 2) := by rw [Nat.pow_succ]; omega
    have e30 : (2 : Nat) ^ 30 = 1073741824 := by decide
    have eh : w64 ((((2 ^ (m + 3) : Nat)) : Int).tdiv 2) = ((2 ^ (m + 2) : Nat) : Int) := by
      rw [e2, Int.tdiv_eq_ediv_of_nonneg (by omega), w64_id (by omega) (by omega)]
      omega
    refine gspec (e_cons gSq_ok e_nil) (k_cons (kS_ok (P := Try.prog) (f := 14) (g := gRt fun _ => rt (m + 2))) k_nil) Try.func14 (by kernel_rfl) (by kernel_rfl) noL_ok rfl ((xrt_ev fsqrt (fun _ => rt (m + 2)) ((2 ^ (m + 3) : Nat) : Int)).trans ?_)
    rw [eh, gate_pos ih, beq_false_of_ne (show ((2 ^ (m + 3) : Nat) : Int) ≠ 2 by omega), beq_false_of_ne (show ((2 ^ (m + 3) : Nat) : Int) ≠ 4 by omega)]
    rfl
theorem xrb_ev (h : Int → CX) (n : Int) : ev Try.prog [] [kS Try.prog 14 (gRt h)] noL Try.f16 [iA n] ret =
    gate (FSpec Try.prog 14 [iA n] (cA (h n))) (some (Out.of (.cx (h n).1 (fneg (h n).2)))) := by kernel_rfl
theorem xrb_spec (m : Nat) (h1 : 1 ≤ m) (h2 : m ≤ 30) : FSpec Try.prog 16 [iA ((2 ^ m : Nat) : Int)] (cA (rtB true m)) := by
  refine gspec e_nil (k_cons (kS_ok (P := Try.prog) (f := 14) (g := gRt fun _ => rt m)) k_nil) Try.func16 (by kernel_rfl) (by kernel_rfl) noL_ok rfl ((xrb_ev (fun _ => rt m) ((2 ^ m : Nat) : Int)).trans ?_)
  rw [gate_pos (xrt_spec m h1 h2)]
  rfl
/-! ### Every second one -/
def esS (N : Nat) (g : Nat → CX) (a : Int) (h : Nat) (i : Int) (Y : Nat → CX) : St := mkS 28 [(0, sC N g), (1, iA a), (5, .osl 0 1 0 h), (12, iA (h : Nat)), (13, iA i)] [.a 36 1 h fun q => [cA (Y q)]]
def keepEs : List Nat := [0, 1, 5, 12, 13]
def stB (i : Nat) (n : Nat) : Bool := Nat.blt (0 + i) n || false
section
variable (N : Nat) (g : Nat → CX) (a : Int) (h : Nat) (i : Int) (Y : Nat → CX)
def esK (a i : Int) : Int := w64 (w64 (2 * i) + a)
def esN : St := mkS 28 [(0, sC N g), (1, iA a), (5, .osl 0 1 0 h), (12, iA (h : Nat)), (13, iA (w64 (i + 1)))] [.a 36 1 h fun q => mixL (q == 0 + i.toNat) [cA (g (esK a i).toNat)] [cA (Y q)]]
theorem es_step : evC Try.prog [] [] noL (loopAt Try.f20 0) (esS N g a h i Y) (finN keepEs [some 0]) =
    cond (decide (i < (h : Int))) (cond (ixB (esK a i) N || false) (cond (ixB i h || false) (cond (stB i.toNat h) (some ⟨.normal, esN N g a h i Y, .any⟩) none) none) none) none := by kernel_rfl
theorem es_end : evC Try.prog [] [] noL (loopAt Try.f20 0) (esS N g a h i Y) (finE keepEs [some 0]) =
    cond (decide (i < (h : Int))) (cond (ixB (esK a i) N || false) (cond (ixB i h || false) (cond (stB i.toNat h) none none) none) none) (some ⟨.exit 0, esS N g a h i Y, .any⟩) := by kernel_rfl
end
end Go.Proofs.Ytldbbajakgaajaa

namespace Go.Proofs.Ytldbbajakgaajaa
open Go.Gv
open Go.Ev (fadd fsub fmul fdiv fneg fsqrt cn CX cmul cadd csub one64 two64 mone rt rtB pws wv)

def mkX (n : Int) : Bool := decide (0 ≤ n) && (decide (n ≤ n) && decide (((16 : Nat) : Int) * n ≤ 281474976710656))
theorem mkX_t {n : Nat} (h1 : n ≤ 1048576) : mkX (n : Nat) = true := by
  unfold mkX
  rw [decide_eq_true (show (0 : Int) ≤ (n : Int) by omega), decide_eq_true (Int.le_refl _), decide_eq_true (show ((16 : Nat) : Int) * (n : Int) ≤ 281474976710656 by omega)]
  rfl
theorem stB_t {i n : Nat} (h : i < n) : stB i n = true := by unfold stB; rw [Nat.zero_add, blt_t h]; rfl
def hfI (N : Nat) : Int := w64 ((N : Int).tdiv 2)
theorem hfI_eq {h : Nat} (hh : h ≤ 1048576) : hfI (2 * h) = (h : Int) := by
  unfold hfI
  rw [Int.tdiv_eq_ediv_of_nonneg (by omega), w64_id (by omega) (by omega)]
  omega
noncomputable def esL (N : Nat) (g : Nat → CX) (a : Int) (h : Nat) (Y : Nat → CX) : Nat → Option LFun := oneL 3 (toldF keepEs [some 0] (esS N g a h 0 fun _ => (0, 0)) (.exit 0) (esS N g a h (h : Nat) Y))
theorem es_ev (N : Nat) (g : Nat → CX) (a : Int) (Y : Nat → CX) : ev Try.prog [] [] (esL N g a (hfI N).toNat Y) Try.f20 [sC N g, iA a] ret =
    cond (mkX (hfI N) || false) (gate (Sub (esS N g a (hfI N).toNat 0 fun _ => (0, 0)) (esS N g a (hfI N).toNat 0 fun _ => (0, 0))) (some (Out.of (.sl 1 (hfI N).toNat fun i => [cA (Y (0 + i))])))) none := by kernel_rfl
def esV (g : Nat → CX) (a k q : Nat) : CX := cond (Nat.blt q k) (g (2 * q + a)) (0, 0)
theorem es_leads {h : Nat} (hh : h ≤ 1048576) (g : Nat → CX) {a : Nat} (ha : a < 2) : Leads Try.prog (.loop (loopAt Try.f20 0)) (esS (2 * h) g (a : Nat) h 0 fun _ => (0, 0)) (.exit 0) (esS (2 * h) g (a : Nat) h (h : Nat) (esV g a h)) := by
  refine Leads.sub (s1 := esS (2 * h) g (a : Nat) h 0 (esV g a 0)) ?_ (Sub.refl _) (Sub.refl _)
  refine loop_rule (fun i => esS (2 * h) g (a : Nat) h (i : Nat) (esV g a i)) h (.exit 0) _ (by simp) (fun i hi => ?_) ?_
  · have st := es_step (2 * h) g (a : Nat) h (i : Nat) (esV g a i)
    have ek : esK (a : Nat) (i : Nat) = ((2 * i + a : Nat) : Int) := by
      unfold esK
      rw [w64_id (n := 2 * (i : Int)) (by omega) (by omega), w64_id (by omega) (by omega)]
      omega
    unfold esN at st
    rw [ek, dec_lt hi, ixB_t (show 2 * i + a < 2 * h by omega), ixB_t hi, Int.toNat_natCast, stB_t hi, w64_next (by omega), Int.toNat_natCast] at st
    refine (leads_ev (finN_sub keepEs [some 0]) e_nil k_nil noL_ok st).sub (Sub.refl _) ?_
    refine sub_same ⟨Or.inr ⟨36, 1, h, _, _, rfl, rfl, fun q hq => ?_⟩, trivial⟩
    rw [mixC]
    unfold esV
    by_cases e : q = i
    · subst e; rw [Nat.zero_add, BEq.rfl, blt_t (show q < q + 1 by omega)]; rfl
    · rw [Nat.zero_add, beq_false_of_ne e, cond_false]
      by_cases hl : q < i
      · rw [blt_t hl, blt_t (show q < i + 1 by omega)]
      · rw [bltF hl, bltF (show ¬ q < i + 1 by omega)]
  · refine leads_ev (finE_sub keepEs [some 0]) e_nil k_nil noL_ok ((es_end (2 * h) g (a : Nat) h (h : Nat) (esV g a h)).trans ?_)
    rw [dec_self, cond_false]
theorem es_spec {h : Nat} (hh : h ≤ 1048576) (g : Nat → CX) {a : Nat} (ha : a < 2) : FSpec Try.prog 20 [sC (2 * h) g, iA (a : Nat)] (sC h fun i => g (2 * i + a)) := by
  have e1 := hfI_eq hh
  have e2 : (hfI (2 * h)).toNat = h := by rw [e1]; rfl
  have hev := es_ev (2 * h) g (a : Nat) (esV g a h)
  rw [e2, e1, mkX_t hh, gate_pos (Sub.refl _)] at hev
  have h1 := gspec e_nil k_nil Try.func20 (by kernel_rfl) (by kernel_rfl) (lok_at 0 1 (by kernel_rfl) (by kernel_rfl) (toldF_sound (es_leads hh g ha))) rfl hev
  refine FSpec.of_res h1 fun E v hv => sl_like hv fun i hi => ?_
  unfold esV
  rw [Nat.zero_add, blt_t hi]
  rfl
/-! ### Waves -/
def fA (f : Nat) : AV := .fn (.func f) [] []
def wxS (hi : Int) (N h : Nat) (E O : Nat → CX) (w p : CX) (k : Int) (A : Nat → CX) : St := mkS 72 [(6, iA hi), (7, sC h E), (8, sC h O), (9, .osl 0 1 0 N), (10, cA w), (11, cA p), (37, iA hi), (38, iA k)] [.a 36 1 N fun q => [cA (A q)]]
def keepWx : List Nat := [6, 7, 8, 9, 10, 11, 37, 38]
section
variable (pf : CX → CX → CX) (hi : Int) (N h : Nat) (E O : Nat → CX) (w p : CX) (k : Int) (A : Nat → CX)
def wxK (k hi : Int) : Int := w64 (k + hi)
def wxB : Bool := (ixB k h || false) && ((ixB k h || false) && ((ixB k N || false) && (stB k.toNat N && ((ixB (wxK k hi) N || false) && (stB (wxK k hi).toNat N && true)))))
def wxN : St := mkS 72 [(6, iA hi), (7, sC h E), (8, sC h O), (9, .osl 0 1 0 N), (10, cA w), (11, cA (pf p w)), (37, iA hi), (38, iA (w64 (k + 1)))]
  [.a 36 1 N fun q => mixL (q == 0 + (wxK k hi).toNat) [cA (csub (E k.toNat) (pf p (O k.toNat)))] (mixL (q == 0 + k.toNat) [cA (cadd (E k.toNat) (pf p (O k.toNat)))] [cA (A q)])]
theorem wx_step : evC Try.prog [⟨15, gC2 pf⟩] [] noL (loopAt Try.f12 0) (wxS hi N h E O w p k A) (finN keepWx [some 0]) =
    cond (decide (k < hi)) (cond (ixB k h || false) (cond (wxB hi N h k) (some ⟨.normal, wxN pf hi N h E O w p k A, .any⟩) none) none) none := by kernel_rfl
theorem wx_end : evC Try.prog [⟨15, gC2 pf⟩] [] noL (loopAt Try.f12 0) (wxS hi N h E O w p k A) (finE keepWx [some 0]) =
    cond (decide (k < hi)) (cond (ixB k h || false) (cond (wxB hi N h k) none none) none) (some ⟨.exit 0, wxS hi N h E O w p k A, .any⟩) := by kernel_rfl
end
end Go.Proofs.Ytldbbajakgaajaa

namespace Go.Proofs.Ytldbbajakgaajaa
open Go.Gv
open Go.Ev (fadd fsub fmul fdiv fneg fsqrt cn CX cmul cadd csub one64 two64 mone rt rtB pws wv)

abbrev WE : Type := (Nat → List AV) → Nat → CX
def gWe (W : WE) : List AV → AV
  | [.sl _ n el, _] => sC n (W el)
  | _ => .any
def gEs (h : Nat) (G : Int → Nat → CX) : List AV → AV
  | [_, .x (.int .i64 a)] => sC h (G a)
  | _ => .any
section
variable (W : WE) (G : Int → Nat → CX) (rf : Int → CX) (N : Nat) (g : Nat → CX) (h : Nat) (p : CX) (A : Nat → CX)
def eoW (a : Int) : Nat → CX := W fun i => [cA (G a i)]
noncomputable def wxL : Nat → Option LFun := oneL 10 (toldF keepWx [some 0] (wxS (hfI N) N h (eoW W G 0) (eoW W G 1) (rf (N : Nat)) (one64, 0) 0 fun _ => (0, 0)) (.exit 0) (wxS (hfI N) N h (eoW W G 0) (eoW W G 1) (rf (N : Nat)) p (h : Nat) A))
abbrev ESok (a : Int) : Prop := FSpec Try.prog 20 [sC N g, iA a] (sC h (G a))
abbrev WEok (f : Nat) (a : Int) : Prop := FSpec Try.prog 12 [sC h (G a), fA f] (sC h (eoW W G a))
noncomputable def wx3 (f : Nat) : Option Out := cond ((N : Int) == 1) (cond (ixB 0 N || false) (gout (.osl 0 1 0 1) [.a 36 1 1 (chunk [cA (g 0)] 1)]) none)
  (gate (ESok G N g h 0) (gate (WEok W G h f 0) (gate (ESok G N g h 1) (gate (WEok W G h f 1) (cond (mkX (N : Int) || false) (gate (FSpec Try.prog f [iA (N : Int)] (cA (rf (N : Int))))
    (gate (Sub (wxS (hfI N) N h (eoW W G 0) (eoW W G 1) (rf (N : Nat)) (one64, 0) 0 fun _ => (0, 0)) (wxS (hfI N) N h (eoW W G 0) (eoW W G 1) (rf (N : Nat)) (one64, 0) 0 fun _ => (0, 0)))
      (gout (.osl 0 1 0 N) [.a 36 1 N fun q => [cA (A q)]]))) none)))))
theorem wx_evF : evG Try.prog [] [kS Try.prog 12 (gWe W), kS Try.prog 20 (gEs h G), kS Try.prog 14 (gRt rf)] [] (wxL W G rf N h p A) Try.f12 [sC N g, fA 14] [] [some 0] = wx3 W G rf N g h A 14 := by kernel_rfl
theorem wx_evB : evG Try.prog [] [kS Try.prog 12 (gWe W), kS Try.prog 20 (gEs h G), kS Try.prog 16 (gRt rf)] [] (wxL W G rf N h p A) Try.f12 [sC N g, fA 16] [] [some 0] = wx3 W G rf N g h A 16 := by kernel_rfl
theorem wx_ev1 (f : Nat) : evG Try.prog [] [⟨20, fun _ _ => none⟩] [] noL Try.f12 [sC N g, fA f] [] [some 0] = cond ((N : Int) == 1) (cond (ixB 0 N || false) (gout (.osl 0 1 0 1) [.a 36 1 1 (chunk [cA (g 0)] 1)]) none) none := by kernel_rfl
end
end Go.Proofs.Ytldbbajakgaajaa

namespace Go.Proofs.Ytldbbajakgaajaa
open Go.Gv
open Go.Ev (fadd fsub fmul fdiv fneg fsqrt cn CX cmul cadd csub one64 two64 mone rt rtB pws wv)

/-- What has been filled in. -/
def wxA (w : CX) (E O : Nat → CX) (h k q : Nat) : CX := cond (Nat.blt q k) (loW w E O q) (cond (Nat.ble h q && Nat.blt q (h + k)) (hiW w E O (q - h)) (0, 0))
theorem bleF {a b : Nat} (h : ¬ a ≤ b) : Nat.ble a b = false := by
  cases e : Nat.ble a b with
  | false => rfl
  | true => exact absurd (Nat.le_of_ble_eq_true e) h
theorem wxB_t {k h : Nat} (hk : k < h) (hh : h ≤ 1048576) : wxB (h : Nat) (2 * h) h (k : Nat) = true := by
  have e : wxK (k : Nat) (h : Nat) = ((k + h : Nat) : Int) := by unfold wxK; rw [w64_id (by omega) (by omega)]; omega
  unfold wxB
  rw [e, ixB_t hk, ixB_t (show k < 2 * h by omega), ixB_t (show k + h < 2 * h by omega), Int.toNat_natCast, Int.toNat_natCast, stB_t (show k < 2 * h by omega), stB_t (show k + h < 2 * h by omega)]
  rfl
theorem wx_leads {h : Nat} (hh : h ≤ 1048576) (E O : Nat → CX) (w : CX) : Leads Try.prog (.loop (loopAt Try.f12 0)) (wxS (h : Nat) (2 * h) h E O w (one64, 0) 0 fun _ => (0, 0)) (.exit 0) (wxS (h : Nat) (2 * h) h E O w (pws w h) (h : Nat) (wxA w E O h h)) := by
  refine Leads.sub (s1 := wxS (h : Nat) (2 * h) h E O w (one64, 0) 0 (wxA w E O h 0)) (s2 := wxS (h : Nat) (2 * h) h E O w (pws w h) (h : Nat) (wxA w E O h h)) ?_ (sub_same ⟨Or.inr ⟨36, 1, 2 * h, _, _, rfl, rfl, fun q hq => ?_⟩, trivial⟩) (Sub.refl _)
  rotate_left
  · unfold wxA
    rw [bltF (show ¬ q < 0 by omega), cond_false]
    by_cases h1 : h ≤ q
    · rw [bltF (show ¬ q < h + 0 by omega), Bool.and_false]; rfl
    · rw [bleF h1]; rfl
  refine loop_rule (fun k => wxS (h : Nat) (2 * h) h E O w (pws w k) (k : Nat) (wxA w E O h k)) h (.exit 0) _ (by simp) (fun k hk => ?_) ?_
  · have st := wx_step cmul (h : Nat) (2 * h) h E O w (pws w k) (k : Nat) (wxA w E O h k)
    have e : wxK (k : Nat) (h : Nat) = ((k + h : Nat) : Int) := by unfold wxK; rw [w64_id (by omega) (by omega)]; omega
    unfold wxN at st
    rw [dec_lt hk, ixB_t hk, wxB_t hk hh, w64_next (by omega), e, Int.toNat_natCast, Int.toNat_natCast] at st
    refine (leads_ev (finN_sub keepWx [some 0]) (e_cons xPr_ok e_nil) k_nil noL_ok st).sub (Sub.refl _) ?_
    refine sub_same ⟨Or.inr ⟨36, 1, 2 * h, _, _, rfl, rfl, fun q hq => ?_⟩, trivial⟩
    rw [mixC, mixC, Nat.zero_add, Nat.zero_add]
    unfold wxA
    by_cases e1 : q = k + h
    · subst e1
      rw [BEq.rfl, cond_true, bltF (show ¬ k + h < k + 1 by omega), cond_false, ble_t (show h ≤ k + h by omega), blt_t (show k + h < h + (k + 1) by omega), Nat.add_sub_cancel]
      rfl
    · rw [beq_false_of_ne e1, cond_false]
      by_cases e2 : q = k
      · subst e2
        rw [BEq.rfl, cond_true, blt_t (show q < q + 1 by omega), cond_true]
        rfl
      · rw [beq_false_of_ne e2, cond_false]
        by_cases h1 : q < k
        · rw [blt_t h1, blt_t (show q < k + 1 by omega)]; rfl
        · rw [bltF h1, bltF (show ¬ q < k + 1 by omega), cond_false, cond_false]
          by_cases h2 : q < h + k
          · rw [blt_t h2, blt_t (show q < h + (k + 1) by omega)]
          · rw [bltF h2, bltF (show ¬ q < h + (k + 1) by omega)]
  · refine leads_ev (finE_sub keepWx [some 0]) (e_cons xPr_ok e_nil) k_nil noL_ok ((wx_end cmul (h : Nat) (2 * h) h E O w (pws w h) (h : Nat) (wxA w E O h h)).trans ?_)
    rw [dec_self, cond_false]
/-- The row that waves hands back. -/
def wxR (N : Nat) (Y : Nat → CX) : List Row := [.a 36 1 N fun q => [cA (Y q)]]
abbrev WavesG (f N : Nat) (g Y : Nat → CX) : Prop := GSpec Try.prog 12 [sC N g, fA f] [] (.osl 0 1 0 N) (wxR N Y)
theorem plainX (N : Nat) (Y : Nat → CX) : PlainRows (wxR N Y) := by
  intro k e sz c el hk i hi
  match k, hk with
  | 0, hk => cases hk; rfl
  | k + 1, hk => simp [wxR] at hk
theorem waves_F {f N : Nat} {g Y : Nat → CX} (h : WavesG f N g Y) : FSpec Try.prog 12 [sC N g, fA f] (sC N Y) := by
  have h1 := (fresh_rows h (by show (Nat.beq 1 1 && Nat.ble (0 + N) N) = true; rw [Nat.zero_add, ble_t (Nat.le_refl N)]; rfl) (plainX N Y)).spec rfl rfl
  refine FSpec.of_res h1 fun E v hv => ?_
  have hv' : rel E (.sl 1 N fun i => [cA (Y (0 + i))]) v := hv
  refine sl_like hv' fun i hi => ?_
  rw [Nat.zero_add]
def rtN (b : Bool) : Nat := cond b 16 14
theorem rtN_spec (b : Bool) (m : Nat) (h1 : 1 ≤ m) (h2 : m ≤ 30) : FSpec Try.prog (rtN b) [iA ((2 ^ m : Nat) : Int)] (cA (rtB b m)) := by
  cases b
  · exact xrt_spec m h1 h2
  · exact xrb_spec m h1 h2
/-- THE WAVES. -/
theorem waves_G (b : Bool) : ∀ (m : Nat), m ≤ 20 → ∀ g : Nat → CX, WavesG (rtN b) (2 ^ m) g (wv b m g)
  | 0, _, g => by
    have h1 : GSpec Try.prog 12 [sC 1 g, fA (rtN b)] [] (.osl 0 1 0 1) [.a 36 1 1 (chunk [cA (g 0)] 1)] := by
      refine gspecG (mem := []) e_nil (k_cons (kno_ok _) k_nil) m_nil Try.func12 (by kernel_rfl) (by kernel_rfl) noL_ok rfl (by kernel_rfl) ((wx_ev1 1 g (rtN b)).trans ?_)
      rfl
    refine GSpec.of_rows h1 ⟨Or.inr ⟨36, 1, 1, _, _, rfl, rfl, fun i hi => ?_⟩, trivial⟩
    obtain rfl : i = 0 := by omega
    rfl
  | m + 1, hm, g => by
    have e2 : 2 ^ (m + 1) = 2 * 2 ^ m := by rw [Nat.pow_succ]; omega
    have hp0 : 0 < 2 ^ m := Nat.two_pow_pos m
    have hh : 2 ^ m ≤ 1048576 := Nat.le_trans (Nat.pow_le_pow_right (by decide) (show m ≤ 20 by omega)) (by decide)
    have c1 := waves_F (waves_G b m (by omega) fun i => g (2 * i + 0))
    have c2 := waves_F (waves_G b m (by omega) fun i => g (2 * i + 1))
    have s1 := es_spec hh g (a := 0) (by omega)
    have s2 := es_spec hh g (a := 1) (by omega)
    have cr := rtN_spec b (m + 1) (by omega) (by omega)
    let G : Int → Nat → CX := fun a i => g (2 * i + a.toNat)
    let W : WE := fun el => wv b m fun i => (match el i with | [.cx x y] => (x, y) | _ => (0, 0))
    let E : Nat → CX := wv b m fun i => g (2 * i)
    let O : Nat → CX := wv b m fun i => g (2 * i + 1)
    have eE : eoW W G 0 = E := rfl
    have eO : eoW W G 1 = O := rfl
    have hl := wx_leads (h := 2 ^ m) hh E O (rtB b (m + 1))
    rw [e2] at cr ⊢
    have eh := hfI_eq hh
    have hL : LOk Try.prog (wxL W G (fun _ => rtB b (m + 1)) (2 * 2 ^ m) (2 ^ m) (pws (rtB b (m + 1)) (2 ^ m)) (wxA (rtB b (m + 1)) E O (2 ^ m) (2 ^ m))) (bodyOf Try.f12) := by
      unfold wxL
      rw [eh]
      exact lok_at 0 1 (by kernel_rfl) (by kernel_rfl) (toldF_sound hl)
    have fin : wx3 W G (fun _ => rtB b (m + 1)) (2 * 2 ^ m) g (2 ^ m) (wxA (rtB b (m + 1)) E O (2 ^ m) (2 ^ m)) (rtN b) = gout (.osl 0 1 0 (2 * 2 ^ m)) (wxR (2 * 2 ^ m) (wxA (rtB b (m + 1)) E O (2 ^ m) (2 ^ m))) := by
      unfold wx3
      rw [beq_false_of_ne (show ((2 * 2 ^ m : Nat) : Int) ≠ 1 by omega), cond_false, gate_pos (show ESok G (2 * 2 ^ m) g (2 ^ m) 0 from s1), gate_pos (show WEok W G (2 ^ m) (rtN b) 0 from c1), gate_pos (show ESok G (2 * 2 ^ m) g (2 ^ m) 1 from s2), gate_pos (show WEok W G (2 ^ m) (rtN b) 1 from c2), mkX_t (n := 2 * 2 ^ m) (by
        have : 2 * 2 ^ m = 2 ^ (m + 1) := e2.symm
        rw [this]
        exact Nat.le_trans (Nat.pow_le_pow_right (by decide) hm) (by decide)), gate_pos cr, gate_pos (Sub.refl _)]
      rfl
    have h1 : GSpec Try.prog 12 [sC (2 * 2 ^ m) g, fA (rtN b)] [] (.osl 0 1 0 (2 * 2 ^ m)) (wxR (2 * 2 ^ m) (wxA (rtB b (m + 1)) E O (2 ^ m) (2 ^ m))) := by
      cases b
      · exact gspecG (mem := []) e_nil (k_cons kS_ok (k_cons kS_ok (k_cons kS_ok k_nil))) m_nil Try.func12 (by kernel_rfl) (by kernel_rfl) hL rfl (by kernel_rfl) ((wx_evF W G (fun _ => rtB false (m + 1)) (2 * 2 ^ m) g (2 ^ m) _ _).trans fin)
      · exact gspecG (mem := []) e_nil (k_cons kS_ok (k_cons kS_ok (k_cons kS_ok k_nil))) m_nil Try.func12 (by kernel_rfl) (by kernel_rfl) hL rfl (by kernel_rfl) ((wx_evB W G (fun _ => rtB true (m + 1)) (2 * 2 ^ m) g (2 ^ m) _ _).trans fin)
    refine GSpec.of_rows h1 ⟨Or.inr ⟨36, 1, 2 * 2 ^ m, _, _, rfl, rfl, fun q hq => ?_⟩, trivial⟩
    unfold wxA
    by_cases hq1 : q < 2 ^ m
    · rw [blt_t hq1, cond_true]
      show [cA (cond (Nat.blt q (2 ^ m)) _ _)] = _
      rw [blt_t hq1, cond_true]
      rfl
    · rw [bltF hq1, cond_false, ble_t (show 2 ^ m ≤ q by omega), blt_t (show q < 2 ^ m + 2 ^ m by omega)]
      show [cA (cond (Nat.blt q (2 ^ m)) _ _)] = _
      rw [bltF hq1, cond_false]
      rfl
end Go.Proofs.Ytldbbajakgaajaa

namespace Go.Proofs.Ytldbbajakgaajaa
open Go.Gv

def isB (n : Int) : Bool := cond (cond (decide (n ≥ 1)) (decide (n ≤ 64)) false) (IntKind.i64.wrap (((BitVec.ofInt IntKind.i64.bits n &&& BitVec.ofInt IntKind.i64.bits (IntKind.i64.wrap (n - 1))).toNat : Nat) : Int) == 0) false
theorem is_ev (n : Int) : ev Try.prog [] [] noL Try.f10 [iA n] ret = some (Out.of (bA (isB n))) := by kernel_rfl
def gIs (lf : Int → Bool) : List AV → Option AV
  | [.x (.int .i64 n)] => some (bA (lf n))
  | _ => none
theorem gIs_ok : EOk Try.prog ⟨10, gIs isB⟩ := fun args r hr => by
  simp only [gIs] at hr
  split at hr
  · cases hr; exact Or.inl (gspec e_nil k_nil Try.func10 (by kernel_rfl) (by kernel_rfl) noL_ok rfl (is_ev _))
  · cases hr
theorem isB_all : ∀ n : Fin 65, isB ((n.val : Nat) : Int) = (n.val == 1 || (n.val == 2 || (n.val == 4 || (n.val == 8 || (n.val == 16 || (n.val == 32 || n.val == 64)))))) := by decide
theorem isB_eq (n : Nat) : isB (n : Int) = (n == 1 || (n == 2 || (n == 4 || (n == 8 || (n == 16 || (n == 32 || n == 64)))))) := by
  by_cases h : n < 65
  · exact isB_all ⟨n, h⟩
  · have e : isB (n : Int) = false := by
      unfold isB
      rw [decide_eq_false (show ¬ (n : Int) ≤ 64 by omega)]
      cases decide ((n : Int) ≥ 1) <;> rfl
    rw [e, beq_false_of_ne (show n ≠ 1 by omega), beq_false_of_ne (show n ≠ 2 by omega), beq_false_of_ne (show n ≠ 4 by omega), beq_false_of_ne (show n ≠ 8 by omega), beq_false_of_ne (show n ≠ 16 by omega), beq_false_of_ne (show n ≠ 32 by omega), beq_false_of_ne (show n ≠ 64 by omega)]
    rfl
theorem isB_pow {m : Nat} (h : m ≤ 6) : isB ((2 ^ m : Nat) : Int) = true := by
  rw [isB_eq]
  have : m = 0 ∨ m = 1 ∨ m = 2 ∨ m = 3 ∨ m = 4 ∨ m = 5 ∨ m = 6 := by omega
  rcases this with rfl | rfl | rfl | rfl | rfl | rfl | rfl <;> decide
end Go.Proofs.Ytldbbajakgaajaa

namespace Go.Proofs.Ytldbbajakgaajaa
open Go.Gv
open Go.Ev (fadd fdiv cn CX cmul cadd csub one64 flr wv)

/-! ### Values -/
def ovB (x : Int) : Bool := cond (decide (x < 0)) true (decide (x > 255))
def avS (n : Nat) (g : Nat → Int) (i : Int) : St := mkS 18 [(5, sI n g), (6, iA (n : Nat)), (7, iA i)] []
def avE : St := mkS 18 [(2, bA false)] []
def keepAv : List Nat := [5, 6, 7]
section
variable (n : Nat) (g : Nat → Int) (i : Int)
def avC (n : Nat) (i x : Int) (bad good fin : Option Out) : Option Out := cond (decide (i < (n : Int))) (cond (ixB i n || false) (cond (ovB x) bad good) none) fin
theorem av_step : evC Try.prog [] [] noL (loopAt Try.f11 0) (avS n g i) (finN keepAv []) = avC n i (g i.toNat) none (some ⟨.normal, avS n g (w64 (i + 1)), .any⟩) none := by kernel_rfl
theorem av_ret : evC Try.prog [] [] noL (loopAt Try.f11 0) (avS n g i) (finR [2] []) = avC n i (g i.toNat) (some ⟨.ret, avE, .any⟩) none none := by kernel_rfl
theorem av_end : evC Try.prog [] [] noL (loopAt Try.f11 0) (avS n g i) (finE keepAv []) = avC n i (g i.toNat) none none (some ⟨.exit 0, avS n g i, .any⟩) := by kernel_rfl
noncomputable def avL (e : Exit) (z : St) : Nat → Option LFun := oneL 2 (toldF keepAv [] (avS n g 0) e z)
theorem av_ev : ev Try.prog [] [] (avL n g (.exit 0) (avS n g (n : Nat))) Try.f11 [sI n g] ret = gate (Sub (avS n g 0) (avS n g 0)) (some (Out.of (bA true))) := by kernel_rfl
theorem av_evR : ev Try.prog [] [] (avL n g .ret avE) Try.f11 [sI n g] ret = gate (Sub (avS n g 0) (avS n g 0)) (some (Out.of (bA false))) := by kernel_rfl
end
theorem av_step1 {n : Nat} (hn : n ≤ 1000) (g : Nat → Int) {i : Nat} (hi : i < n) (hv : ovB (g i) = false) : Leads Try.prog (loopAt Try.f11 0) (avS n g (i : Nat)) .normal (avS n g (i + 1 : Nat)) := by
  refine leads_ev (finN_sub keepAv []) e_nil k_nil noL_ok ((av_step n g (i : Nat)).trans ?_)
  unfold avC
  rw [dec_lt hi, ixB_t hi, Int.toNat_natCast, hv, w64_next (by omega)]
  rfl
theorem av_spec {n : Nat} (hn : n ≤ 1000) (g : Nat → Int) : FSpec Try.prog 11 [sI n g] (bA (allI n fun i => !ovB (g i))) := by
  rcases all_or_first (fun i => !ovB (g i)) n with hl | ⟨K, hK, hq, hr⟩
  · rw [allI_t hl]
    refine gspec e_nil k_nil Try.func11 (by kernel_rfl) (by kernel_rfl) (lok_at 0 1 (by kernel_rfl) (by kernel_rfl) (toldF_sound ?_)) rfl ((av_ev n g).trans (gate_pos (Sub.refl _)))
    refine loop_rule (fun i => avS n g (i : Nat)) n (.exit 0) _ (by simp) (fun i hi => av_step1 hn g hi (by simpa using hl i hi)) ?_
    refine leads_ev (finE_sub keepAv []) e_nil k_nil noL_ok ((av_end n g (n : Nat)).trans ?_)
    unfold avC
    rw [dec_self, cond_false]
  · rw [allI_f hK hq]
    refine gspec e_nil k_nil Try.func11 (by kernel_rfl) (by kernel_rfl) (lok_at 0 1 (by kernel_rfl) (by kernel_rfl) (toldF_sound ?_)) rfl ((av_evR n g).trans (gate_pos (Sub.refl _)))
    refine loop_rule (fun i => avS n g (i : Nat)) K .ret _ (by simp) (fun i hi => av_step1 hn g (by omega) (by simpa using hr i hi)) ?_
    refine leads_ev (finR_sub [2] []) e_nil k_nil noL_ok ((av_ret n g (K : Nat)).trans ?_)
    unfold avC
    have hq' : ovB (g K) = true := by simpa using hq
    rw [dec_lt hK, ixB_t hK, Int.toNat_natCast, hq']
    rfl
/-! ### Complex numbers -/
def cxS (n : Nat) (g : Nat → Int) (i : Int) (Y : Nat → CX) : St := mkS 24 [(3, .osl 0 1 0 n), (9, sI n g), (10, iA (n : Nat)), (11, iA i)] [.a 36 1 n fun q => [cA (Y q)]]
def keepCx : List Nat := [3, 9, 10, 11]
section
variable (n : Nat) (g : Nat → Int) (i : Int) (Y Z : Nat → CX)
def cxC (n : Nat) (i : Int) (o e : Option Out) : Option Out := cond (decide (i < (n : Int))) (cond (ixB i n || false) (cond (ixB i n || false) (cond (stB i.toNat n) o none) none) none) e
def cxN : St := mkS 24 [(3, .osl 0 1 0 n), (9, sI n g), (10, iA (n : Nat)), (11, iA (w64 (i + 1)))] [.a 36 1 n fun q => mixL (q == 0 + i.toNat) [cA (toC (g i.toNat))] [cA (Y q)]]
theorem cx_step : evC Try.prog [] [] noL (loopAt Try.f13 0) (cxS n g i Y) (finN keepCx [some 0]) = cxC n i (some ⟨.normal, cxN n g i Y, .any⟩) none := by kernel_rfl
theorem cx_end : evC Try.prog [] [] noL (loopAt Try.f13 0) (cxS n g i Y) (finE keepCx [some 0]) = cxC n i none (some ⟨.exit 0, cxS n g i Y, .any⟩) := by kernel_rfl
noncomputable def cxL : Nat → Option LFun := oneL 3 (toldF keepCx [some 0] (cxS n g 0 fun _ => (0, 0)) (.exit 0) (cxS n g (n : Nat) Z))
theorem cx_ev : ev Try.prog [] [] (cxL n g Z) Try.f13 [sI n g] ret = cond (mkX (n : Nat) || false) (gate (Sub (cxS n g 0 fun _ => (0, 0)) (cxS n g 0 fun _ => (0, 0))) (some (Out.of (.sl 1 n fun i => [cA (Z (0 + i))])))) none := by kernel_rfl
end
def cxV (g : Nat → Int) (k q : Nat) : CX := cond (Nat.blt q k) (toC (g q)) (0, 0)
theorem cx_spec {n : Nat} (hn : n ≤ 1000) (g : Nat → Int) : FSpec Try.prog 13 [sI n g] (sC n (rdA g)) := by
  have hl : Leads Try.prog (.loop (loopAt Try.f13 0)) (cxS n g 0 fun _ => (0, 0)) (.exit 0) (cxS n g (n : Nat) (cxV g n)) := by
    refine Leads.sub (s1 := cxS n g 0 (cxV g 0)) (s2 := cxS n g (n : Nat) (cxV g n)) ?_ (Sub.refl _) (Sub.refl _)
    refine loop_rule (fun i => cxS n g (i : Nat) (cxV g i)) n (.exit 0) _ (by simp) (fun i hi => ?_) ?_
    · have st := cx_step n g (i : Nat) (cxV g i)
      unfold cxC cxN at st
      rw [dec_lt hi, ixB_t hi, Int.toNat_natCast, stB_t hi, w64_next (by omega)] at st
      refine (leads_ev (finN_sub keepCx [some 0]) e_nil k_nil noL_ok st).sub (Sub.refl _) ?_
      refine sub_same ⟨Or.inr ⟨36, 1, n, _, _, rfl, rfl, fun q hq => ?_⟩, trivial⟩
      rw [mixC, Nat.zero_add]
      unfold cxV
      by_cases e : q = i
      · subst e; rw [BEq.rfl, blt_t (show q < q + 1 by omega)]; rfl
      · rw [beq_false_of_ne e, cond_false]
        by_cases h1 : q < i
        · rw [blt_t h1, blt_t (show q < i + 1 by omega)]
        · rw [bltF h1, bltF (show ¬ q < i + 1 by omega)]
    · refine leads_ev (finE_sub keepCx [some 0]) e_nil k_nil noL_ok ((cx_end n g (n : Nat) (cxV g n)).trans ?_)
      unfold cxC
      rw [dec_self, cond_false]
  have hev := cx_ev n g (cxV g n)
  rw [mkX_t (by omega), gate_pos (Sub.refl _)] at hev
  have h1 := gspec e_nil k_nil Try.func13 (by kernel_rfl) (by kernel_rfl) (lok_at 0 1 (by kernel_rfl) (by kernel_rfl) (toldF_sound hl)) rfl hev
  refine FSpec.of_res h1 fun E v hv => sl_like hv fun i hi => ?_
  unfold cxV
  rw [Nat.zero_add, blt_t hi]
  rfl
/-! ### Round's loops -/
def lrS (n : Nat) (g : Nat → Int) (A B : Nat → CX) (i : Int) : St := mkS 78 [(0, sI n g), (6, .osl 0 1 0 n), (36, .osl 1 1 0 n), (37, iA (n : Nat)), (38, iA i)] [.a 36 1 n fun q => [cA (A q)], .a 36 1 n fun q => [cA (B q)]]
def lrZ (n : Nat) (g : Nat → Int) (A B : Nat → CX) : St := mkS 78 [(0, sI n g), (6, sC n A), (36, .osl 1 1 0 n), (37, iA (n : Nat)), (38, iA (n : Nat))] [.dead, .a 36 1 n fun q => [cA (B q)]]
def keepLr : List Nat := [0, 6, 36, 37, 38]
section
variable (pf : CX → CX → CX) (n : Nat) (g : Nat → Int) (A B : Nat → CX) (i : Int)
def lrC (n : Nat) (i : Int) (o e : Option Out) : Option Out := cond (decide (i < (n : Int))) (cond (ixB i n || false) (cond (stB i.toNat n) (cond (ixB i n || false) (cond (stB i.toNat n) (cond (ixB i n || false) (cond (stB i.toNat n) o none) none) none) none) none) none) e
def lrN : St := mkS 78 [(0, sI n g), (6, .osl 0 1 0 n), (36, .osl 1 1 0 n), (37, iA (n : Nat)), (38, iA (w64 (i + 1)))] [.a 36 1 n fun q => mixL (q == 0 + i.toNat) [cA (pf (A (0 + i.toNat)) (B (0 + i.toNat)))] [cA (A q)], .a 36 1 n fun q => [cA (B q)]]
theorem lr_step : evC Try.prog [⟨15, gC2 pf⟩] [] noL (loopAt Try.f5 0) (lrS n g A B i) (finN keepLr [some 0, some 1]) = lrC n i (some ⟨.normal, lrN pf n g A B i, .any⟩) none := by kernel_rfl
theorem lr_end : evC Try.prog [⟨15, gC2 pf⟩] [] noL (loopAt Try.f5 0) (lrS n g A B i) (finE keepLr [some 0, some 1]) = lrC n i none (some ⟨.exit 0, lrS n g A B i, .any⟩) := by kernel_rfl
end
def lzS (n : Nat) (g : Nat → Int) (C : Nat → CX) (i : Int) (Z : Nat → Int) : St := mkS 78 [(0, sI n g), (9, .osl 0 1 0 n), (57, .osl 1 1 0 n), (58, iA (n : Nat)), (59, iA i)] [.a 3 1 n fun q => [iA (Z q)], .a 36 1 n fun q => [cA (C q)]]
def keepLz : List Nat := [0, 9, 57, 58, 59]
section
variable (fl : Nat → Nat) (n : Nat) (g : Nat → Int) (C : Nat → CX) (i : Int) (Z : Nat → Int)
def lzC (fl : Nat → Nat) (C : Nat → CX) (n : Nat) (i : Int) (o e : Option Out) : Option Out := cond (decide (i < (n : Int))) (cond (ixB i n || false) (cond (stB i.toNat n) (cond (fitI .i64 (fl (rdX n (C (0 + i.toNat)))) || false) (cond (ixB i n || false) (cond (stB i.toNat n) o none) none) none) none) none) e
def lzN : St := mkS 78 [(0, sI n g), (9, .osl 0 1 0 n), (57, .osl 1 1 0 n), (58, iA (n : Nat)), (59, iA (w64 (i + 1)))] [.a 3 1 n fun q => mixL (q == 0 + i.toNat) [iA (f2i .i64 (fl (rdX n (C (0 + i.toNat)))))] [iA (Z q)], .a 36 1 n fun q => [cA (C q)]]
theorem lz_step : evC Try.prog [⟨17, gFl fl⟩] [] noL (loopAt Try.f5 1) (lzS n g C i Z) (finN keepLz [some 0, some 1]) = lzC fl C n i (some ⟨.normal, lzN fl n g C i Z, .any⟩) none := by kernel_rfl
theorem lz_end : evC Try.prog [⟨17, gFl fl⟩] [] noL (loopAt Try.f5 1) (lzS n g C i Z) (finE keepLz [some 0, some 1]) = lzC fl C n i none (some ⟨.exit 2, lzS n g C i Z, .any⟩) := by kernel_rfl
end
end Go.Proofs.Ytldbbajakgaajaa

namespace Go.Proofs.Ytldbbajakgaajaa
open Go.Gv
open Go.Ev (fadd fdiv cn CX cmul cadd csub one64 flr wv)

abbrev AF : Type := Nat → (Nat → List AV) → Bool
def gAv (af : AF) : List AV → AV
  | [.sl _ n el] => bA (af n el)
  | _ => .any
def gCx (cf : WE) : List AV → AV
  | [.sl _ n el] => sC n (cf el)
  | _ => .any
def gWv' : List AV → AV
  | [.sl _ n _, _] => .osl 0 1 0 n
  | _ => .any
def gWm (W : Nat → WE) : List AV → List Row
  | [.sl _ n el, .fn (.func f) _ _] => wxR n (W f el)
  | _ => []
def elI (g : Nat → Int) : Nat → List AV := fun i => [iA (g i)]
def elC (A : Nat → CX) : Nat → List AV := fun i => [cA (A i)]
def cntX (lf : Int → Bool) (n n' : Nat) : Bool := cond (!((n : Int) == (n' : Int))) true (!lf (n : Int))
def mk8 (n : Int) : Bool := decide (0 ≤ n) && (decide (n ≤ n) && decide (((8 : Nat) : Int) * n ≤ 281474976710656))
theorem mk8_t {n : Nat} (h1 : n ≤ 1000) : mk8 (n : Nat) = true := by
  unfold mk8
  rw [decide_eq_true (show (0 : Int) ≤ (n : Int) by omega), decide_eq_true (Int.le_refl _), decide_eq_true (show ((8 : Nat) : Int) * (n : Int) ≤ 281474976710656 by omega)]
  rfl
section
variable (lf : Int → Bool) (af : AF) (cf : WE) (W : Nat → WE) (n n' : Nat) (g h : Nat → Int) (P : Nat → CX) (Z : Nat → Int)
theorem cr_ev0 : evM Try.prog [⟨10, gIs lf⟩] [⟨11, fun _ _ => none⟩] [] noL Try.f5 [sI n g, sI n' h] ret = cond (cntX lf n n') (rBad 5) none := by kernel_rfl
def crA (g : Nat → Int) : Nat → CX := W 14 (elC (cf (elI g)))
def crC : Nat → CX := W 16 (elC P)
noncomputable def crL : Nat → Option LFun := twoL 7 (toldF keepLr [some 0, some 1] (lrS n g (crA cf W g) (crA cf W h) 0) (.exit 0) (lrZ n g P (crA cf W h))) 13 (toldF keepLz [some 2, some 3] (lzS n g (crC W P) 0 fun _ => 0) (.exit 2) (lzS n g (crC W P) (n : Nat) Z))
abbrev AVok (g : Nat → Int) : Prop := FSpec Try.prog 11 [sI n g] (bA (af n (elI g)))
abbrev CXok (g : Nat → Int) : Prop := FSpec Try.prog 13 [sI n g] (sC n (cf (elI g)))
noncomputable def crV (R : Option Out) : Option Out := cond (cntX lf n n) (rBad 5) (gate (AVok af n g) (gate (AVok af n h) (cond (cond (!af n (elI g)) true (!af n (elI h))) (rBad 6) R)))
noncomputable def crT : Option Out := gate (CXok cf n g) (cond (propB (WavesG 14 n (cf (elI g)) (crA cf W g))) (gate (CXok cf n h) (cond (propB (WavesG 14 n (cf (elI h)) (crA cf W h)))
  (gate (Sub (lrS n g (crA cf W g) (crA cf W h) 0) (lrS n g (crA cf W g) (crA cf W h) 0)) (cond (mk8 (n : Nat) || false) (cond (propB (WavesG 16 n P (crC W P)))
    (gate (Sub (lzS n g (crC W P) 0 fun _ => 0) (lzS n g (crC W P) 0 fun _ => 0)) (some (Out.of (.tup [.sl 1 n fun i => [iA (Z (0 + i))], iA 0])))) none) none)) none)) none)
theorem cr_ev6 : evM Try.prog [⟨10, gIs lf⟩] [kS Try.prog 11 (gAv af), ⟨13, fun _ _ => none⟩] [] noL Try.f5 [sI n g, sI n h] ret = crV lf af n g h none := by kernel_rfl
theorem cr_ev : evM Try.prog [⟨10, gIs lf⟩] [kS Try.prog 11 (gAv af), kS Try.prog 13 (gCx cf)] [mR Try.prog 12 gWv' (gWm W)] (crL cf W n g h P Z) Try.f5 [sI n g, sI n h] ret = crV lf af n g h (crT cf W n g h P Z) := by kernel_rfl
end
end Go.Proofs.Ytldbbajakgaajaa

namespace Go.Proofs.Ytldbbajakgaajaa
open Go.Gv
open Go.Ev (fadd fdiv cn CX cmul cadd csub one64 flr wv)

theorem lr_leads {n : Nat} (hn : n ≤ 1000) (g : Nat → Int) (A B : Nat → CX) : Leads Try.prog (.loop (loopAt Try.f5 0)) (lrS n g A B 0) (.exit 0) (lrZ n g (fun q => cmul (A q) (B q)) B) := by
  let V : Nat → Nat → CX := fun k q => cond (Nat.blt q k) (cmul (A q) (B q)) (A q)
  have h1 : Leads Try.prog (.loop (loopAt Try.f5 0)) (lrS n g A B 0) (.exit 0) (lrS n g (fun q => cmul (A q) (B q)) B (n : Nat)) := by
    refine Leads.sub (s1 := lrS n g (V 0) B 0) (s2 := lrS n g (V n) B (n : Nat)) ?_ (sub_same ⟨Or.inr ⟨36, 1, n, _, _, rfl, rfl, fun q hq => ?_⟩, Or.inl rfl, trivial⟩) (sub_same ⟨Or.inr ⟨36, 1, n, _, _, rfl, rfl, fun q hq => ?_⟩, Or.inl rfl, trivial⟩)
    rotate_left
    · show [cA (cond (Nat.blt q 0) (cmul (A q) (B q)) (A q))] = [cA (A q)]
      rw [bltF (show ¬ q < 0 by omega), cond_false]
    · show [cA (cmul (A q) (B q))] = [cA (cond (Nat.blt q n) (cmul (A q) (B q)) (A q))]
      rw [blt_t hq, cond_true]
    refine loop_rule (fun i => lrS n g (V i) B (i : Nat)) n (.exit 0) _ (by simp) (fun i hi => ?_) ?_
    · have st := lr_step cmul n g (V i) B (i : Nat)
      unfold lrC lrN at st
      rw [dec_lt hi, ixB_t hi, Int.toNat_natCast, stB_t hi, w64_next (by omega)] at st
      refine (leads_ev (finN_sub keepLr [some 0, some 1]) (e_cons xPr_ok e_nil) k_nil noL_ok st).sub (Sub.refl _) ?_
      refine sub_same ⟨Or.inr ⟨36, 1, n, _, _, rfl, rfl, fun q hq => ?_⟩, Or.inl rfl, trivial⟩
      rw [mixC, Nat.zero_add]
      show [cA (cond (Nat.blt q (i + 1)) (cmul (A q) (B q)) (A q))] = [cA (cond (q == i) (cmul (cond (Nat.blt i i) (cmul (A i) (B i)) (A i)) (B i)) (cond (Nat.blt q i) (cmul (A q) (B q)) (A q)))]
      by_cases e : q = i
      · subst e; rw [BEq.rfl, blt_t (show q < q + 1 by omega), bltF (show ¬ q < q by omega)]; rfl
      · rw [beq_false_of_ne e, cond_false]
        by_cases h1 : q < i
        · rw [blt_t h1, blt_t (show q < i + 1 by omega)]
        · rw [bltF h1, bltF (show ¬ q < i + 1 by omega)]
    · refine leads_ev (finE_sub keepLr [some 0, some 1]) (e_cons xPr_ok e_nil) k_nil noL_ok ((lr_end cmul n g (V n) B (n : Nat)).trans ?_)
      unfold lrC
      rw [dec_self, cond_false]
  refine h1.sub (Sub.refl _) ?_
  refine sub_freezeM (k := 0) (e := 36) (sz := 1) (n := n) (el := fun q => [cA (cmul (A q) (B q))]) rfl (fun j row hj => ?_) ⟨rfl, Or.inl rfl, rfl, Or.inr ⟨rfl, rfl⟩, rfl, Or.inl rfl, rfl, Or.inl rfl, rfl, Or.inl rfl, trivial⟩
  match j, hj with
  | 0, hj => exact ⟨.dead, rfl, Or.inl ⟨rfl, rfl⟩⟩
  | 1, hj => exact ⟨_, rfl, Or.inr ⟨by decide, Or.inl (by cases hj; rfl)⟩⟩
  | j + 2, hj => cases hj
theorem lz_leads {n : Nat} (hn : n ≤ 1000) (g : Nat → Int) (C : Nat → CX) (hf : ∀ i, i < n → fitI .i64 (flr (rdX n (C i))) = true) : Leads Try.prog (.loop (loopAt Try.f5 1)) (lzS n g C 0 fun _ => 0) (.exit 2) (lzS n g C (n : Nat) fun q => f2i .i64 (flr (rdX n (C q)))) := by
  let V : Nat → Nat → Int := fun k q => cond (Nat.blt q k) (f2i .i64 (flr (rdX n (C q)))) 0
  refine Leads.sub (s1 := lzS n g C 0 (V 0)) (s2 := lzS n g C (n : Nat) (V n)) ?_ (Sub.refl _) (sub_same ⟨Or.inr ⟨3, 1, n, _, _, rfl, rfl, fun q hq => ?_⟩, Or.inl rfl, trivial⟩)
  rotate_left
  · show [iA (f2i .i64 (flr (rdX n (C q))))] = [iA (cond (Nat.blt q n) (f2i .i64 (flr (rdX n (C q)))) 0)]
    rw [blt_t hq, cond_true]
  refine loop_rule (fun i => lzS n g C (i : Nat) (V i)) n (.exit 2) _ (by simp) (fun i hi => ?_) ?_
  · have st := lz_step flr n g C (i : Nat) (V i)
    unfold lzC lzN at st
    rw [dec_lt hi, ixB_t hi, Int.toNat_natCast, stB_t hi, w64_next (by omega), Nat.zero_add, hf i hi] at st
    refine (leads_ev (finN_sub keepLz [some 0, some 1]) (e_cons gFl_ok e_nil) k_nil noL_ok st).sub (Sub.refl _) ?_
    refine sub_same ⟨Or.inr ⟨3, 1, n, _, _, rfl, rfl, fun q hq => ?_⟩, Or.inl rfl, trivial⟩
    rw [mixI]
    show [iA (cond (Nat.blt q (i + 1)) (f2i .i64 (flr (rdX n (C q)))) 0)] = [iA (cond (q == i) (f2i .i64 (flr (rdX n (C i)))) (cond (Nat.blt q i) (f2i .i64 (flr (rdX n (C q)))) 0))]
    by_cases e : q = i
    · subst e; rw [BEq.rfl, blt_t (show q < q + 1 by omega)]; rfl
    · rw [beq_false_of_ne e, cond_false]
      by_cases h1 : q < i
      · rw [blt_t h1, blt_t (show q < i + 1 by omega)]
      · rw [bltF h1, bltF (show ¬ q < i + 1 by omega)]
  · refine leads_ev (finE_sub keepLz [some 0, some 1]) (e_cons gFl_ok e_nil) k_nil noL_ok ((lz_end flr n g C (n : Nat) (V n)).trans ?_)
    unfold lzC
    rw [dec_self, cond_false]
theorem cntX_eq (n n' : Nat) : cntX isB n n' = rdCnt n n' := by
  unfold cntX rdCnt
  cases (n : Int) == (n' : Int)
  · rfl
  · show (!isB (n : Int)) = cntB (n : Int)
    rw [isB_eq]
    unfold cntB
    have e : ∀ k : Nat, ((n : Int) == (k : Int)) = (n == k) := fun k => by
      by_cases h : n = k
      · subst h; rw [BEq.rfl, BEq.rfl]
      · rw [beq_false_of_ne h, beq_false_of_ne (show (n : Int) ≠ (k : Int) by omega)]
    rw [show ((n : Int) == 1) = (n == 1) from e 1, show ((n : Int) == 2) = (n == 2) from e 2, show ((n : Int) == 4) = (n == 4) from e 4, show ((n : Int) == 8) = (n == 8) from e 8, show ((n : Int) == 16) = (n == 16) from e 16, show ((n : Int) == 32) = (n == 32) from e 32, show ((n : Int) == 64) = (n == 64) from e 64]
    cases n == 1 <;> cases n == 2 <;> cases n == 4 <;> cases n == 8 <;> cases n == 16 <;> cases n == 32 <;> cases n == 64 <;> rfl
theorem vB_ov (x y : Int) : vB x y = (ovB x || ovB y) := by
  unfold vB ovB
  cases decide (x < 0) <;> cases decide (x > 255) <;> cases decide (y < 0) <;> cases decide (y > 255) <;> rfl
def iOf (el : Nat → List AV) (q : Nat) : Int := match el q with
  | [.x (.int _ z)] => z
  | _ => 0
/-- What the code gives is what the document asks. -/
theorem roundOk : RoundOk := fun n n' g h _ _ => by
  unfold rdOut rdE0
  cases hc : rdCnt n n'
  · obtain ⟨rfl, m, hm, rfl⟩ := rdCnt_false hc
    have hp : 2 ^ m ≤ 64 := Nat.le_trans (Nat.pow_le_pow_right (by decide) hm) (by decide)
    rw [cond_false]
    let af : AF := fun n el => allI n fun i => !ovB (iOf el i)
    let cf : WE := fun el => rdA (iOf el)
    let W : Nat → WE := fun f el => wv (Nat.beq f 16) m (cxOf el)
    have a1 : AVok af (2 ^ m) g := av_spec (by omega) g
    have a2 : AVok af (2 ^ m) h := av_spec (by omega) h
    have hcx : cntX isB (2 ^ m) (2 ^ m) = false := by rw [cntX_eq]; exact hc
    rcases all_or_first (fun i => !vB (g i) (h i)) (2 ^ m) with hl | ⟨K, hK, hq, hr⟩
    · have hv : ∀ i, i < 2 ^ m → vB (g i) (h i) = false := fun i hi => by simpa using hl i hi
      have ag : af (2 ^ m) (elI g) = true := allI_t fun i hi => by
        have := hv i hi
        rw [vB_ov, Bool.or_eq_false_iff] at this
        show (!ovB (g i)) = true
        rw [this.1]; rfl
      have ah : af (2 ^ m) (elI h) = true := allI_t fun i hi => by
        have := hv i hi
        rw [vB_ov, Bool.or_eq_false_iff] at this
        show (!ovB (h i)) = true
        rw [this.2]; rfl
      have hlog : (2 ^ m).log2 = m := Nat.log2_two_pow
      have l1 := lok_at (c := bodyOf Try.f5) (i := 7) 0 2 (by kernel_rfl) (by kernel_rfl) (toldF_sound (keep := keepLr) (τ := [some 0, some 1]) (lr_leads (n := 2 ^ m) (by omega) g (wv false m (rdA g)) (wv false m (rdA h))))
      have l2 := lok_at (c := bodyOf Try.f5) (i := 13) 1 2 (by kernel_rfl) (by kernel_rfl) (toldF_sound (keep := keepLz) (τ := [some 2, some 3]) (lz_leads (n := 2 ^ m) (by omega) g (wv true m (rdP m g h)) fun i hi => rd_fit hm hv hi))
      have c1 : CXok cf (2 ^ m) g := cx_spec (by omega) g
      have c2 : CXok cf (2 ^ m) h := cx_spec (by omega) h
      have w1 : WavesG 14 (2 ^ m) (cf (elI g)) (crA cf W g) := waves_G false m (by omega) (rdA g)
      have w2 : WavesG 14 (2 ^ m) (cf (elI h)) (crA cf W h) := waves_G false m (by omega) (rdA h)
      have w3 : WavesG 16 (2 ^ m) (rdP m g h) (crC W (rdP m g h)) := waves_G true m (by omega) (rdP m g h)
      have hev := cr_ev isB af cf W (2 ^ m) g h (rdP m g h) (rdV m g h)
      unfold crV crT at hev
      rw [hcx, cond_false, gate_pos a1, gate_pos a2, ag, ah, gate_pos c1, propB_t w1, gate_pos c2, propB_t w2, gate_pos (Sub.refl _), mk8_t (by omega), propB_t w3, gate_pos (Sub.refl _)] at hev
      have h1 := gspecM (e_cons gIs_ok e_nil) (k_cons kS_ok (k_cons kS_ok k_nil)) (m_cons mR_ok m_nil) Try.func5 (by kernel_rfl) (by kernel_rfl) (lok_two l1 l2) rfl hev
      rw [allI_t hl, hlog]
      refine FSpec.of_res h1 fun E v hv => ?_
      refine tup2_like hv fun u hu => sl_like hu fun i hi => ?_
      rw [Nat.zero_add]
    · rw [allI_f hK hq]
      have hq' : vB (g K) (h K) = true := by simpa using hq
      have hb : cond (!af (2 ^ m) (elI g)) true (!af (2 ^ m) (elI h)) = true := by
        rw [vB_ov] at hq'
        cases ho : ovB (g K)
        · rw [ho, Bool.false_or] at hq'
          have : af (2 ^ m) (elI h) = false := allI_f hK (by show (!ovB (h K)) = false; rw [hq']; rfl)
          rw [this]
          cases af (2 ^ m) (elI g) <;> rfl
        · have : af (2 ^ m) (elI g) = false := allI_f hK (by show (!ovB (g K)) = false; rw [ho]; rfl)
          rw [this]
          rfl
      refine rd_nil (gspecM (e_cons gIs_ok e_nil) (k_cons kS_ok (k_cons (kno_ok _) k_nil)) m_nil Try.func5 (by kernel_rfl) (by kernel_rfl) noL_ok rfl ((cr_ev6 isB af (2 ^ m) g h).trans ?_))
      unfold crV
      rw [hcx, cond_false, gate_pos a1, gate_pos a2, hb]
      rfl
  · refine rd_nil (gspecM (e_cons gIs_ok e_nil) (k_cons (kno_ok _) k_nil) m_nil Try.func5 (by kernel_rfl) (by kernel_rfl) noL_ok rfl ((cr_ev0 isB n n' g h).trans ?_))
    rw [cntX_eq, hc]
    rfl
end Go.Proofs.Ytldbbajakgaajaa

namespace Go.Proofs.Ytldbbajakgaajaa
open Go.Gv Go.RowKit Go.ChangeShapes Go.WideShapes Go.ChangeAt

def rsl (n : Nat) (hs : Nat → Int) : AV := .sl 1 n fun i => [iA (hs i)]
theorem open_num {H : Type} {enc : TypeId × Value → H} {P : Program} {w : World} {r : Reach} {b0 : Nat} {t : TypeId} {v : Value} {d : DataW H} {p : List MemPlace} {k : IntKind} (hu : P.underlying t = some (.int k)) (hk : kds P 1 t = some [.i k]) (hv : Value.okWide P w r b0 t v)
    (h : DataW.Trod enc P w 0 (fun _ => true) true t v d p) : ∃ n, rel (Env.all w) (.x (.int k n)) v ∧ (Lit.int k n).wf = true := by
  have hone : v.cells = #[v] := by
    obtain ⟨n, rfl, _⟩ := okWide_int hu hv
    rfl
  obtain ⟨fuel, hf⟩ := h
  obtain ⟨a, h1, h2⟩ := open_arg hf hk hone
  rw [fitA] at h1
  obtain ⟨n, rfl, hw⟩ := h1
  exact ⟨n, h2, hw⟩
def numOf (el : Nat → List AV) (i : Nat) : Int := match el i with
  | [.x (.int .i64 h)] => h
  | _ => 0
theorem sl_same {E : Env} {sz n : Nat} {el el' : Nat → List AV} {v : Value} (h : rel E (.sl sz n el) v) (he : ∀ i, i < n → el' i = el i) : rel E (.sl sz n el') v := by
  have h : relA _ _ _ := h
  show relA _ _ _
  rw [relA] at h ⊢
  obtain ⟨a, c, h1, h2, h3⟩ := h
  refine ⟨a, c, h1, h2, ?_⟩
  rcases h3 with h3 | ⟨b, o, cs, e, fz, h4, h5, h6, h7⟩
  · exact Or.inl h3
  · exact Or.inr ⟨b, o, cs, e, fz, h4, h5, h6, fun i hi => by rw [he i hi]; exact h7 i hi⟩
theorem fitL_single {k : Kd} {zs : List AV} (h : fitL [k] zs) : ∃ a, zs = [a] ∧ fitA k a := by
  match zs, h with
  | [a], h => exact ⟨a, rfl, (fitL_cons.1 h).1⟩
  | [], h => have := fitL_length h; simp at this
  | _ :: _ :: _, h => have := fitL_length h; simp at this
/-- A row of whole numbers that came in: as many, each a number of 64 bits. -/
theorem open_raw {H : Type} {enc : TypeId × Value → H} {P : Program} {w : World} {r : Reach} {b0 : Nat} {t e : TypeId} {v : Value} {d : DataW H} {p : List MemPlace} (hu : P.underlying t = some (.slice e)) (hk : kds P 2 t = some [.l 1 [.i .i64]]) (hv : Value.okWide P w r b0 t v)
    (h : DataW.Trod enc P w 0 (fun _ => true) true t v d p) : ∃ n hs, rel (Env.all w) (rsl n hs) v ∧ ∀ i, i < n → (Lit.int .i64 (hs i)).wf = true := by
  have hone : v.cells = #[v] := by
    obtain ⟨a, len, cap, rfl⟩ := okWide_slice hu hv
    rfl
  obtain ⟨fuel, hf⟩ := h
  obtain ⟨a, h1, h2⟩ := open_arg hf hk hone
  rw [fitA] at h1
  obtain ⟨n, el, rfl, _, hel⟩ := h1
  have key : ∀ i, i < n → el i = [iA (numOf el i)] ∧ (Lit.int .i64 (numOf el i)).wf = true := fun i hi => by
    obtain ⟨a, ha, hf⟩ := fitL_single (hel i hi)
    rw [fitA] at hf
    obtain ⟨m, rfl, hw⟩ := hf
    have e : numOf el i = m := by unfold numOf; rw [ha]
    rw [e]
    exact ⟨ha, hw⟩
  exact ⟨n, numOf el, sl_same h2 fun i hi => (key i hi).1.symm, fun i hi => (key i hi).2⟩
end Go.Proofs.Ytldbbajakgaajaa
