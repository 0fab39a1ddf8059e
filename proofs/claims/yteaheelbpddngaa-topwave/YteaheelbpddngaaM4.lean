/-
  Tw3 Wx1 Wx2 Wx3 Wx4 Wx6 Wx5 Wx7, one behind the other.
-/
import Derived.Test.YteaheelbpddngaaM3
namespace Go.Proofs.Yteaheelbpddngaa
open Go.Gv
open Go.Ev (CX wv wvD WhC ZB Wh whc_wv wv_back)

theorem row_near {l : Nat} {hs : Nat → Int} (hb : ∀ i, i < l → (Lit.int .i64 (hs i)).wf = true) {q : Nat} (hq : q ≤ 100) : nrC (rowX l hs q) := by
  obtain ⟨c, hc⟩ : ∃ c, c = 1074 := ⟨_, rfl⟩
  obtain ⟨⟨h1, h2⟩, h3⟩ := row_wh hb hq
  have h4 := h3 c hc
  exact ⟨nr_wh hc h4.re (by omega), nr_wh hc h4.im (by omega)⟩
theorem wav_near {l : Nat} {hs : Nat → Int} (hb : ∀ i, i < l → (Lit.int .i64 (hs i)).wf = true) {m : Nat} (hm : m ≤ 2) {q : Nat} (hq : q < 2 ^ m) : nrC (wv false m (rowX l hs) q) := by
  obtain ⟨c, hc⟩ : ∃ c, c = 1074 := ⟨_, rfl⟩
  have hp : 2 ^ m ≤ 4 := Nat.le_trans (Nat.pow_le_pow_right (by decide) hm) (by decide)
  obtain ⟨h1, h2, h3⟩ := whc_wv hc false m hm 1000 (rowX l hs) (rowZ l hs) (fun i hi => ⟨(row_wh hb (by omega)).2 c hc, (row_wh hb (by omega)).1⟩) (by omega) q hq
  exact ⟨nr_wh hc h1.re (by omega), nr_wh hc h1.im (by omega)⟩
theorem tw_go (ok : WaveOk) {l : Nat} {hs : Nat → Int} (hb : ∀ i, i < l → (Lit.int .i64 (hs i)).wf = true) {k j : Int} {m : Nat} (hm : m ≤ 2) (hp : pk k 3 = j)
    (hev : ∀ X A B : Nat → CX, ev Try.prog [] [kS Try.prog 4 (fun _ => iA j), kS Try.prog 6 (fun _ => .tup [sC (2 ^ m) A, iA 0]), kS Try.prog 7 (fun _ => .tup [sC (2 ^ m) B, iA 0])] (twL l hs (2 ^ m) X B) Try.f3 [rsl l hs, iA k] ret =
      cond (decide (64 < (l : Int))) (some (Out.of (bA true))) (twR l hs k X A B (2 ^ m) j)) : FSpec Try.prog 3 [rsl l hs, iA k] (bA true) := by
  have h4 : 2 ^ m ≤ 4 := Nat.le_trans (Nat.pow_le_pow_right (by decide) hm) (by decide)
  have l1 := tw_leads l hs h4
  have l2 := tv_leads h4 (X := rowX l hs) (Y := wvD m (wv false m (rowX l hs))) fun i hi => wv_back m hm (rowX l hs) (rowZ l hs) (fun c hc q hq => ⟨(row_wh hb (by omega)).2 c hc, (row_wh hb (by omega)).1⟩) i hi
  have hL : LOk Try.prog (twL l hs (2 ^ m) (rowX l hs) (wvD m (wv false m (rowX l hs)))) (bodyOf Try.f3) :=
    lok_two (lok_at 0 2 (by kernel_rfl) (by kernel_rfl) (toldN_sound l1)) (lok_at 1 2 (by kernel_rfl) (by kernel_rfl) (toldF_sound l2))
  refine gspec e_nil (k_cons kS_ok (k_cons kS_ok (k_cons kS_ok k_nil))) Try.func3 (by kernel_rfl) (by kernel_rfl) hL rfl ((hev (rowX l hs) (wv false m (rowX l hs)) (wvD m (wv false m (rowX l hs)))).trans ?_)
  have hpk : FSpec Try.prog 4 [iA k, iA 3] (iA j) := hp ▸ pick_spec rfl
  unfold twR
  rw [gate_pos hpk, gate_pos (Sub.refl _), gate_pos (ok.forth m hm _ fun i hi => row_near hb (by omega)), gate_pos (ok.back m hm _ fun i hi => wav_near hb hm hi), gate_pos (Sub.refl _)]
  cases decide (64 < (l : Int)) <;> rfl
theorem wave_law (ok : WaveOk) {l : Nat} {hs : Nat → Int} (hb : ∀ i, i < l → (Lit.int .i64 (hs i)).wf = true) {k : Int} (hk : (Lit.int .i64 k).wf = true) : FSpec Try.prog 3 [rsl l hs, iA k] (bA true) := by
  obtain ⟨j, h1, h2⟩ := pk_nat (n := 3) hk (by decide)
  have h1 : pk k 3 = j := h1
  rcases (by omega : j = 0 ∨ j = 1 ∨ j = 2) with rfl | rfl | rfl
  · exact tw_go ok hb (m := 0) (by decide) h1 fun X A B => tw_ev0 l hs k X A B
  · exact tw_go ok hb (m := 1) (by decide) h1 fun X A B => tw_ev1 l hs k X A B
  · exact tw_go ok hb (m := 2) (by decide) h1 fun X A B => tw_ev2 l hs k X A B
end Go.Proofs.Yteaheelbpddngaa

namespace Go.Proofs.Yteaheelbpddngaa
open Go.Gv
open Go.Ev (fadd fsub fmul fdiv fneg fsqrt cn CX cmul cadd csub one64 two64 mone rt rtB pws wv)

theorem xpr_ev (x y : CX) : ev Try.prog [] [] noL Try.f15 [cA x, cA y] ret = some (Out.of (.cx (fsub (fmul x.1 y.1) (fmul x.2 y.2)) (fadd (fmul x.1 y.2) (fmul x.2 y.1)))) := by kernel_rfl
theorem xpr_spec (x y : CX) : FSpec Try.prog 15 [cA x, cA y] (cA (cmul x y)) := gspec e_nil k_nil Try.func15 (by kernel_rfl) (by kernel_rfl) noL_ok rfl (xpr_ev x y)
theorem xPr_ok : EOk Try.prog ⟨15, gC2 cmul⟩ := fun args r hr => by
  simp only [gC2] at hr
  split at hr
  · cases hr; exact Or.inl (xpr_spec (_, _) (_, _))
  · cases hr
/-! ### Roots -/
theorem xrt_ev (s : Nat → Nat) (h : Int → CX) (n : Int) : ev Try.prog [⟨16, gF1 s⟩] [kS Try.prog 10 (gRt h)] noL Try.f10 [iA n] ret =
    cond (n == 2) (some (Out.of (.cx mone 0))) (cond (n == 4) (some (Out.of (.cx 0 mone)))
      (gate (FSpec Try.prog 10 [iA (w64 (n.tdiv 2))] (cA (h (w64 (n.tdiv 2))))) (some (Out.of (.cx (s (fdiv (fadd one64 (h (w64 (n.tdiv 2))).1) two64)) (fneg (s (fdiv (fsub one64 (h (w64 (n.tdiv 2))).1) two64)))))))) := by kernel_rfl
theorem xrt_spec : ∀ m, 1 ≤ m → m ≤ 30 → FSpec Try.prog 10 [iA ((2 ^ m : Nat) : Int)] (cA (rt m))
  | 0, h, _ => absurd h (by omega)
  | 1, _, _ => gspec (e_cons gSq_ok e_nil) (k_cons (kS_ok (P := Try.prog) (f := 10) (g := gRt fun _ => (0, 0))) k_nil) Try.func10 (by kernel_rfl) (by kernel_rfl) noL_ok rfl (xrt_ev fsqrt (fun _ => (0, 0)) 2)
  | 2, _, _ => gspec (e_cons gSq_ok e_nil) (k_cons (kS_ok (P := Try.prog) (f := 10) (g := gRt fun _ => (0, 0))) k_nil) Try.func10 (by kernel_rfl) (by kernel_rfl) noL_ok rfl (xrt_ev fsqrt (fun _ => (0, 0)) 4)
  | m + 3, _, hm => by
    have ih := xrt_spec (m + 2) (by omega) (by omega)
    have hp : 4 ≤ 2 ^ (m + 2) := by
      have := Nat.pow_le_pow_right (n := 2) (by omega) (show 2 ≤ m + 2 by omega)
      exact this
    have hq : 2 ^ (m + 2) ≤ 2 ^ 30 := Nat.pow_le_pow_right (by omega) (by omega)
    have e2 : 2 ^ (m + 3) = 2 * 2 ^ (m + 2) := by rw [Nat.pow_succ]; omega
    have e30 : (2 : Nat) ^ 30 = 1073741824 := by decide
    have eh : w64 ((((2 ^ (m + 3) : Nat)) : Int).tdiv 2) = ((2 ^ (m + 2) : Nat) : Int) := by
      rw [e2, Int.tdiv_eq_ediv_of_nonneg (by omega), w64_id (by omega) (by omega)]
      omega
    refine gspec (e_cons gSq_ok e_nil) (k_cons (kS_ok (P := Try.prog) (f := 10) (g := gRt fun _ => rt (m + 2))) k_nil) Try.func10 (by kernel_rfl) (by kernel_rfl) noL_ok rfl ((xrt_ev fsqrt (fun _ => rt (m + 2)) ((2 ^ (m + 3) : Nat) : Int)).trans ?_)
    rw [eh, gate_pos ih, beq_false_of_ne (show ((2 ^ (m + 3) : Nat) : Int) ≠ 2 by omega), beq_false_of_ne (show ((2 ^ (m + 3) : Nat) : Int) ≠ 4 by omega)]
    rfl
theorem xrb_ev (h : Int → CX) (n : Int) : ev Try.prog [] [kS Try.prog 10 (gRt h)] noL Try.f11 [iA n] ret =
    gate (FSpec Try.prog 10 [iA n] (cA (h n))) (some (Out.of (.cx (h n).1 (fneg (h n).2)))) := by kernel_rfl
theorem xrb_spec (m : Nat) (h1 : 1 ≤ m) (h2 : m ≤ 30) : FSpec Try.prog 11 [iA ((2 ^ m : Nat) : Int)] (cA (rtB true m)) := by
  refine gspec e_nil (k_cons (kS_ok (P := Try.prog) (f := 10) (g := gRt fun _ => rt m)) k_nil) Try.func11 (by kernel_rfl) (by kernel_rfl) noL_ok rfl ((xrb_ev (fun _ => rt m) ((2 ^ m : Nat) : Int)).trans ?_)
  rw [gate_pos (xrt_spec m h1 h2)]
  rfl
/-! ### Every second one -/
def esS (N : Nat) (g : Nat → CX) (a : Int) (h : Nat) (i : Int) (Y : Nat → CX) : St := mkS 28 [(0, sC N g), (1, iA a), (5, .osl 0 1 0 h), (12, iA (h : Nat)), (13, iA i)] [.a 25 1 h fun q => [cA (Y q)]]
def keepEs : List Nat := [0, 1, 5, 12, 13]
def stB (i : Nat) (n : Nat) : Bool := Nat.blt (0 + i) n || false
section
variable (N : Nat) (g : Nat → CX) (a : Int) (h : Nat) (i : Int) (Y : Nat → CX)
def esK (a i : Int) : Int := w64 (w64 (2 * i) + a)
def esN : St := mkS 28 [(0, sC N g), (1, iA a), (5, .osl 0 1 0 h), (12, iA (h : Nat)), (13, iA (w64 (i + 1)))] [.a 25 1 h fun q => mixL (q == 0 + i.toNat) [cA (g (esK a i).toNat)] [cA (Y q)]]
theorem es_step : evC Try.prog [] [] noL (loopAt Try.f14 0) (esS N g a h i Y) (finN keepEs [some 0]) =
    cond (decide (i < (h : Int))) (cond (ixB (esK a i) N || false) (cond (ixB i h || false) (cond (stB i.toNat h) (some ⟨.normal, esN N g a h i Y, .any⟩) none) none) none) none := by kernel_rfl
theorem es_end : evC Try.prog [] [] noL (loopAt Try.f14 0) (esS N g a h i Y) (finE keepEs [some 0]) =
    cond (decide (i < (h : Int))) (cond (ixB (esK a i) N || false) (cond (ixB i h || false) (cond (stB i.toNat h) none none) none) none) (some ⟨.exit 0, esS N g a h i Y, .any⟩) := by kernel_rfl
end
end Go.Proofs.Yteaheelbpddngaa

namespace Go.Proofs.Yteaheelbpddngaa
open Go.Gv
open Go.Ev (fadd fsub fmul fdiv fneg fsqrt cn CX cmul cadd csub one64 two64 mone rt rtB pws wv)

def mkX (n : Int) : Bool := decide (0 ≤ n) && (decide (n ≤ n) && decide (((16 : Nat) : Int) * n ≤ 281474976710656))
theorem mkX_t {n : Nat} (h1 : n ≤ 1048576) : mkX (n : Nat) = true := by
  unfold mkX
  rw [decide_eq_true (show (0 : Int) ≤ (n : Int) by omega), decide_eq_true (Int.le_refl _), decide_eq_true (show ((16 : Nat) : Int) * (n : Int) ≤ 281474976710656 by omega)]
  rfl
theorem stB_t {i n : Nat} (h : i < n) : stB i n = true := by unfold stB; rw [Nat.zero_add, blt_t h]; rfl
def hfI (N : Nat) : Int := w64 ((N : Int).tdiv 2)
theorem hfI_eq {h : Nat} (hh : h ≤ 1048576) : hfI (2 * h) = (h : Int) := by
  unfold hfI
  rw [Int.tdiv_eq_ediv_of_nonneg (by omega), w64_id (by omega) (by omega)]
  omega
noncomputable def esL (N : Nat) (g : Nat → CX) (a : Int) (h : Nat) (Y : Nat → CX) : Nat → Option LFun := oneL 3 (toldF keepEs [some 0] (esS N g a h 0 fun _ => (0, 0)) (.exit 0) (esS N g a h (h : Nat) Y))
theorem es_ev (N : Nat) (g : Nat → CX) (a : Int) (Y : Nat → CX) : ev Try.prog [] [] (esL N g a (hfI N).toNat Y) Try.f14 [sC N g, iA a] ret =
    cond (mkX (hfI N) || false) (gate (Sub (esS N g a (hfI N).toNat 0 fun _ => (0, 0)) (esS N g a (hfI N).toNat 0 fun _ => (0, 0))) (some (Out.of (.sl 1 (hfI N).toNat fun i => [cA (Y (0 + i))])))) none := by kernel_rfl
def esV (g : Nat → CX) (a k q : Nat) : CX := cond (Nat.blt q k) (g (2 * q + a)) (0, 0)
theorem es_leads {h : Nat} (hh : h ≤ 1048576) (g : Nat → CX) {a : Nat} (ha : a < 2) : Leads Try.prog (.loop (loopAt Try.f14 0)) (esS (2 * h) g (a : Nat) h 0 fun _ => (0, 0)) (.exit 0) (esS (2 * h) g (a : Nat) h (h : Nat) (esV g a h)) := by
  refine Leads.sub (s1 := esS (2 * h) g (a : Nat) h 0 (esV g a 0)) ?_ (Sub.refl _) (Sub.refl _)
  refine loop_rule (fun i => esS (2 * h) g (a : Nat) h (i : Nat) (esV g a i)) h (.exit 0) _ (by simp) (fun i hi => ?_) ?_
  · have st := es_step (2 * h) g (a : Nat) h (i : Nat) (esV g a i)
    have ek : esK (a : Nat) (i : Nat) = ((2 * i + a : Nat) : Int) := by
      unfold esK
      rw [w64_id (n := 2 * (i : Int)) (by omega) (by omega), w64_id (by omega) (by omega)]
      omega
    unfold esN at st
    rw [ek, dec_lt hi, ixB_t (show 2 * i + a < 2 * h by omega), ixB_t hi, Int.toNat_natCast, stB_t hi, w64_next (by omega), Int.toNat_natCast] at st
    refine (leads_ev (finN_sub keepEs [some 0]) e_nil k_nil noL_ok st).sub (Sub.refl _) ?_
    refine sub_same ⟨Or.inr ⟨25, 1, h, _, _, rfl, rfl, fun q hq => ?_⟩, trivial⟩
    rw [mixC]
    unfold esV
    by_cases e : q = i
    · subst e; rw [Nat.zero_add, BEq.rfl, blt_t (show q < q + 1 by omega)]; rfl
    · rw [Nat.zero_add, beq_false_of_ne e, cond_false]
      by_cases hl : q < i
      · rw [blt_t hl, blt_t (show q < i + 1 by omega)]
      · rw [bltF hl, bltF (show ¬ q < i + 1 by omega)]
  · refine leads_ev (finE_sub keepEs [some 0]) e_nil k_nil noL_ok ((es_end (2 * h) g (a : Nat) h (h : Nat) (esV g a h)).trans ?_)
    rw [dec_self, cond_false]
theorem es_spec {h : Nat} (hh : h ≤ 1048576) (g : Nat → CX) {a : Nat} (ha : a < 2) : FSpec Try.prog 14 [sC (2 * h) g, iA (a : Nat)] (sC h fun i => g (2 * i + a)) := by
  have e1 := hfI_eq hh
  have e2 : (hfI (2 * h)).toNat = h := by rw [e1]; rfl
  have hev := es_ev (2 * h) g (a : Nat) (esV g a h)
  rw [e2, e1, mkX_t hh, gate_pos (Sub.refl _)] at hev
  have h1 := gspec e_nil k_nil Try.func14 (by kernel_rfl) (by kernel_rfl) (lok_at 0 1 (by kernel_rfl) (by kernel_rfl) (toldF_sound (es_leads hh g ha))) rfl hev
  refine FSpec.of_res h1 fun E v hv => sl_like hv fun i hi => ?_
  unfold esV
  rw [Nat.zero_add, blt_t hi]
  rfl
/-! ### Waves -/
def fA (f : Nat) : AV := .fn (.func f) [] []
def wxS (hi : Int) (N h : Nat) (E O : Nat → CX) (w p : CX) (k : Int) (A : Nat → CX) : St := mkS 72 [(6, iA hi), (7, sC h E), (8, sC h O), (9, .osl 0 1 0 N), (10, cA w), (11, cA p), (37, iA hi), (38, iA k)] [.a 25 1 N fun q => [cA (A q)]]
def keepWx : List Nat := [6, 7, 8, 9, 10, 11, 37, 38]
section
variable (pf : CX → CX → CX) (hi : Int) (N h : Nat) (E O : Nat → CX) (w p : CX) (k : Int) (A : Nat → CX)
def wxK (k hi : Int) : Int := w64 (k + hi)
def wxB : Bool := (ixB k h || false) && ((ixB k h || false) && ((ixB k N || false) && (stB k.toNat N && ((ixB (wxK k hi) N || false) && (stB (wxK k hi).toNat N && true)))))
def wxN : St := mkS 72 [(6, iA hi), (7, sC h E), (8, sC h O), (9, .osl 0 1 0 N), (10, cA w), (11, cA (pf p w)), (37, iA hi), (38, iA (w64 (k + 1)))]
  [.a 25 1 N fun q => mixL (q == 0 + (wxK k hi).toNat) [cA (csub (E k.toNat) (pf p (O k.toNat)))] (mixL (q == 0 + k.toNat) [cA (cadd (E k.toNat) (pf p (O k.toNat)))] [cA (A q)])]
theorem wx_step : evC Try.prog [⟨15, gC2 pf⟩] [] noL (loopAt Try.f9 0) (wxS hi N h E O w p k A) (finN keepWx [some 0]) =
    cond (decide (k < hi)) (cond (ixB k h || false) (cond (wxB hi N h k) (some ⟨.normal, wxN pf hi N h E O w p k A, .any⟩) none) none) none := by kernel_rfl
theorem wx_end : evC Try.prog [⟨15, gC2 pf⟩] [] noL (loopAt Try.f9 0) (wxS hi N h E O w p k A) (finE keepWx [some 0]) =
    cond (decide (k < hi)) (cond (ixB k h || false) (cond (wxB hi N h k) none none) none) (some ⟨.exit 0, wxS hi N h E O w p k A, .any⟩) := by kernel_rfl
end
end Go.Proofs.Yteaheelbpddngaa

namespace Go.Proofs.Yteaheelbpddngaa
open Go.Gv
open Go.Ev (fadd fsub fmul fdiv fneg fsqrt cn CX cmul cadd csub one64 two64 mone rt rtB pws wv)

abbrev WE : Type := (Nat → List AV) → Nat → CX
def gWe (W : WE) : List AV → AV
  | [.sl _ n el, _] => sC n (W el)
  | _ => .any
def gEs (h : Nat) (G : Int → Nat → CX) : List AV → AV
  | [_, .x (.int .i64 a)] => sC h (G a)
  | _ => .any
section
variable (W : WE) (G : Int → Nat → CX) (rf : Int → CX) (N : Nat) (g : Nat → CX) (h : Nat) (p : CX) (A : Nat → CX)
def eoW (a : Int) : Nat → CX := W fun i => [cA (G a i)]
noncomputable def wxL : Nat → Option LFun := oneL 10 (toldF keepWx [some 0] (wxS (hfI N) N h (eoW W G 0) (eoW W G 1) (rf (N : Nat)) (one64, 0) 0 fun _ => (0, 0)) (.exit 0) (wxS (hfI N) N h (eoW W G 0) (eoW W G 1) (rf (N : Nat)) p (h : Nat) A))
abbrev ESok (a : Int) : Prop := FSpec Try.prog 14 [sC N g, iA a] (sC h (G a))
abbrev WEok (f : Nat) (a : Int) : Prop := FSpec Try.prog 9 [sC h (G a), fA f] (sC h (eoW W G a))
noncomputable def wx3 (f : Nat) : Option Out := cond ((N : Int) == 1) (cond (ixB 0 N || false) (gout (.osl 0 1 0 1) [.a 25 1 1 (chunk [cA (g 0)] 1)]) none)
  (gate (ESok G N g h 0) (gate (WEok W G h f 0) (gate (ESok G N g h 1) (gate (WEok W G h f 1) (cond (mkX (N : Int) || false) (gate (FSpec Try.prog f [iA (N : Int)] (cA (rf (N : Int))))
    (gate (Sub (wxS (hfI N) N h (eoW W G 0) (eoW W G 1) (rf (N : Nat)) (one64, 0) 0 fun _ => (0, 0)) (wxS (hfI N) N h (eoW W G 0) (eoW W G 1) (rf (N : Nat)) (one64, 0) 0 fun _ => (0, 0)))
      (gout (.osl 0 1 0 N) [.a 25 1 N fun q => [cA (A q)]]))) none)))))
theorem wx_evF : evG Try.prog [] [kS Try.prog 9 (gWe W), kS Try.prog 14 (gEs h G), kS Try.prog 10 (gRt rf)] [] (wxL W G rf N h p A) Try.f9 [sC N g, fA 10] [] [some 0] = wx3 W G rf N g h A 10 := by kernel_rfl
theorem wx_evB : evG Try.prog [] [kS Try.prog 9 (gWe W), kS Try.prog 14 (gEs h G), kS Try.prog 11 (gRt rf)] [] (wxL W G rf N h p A) Try.f9 [sC N g, fA 11] [] [some 0] = wx3 W G rf N g h A 11 := by kernel_rfl
theorem wx_ev1 (f : Nat) : evG Try.prog [] [⟨14, fun _ _ => none⟩] [] noL Try.f9 [sC N g, fA f] [] [some 0] = cond ((N : Int) == 1) (cond (ixB 0 N || false) (gout (.osl 0 1 0 1) [.a 25 1 1 (chunk [cA (g 0)] 1)]) none) none := by kernel_rfl
end
end Go.Proofs.Yteaheelbpddngaa

namespace Go.Proofs.Yteaheelbpddngaa
open Go.Gv
open Go.Ev (fadd fsub fmul fdiv fneg fsqrt cn CX cmul cadd csub one64 two64 mone rt rtB pws wv)

/-- What has been filled in. -/
def wxA (w : CX) (E O : Nat → CX) (h k q : Nat) : CX := cond (Nat.blt q k) (loW w E O q) (cond (Nat.ble h q && Nat.blt q (h + k)) (hiW w E O (q - h)) (0, 0))
theorem bleF {a b : Nat} (h : ¬ a ≤ b) : Nat.ble a b = false := by
  cases e : Nat.ble a b with
  | false => rfl
  | true => exact absurd (Nat.le_of_ble_eq_true e) h
theorem wxB_t {k h : Nat} (hk : k < h) (hh : h ≤ 1048576) : wxB (h : Nat) (2 * h) h (k : Nat) = true := by
  have e : wxK (k : Nat) (h : Nat) = ((k + h : Nat) : Int) := by unfold wxK; rw [w64_id (by omega) (by omega)]; omega
  unfold wxB
  rw [e, ixB_t hk, ixB_t (show k < 2 * h by omega), ixB_t (show k + h < 2 * h by omega), Int.toNat_natCast, Int.toNat_natCast, stB_t (show k < 2 * h by omega), stB_t (show k + h < 2 * h by omega)]
  rfl
theorem wx_leads {h : Nat} (hh : h ≤ 1048576) (E O : Nat → CX) (w : CX) : Leads Try.prog (.loop (loopAt Try.f9 0)) (wxS (h : Nat) (2 * h) h E O w (one64, 0) 0 fun _ => (0, 0)) (.exit 0) (wxS (h : Nat) (2 * h) h E O w (pws w h) (h : Nat) (wxA w E O h h)) := by
  refine Leads.sub (s1 := wxS (h : Nat) (2 * h) h E O w (one64, 0) 0 (wxA w E O h 0)) (s2 := wxS (h : Nat) (2 * h) h E O w (pws w h) (h : Nat) (wxA w E O h h)) ?_ (sub_same ⟨Or.inr ⟨25, 1, 2 * h, _, _, rfl, rfl, fun q hq => ?_⟩, trivial⟩) (Sub.refl _)
  rotate_left
  · unfold wxA
    rw [bltF (show ¬ q < 0 by omega), cond_false]
    by_cases h1 : h ≤ q
    · rw [bltF (show ¬ q < h + 0 by omega), Bool.and_false]; rfl
    · rw [bleF h1]; rfl
  refine loop_rule (fun k => wxS (h : Nat) (2 * h) h E O w (pws w k) (k : Nat) (wxA w E O h k)) h (.exit 0) _ (by simp) (fun k hk => ?_) ?_
  · have st := wx_step cmul (h : Nat) (2 * h) h E O w (pws w k) (k : Nat) (wxA w E O h k)
    have e : wxK (k : Nat) (h : Nat) = ((k + h : Nat) : Int) := by unfold wxK; rw [w64_id (by omega) (by omega)]; omega
    unfold wxN at st
    rw [dec_lt hk, ixB_t hk, wxB_t hk hh, w64_next (by omega), e, Int.toNat_natCast, Int.toNat_natCast] at st
    refine (leads_ev (finN_sub keepWx [some 0]) (e_cons xPr_ok e_nil) k_nil noL_ok st).sub (Sub.refl _) ?_
    refine sub_same ⟨Or.inr ⟨25, 1, 2 * h, _, _, rfl, rfl, fun q hq => ?_⟩, trivial⟩
    rw [mixC, mixC, Nat.zero_add, Nat.zero_add]
    unfold wxA
    by_cases e1 : q = k + h
    · subst e1
      rw [BEq.rfl, cond_true, bltF (show ¬ k + h < k + 1 by omega), cond_false, ble_t (show h ≤ k + h by omega), blt_t (show k + h < h + (k + 1) by omega), Nat.add_sub_cancel]
      rfl
    · rw [beq_false_of_ne e1, cond_false]
      by_cases e2 : q = k
      · subst e2
        rw [BEq.rfl, cond_true, blt_t (show q < q + 1 by omega), cond_true]
        rfl
      · rw [beq_false_of_ne e2, cond_false]
        by_cases h1 : q < k
        · rw [blt_t h1, blt_t (show q < k + 1 by omega)]; rfl
        · rw [bltF h1, bltF (show ¬ q < k + 1 by omega), cond_false, cond_false]
          by_cases h2 : q < h + k
          · rw [blt_t h2, blt_t (show q < h + (k + 1) by omega)]
          · rw [bltF h2, bltF (show ¬ q < h + (k + 1) by omega)]
  · refine leads_ev (finE_sub keepWx [some 0]) (e_cons xPr_ok e_nil) k_nil noL_ok ((wx_end cmul (h : Nat) (2 * h) h E O w (pws w h) (h : Nat) (wxA w E O h h)).trans ?_)
    rw [dec_self, cond_false]
/-- The row that waves hands back. -/
def wxR (N : Nat) (Y : Nat → CX) : List Row := [.a 25 1 N fun q => [cA (Y q)]]
abbrev WavesG (f N : Nat) (g Y : Nat → CX) : Prop := GSpec Try.prog 9 [sC N g, fA f] [] (.osl 0 1 0 N) (wxR N Y)
theorem plainX (N : Nat) (Y : Nat → CX) : PlainRows (wxR N Y) := by
  intro k e sz c el hk i hi
  match k, hk with
  | 0, hk => cases hk; rfl
  | k + 1, hk => simp [wxR] at hk
theorem waves_F {f N : Nat} {g Y : Nat → CX} (h : WavesG f N g Y) : FSpec Try.prog 9 [sC N g, fA f] (sC N Y) := by
  have h1 := (fresh_rows h (by show (Nat.beq 1 1 && Nat.ble (0 + N) N) = true; rw [Nat.zero_add, ble_t (Nat.le_refl N)]; rfl) (plainX N Y)).spec rfl rfl
  refine FSpec.of_res h1 fun E v hv => ?_
  have hv' : rel E (.sl 1 N fun i => [cA (Y (0 + i))]) v := hv
  refine sl_like hv' fun i hi => ?_
  rw [Nat.zero_add]
def rtN (b : Bool) : Nat := cond b 11 10
theorem rtN_spec (b : Bool) (m : Nat) (h1 : 1 ≤ m) (h2 : m ≤ 30) : FSpec Try.prog (rtN b) [iA ((2 ^ m : Nat) : Int)] (cA (rtB b m)) := by
  cases b
  · exact xrt_spec m h1 h2
  · exact xrb_spec m h1 h2
/-- THE WAVES. -/
theorem waves_G (b : Bool) : ∀ (m : Nat), m ≤ 20 → ∀ g : Nat → CX, WavesG (rtN b) (2 ^ m) g (wv b m g)
  | 0, _, g => by
    have h1 : GSpec Try.prog 9 [sC 1 g, fA (rtN b)] [] (.osl 0 1 0 1) [.a 25 1 1 (chunk [cA (g 0)] 1)] := by
      refine gspecG (mem := []) e_nil (k_cons (kno_ok _) k_nil) m_nil Try.func9 (by kernel_rfl) (by kernel_rfl) noL_ok rfl (by kernel_rfl) ((wx_ev1 1 g (rtN b)).trans ?_)
      rfl
    refine GSpec.of_rows h1 ⟨Or.inr ⟨25, 1, 1, _, _, rfl, rfl, fun i hi => ?_⟩, trivial⟩
    obtain rfl : i = 0 := by omega
    rfl
  | m + 1, hm, g => by
    have e2 : 2 ^ (m + 1) = 2 * 2 ^ m := by rw [Nat.pow_succ]; omega
    have hp0 : 0 < 2 ^ m := Nat.two_pow_pos m
    have hh : 2 ^ m ≤ 1048576 := Nat.le_trans (Nat.pow_le_pow_right (by decide) (show m ≤ 20 by omega)) (by decide)
    have c1 := waves_F (waves_G b m (by omega) fun i => g (2 * i + 0))
    have c2 := waves_F (waves_G b m (by omega) fun i => g (2 * i + 1))
    have s1 := es_spec hh g (a := 0) (by omega)
    have s2 := es_spec hh g (a := 1) (by omega)
    have cr := rtN_spec b (m + 1) (by omega) (by omega)
    let G : Int → Nat → CX := fun a i => g (2 * i + a.toNat)
    let W : WE := fun el => wv b m fun i => (match el i with | [.cx x y] => (x, y) | _ => (0, 0))
    let E : Nat → CX := wv b m fun i => g (2 * i)
    let O : Nat → CX := wv b m fun i => g (2 * i + 1)
    have eE : eoW W G 0 = E := rfl
    have eO : eoW W G 1 = O := rfl
    have hl := wx_leads (h := 2 ^ m) hh E O (rtB b (m + 1))
    rw [e2] at cr ⊢
    have eh := hfI_eq hh
    have hL : LOk Try.prog (wxL W G (fun _ => rtB b (m + 1)) (2 * 2 ^ m) (2 ^ m) (pws (rtB b (m + 1)) (2 ^ m)) (wxA (rtB b (m + 1)) E O (2 ^ m) (2 ^ m))) (bodyOf Try.f9) := by
      unfold wxL
      rw [eh]
      exact lok_at 0 1 (by kernel_rfl) (by kernel_rfl) (toldF_sound hl)
    have fin : wx3 W G (fun _ => rtB b (m + 1)) (2 * 2 ^ m) g (2 ^ m) (wxA (rtB b (m + 1)) E O (2 ^ m) (2 ^ m)) (rtN b) = gout (.osl 0 1 0 (2 * 2 ^ m)) (wxR (2 * 2 ^ m) (wxA (rtB b (m + 1)) E O (2 ^ m) (2 ^ m))) := by
      unfold wx3
      rw [beq_false_of_ne (show ((2 * 2 ^ m : Nat) : Int) ≠ 1 by omega), cond_false, gate_pos (show ESok G (2 * 2 ^ m) g (2 ^ m) 0 from s1), gate_pos (show WEok W G (2 ^ m) (rtN b) 0 from c1), gate_pos (show ESok G (2 * 2 ^ m) g (2 ^ m) 1 from s2), gate_pos (show WEok W G (2 ^ m) (rtN b) 1 from c2), mkX_t (n := 2 * 2 ^ m) (by
        have : 2 * 2 ^ m = 2 ^ (m + 1) := e2.symm
        rw [this]
        exact Nat.le_trans (Nat.pow_le_pow_right (by decide) hm) (by decide)), gate_pos cr, gate_pos (Sub.refl _)]
      rfl
    have h1 : GSpec Try.prog 9 [sC (2 * 2 ^ m) g, fA (rtN b)] [] (.osl 0 1 0 (2 * 2 ^ m)) (wxR (2 * 2 ^ m) (wxA (rtB b (m + 1)) E O (2 ^ m) (2 ^ m))) := by
      cases b
      · exact gspecG (mem := []) e_nil (k_cons kS_ok (k_cons kS_ok (k_cons kS_ok k_nil))) m_nil Try.func9 (by kernel_rfl) (by kernel_rfl) hL rfl (by kernel_rfl) ((wx_evF W G (fun _ => rtB false (m + 1)) (2 * 2 ^ m) g (2 ^ m) _ _).trans fin)
      · exact gspecG (mem := []) e_nil (k_cons kS_ok (k_cons kS_ok (k_cons kS_ok k_nil))) m_nil Try.func9 (by kernel_rfl) (by kernel_rfl) hL rfl (by kernel_rfl) ((wx_evB W G (fun _ => rtB true (m + 1)) (2 * 2 ^ m) g (2 ^ m) _ _).trans fin)
    refine GSpec.of_rows h1 ⟨Or.inr ⟨25, 1, 2 * 2 ^ m, _, _, rfl, rfl, fun q hq => ?_⟩, trivial⟩
    unfold wxA
    by_cases hq1 : q < 2 ^ m
    · rw [blt_t hq1, cond_true]
      show [cA (cond (Nat.blt q (2 ^ m)) _ _)] = _
      rw [blt_t hq1, cond_true]
      rfl
    · rw [bltF hq1, cond_false, ble_t (show 2 ^ m ≤ q by omega), blt_t (show q < 2 ^ m + 2 ^ m by omega)]
      show [cA (cond (Nat.blt q (2 ^ m)) _ _)] = _
      rw [bltF hq1, cond_false]
      rfl
end Go.Proofs.Yteaheelbpddngaa

namespace Go.Proofs.Yteaheelbpddngaa
open Go.Gv

def isB (n : Int) : Bool := cond (cond (decide (n ≥ 1)) (decide (n ≤ 64)) false) (IntKind.i64.wrap (((BitVec.ofInt IntKind.i64.bits n &&& BitVec.ofInt IntKind.i64.bits (IntKind.i64.wrap (n - 1))).toNat : Nat) : Int) == 0) false
theorem is_ev (n : Int) : ev Try.prog [] [] noL Try.f12 [iA n] ret = some (Out.of (bA (isB n))) := by kernel_rfl
def gIs (lf : Int → Bool) : List AV → Option AV
  | [.x (.int .i64 n)] => some (bA (lf n))
  | _ => none
theorem gIs_ok : EOk Try.prog ⟨12, gIs isB⟩ := fun args r hr => by
  simp only [gIs] at hr
  split at hr
  · cases hr; exact Or.inl (gspec e_nil k_nil Try.func12 (by kernel_rfl) (by kernel_rfl) noL_ok rfl (is_ev _))
  · cases hr
theorem isB_all : ∀ n : Fin 65, isB ((n.val : Nat) : Int) = (n.val == 1 || (n.val == 2 || (n.val == 4 || (n.val == 8 || (n.val == 16 || (n.val == 32 || n.val == 64)))))) := by decide
theorem isB_eq (n : Nat) : isB (n : Int) = (n == 1 || (n == 2 || (n == 4 || (n == 8 || (n == 16 || (n == 32 || n == 64)))))) := by
  by_cases h : n < 65
  · exact isB_all ⟨n, h⟩
  · have e : isB (n : Int) = false := by
      unfold isB
      rw [decide_eq_false (show ¬ (n : Int) ≤ 64 by omega)]
      cases decide ((n : Int) ≥ 1) <;> rfl
    rw [e, beq_false_of_ne (show n ≠ 1 by omega), beq_false_of_ne (show n ≠ 2 by omega), beq_false_of_ne (show n ≠ 4 by omega), beq_false_of_ne (show n ≠ 8 by omega), beq_false_of_ne (show n ≠ 16 by omega), beq_false_of_ne (show n ≠ 32 by omega), beq_false_of_ne (show n ≠ 64 by omega)]
    rfl
theorem isB_pow {m : Nat} (h : m ≤ 6) : isB ((2 ^ m : Nat) : Int) = true := by
  rw [isB_eq]
  have : m = 0 ∨ m = 1 ∨ m = 2 ∨ m = 3 ∨ m = 4 ∨ m = 5 ∨ m = 6 := by omega
  rcases this with rfl | rfl | rfl | rfl | rfl | rfl | rfl <;> decide
end Go.Proofs.Yteaheelbpddngaa

namespace Go.Proofs.Yteaheelbpddngaa
open Go.Gv
open Go.Ev (fadd fsub fmul fdiv fneg fsqrt cn feq fge fle CX cmul cadd csub one64 wv wvD WhC ZB Wh wh_int fin_not_nan cn_of_not whc_wv wv_back)

theorem nr_ev (x : Nat) : ev Try.prog [] [] noL Try.f13 [.f x] ret = some (Out.of (bA (cond (fge x 13920209183539462144) (fle x 4696837146684686336) false))) := by kernel_rfl
def gNr (nf : Nat → Bool) : List AV → Option AV
  | [.f x] => some (bA (nf x))
  | _ => none
theorem gNr_ok : EOk Try.prog ⟨13, gNr nrB⟩ := fun args r hr => by
  simp only [gNr] at hr
  split at hr
  · cases hr
    rename_i x
    have := nr_ev x
    have e : cond (fge x 13920209183539462144) (fle x 4696837146684686336) false = nrB x := by unfold nrB; cases fge x 13920209183539462144 <;> rfl
    rw [e] at this
    exact Or.inl (gspec e_nil k_nil Try.func13 (by kernel_rfl) (by kernel_rfl) noL_ok rfl this)
  · cases hr
def mayS (N : Nat) (x : Nat → CX) (i : Int) : St := mkS 26 [(9, sC N x), (10, iA (N : Nat)), (11, iA i)] []
def keepMy : List Nat := [9, 10, 11]
section
variable (lf : Int → Bool) (nf : Nat → Bool) (mf : Int → (Nat → List AV) → Int) (N : Nat) (x : Nat → CX) (i : Int)
theorem my_step : evC Try.prog [⟨13, gNr nf⟩] [] noL (loopAt Try.f8 0) (mayS N x i) (finN keepMy []) =
    cond (decide (i < (N : Int))) (cond (ixB i N || false) (cond (cond (!nf (x i.toNat).1) true (!nf (x i.toNat).2)) none (some ⟨.normal, mayS N x (w64 (i + 1)), .any⟩)) none) none := by kernel_rfl
theorem my_end : evC Try.prog [⟨13, gNr nf⟩] [] noL (loopAt Try.f8 0) (mayS N x i) (finE keepMy []) =
    cond (decide (i < (N : Int))) (cond (ixB i N || false) (cond (cond (!nf (x i.toNat).1) true (!nf (x i.toNat).2)) none none) none) (some ⟨.exit 0, mayS N x i, .any⟩) := by kernel_rfl
noncomputable def myL : Nat → Option LFun := oneL 4 (toldF keepMy [] (mayS N x 0) (.exit 0) (mayS N x (N : Nat)))
theorem my_ev : ev Try.prog [⟨12, gIs lf⟩] [] (myL N x) Try.f8 [sC N x] ret = cond (!lf (N : Nat)) (some (Out.of (iA 5))) (gate (Sub (mayS N x 0) (mayS N x 0)) (some (Out.of (iA 0)))) := by kernel_rfl
end
theorem my_spec {m : Nat} (hm : m ≤ 6) {x : Nat → CX} (hx : ∀ i, i < 2 ^ m → nrC (x i)) : FSpec Try.prog 8 [sC (2 ^ m) x] (iA 0) := by
  have hp : 2 ^ m ≤ 64 := Nat.le_trans (Nat.pow_le_pow_right (by decide) hm) (by decide)
  have hl : Leads Try.prog (.loop (loopAt Try.f8 0)) (mayS (2 ^ m) x 0) (.exit 0) (mayS (2 ^ m) x ((2 ^ m : Nat) : Int)) := by
    refine loop_rule (fun i => mayS (2 ^ m) x (i : Nat)) (2 ^ m) (.exit 0) _ (by simp) (fun i hi => ?_) ?_
    · refine leads_ev (finN_sub keepMy []) (e_cons gNr_ok e_nil) k_nil noL_ok ((my_step nrB (2 ^ m) x (i : Nat)).trans ?_)
      obtain ⟨h1, h2⟩ := hx i hi
      rw [dec_lt hi, ixB_t hi, Int.toNat_natCast, h1, h2, w64_next (by omega)]
      rfl
    · refine leads_ev (finE_sub keepMy []) (e_cons gNr_ok e_nil) k_nil noL_ok ((my_end nrB (2 ^ m) x ((2 ^ m : Nat) : Int)).trans ?_)
      rw [dec_self, cond_false]
  refine gspec (e_cons gIs_ok e_nil) k_nil Try.func8 (by kernel_rfl) (by kernel_rfl) (lok_at 0 1 (by kernel_rfl) (by kernel_rfl) (toldF_sound hl)) rfl ((my_ev isB (2 ^ m) x).trans ?_)
  rw [isB_pow hm, gate_pos (Sub.refl _)]
  rfl
def bkS (N : Nat) (f : Nat) (i : Int) (Y : Nat → CX) : St := mkS 40 [(5, .osl 0 1 0 N), (6, .f f), (19, .osl 0 1 0 N), (20, iA (N : Nat)), (21, iA i)] [.a 25 1 N fun q => [cA (Y q)]]
def keepBk : List Nat := [5, 6, 19, 20, 21]
section
variable (N : Nat) (x : Nat → CX) (Y Z : Nat → CX) (f : Nat) (i : Int)
def bkC (N : Nat) (i : Int) (o e : Option Out) : Option Out := cond (decide (i < (N : Int))) (cond (ixB i N || false) (cond (stB i.toNat N) (cond (ixB i N || false) (cond (stB i.toNat N) o none) none) none) none) e
def bkN : St := mkS 40 [(5, .osl 0 1 0 N), (6, .f f), (19, .osl 0 1 0 N), (20, iA (N : Nat)), (21, iA (w64 (i + 1)))] [.a 25 1 N fun q => mixL (q == 0 + i.toNat) [cA (fdiv (Y (0 + i.toNat)).1 f, fdiv (Y (0 + i.toNat)).2 f)] [cA (Y q)]]
theorem bk_step : evC Try.prog [] [] noL (loopAt Try.f7 0) (bkS N f i Y) (finN keepBk [some 0]) = bkC N i (some ⟨.normal, bkN N Y f i, .any⟩) none := by kernel_rfl
theorem bk_end : evC Try.prog [] [] noL (loopAt Try.f7 0) (bkS N f i Y) (finE keepBk [some 0]) = bkC N i none (some ⟨.exit 0, bkS N f i Y, .any⟩) := by kernel_rfl
theorem fo_ev : ev Try.prog [] [kS Try.prog 8 (fun _ => iA 0), kS Try.prog 9 (fun _ => sC N Y)] noL Try.f6 [sC N x] ret =
    gate (FSpec Try.prog 8 [sC N x] (iA 0)) (gate (FSpec Try.prog 9 [sC N x, fA 10] (sC N Y)) (some (Out.of (.tup [sC N Y, iA 0])))) := by kernel_rfl
noncomputable def bkL : Nat → Option LFun := oneL 7 (toldF keepBk [some 0] (bkS N (cn (FloatKind.f64.nearest (N : Int))) 0 Y) (.exit 0) (bkS N (cn (FloatKind.f64.nearest (N : Int))) (N : Nat) Z))
theorem ba_ev : evM Try.prog [] [kS Try.prog 8 (fun _ => iA 0)] [mR Try.prog 9 (fun _ => .osl 0 1 0 N) (fun _ => wxR N Y)] (bkL N Y Z) Try.f7 [sC N x] ret =
    gate (FSpec Try.prog 8 [sC N x] (iA 0)) (cond (propB (WavesG 11 N x Y)) (gate (Sub (bkS N (cn (FloatKind.f64.nearest (N : Int))) 0 Y) (bkS N (cn (FloatKind.f64.nearest (N : Int))) 0 Y)) (some (Out.of (.tup [.sl 1 N fun i => [cA (Z (0 + i))], iA 0])))) none) := by kernel_rfl
end
end Go.Proofs.Yteaheelbpddngaa

namespace Go.Proofs.Yteaheelbpddngaa
open Go.Gv
open Go.Ev (fadd fsub fmul fdiv fneg fsqrt cn feq fge fle CX cmul cadd csub one64 wv wvD WhC ZB Wh wh_int fin_not_nan cn_of_not whc_wv wv_back)

def dvC (f : Nat) (z : CX) : CX := (fdiv z.1 f, fdiv z.2 f)
def dvV (f : Nat) (Y : Nat → CX) (k q : Nat) : CX := cond (Nat.blt q k) (dvC f (Y q)) (Y q)
theorem bk_leads {N : Nat} (hN : N ≤ 1000) (f : Nat) (Y : Nat → CX) : Leads Try.prog (.loop (loopAt Try.f7 0)) (bkS N f 0 Y) (.exit 0) (bkS N f (N : Nat) (dvV f Y N)) := by
  refine Leads.sub (s1 := bkS N f 0 (dvV f Y 0)) (s2 := bkS N f (N : Nat) (dvV f Y N)) ?_ (sub_same ⟨Or.inr ⟨25, 1, N, _, _, rfl, rfl, fun q hq => ?_⟩, trivial⟩) (Sub.refl _)
  rotate_left
  · unfold dvV; rw [bltF (show ¬ q < 0 by omega)]; rfl
  refine loop_rule (fun i => bkS N f (i : Nat) (dvV f Y i)) N (.exit 0) _ (by simp) (fun i hi => ?_) ?_
  · have st := bk_step N (dvV f Y i) f (i : Nat)
    unfold bkC bkN at st
    rw [dec_lt hi, ixB_t hi, Int.toNat_natCast, stB_t hi, w64_next (by omega)] at st
    refine (leads_ev (finN_sub keepBk [some 0]) e_nil k_nil noL_ok st).sub (Sub.refl _) ?_
    refine sub_same ⟨Or.inr ⟨25, 1, N, _, _, rfl, rfl, fun q hq => ?_⟩, trivial⟩
    rw [mixC, Nat.zero_add]
    by_cases e : q = i
    · subst e
      rw [BEq.rfl, cond_true]
      unfold dvV
      rw [blt_t (show q < q + 1 by omega), bltF (show ¬ q < q by omega)]
      rfl
    · rw [beq_false_of_ne e, cond_false]
      unfold dvV
      by_cases h1 : q < i
      · rw [blt_t h1, blt_t (show q < i + 1 by omega)]
      · rw [bltF h1, bltF (show ¬ q < i + 1 by omega)]
  · refine leads_ev (finE_sub keepBk [some 0]) e_nil k_nil noL_ok ((bk_end N (dvV f Y N) f (N : Nat)).trans ?_)
    unfold bkC
    rw [dec_self, cond_false]
theorem waveOk : WaveOk where
  forth := fun m hm x hx => by
    refine gspec e_nil (k_cons kS_ok (k_cons kS_ok k_nil)) Try.func6 (by kernel_rfl) (by kernel_rfl) noL_ok rfl ((fo_ev (2 ^ m) x (wv false m x)).trans ?_)
    rw [gate_pos (my_spec (by omega) hx), gate_pos (show FSpec Try.prog 9 [sC (2 ^ m) x, fA 10] (sC (2 ^ m) (wv false m x)) from waves_F (waves_G false m (by omega) x))]
  back := fun m hm x hx => by
    obtain ⟨c, hc⟩ : ∃ c, c = 1074 := ⟨_, rfl⟩
    have hp : 2 ^ m ≤ 4 := Nat.le_trans (Nat.pow_le_pow_right (by decide) hm) (by decide)
    have hn := wh_int hc (n := ((2 ^ m : Nat) : Int)) (by rw [Int.natAbs_natCast]; exact Nat.lt_of_le_of_lt hp (by decide))
    have ec := cn_of_not (fin_not_nan hn.fin)
    have hev := ba_ev (2 ^ m) x (wv true m x) (dvV (cn (FloatKind.f64.nearest ((2 ^ m : Nat) : Int))) (wv true m x) (2 ^ m))
    rw [gate_pos (my_spec (by omega) hx), propB_t (show WavesG 11 (2 ^ m) x (wv true m x) from waves_G true m (by omega) x), gate_pos (Sub.refl _)] at hev
    have h1 := gspecM e_nil (k_cons kS_ok k_nil) (m_cons mR_ok m_nil) Try.func7 (by kernel_rfl) (by kernel_rfl) (lok_at 0 1 (by kernel_rfl) (by kernel_rfl) (toldF_sound (bk_leads (by omega) _ _))) rfl hev
    refine FSpec.of_res h1 fun E v hv => ?_
    refine tup2_like hv fun u hu => sl_like hu fun i hi => ?_
    unfold dvV
    rw [Nat.zero_add, blt_t hi, ec]
    rfl
end Go.Proofs.Yteaheelbpddngaa
