/-
  St5 St6 Fb St7 SfT St8 St9 St10, one behind the other.
-/
import Derived.Test.YthplpfmglleacaaM4
import Derived.Test.YthplpfmglleacaaM2
namespace Go.Proofs.Ythplpfmglleacaa
open Go.Gv

/-! ### Disks in plain words -/
def offD (fs : Nat → Flm) : Nat → Nat
  | 0 => 0
  | k + 1 => offD fs k + frN (fs k)
def dkV (fs : Nat → Flm) : Nat → Nat → Int
  | 0 => fun _ => 0
  | k + 1 => onD (offD fs k) (dkV fs k) (fs k)
theorem offD_le (fs : Nat → Flm) {j k : Nat} (h : j ≤ k) : offD fs j ≤ offD fs k := by
  induction k with
  | zero => have : j = 0 := by omega
            subst this; exact Nat.le_refl _
  | succ k ih =>
    by_cases e : j = k + 1
    · subst e; exact Nat.le_refl _
    · have := ih (by omega)
      show offD fs j ≤ offD fs k + frN (fs k)
      omega
theorem dkV_at (fs : Nat → Flm) {j q : Nat} : ∀ {k : Nat}, j < k → q < frN (fs j) → dkV fs k (offD fs j + q) = frm (fs j) q
  | 0, h, _ => by omega
  | k + 1, h, hq => by
    show onD (offD fs k) (dkV fs k) (fs k) (offD fs j + q) = frm (fs j) q
    unfold onD
    by_cases e : j = k
    · subst e
      rw [if_neg (by omega), Nat.add_sub_cancel_left]
    · have h1 : offD fs (j + 1) ≤ offD fs k := offD_le fs (by omega)
      have h2 : offD fs (j + 1) = offD fs j + frN (fs j) := rfl
      rw [if_pos (by omega)]
      exact dkV_at fs (by omega) hq
def lastC (fs : Nat → Flm) : Nat → List AV
  | 0 => flmZ
  | k + 1 => (fs k).c
/-- What is behind so many films isn't one. -/
def noneD (n : Nat) (g : Nat → Int) (c : Nat) : Prop := n - c < 4 ∨ ∃ f, fmay f = 0 ∧ 4 ≤ n - c ∧ n - c < frN f ∧ ∀ q, q < 4 → g (c + q) = frm f q
structure Disk (fs : Nat → Flm) (K n : Nat) (g : Nat → Int) : Prop where
  may : ∀ j, j < K → fmay (fs j) = 0
  le : offD fs K ≤ n
  sm : n ≤ 100000000
  at_ : ∀ j q, j < K → q < frN (fs j) → g (offD fs j + q) = frm (fs j) q
  none : noneD n g (offD fs K)
section
variable {fs : Nat → Flm} {K n : Nat} {g : Nat → Int}
theorem wk_whole (d : Disk fs K n g) {i : Nat} (hi : i < K) : FFok n g ((offD fs i : Nat) : Int) (.tup [.agg (fs i).c, iA ((frN (fs i) : Nat) : Int), bA true]) := by
  have h1 : offD fs (i + 1) ≤ offD fs K := offD_le fs (by omega)
  have h2 : offD fs (i + 1) = offD fs i + frN (fs i) := rfl
  have hle := d.le; have hn := d.sm
  obtain ⟨s1, s2, s3⟩ := sb_from (k := offD fs i) (n := n) (by omega)
  have := ff_whole (f := fs i) (n := n - offD fs i) (g := fun q => g (offD fs i + q)) (d.may i hi) (by omega) (by omega) fun q hq => d.at_ i q hi hq
  show FSpec Try.prog 14 [.sl 1 (sbN (some ((offD fs i : Nat) : Int)) none n) (sbE g (some ((offD fs i : Nat) : Int)))] _
  rw [s2]
  refine arg_like this fun q hq => ?_
  show [yA (g (offD fs i + q))] = [yA (g (sbL (some ((offD fs i : Nat) : Int)) + q))]
  rw [s3]
theorem wk_none (d : Disk fs K n g) : FFok n g ((offD fs K : Nat) : Int) fstZ := by
  have hle := d.le
  obtain ⟨s1, s2, s3⟩ := sb_from (k := offD fs K) (n := n) hle
  have := ff_cut (n := n - offD fs K) (g := fun q => g (offD fs K + q)) d.none
  show FSpec Try.prog 14 [.sl 1 (sbN (some ((offD fs K : Nat) : Int)) none n) (sbE g (some ((offD fs K : Nat) : Int)))] _
  rw [s2]
  refine arg_like this fun q hq => ?_
  show [yA (g (offD fs K + q))] = [yA (g (sbL (some ((offD fs K : Nat) : Int)) + q))]
  rw [s3]
def wkI (fs : Nat → Flm) (n : Nat) (g : Nat → Int) (i : Nat) : St := wkS n g (lastC fs i) (Nat.blt 0 i) ((offD fs i : Nat) : Int)
theorem wk_leads (d : Disk fs K n g) : Leads Try.prog (.loop (loopAt Try.f9 0)) (wkS n g flmZ false 0) (.exit 0) (wkI fs n g K) := by
  have hle := d.le; have hn := d.sm
  refine loop_rule (fun i => wkI fs n g i) K (.exit 0) _ (by simp) (fun i hi => ?_) ?_
  · have h1 : offD fs (i + 1) ≤ offD fs K := offD_le fs (by omega)
    have h2 : offD fs (i + 1) = offD fs i + frN (fs i) := rfl
    obtain ⟨s1, _, _⟩ := sb_from (k := offD fs i) (n := n) (by omega)
    have ew : w64 (((offD fs i : Nat) : Int) + ((frN (fs i) : Nat) : Int)) = ((offD fs (i + 1) : Nat) : Int) := by rw [w64_id (by omega) (by omega), h2]; omega
    cases i with
    | zero =>
      refine leads_ev (finN_sub keepWk [some 0]) e_nil (k_cons kS_ok k_nil) noL_ok ((wk_stepZ n g false ((offD fs 0 : Nat) : Int) (fs 0) ((frN (fs 0) : Nat) : Int)).trans ?_)
      rw [s1, gate_pos (wk_whole d hi), ew]
      rfl
    | succ i =>
      refine leads_ev (finN_sub keepWk [some 0]) e_nil (k_cons kS_ok k_nil) noL_ok ((wk_stepF n g (fs i) true ((offD fs (i + 1) : Nat) : Int) (fs (i + 1)) ((frN (fs (i + 1)) : Nat) : Int)).trans ?_)
      rw [s1, gate_pos (wk_whole d hi), ew]
      rfl
  · obtain ⟨s1, _, _⟩ := sb_from (k := offD fs K) (n := n) hle
    cases K with
    | zero =>
      refine leads_ev (finE_sub keepWk [some 0]) e_nil (k_cons kS_ok k_nil) noL_ok ((wk_endZ n g false ((offD fs 0 : Nat) : Int)).trans ?_)
      rw [s1, gate_pos (wk_none d)]
      rfl
    | succ K =>
      refine leads_ev (finE_sub keepWk [some 0]) e_nil (k_cons kS_ok k_nil) noL_ok ((wk_endF n g (fs K) true ((offD fs (K + 1) : Nat) : Int)).trans ?_)
      rw [s1, gate_pos (wk_none d)]
      rfl
def wkV (fs : Nat → Flm) (K : Nat) : AV := .tup [.own 0 0, .agg (lastC fs K), bA (Nat.blt 0 K)]
def wkR (c : Nat) (g : Nat → Int) : List Row := [.c [.osl 1 1 0 c], yR c g]
/-- WHAT IS LEFT OF A DISK. -/
theorem wake_G (d : Disk fs K n g) : GSpec Try.prog 9 [sB n g] [] (wkV fs K) (wkR (offD fs K) g) := by
  have hle := d.le; have hn := d.sm
  obtain ⟨s1, s2⟩ := sb_to (k := offD fs K) (n := n) hle
  have hcp : CPe n g ((offD fs K : Nat) : Int) (offD fs K) g := by
    have h1 := clone_G (n := offD fs K) (by omega) g
    show GSpec Try.prog 13 [.sl 1 (sbN none (some ((offD fs K : Nat) : Int)) n) (sbE g none)] [] _ _
    rw [s2]
    refine ⟨h1.1, fun R E cargs hp hW hg hr => h1.2 R E cargs hp hW hg ?_⟩
    obtain ⟨u0, t0, e0, r0, hr⟩ := rels_cons.1 hr
    refine rels_cons.2 ⟨u0, t0, e0, sl_like r0 fun i hi => ?_, hr⟩
    show [yA (g i)] = [yA (g (0 + i))]
    rw [Nat.zero_add]
  have hL := lok_at (c := bodyOf Try.f9) (i := 2) 0 1 (by kernel_rfl) (by kernel_rfl) (toldF_sound (keep := keepWk) (τ := [some 0]) (wk_leads d))
  cases K with
  | zero =>
    have hev := wake_evZ n g false ((offD fs 0 : Nat) : Int) (offD fs 0) g
    unfold wakeO at hev
    rw [gate_pos (Sub.refl _), s1, propB_t hcp] at hev
    exact gspecG (mem := []) e_nil k_nil (m_cons mR_ok m_nil) Try.func9 (by kernel_rfl) (by kernel_rfl) hL rfl (by kernel_rfl) hev
  | succ K =>
    have hev := wake_evF n g (fs K) true ((offD fs (K + 1) : Nat) : Int) (offD fs (K + 1)) g
    unfold wakeO at hev
    rw [gate_pos (Sub.refl _), s1, propB_t hcp] at hev
    exact gspecG (mem := []) e_nil k_nil (m_cons mR_ok m_nil) Try.func9 (by kernel_rfl) (by kernel_rfl) hL rfl (by kernel_rfl) hev
end
end Go.Proofs.Ythplpfmglleacaa

namespace Go.Proofs.Ythplpfmglleacaa
open Go.Gv

section
variable (n : Nat) (hs : Nat → Int) (many cut : Int)
def tsX (i : Int) (a8 a9 : AV) (r : List (Nat × AV)) (mem : List Row) : St := mkS 143 ([(0, rsl n hs), (1, iA many), (2, iA cut), (7, .own 0 0), (8, a8), (9, a9), (10, iA i)] ++ r) mem
end
def tsS (n : Nat) (hs : Nat → Int) (many cut : Int) (k c : Nat) (i : Int) (D S : Nat → Int) (F : EL) : St := tsX n hs many cut i (.osl 2 1 0 k) (.osl 3 4 0 k) [] [.c [.osl 1 1 0 c], yR c D, iR k S, fR k F]
def tsN (n : Nat) (hs : Nat → Int) (many cut : Int) : St := tsX n hs many cut 0 (.x (.slice none 0 0)) (.x (.slice none 0 0)) [] [.c [.x (.slice none 0 0)]]
def keepT : List Nat := [0, 1, 2, 7, 8, 9, 10]
def keepU : List Nat := [0, 1, 2, 7, 8, 9, 10, 11]
def keepV : List Nat := [0, 1, 2, 7, 8, 9, 10, 11, 12]
def idT : Nat → List (Option Nat) := fun k => (List.range k).map some
/-- The parts of the loop. -/
def codeB (c : Code) : Code := codeL (codeL (codeR c))
noncomputable def rwG (n : Nat) (hs : Nat → Int) (k : Int) (o : Option Out) : Option Out := gate (some (rsl n hs) = some (rsl n hs)) (cond (decide (0 ≤ k)) o none)
section
variable (n : Nat) (hs : Nat → Int) (many cut : Int) (k c : Nat) (i : Int) (D S : Nat → Int) (F : EL) (pf : Int → Int → Int) (rv : Int → Int)
theorem tsA_ev : evC Try.prog [] [kPick pf] noL (codeL (loopAt Try.f3 0)) (tsS n hs many cut k c i D S F) (finN keepT (idT 4)) = cond (decide (i < pf many 4)) (some ⟨.normal, tsS n hs many cut k c i D S F, .any⟩) none := by kernel_rfl
theorem tsE_ev : evC Try.prog [] [⟨6, fun _ _ => none⟩, kPick pf] noL (loopAt Try.f3 0) (tsS n hs many cut k c i D S F) (finE keepT (idT 4)) = cond (decide (i < pf many 4)) none (some ⟨.exit 0, tsS n hs many cut k c i D S F, .any⟩) := by kernel_rfl
variable (W H : Int) (m q : Nat) (g g' : Nat → Int)
def tsA (sh : EL) : St := tsX n hs many cut i (.osl 2 1 0 k) (.osl 3 4 0 k) [(11, .own 6 0)] [.c [.osl 1 1 0 c], yR c D, iR k S, fR k F, .a 3 1 m fun q => [iA (g q)], .a 3 1 q sh, .c [iA W, iA H, .osl 4 1 0 m, .osl 5 1 0 q]]
abbrev FLMok (w h : Int) : Prop := GSpec Try.prog 5 [rsl n hs, iA w, iA h] [] (foV W H m q) (foR m q g g')
theorem ts9_ev : evCM Try.prog [] [kRaw n hs rv, kPick pf] [mR Try.prog 5 (fun _ => foV W H m q) (fun _ => foR m q g g')] noL (codeL (codeB (loopAt Try.f3 0))) (tsS n hs many cut k c i D S F) (finN keepU (idT 7)) =
    rwG n hs i (rwG n hs (w64 (i + 1)) (cond (propB (FLMok n hs W H m q g g' (w64 (1 + pf (rv i) 3)) (w64 (1 + pf (rv (w64 (i + 1))) 3)))) (some ⟨.normal, tsA n hs many cut k c i D S F W H m q g fun j => [iA (g' j)], .any⟩) none)) := by kernel_rfl
theorem ts10_ev : evC Try.prog [] [] noL (codeL (codeR (codeB (loopAt Try.f3 0)))) (tsA n hs many cut k c i D S F W H m q g fun j => [iA (g' j)]) (finN keepU (idT 7)) =
    cond (ixB 0 q || false) (cond (Nat.blt (0 + 0) q || false) (some ⟨.normal, tsA n hs many cut k c i D S F W H m q g fun j => mixL (j == 0 + 0) [iA i] [iA (g' j)], .any⟩) none) none := by kernel_rfl
variable (f : Flm) (c' : Nat) (D' : Nat → Int)
def tsK (r : List (Nat × AV)) (mem : List Row) : St := tsX n hs many cut i (.osl 2 1 0 k) (.osl 3 4 0 k) ([(11, .own 6 0)] ++ r) mem
abbrev KPok : Prop := GSpec Try.prog 7 [.own 0 0, .agg f.c] (memA 1 c (yR c D) k S F f []) (iA 0) (memA 7 c' .dead k S F f [yR c' D'])
theorem ts11_ev : evCW Try.prog [] [] [] [wS Try.prog 7 (fun _ _ => iA 0) (fun _ _ => memA 7 c' .dead k S F f [yR c' D'])] [] noL (codeL (codeR (codeR (codeB (loopAt Try.f3 0))))) (tsK n hs many cut k i [] (memA 1 c (yR c D) k S F f [])) (finN keepV (idT 8)) =
    cond (propB (KPok k c D S F f c' D')) (some ⟨.normal, tsK n hs many cut k i [(12, iA 0)] (memA 7 c' .dead k S F f [yR c' D']), .any⟩) none := by kernel_rfl
def fmB (k : Nat) : Bool := ((k == k) && Nat.ble ((k + 1) * 64) 140737488355328) || false
def fmE (k : Nat) (F : EL) (f : Flm) : EL := fun q => mixL (Nat.blt q k) (F q) f.c
abbrev BYok (c : Nat) (D : Nat → Int) : Prop := FreshSpec Try.prog 8 [.ref [sB c D] 0] (sB c D) ∧ noOwn (sB c D) = true
noncomputable def byB (c : Nat) (D : Nat → Int) : Bool := (propB (BYok c D) && (Nat.beq 1 1 && Nat.ble c c)) || false
theorem ts14_ev : evCW Try.prog [] [] [] [] [rS Try.prog 8 id] noL (codeR (codeR (codeR (codeB (loopAt Try.f3 0))))) (tsK n hs many cut k i [(12, iA 0)] (memA 7 c' .dead k S F f [yR c' D'])) (finN keepT [some 0, some 7, some 11, some 9]) =
    cond (fmB k) (cond (byB c' D') (cond (apB k 8 || false) (some ⟨.normal, tsX n hs many cut i (.osl 2 1 0 (k + 1)) (.osl 3 4 0 (k + 1)) [] [.c [.osl 1 1 0 c'], yR c' D', .a 3 1 (k + 1) fun q => mixL (Nat.blt q k) [iA (S q)] [iA (c' : Int)], fR (k + 1) (fmE k F f)], .any⟩) none) none) none := by kernel_rfl
theorem ts8_ev : evC Try.prog [] [] noL (codeR (codeR (loopAt Try.f3 0))) (tsS n hs many cut k c i D S F) (finN keepT (idT 4)) = some ⟨.normal, tsS n hs many cut k c (w64 (i + 1)) D S F, .any⟩ := by kernel_rfl
end
end Go.Proofs.Ythplpfmglleacaa

namespace Go.Proofs.Ythplpfmglleacaa
open Go.Gv

/-- A film that may be, with so much light and so many shots at most. -/
structure FB (f : Flm) (K S : Int) (wd ht : Nat) : Prop where
  W : f.W = (wd : Int)
  H : f.H = (ht : Int)
  w1 : 1 ≤ wd
  w64 : wd ≤ 64
  h1 : 1 ≤ ht
  h64 : ht ≤ 64
  n : f.n = 3 * (wd * ht)
  m : f.m = wd * ht
  lt : ∀ i, i < f.n → 0 ≤ f.lt i ∧ f.lt i ≤ K
  sh : ∀ i, i < f.m → 0 ≤ f.sh i ∧ f.sh i ≤ S
theorem ofB_in {x most : Int} (h0 : 0 ≤ x) (h1 : x ≤ most) : ofB x most = false := by
  unfold ofB
  rw [decide_eq_false (show ¬ x < 0 by omega), decide_eq_false (show ¬ x > most by omega)]
  rfl
theorem fb_may {f : Flm} {K S : Int} {wd ht : Nat} (h : FB f K S wd ht) (hK : K ≤ 1099511627776) (hS : S ≤ 1048576) : fmay f = 0 := by
  have h1 := h.w1; have h2 := h.w64; have h3 := h.h1; have h4 := h.h64
  have hn : wd * ht ≤ 64 * 64 := Nat.mul_le_mul h2 h4
  have e1 : (wd : Int) * (ht : Int) = ((wd * ht : Nat) : Int) := by rw [Int.natCast_mul]
  have b1 : fbad f.W f.H = false := by
    unfold fbad
    rw [h.W, h.H, decide_eq_false (show ¬ (wd : Int) < 1 by omega), decide_eq_false (show ¬ (ht : Int) < 1 by omega), decide_eq_false (show ¬ (wd : Int) > 64 by omega), decide_eq_false (show ¬ (ht : Int) > 64 by omega)]
    rfl
  have b2 : fcnt f = false := by
    unfold fcnt
    rw [h.W, h.H, h.n, h.m, w64_id (n := 3 * (wd : Int)) (by omega) (by omega), Int.mul_assoc, e1, w64_id (n := 3 * ((wd * ht : Nat) : Int)) (by omega) (by omega), w64_id (n := ((wd * ht : Nat) : Int)) (by omega) (by omega)]
    have e2 : ((3 * (wd * ht) : Nat) : Int) = 3 * ((wd * ht : Nat) : Int) := by omega
    rw [e2, BEq.rfl, BEq.rfl]
    rfl
  have b3 : fval f = true := by
    unfold fval
    rw [allI_t fun i hi => ?_, allI_t fun i hi => ?_]
    · rfl
    · obtain ⟨a, b⟩ := h.sh i hi
      rw [ofB_in a (by omega)]; rfl
    · obtain ⟨a, b⟩ := h.lt i hi
      rw [ofB_in a (by omega)]; rfl
  unfold fmay
  rw [b1, b2, b3]
  rfl
theorem pk_rng {n : Nat} {c : Int} (h : ∃ m : Nat, pk0 c = m) (hn : 0 < n) : 0 ≤ pk c n ∧ pk c n < n := by
  obtain ⟨m, hm⟩ := h
  unfold pk
  rw [hm, ← Int.ofNat_tmod]
  have := Nat.mod_lt m hn
  omega
theorem w64_wf (n : Int) : (Lit.int .i64 (w64 n)).wf = true := by
  have h : -9223372036854775808 ≤ w64 n ∧ w64 n ≤ 9223372036854775807 := by unfold w64; rw [IntKind.wrap_i64]; omega
  simp [Lit.wf, IntKind.min, IntKind.max, IntKind.signed, IntKind.bits]
  omega
theorem rawV_wf {n : Nat} {hs : Nat → Int} (h : ∀ i, i < n → (Lit.int .i64 (hs i)).wf = true) (k : Nat) : (Lit.int .i64 (rawV n hs (k : Nat))).wf = true := by
  unfold rawV
  by_cases h0 : n = 0
  · subst h0; rfl
  · rw [beq_false_of_ne (show ((n : Nat) : Int) ≠ 0 by omega), cond_false, ← Int.ofNat_tmod, Int.toNat_natCast]
    exact h _ (Nat.mod_lt _ (by omega))
theorem mflm_fb {n : Nat} {hs : Nat → Int} (h : ∀ i, i < n → (Lit.int .i64 (hs i)).wf = true) {wd ht : Nat} (w1 : 1 ≤ wd) (w2 : wd ≤ 64) (h1 : 1 ≤ ht) (h2 : ht ≤ 64) : FB (mflm n hs wd ht) 300000 6 wd ht := by
  have hn : wd * ht ≤ 64 * 64 := Nat.mul_le_mul w2 h2
  refine ⟨rfl, rfl, w1, w2, h1, h2, rfl, rfl, fun i hi => ?_, fun i hi => ?_⟩
  · show 0 ≤ flt n hs i ∧ flt n hs i ≤ 300000
    unfold flt foN
    obtain ⟨k, e, hk⟩ := pk_nat (n := 300000) (w64_wf (rawV n hs (poK ((i / 3 : Nat) : Int) ((i % 3 : Nat) : Int)) * 4099)) (by omega)
    have e : pk (w64 (rawV n hs (poK ((i / 3 : Nat) : Int) ((i % 3 : Nat) : Int)) * 4099)) 300000 = k := e
    rw [e]; omega
  · show 0 ≤ fsh n hs i ∧ fsh n hs i ≤ 6
    have hi : i < wd * ht := hi
    unfold fsh foC
    have ek : poK ((i : Nat) : Int) 3 = ((4 * i + 3 : Nat) : Int) := by
      unfold poK
      rw [w64_id (n := 4 * _) (by omega) (by omega), w64_id (by omega) (by omega)]; omega
    obtain ⟨k, e, hk⟩ := pk_nat (n := 6) (rawV_wf h (4 * i + 3)) (by omega)
    have e : pk (rawV n hs ((4 * i + 3 : Nat) : Int)) 6 = k := e
    rw [ek, e]; omega
end Go.Proofs.Ythplpfmglleacaa

namespace Go.Proofs.Ythplpfmglleacaa
open Go.Gv

/-! ### The films -/
def wdT (n : Nat) (hs : Nat → Int) (k : Nat) : Nat := (1 + pk (rawV n hs (k : Nat)) 3).toNat
def fsT (n : Nat) (hs : Nat → Int) (k : Nat) : Flm := ⟨wdT n hs k, wdT n hs (k + 1), 3 * (wdT n hs k * wdT n hs (k + 1)), flt n hs, wdT n hs k * wdT n hs (k + 1), fun j => cond (j == 0 + 0) (k : Int) (fsh n hs j)⟩
section
variable {n : Nat} {hs : Nat → Int} (hb : ∀ i, i < n → (Lit.int .i64 (hs i)).wf = true)
include hb
theorem wdT_eq (k : Nat) : w64 (1 + pk (rawV n hs (k : Nat)) 3) = ((wdT n hs k : Nat) : Int) ∧ 1 ≤ wdT n hs k ∧ wdT n hs k ≤ 3 := by
  obtain ⟨j, h1, h2⟩ := pk_nat (n := 3) (rawV_wf hb k) (by decide)
  have h1 : pk (rawV n hs (k : Nat)) 3 = j := h1
  unfold wdT
  rw [h1, w64_id (by omega) (by omega)]
  omega
theorem fsT_may {k : Nat} (hk : k ≤ 6) : fmay (fsT n hs k) = 0 := by
  obtain ⟨_, a1, a2⟩ := wdT_eq hb k
  obtain ⟨_, b1, b2⟩ := wdT_eq hb (k + 1)
  have hm := mflm_fb hb (wd := wdT n hs k) (ht := wdT n hs (k + 1)) a1 (by omega) b1 (by omega)
  have h : FB (fsT n hs k) 300000 6 (wdT n hs k) (wdT n hs (k + 1)) := ⟨rfl, rfl, a1, by omega, b1, by omega, rfl, rfl, hm.lt, fun i hi => by
    show 0 ≤ cond (i == 0 + 0) (k : Int) (fsh n hs i) ∧ cond (i == 0 + 0) (k : Int) (fsh n hs i) ≤ 6
    cases i == 0 + 0
    · exact hm.sh i hi
    · rw [cond_true]; omega⟩
  exact fb_may h (by decide) (by decide)
theorem frN_le {k : Nat} (hk : k ≤ 6) : frN (fsT n hs k) ≤ 1000008 := by
  rw [frN_eq]
  have := (svN_le (fsT_may hb hk)).1
  omega
theorem offT_le : ∀ {k : Nat}, k ≤ 7 → offD (fsT n hs) k ≤ 1000008 * k
  | 0, _ => Nat.le_refl _
  | k + 1, hk => by
    have h1 := offT_le (k := k) (by omega)
    have h2 := frN_le hb (k := k) (by omega)
    show offD (fsT n hs) k + frN (fsT n hs k) ≤ _
    omega
end
theorem mixF_t (a b : Flm) : mixL true a.c b.c = a.c := by
  have e : ∀ (x y : Nat → Int) (n m : Nat), mixA true (sI n x) (sI m y) = sI n x := fun x y n m => by
    show cond (Nat.beq 1 1) (AV.sl 1 n fun i => mixL true [iA (x i)] [iA (y i)]) .any = _
    have : (fun i => mixL true [iA (x i)] [iA (y i)]) = fun i => [iA (x i)] := funext fun i => mixI true _ _
    rw [this]
    rfl
  show [iA a.W, iA a.H, mixA true (sI a.n a.lt) (sI b.n b.lt), mixA true (sI a.m a.sh) (sI b.m b.sh)] = [iA a.W, iA a.H, sI a.n a.lt, sI a.m a.sh]
  rw [e, e]
theorem mixF_f (a b : Flm) : mixL false a.c b.c = b.c := by
  have e : ∀ (x y : Nat → Int) (n m : Nat), mixA false (sI n x) (sI m y) = sI m y := fun x y n m => by
    show cond (Nat.beq 1 1) (AV.sl 1 m fun i => mixL false [iA (x i)] [iA (y i)]) .any = _
    have : (fun i => mixL false [iA (x i)] [iA (y i)]) = fun i => [iA (y i)] := funext fun i => mixI false _ _
    rw [this]
    rfl
  show [iA b.W, iA b.H, mixA false (sI a.n a.lt) (sI b.n b.lt), mixA false (sI a.m a.sh) (sI b.m b.sh)] = [iA b.W, iA b.H, sI b.n b.lt, sI b.m b.sh]
  rw [e, e]
/-! ### The loop -/
section
variable (n : Nat) (hs : Nat → Int) (many cut : Int)
def szT (n : Nat) (hs : Nat → Int) (j : Nat) : Int := ((offD (fsT n hs) (j + 1) : Nat) : Int)
def tsI (k : Nat) : St := tsS n hs many cut k (offD (fsT n hs) k) (k : Nat) (dkV (fsT n hs) k) (szT n hs) fun j => (fsT n hs j).c
/-- The film's rows are only read any more. -/
theorem ts_frz (k c : Nat) (i : Int) (D S : Nat → Int) (F : EL) (W H : Int) (m q : Nat) (g sh : Nat → Int) :
    Sub (tsA n hs many cut k c i D S F W H m q g fun j => [iA (sh j)]) (tsK n hs many cut k i [] (memA 1 c (yR c D) k S F ⟨W, H, m, g, q, sh⟩ [])) := by
  have h1 : Sub (tsA n hs many cut k c i D S F W H m q g fun j => [iA (sh j)]) (tsX n hs many cut i (.osl 2 1 0 k) (.osl 3 4 0 k) [(11, .own 6 0)] [.c [.osl 1 1 0 c], yR c D, iR k S, fR k F, .dead, .a 3 1 q fun j => [iA (sh j)], .c [iA W, iA H, sI m g, .osl 5 1 0 q]]) := by
    refine sub_freezeM (k := 4) (e := 3) (sz := 1) (n := m) (el := fun j => [iA (g j)]) rfl (fun j row hj => ?_) ⟨rfl, Or.inl rfl, rfl, Or.inl rfl, rfl, Or.inl rfl, rfl, Or.inl rfl, rfl, Or.inl rfl, rfl, Or.inl rfl, rfl, Or.inl rfl, rfl, Or.inl rfl, trivial⟩
    match j, hj with
    | 0, hj => exact ⟨_, rfl, Or.inr ⟨by decide, Or.inl (by cases hj; rfl)⟩⟩
    | 1, hj => exact ⟨_, rfl, Or.inr ⟨by decide, Or.inl (by cases hj; rfl)⟩⟩
    | 2, hj => exact ⟨_, rfl, Or.inr ⟨by decide, Or.inl (by cases hj; rfl)⟩⟩
    | 3, hj => exact ⟨_, rfl, Or.inr ⟨by decide, Or.inl (by cases hj; rfl)⟩⟩
    | 4, hj => exact ⟨.dead, rfl, Or.inl ⟨rfl, rfl⟩⟩
    | 5, hj => exact ⟨_, rfl, Or.inr ⟨by decide, Or.inl (by cases hj; rfl)⟩⟩
    | 6, hj => exact ⟨_, rfl, Or.inr ⟨by decide, Or.inr ⟨[iA W, iA H, .osl 4 1 0 m, .osl 5 1 0 q], _, by cases hj; rfl, rfl, Or.inl rfl, Or.inl rfl, Or.inr ⟨rfl, rfl⟩, Or.inl rfl, trivial⟩⟩⟩
    | j + 7, hj => cases hj
  refine h1.trans ?_
  refine sub_freezeM (k := 5) (e := 3) (sz := 1) (n := q) (el := fun j => [iA (sh j)]) rfl (fun j row hj => ?_) ⟨rfl, Or.inl rfl, rfl, Or.inl rfl, rfl, Or.inl rfl, rfl, Or.inl rfl, rfl, Or.inl rfl, rfl, Or.inl rfl, rfl, Or.inl rfl, rfl, Or.inl rfl, trivial⟩
  match j, hj with
  | 0, hj => exact ⟨_, rfl, Or.inr ⟨by decide, Or.inl (by cases hj; rfl)⟩⟩
  | 1, hj => exact ⟨_, rfl, Or.inr ⟨by decide, Or.inl (by cases hj; rfl)⟩⟩
  | 2, hj => exact ⟨_, rfl, Or.inr ⟨by decide, Or.inl (by cases hj; rfl)⟩⟩
  | 3, hj => exact ⟨_, rfl, Or.inr ⟨by decide, Or.inl (by cases hj; rfl)⟩⟩
  | 4, hj => exact ⟨_, rfl, Or.inr ⟨by decide, Or.inl (by cases hj; rfl)⟩⟩
  | 5, hj => exact ⟨.dead, rfl, Or.inl ⟨rfl, rfl⟩⟩
  | 6, hj => exact ⟨_, rfl, Or.inr ⟨by decide, Or.inr ⟨[iA W, iA H, sI m g, .osl 5 1 0 q], _, by cases hj; rfl, rfl, Or.inl rfl, Or.inl rfl, Or.inl rfl, Or.inr ⟨rfl, rfl⟩, trivial⟩⟩⟩
  | j + 7, hj => cases hj
theorem rwG_pos {k : Nat} {o : Option Out} : rwG n hs (k : Nat) o = o := by
  unfold rwG
  rw [gate_pos rfl, dec_nonneg, cond_true]
theorem ts_step (hb : ∀ i, i < n → (Lit.int .i64 (hs i)).wf = true) {k : Nat} (hk : k ≤ 3) (hp : ((k : Nat) : Int) < pk many 4) : Leads Try.prog (loopAt Try.f3 0) (tsI n hs many cut k) .normal (tsI n hs many cut (k + 1)) := by
  obtain ⟨ew, w1, w2⟩ := wdT_eq hb k
  obtain ⟨eh, h1, h2⟩ := wdT_eq hb (k + 1)
  have hf := fsT_may hb (k := k) (by omega)
  have hoff := offT_le hb (k := k) (by omega)
  have hoff1 := offT_le hb (k := k + 1) (by omega)
  have eo : offD (fsT n hs) (k + 1) = offD (fsT n hs) k + frN (fsT n hs k) := rfl
  have e1 : loopAt Try.f3 0 = .seq (codeL (loopAt Try.f3 0)) (.seq (.block 1 (codeB (loopAt Try.f3 0))) (codeR (codeR (loopAt Try.f3 0)))) := by kernel_rfl
  have e2 : codeB (loopAt Try.f3 0) = .seq (codeL (codeB (loopAt Try.f3 0))) (.seq (codeL (codeR (codeB (loopAt Try.f3 0)))) (.seq (codeL (codeR (codeR (codeB (loopAt Try.f3 0))))) (codeR (codeR (codeR (codeB (loopAt Try.f3 0))))))) := by kernel_rfl
  have hA : Leads Try.prog (codeL (loopAt Try.f3 0)) (tsI n hs many cut k) .normal (tsI n hs many cut k) := by
    refine leads_ev (finN_sub keepT (idT 4)) e_nil (k_cons kPick_ok k_nil) noL_ok ((tsA_ev n hs many cut k _ (k : Nat) _ _ _ pk).trans ?_)
    rw [decide_eq_true hp]
    rfl
  have h9 : Leads Try.prog (codeL (codeB (loopAt Try.f3 0))) (tsI n hs many cut k) .normal (tsA n hs many cut k (offD (fsT n hs) k) (k : Nat) (dkV (fsT n hs) k) (szT n hs) (fun j => (fsT n hs j).c) (wdT n hs k : Nat) (wdT n hs (k + 1) : Nat) (3 * (wdT n hs k * wdT n hs (k + 1))) (wdT n hs k * wdT n hs (k + 1)) (flt n hs) fun j => [iA (fsh n hs j)]) := by
    refine leads_evM (finN_sub keepU (idT 7)) e_nil (k_cons (kRaw_ok n hs) (k_cons kPick_ok k_nil)) (m_cons mR_ok m_nil) noL_ok ((ts9_ev n hs many cut k _ (k : Nat) _ _ _ pk (rawV n hs) (wdT n hs k : Nat) (wdT n hs (k + 1) : Nat) (3 * (wdT n hs k * wdT n hs (k + 1))) (wdT n hs k * wdT n hs (k + 1)) (flt n hs) (fsh n hs)).trans ?_)
    rw [w64_next (by omega), ew, eh, propB_t (mflm_G n hs (wd := wdT n hs k) (ht := wdT n hs (k + 1)) (by omega) (by omega)), rwG_pos, rwG_pos]
    rfl
  have hq : 0 < wdT n hs k * wdT n hs (k + 1) := Nat.mul_pos (by omega) (by omega)
  have h10 : Leads Try.prog (codeL (codeR (codeB (loopAt Try.f3 0)))) (tsA n hs many cut k (offD (fsT n hs) k) (k : Nat) (dkV (fsT n hs) k) (szT n hs) (fun j => (fsT n hs j).c) (wdT n hs k : Nat) (wdT n hs (k + 1) : Nat) (3 * (wdT n hs k * wdT n hs (k + 1))) (wdT n hs k * wdT n hs (k + 1)) (flt n hs) fun j => [iA (fsh n hs j)]) .normal (tsK n hs many cut k (k : Nat) [] (memA 1 (offD (fsT n hs) k) (yR (offD (fsT n hs) k) (dkV (fsT n hs) k)) k (szT n hs) (fun j => (fsT n hs j).c) (fsT n hs k) [])) := by
    have st := ts10_ev n hs many cut k (offD (fsT n hs) k) (k : Nat) (dkV (fsT n hs) k) (szT n hs) (fun j => (fsT n hs j).c) (wdT n hs k : Nat) (wdT n hs (k + 1) : Nat) (3 * (wdT n hs k * wdT n hs (k + 1))) (wdT n hs k * wdT n hs (k + 1)) (flt n hs) (fsh n hs)
    rw [show ixB 0 (wdT n hs k * wdT n hs (k + 1)) = true from ixB_t (i := 0) hq, blt_t (show 0 + 0 < wdT n hs k * wdT n hs (k + 1) by omega)] at st
    have e : (fun j => mixL (j == 0 + 0) [iA ((k : Nat) : Int)] [iA (fsh n hs j)]) = fun j => [iA (cond (j == 0 + 0) (k : Int) (fsh n hs j))] := funext fun j => mixI _ _ _
    rw [e] at st
    exact (leads_ev (finN_sub keepU (idT 7)) e_nil k_nil noL_ok st).sub (Sub.refl _) (ts_frz n hs many cut k _ (k : Nat) _ _ _ _ _ _ _ _ _)
  have h11 : Leads Try.prog (codeL (codeR (codeR (codeB (loopAt Try.f3 0))))) (tsK n hs many cut k (k : Nat) [] (memA 1 (offD (fsT n hs) k) (yR (offD (fsT n hs) k) (dkV (fsT n hs) k)) k (szT n hs) (fun j => (fsT n hs j).c) (fsT n hs k) [])) .normal (tsK n hs many cut k (k : Nat) [(12, iA 0)] (memA 7 (offD (fsT n hs) (k + 1)) .dead k (szT n hs) (fun j => (fsT n hs j).c) (fsT n hs k) [yR (offD (fsT n hs) (k + 1)) (dkV (fsT n hs) (k + 1))])) := by
    refine leads_evW e_nil k_nil m_nil (w_cons wS_ok w_nil) r_nil (finN_sub keepV (idT 8)) noL_ok ((ts11_ev n hs many cut k (offD (fsT n hs) k) (k : Nat) (dkV (fsT n hs) k) (szT n hs) (fun j => (fsT n hs j).c) (fsT n hs k) (offD (fsT n hs) (k + 1)) (dkV (fsT n hs) (k + 1))).trans ?_)
    rw [propB_t (show KPok k (offD (fsT n hs) k) (dkV (fsT n hs) k) (szT n hs) (fun j => (fsT n hs j).c) (fsT n hs k) (offD (fsT n hs) (k + 1)) (dkV (fsT n hs) (k + 1)) from keepA hf (by omega))]
    rfl
  have h14 : Leads Try.prog (codeR (codeR (codeR (codeB (loopAt Try.f3 0))))) (tsK n hs many cut k (k : Nat) [(12, iA 0)] (memA 7 (offD (fsT n hs) (k + 1)) .dead k (szT n hs) (fun j => (fsT n hs j).c) (fsT n hs k) [yR (offD (fsT n hs) (k + 1)) (dkV (fsT n hs) (k + 1))])) .normal (tsS n hs many cut (k + 1) (offD (fsT n hs) (k + 1)) (k : Nat) (dkV (fsT n hs) (k + 1)) (szT n hs) fun j => (fsT n hs j).c) := by
    have st := ts14_ev n hs many cut k (k : Nat) (szT n hs) (fun j => (fsT n hs j).c) (fsT n hs k) (offD (fsT n hs) (k + 1)) (dkV (fsT n hs) (k + 1))
    have b1 : fmB k = true := by unfold fmB; rw [BEq.rfl, ble_t (by omega)]; rfl
    have b2 : byB (offD (fsT n hs) (k + 1)) (dkV (fsT n hs) (k + 1)) = true := by
      unfold byB
      rw [propB_t (show BYok (offD (fsT n hs) (k + 1)) (dkV (fsT n hs) (k + 1)) from ⟨bytes_fresh (by omega) _, rfl⟩), ble_t (Nat.le_refl _)]
      rfl
    rw [b1, b2, apB_t (by omega)] at st
    refine (leads_evW e_nil k_nil m_nil w_nil (r_cons rS_ok r_nil) (finN_sub keepT [some 0, some 7, some 11, some 9]) noL_ok st).sub (Sub.refl _) ?_
    refine sub_same ⟨Or.inl rfl, Or.inl rfl, Or.inr ⟨3, 1, k + 1, _, _, rfl, rfl, fun q hq => ?_⟩, Or.inr ⟨29, 4, k + 1, _, _, rfl, rfl, fun q hq => ?_⟩, trivial⟩
    · exact (app_i hq rfl).symm
    · unfold fmE
      by_cases h : q < k
      · rw [blt_t h, mixF_t]
      · rw [blt_no (by omega), mixF_f]
        obtain rfl : q = k := by omega
        rfl
  have h8 : Leads Try.prog (codeR (codeR (loopAt Try.f3 0))) (tsS n hs many cut (k + 1) (offD (fsT n hs) (k + 1)) (k : Nat) (dkV (fsT n hs) (k + 1)) (szT n hs) fun j => (fsT n hs j).c) .normal (tsI n hs many cut (k + 1)) := by
    refine leads_ev (finN_sub keepT (idT 4)) e_nil k_nil noL_ok ((ts8_ev n hs many cut (k + 1) (offD (fsT n hs) (k + 1)) (k : Nat) (dkV (fsT n hs) (k + 1)) (szT n hs) fun j => (fsT n hs j).c).trans ?_)
    rw [w64_next (by omega)]
    rfl
  rw [e1]
  refine leads_seq hA (leads_seq (leads_block ?_) h8)
  rw [e2]
  exact leads_seq h9 (leads_seq h10 (leads_seq h11 h14))
end
end Go.Proofs.Ythplpfmglleacaa

namespace Go.Proofs.Ythplpfmglleacaa
open Go.Gv

/-! ### Rows that are the same -/
def siST (n m : Nat) (a b : Nat → Int) (i : Int) : St := mkS 26 [(0, sI n a), (1, sI m b), (5, iA i)] []
section
variable (n m : Nat) (a b : Nat → Int) (i : Int)
def siTT : Option Out := cond (decide (i < n)) (cond ((ixB i n || false) && ((ixB i m || false) && true)) (cond (!(a i.toNat == b i.toNat)) none (some ⟨.normal, siST n m a b (w64 (i + 1)), .any⟩)) none) none
def siUT : Option Out := cond (decide (i < n)) (cond ((ixB i n || false) && ((ixB i m || false) && true)) (cond (!(a i.toNat == b i.toNat)) none none) none) (some ⟨.exit 0, siST n m a b i, .any⟩)
theorem si_stepT : evC Try.prog [] [] noL (loopAt Try.f15 0) (siST n m a b i) (finN [0, 1, 5] []) = siTT n m a b i := by kernel_rfl
theorem si_endT : evC Try.prog [] [] noL (loopAt Try.f15 0) (siST n m a b i) (finE [0, 1, 5] []) = siUT n m a b i := by kernel_rfl
end
theorem si_leadsT {n : Nat} (hn : n ≤ 4611686018427387904) {a b : Nat → Int} (h : ∀ i, i < n → a i = b i) : Leads Try.prog (.loop (loopAt Try.f15 0)) (siST n n a b 0) (.exit 0) (siST n n a b (n : Nat)) := by
  refine loop_rule (fun k => siST n n a b (k : Nat)) n (.exit 0) _ (by simp) (fun k hk => ?_) ?_
  · refine leads_ev (finN_sub _ _) e_nil k_nil noL_ok ((si_stepT n n a b (k : Nat)).trans ?_)
    unfold siTT
    rw [dec_lt hk, ixB_t hk, Int.toNat_natCast, h k hk, BEq.rfl, w64_next (by omega)]
    rfl
  · refine leads_ev (finE_sub _ _) e_nil k_nil noL_ok ((si_endT n n a b (n : Nat)).trans ?_)
    unfold siUT
    rw [dec_self, cond_false]
noncomputable def siLT (n : Nat) (a b : Nat → Int) : Nat → Option LFun := oneL 4 (toldF [0, 1, 5] [] (siST n n a b 0) (.exit 0) (siST n n a b (n : Nat)))
theorem si_evT (n : Nat) (a b : Nat → Int) : ev Try.prog [] [] (siLT n a b) Try.f15 [sI n a, sI n b] ret = cond (!((n : Int) == (n : Int))) (some (Out.of (bA false))) (gate (Sub (siST n n a b 0) (siST n n a b 0)) (some (Out.of (bA true)))) := by kernel_rfl
theorem same_intsT {n : Nat} (hn : n ≤ 4611686018427387904) {a b : Nat → Int} (h : ∀ i, i < n → a i = b i) : FSpec Try.prog 15 [sI n a, sI n b] (bA true) := by
  have hL := lok_hd (c := bodyOf Try.f15) (i := 4) 0 (by kernel_rfl) (by kernel_rfl) (toldF_sound (keep := [0, 1, 5]) (τ := []) (si_leadsT hn h))
  refine gspec e_nil k_nil Try.func15 (by kernel_rfl) (by kernel_rfl) hL rfl ((si_evT n a b).trans ?_)
  rw [BEq.rfl, gate_pos (Sub.refl _)]
  rfl
theorem sfm_evT (f g : Flm) : ev Try.prog [] [kS Try.prog 15 fun _ => bA true] noL Try.f10 [.agg f.c, .agg g.c] ret =
    gate (FSpec Try.prog 15 [sI f.n f.lt, sI g.n g.lt] (bA true)) (gate (FSpec Try.prog 15 [sI f.m f.sh, sI g.m g.sh] (bA true)) (some (Out.of (bA (cond (cond (cond (f.W == g.W) (f.H == g.H) false) true false) true false))))) := by kernel_rfl
theorem same_filmT {f g : Flm} (hn : f.n ≤ 4611686018427387904) (hm : f.m ≤ 4611686018427387904) (hW : f.W = g.W) (hH : f.H = g.H) (en : f.n = g.n) (em : f.m = g.m) (hl : ∀ i, i < f.n → f.lt i = g.lt i) (hs : ∀ i, i < f.m → f.sh i = g.sh i) : FSpec Try.prog 10 [.agg f.c, .agg g.c] (bA true) := by
  refine gspec e_nil (k_cons kS_ok k_nil) Try.func10 (by kernel_rfl) (by kernel_rfl) noL_ok rfl ((sfm_evT f g).trans ?_)
  have h1 := same_intsT hn hl
  have h2 := same_intsT hm hs
  rw [en] at h1
  rw [em] at h2
  rw [← en] at h1
  rw [← em] at h2
  have h1' : FSpec Try.prog 15 [sI f.n f.lt, sI g.n g.lt] (bA true) := en ▸ h1
  have h2' : FSpec Try.prog 15 [sI f.m f.sh, sI g.m g.sh] (bA true) := em ▸ h2
  rw [gate_pos h1', gate_pos h2', hW, hH, BEq.rfl, BEq.rfl]
  rfl
theorem sft_self {f : Flm} (hn : f.n ≤ 4611686018427387904) (hm : f.m ≤ 4611686018427387904) : FSpec Try.prog 10 [.agg f.c, .agg f.c] (bA true) := same_filmT hn hm rfl rfl rfl rfl (fun _ _ => rfl) fun _ _ => rfl
end Go.Proofs.Ythplpfmglleacaa

namespace Go.Proofs.Ythplpfmglleacaa
open Go.Gv

def tsZ (n : Nat) (hs : Nat → Int) (many cut : Int) (K c : Nat) (D S : Nat → Int) (fs : Nat → Flm) : St := tsX n hs many cut (K : Nat) (sI K S) (.sl 4 K fun j => (fs j).c) [] [.c [.osl 1 1 0 c], yR c D, .dead, .dead]
def zS (n : Nat) (hs : Nat → Int) (cut : Int) (K c : Nat) (D S : Nat → Int) (fs : Nat → Flm) (w : Int) : St := mkS 143 [(0, rsl n hs), (2, iA cut), (8, sI K S), (9, .sl 4 K fun j => (fs j).c), (13, sB c D), (14, iA w)] [.c [.osl 1 1 0 c], yR c D, .dead, .dead]
def keepZ : List Nat := [0, 2, 8, 9, 13, 14]
def gT (b : Bool) (i : Int) (n : Nat) : Bool := ixB i n || !(decide (b = true) && true)
section
variable (n : Nat) (hs : Nat → Int) (many cut : Int) (K c : Nat) (D S : Nat → Int) (fs : Nat → Flm) (w : Int)
def zB (K : Nat) (S : Nat → Int) (cut w : Int) : Bool := cond (decide (w < (K : Int))) (decide (S w.toNat ≤ cut)) false
theorem z_step : evC Try.prog [] [] noL (loopAt Try.f3 1) (zS n hs cut K c D S fs w) (finN keepZ (idT 4)) =
    cond (gT (decide (w < (K : Int))) w K) (cond (zB K S cut w) (some ⟨.normal, zS n hs cut K c D S fs (w64 (w + 1)), .any⟩) none) none := by kernel_rfl
theorem z_end : evC Try.prog [] [] noL (loopAt Try.f3 1) (zS n hs cut K c D S fs w) (finE keepZ (idT 4)) =
    cond (gT (decide (w < (K : Int))) w K) (cond (zB K S cut w) none (some ⟨.exit 2, zS n hs cut K c D S fs w, .any⟩)) none := by kernel_rfl
end
section
variable (wl : Nat → EL → Flm) (wo : Nat → EL → Bool) (we : Nat → EL → Nat) (wg : Nat → EL → Nat → Int)
def wkG : List AV → AV
  | [.sl _ n el] => .tup [.own 0 0, .agg (wl n el).c, bA (wo n el)]
  | _ => .any
def wkM : List AV → List Row
  | [.sl _ n el] => [.c [.osl 1 1 0 (we n el)], yR (we n el) (wg n el)]
  | _ => []
abbrev WKok (n : Nat) (el : EL) : Prop := GSpec Try.prog 9 [.sl 1 n el] [] (.tup [.own 0 0, .agg (wl n el).c, bA (wo n el)]) [.c [.osl 1 1 0 (we n el)], yR (we n el) (wg n el)]
variable (n : Nat) (hs : Nat → Int) (many cut : Int) (K c : Nat) (D S : Nat → Int) (fs : Nat → Flm) (w : Int) (pf : Int → Int → Int) (f2 : Flm) (e' : Nat) (G' : Nat → Int)
noncomputable def tsLs : Nat → Option LFun := twoL 7 (toldF keepT [some 0] (tsN n hs many cut) (.exit 0) (tsZ n hs many cut K c D S fs)) 19 (toldF keepZ (idT 4) (zS n hs (pf cut (w64 ((c : Int) + 1))) K c D S fs 0) (.exit 2) (zS n hs (pf cut (w64 ((c : Int) + 1))) K c D S fs w))
def oF : Option Out := some (Out.of (bA false))
abbrev SFe (a b : Flm) : Prop := FSpec Try.prog 10 [.agg a.c, .agg b.c] (bA true)
abbrev KBok (e : Nat) (G : Nat → Int) (l : Flm) : Prop := GSpec Try.prog 7 [.own 4 0, .agg f2.c] (memB 5 e (yR e G) c 1 (yR c D) l f2 []) (iA 0) (memB 8 e' .dead c 1 (yR c D) l f2 [yR e' G'])
def elY (G : Nat → Int) : EL := fun q => [yA (G q)]
/-- From the film that is kept on. -/
noncomputable def tsR3 (e : Nat) (G : Nat → Int) (l : Flm) : Option Out :=
  gate (FSpec Try.prog 5 [rsl n hs, iA 2, iA 2] (.agg f2.c)) (cond (propB (KBok c D f2 e' G' e G l)) (cond (byB e' G') (cond (propB (WKok wl wo we wg e' (elY G')))
    (gate (SFe (wl e' (elY G')) f2) (some (Out.of (bA (cond (cond true (wo e' (elY G')) false) true false))))) none) none) none)
noncomputable def tsR2 (e : Nat) (G : Nat → Int) (l : Flm) (en : Int) : Option Out :=
  cond (byB e G && ((allB e (fun _ => true) || false) && ((sbB none (some en) none c || false) && ((allB (sbN none (some en) c) (fun _ => true) || false) && true))))
    (cond (!((strF e G).toList == (strF (sbN none (some en) c) fun i => D (sbL none + i)).toList)) oF (tsR3 wl wo we wg n hs c D f2 e' G' e G l)) none
noncomputable def tsR1 (e : Nat) (G : Nat → Int) (l : Flm) (ok : Bool) : Option Out :=
  cond (!(ok == decide (w > 0))) oF (cond (decide (w > 0)) (cond (ixB (w64 (w - 1)) K || false) (gate (SFe l (fs (w64 (w - 1)).toNat)) (cond ((ixB (w64 (w - 1)) K || false) && true) (tsR2 wl wo we wg n hs c D f2 e' G' e G l (S (w64 (w - 1)).toNat)) none)) none)
    (tsR2 wl wo we wg n hs c D f2 e' G' e G l 0))
def cutT : Int := pf cut (w64 ((c : Int) + 1))
def n1 : Nat := sbN none (some (cutT cut c pf)) c
def el1 : EL := sbE D none
theorem ts_ev : evW Try.prog [] [kPick pf, kS Try.prog 5 (fun _ => .agg f2.c), kS Try.prog 10 (fun _ => bA true)] [mRC Try.prog 9 (wkG wl wo) (wkM we wg)] [wS Try.prog 7 (fun _ _ => iA 0) (fun _ _ => memB 8 e' .dead c 1 (yR c D) (wl (n1 cut c pf) (el1 D)) f2 [yR e' G'])] [rS Try.prog 8 id] (tsLs n hs many cut K c D S fs w pf) Try.f3 [rsl n hs, iA many, iA cut] ret =
    cond (decide ((n : Int) > 128)) (some (Out.of (bA true))) (gate (Sub (tsN n hs many cut) (tsN n hs many cut)) (cond (byB c D) (cond (!(w64 ((c : Int) + 1) == 0)) (gate (Sub (zS n hs (cutT cut c pf) K c D S fs 0) (zS n hs (cutT cut c pf) K c D S fs 0))
      (cond (sbB none (some (cutT cut c pf)) none c || false) (cond (propB (WKok wl wo we wg (n1 cut c pf) (el1 D))) (tsR1 wl wo we wg n hs K c D S fs w f2 e' G' (we (n1 cut c pf) (el1 D)) (wg (n1 cut c pf) (el1 D)) (wl (n1 cut c pf) (el1 D)) (wo (n1 cut c pf) (el1 D))) none) none)) none) none)) := by kernel_rfl
end
end Go.Proofs.Ythplpfmglleacaa

namespace Go.Proofs.Ythplpfmglleacaa
open Go.Gv

/-! ### The loops -/
theorem ts_nil (n : Nat) (hs : Nat → Int) (many cut : Int) : Sub (tsN n hs many cut) (tsI n hs many cut 0) := by
  have h1 := fgtN_sub (keep := keepT) (nils := [(8, 1, 1)]) (nr := iR 0 (szT n hs)) (τ := [some 0, none]) (s := tsN n hs many cut) (by kernel_rfl)
  have h2 := fgtN_sub (keep := keepT) (nils := [(9, 2, 4)]) (nr := fR 0 fun j => (fsT n hs j).c) (τ := [some 0, some 1, none]) (s := fgtN keepT [(8, 1, 1)] (iR 0 (szT n hs)) [some 0, none] (tsN n hs many cut)) (by kernel_rfl)
  have h3 := fgtC_sub (keep := keepT) (r0 := 0) (nils := [(0, 1, 1)]) (nr := yR 0 (dkV (fsT n hs) 0)) (τ := [some 0, none, some 1, some 2]) (s := fgtN keepT [(9, 2, 4)] (fR 0 fun j => (fsT n hs j).c) [some 0, some 1, none] (fgtN keepT [(8, 1, 1)] (iR 0 (szT n hs)) [some 0, none] (tsN n hs many cut))) (by kernel_rfl)
  have e : fgtC keepT 0 [(0, 1, 1)] (yR 0 (dkV (fsT n hs) 0)) [some 0, none, some 1, some 2] (fgtN keepT [(9, 2, 4)] (fR 0 fun j => (fsT n hs j).c) [some 0, some 1, none] (fgtN keepT [(8, 1, 1)] (iR 0 (szT n hs)) [some 0, none] (tsN n hs many cut))) = tsI n hs many cut 0 := by kernel_rfl
  rw [e] at h3
  exact (h1.trans h2).trans h3
theorem ts_frzZ (n : Nat) (hs : Nat → Int) (many cut : Int) (K c : Nat) (D S : Nat → Int) (fs : Nat → Flm) : Sub (tsS n hs many cut K c (K : Nat) D S fun j => (fs j).c) (tsZ n hs many cut K c D S fs) := by
  have h1 : Sub (tsS n hs many cut K c (K : Nat) D S fun j => (fs j).c) (tsX n hs many cut (K : Nat) (sI K S) (.osl 3 4 0 K) [] [.c [.osl 1 1 0 c], yR c D, .dead, fR K fun j => (fs j).c]) := by
    refine sub_freezeM (k := 2) (e := 3) (sz := 1) (n := K) (el := fun j => [iA (S j)]) rfl (fun j row hj => ?_) ⟨rfl, Or.inl rfl, rfl, Or.inl rfl, rfl, Or.inl rfl, rfl, Or.inl rfl, rfl, Or.inr ⟨rfl, rfl⟩, rfl, Or.inl rfl, rfl, Or.inl rfl, trivial⟩
    match j, hj with
    | 0, hj => exact ⟨_, rfl, Or.inr ⟨by decide, Or.inl (by cases hj; rfl)⟩⟩
    | 1, hj => exact ⟨_, rfl, Or.inr ⟨by decide, Or.inl (by cases hj; rfl)⟩⟩
    | 2, hj => exact ⟨.dead, rfl, Or.inl ⟨rfl, rfl⟩⟩
    | 3, hj => exact ⟨_, rfl, Or.inr ⟨by decide, Or.inl (by cases hj; rfl)⟩⟩
    | j + 4, hj => cases hj
  refine h1.trans ?_
  refine sub_freezeM (k := 3) (e := 29) (sz := 4) (n := K) (el := fun j => (fs j).c) rfl (fun j row hj => ?_) ⟨rfl, Or.inl rfl, rfl, Or.inl rfl, rfl, Or.inl rfl, rfl, Or.inl rfl, rfl, Or.inl rfl, rfl, Or.inr ⟨rfl, rfl⟩, rfl, Or.inl rfl, trivial⟩
  match j, hj with
  | 0, hj => exact ⟨_, rfl, Or.inr ⟨by decide, Or.inl (by cases hj; rfl)⟩⟩
  | 1, hj => exact ⟨_, rfl, Or.inr ⟨by decide, Or.inl (by cases hj; rfl)⟩⟩
  | 2, hj => exact ⟨_, rfl, Or.inr ⟨by decide, Or.inl (by cases hj; rfl)⟩⟩
  | 3, hj => exact ⟨.dead, rfl, Or.inl ⟨rfl, rfl⟩⟩
  | j + 4, hj => cases hj
section
variable {n : Nat} {hs : Nat → Int} {many cut : Int}
theorem ts_leads (hb : ∀ i, i < n → (Lit.int .i64 (hs i)).wf = true) {K : Nat} (hK : pk many 4 = (K : Nat)) (h4 : K < 4) : Leads Try.prog (.loop (loopAt Try.f3 0)) (tsN n hs many cut) (.exit 0) (tsZ n hs many cut K (offD (fsT n hs) K) (dkV (fsT n hs) K) (szT n hs) (fsT n hs)) := by
  refine LeadsN.sub (s2 := tsI n hs many cut K) ?_ (ts_nil n hs many cut) (ts_frzZ n hs many cut K _ _ _ _)
  refine loop_rule (fun k => tsI n hs many cut k) K (.exit 0) _ (by simp) (fun k hk => ts_step n hs many cut hb (by omega) (by rw [hK]; omega)) ?_
  refine leads_ev (finE_sub keepT (idT 4)) e_nil (k_cons (kno_ok _) (k_cons kPick_ok k_nil)) noL_ok ((tsE_ev n hs many cut K _ (K : Nat) _ _ _ pk).trans ?_)
  rw [hK, dec_self]
  rfl
/-- How many films are whole. -/
structure Whole (fs : Nat → Flm) (K ct wh : Nat) : Prop where
  le : wh ≤ K
  ins : ∀ j, j < wh → offD fs (j + 1) ≤ ct
  out : wh = K ∨ (wh < K ∧ ct < offD fs (wh + 1))
theorem whole_ex (fs : Nat → Flm) (K ct : Nat) : ∃ wh, Whole fs K ct wh := by
  rcases all_or_first (fun j => decide (offD fs (j + 1) ≤ ct)) K with h | ⟨w, h1, h2, h3⟩
  · exact ⟨K, Nat.le_refl _, fun j hj => of_decide_eq_true (h j hj), Or.inl rfl⟩
  · exact ⟨w, by omega, fun j hj => of_decide_eq_true (h3 j hj), Or.inr ⟨h1, by have := of_decide_eq_false h2; omega⟩⟩
theorem z_leads {K ct wh c : Nat} (h4 : K < 4) (hw : Whole (fsT n hs) K ct wh) (D : Nat → Int) : Leads Try.prog (.loop (loopAt Try.f3 1)) (zS n hs (ct : Nat) K c D (szT n hs) (fsT n hs) 0) (.exit 2) (zS n hs (ct : Nat) K c D (szT n hs) (fsT n hs) (wh : Nat)) := by
  have hle := hw.le
  have gt : ∀ w : Nat, gT (decide (((w : Nat) : Int) < (K : Int))) (w : Nat) K = true := fun w => by
    unfold gT
    by_cases h : w < K
    · rw [ixB_t h]; rfl
    · rw [decide_eq_false (show ¬ ((w : Nat) : Int) < (K : Int) by omega)]
      cases ixB (w : Nat) K <;> rfl
  refine loop_rule (fun w => zS n hs (ct : Nat) K c D (szT n hs) (fsT n hs) (w : Nat)) wh (.exit 2) _ (by simp) (fun w hwi => ?_) ?_
  · refine leads_ev (finN_sub keepZ (idT 4)) e_nil k_nil noL_ok ((z_step n hs (ct : Nat) K c D (szT n hs) (fsT n hs) (w : Nat)).trans ?_)
    have hz : zB K (szT n hs) (ct : Nat) (w : Nat) = true := by
      unfold zB szT
      have := hw.ins w hwi
      rw [decide_eq_true (show ((w : Nat) : Int) < (K : Int) by omega), Int.toNat_natCast, decide_eq_true (show ((offD (fsT n hs) (w + 1) : Nat) : Int) ≤ (ct : Int) by omega)]
      rfl
    rw [gt, hz, w64_next (by omega)]
    rfl
  · refine leads_ev (finE_sub keepZ (idT 4)) e_nil k_nil noL_ok ((z_end n hs (ct : Nat) K c D (szT n hs) (fsT n hs) (wh : Nat)).trans ?_)
    have hz : zB K (szT n hs) (ct : Nat) (wh : Nat) = false := by
      unfold zB szT
      rcases hw.out with e | ⟨h1, h2⟩
      · rw [decide_eq_false (show ¬ ((wh : Nat) : Int) < (K : Int) by omega)]; rfl
      · rw [decide_eq_true (show ((wh : Nat) : Int) < (K : Int) by omega), Int.toNat_natCast, decide_eq_false (show ¬ ((offD (fsT n hs) (wh + 1) : Nat) : Int) ≤ (ct : Int) by omega)]; rfl
    rw [gt, hz]
    rfl
/-! ### Disks -/
def lastF (fs : Nat → Flm) : Nat → Flm
  | 0 => zF
  | k + 1 => fs k
theorem wake_F {fs : Nat → Flm} {K m : Nat} {g : Nat → Int} {el : EL} (d : Disk fs K m g) (he : ∀ i, i < m → el i = [yA (g i)]) : GSpec Try.prog 9 [.sl 1 m el] [] (.tup [.own 0 0, .agg (lastF fs K).c, bA (Nat.blt 0 K)]) [.c [.osl 1 1 0 (offD fs K)], yR (offD fs K) g] := by
  have h1 := wake_G d
  refine ⟨h1.1, fun R E cargs hp hW hg hr => ?_⟩
  obtain ⟨u0, t0, e0, r0, hr⟩ := rels_cons.1 hr
  refine (h1.2 R E cargs hp hW hg (rels_cons.2 ⟨u0, t0, e0, sl_like r0 fun i hi => (he i hi).symm, hr⟩)).mono ?_
  rintro e w' ⟨v, E', h2, h3, h4, h5⟩
  refine ⟨v, E', h2, h3, h4, ?_⟩
  cases K with
  | succ K => exact h5
  | zero =>
    obtain ⟨vs, e1, r1⟩ := rel_tup.1 h5
    refine rel_tup.2 ⟨vs, e1, ?_⟩
    obtain ⟨a0, b0, c0, r2, r3⟩ := rels_cons.1 r1
    obtain ⟨a1, b1, c1, r4, r5⟩ := rels_cons.1 r3
    exact rels_cons.2 ⟨a0, b0, c0, r2, rels_cons.2 ⟨a1, b1, c1, zF_like r4, r5⟩⟩
theorem disk_cut (hb : ∀ i, i < n → (Lit.int .i64 (hs i)).wf = true) {K ct wh : Nat} (h4 : K < 4) (hc : ct ≤ offD (fsT n hs) K) (hw : Whole (fsT n hs) K ct wh) : Disk (fsT n hs) wh ct (dkV (fsT n hs) K) := by
  have hle := hw.le
  have hoff := offT_le hb (k := K) (by omega)
  have h0 : offD (fsT n hs) wh ≤ ct := by
    cases wh with
    | zero => exact Nat.zero_le _
    | succ w => exact hw.ins w (by omega)
  refine ⟨fun j hj => fsT_may hb (by omega), h0, by omega, fun j q hj hq => dkV_at _ (by omega) hq, ?_⟩
  rcases hw.out with e | ⟨h1, h2⟩
  · subst e
    exact Or.inl (by omega)
  · have h3 : offD (fsT n hs) (wh + 1) = offD (fsT n hs) wh + frN (fsT n hs wh) := rfl
    by_cases h5 : ct - offD (fsT n hs) wh < 4
    · exact Or.inl h5
    · exact Or.inr ⟨fsT n hs wh, fsT_may hb (by omega), by omega, by omega, fun q hq => dkV_at _ h1 (by rw [frN_eq]; omega)⟩
theorem apart {fs : Nat → Flm} {wh ct : Nat} {D : Nat → Int} (d : Disk fs wh ct D) {f2 : Flm} (hf : fmay f2 = 0) (he : ct = offD fs wh + frN f2) (hg : ∀ q, q < 4 → D (offD fs wh + q) = frm f2 q) : False := by
  have e2 := frN_eq f2
  rcases d.none with h | ⟨f, h1, h2, h3, h4⟩
  · omega
  · have e1 := frN_eq f
    obtain ⟨a1, a2⟩ := svN_le h1
    obtain ⟨b1, b2⟩ := svN_le hf
    have x1 : nbV (fun q => D (offD fs wh + q)) 4 = ((svN f + 4 : Nat) : Int) := nb4 (by omega) (by omega) fun c hc => by
      show D (offD fs wh + c) = _
      rw [h4 c hc]; unfold frm; rw [if_pos hc]
    have x2 : nbV (fun q => D (offD fs wh + q)) 4 = ((svN f2 + 4 : Nat) : Int) := nb4 (by omega) (by omega) fun c hc => by
      show D (offD fs wh + c) = _
      rw [hg c hc]; unfold frm; rw [if_pos hc]
    rw [x1] at x2
    omega
/-- The films that are whole, and one more. -/
def fsP (fs : Nat → Flm) (wh : Nat) (f2 : Flm) (j : Nat) : Flm := if j < wh then fs j else f2
theorem offP (fs : Nat → Flm) (wh : Nat) (f2 : Flm) : ∀ {k : Nat}, k ≤ wh → offD (fsP fs wh f2) k = offD fs k
  | 0, _ => rfl
  | k + 1, h => by
    show offD (fsP fs wh f2) k + frN (fsP fs wh f2 k) = offD fs k + frN (fs k)
    rw [offP fs wh f2 (by omega)]
    unfold fsP
    rw [if_pos (by omega)]
theorem disk_more {fs : Nat → Flm} {wh ct : Nat} {D : Nat → Int} (d : Disk fs wh ct D) (hct : ct ≤ 10000000) {f2 : Flm} (hf : fmay f2 = 0) : Disk (fsP fs wh f2) (wh + 1) (offD fs wh + frN f2) (onD (offD fs wh) D f2) := by
  have hN := (svN_le hf).1
  have e2 := frN_eq f2
  have hle := d.le
  have eo : offD (fsP fs wh f2) (wh + 1) = offD fs wh + frN f2 := by
    show offD (fsP fs wh f2) wh + frN (fsP fs wh f2 wh) = _
    rw [offP fs wh f2 (Nat.le_refl _)]
    unfold fsP
    rw [if_neg (by omega)]
  refine ⟨fun j hj => ?_, by omega, by omega, fun j q hj hq => ?_, Or.inl (by omega)⟩
  · unfold fsP
    by_cases h : j < wh
    · rw [if_pos h]; exact d.may j h
    · rw [if_neg h]; exact hf
  · by_cases h : j < wh
    · have e1 : fsP fs wh f2 j = fs j := by unfold fsP; rw [if_pos h]
      rw [e1] at hq ⊢
      rw [offP fs wh f2 (by omega)]
      have h1 : offD fs (j + 1) ≤ offD fs wh := offD_le fs (by omega)
      have h2 : offD fs (j + 1) = offD fs j + frN (fs j) := rfl
      unfold onD
      rw [if_pos (by omega)]
      exact d.at_ j q h hq
    · have e3 : j = wh := by omega
      subst e3
      have e1 : fsP fs j f2 j = f2 := by unfold fsP; rw [if_neg (by omega)]
      rw [e1] at hq ⊢
      rw [offP fs j f2 (Nat.le_refl _)]
      unfold onD
      rw [if_neg (by omega), Nat.add_sub_cancel_left]
end
end Go.Proofs.Ythplpfmglleacaa

namespace Go.Proofs.Ythplpfmglleacaa
open Go.Gv

theorem byB_t {c : Nat} (hc : c ≤ 140737488355328) (D : Nat → Int) : byB c D = true := by
  unfold byB
  rw [propB_t (show BYok c D from ⟨bytes_fresh hc D, rfl⟩), ble_t (Nat.le_refl _)]
  rfl
theorem strF_same {n : Nat} {f g : Nat → Int} (h : ∀ i, i < n → f i = g i) : strF n f = strF n g := by
  rw [strF_eq]
  unfold strR
  congr 1
  exact List.map_congr_left fun i hi => h i (List.mem_range.1 hi)
theorem store_law {n : Nat} {hs : Nat → Int} {many cut : Int} (hb : ∀ i, i < n → (Lit.int .i64 (hs i)).wf = true) (hm : (Lit.int .i64 many).wf = true) (hc : (Lit.int .i64 cut).wf = true) : FSpec Try.prog 3 [rsl n hs, iA many, iA cut] (bA true) := by
  obtain ⟨K, hK, h4⟩ := pk_nat (n := 4) hm (by decide)
  have hK : pk many 4 = (K : Nat) := hK
  have hoff := offT_le hb (k := K) (by omega)
  obtain ⟨c, ec⟩ : ∃ c, c = offD (fsT n hs) K := ⟨_, rfl⟩
  obtain ⟨D, eD⟩ : ∃ D, D = dkV (fsT n hs) K := ⟨_, rfl⟩
  have hc7 : c ≤ 7000056 := by omega
  obtain ⟨ct, hct, hctl⟩ := pk_nat (n := c + 1) hc (by omega)
  have ew : w64 ((c : Int) + 1) = ((c + 1 : Nat) : Int) := by rw [w64_id (by omega) (by omega)]; omega
  have hcut : cutT cut c pk = (ct : Nat) := by unfold cutT; rw [ew]; exact hct
  obtain ⟨wh, hw⟩ := whole_ex (fsT n hs) K ct
  have hwle := hw.le
  have d1 : Disk (fsT n hs) wh ct D := by rw [eD]; exact disk_cut hb h4 (by omega) hw
  have hle := d1.le
  have hf2 : fmay (mflm n hs 2 2) = 0 := fb_may (mflm_fb hb (wd := 2) (ht := 2) (by decide) (by decide) (by decide) (by decide)) (by decide) (by decide)
  have d2 := disk_more d1 (by omega) hf2
  have hN2 := (svN_le hf2).1
  have e2 := frN_eq (mflm n hs 2 2)
  obtain ⟨e', ee⟩ : ∃ e', e' = offD (fsT n hs) wh + frN (mflm n hs 2 2) := ⟨_, rfl⟩
  obtain ⟨G', eG⟩ : ∃ G', G' = onD (offD (fsT n hs) wh) D (mflm n hs 2 2) := ⟨_, rfl⟩
  rw [← ee, ← eG] at d2
  have eo2 : offD (fsP (fsT n hs) wh (mflm n hs 2 2)) (wh + 1) = e' := by
    show offD (fsP (fsT n hs) wh (mflm n hs 2 2)) wh + frN (fsP (fsT n hs) wh (mflm n hs 2 2) wh) = _
    rw [offP _ _ _ (Nat.le_refl _), ee]
    unfold fsP
    rw [if_neg (by omega)]
  have el2 : lastF (fsP (fsT n hs) wh (mflm n hs 2 2)) (wh + 1) = mflm n hs 2 2 := by
    show fsP (fsT n hs) wh (mflm n hs 2 2) wh = _
    unfold fsP
    rw [if_neg (by omega)]
  -- the two calls are apart
  have hap : ¬ (e' = ct ∧ elY G' = el1 D) := fun ⟨h1, h2⟩ => by
    refine apart d1 hf2 (by omega) fun q hq => ?_
    have h3 := congrFun h2 (offD (fsT n hs) wh + q)
    have h4 : G' (offD (fsT n hs) wh + q) = D (0 + (offD (fsT n hs) wh + q)) := by
      have : ([yA (G' (offD (fsT n hs) wh + q))] : List AV) = [yA (D (0 + (offD (fsT n hs) wh + q)))] := h3
      simpa [yA] using this
    rw [Nat.zero_add] at h4
    rw [← h4, eG]
    unfold onD
    rw [if_neg (by omega), Nat.add_sub_cancel_left]
  classical
  let fst : Nat → EL → Prop := fun m el => m = ct ∧ el = el1 D
  let wl : Nat → EL → Flm := fun m el => if fst m el then lastF (fsT n hs) wh else mflm n hs 2 2
  let wo : Nat → EL → Bool := fun m el => if fst m el then Nat.blt 0 wh else true
  let we : Nat → EL → Nat := fun m el => if fst m el then offD (fsT n hs) wh else e'
  let wg : Nat → EL → Nat → Int := fun m el => if fst m el then D else G'
  have p1 : fst ct (el1 D) := ⟨rfl, rfl⟩
  have p2 : ¬ fst e' (elY G') := hap
  have l1 : wl ct (el1 D) = lastF (fsT n hs) wh := if_pos p1
  have o1 : wo ct (el1 D) = Nat.blt 0 wh := if_pos p1
  have x1 : we ct (el1 D) = offD (fsT n hs) wh := if_pos p1
  have g1 : wg ct (el1 D) = D := if_pos p1
  have l2 : wl e' (elY G') = mflm n hs 2 2 := if_neg p2
  have o2 : wo e' (elY G') = true := if_neg p2
  have x2 : we e' (elY G') = e' := if_neg p2
  have g2 : wg e' (elY G') = G' := if_neg p2
  have wk1 : WKok wl wo we wg ct (el1 D) := by
    show GSpec Try.prog 9 [.sl 1 ct (el1 D)] [] (.tup [.own 0 0, .agg (wl ct (el1 D)).c, bA (wo ct (el1 D))]) [.c [.osl 1 1 0 (we ct (el1 D))], yR (we ct (el1 D)) (wg ct (el1 D))]
    rw [l1, o1, x1, g1]
    refine wake_F d1 fun i _ => ?_
    show [yA (D (0 + i))] = _
    rw [Nat.zero_add]
  have wk2 : WKok wl wo we wg e' (elY G') := by
    show GSpec Try.prog 9 [.sl 1 e' (elY G')] [] (.tup [.own 0 0, .agg (wl e' (elY G')).c, bA (wo e' (elY G'))]) [.c [.osl 1 1 0 (we e' (elY G'))], yR (we e' (elY G')) (wg e' (elY G'))]
    have h := wake_F d2 (el := elY G') fun i _ => rfl
    rw [eo2, el2] at h
    rw [l2, o2, x2, g2]
    exact h
  have hn1 : n1 cut c pk = ct := by unfold n1; rw [hcut]; exact (sb_to (by omega)).2
  obtain ⟨s1, s2⟩ := sb_to (k := offD (fsT n hs) wh) (n := c) (by omega)
  have kb : KBok c D (mflm n hs 2 2) e' G' (offD (fsT n hs) wh) D (lastF (fsT n hs) wh) := by
    rw [ee, eG]
    exact keepB hf2 (by omega)
  have hR3 : tsR3 wl wo we wg n hs c D (mflm n hs 2 2) e' G' (offD (fsT n hs) wh) D (lastF (fsT n hs) wh) = some (Out.of (bA true)) := by
    unfold tsR3
    rw [gate_pos (show FSpec Try.prog 5 [rsl n hs, iA 2, iA 2] (.agg (mflm n hs 2 2).c) from mflm_spec n hs (wd := 2) (ht := 2) (by decide) (by decide)), propB_t kb, byB_t (by omega), propB_t wk2, l2, gate_pos (sft_self (by show 3 * (2 * 2) ≤ _; decide) (by show 2 * 2 ≤ _; decide)), o2]
    rfl
  have hR2 : tsR2 wl wo we wg n hs c D (mflm n hs 2 2) e' G' (offD (fsT n hs) wh) D (lastF (fsT n hs) wh) ((offD (fsT n hs) wh : Nat) : Int) = some (Out.of (bA true)) := by
    have es : strF (offD (fsT n hs) wh) (fun i => D (sbL none + i)) = strF (offD (fsT n hs) wh) D := strF_same fun i _ => by show D (0 + i) = D i; rw [Nat.zero_add]
    unfold tsR2
    rw [byB_t (by omega), allB_true fun _ _ => rfl, s1, s2, allB_true fun _ _ => rfl, es, BEq.rfl, hR3]
    rfl
  have l1' := lok_at (c := bodyOf Try.f3) (i := 7) 0 2 (by kernel_rfl) (by kernel_rfl) (toldF_sound (keep := keepT) (τ := [some 0]) (ts_leads (n := n) (hs := hs) (many := many) (cut := cut) hb hK h4))
  have l2' := lok_at (c := bodyOf Try.f3) (i := 19) 1 2 (by kernel_rfl) (by kernel_rfl) (toldF_sound (keep := keepZ) (τ := idT 4) (z_leads (n := n) (hs := hs) (c := c) h4 hw D))
  rw [← ec, ← eD] at l1'
  have hL : LOk Try.prog (tsLs n hs many cut K c D (szT n hs) (fsT n hs) (wh : Nat) pk) (bodyOf Try.f3) := by
    unfold tsLs
    rw [show pk cut (w64 ((c : Int) + 1)) = (ct : Nat) from hcut]
    exact lok_two l1' l2'
  refine gspecW e_nil (k_cons kPick_ok (k_cons kS_ok (k_cons kS_ok k_nil))) (m_cons mRC_ok m_nil) (w_cons wS_ok w_nil) (r_cons rS_ok r_nil) Try.func3 (by kernel_rfl) (by kernel_rfl) hL rfl ((ts_ev wl wo we wg n hs many cut K c D (szT n hs) (fsT n hs) (wh : Nat) pk (mflm n hs 2 2) e' G').trans ?_)
  cases h128 : decide ((n : Int) > 128)
  · rw [cond_false, gate_pos (Sub.refl _), byB_t (by omega), ew, beq_false_of_ne (show ((c + 1 : Nat) : Int) ≠ 0 by omega), gate_pos (Sub.refl _), hn1, hcut, (sb_to (k := ct) (n := c) (by omega)).1, propB_t wk1, x1, g1, l1, o1]
    show tsR1 wl wo we wg n hs K c D (szT n hs) (fsT n hs) (wh : Nat) (mflm n hs 2 2) e' G' (offD (fsT n hs) wh) D (lastF (fsT n hs) wh) (Nat.blt 0 wh) = some (Out.of (bA true))
    unfold tsR1
    cases wh with
    | zero =>
      have h0 : tsR2 wl wo we wg n hs c D (mflm n hs 2 2) e' G' (offD (fsT n hs) 0) D (lastF (fsT n hs) 0) 0 = some (Out.of (bA true)) := hR2
      rw [h0]
      rfl
    | succ w =>
      have hfw := fsT_may hb (k := w) (by omega)
      obtain ⟨q1, q2, _, _⟩ := fmay_n hfw
      have ei : w64 (((w + 1 : Nat) : Int) - 1) = ((w : Nat) : Int) := by rw [w64_id (by omega) (by omega)]; omega
      rw [ei, ixB_t (show w < K by omega), Int.toNat_natCast, gate_pos (show SFe (lastF (fsT n hs) (w + 1)) (fsT n hs w) from sft_self (f := fsT n hs w) (by omega) (by omega)), show szT n hs w = ((offD (fsT n hs) (w + 1) : Nat) : Int) from rfl, hR2, decide_eq_true (show ((w + 1 : Nat) : Int) > 0 by omega), blt_t (show 0 < w + 1 by omega)]
      rfl
  · rw [cond_true]
end Go.Proofs.Ythplpfmglleacaa
