/-
  Fo1b SfT Fb TMg, one behind the other.
-/
import Derived.Test.YtbmpgaghcncfiaaM2
import Derived.Test.YtbmpgaghcncfiaaM1
namespace Go.Proofs.Ytbmpgaghcncfiaa
open Go.Gv

abbrev FF : Type := Nat → (Nat → List AV) → Int → Int → Flm
def ffG (ff : FF) : List AV → AV
  | [.sl _ n el, .x (.int .i64 w), .x (.int .i64 h)] => .agg (ff n el w h).c
  | _ => .any
def ffE : FF := fun n el w h => mflm n (fun i => intOf (el i)) w.toNat h.toNat
def rEl (hs : Nat → Int) : Nat → List AV := fun i => [iA (hs i)]
abbrev FOok (ff : FF) (n : Nat) (hs : Nat → Int) (w h : Int) : Prop := FSpec Try.prog 6 [rsl n hs, iA w, iA h] (.agg (ff n (rEl hs) w h).c)
theorem FOok_of (n : Nat) (hs : Nat → Int) {w h : Nat} (hw : w ≤ 64) (hh : h ≤ 64) : FOok ffE n hs (w : Nat) (h : Nat) := mflm_spec n hs hw hh
def w1 (pf : Int → Int → Int) (w : Int) (k : Int) : Int := w64 (1 + pf w k)
end Go.Proofs.Ytbmpgaghcncfiaa

namespace Go.Proofs.Ytbmpgaghcncfiaa
open Go.Gv

/-! ### Rows that are the same -/
def siST (n m : Nat) (a b : Nat → Int) (i : Int) : St := mkS 26 [(0, sI n a), (1, sI m b), (5, iA i)] []
section
variable (n m : Nat) (a b : Nat → Int) (i : Int)
def siTT : Option Out := cond (decide (i < n)) (cond ((ixB i n || false) && ((ixB i m || false) && true)) (cond (!(a i.toNat == b i.toNat)) none (some ⟨.normal, siST n m a b (w64 (i + 1)), .any⟩)) none) none
def siUT : Option Out := cond (decide (i < n)) (cond ((ixB i n || false) && ((ixB i m || false) && true)) (cond (!(a i.toNat == b i.toNat)) none none) none) (some ⟨.exit 0, siST n m a b i, .any⟩)
theorem si_stepT : evC Try.prog [] [] noL (loopAt Try.f15 0) (siST n m a b i) (finN [0, 1, 5] []) = siTT n m a b i := by kernel_rfl
theorem si_endT : evC Try.prog [] [] noL (loopAt Try.f15 0) (siST n m a b i) (finE [0, 1, 5] []) = siUT n m a b i := by kernel_rfl
end
theorem si_leadsT {n : Nat} (hn : n ≤ 4611686018427387904) {a b : Nat → Int} (h : ∀ i, i < n → a i = b i) : Leads Try.prog (.loop (loopAt Try.f15 0)) (siST n n a b 0) (.exit 0) (siST n n a b (n : Nat)) := by
  refine loop_rule (fun k => siST n n a b (k : Nat)) n (.exit 0) _ (by simp) (fun k hk => ?_) ?_
  · refine leads_ev (finN_sub _ _) e_nil k_nil noL_ok ((si_stepT n n a b (k : Nat)).trans ?_)
    unfold siTT
    rw [dec_lt hk, ixB_t hk, Int.toNat_natCast, h k hk, BEq.rfl, w64_next (by omega)]
    rfl
  · refine leads_ev (finE_sub _ _) e_nil k_nil noL_ok ((si_endT n n a b (n : Nat)).trans ?_)
    unfold siUT
    rw [dec_self, cond_false]
noncomputable def siLT (n : Nat) (a b : Nat → Int) : Nat → Option LFun := oneL 4 (toldF [0, 1, 5] [] (siST n n a b 0) (.exit 0) (siST n n a b (n : Nat)))
theorem si_evT (n : Nat) (a b : Nat → Int) : ev Try.prog [] [] (siLT n a b) Try.f15 [sI n a, sI n b] ret = cond (!((n : Int) == (n : Int))) (some (Out.of (bA false))) (gate (Sub (siST n n a b 0) (siST n n a b 0)) (some (Out.of (bA true)))) := by kernel_rfl
theorem same_intsT {n : Nat} (hn : n ≤ 4611686018427387904) {a b : Nat → Int} (h : ∀ i, i < n → a i = b i) : FSpec Try.prog 15 [sI n a, sI n b] (bA true) := by
  have hL := lok_hd (c := bodyOf Try.f15) (i := 4) 0 (by kernel_rfl) (by kernel_rfl) (toldF_sound (keep := [0, 1, 5]) (τ := []) (si_leadsT hn h))
  refine gspec e_nil k_nil Try.func15 (by kernel_rfl) (by kernel_rfl) hL rfl ((si_evT n a b).trans ?_)
  rw [BEq.rfl, gate_pos (Sub.refl _)]
  rfl
theorem sfm_evT (f g : Flm) : ev Try.prog [] [kS Try.prog 15 fun _ => bA true] noL Try.f9 [.agg f.c, .agg g.c] ret =
    gate (FSpec Try.prog 15 [sI f.n f.lt, sI g.n g.lt] (bA true)) (gate (FSpec Try.prog 15 [sI f.m f.sh, sI g.m g.sh] (bA true)) (some (Out.of (bA (cond (cond (cond (f.W == g.W) (f.H == g.H) false) true false) true false))))) := by kernel_rfl
theorem same_filmT {f g : Flm} (hn : f.n ≤ 4611686018427387904) (hm : f.m ≤ 4611686018427387904) (hW : f.W = g.W) (hH : f.H = g.H) (en : f.n = g.n) (em : f.m = g.m) (hl : ∀ i, i < f.n → f.lt i = g.lt i) (hs : ∀ i, i < f.m → f.sh i = g.sh i) : FSpec Try.prog 9 [.agg f.c, .agg g.c] (bA true) := by
  refine gspec e_nil (k_cons kS_ok k_nil) Try.func9 (by kernel_rfl) (by kernel_rfl) noL_ok rfl ((sfm_evT f g).trans ?_)
  have h1 := same_intsT hn hl
  have h2 := same_intsT hm hs
  rw [en] at h1
  rw [em] at h2
  rw [← en] at h1
  rw [← em] at h2
  have h1' : FSpec Try.prog 15 [sI f.n f.lt, sI g.n g.lt] (bA true) := en ▸ h1
  have h2' : FSpec Try.prog 15 [sI f.m f.sh, sI g.m g.sh] (bA true) := em ▸ h2
  rw [gate_pos h1', gate_pos h2', hW, hH, BEq.rfl, BEq.rfl]
  rfl
theorem sft_self {f : Flm} (hn : f.n ≤ 4611686018427387904) (hm : f.m ≤ 4611686018427387904) : FSpec Try.prog 9 [.agg f.c, .agg f.c] (bA true) := same_filmT hn hm rfl rfl rfl rfl (fun _ _ => rfl) fun _ _ => rfl
end Go.Proofs.Ytbmpgaghcncfiaa

namespace Go.Proofs.Ytbmpgaghcncfiaa
open Go.Gv

/-- A film that may be, with so much light and so many shots at most. -/
structure FB (f : Flm) (K S : Int) (wd ht : Nat) : Prop where
  W : f.W = (wd : Int)
  H : f.H = (ht : Int)
  w1 : 1 ≤ wd
  w64 : wd ≤ 64
  h1 : 1 ≤ ht
  h64 : ht ≤ 64
  n : f.n = 3 * (wd * ht)
  m : f.m = wd * ht
  lt : ∀ i, i < f.n → 0 ≤ f.lt i ∧ f.lt i ≤ K
  sh : ∀ i, i < f.m → 0 ≤ f.sh i ∧ f.sh i ≤ S
theorem ofB_in {x most : Int} (h0 : 0 ≤ x) (h1 : x ≤ most) : ofB x most = false := by
  unfold ofB
  rw [decide_eq_false (show ¬ x < 0 by omega), decide_eq_false (show ¬ x > most by omega)]
  rfl
theorem fb_may {f : Flm} {K S : Int} {wd ht : Nat} (h : FB f K S wd ht) (hK : K ≤ 1099511627776) (hS : S ≤ 1048576) : fmay f = 0 := by
  have h1 := h.w1; have h2 := h.w64; have h3 := h.h1; have h4 := h.h64
  have hn : wd * ht ≤ 64 * 64 := Nat.mul_le_mul h2 h4
  have e1 : (wd : Int) * (ht : Int) = ((wd * ht : Nat) : Int) := by rw [Int.natCast_mul]
  have b1 : fbad f.W f.H = false := by
    unfold fbad
    rw [h.W, h.H, decide_eq_false (show ¬ (wd : Int) < 1 by omega), decide_eq_false (show ¬ (ht : Int) < 1 by omega), decide_eq_false (show ¬ (wd : Int) > 64 by omega), decide_eq_false (show ¬ (ht : Int) > 64 by omega)]
    rfl
  have b2 : fcnt f = false := by
    unfold fcnt
    rw [h.W, h.H, h.n, h.m, w64_id (n := 3 * (wd : Int)) (by omega) (by omega), Int.mul_assoc, e1, w64_id (n := 3 * ((wd * ht : Nat) : Int)) (by omega) (by omega), w64_id (n := ((wd * ht : Nat) : Int)) (by omega) (by omega)]
    have e2 : ((3 * (wd * ht) : Nat) : Int) = 3 * ((wd * ht : Nat) : Int) := by omega
    rw [e2, BEq.rfl, BEq.rfl]
    rfl
  have b3 : fval f = true := by
    unfold fval
    rw [allI_t fun i hi => ?_, allI_t fun i hi => ?_]
    · rfl
    · obtain ⟨a, b⟩ := h.sh i hi
      rw [ofB_in a (by omega)]; rfl
    · obtain ⟨a, b⟩ := h.lt i hi
      rw [ofB_in a (by omega)]; rfl
  unfold fmay
  rw [b1, b2, b3]
  rfl
theorem pk_rng {n : Nat} {c : Int} (h : ∃ m : Nat, pk0 c = m) (hn : 0 < n) : 0 ≤ pk c n ∧ pk c n < n := by
  obtain ⟨m, hm⟩ := h
  unfold pk
  rw [hm, ← Int.ofNat_tmod]
  have := Nat.mod_lt m hn
  omega
theorem w64_wf (n : Int) : (Lit.int .i64 (w64 n)).wf = true := by
  have h : -9223372036854775808 ≤ w64 n ∧ w64 n ≤ 9223372036854775807 := by unfold w64; rw [IntKind.wrap_i64]; omega
  simp [Lit.wf, IntKind.min, IntKind.max, IntKind.signed, IntKind.bits]
  omega
theorem rawV_wf {n : Nat} {hs : Nat → Int} (h : ∀ i, i < n → (Lit.int .i64 (hs i)).wf = true) (k : Nat) : (Lit.int .i64 (rawV n hs (k : Nat))).wf = true := by
  unfold rawV
  by_cases h0 : n = 0
  · subst h0; rfl
  · rw [beq_false_of_ne (show ((n : Nat) : Int) ≠ 0 by omega), cond_false, ← Int.ofNat_tmod, Int.toNat_natCast]
    exact h _ (Nat.mod_lt _ (by omega))
theorem mflm_fb {n : Nat} {hs : Nat → Int} (h : ∀ i, i < n → (Lit.int .i64 (hs i)).wf = true) {wd ht : Nat} (w1 : 1 ≤ wd) (w2 : wd ≤ 64) (h1 : 1 ≤ ht) (h2 : ht ≤ 64) : FB (mflm n hs wd ht) 300000 6 wd ht := by
  have hn : wd * ht ≤ 64 * 64 := Nat.mul_le_mul w2 h2
  refine ⟨rfl, rfl, w1, w2, h1, h2, rfl, rfl, fun i hi => ?_, fun i hi => ?_⟩
  · show 0 ≤ flt n hs i ∧ flt n hs i ≤ 300000
    unfold flt foN
    obtain ⟨k, e, hk⟩ := pk_nat (n := 300000) (w64_wf (rawV n hs (poK ((i / 3 : Nat) : Int) ((i % 3 : Nat) : Int)) * 4099)) (by omega)
    have e : pk (w64 (rawV n hs (poK ((i / 3 : Nat) : Int) ((i % 3 : Nat) : Int)) * 4099)) 300000 = k := e
    rw [e]; omega
  · show 0 ≤ fsh n hs i ∧ fsh n hs i ≤ 6
    have hi : i < wd * ht := hi
    unfold fsh foC
    have ek : poK ((i : Nat) : Int) 3 = ((4 * i + 3 : Nat) : Int) := by
      unfold poK
      rw [w64_id (n := 4 * _) (by omega) (by omega), w64_id (by omega) (by omega)]; omega
    obtain ⟨k, e, hk⟩ := pk_nat (n := 6) (rawV_wf h (4 * i + 3)) (by omega)
    have e : pk (rawV n hs ((4 * i + 3 : Nat) : Int)) 6 = k := e
    rw [ek, e]; omega
end Go.Proofs.Ytbmpgaghcncfiaa

namespace Go.Proofs.Ytbmpgaghcncfiaa
open Go.Gv

theorem fb_mrg {f g : Flm} {K S K' S' : Int} {wd ht : Nat} (h : FB f K S wd ht) (h' : FB g K' S' wd ht) (hK : K + K' ≤ 1099511627776) (hS : S + S' ≤ 1048576) : FB (mrg f g) (K + K') (S + S') wd ht ∧ (∀ i, i < f.n → (mrg f g).lt i = f.lt i + g.lt i) ∧ ∀ i, i < f.m → (mrg f g).sh i = f.sh i + g.sh i := by
  have el : ∀ i, i < f.n → (mrg f g).lt i = f.lt i + g.lt i := fun i hi => by
    obtain ⟨a, b⟩ := h.lt i hi
    obtain ⟨c, d⟩ := h'.lt i (by rw [h'.n, ← h.n]; exact hi)
    exact w64_id (by omega) (by omega)
  have es : ∀ i, i < f.m → (mrg f g).sh i = f.sh i + g.sh i := fun i hi => by
    obtain ⟨a, b⟩ := h.sh i hi
    obtain ⟨c, d⟩ := h'.sh i (by rw [h'.m, ← h.m]; exact hi)
    exact w64_id (by omega) (by omega)
  refine ⟨⟨h.W, h.H, h.w1, h.w64, h.h1, h.h64, h.n, h.m, fun i hi => ?_, fun i hi => ?_⟩, el, es⟩
  · obtain ⟨a, b⟩ := h.lt i hi
    obtain ⟨c, d⟩ := h'.lt i (by rw [h'.n, ← h.n]; exact hi)
    rw [el i hi]; omega
  · obtain ⟨a, b⟩ := h.sh i hi
    obtain ⟨c, d⟩ := h'.sh i (by rw [h'.m, ← h.m]; exact hi)
    rw [es i hi]; omega
theorem fb_ok {f g : Flm} {K S K' S' : Int} {wd ht : Nat} (h : FB f K S wd ht) (h' : FB g K' S' wd ht) (k1 : K ≤ 1099511627776) (k2 : K' ≤ 1099511627776) (s1 : S ≤ 1048576) (s2 : S' ≤ 1048576) (hK : K + K' ≤ 1099511627776) (hS : S + S' ≤ 1048576) : mrgE f g = 0 ∧ mrgF f g = mrg f g := by
  have e : mrgE f g = 0 := by
    have hsd : sideB f g = false := by unfold sideB; rw [h.W, h.H, h'.W, h'.H, BEq.rfl, BEq.rfl]; rfl
    unfold mrgE
    rw [fb_may h k1 s1, fb_may h' k2 s2, hsd, fb_may (fb_mrg h h' hK hS).1 hK hS]
    rfl
  exact ⟨e, by unfold mrgF; rw [if_pos e]⟩
/-! ### The law -/
def mgG (mm : Flm → Flm → Flm) : List AV → AV
  | [.agg [.x (.int .i64 W), .x (.int .i64 H), .sl _ n el, .sl _ m el'], .agg [.x (.int .i64 W'), .x (.int .i64 H'), .sl _ n' el2, .sl _ m' el2']] =>
    fOut (mm ⟨W, H, n, fun i => intOf (el i), m, fun i => intOf (el' i)⟩ ⟨W', H', n', fun i => intOf (el2 i), m', fun i => intOf (el2' i)⟩) 0
  | _ => .any
abbrev MGok (mm : Flm → Flm → Flm) (a b : Flm) : Prop := FSpec Try.prog 8 [.agg a.c, .agg b.c] (fOut (mm a b) 0)
abbrev SFT (a b : Flm) : Prop := FSpec Try.prog 9 [.agg a.c, .agg b.c] (bA true)
section
variable (mm : Flm → Flm → Flm) (Nw A B C : Flm)
noncomputable def tmR : Option Out := gate (MGok mm A B) (gate (MGok mm B A) (gate (MGok mm B C) (gate (MGok mm (mm A B) C) (gate (MGok mm A (mm B C)) (gate (MGok mm A Nw) (gate (SFT (mm A B) (mm B A)) (gate (SFT (mm (mm A B) C) (mm A (mm B C))) (gate (SFT (mm A Nw) A) (some (Out.of (bA true)))))))))))
end
theorem tm_ev (pf : Int → Int → Int) (ff : FF) (mm : Flm → Flm → Flm) (Nw : Flm) (n n' n2 : Nat) (hs hs' hs2 : Nat → Int) (w h W' H' : Int) : ev Try.prog [] [kPick pf, kS Try.prog 6 (ffG ff), kfix 7 [iA W', iA H'] (fOut Nw 0), kS Try.prog 8 (mgG mm), kS Try.prog 9 fun _ => bA true] noL Try.f3 [rsl n hs, rsl n' hs', rsl n2 hs2, iA w, iA h] ret =
    cond (decide (w64 (w64 ((n : Int) + (n' : Int)) + (n2 : Int)) > 512)) (some (Out.of (bA true))) (gate (FOok ff n hs (w1 pf w 5) (w1 pf h 5)) (gate (FOok ff n' hs' (w1 pf w 5) (w1 pf h 5)) (gate (FOok ff n2 hs2 (w1 pf w 5) (w1 pf h 5)) (gate ([iA (w1 pf w 5), iA (w1 pf h 5)] = [iA W', iA H'])
      (tmR mm Nw (ff n (rEl hs) (w1 pf w 5) (w1 pf h 5)) (ff n' (rEl hs') (w1 pf w 5) (w1 pf h 5)) (ff n2 (rEl hs2) (w1 pf w 5) (w1 pf h 5))))))) := by kernel_rfl
/-- What the code gives. -/
structure MgOk : Prop where
  merge : ∀ f g : Flm, FSpec Try.prog 8 [.agg f.c, .agg g.c] (fOut (mrgF f g) (mrgE f g))
  new : ∀ w h : Int, FSpec Try.prog 7 [iA w, iA h] (fOut (newF w h) (newE w h))
theorem mg_ok (ok : MgOk) {f g : Flm} {K S K' S' : Int} {wd ht : Nat} (h : FB f K S wd ht) (h' : FB g K' S' wd ht) (k1 : K ≤ 1099511627776) (k2 : K' ≤ 1099511627776) (s1 : S ≤ 1048576) (s2 : S' ≤ 1048576) (hK : K + K' ≤ 1099511627776) (hS : S + S' ≤ 1048576) : MGok mrg f g := by
  have := ok.merge f g
  obtain ⟨e1, e2⟩ := fb_ok h h' k1 k2 s1 s2 hK hS
  rw [e1, e2] at this
  exact this
theorem sft_of {a b : Flm} {K S K' S' : Int} {wd ht : Nat} (h : FB a K S wd ht) (h' : FB b K' S' wd ht) (hl : ∀ i, i < a.n → a.lt i = b.lt i) (hs : ∀ i, i < a.m → a.sh i = b.sh i) : SFT a b := by
  have hn : wd * ht ≤ 64 * 64 := Nat.mul_le_mul h.w64 h.h64
  exact same_filmT (by rw [h.n]; omega) (by rw [h.m]; omega) (by rw [h.W, h'.W]) (by rw [h.H, h'.H]) (by rw [h.n, h'.n]) (by rw [h.m, h'.m]) hl hs
theorem merge_law (ok : MgOk) {n n' n2 : Nat} {hs hs' hs2 : Nat → Int} (b0 : ∀ i, i < n → (Lit.int .i64 (hs i)).wf = true) (b1 : ∀ i, i < n' → (Lit.int .i64 (hs' i)).wf = true) (b2 : ∀ i, i < n2 → (Lit.int .i64 (hs2 i)).wf = true) {w h : Int} (hw : (Lit.int .i64 w).wf = true) (hh : (Lit.int .i64 h).wf = true) :
    FSpec Try.prog 3 [rsl n hs, rsl n' hs', rsl n2 hs2, iA w, iA h] (bA true) := by
  obtain ⟨p, ep, hp⟩ := pk_nat (n := 5) hw (by omega)
  obtain ⟨q, eq, hq⟩ := pk_nat (n := 5) hh (by omega)
  have e1 : w1 pk w 5 = ((1 + p : Nat) : Int) := by
    have ep' : pk w 5 = (p : Int) := ep
    unfold w1
    rw [ep', w64_id (by omega) (by omega)]; omega
  have e2 : w1 pk h 5 = ((1 + q : Nat) : Int) := by
    have eq' : pk h 5 = (q : Int) := eq
    unfold w1
    rw [eq', w64_id (by omega) (by omega)]; omega
  have hb : fbad ((1 + p : Nat) : Int) ((1 + q : Nat) : Int) = false := by
    unfold fbad
    rw [decide_eq_false (show ¬ ((1 + p : Nat) : Int) < 1 by omega), decide_eq_false (show ¬ ((1 + q : Nat) : Int) < 1 by omega), decide_eq_false (show ¬ ((1 + p : Nat) : Int) > 64 by omega), decide_eq_false (show ¬ ((1 + q : Nat) : Int) > 64 by omega)]
    rfl
  have hnew := ok.new ((1 + p : Nat) : Int) ((1 + q : Nat) : Int)
  have en : newF ((1 + p : Nat) : Int) ((1 + q : Nat) : Int) = newG ((1 + p : Nat) : Int) ((1 + q : Nat) : Int) := by unfold newF; rw [hb]; rfl
  have ee : newE ((1 + p : Nat) : Int) ((1 + q : Nat) : Int) = 0 := by unfold newE; rw [hb]; rfl
  rw [en, ee] at hnew
  have A := mflm_fb b0 (wd := 1 + p) (ht := 1 + q) (by omega) (by omega) (by omega) (by omega)
  have B := mflm_fb b1 (wd := 1 + p) (ht := 1 + q) (by omega) (by omega) (by omega) (by omega)
  have C := mflm_fb b2 (wd := 1 + p) (ht := 1 + q) (by omega) (by omega) (by omega) (by omega)
  have hpq : (1 + p) * (1 + q) ≤ 5 * 5 := Nat.mul_le_mul (by omega) (by omega)
  have em : ((1 + p : Nat) : Int) * ((1 + q : Nat) : Int) = (((1 + p) * (1 + q) : Nat) : Int) := by rw [Int.natCast_mul]
  have N : FB (newG ((1 + p : Nat) : Int) ((1 + q : Nat) : Int)) 0 0 (1 + p) (1 + q) := by
    refine ⟨rfl, rfl, by omega, by omega, by omega, by omega, ?_, ?_, fun i _ => ⟨by show (0 : Int) ≤ 0; omega, by show (0 : Int) ≤ 0; omega⟩, fun i _ => ⟨by show (0 : Int) ≤ 0; omega, by show (0 : Int) ≤ 0; omega⟩⟩
    · show (w64 (w64 (3 * ((1 + p : Nat) : Int)) * ((1 + q : Nat) : Int))).toNat = _
      rw [w64_id (n := 3 * ((1 + p : Nat) : Int)) (by omega) (by omega), Int.mul_assoc, em, w64_id (by omega) (by omega)]
      omega
    · show (w64 (((1 + p : Nat) : Int) * ((1 + q : Nat) : Int))).toNat = _
      rw [em, w64_id (by omega) (by omega)]
      omega
  obtain ⟨AB, lab, sab⟩ := fb_mrg A B (by omega) (by omega)
  obtain ⟨BA, lba, sba⟩ := fb_mrg B A (by omega) (by omega)
  obtain ⟨BC, lbc, sbc⟩ := fb_mrg B C (by omega) (by omega)
  obtain ⟨X, lx, sx⟩ := fb_mrg AB C (by omega) (by omega)
  obtain ⟨Y, ly, sy⟩ := fb_mrg A BC (by omega) (by omega)
  obtain ⟨Z, lz, sz⟩ := fb_mrg A N (by omega) (by omega)
  have t1 := sft_of AB BA (fun i hi => by rw [lab i hi, lba i hi]; omega) fun i hi => by rw [sab i hi, sba i hi]; omega
  have t2 := sft_of X Y (fun i hi => by rw [lx i hi, ly i hi, lab i hi, lbc i hi]; omega) fun i hi => by rw [sx i hi, sy i hi, sab i hi, sbc i hi]; omega
  have t3 := sft_of Z A (fun i hi => by rw [lz i hi]; exact Int.add_zero _) fun i hi => by rw [sz i hi]; exact Int.add_zero _
  refine gspec e_nil (k_cons kPick_ok (k_cons kS_ok (k_cons (kfix_ok hnew) (k_cons kS_ok (k_cons kS_ok k_nil))))) Try.func3 (by kernel_rfl) (by kernel_rfl) noL_ok rfl ((tm_ev pk ffE mrg _ n n' n2 hs hs' hs2 w h ((1 + p : Nat) : Int) ((1 + q : Nat) : Int)).trans ?_)
  rw [e1, e2, gate_pos (FOok_of n hs (by omega) (by omega)), gate_pos (FOok_of n' hs' (by omega) (by omega)), gate_pos (FOok_of n2 hs2 (by omega) (by omega)), gate_pos rfl]
  unfold tmR
  have fe : ∀ (n : Nat) (hs : Nat → Int), ffE n (rEl hs) ((1 + p : Nat) : Int) ((1 + q : Nat) : Int) = mflm n hs (1 + p) (1 + q) := fun n hs => rfl
  rw [fe, fe, fe]
  rw [gate_pos (mg_ok ok A B (by omega) (by omega) (by omega) (by omega) (by omega) (by omega)), gate_pos (mg_ok ok B A (by omega) (by omega) (by omega) (by omega) (by omega) (by omega)), gate_pos (mg_ok ok B C (by omega) (by omega) (by omega) (by omega) (by omega) (by omega)),
    gate_pos (mg_ok ok AB C (by omega) (by omega) (by omega) (by omega) (by omega) (by omega)), gate_pos (mg_ok ok A BC (by omega) (by omega) (by omega) (by omega) (by omega) (by omega)), gate_pos (mg_ok ok A N (by omega) (by omega) (by omega) (by omega) (by omega) (by omega)),
    gate_pos t1, gate_pos t2, gate_pos t3]
  cases decide (w64 (w64 ((n : Int) + (n' : Int)) + (n2 : Int)) > 512) <;> rfl
end Go.Proofs.Ytbmpgaghcncfiaa
