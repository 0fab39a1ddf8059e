/-
  Fm11 Cf1 Cf2 Cf8 Cf9, one behind the other.
-/
import Derived.Test.YtephoojaflfajaaM2
import Derived.Test.YtephoojaflfajaaM1
namespace Go.Proofs.Ytephoojaflfajaa
open Go.Gv Go.RowKit Go.ChangeShapes Go.WideShapes Go.ChangeAt

theorem film_arg {E : Env} {zs : List AV} {v : Value} (h : fitL [.i .i64, .i .i64, .l 1 [.i .i64], .l 1 [.i .i64]] zs) (hr : rel E (.agg zs) v) : ∃ f : Flm, (f.n ≤ maxLen ∧ f.m ≤ maxLen) ∧ rel E (.agg f.c) v := by
  obtain ⟨x, y, z, u, rfl, h0, h1, h2, h3⟩ := fitL_n4 h
  obtain ⟨W, rfl, _⟩ := fit_iw h0
  obtain ⟨H, rfl, _⟩ := fit_iw h1
  obtain ⟨vs, e, hr⟩ := rel_agg.1 hr
  obtain ⟨v0, t0, e0, r0, hr⟩ := rels_cons.1 hr
  obtain ⟨v1, t1, e1, r1, hr⟩ := rels_cons.1 hr
  obtain ⟨v2, t2, e2, r2, hr⟩ := rels_cons.1 hr
  obtain ⟨v3, t3, e3, r3, hr⟩ := rels_cons.1 hr
  obtain ⟨n, g, hn, _, r2⟩ := fit_ints h2 r2
  obtain ⟨m, g', hm, _, r3⟩ := fit_ints h3 r3
  exact ⟨⟨W, H, n, g, m, g'⟩, ⟨hn, hm⟩, rel_agg.2 ⟨vs, e, rels_cons.2 ⟨v0, t0, e0, r0, rels_cons.2 ⟨v1, t1, e1, r1, rels_cons.2 ⟨v2, t2, e2, r2, rels_cons.2 ⟨v3, t3, e3, r3, hr⟩⟩⟩⟩⟩⟩
end Go.Proofs.Ytephoojaflfajaa

namespace Go.Proofs.Ytephoojaflfajaa
open Go.Gv

def isd (x : Int) : Bool := cond (decide (x ≥ 1)) (decide (x ≤ 64)) false
theorem isd_ev (x : Int) : ev Try.prog [] [] noL Try.f23 [iA x] ret = some (Out.of (bA (isd x))) := by kernel_rfl
theorem isd_spec (x : Int) : FSpec Try.prog 23 [iA x] (bA (isd x)) := gspec e_nil k_nil Try.func23 (by kernel_rfl) (by kernel_rfl) noL_ok rfl (isd_ev x)
def gSd (sd : Int → Bool) : List AV → Option AV
  | [.x (.int .i64 l)] => some (bA (sd l))
  | _ => none
theorem gSd_ok : EOk Try.prog ⟨23, gSd isd⟩ := fun args r hr => by
  simp only [gSd] at hr
  split at hr
  · cases hr; exact Or.inl (isd_spec _)
  · cases hr
/-! ### Numbers up to a most -/
def utS (most : Int) (n : Nat) (g : Nat → Int) (i : Int) : St := mkS 21 [(0, iA most), (7, sI n g), (8, iA n), (9, iA i)] []
def utE : St := mkS 21 [(4, bA false)] []
section
variable (most : Int) (n : Nat) (g : Nat → Int) (i : Int)
theorem ut_step : evC Try.prog [] [] noL (loopAt Try.f21 0) (utS most n g i) (finN [0, 7, 8, 9] []) =
    cond (decide (i < n)) (cond (ixB i n || false) (cond (ofB (g i.toNat) most) none (some ⟨.normal, utS most n g (w64 (i + 1)), .any⟩)) none) none := by kernel_rfl
theorem ut_ret : evC Try.prog [] [] noL (loopAt Try.f21 0) (utS most n g i) (finR [4] []) =
    cond (decide (i < n)) (cond (ixB i n || false) (cond (ofB (g i.toNat) most) (some ⟨.ret, utE, .any⟩) none) none) none := by kernel_rfl
theorem ut_end : evC Try.prog [] [] noL (loopAt Try.f21 0) (utS most n g i) (finE [0, 7, 8, 9] []) =
    cond (decide (i < n)) (cond (ixB i n || false) (cond (ofB (g i.toNat) most) none none) none) (some ⟨.exit 0, utS most n g i, .any⟩) := by kernel_rfl
end
theorem ut_good {most : Int} {n : Nat} {g : Nat → Int} (hn : n ≤ 4611686018427387904) (h : ∀ i, i < n → ofB (g i) most = false) : Leads Try.prog (.loop (loopAt Try.f21 0)) (utS most n g 0) (.exit 0) (utS most n g (n : Nat)) := by
  refine loop_rule (fun k => utS most n g (k : Nat)) n (.exit 0) _ (by simp) (fun k hk => ?_) ?_
  · refine leads_ev (finN_sub _ _) e_nil k_nil noL_ok ((ut_step most n g (k : Nat)).trans ?_)
    rw [dec_lt hk, ixB_t hk, Int.toNat_natCast, h k hk, w64_next (by omega)]
    rfl
  · refine leads_ev (finE_sub _ _) e_nil k_nil noL_ok ((ut_end most n g (n : Nat)).trans ?_)
    rw [dec_self, cond_false]
theorem ut_bad {most : Int} {n : Nat} {g : Nat → Int} (hn : n ≤ 4611686018427387904) {K : Nat} (hK : K < n) (hb : ofB (g K) most = true) (h : ∀ i, i < K → ofB (g i) most = false) : Leads Try.prog (.loop (loopAt Try.f21 0)) (utS most n g 0) .ret utE := by
  refine loop_rule (fun k => utS most n g (k : Nat)) K .ret _ (by simp) (fun k hk => ?_) ?_
  · refine leads_ev (finN_sub _ _) e_nil k_nil noL_ok ((ut_step most n g (k : Nat)).trans ?_)
    have hk' : k < n := by omega
    rw [dec_lt hk', ixB_t hk', Int.toNat_natCast, h k hk, w64_next (by omega)]
    rfl
  · refine leads_ev (finR_sub _ _) e_nil k_nil noL_ok ((ut_ret most n g (K : Nat)).trans ?_)
    rw [dec_lt hK, ixB_t hK, Int.toNat_natCast, hb]
    rfl
noncomputable def utL (most : Int) (n : Nat) (g : Nat → Int) : LFun := toldF [0, 7, 8, 9] [] (utS most n g 0) (.exit 0) (utS most n g (n : Nat))
noncomputable def utLr (most : Int) (n : Nat) (g : Nat → Int) : LFun := toldF [0, 7, 8, 9] [] (utS most n g 0) .ret utE
theorem ut_evG (most : Int) (n : Nat) (g : Nat → Int) : ev Try.prog [] [] (oneL 2 (utL most n g)) Try.f21 [iA most, sI n g] ret = gate (Sub (utS most n g 0) (utS most n g 0)) (some (Out.of (bA true))) := by kernel_rfl
theorem ut_evR (most : Int) (n : Nat) (g : Nat → Int) : ev Try.prog [] [] (oneL 2 (utLr most n g)) Try.f21 [iA most, sI n g] ret = gate (Sub (utS most n g 0) (utS most n g 0)) (some (Out.of (bA false))) := by kernel_rfl
noncomputable def upI (most : Int) (n : Nat) (g : Nat → Int) : Bool := allI n fun i => !ofB (g i) most
theorem ut_spec {most : Int} {n : Nat} {g : Nat → Int} (hn : n ≤ 4611686018427387904) : FSpec Try.prog 21 [iA most, sI n g] (bA (upI most n g)) := by
  unfold upI
  rcases all_or_first (fun i => !ofB (g i) most) n with hl | ⟨K, hK, hp, hq⟩
  · have l1 := lok_at (c := bodyOf Try.f21) (i := 2) 0 1 (by kernel_rfl) (by kernel_rfl) (toldF_sound (keep := [0, 7, 8, 9]) (τ := []) (ut_good (most := most) hn fun i hi => by simpa using hl i hi))
    refine gspec e_nil k_nil Try.func21 (by kernel_rfl) (by kernel_rfl) l1 rfl ((ut_evG most n g).trans ?_)
    rw [gate_pos (Sub.refl _), allI_t hl]
  · have l1 := lok_at (c := bodyOf Try.f21) (i := 2) 0 1 (by kernel_rfl) (by kernel_rfl) (toldF_sound (keep := [0, 7, 8, 9]) (τ := []) (ut_bad (most := most) hn hK (by simpa using hp) fun i hi => by simpa using hq i hi))
    refine gspec e_nil k_nil Try.func21 (by kernel_rfl) (by kernel_rfl) l1 rfl ((ut_evR most n g).trans ?_)
    rw [gate_pos (Sub.refl _), allI_f hK hp]
abbrev UF : Type := Int → Nat → (Nat → List AV) → Bool
def utG (uf : UF) : List AV → AV
  | [.x (.int .i64 most), .sl _ n el] => bA (uf most n el)
  | _ => .any
noncomputable def utF : UF := fun most n el => upI most n fun i => intOf (el i)
abbrev UTok (uf : UF) (most : Int) (n : Nat) (g : Nat → Int) : Prop := FSpec Try.prog 21 [iA most, sI n g] (utG uf [iA most, sI n g])
theorem UTok_of {most : Int} {n : Nat} {g : Nat → Int} (hn : n ≤ 4611686018427387904) : UTok utF most n g := ut_spec hn
end Go.Proofs.Ytephoojaflfajaa

namespace Go.Proofs.Ytephoojaflfajaa
open Go.Gv

def cSd (sd : Int → Bool) (W H : Int) : Bool := cond (!sd W) true (!sd H)
def cCn (f : Flm) : Bool := cond (!((f.n : Int) == w64 (3 * w64 (f.W * f.H)))) true (!((f.m : Int) == w64 (f.W * f.H)))
def cUp (uf : UF) (f : Flm) : Bool := cond (!uf 1099511627776 f.n fun i => [iA (f.lt i)]) true (!uf 1048576 f.m fun i => [iA (f.sh i)])
theorem cmay_ev (sd : Int → Bool) (uf : UF) (f : Flm) : ev Try.prog [⟨23, gSd sd⟩] [kS Try.prog 21 (utG uf)] noL Try.f8 [.agg f.c] ret =
    cond (cSd sd f.W f.H) (some (Out.of (iA 4))) (cond (cCn f) (some (Out.of (iA 5))) (gate (UTok uf 1099511627776 f.n f.lt) (gate (UTok uf 1048576 f.m f.sh) (cond (cUp uf f) (some (Out.of (iA 6))) (some (Out.of (iA 0))))))) := by kernel_rfl
theorem cSd_eq (W H : Int) : cSd isd W H = fbad W H := by
  unfold cSd fbad isd
  by_cases h1 : W < 1 <;> by_cases h2 : W > 64 <;> by_cases h3 : H < 1 <;> by_cases h4 : H > 64 <;> first | (exfalso; omega) | skip
  all_goals (simp only [h1, h2, h3, h4, decide_true, decide_false, cond_true, cond_false, Bool.not_true, Bool.not_false, show (W ≥ 1) = ¬ (W < 1) from propext (by omega), show (W ≤ 64) = ¬ (W > 64) from propext (by omega), show (H ≥ 1) = ¬ (H < 1) from propext (by omega), show (H ≤ 64) = ¬ (H > 64) from propext (by omega), not_true_eq_false, not_false_eq_true])
theorem cCn_eq {f : Flm} (h : fbad f.W f.H = false) : cCn f = fcnt f := by
  obtain ⟨h1, h2, h3, h4⟩ := fbad_false h
  have hm := mulB (x := f.W) (y := f.H) (X := 64) (Y := 64) (by omega) h2 (by omega) h4
  unfold cCn fcnt
  rw [w64_id (n := f.W * f.H) (by omega) (by omega), w64_id (n := 3 * (f.W * f.H)) (by omega) (by omega), w64_id (n := 3 * f.W) (by omega) (by omega), Int.mul_assoc, w64_id (n := 3 * (f.W * f.H)) (by omega) (by omega)]
theorem cUp_eq (f : Flm) : cUp utF f = !fval f := by
  show cond (!upI 1099511627776 f.n f.lt) true (!upI 1048576 f.m f.sh) = _
  unfold fval upI
  cases allI f.n (fun i => !ofB (f.lt i) 1099511627776) <;> rfl
theorem cmay_spec (f : Flm) : FSpec Try.prog 8 [.agg f.c] (iA (fmay f)) := by
  refine gspec (e_cons gSd_ok e_nil) (k_cons (kS_ok (P := Try.prog) (f := 21) (g := utG utF)) k_nil) Try.func8 (by kernel_rfl) (by kernel_rfl) noL_ok rfl ((cmay_ev isd utF f).trans ?_)
  rw [cSd_eq]
  unfold fmay
  cases hb : fbad f.W f.H
  · rw [cCn_eq hb]
    cases hc : fcnt f
    · obtain ⟨hn, hm⟩ := fcnt_false hb hc
      obtain ⟨h1, h2, h3, h4⟩ := fbad_false hb
      have hM := mulB (x := f.W) (y := f.H) (X := 64) (Y := 64) (by omega) h2 (by omega) h4
      rw [gate_pos (UTok_of (by omega)), gate_pos (UTok_of (by omega)), cUp_eq]
      cases fval f <;> rfl
    · rfl
  · rfl
end Go.Proofs.Ytephoojaflfajaa

namespace Go.Proofs.Ytephoojaflfajaa
open Go.Gv

def rchB (l s : Int) : Bool := cond (decide (l > 0)) (decide (w64 (w64 (s * s) * 65536) ≤ w64 (l * 65025))) false
theorem rch_ev (l s : Int) : ev Try.prog [] [] noL Try.f26 [iA l, iA s] ret = some (Out.of (bA (rchB l s))) := by kernel_rfl
theorem rch_spec (l s : Int) : FSpec Try.prog 26 [iA l, iA s] (bA (rchB l s)) := gspec e_nil k_nil Try.func26 (by kernel_rfl) (by kernel_rfl) noL_ok rfl (rch_ev l s)
def gRc (rf : Int → Int → Bool) : List AV → Option AV
  | [.x (.int .i64 l), .x (.int .i64 s)] => some (bA (rf l s))
  | _ => none
theorem gRc_ok : EOk Try.prog ⟨26, gRc rchB⟩ := fun args r hr => by
  simp only [gRc] at hr
  split at hr
  · cases hr; exact Or.inl (rch_spec _ _)
  · cases hr
def cshS (l s b : Int) : St := mkS 21 [(0, iA l), (3, iA s), (4, iA b)] []
section
variable (rf : Int → Int → Bool) (l s b : Int)
theorem csh_step : evC Try.prog [⟨26, gRc rf⟩] [] noL (loopAt Try.f13 0) (cshS l s b) (finN [0, 3, 4] []) = cond (decide (b > 0)) (cond (rf l (w64 (s + b))) (some ⟨.normal, cshS l (w64 (s + b)) (w64 (b.tdiv 2)), .any⟩) (some ⟨.normal, cshS l s (w64 (b.tdiv 2)), .any⟩)) none := by kernel_rfl
theorem csh_end : evC Try.prog [⟨26, gRc rf⟩] [] noL (loopAt Try.f13 0) (cshS l s b) (finE [0, 3, 4] []) = cond (decide (b > 0)) (cond (rf l (w64 (s + b))) none none) (some ⟨.exit 0, cshS l s b, .any⟩) := by kernel_rfl
end
noncomputable def cshL (l' s : Int) : Nat → Option LFun := oneL 4 (toldF [0, 3, 4] [] (cshS l' 0 128) (.exit 0) (cshS l' s 0))
def mnF (l : Int) : Int := if (65536 : Int) < l then 65536 else l
theorem csh_ev (l l' s : Int) : ev Try.prog [] [] (cshL l' s) Try.f13 [iA l] ret = gate (Sub (cshS (mnF l) 0 128) (cshS l' 0 128)) (some (Out.of (yA (IntKind.u8.wrap s)))) := by kernel_rfl
/-! ### What it finds -/
def bk : Nat → Int
  | 0 => 128
  | 1 => 64
  | 2 => 32
  | 3 => 16
  | 4 => 8
  | 5 => 4
  | 6 => 2
  | 7 => 1
  | _ => 0
def sk (l : Int) : Nat → Int
  | 0 => 0
  | k + 1 => cond (rchB l (sk l k + bk k)) (sk l k + bk k) (sk l k)
theorem eight {k : Nat} (h : k < 8) : k = 0 ∨ k = 1 ∨ k = 2 ∨ k = 3 ∨ k = 4 ∨ k = 5 ∨ k = 6 ∨ k = 7 := by omega
theorem bk_step {k : Nat} (h : k < 8) : decide (bk k > 0) = true ∧ w64 ((bk k).tdiv 2) = bk (k + 1) ∧ 0 < bk k ∧ bk k ≤ 128 := by
  rcases eight h with rfl | rfl | rfl | rfl | rfl | rfl | rfl | rfl <;> exact ⟨rfl, by decide, by decide, by decide⟩
/-- Twice the step. -/
def bt (k : Nat) : Int := match k with
  | 0 => 256
  | k + 1 => bk k
theorem bt_step {k : Nat} (h : k < 8) : bt k = 2 * bk k ∧ bt (k + 1) = bk k := by
  rcases eight h with rfl | rfl | rfl | rfl | rfl | rfl | rfl | rfl <;> exact ⟨by decide, rfl⟩
theorem sk_inv (l : Int) : ∀ k, k ≤ 8 → 0 ≤ sk l k ∧ sk l k ≤ 256 - bt k ∧ (sk l k = 0 ∨ rchB l (sk l k) = true) ∧ (sk l k + bt k = 256 ∨ rchB l (sk l k + bt k) = false)
  | 0, _ => ⟨Int.le_refl _, show (0 : Int) ≤ 256 - 256 by decide, Or.inl rfl, Or.inl rfl⟩
  | k + 1, hk => by
    obtain ⟨h1, h2, h3, h4⟩ := sk_inv l k (by omega)
    obtain ⟨e1, e2⟩ := bt_step (k := k) (by omega)
    obtain ⟨_, _, b0, _⟩ := bk_step (k := k) (by omega)
    have e3 : sk l (k + 1) = cond (rchB l (sk l k + bk k)) (sk l k + bk k) (sk l k) := rfl
    cases hr : rchB l (sk l k + bk k)
    · rw [e3, hr, e2, cond_false]
      exact ⟨h1, by omega, h3, Or.inr hr⟩
    · rw [e3, hr, e2, cond_true]
      refine ⟨by omega, by omega, Or.inr hr, ?_⟩
      rw [Int.add_assoc, show bk k + bk k = bt k by omega]
      exact h4
theorem csh_leads (l : Int) : Leads Try.prog (.loop (loopAt Try.f13 0)) (cshS l 0 128) (.exit 0) (cshS l (sk l 8) 0) := by
  refine loop_rule (fun k => cshS l (sk l k) (bk k)) 8 (.exit 0) _ (by simp) (fun k hk => ?_) ?_
  · obtain ⟨h1, h2, _, _⟩ := sk_inv l k (by omega)
    obtain ⟨b1, b2, b3, b4⟩ := bk_step hk
    obtain ⟨t1, _⟩ := bt_step hk
    refine leads_ev (finN_sub _ _) (e_cons gRc_ok e_nil) k_nil noL_ok ((csh_step rchB l (sk l k) (bk k)).trans ?_)
    have e3 : sk l (k + 1) = cond (rchB l (sk l k + bk k)) (sk l k + bk k) (sk l k) := rfl
    rw [b1, b2, w64_id (n := sk l k + bk k) (by omega) (by omega), e3]
    cases rchB l (sk l k + bk k) <;> rfl
  · exact leads_ev (finE_sub _ _) (e_cons gRc_ok e_nil) k_nil noL_ok (csh_end rchB l (sk l 8) 0)
theorem rch_eq {l s : Int} (hl : l ≤ 65536) (h0 : 0 ≤ s) (h1 : s ≤ 256) : rchB l s = (decide (l > 0) && decide (s * s * 65536 ≤ l * 65025)) := by
  unfold rchB
  by_cases h : l > 0
  · have hm := mulB (x := s) (y := s) (X := 256) (Y := 256) h0 h1 h0 h1
    rw [decide_eq_true h, w64_id (n := s * s) (by omega) (by omega), w64_id (n := s * s * 65536) (by omega) (by omega), w64_id (n := l * 65025) (by omega) (by omega)]
    rfl
  · rw [decide_eq_false h]
    rfl
theorem sk_sh (l : Int) : sk (mnF l) 8 = (shS l : Nat) := by
  obtain ⟨h1, h2, h3, h4⟩ := sk_inv (mnF l) 8 (Nat.le_refl _)
  have hb : bt 8 = 1 := rfl
  rw [hb] at h2 h4
  have hm : mnF l ≤ 65536 := by unfold mnF; split <;> omega
  generalize hs : sk (mnF l) 8 = s at h1 h2 h3 h4
  have e : s.toNat = shS l := by
    refine shS_of (by omega) ?_ ?_
    · rcases h3 with h3 | h3
      · exact Or.inl (by omega)
      · right
        rw [rch_eq hm h1 (by omega)] at h3
        simp only [Bool.and_eq_true, decide_eq_true_eq] at h3
        rw [Int.toNat_of_nonneg h1]
        have : mnF l ≤ l := by unfold mnF; split <;> omega
        omega
    · rcases h4 with h4 | h4
      · exact Or.inl (by omega)
      · rw [rch_eq hm (by omega) (by omega)] at h4
        simp only [Bool.and_eq_false_iff, decide_eq_false_iff_not] at h4
        rw [show ((s.toNat + 1 : Nat) : Int) = s + 1 by omega]
        have hq := mulB (x := 1) (y := 1) (X := s + 1) (Y := s + 1) (by omega) (by omega) (by omega) (by omega)
        by_cases hl : (65536 : Int) < l
        · have em : mnF l = 65536 := by unfold mnF; rw [if_pos hl]
          rw [em] at h4
          left
          rcases h4 with h4 | h4
          · omega
          · by_cases hc : s + 1 ≤ 255
            · have := mulB (x := s + 1) (y := s + 1) (X := 255) (Y := 255) (by omega) hc (by omega) hc
              omega
            · omega
        · have em : mnF l = l := by unfold mnF; rw [if_neg hl]
          rw [em] at h4
          right
          rcases h4 with h4 | h4
          · by_cases hl0 : l < 0
            · exact Or.inl hl0
            · right
              omega
          · right
            omega
  omega
theorem cshade_spec (l : Int) : FSpec Try.prog 13 [iA l] (yA (shS l : Nat)) := by
  have hL := lok_hd (c := bodyOf Try.f13) (i := 4) 0 (by kernel_rfl) (by kernel_rfl) (toldF_sound (keep := [0, 3, 4]) (τ := []) (csh_leads (mnF l)))
  refine gspec e_nil k_nil Try.func13 (by kernel_rfl) (by kernel_rfl) hL rfl ((csh_ev l (mnF l) (sk (mnF l) 8)).trans ?_)
  have := shS_le l
  rw [gate_pos (Sub.refl _), sk_sh, u8_id (by omega) (by omega)]
end Go.Proofs.Ytephoojaflfajaa

namespace Go.Proofs.Ytephoojaflfajaa
open Go.Gv

theorem cv_ev (n : Int) : ev Try.prog [] [] noL Try.f27 [iA n] ret = cond (n == 0) (some (Out.of (yA 0))) (some (Out.of (yA 255))) := by kernel_rfl
def cvI (n : Int) : Int := cond (n == 0) 0 255
theorem cv_spec (n : Int) : FSpec Try.prog 27 [iA n] (yA (cvI n)) := by
  refine gspec e_nil k_nil Try.func27 (by kernel_rfl) (by kernel_rfl) noL_ok rfl ((cv_ev n).trans ?_)
  unfold cvI
  cases n == 0 <;> rfl
def mxI (n : Int) : Int := if n > 1 then n else 1
def cR (f : Flm) (m : Nat) (el : Nat → List AV) : List Row := [.c f.c, .c picZ, .a 5 1 m el]
def ciS (f : Flm) (br i n c : Int) (L : Nat → Int) (m : Nat) (el : Nat → List AV) : St := mkS 75 [(1, iA br), (2, .own 0 0), (4, .own 1 0), (7, .osl 2 1 0 m), (9, iA n), (31, sI f.m f.sh), (32, iA f.m), (33, iA i), (45, sI 3 L), (46, iA 3), (47, iA c)] (cR f m el)
def keepCi : List Nat := [1, 2, 4, 7, 9, 31, 32, 33, 45, 46, 47]
def keepCo : List Nat := [1, 2, 4, 7, 31, 32, 33]
def c3 : List (Option Nat) := [some 0, some 1, some 2]
def c3n : List (Option Nat) := [some 0, some 1, some 4]
section
variable (sf : Int → Int) (f : Flm) (br i n c : Int) (L : Nat → Int) (m : Nat) (el : Nat → List AV)
theorem ci_step : evC Try.prog [⟨13, gSh sf⟩] [] noL (loopAt Try.f15 1) (ciS f br i n c L m el) (finN keepCi c3n) =
    cond (decide (c < 3)) (cond (ixB c 3 || false) (cond ((!(mxI n == 0)) || false) (cond (apB m 1 || false)
      (some ⟨.normal, ciS f br i n (w64 (c + 1)) L (m + 1) (fun q => mixL (Nat.blt q m) (el q) [yA (sf (tnV (L c.toNat) (mxI n) br))]), .any⟩) none) none) none) none := by kernel_rfl
theorem ci_end : evC Try.prog [⟨13, gSh sf⟩] [] noL (loopAt Try.f15 1) (ciS f br i n 3 L m el) (finE keepCi c3) = some ⟨.exit 2, ciS f br i n 3 L m el, .any⟩ := by kernel_rfl
end
def coS (f : Flm) (br i : Int) (m : Nat) (el : Nat → List AV) : St := mkS 75 [(1, iA br), (2, .own 0 0), (4, .own 1 0), (7, .osl 2 1 0 m), (31, sI f.m f.sh), (32, iA f.m), (33, iA i)] (cR f m el)
noncomputable def coL (f : Flm) (br i n : Int) (L : Nat → Int) (m m' : Nat) (el el' : Nat → List AV) : Nat → Option LFun := oneL 11 (toldF keepCi c3 (ciS f br i n 0 L m el) (.exit 2) (ciS f br i n 3 L m' el'))
def lo3 (i : Int) : Int := w64 (3 * i)
def hi3 (i : Int) : Int := w64 (3 * w64 (i + 1))
/-- The state at the inner loop, as it comes. -/
def ciA (f : Flm) (br i : Int) (m : Nat) (el : Nat → List AV) : St := mkS 75 [(1, iA br), (2, .own 0 0), (4, .own 1 0), (7, .osl 2 1 0 m), (9, iA (f.sh i.toNat)), (31, sI f.m f.sh), (32, iA f.m), (33, iA i), (45, .sl 1 (sbN (some (lo3 i)) (some (hi3 i)) f.n) fun k => [iA (f.lt (sbL (some (lo3 i)) + k))]), (46, iA ((sbN (some (lo3 i)) (some (hi3 i)) f.n : Nat) : Int)), (47, iA 0)] (cR f m el)
section
variable (cf : Int → Int) (f : Flm) (br i n : Int) (L : Nat → Int) (m m' : Nat) (el el' : Nat → List AV)
theorem co_step : evC Try.prog [⟨27, gSh cf⟩] [] (coL f br i n L m m' el el') (loopAt Try.f15 0) (coS f br i m el) (finN keepCo c3n) =
    cond (decide (i < f.m)) (cond (ixB i f.m || false) (cond (sbB (some (lo3 i)) (some (hi3 i)) none f.n || false) (gate (Sub (ciA f br i m el) (ciS f br i n 0 L m el)) (cond (apB m' 1 || false) (some ⟨.normal, coS f br (w64 (i + 1)) (m' + 1) (fun q => mixL (Nat.blt q m') (el' q) [yA (cf n)]), .any⟩) none)) none) none) none := by kernel_rfl
theorem co_end : evC Try.prog [⟨27, gSh cf⟩] [] (oneL 11 fun _ _ => none) (loopAt Try.f15 0) (coS f br i m el) (finE keepCo c3) =
    cond (decide (i < f.m)) (cond (ixB i f.m || false) (cond (sbB (some (lo3 i)) (some (hi3 i)) none f.n || false) none none) none) (some ⟨.exit 0, coS f br i m el, .any⟩) := by kernel_rfl
end
noncomputable def ctL (f : Flm) (br i' : Int) (m : Nat) (g : Nat → Int) : Nat → Option LFun := oneL 8 (toldF keepCo c3 (coS f br 0 0 fun q => [yA (g q)]) (.exit 0) (coS f br i' m fun q => [yA (g q)]))
def mk0 (k : Int) : Bool := decide ((0 : Int) ≤ k) && decide (((1 : Nat) : Int) * k ≤ 281474976710656)
theorem ct_ev (mf : MF) (f : Flm) (br i' : Int) (m : Nat) (g : Nat → Int) : ev Try.prog [] [kS Try.prog 8 (fmG mf)] (ctL f br i' m g) Try.f15 [.agg f.c, iA br] ret =
    gate (FMok 8 mf f) (cond (!(mf.of f == 0)) (pBad (mf.of f)) (cond (brB br) (pBad 6) (cond (mk0 (w64 (4 * (f.m : Int))) || false)
      (gate (Sub (coS f br 0 0 fun _ => [yA 0]) (coS f br 0 0 fun q => [yA (g q)])) (some (Out.of (.tup [.agg [iA f.W, iA f.H, .sl 1 m fun i => [yA (g (0 + i))]], iA 0])))) none))) := by kernel_rfl
theorem ct_ev0 (mf : MF) (f : Flm) (br : Int) : ev Try.prog [] [kS Try.prog 8 (fmG mf)] (oneL 8 fun _ _ => none) Try.f15 [.agg f.c, iA br] ret =
    gate (FMok 8 mf f) (cond (!(mf.of f == 0)) (pBad (mf.of f)) (cond (brB br) (pBad 6) (cond (mk0 (w64 (4 * (f.m : Int))) || false) none none))) := by kernel_rfl
end Go.Proofs.Ytephoojaflfajaa
