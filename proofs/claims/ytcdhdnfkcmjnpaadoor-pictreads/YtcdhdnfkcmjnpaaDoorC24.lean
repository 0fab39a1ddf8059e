/-
  Pe2 Pe3 Pe4 Pe5 Pe6 Pe7 Pe8 Arg0 Ar1, one behind the other.
-/
import Derived.Test.YtcdhdnfkcmjnpaaDoorC23
import Derived.Test.YtcdhdnfkcmjnpaaDoorC12
import Derived.Test.YtcdhdnfkcmjnpaaDoorC18
namespace Go.Proofs.YtcdhdnfkcmjnpaaDoor.Pi
open Go.Shelf Go.RowKit Go.Gv

def pxS (n : Nat) (g : Nat → Int) (sz : Int) (m : Nat) (el : Nat → List AV) : St := mkS 52 [(0, sB n g), (1, iA sz), (4, .osl 0 1 0 m), (6, iA 0)] [.a 5 1 m el]
def keepPx : List Nat := [0, 1, 4, 6]
def peS (n : Nat) (g : Nat → Int) (m : Nat) (el : Nat → List AV) (e : Int) : St := mkS 52 [(0, sB n g), (4, .osl 0 1 0 m), (6, iA e)] [.a 5 1 m el]
def keepPe : List Nat := [0, 4, 6]
def pyS (n : Nat) (g : Nat → Int) (sz : Int) (m : Nat) (el : Nat → List AV) (k : Nat) (f : Nat → Int) (t i : Int) : St := mkS 52 [(0, sB n g), (1, iA sz), (4, .osl 0 1 0 m), (6, iA 0), (7, sB k f), (35, iA t), (36, iA i)] [.a 5 1 m el]
def keepPy : List Nat := [0, 1, 4, 6, 7, 35, 36]
section
variable (n : Nat) (g : Nat → Int) (sz : Int) (m : Nat) (el : Nat → List AV) (k : Nat) (f : Nat → Int) (t i : Int) (b : Bool)
theorem py_step : evCM Tryd.prog [] [] [] noL (loopAt Tryd.f29 1) (pyS n g sz m el k f t i) (finN keepPy [some 1]) = cond (decide (i < t)) (cond (apF m k || false) (some ⟨.normal, pyS n g sz (m + k) (fun q => mixL (Nat.blt q m) (el q) [yA (f (q - m))]) k f t (w64 (i + 1)), .any⟩) none) none := by kernel_rfl
theorem py_end : evCM Tryd.prog [] [] [] noL (loopAt Tryd.f29 1) (pyS n g sz m el k f t i) (finE keepPy [some 0]) = cond (decide (i < t)) (cond (apF m k || false) none none) (some ⟨.exit 3, pyS n g sz m el k f t i, .any⟩) := by kernel_rfl
noncomputable def pcK : List KEntry := [kS Tryd.prog 48 fun _ => .tup [sB k f, iA t, bA b]]
noncomputable def pxG (x : Option Out) : Option Out := gate (FSpec Tryd.prog 48 [sB n g] (.tup [sB k f, iA t, bA b])) x
theorem px_exit : evCM Tryd.prog [] (pcK k f t b) [] (oneL 9 fun _ _ => none) (loopAt Tryd.f29 0) (pxS n g sz m el) (finE keepPe [some 0]) =
    cond (decide ((m : Int) < sz)) (pxG n g k f t b (cond (!b) (some ⟨.exit 0, peS n g m el 8, .any⟩) (cond (decide (w64 (m + w64 (k * t)) > sz)) (some ⟨.exit 0, peS n g m el 5, .any⟩) none))) (some ⟨.exit 0, peS n g m el 0, .any⟩) := by kernel_rfl
def pxN (m' : Nat) (el' : Nat → List AV) : St := pxS (sbN (some (w64 (1 + k))) none n) (fun i => g (sbL (some (w64 (1 + k))) + i)) sz m' el'
theorem px_step (s0 : St) (m' : Nat) (el' : Nat → List AV) : evCM Tryd.prog [] (pcK k f t b) [] (oneL 9 (toldF keepPy [some 0] s0 (.exit 3) (pyS n g sz m' el' k f t i))) (loopAt Tryd.f29 0) (pxS n g sz m el) (finN keepPx [some 0]) =
    cond (decide ((m : Int) < sz)) (pxG n g k f t b (cond (!b) none (cond (decide (w64 (m + w64 (k * t)) > sz)) none (gate (Sub (pyS n g sz m el k f t 0) s0) (cond (sbB (some (w64 (1 + k))) none none n || false) (some ⟨.normal, pxN n g sz k m' el', .any⟩) none))))) none := by kernel_rfl
def mkB (sz : Int) : Bool := decide ((0 : Int) ≤ 0) && (decide (0 ≤ sz) && decide (((1 : Nat) : Int) * sz ≤ 281474976710656))
theorem px_ev (s0 : St) (o : Nat → Int) (e : Int) (n' : Nat) (g' : Nat → Int) : evM Tryd.prog [] [⟨48, fun _ _ => none⟩] [] (oneL 2 (toldF keepPx [some 0] s0 (.exit 0) (peS n' g' m (fun q => [yA (o q)]) e))) Tryd.f29 [sB n g, iA sz] ret =
    cond (mkB sz || false) (gate (Sub (pxS n g sz 0 fun _ => [yA 0]) s0) (cond (!(e == 0)) (some (Out.of (.tup [.x (.slice none 0 0), .x (.slice none 0 0), iA e]))) (some (Out.of (.tup [.sl 1 m fun q => [yA (o (0 + q))], sB n' g', iA 0]))))) none := by kernel_rfl
end
end Go.Proofs.YtcdhdnfkcmjnpaaDoor.Pi

namespace Go.Proofs.YtcdhdnfkcmjnpaaDoor.Pi
open Go.Shelf Go.RowKit Go.Gv

/-- Whether a piece is whole; its pixels; all of them. -/
def dcW (L : Nat) (B : Nat → Int) (o : Nat) : Bool := decide (o < L) && decide (o + 1 + 4 * mn (B o) ≤ L)
def dcP (B : Nat → Int) (o : Nat) : List Int := (List.range (4 * mn (B o))).map fun i => B (o + 1 + i)
def rep (t : Nat) (Q : List Int) : List Int := (List.replicate t Q).flatten
def dcR (B : Nat → Int) (o : Nat) : List Int := rep (tm (B o)) (dcP B o)
theorem rep_succ (t : Nat) (Q : List Int) : rep (t + 1) Q = rep t Q ++ Q := by unfold rep; rw [List.replicate_succ', List.flatten_append]; simp
theorem rep_len (t : Nat) (Q : List Int) : (rep t Q).length = t * Q.length := by unfold rep; simp
theorem dcP_len (B : Nat → Int) (o : Nat) : (dcP B o).length = 4 * mn (B o) := by unfold dcP; simp
def dcq (L S : Nat) (B : Nat → Int) : Nat → Nat → List Int → Int × Nat × List Int
  | 0, o, P => (0, o, P)
  | f + 1, o, P => if S ≤ P.length then (0, o, P) else if dcW L B o = true then (if P.length + (dcR B o).length ≤ S then dcq L S B f (o + 1 + 4 * mn (B o)) (P ++ dcR B o) else (5, o, P)) else (8, o, P)
theorem dcW_t {L : Nat} {B : Nat → Int} {o : Nat} (h : dcW L B o = true) : o < L ∧ o + 1 + 4 * mn (B o) ≤ L := by
  unfold dcW at h
  simpa using h
theorem dcq_good {L S : Nat} {B : Nat → Int} (hB : By L B) : ∀ (f o : Nat) (P : List Int), L - o < f → o ≤ L → P.length ≤ S → Bts P → (dcq L S B f o P).1 = 0 → (dcq L S B f o P).2.1 ≤ L ∧ o ≤ (dcq L S B f o P).2.1 ∧ (dcq L S B f o P).2.2.length = S ∧ Bts (dcq L S B f o P).2.2
  | 0, o, P, h, _, _, _, _ => by omega
  | f + 1, o, P, h, ho, hP, hb, he => by
    unfold dcq at he ⊢
    by_cases c0 : S ≤ P.length
    · rw [if_pos c0] at he ⊢
      exact ⟨ho, Nat.le_refl _, by simp only; omega, hb⟩
    · rw [if_neg c0] at he ⊢
      by_cases c1 : dcW L B o = true
      · rw [if_pos c1] at he ⊢
        obtain ⟨d1, d2⟩ := dcW_t c1
        by_cases c2 : P.length + (dcR B o).length ≤ S
        · rw [if_pos c2] at he ⊢
          have hbr : Bts (dcR B o) := fun v hv => by
            unfold dcR rep at hv
            obtain ⟨l, hl, hv⟩ := List.mem_flatten.1 hv
            have := (List.mem_replicate.1 hl).2
            subst this
            obtain ⟨i, hi, rfl⟩ := List.mem_map.1 hv
            exact hB _ (by have := List.mem_range.1 hi; omega)
          obtain ⟨a, b, c, d⟩ := dcq_good hB f _ _ (by omega) d2 (by rw [List.length_append]; exact c2) (hb.app hbr) he
          exact ⟨a, by omega, c, d⟩
        · rw [if_neg c2] at he; cases he
      · rw [if_neg c1] at he; cases he
theorem lE_map (X : List Int) (k : Nat) (f : Nat → Int) {q : Nat} (hq : q < X.length + k) : lE (X ++ (List.range k).map f) q = mixL (Nat.blt q X.length) (lE X q) [yA (f (q - X.length))] := by
  have e1 : mixL (Nat.blt q X.length) (lE X q) [yA (f (q - X.length))] = [yA (cond (Nat.blt q X.length) (X.getD q 0) (f (q - X.length)))] := mixY _ _ _
  rw [e1, lE_app]
  refine congrArg (fun z => [yA z]) ?_
  cases h0 : Nat.blt q X.length
  · have h0' := not_blt h0
    rw [cond_false, cond_false, List.getD_eq_getElem?_getD, List.getElem?_map, List.getElem?_range (by omega)]
    rfl
  · rfl
theorem py_leads (n : Nat) (g : Nat → Int) (sz : Int) (P : List Int) {k : Nat} (f : Nat → Int) {t : Nat} (hk : 0 < k) (hlen : P.length + t * k ≤ 100000) : Leads Tryd.prog (.loop (loopAt Tryd.f29 1)) (pyS n g sz P.length (lE P) k f (t : Nat) 0) (.exit 3) (pyS n g sz (P ++ rep t ((List.range k).map f)).length (lE (P ++ rep t ((List.range k).map f))) k f (t : Nat) (t : Nat)) := by
  have hl : ∀ i, (P ++ rep i ((List.range k).map f)).length = P.length + i * k := fun i => by rw [List.length_append, rep_len]; simp
  have h0 : pyS n g sz P.length (lE P) k f (t : Nat) 0 = pyS n g sz (P ++ rep 0 ((List.range k).map f)).length (lE (P ++ rep 0 ((List.range k).map f))) k f (t : Nat) ((0 : Nat) : Int) := by
    have : P ++ rep 0 ((List.range k).map f) = P := by simp [rep]
    rw [this]
    rfl
  rw [h0]
  refine loop_rule (fun i => pyS n g sz (P ++ rep i ((List.range k).map f)).length (lE (P ++ rep i ((List.range k).map f))) k f (t : Nat) (i : Nat)) t (.exit 3) _ (by simp) (fun i hi => ?_) ?_
  · have hik : (i + 1) * k ≤ t * k := Nat.mul_le_mul_right _ hi
    have hii : i + 1 ≤ (i + 1) * k := Nat.le_mul_of_pos_right _ hk
    rw [Nat.add_mul, Nat.one_mul] at hik hii
    have st := py_step n g sz (P ++ rep i ((List.range k).map f)).length (lE (P ++ rep i ((List.range k).map f))) k f (t : Nat) (i : Nat)
    rw [dec_lt hi, apF_t hk (by rw [hl]; omega), w64_next (by omega)] at st
    refine (leads_evM (finN_sub _ _) e_nil k_nil m_nil noL_ok st).sub (Sub.refl _) ?_
    have el : P ++ rep (i + 1) ((List.range k).map f) = (P ++ rep i ((List.range k).map f)) ++ (List.range k).map f := by rw [rep_succ, List.append_assoc]
    rw [el]
    generalize P ++ rep i ((List.range k).map f) = X
    have ex : (X ++ (List.range k).map f).length = X.length + k := by simp
    rw [ex]
    exact sub_same ⟨Or.inr ⟨5, 1, X.length + k, _, _, rfl, rfl, fun q hq => lE_map X k f hq⟩, trivial⟩
  · have st := py_end n g sz (P ++ rep t ((List.range k).map f)).length (lE (P ++ rep t ((List.range k).map f))) k f (t : Nat) (t : Nat)
    rw [dec_self] at st
    exact leads_evM (finE_sub _ _) e_nil k_nil m_nil noL_ok st
section
variable {L S : Nat} {B : Nat → Int} (hL : L ≤ 100000) (hS : S ≤ 20000) (hB : By L B)
include hL hS hB
def puS (L S : Nat) (B : Nat → Int) (o : Nat) (P : List Int) : St := pxS (L - o) (fun i => B (o + i)) (S : Nat) P.length (lE P)
omit hS in
theorem pu_piece {o : Nat} : (dcW L B o = true → FSpec Tryd.prog 48 [sB (L - o) fun i => B (o + i)] (.tup [sB (4 * mn (B o)) (fun i => B (o + 1 + i)), iA (tm (B o) : Nat), bA true])) ∧ (dcW L B o = false → FSpec Tryd.prog 48 [sB (L - o) fun i => B (o + i)] (.tup [sB 0 (fun _ => 0), iA 0, bA false])) := by
  have hp := piece_spec (n := L - o) (g := fun i => B (o + i)) (by omega) (fun i hi => hB (o + i) (by omega))
  simp only [Nat.add_zero] at hp
  constructor
  · intro h
    obtain ⟨h1, h2⟩ := dcW_t h
    rw [if_pos ⟨by omega, by omega⟩] at hp
    have e : (fun i => B (o + (1 + i))) = fun i => B (o + 1 + i) := funext fun i => by rw [Nat.add_assoc]
    rw [e] at hp
    exact hp
  · intro h
    have hn : ¬ (0 < L - o ∧ 4 * mn (B o) < L - o) := fun c => by
      unfold dcW at h
      rw [decide_eq_true (show o < L by omega), decide_eq_true (show o + 1 + 4 * mn (B o) ≤ L by omega)] at h
      cases h
    rw [if_neg hn] at hp
    refine FSpec.of_res hp fun E v hv => ?_
    obtain ⟨vs, h1, h2⟩ := rel_tup.1 hv
    refine rel_tup.2 ⟨vs, h1, ?_⟩
    obtain ⟨u0, t0, e0, r0, h2⟩ := rels_cons.1 h2
    exact rels_cons.2 ⟨u0, t0, e0, nil_like r0, h2⟩
theorem pu_runs : ∀ (f o : Nat) (P : List Int), L - o < f → o ≤ L → P.length ≤ S → Runs (loopAt Tryd.f29 0) (puS L S B o P) (.exit 0) (peS (L - (dcq L S B f o P).2.1) (fun i => B ((dcq L S B f o P).2.1 + i)) (dcq L S B f o P).2.2.length (lE (dcq L S B f o P).2.2) (dcq L S B f o P).1)
  | 0, o, P, h, _, _ => by omega
  | f + 1, o, P, h, ho, hP => by
    unfold dcq
    by_cases c0 : S ≤ P.length
    · rw [if_pos c0]
      have st := px_exit (L - o) (fun i => B (o + i)) (S : Nat) P.length (lE P) 0 (fun _ => 0) 0 true
      rw [decide_eq_false (show ¬ ((P.length : Int) < (S : Int)) by omega)] at st
      refine Runs.last (leads_evM (finE_sub _ _) e_nil (k_cons kS_ok k_nil) m_nil (lok_none 9) st)
    · rw [if_neg c0]
      have hlt : decide ((P.length : Int) < (S : Int)) = true := decide_eq_true (by omega)
      by_cases c1 : dcW L B o = true
      · rw [if_pos c1]
        obtain ⟨d1, d2⟩ := dcW_t c1
        obtain ⟨b0, b1⟩ := hB o d1
        obtain ⟨m1, m2, t1, t2⟩ := mn_rng b0 b1
        have hpc := (pu_piece hL hB (o := o)).1 c1
        have hR : (dcR B o).length = tm (B o) * (4 * mn (B o)) := by unfold dcR; rw [rep_len, dcP_len]
        have hRb : tm (B o) * (4 * mn (B o)) ≤ 128 * 512 := Nat.mul_le_mul t2 (by omega)
        have hR2 : w64 (((4 * mn (B o) : Nat) : Int) * ((tm (B o) : Nat) : Int)) = (((dcR B o).length : Nat) : Int) := by
          rw [hR, Int.mul_comm, ← Int.natCast_mul, w64_id (by omega) (by omega)]
        have hR3 : w64 ((P.length : Int) + (((dcR B o).length : Nat) : Int)) = ((P.length + (dcR B o).length : Nat) : Int) := by rw [hR, w64_id (by omega) (by omega)]; omega
        by_cases c2 : P.length + (dcR B o).length ≤ S
        · rw [if_pos c2]
          have hin := py_leads (L - o) (fun i => B (o + i)) (S : Nat) P (k := 4 * mn (B o)) (fun i => B (o + 1 + i)) (t := tm (B o)) (by omega) (by rw [← hR]; omega)
          have st := px_step (L - o) (fun i => B (o + i)) (S : Nat) P.length (lE P) (4 * mn (B o)) (fun i => B (o + 1 + i)) (tm (B o) : Nat) (tm (B o) : Nat) true (pyS (L - o) (fun i => B (o + i)) (S : Nat) P.length (lE P) (4 * mn (B o)) (fun i => B (o + 1 + i)) (tm (B o) : Nat) 0) (P ++ dcR B o).length (lE (P ++ dcR B o))
          unfold pxG at st
          have e1 : w64 (1 + ((4 * mn (B o) : Nat) : Int)) = ((1 + 4 * mn (B o) : Nat) : Int) := by rw [w64_id (by omega) (by omega)]; omega
          rw [hlt, gate_pos hpc, hR2, hR3, decide_eq_false (show ¬ (((P.length + (dcR B o).length : Nat) : Int) > (S : Int)) by omega), gate_pos (Sub.refl _), e1, sbB_lo (by omega) (by omega)] at st
          have eN : pxN (L - o) (fun i => B (o + i)) (S : Nat) (4 * mn (B o)) (P ++ dcR B o).length (lE (P ++ dcR B o)) = puS L S B (o + 1 + 4 * mn (B o)) (P ++ dcR B o) := by
            unfold pxN puS
            rw [e1]
            have x1 : sbN (some ((1 + 4 * mn (B o) : Nat) : Int)) none (L - o) = L - (o + 1 + 4 * mn (B o)) := by unfold sbN; simp only [Option.getD_some, Option.getD_none]; omega
            have x2 : (fun i => B (o + (sbL (some ((1 + 4 * mn (B o) : Nat) : Int)) + i))) = fun i => B (o + 1 + 4 * mn (B o) + i) := funext fun i => by
              unfold sbL
              simp only [Option.getD_some, Int.toNat_natCast]
              rw [show o + (1 + 4 * mn (B o) + i) = o + 1 + 4 * mn (B o) + i by omega]
            rw [x1, x2]
          have ih := pu_runs f (o + 1 + 4 * mn (B o)) (P ++ dcR B o) (by omega) d2 (by rw [List.length_append]; exact c2)
          rw [← eN] at ih
          exact Runs.cons (leads_evM (finN_sub _ _) e_nil (k_cons kS_ok k_nil) m_nil (lok_at (c := loopAt Tryd.f29 0) (i := 9) 0 1 (by kernel_rfl) (by kernel_rfl) (toldF_sound (keep := keepPy) (τ := [some 0]) hin)) st) ih
        · rw [if_neg c2]
          have st := px_exit (L - o) (fun i => B (o + i)) (S : Nat) P.length (lE P) (4 * mn (B o)) (fun i => B (o + 1 + i)) (tm (B o) : Nat) true
          unfold pxG at st
          rw [hlt, gate_pos hpc, hR2, hR3, decide_eq_true (show (((P.length + (dcR B o).length : Nat) : Int) > (S : Int)) by omega)] at st
          exact Runs.last (leads_evM (finE_sub _ _) e_nil (k_cons kS_ok k_nil) m_nil (lok_none 9) st)
      · have c1' : dcW L B o = false := by simpa using c1
        rw [if_neg c1]
        have st := px_exit (L - o) (fun i => B (o + i)) (S : Nat) P.length (lE P) 0 (fun _ => 0) 0 false
        unfold pxG at st
        rw [hlt, gate_pos ((pu_piece hL hB (o := o)).2 c1')] at st
        exact Runs.last (leads_evM (finE_sub _ _) e_nil (k_cons kS_ok k_nil) m_nil (lok_none 9) st)
/-- The pixels of pieces: the first fault, where they end, what they are. -/
def dcA (L S : Nat) (B : Nat → Int) : Int × Nat × List Int := dcq L S B (L + 1) 6 []
theorem pixels_spec (h6 : 6 ≤ L) : FSpec Tryd.prog 29 [sB (L - 6) (fun i => B (6 + i)), iA (S : Nat)] (if (dcA L S B).1 = 0 then .tup [lA (dcA L S B).2.2, sB (L - (dcA L S B).2.1) (fun i => B ((dcA L S B).2.1 + i)), iA 0] else .tup [.x (.slice none 0 0), .x (.slice none 0 0), iA (dcA L S B).1]) := by
  have key := Runs.loop (by simp) (pu_runs hL hS hB (L + 1) 6 [] (by omega) h6 (by simp))
  have st := px_ev (L - 6) (fun i => B (6 + i)) (S : Nat) (dcA L S B).2.2.length (puS L S B 6 []) (gl (dcA L S B).2.2) (dcA L S B).1 (L - (dcA L S B).2.1) (fun i => B ((dcA L S B).2.1 + i))
  have hmk : mkB (S : Nat) = true := by
    unfold mkB
    rw [decide_eq_true (show (0 : Int) ≤ 0 by omega), decide_eq_true (show (0 : Int) ≤ (S : Int) by omega), decide_eq_true (show ((1 : Nat) : Int) * (S : Int) ≤ 281474976710656 by omega)]
    rfl
  have hsub : Sub (pxS (L - 6) (fun i => B (6 + i)) (S : Nat) 0 fun _ => [yA 0]) (puS L S B 6 []) := sub_same ⟨Or.inr ⟨5, 1, 0, _, _, rfl, rfl, fun q hq => by omega⟩, trivial⟩
  have hL2 := lok_hd (c := bodyOf Tryd.f29) (i := 2) 1 (by kernel_rfl) (by kernel_rfl) (toldF_sound (keep := keepPx) (τ := [some 0]) key)
  rw [hmk, gate_pos hsub] at st
  by_cases he : (dcA L S B).1 = 0
  · rw [if_pos he]
    rw [he] at st
    have he' : (dcq L S B (L + 1) 6 []).1 = 0 := he
    rw [he'] at hL2
    refine gspecM e_nil (k_cons (kno_ok _) k_nil) m_nil Tryd.func29 (by kernel_rfl) (by kernel_rfl) hL2 rfl (Eq.trans st ?_)
    have e5 : (fun q => [yA (gl (dcA L S B).2.2 (0 + q))]) = lE (dcA L S B).2.2 := funext fun q => by rw [Nat.zero_add]; rfl
    rw [e5]
    rfl
  · rw [if_neg he]
    refine gspecM e_nil (k_cons (kno_ok _) k_nil) m_nil Tryd.func29 (by kernel_rfl) (by kernel_rfl) hL2 rfl (Eq.trans st ?_)
    rw [bne_t he]
    rfl
end
end Go.Proofs.YtcdhdnfkcmjnpaaDoor.Pi

namespace Go.Proofs.YtcdhdnfkcmjnpaaDoor.Pi
open Go.Shelf Go.RowKit Go.Gv

/-! ### What bytes begin with -/
def hpB (n m : Nat) : Bool := sbB none (some (m : Int)) none n || !(decide (decide ((n : Int) ≥ (m : Int)) = true) && true)
theorem hp_ev (ef : EF4) (n m : Nat) (g h : Nat → Int) : ev Tryd.prog [] [kS Tryd.prog 31 (eqG ef)] noL Tryd.f46 [sB n g, sB m h] ret =
    cond (hpB n m) (gate (FSpec Tryd.prog 31 [.sl 1 (sbN none (some (m : Int)) n) (fun i => [yA (g (sbL none + i))]), sB m h] (bA (ef (sbN none (some (m : Int)) n) (fun i => [yA (g (sbL none + i))]) m fun i => [yA (h i)])))
      (some (Out.of (bA (cond (decide ((n : Int) ≥ (m : Int))) (ef (sbN none (some (m : Int)) n) (fun i => [yA (g (sbL none + i))]) m fun i => [yA (h i)]) false))))) none := by kernel_rfl
theorem pre_spec {n m : Nat} (hnm : m ≤ n) (g h : Nat → Int) : FSpec Tryd.prog 46 [sB n g, sB m h] (bA (eqI m g m h)) := by
  refine gspec e_nil (k_cons kEq_ok k_nil) Tryd.func46 (by kernel_rfl) (by kernel_rfl) noL_ok rfl ((hp_ev eqE n m g h).trans ?_)
  have hB : hpB n m = true := by
    unfold hpB
    rw [sbB_hi (by omega) (by omega)]
    rfl
  have e1 : sbN none (some (m : Int)) n = m := by unfold sbN; simp only [Option.getD_some, Option.getD_none]; omega
  have e2 : (fun i => [yA (g (sbL none + i))]) = fun i => [yA (g i)] := funext fun i => by
    have : sbL none = 0 := rfl
    rw [this, Nat.zero_add]
  have hq : FSpec Tryd.prog 31 [.sl 1 m fun i => [yA (g i)], sB m h] (bA (eqE m (fun i => [yA (g i)]) m fun i => [yA (h i)])) := eq_spec m m g h
  rw [hB, e1, e2, gate_pos hq, decide_eq_true (show (n : Int) ≥ (m : Int) by omega)]
  rfl
/-! ### The head -/
def mkL : Nat → List AV := fun i => chunk [yA 82, yA 72, yA 80, yA 49] 1 (0 + i)
def mkF : Nat → Int := gl [82, 72, 80, 49]
theorem sd_ev (n : Nat) (g : Nat → Int) (hb : Bool) (sd : Int → Bool) : evM Tryd.prog [eSid sd] [kS Tryd.prog 46 fun _ => bA hb] [] noL Tryd.f28 [sB n g] ret =
    cond (decide ((n : Int) < 6)) (pBad 8) (gate (FSpec Tryd.prog 46 [sB n g, .sl 1 4 mkL] (bA hb)) (cond (!hb) (pBad 11) (cond ((ixB 4 n || false) && ((ixB 5 n || false) && true)) (cond (cond (!(sd (IntKind.i64.wrap (g 4)))) true (!(sd (IntKind.i64.wrap (g 5))))) (pBad 4)
      (some (Out.of (.tup [.agg [iA (IntKind.i64.wrap (g 4)), iA (IntKind.i64.wrap (g 5)), .x (.slice none 0 0)], iA 0])))) none))) := by kernel_rfl
/-- What is wrong with a head. -/
noncomputable def unH (L : Nat) (B : Nat → Int) : Int := if L < 6 then 8 else if sq 4 B 4 mkF = false then 11 else if sidB (B 4) = false ∨ sidB (B 5) = false then 4 else 0
theorem mk_by : By 4 mkF := fun i hi => by
  rcases (show i = 0 ∨ i = 1 ∨ i = 2 ∨ i = 3 by omega) with rfl | rfl | rfl | rfl <;> decide
theorem sides_spec {L : Nat} {B : Nat → Int} (hB : By L B) : FSpec Tryd.prog 28 [sB L B] (if unH L B = 0 then .tup [.agg [iA (B 4), iA (B 5), .x (.slice none 0 0)], iA 0] else .tup [.agg picZ, iA (unH L B)]) := by
  have st := sd_ev L B (eqI 4 B 4 mkF) sidB
  have main : ∀ (r : AV), evM Tryd.prog [eSid sidB] [kS Tryd.prog 46 fun _ => bA (eqI 4 B 4 mkF)] [] noL Tryd.f28 [sB L B] ret = some (Out.of r) → FSpec Tryd.prog 28 [sB L B] r := fun r h =>
    gspecM (e_cons eSid_ok e_nil) (k_cons kS_ok k_nil) m_nil Tryd.func28 (by kernel_rfl) (by kernel_rfl) noL_ok rfl h
  have bad : ∀ e : Int, unH L B = e → e ≠ 0 → evM Tryd.prog [eSid sidB] [kS Tryd.prog 46 fun _ => bA (eqI 4 B 4 mkF)] [] noL Tryd.f28 [sB L B] ret = pBad e → FSpec Tryd.prog 28 [sB L B] (if unH L B = 0 then .tup [.agg [iA (B 4), iA (B 5), .x (.slice none 0 0)], iA 0] else .tup [.agg picZ, iA (unH L B)]) := fun e h1 h2 h3 => by
    rw [h1, if_neg h2]
    exact main _ h3
  by_cases c0 : L < 6
  · rw [decide_eq_true (show (L : Int) < 6 by omega)] at st
    exact bad 8 (by unfold unH; rw [if_pos c0]) (by decide) st
  · have hp := pre_spec (n := L) (m := 4) (by omega) B mkF
    have hm : FSpec Tryd.prog 46 [sB L B, .sl 1 4 mkL] (bA (eqI 4 B 4 mkF)) := by
      refine FSpec.of_args hp fun E vs hv => ?_
      obtain ⟨u0, t0, e0, r0, hv⟩ := rels_cons.1 hv
      obtain ⟨u1, t1, e1, r1, hv⟩ := rels_cons.1 hv
      refine rels_cons.2 ⟨u0, t0, e0, r0, rels_cons.2 ⟨u1, t1, e1, sl_like r1 fun i hi => ?_, hv⟩⟩
      rcases (show i = 0 ∨ i = 1 ∨ i = 2 ∨ i = 3 by omega) with rfl | rfl | rfl | rfl <;> rfl
    have hsq := eqI_sq (n := 4) (m := 4) (g := B) (h := mkF) (fun i hi => hB i (by omega)) mk_by
    have h4 := hB 4 (by omega)
    have h5 := hB 5 (by omega)
    have w4 : IntKind.i64.wrap (B 4) = B 4 := w64_id (by omega) (by omega)
    have w5 : IntKind.i64.wrap (B 5) = B 5 := w64_id (by omega) (by omega)
    have i4 : ixB 4 L = true := ixB_t (i := 4) (by omega)
    have i5 : ixB 5 L = true := ixB_t (i := 5) (by omega)
    rw [decide_eq_false (show ¬ ((L : Int) < 6) by omega), gate_pos hm, i4, i5, w4, w5] at st
    have hH : unH L B = if sq 4 B 4 mkF = false then 11 else if sidB (B 4) = false ∨ sidB (B 5) = false then 4 else 0 := by unfold unH; rw [if_neg c0]
    cases c1 : sq 4 B 4 mkF
    · refine bad 11 (by rw [hH, if_pos c1]) (by decide) (Eq.trans st ?_)
      rw [hsq, c1]
      rfl
    · have hH2 : unH L B = if sidB (B 4) = false ∨ sidB (B 5) = false then 4 else 0 := by rw [hH, if_neg (by rw [c1]; simp)]
      cases c2 : sidB (B 4)
      · refine bad 4 (by rw [hH2, if_pos (Or.inl c2)]) (by decide) (Eq.trans st ?_)
        rw [hsq, c1, c2]
        rfl
      · cases c3 : sidB (B 5)
        · refine bad 4 (by rw [hH2, if_pos (Or.inr c3)]) (by decide) (Eq.trans st ?_)
          rw [hsq, c1, c2, c3]
          rfl
        · have h0 : unH L B = 0 := by rw [hH2, if_neg (by rw [c2, c3]; simp)]
          rw [h0, if_pos rfl]
          refine main _ (Eq.trans st ?_)
          rw [hsq, c1, c2, c3]
          rfl
/-! ### The check -/
theorem cd_ev (n m : Nat) (g h : Nat → Int) (a b : Int) : ev Tryd.prog [] [kS Tryd.prog 41 fun _ => .tup [yA a, yA b]] noL Tryd.f30 [sB n g, sB m h] ret =
    cond (decide ((m : Int) < 2)) (some (Out.of (iA 8))) (cond (decide ((m : Int) > 2)) (some (Out.of (iA 5))) (cond (sbB none (some (w64 ((n : Int) - 2))) none n || false) (gate (FSpec Tryd.prog 41 [.sl 1 (sbN none (some (w64 ((n : Int) - 2))) n) fun i => [yA (g (sbL none + i))]] (.tup [yA a, yA b]))
      (cond (ixB 0 m || false) (cond (ixB 1 m || !(decide ((!(h 0 == a)) = false) && true)) (cond (cond (!(h 0 == a)) true (!(h 1 == b))) (some (Out.of (iA 12))) (some (Out.of (iA 0)))) none) none)) none)) := by kernel_rfl
noncomputable def unC (L o : Nat) (B : Nat → Int) : Int := if L < o + 2 then 8 else if o + 2 < L then 5 else if B o = (cs B o).1 ∧ B (o + 1) = (cs B o).2 then 0 else 12
theorem checked_spec {L o : Nat} {B : Nat → Int} (hL : L ≤ 100000) (hB : By L B) (ho : o ≤ L) : FSpec Tryd.prog 30 [sB L B, sB (L - o) (fun i => B (o + i))] (iA (unC L o B)) := by
  have st := cd_ev L (L - o) B (fun i => B (o + i)) (cs B o).1 (cs B o).2
  have main : ∀ (r : AV), ev Tryd.prog [] [kS Tryd.prog 41 fun _ => .tup [yA (cs B o).1, yA (cs B o).2]] noL Tryd.f30 [sB L B, sB (L - o) (fun i => B (o + i))] ret = some (Out.of r) → FSpec Tryd.prog 30 [sB L B, sB (L - o) (fun i => B (o + i))] r := fun r h =>
    gspec e_nil (k_cons kS_ok k_nil) Tryd.func30 (by kernel_rfl) (by kernel_rfl) noL_ok rfl h
  unfold unC
  by_cases c0 : L < o + 2
  · rw [if_pos c0]
    rw [decide_eq_true (show ((L - o : Nat) : Int) < 2 by omega)] at st
    exact main _ st
  · rw [if_neg c0]
    rw [decide_eq_false (show ¬ (((L - o : Nat) : Int) < 2) by omega)] at st
    by_cases c1 : o + 2 < L
    · rw [if_pos c1]
      rw [decide_eq_true (show ((L - o : Nat) : Int) > 2 by omega)] at st
      exact main _ st
    · rw [if_neg c1]
      have e : L = o + 2 := by omega
      have e1 : w64 ((L : Int) - 2) = (o : Int) := by rw [w64_id (by omega) (by omega)]; omega
      have e2 : sbN none (some (o : Int)) L = o := by unfold sbN; simp only [Option.getD_some, Option.getD_none]; omega
      have e3 : (fun i => [yA (B (sbL none + i))]) = fun i => [yA (B i)] := funext fun i => by
        have : sbL none = 0 := rfl
        rw [this, Nat.zero_add]
      have hck : FSpec Tryd.prog 41 [.sl 1 o fun i => [yA (B i)]] (.tup [yA (cs B o).1, yA (cs B o).2]) := check_spec (by omega) fun i hi => hB i (by omega)
      have i0 : ixB 0 (L - o) = true := ixB_t (i := 0) (by omega)
      have i1 : ixB 1 (L - o) = true := ixB_t (i := 1) (by omega)
      rw [decide_eq_false (show ¬ (((L - o : Nat) : Int) > 2) by omega), e1, sbB_hi (by omega) (by omega), e2, e3, gate_pos hck, i0, i1] at st
      by_cases c2 : B o = (cs B o).1
      · have b2 : (B (o + 0) == (cs B o).1) = true := beq_iff_eq.2 (by rw [Nat.add_zero]; exact c2)
        rw [b2] at st
        by_cases c3 : B (o + 1) = (cs B o).2
        · have b3 : (B (o + 1) == (cs B o).2) = true := beq_iff_eq.2 c3
          rw [b3] at st
          rw [if_pos ⟨c2, c3⟩]
          exact main _ st
        · have b3 : (B (o + 1) == (cs B o).2) = false := beq_eq_false_iff_ne.2 c3
          rw [b3] at st
          rw [if_neg (fun c => c3 c.2)]
          exact main _ st
      · have b2 : (B (o + 0) == (cs B o).1) = false := beq_eq_false_iff_ne.2 (by rw [Nat.add_zero]; exact c2)
        rw [b2] at st
        rw [if_neg (fun c => c2 c.1)]
        exact main _ st
/-! ### The whole -/
noncomputable def gS (f : Nat) (a : List AV) (r : AV) (x : Option Out) : Option Out := gate (FSpec Tryd.prog f a r) x
noncomputable def kC (f : Nat) (r : AV) : KEntry := kS Tryd.prog f fun _ => r
theorem kC_ok (f : Nat) (r : AV) : KOk Tryd.prog (kC f r) := kS_ok (P := Tryd.prog) (f := f) (g := fun _ => r)
section
variable (n : Nat) (g : Nat → Int) (W H e : Int) (m : Nat) (q : Nat → Int) (r : Nat) (rf : Nat → Int) (e2 e3 : Int) (pl : Nat) (pf : Nat → List AV) (eq : Bool)
noncomputable def upK : List KEntry := [kC 28 (.tup [.agg [iA W, iA H, .x (.slice none 0 0)], iA e]), kC 29 (.tup [sB m q, sB r rf, iA e2]), kC 30 (iA e3), kC 19 (.sl 1 pl pf), kC 31 (bA eq)]
theorem up_ev : ev Tryd.prog [] (upK W H e m q r rf e2 e3 pl pf eq) noL Tryd.f11 [sB n g] ret =
    gS 28 [sB n g] (.tup [.agg [iA W, iA H, .x (.slice none 0 0)], iA e]) (cond (!(e == 0)) (pBad e) (gS 29 [.sl 1 (sbN (some 6) none n) (fun i => [yA (g (sbL (some 6) + i))]), iA (w64 (w64 (4 * W) * H))] (.tup [sB m q, sB r rf, iA e2])
      (cond ((sbB (some 6) none none n || false) && true) (cond (!(e2 == 0)) (pBad e2) (gS 30 [sB n g, sB r rf] (iA e3) (cond (!(e3 == 0)) (pBad e3)
        (gS 19 [.agg [iA W, iA H, sB m q]] (.sl 1 pl pf) (gS 31 [.sl 1 pl pf, sB n g] (bA eq) (cond (!eq) (pBad 11) (some (Out.of (.tup [.agg [iA W, iA H, sB m q], iA 0]))))))))) none))) := by kernel_rfl
end
end Go.Proofs.YtcdhdnfkcmjnpaaDoor.Pi

namespace Go.Proofs.YtcdhdnfkcmjnpaaDoor.Pi
open Go.Shelf Go.RowKit Go.Gv

noncomputable def unN (B : Nat → Int) : Nat := (B 4 * B 5).toNat
noncomputable def unD (L : Nat) (B : Nat → Int) : Int × Nat × List Int := dcA L (4 * unN B) B
noncomputable def unK (L : Nat) (B : Nat → Int) : List Int := pkL (B 4) (B 5) (unN B) (gl (unD L B).2.2)
noncomputable def unE (L : Nat) (B : Nat → Int) : Int := if unH L B ≠ 0 then unH L B else if (unD L B).1 ≠ 0 then (unD L B).1 else if unC L (unD L B).2.1 B ≠ 0 then unC L (unD L B).2.1 B else if sq (unK L B).length (gl (unK L B)) L B = true then 0 else 11
noncomputable def unP (L : Nat) (B : Nat → Int) : Pic := if unE L B = 0 then ⟨B 4, B 5, 4 * unN B, gl (unD L B).2.2⟩ else zP
theorem un_bad {f : Nat} {args : List AV} {L : Nat} {B : Nat → Int} {e : Int} (he : unE L B = e) (h0 : e ≠ 0) (h : FSpec Tryd.prog f args (.tup [.agg picZ, iA e])) : FSpec Tryd.prog f args (pOut (unP L B) (unE L B)) := by
  have : unP L B = zP := by unfold unP; rw [if_neg (by rw [he]; exact h0)]
  rw [this, he]
  exact pspec_bad h
theorem unH_zero {L : Nat} {B : Nat → Int} (h : unH L B = 0) : 6 ≤ L ∧ (1 ≤ B 4 ∧ B 4 ≤ 64) ∧ (1 ≤ B 5 ∧ B 5 ≤ 64) ∧ ((unN B : Nat) : Int) = B 4 * B 5 ∧ unN B ≤ 4096 ∧ sq 4 B 4 mkF = true := by
  unfold unH at h
  by_cases c0 : L < 6
  · rw [if_pos c0] at h; cases h
  rw [if_neg c0] at h
  cases c1 : sq 4 B 4 mkF
  · rw [if_pos c1] at h; cases h
  rw [if_neg (by rw [c1]; simp)] at h
  by_cases c2 : sidB (B 4) = false ∨ sidB (B 5) = false
  · rw [if_pos c2] at h; cases h
  have sd : ∀ n : Int, sidB n ≠ false → 1 ≤ n ∧ n ≤ 64 := fun n hn => by
    unfold sidB at hn
    by_cases d1 : n ≥ 1
    · rw [decide_eq_true d1] at hn
      by_cases d2 : n ≤ 64
      · exact ⟨d1, d2⟩
      · rw [decide_eq_false d2] at hn; exact absurd rfl hn
    · rw [decide_eq_false d1] at hn; exact absurd rfl hn
  have a := sd _ fun e => c2 (Or.inl e)
  have b := sd _ fun e => c2 (Or.inr e)
  have hM := mulB (x := B 4) (y := B 5) (X := 64) (Y := 64) (by omega) a.2 (by omega) b.2
  exact ⟨by omega, a, b, by unfold unN; omega, by unfold unN; omega, rfl⟩
theorem un_size {L : Nat} {B : Nat → Int} (h : unH L B = 0) : w64 (w64 (4 * B 4) * B 5) = ((4 * unN B : Nat) : Int) := by
  obtain ⟨_, a, b, hN, hN2, _⟩ := unH_zero h
  rw [w64_id (n := 4 * B 4) (by omega) (by omega), Int.mul_assoc, ← hN, w64_id (by omega) (by omega)]
  omega
theorem unD_good {L : Nat} {B : Nat → Int} (hB : By L B) (h : unH L B = 0) (hd : (unD L B).1 = 0) : (unD L B).2.1 ≤ L ∧ 6 ≤ (unD L B).2.1 ∧ (unD L B).2.2.length = 4 * unN B ∧ Bts (unD L B).2.2 := by
  obtain ⟨h6, _⟩ := unH_zero h
  exact dcq_good hB (L + 1) 6 [] (by omega) h6 (by simp) Bts.nil hd
theorem unpack_spec {L : Nat} {B : Nat → Int} (hL : L ≤ 100000) (hB : By L B) : FSpec Tryd.prog 11 [sB L B] (pOut (unP L B) (unE L B)) := by
  have hs := sides_spec hB
  have main : ∀ {W H e : Int} {m : Nat} {q : Nat → Int} {r : Nat} {rf : Nat → Int} {e2 e3 : Int} {pl : Nat} {pf : Nat → List AV} {eq : Bool} (v : AV), ev Tryd.prog [] (upK W H e m q r rf e2 e3 pl pf eq) noL Tryd.f11 [sB L B] ret = some (Out.of v) → FSpec Tryd.prog 11 [sB L B] v := fun {W H e m q r rf e2 e3 pl pf eq} v h =>
    gspec e_nil (k_cons (kC_ok _ _) <| k_cons (kC_ok _ _) <| k_cons (kC_ok _ _) <| k_cons (kC_ok _ _) <| k_cons (kC_ok _ _) k_nil) Tryd.func11 (by kernel_rfl) (by kernel_rfl) noL_ok rfl h
  by_cases c0 : unH L B = 0
  · rw [if_pos c0] at hs
    obtain ⟨h6, hW, hH, hN, hN2, _⟩ := unH_zero c0
    have hpx := pixels_spec (S := 4 * unN B) hL (by omega) hB h6
    have e1 : sbN (some 6) none L = L - 6 := by unfold sbN; simp only [Option.getD_some, Option.getD_none]; omega
    have e2 : (fun i => [yA (B (sbL (some 6) + i))]) = fun i => [yA (B (6 + i))] := rfl
    by_cases c1 : (unD L B).1 = 0
    · have c1' : (dcA L (4 * unN B) B).1 = 0 := c1
      rw [if_pos c1'] at hpx
      obtain ⟨ho, ho6, hPl, hPb⟩ := unD_good hB c0 c1
      have hck := checked_spec hL hB ho
      by_cases c2 : unC L (unD L B).2.1 B = 0
      · have hpk : FSpec Tryd.prog 19 [.agg [iA (B 4), iA (B 5), sB (4 * unN B) (gl (unD L B).2.2)]] (.sl 1 (unK L B).length (lE (unK L B))) := packed_spec (by omega) (by omega) (by omega) (by rw [← hPl]; exact hPb.by)
        have hkb : Bts (unK L B) := pkL_bts (by omega) (by omega) (by rw [← hPl]; exact hPb.by)
        have heq : FSpec Tryd.prog 31 [.sl 1 (unK L B).length (lE (unK L B)), sB L B] (bA (sq (unK L B).length (gl (unK L B)) L B)) := by
          rw [← eqI_sq hkb.by hB]
          exact eq_spec _ _ (gl (unK L B)) B
        have st := up_ev L B (B 4) (B 5) 0 (4 * unN B) (gl (unD L B).2.2) (L - (unD L B).2.1) (fun i => B ((unD L B).2.1 + i)) 0 0 (unK L B).length (lE (unK L B)) (sq (unK L B).length (gl (unK L B)) L B)
        have hpx' : FSpec Tryd.prog 29 [.sl 1 (L - 6) (fun i => [yA (B (6 + i))]), iA ((4 * unN B : Nat) : Int)] (.tup [sB (4 * unN B) (gl (unD L B).2.2), sB (L - (unD L B).2.1) (fun i => B ((unD L B).2.1 + i)), iA 0]) := by
          rw [← hPl]
          rw [hPl]
          have e : lA (dcA L (4 * unN B) B).2.2 = sB (4 * unN B) (gl (unD L B).2.2) := by
            show AV.sl 1 (unD L B).2.2.length _ = _
            rw [hPl]
            rfl
          rw [e] at hpx
          exact hpx
        rw [c2] at hck
        unfold gS at st
        rw [gate_pos hs, e1, e2, un_size c0, gate_pos hpx', sbB_lo (by omega) (by omega), gate_pos hck, gate_pos hpk, gate_pos heq] at st
        cases c3 : sq (unK L B).length (gl (unK L B)) L B
        · rw [c3] at st
          exact un_bad (e := 11) (by unfold unE; rw [if_neg (fun h => h c0), if_neg (fun h => h c1), if_neg (fun h => h c2), c3]; rfl) (by decide) (main _ st)
        · rw [c3] at st
          have hz : unE L B = 0 := by unfold unE; rw [if_neg (fun h => h c0), if_neg (fun h => h c1), if_neg (fun h => h c2), c3]; rfl
          unfold unP
          rw [hz, if_pos rfl]
          exact main _ st
      · have hpx' : FSpec Tryd.prog 29 [.sl 1 (L - 6) (fun i => [yA (B (6 + i))]), iA ((4 * unN B : Nat) : Int)] (.tup [sB (unD L B).2.2.length (gl (unD L B).2.2), sB (L - (unD L B).2.1) (fun i => B ((unD L B).2.1 + i)), iA 0]) := hpx
        have st := up_ev L B (B 4) (B 5) 0 (unD L B).2.2.length (gl (unD L B).2.2) (L - (unD L B).2.1) (fun i => B ((unD L B).2.1 + i)) 0 (unC L (unD L B).2.1 B) 0 (fun _ => []) true
        unfold gS at st
        rw [gate_pos hs, e1, e2, un_size c0, gate_pos hpx', sbB_lo (by omega) (by omega), gate_pos hck, bne_t c2] at st
        exact un_bad (by unfold unE; rw [if_neg (fun h => h c0), if_neg (fun h => h c1), if_pos c2]) c2 (main _ st)
    · have c1' : (dcA L (4 * unN B) B).1 ≠ 0 := c1
      rw [if_neg c1'] at hpx
      have hpx' : FSpec Tryd.prog 29 [.sl 1 (L - 6) (fun i => [yA (B (6 + i))]), iA ((4 * unN B : Nat) : Int)] (.tup [sB 0 fun _ => 0, sB 0 fun _ => 0, iA (unD L B).1]) := by
        refine FSpec.of_res hpx fun E v hv => ?_
        obtain ⟨vs, h1, h2⟩ := rel_tup.1 hv
        refine rel_tup.2 ⟨vs, h1, ?_⟩
        obtain ⟨u0, t0, e0, r0, h2⟩ := rels_cons.1 h2
        obtain ⟨u1, t1, e1, r1, h2⟩ := rels_cons.1 h2
        exact rels_cons.2 ⟨u0, t0, e0, nil_like r0, rels_cons.2 ⟨u1, t1, e1, nil_like r1, h2⟩⟩
      have st := up_ev L B (B 4) (B 5) 0 0 (fun _ => 0) 0 (fun _ => 0) (unD L B).1 0 0 (fun _ => []) true
      unfold gS at st
      rw [gate_pos hs, e1, e2, un_size c0, gate_pos hpx', sbB_lo (by omega) (by omega), bne_t c1] at st
      exact un_bad (by unfold unE; rw [if_neg (fun h => h c0), if_pos c1]) c1 (main _ st)
  · rw [if_neg c0] at hs
    have st := up_ev L B 0 0 (unH L B) 0 (fun _ => 0) 0 (fun _ => 0) 0 0 0 (fun _ => []) true
    unfold gS at st
    have hs' : FSpec Tryd.prog 28 [sB L B] (.tup [.agg [iA 0, iA 0, .x (.slice none 0 0)], iA (unH L B)]) := hs
    rw [gate_pos hs', bne_t c0] at st
    exact un_bad (by unfold unE; rw [if_pos c0]) c0 (main _ st)
/-! ### The answer's -/
def vxC (W H : Int) (m : Nat) : Row := .c [iA W, iA H, .osl 2 1 0 m]
def vxS (n : Nat) (g : Nat → Int) (W H : Int) (o : Int) (m : Nat) (el : Nat → List AV) : St := mkS 172 [(0, sB n g), (2, .own 0 0), (4, .own 1 0), (5, iA o)] [.c picZ, vxC W H m, .a 5 1 m el]
def keepVx : List Nat := [0, 2, 4, 5]
def vyS (n : Nat) (g : Nat → Int) (W H : Int) (o many t i : Int) (m : Nat) (el : Nat → List AV) : St := mkS 172 [(0, sB n g), (2, .own 0 0), (4, .own 1 0), (5, iA o), (7, iA many), (8, iA t), (9, iA i)] [.c picZ, vxC W H m, .a 5 1 m el]
def keepVy : List Nat := [0, 2, 4, 5, 7, 8, 9]
def vxR (e : Int) : St := mkS 172 [(2, .own 0 0), (3, iA e)] [.c picZ]
section
variable (n : Nat) (g : Nat → Int) (W H : Int) (o many t i : Int) (m : Nat) (el : Nat → List AV)
def vyL : Int := w64 (o + 1)
def vyH : Int := w64 (w64 (o + 1) + w64 (4 * many))
def vyN : Nat := sbN (some (vyL o)) (some (vyH o many)) n
theorem vy_step : evCM Tryd.prog [] [] [] noL (loopAt Tryd.f16 1) (vyS n g W H o many t i m el) (finN keepVy [some 0, some 1, some 3]) =
    cond (decide (i < t)) (cond ((sbB (some (vyL o)) (some (vyH o many)) none n || false) && ((apF m (vyN n o many) || false) && true)) (some ⟨.normal, vyS n g W H o many t (w64 (i + 1)) (m + vyN n o many) (fun q => mixL (Nat.blt q m) (el q) [yA (g (sbL (some (vyL o)) + (q - m)))]), .any⟩) none) none := by kernel_rfl
theorem vy_end : evCM Tryd.prog [] [] [] noL (loopAt Tryd.f16 1) (vyS n g W H o many t i m el) (finE keepVy [some 0, some 1, some 2]) =
    cond (decide (i < t)) (cond ((sbB (some (vyL o)) (some (vyH o many)) none n || false) && ((apF m (vyN n o many) || false) && true)) none none) (some ⟨.exit 2, vyS n g W H o many t i m el, .any⟩) := by kernel_rfl
end
end Go.Proofs.YtcdhdnfkcmjnpaaDoor.Pi

namespace Go.Proofs.YtcdhdnfkcmjnpaaDoor.Pi
open Go.Shelf Go.RowKit Go.Gv

section
variable (n : Nat) (g : Nat → Int) (W H : Int) (o : Int) (m : Nat) (el : Nat → List AV)
def vxZ : Int := w64 (w64 (4 * W) * H)
def vxK : Int := IntKind.i64.wrap (g o.toNat)
def vxX (a b : Int) (r : Option Out) (y : Int → Int → Option Out) : Option Out := cond (decide (vyH o a > (n : Int))) r (y a b)
def vxT (r : Option Out) (y : Int → Int → Option Out) (z : Option Out) : Option Out := cond (decide ((m : Int) < vxZ W H)) (cond (decide (o ≥ (n : Int))) r (cond (ixB o n || false) (cond (decide (vxK g o < 128)) (vxX n o (w64 (vxK g o + 1)) 1 r y) (vxX n o 1 (w64 (vxK g o - 127)) r y)) none)) z
noncomputable def vxG (s0 : St) (x : Option Out) (a b : Int) : Option Out := gate (Sub (vyS n g W H o a b 0 m el) s0) x
theorem vx_step (s0 : St) (many t i : Int) (m' : Nat) (el' : Nat → List AV) : evCM Tryd.prog [] [] [] (oneL 21 (toldF keepVy [some 0, some 1, some 2] s0 (.exit 2) (vyS n g W H o many t i m' el'))) (loopAt Tryd.f16 0) (vxS n g W H o m el) (finN keepVx [some 0, some 1, some 2]) =
    vxT n g W H o m none (vxG n g W H o m el s0 (some ⟨.normal, vxS n g W H (vyH o many) m' el', .any⟩)) none := by kernel_rfl
theorem vx_end : evCM Tryd.prog [] [] [] (oneL 21 fun _ _ => none) (loopAt Tryd.f16 0) (vxS n g W H o m el) (finE keepVx [some 0, some 1, some 2]) = vxT n g W H o m none (fun _ _ => none) (some ⟨.exit 0, vxS n g W H o m el, .any⟩) := by kernel_rfl
theorem vx_ret : evCM Tryd.prog [] [] [] (oneL 21 fun _ _ => none) (loopAt Tryd.f16 0) (vxS n g W H o m el) (finR [2, 3] [some 0]) = vxT n g W H o m (some ⟨.ret, vxR 8, .any⟩) (fun _ _ => none) none := by kernel_rfl
end
section
variable (n : Nat) (g : Nat → Int)
def vm0 : Bool := !(g 0 == 82)
def vm1 : Bool := cond (vm0 g) true (!(g 1 == 72))
def vm2 : Bool := cond (vm1 g) true (!(g 2 == 80))
def vm3 : Bool := cond (vm2 g) true (!(g 3 == 49))
def vmI (c : Bool) (i : Int) : Bool := ixB i n || !(decide (c = false) && true)
def vW : Int := IntKind.i64.wrap (g 4)
def vH : Int := IntKind.i64.wrap (g 5)
def vxHd (x : Option Out) : Option Out := cond (decide ((n : Int) < 6)) (pBad 8) (cond (ixB 0 n || false) (cond (vmI n (vm0 g) 1) (cond (vmI n (vm1 g) 2) (cond (vmI n (vm2 g) 3) (cond (vm3 g) (pBad 11)
  (cond ((ixB 4 n || false) && ((ixB 5 n || false) && true)) (cond (pbad (vW g) (vH g)) (pBad 4) x) none)) none) none) none) none)
variable (ef : EF4) (x y : Int) (pl : Nat) (pf : Nat → List AV) (pe : Int)
noncomputable def vxKs : List KEntry := [kC 22 (lA [x, y]), kS Tryd.prog 36 (eqG ef), kC 8 (.tup [.sl 1 pl pf, iA pe])]
def vxF (m : Nat) : Bool := (Nat.beq m m && true) && true
noncomputable def vxQ (a b : Nat) (p q : Nat → List AV) (k : Bool → Option Out) : Option Out := gS 36 [.sl 1 a p, .sl 1 b q] (bA (ef a p b q)) (k (ef a p b q))
noncomputable def vxE (W H o : Int) (m : Nat) (s : Nat → Int) : Option Out := cond (vxF m) (cond (decide ((m : Int) > vxZ W H)) (pBad 5) (cond (decide ((n : Int) < w64 (o + 2))) (pBad 8) (cond (decide ((n : Int) > w64 (o + 2))) (pBad 5)
  (gS 22 [.sl 1 (sbN none (some o) n) fun i => [yA (g (sbL none + i))]] (lA [x, y]) (vxQ ef 2 (sbN (some o) none n) (lE [x, y]) (fun i => [yA (g (sbL (some o) + i))]) fun q1 =>
    (cond ((sbB none (some o) none n || false) && ((sbB (some o) none none n || false) && true)) (cond (!q1) (pBad 12) (gS 8 [.agg [iA W, iA H, sB m s]] (.tup [.sl 1 pl pf, iA pe]) (vxQ ef pl n pf (fun i => [yA (g i)]) fun q2 => cond (!q2) (pBad 11) (some (Out.of (.tup [.agg [iA W, iA H, sB m s], iA 0])))))) none)))))) none
theorem vx_ev0 : evZ Tryd.prog [] (vxKs ef x y pl pf pe) [] (oneL 9 fun _ _ => none) (oneZ 25 (frzK 2)) Tryd.f16 [sB n g] ret = vxHd n g none := by kernel_rfl
theorem vx_evB (s0 : St) (e : Int) (h : Nat → Int) : evZ Tryd.prog [] (vxKs ef x y pl pf pe) [] (oneL 9 (toldC keepVx 1 [(2, 2, 1)] (.a 5 1 0 fun q => [yA (h q)]) [some 0, some 1, none] s0 .ret (vxR e))) (oneZ 25 (frzK 2)) Tryd.f16 [sB n g] ret = vxHd n g (gate (Sub (vxS n g (vW g) (vH g) 6 0 fun q => [yA (h q)]) s0) (pBad e)) := by kernel_rfl
theorem vx_evA (s0 : St) (W H o : Int) (m : Nat) (s : Nat → Int) (h : Nat → Int) : evZ Tryd.prog [] (vxKs ef x y pl pf pe) [] (oneL 9 (toldC keepVx 1 [(2, 2, 1)] (.a 5 1 0 fun q => [yA (h q)]) [some 0, some 1, none] s0 (.exit 0) (vxS n g W H o m fun q => [yA (s q)]))) (oneZ 25 (frzK 2)) Tryd.f16 [sB n g] ret = vxHd n g (gate (Sub (vxS n g (vW g) (vH g) 6 0 fun q => [yA (h q)]) s0) (vxE n g ef x y pl pf pe W H o m s)) := by kernel_rfl
end
end Go.Proofs.YtcdhdnfkcmjnpaaDoor.Pi

namespace Go.Proofs.YtcdhdnfkcmjnpaaDoor.Pi
open Go.Shelf Go.RowKit Go.Gv

theorem gspecZ {l : List Entry} {ks : List KEntry} {ms : List MEntry} {L : Nat → Option LFun} {Z : Nat → Option ZFun} (hZ : ∀ i h, Z i = some h → ZSoundN 0 h) (hl : ∀ e, e ∈ l → EOk Tryd.prog e) (hks : ∀ e, e ∈ ks → KOk Tryd.prog e) (hms : ∀ e, e ∈ ms → MEOk Tryd.prog e) {f : Nat} {fn : Func} (hf : Tryd.prog.funcs[f]? = some fn) (hnm : (fn.name == "runtime.NumGoroutine") = false) (hb : fn.body = some (bodyOf fn)) (hL : LOk Tryd.prog L (bodyOf fn))
    {args : List AV} (hlen : Nat.ble args.length fn.ntmps = true) {r : AV} (h : evZ Tryd.prog l ks ms L Z fn args ret = some (Out.of r)) : FSpec Tryd.prog f args r := spec_of_bodyZ hZ (tabM_ok hl hks hms) (drawnK_ok (tabM_ok hl hks hms) (by kernel_rfl)) 40 hf hnm hb hL hlen h
def vqS (L : Nat) (B : Nat → Int) (W H : Int) (o : Nat) (P : List Int) : St := vxS L B W H (o : Nat) P.length (lE P)
section
variable {L S : Nat} {B : Nat → Int} {W H : Int} (hL : L ≤ 100000) (hS : S ≤ 20000) (hB : By L B) (hZ : vxZ W H = (S : Int))
include hL hB
omit hB in
theorem vy_leads {o : Nat} (P : List Int) {many t : Nat} (h1 : 1 ≤ many) (h2 : many ≤ 128) (ho : o + 1 + 4 * many ≤ L) (hlen : P.length + t * (4 * many) ≤ 100000) : Leads Tryd.prog (.loop (loopAt Tryd.f16 1)) (vyS L B W H (o : Nat) (many : Nat) (t : Nat) 0 P.length (lE P)) (.exit 2)
    (vyS L B W H (o : Nat) (many : Nat) (t : Nat) (t : Nat) (P ++ rep t ((List.range (4 * many)).map fun i => B (o + 1 + i))).length (lE (P ++ rep t ((List.range (4 * many)).map fun i => B (o + 1 + i))))) := by
  have e1 : vyL (o : Nat) = ((o + 1 : Nat) : Int) := by unfold vyL; rw [w64_id (by omega) (by omega)]; omega
  have e2 : vyH (o : Nat) (many : Nat) = ((o + 1 + 4 * many : Nat) : Int) := by
    unfold vyH
    rw [w64_id (n := (o : Int) + 1) (by omega) (by omega), w64_id (n := 4 * (many : Int)) (by omega) (by omega), w64_id (by omega) (by omega)]
    omega
  have e3 : vyN L (o : Nat) (many : Nat) = 4 * many := by
    unfold vyN
    rw [e1, e2]
    unfold sbN
    simp only [Option.getD_some]
    omega
  have hl : ∀ i, (P ++ rep i ((List.range (4 * many)).map fun i => B (o + 1 + i))).length = P.length + i * (4 * many) := fun i => by rw [List.length_append, rep_len]; simp
  have h0 : vyS L B W H (o : Nat) (many : Nat) (t : Nat) 0 P.length (lE P) = vyS L B W H (o : Nat) (many : Nat) (t : Nat) ((0 : Nat) : Int) (P ++ rep 0 ((List.range (4 * many)).map fun i => B (o + 1 + i))).length (lE (P ++ rep 0 ((List.range (4 * many)).map fun i => B (o + 1 + i)))) := by
    have : P ++ rep 0 ((List.range (4 * many)).map fun i => B (o + 1 + i)) = P := by simp [rep]
    rw [this]
    rfl
  rw [h0]
  refine loop_rule (fun i => vyS L B W H (o : Nat) (many : Nat) (t : Nat) (i : Nat) (P ++ rep i ((List.range (4 * many)).map fun i => B (o + 1 + i))).length (lE (P ++ rep i ((List.range (4 * many)).map fun i => B (o + 1 + i))))) t (.exit 2) _ (by simp) (fun i hi => ?_) ?_
  · have hik : (i + 1) * (4 * many) ≤ t * (4 * many) := Nat.mul_le_mul_right _ hi
    have hii : i + 1 ≤ (i + 1) * (4 * many) := Nat.le_mul_of_pos_right _ (by omega)
    rw [Nat.add_mul, Nat.one_mul] at hik hii
    have st := vy_step L B W H (o : Nat) (many : Nat) (t : Nat) (i : Nat) (P ++ rep i ((List.range (4 * many)).map fun i => B (o + 1 + i))).length (lE (P ++ rep i ((List.range (4 * many)).map fun i => B (o + 1 + i))))
    rw [e3, e1, e2, dec_lt hi, sbB_mid (by omega) (by omega) (by omega), apF_t (by omega) (by rw [hl]; omega), w64_next (by omega)] at st
    refine (leads_evM (finN_sub _ _) e_nil k_nil m_nil noL_ok st).sub (Sub.refl _) ?_
    have el : P ++ rep (i + 1) ((List.range (4 * many)).map fun i => B (o + 1 + i)) = (P ++ rep i ((List.range (4 * many)).map fun i => B (o + 1 + i))) ++ (List.range (4 * many)).map fun i => B (o + 1 + i) := by rw [rep_succ, List.append_assoc]
    rw [el]
    generalize P ++ rep i ((List.range (4 * many)).map fun i => B (o + 1 + i)) = X
    have ex : (X ++ (List.range (4 * many)).map fun i => B (o + 1 + i)).length = X.length + 4 * many := by simp
    rw [ex]
    refine sub_same ⟨Or.inl rfl, Or.inl rfl, Or.inr ⟨5, 1, X.length + 4 * many, _, _, rfl, rfl, fun q hq => ?_⟩, trivial⟩
    rw [lE_map X (4 * many) (fun i => B (o + 1 + i)) hq]
    have : sbL (some ((o + 1 : Nat) : Int)) = o + 1 := by unfold sbL; simp only [Option.getD_some]; omega
    rw [this]
  · have st := vy_end L B W H (o : Nat) (many : Nat) (t : Nat) (t : Nat) (P ++ rep t ((List.range (4 * many)).map fun i => B (o + 1 + i))).length (lE (P ++ rep t ((List.range (4 * many)).map fun i => B (o + 1 + i))))
    rw [dec_self] at st
    exact leads_evM (finE_sub _ _) e_nil k_nil m_nil noL_ok st
include hZ
theorem vxT_on {o m : Nat} (ho : o ≤ L) (hm : m < S) (r : Option Out) (y : Int → Int → Option Out) (z : Option Out) : vxT L B W H (o : Nat) m r y z = if dcW L B o = true then y (mn (B o) : Nat) (tm (B o) : Nat) else r := by
  unfold vxT
  rw [hZ, dec_lt hm]
  by_cases h0 : o < L
  · obtain ⟨b0, b1⟩ := hB o h0
    have ek : vxK B (o : Nat) = B o := by unfold vxK; rw [Int.toNat_natCast]; exact w64_id (by omega) (by omega)
    rw [decide_eq_false (show ¬ ((o : Int) ≥ (L : Int)) by omega), ixB_t h0, ek]
    have X : ∀ (a : Nat) (b : Int), a ≤ 128 → vxX L (o : Nat) (a : Nat) b r y = if o + 1 + 4 * a ≤ L then y (a : Nat) b else r := fun a b ha => by
      unfold vxX
      have e2 : vyH (o : Nat) (a : Nat) = ((o + 1 + 4 * a : Nat) : Int) := by
        unfold vyH
        rw [w64_id (n := (o : Int) + 1) (by omega) (by omega), w64_id (n := 4 * (a : Int)) (by omega) (by omega), w64_id (by omega) (by omega)]
        omega
      rw [e2]
      by_cases h : o + 1 + 4 * a ≤ L
      · rw [if_pos h, decide_eq_false (show ¬ (((o + 1 + 4 * a : Nat) : Int) > (L : Int)) by omega)]; rfl
      · rw [if_neg h, decide_eq_true (show (((o + 1 + 4 * a : Nat) : Int) > (L : Int)) by omega)]; rfl
    have hW' : dcW L B o = decide (o + 1 + 4 * mn (B o) ≤ L) := by unfold dcW; rw [decide_eq_true h0]; rfl
    rw [hW']
    by_cases h1 : B o ≤ 127
    · have em : mn (B o) = (B o + 1).toNat := by unfold mn; rw [if_pos h1]
      have et : tm (B o) = 1 := by unfold tm; rw [if_pos h1]
      have e1 : w64 (B o + 1) = (((B o + 1).toNat : Nat) : Int) := by rw [w64_id (by omega) (by omega)]; omega
      rw [decide_eq_true (show B o < 128 by omega), e1, em, et]
      have := X (B o + 1).toNat 1 (by omega)
      show vxX L (o : Nat) ((B o + 1).toNat : Nat) 1 r y = _
      rw [this]
      by_cases h : o + 1 + 4 * (B o + 1).toNat ≤ L
      · rw [if_pos h, if_pos (decide_eq_true h)]; rfl
      · rw [if_neg h, if_neg (by rw [decide_eq_false h]; simp)]
    · have em : mn (B o) = 1 := by unfold mn; rw [if_neg h1]
      have et : tm (B o) = (B o - 127).toNat := by unfold tm; rw [if_neg h1]
      have e1 : w64 (B o - 127) = (((B o - 127).toNat : Nat) : Int) := by rw [w64_id (by omega) (by omega)]; omega
      rw [decide_eq_false (show ¬ (B o < 128) by omega), e1, em, et]
      have := X 1 (((B o - 127).toNat : Nat) : Int) (by omega)
      show vxX L (o : Nat) ((1 : Nat) : Int) (((B o - 127).toNat : Nat) : Int) r y = _
      rw [this]
      by_cases h : o + 1 + 4 * 1 ≤ L
      · rw [if_pos h, if_pos (decide_eq_true h)]
      · rw [if_neg h, if_neg (by rw [decide_eq_false h]; simp)]
  · have e : dcW L B o = false := by unfold dcW; rw [decide_eq_false h0]; rfl
    rw [decide_eq_true (show (o : Int) ≥ (L : Int) by omega), e, if_neg (by simp)]
    rfl
omit hL hB in
theorem vx_stop {o : Nat} {P : List Int} (h : S ≤ P.length) : Leads Tryd.prog (loopAt Tryd.f16 0) (vqS L B W H o P) (.exit 0) (vqS L B W H o P) := by
  have st := vx_end L B W H (o : Nat) P.length (lE P)
  unfold vxT at st
  rw [hZ, decide_eq_false (show ¬ ((P.length : Int) < (S : Int)) by omega)] at st
  exact leads_evM (finE_sub _ _) e_nil k_nil m_nil (lok_none 21) st
include hS
theorem vx_piece {o : Nat} {P : List Int} (ho : o ≤ L) (hP : P.length < S) (hw : dcW L B o = true) : Leads Tryd.prog (loopAt Tryd.f16 0) (vqS L B W H o P) .normal (vqS L B W H (o + 1 + 4 * mn (B o)) (P ++ dcR B o)) := by
  obtain ⟨d1, d2⟩ := dcW_t hw
  obtain ⟨b0, b1⟩ := hB o d1
  obtain ⟨m1, m2, t1, t2⟩ := mn_rng b0 b1
  have hRb : tm (B o) * (4 * mn (B o)) ≤ 128 * 512 := Nat.mul_le_mul t2 (by omega)
  have hin := vy_leads (B := B) (W := W) (H := H) hL (o := o) P (many := mn (B o)) (t := tm (B o)) m1 m2 d2 (by omega)
  have st := vx_step L B W H (o : Nat) P.length (lE P) (vyS L B W H (o : Nat) (mn (B o) : Nat) (tm (B o) : Nat) 0 P.length (lE P)) (mn (B o) : Nat) (tm (B o) : Nat) (tm (B o) : Nat) (P ++ dcR B o).length (lE (P ++ dcR B o))
  have e2 : vyH (o : Nat) (mn (B o) : Nat) = ((o + 1 + 4 * mn (B o) : Nat) : Int) := by
    unfold vyH
    rw [w64_id (n := (o : Int) + 1) (by omega) (by omega), w64_id (n := 4 * ((mn (B o) : Nat) : Int)) (by omega) (by omega), w64_id (by omega) (by omega)]
    omega
  rw [vxT_on hL hB hZ ho hP, if_pos hw] at st
  unfold vxG at st
  rw [gate_pos (Sub.refl _), e2] at st
  exact leads_evM (finN_sub _ _) e_nil k_nil m_nil (lok_at (c := loopAt Tryd.f16 0) (i := 21) 0 1 (by kernel_rfl) (by kernel_rfl) (toldF_sound (keep := keepVy) (τ := [some 0, some 1, some 2]) hin)) st
theorem vx_runs : ∀ (f o : Nat) (P : List Int), L - o < f → o ≤ L → P.length ≤ S → ((dcq L S B f o P).1 = 0 → Runs (loopAt Tryd.f16 0) (vqS L B W H o P) (.exit 0) (vqS L B W H (dcq L S B f o P).2.1 (dcq L S B f o P).2.2)) ∧
    ((dcq L S B f o P).1 = 8 → Runs (loopAt Tryd.f16 0) (vqS L B W H o P) .ret (vxR 8)) ∧
    ((dcq L S B f o P).1 = 5 → ∃ o' P', S < P'.length ∧ Runs (loopAt Tryd.f16 0) (vqS L B W H o P) (.exit 0) (vqS L B W H o' P')) ∧ ((dcq L S B f o P).1 = 0 ∨ (dcq L S B f o P).1 = 8 ∨ (dcq L S B f o P).1 = 5)
  | 0, o, P, h, _, _ => by omega
  | f + 1, o, P, h, ho, hP => by
    unfold dcq
    by_cases c0 : S ≤ P.length
    · rw [if_pos c0]
      exact ⟨fun _ => Runs.last (vx_stop hZ c0), fun h => (by cases h), fun h => (by cases h), Or.inl rfl⟩
    · rw [if_neg c0]
      by_cases c1 : dcW L B o = true
      · rw [if_pos c1]
        have hp := vx_piece (P := P) hL hS hB hZ ho (by omega) c1
        obtain ⟨d1, d2⟩ := dcW_t c1
        by_cases c2 : P.length + (dcR B o).length ≤ S
        · rw [if_pos c2]
          obtain ⟨i1, i2, i3, i4⟩ := vx_runs f (o + 1 + 4 * mn (B o)) (P ++ dcR B o) (by omega) d2 (by rw [List.length_append]; exact c2)
          refine ⟨fun h => Runs.cons hp (i1 h), fun h => Runs.cons hp (i2 h), fun h => ?_, i4⟩
          obtain ⟨o', P', q1, q2⟩ := i3 h
          exact ⟨o', P', q1, Runs.cons hp q2⟩
        · rw [if_neg c2]
          refine ⟨fun h => (by cases h), fun h => (by cases h), fun _ => ⟨o + 1 + 4 * mn (B o), P ++ dcR B o, by rw [List.length_append]; omega, ?_⟩, Or.inr (Or.inr rfl)⟩
          exact Runs.cons hp (Runs.last (vx_stop hZ (by rw [List.length_append]; omega)))
      · rw [if_neg c1]
        refine ⟨fun h => (by cases h), fun _ => Runs.last ?_, fun h => (by cases h), Or.inr (Or.inl rfl)⟩
        have st := vx_ret L B W H (o : Nat) P.length (lE P)
        rw [vxT_on hL hB hZ ho (by omega), if_neg c1] at st
        exact leads_evM (finR_sub _ _) e_nil k_nil m_nil (lok_none 21) st
end
noncomputable def syE : EF4 := fun n el m el' => sq n (fun i => u8O (el i)) m fun i => u8O (el' i)
theorem mark_sq (B : Nat → Int) : vm3 B = !(sq 4 B 4 mkF) := by
  classical
  have key : sq 4 B 4 mkF = true ↔ (B 0 = 82 ∧ B 1 = 72 ∧ B 2 = 80 ∧ B 3 = 49) := by
    unfold sq
    rw [decide_eq_true_eq]
    constructor
    · rintro ⟨_, h⟩
      exact ⟨h 0 (by omega), h 1 (by omega), h 2 (by omega), h 3 (by omega)⟩
    · rintro ⟨h0, h1, h2, h3⟩
      refine ⟨rfl, fun i hi => ?_⟩
      rcases (show i = 0 ∨ i = 1 ∨ i = 2 ∨ i = 3 by omega) with rfl | rfl | rfl | rfl
      · exact h0
      · exact h1
      · exact h2
      · exact h3
  have hb : ∀ (a b : Int), (!(a == b)) = !(decide (a = b)) := fun a b => by
    by_cases h : a = b
    · rw [h, BEq.rfl, decide_eq_true rfl]
    · rw [beq_eq_false_iff_ne.2 h, decide_eq_false h]
  unfold vm3 vm2 vm1 vm0
  rw [hb, hb, hb, hb]
  cases hs : sq 4 B 4 mkF
  · have hn : ¬ (B 0 = 82 ∧ B 1 = 72 ∧ B 2 = 80 ∧ B 3 = 49) := fun c => by rw [key.2 c] at hs; cases hs
    by_cases h0 : B 0 = 82
    · by_cases h1 : B 1 = 72
      · by_cases h2 : B 2 = 80
        · have h3 : ¬ B 3 = 49 := fun h3 => hn ⟨h0, h1, h2, h3⟩
          rw [decide_eq_true h0, decide_eq_true h1, decide_eq_true h2, decide_eq_false h3]; rfl
        · rw [decide_eq_true h0, decide_eq_true h1, decide_eq_false h2]; rfl
      · rw [decide_eq_true h0, decide_eq_false h1]; rfl
    · rw [decide_eq_false h0]; rfl
  · obtain ⟨h0, h1, h2, h3⟩ := key.1 hs
    rw [decide_eq_true h0, decide_eq_true h1, decide_eq_true h2, decide_eq_true h3]; rfl
theorem vxHd_eq {L : Nat} {B : Nat → Int} (hB : By L B) (x : Option Out) : vxHd L B x = if unH L B ≠ 0 then pBad (unH L B) else x := by
  unfold vxHd
  by_cases c0 : L < 6
  · have hH : unH L B = 8 := by unfold unH; rw [if_pos c0]
    rw [hH, decide_eq_true (show (L : Int) < 6 by omega), if_pos (by decide)]
    rfl
  · have h4 := hB 4 (by omega)
    have h5 := hB 5 (by omega)
    have w4 : vW B = B 4 := w64_id (by omega) (by omega)
    have w5 : vH B = B 5 := w64_id (by omega) (by omega)
    have i0 : ixB 0 L = true := ixB_t (i := 0) (by omega)
    have i4 : ixB 4 L = true := ixB_t (i := 4) (by omega)
    have i5 : ixB 5 L = true := ixB_t (i := 5) (by omega)
    have iv : ∀ (c : Bool) (i : Nat), i < L → vmI L c (i : Nat) = true := fun c i hi => by unfold vmI; rw [ixB_t hi]; rfl
    have i1 := iv (vm0 B) 1 (by omega)
    have i2 := iv (vm1 B) 2 (by omega)
    have i3 := iv (vm2 B) 3 (by omega)
    have i1' : vmI L (vm0 B) 1 = true := i1
    have i2' : vmI L (vm1 B) 2 = true := i2
    have i3' : vmI L (vm2 B) 3 = true := i3
    have hH : unH L B = if sq 4 B 4 mkF = false then 11 else if sidB (B 4) = false ∨ sidB (B 5) = false then 4 else 0 := by unfold unH; rw [if_neg c0]
    rw [decide_eq_false (show ¬ ((L : Int) < 6) by omega), i0, i1', i2', i3', i4, i5, w4, w5, mark_sq, pbad_sid, hH]
    cases sq 4 B 4 mkF
    · rfl
    · cases sidB (B 4)
      · rfl
      · cases sidB (B 5) <;> rfl
theorem unC_q {L o : Nat} {B : Nat → Int} (h1 : ¬ L < o + 2) (h2 : ¬ o + 2 < L) : (sq 2 (gl [(cs B o).1, (cs B o).2]) (L - o) (fun i => B (o + i)) = true → unC L o B = 0) ∧ (sq 2 (gl [(cs B o).1, (cs B o).2]) (L - o) (fun i => B (o + i)) = false → unC L o B = 12) := by
  classical
  unfold unC
  rw [if_neg h1, if_neg h2]
  constructor
  · intro h
    unfold sq at h
    obtain ⟨_, h⟩ := of_decide_eq_true h
    rw [if_pos ⟨(h 0 (by omega)).symm, (h 1 (by omega)).symm⟩]
  · intro h
    unfold sq at h
    have h := of_decide_eq_false h
    rw [if_neg]
    rintro ⟨a, b⟩
    refine h ⟨by omega, fun i hi => ?_⟩
    rcases (show i = 0 ∨ i = 1 by omega) with rfl | rfl
    · exact a.symm
    · exact b.symm
theorem unpackR_spec {L : Nat} {B : Nat → Int} (hL : L ≤ 100000) (hB : By L B) : FSpec Tryd.prog 16 [sB L B] (pOut (unP L B) (unE L B)) := by
  have main : ∀ {Lf : Nat → Option LFun} {x y : Int} {pl : Nat} {pf : Nat → List AV} {pe : Int} (v : AV), LOk Tryd.prog Lf (bodyOf Tryd.f16) → evZ Tryd.prog [] (vxKs syE x y pl pf pe) [] Lf (oneZ 25 (frzK 2)) Tryd.f16 [sB L B] ret = some (Out.of v) → FSpec Tryd.prog 16 [sB L B] v := fun {Lf x y pl pf pe} v hLf h =>
    gspecZ (oneZ_ok (frzK_ok 2)) e_nil (k_cons (kC_ok _ _) <| k_cons (kS_ok (P := Tryd.prog) (f := 36) (g := eqG syE)) <| k_cons (kC_ok _ _) k_nil) m_nil Tryd.func16 (by kernel_rfl) (by kernel_rfl) hLf rfl h
  by_cases c0 : unH L B = 0
  · obtain ⟨h6, hW, hH, hN, hN2, _⟩ := unH_zero c0
    have w4 : vW B = B 4 := w64_id (by omega) (by omega)
    have w5 : vH B = B 5 := w64_id (by omega) (by omega)
    have hZ : vxZ (B 4) (B 5) = ((4 * unN B : Nat) : Int) := un_size c0
    obtain ⟨r1, r2, r3, r4⟩ := vx_runs hL (by omega) hB hZ (L + 1) 6 [] (by omega) h6 (by simp)
    have told : ∀ {e : Exit} {sf : St}, e ≠ .normal → Runs (loopAt Tryd.f16 0) (vqS L B (B 4) (B 5) 6 []) e sf → LOk Tryd.prog (oneL 9 (toldC keepVx 1 [(2, 2, 1)] (.a 5 1 0 fun q => [yA (gl [] q)]) [some 0, some 1, none] (vqS L B (B 4) (B 5) 6 []) e sf)) (bodyOf Tryd.f16) := fun {e sf} he hr =>
      lok_hd (c := bodyOf Tryd.f16) (i := 9) 1 (by kernel_rfl) (by kernel_rfl) (toldC_sound (keep := keepVx) (r0 := 1) (nils := [(2, 2, 1)]) (nr := .a 5 1 0 fun q => [yA (gl [] q)]) (τ := [some 0, some 1, none]) (Runs.loop he hr))
    have hsub : Sub (vxS L B (vW B) (vH B) 6 0 fun q => [yA (gl [] q)]) (vqS L B (B 4) (B 5) 6 []) := by rw [w4, w5]; exact Sub.refl _
    have head : ∀ x, vxHd L B x = x := fun x => by rw [vxHd_eq hB, if_neg (fun h => h c0)]
    rcases r4 with e0 | e8 | e5
    · have c1 : (unD L B).1 = 0 := e0
      obtain ⟨ho, ho6, hPl, hPb⟩ := unD_good hB c0 c1
      have hr := r1 e0
      have hr' : Runs (loopAt Tryd.f16 0) (vqS L B (B 4) (B 5) 6 []) (.exit 0) (vxS L B (B 4) (B 5) ((unD L B).2.1 : Nat) (4 * unN B) fun q => [yA (gl (unD L B).2.2 q)]) := by
        have e : vqS L B (B 4) (B 5) (unD L B).2.1 (unD L B).2.2 = vxS L B (B 4) (B 5) ((unD L B).2.1 : Nat) (4 * unN B) fun q => [yA (gl (unD L B).2.2 q)] := by
          unfold vqS
          rw [hPl]
          rfl
        rw [← e]
        exact hr
      have st := vx_evA L B syE (cs B (unD L B).2.1).1 (cs B (unD L B).2.1).2 (unK L B).length (lE (unK L B)) 0 (vqS L B (B 4) (B 5) 6 []) (B 4) (B 5) ((unD L B).2.1 : Nat) (4 * unN B) (gl (unD L B).2.2) (gl [])
      have hF : vxF (4 * unN B) = true := by unfold vxF; rw [Nat.beq_refl]; rfl
      have e2 : w64 (((unD L B).2.1 : Int) + 2) = (((unD L B).2.1 + 2 : Nat) : Int) := by rw [w64_id (by omega) (by omega)]; omega
      rw [head, gate_pos hsub] at st
      unfold vxE at st
      rw [hF, hZ, decide_eq_false (show ¬ (((4 * unN B : Nat) : Int) > ((4 * unN B : Nat) : Int)) by omega), e2] at st
      by_cases k0 : L < (unD L B).2.1 + 2
      · rw [decide_eq_true (show (L : Int) < (((unD L B).2.1 + 2 : Nat) : Int) by omega)] at st
        have hc : unC L (unD L B).2.1 B = 8 := by unfold unC; rw [if_pos k0]
        exact un_bad (e := 8) (by unfold unE; rw [if_neg (fun h => h c0), if_neg (fun h => h c1), hc]; rfl) (by decide) (main _ (told (by simp) hr') st)
      · rw [decide_eq_false (show ¬ ((L : Int) < (((unD L B).2.1 + 2 : Nat) : Int)) by omega)] at st
        by_cases k1 : (unD L B).2.1 + 2 < L
        · rw [decide_eq_true (show (L : Int) > (((unD L B).2.1 + 2 : Nat) : Int) by omega)] at st
          have hc : unC L (unD L B).2.1 B = 5 := by unfold unC; rw [if_neg k0, if_pos k1]
          exact un_bad (e := 5) (by unfold unE; rw [if_neg (fun h => h c0), if_neg (fun h => h c1), hc]; rfl) (by decide) (main _ (told (by simp) hr') st)
        · rw [decide_eq_false (show ¬ ((L : Int) > (((unD L B).2.1 + 2 : Nat) : Int)) by omega)] at st
          have x1 : sbN none (some ((unD L B).2.1 : Int)) L = (unD L B).2.1 := by unfold sbN; simp only [Option.getD_some, Option.getD_none]; omega
          have x2 : (fun i => [yA (B (sbL none + i))]) = fun i => [yA (B i)] := funext fun i => by
            have : sbL none = 0 := rfl
            rw [this, Nat.zero_add]
          have x3 : sbN (some ((unD L B).2.1 : Int)) none L = L - (unD L B).2.1 := by unfold sbN; simp only [Option.getD_some, Option.getD_none]; omega
          have x4 : (fun i => [yA (B (sbL (some ((unD L B).2.1 : Int)) + i))]) = fun i => [yA (B ((unD L B).2.1 + i))] := funext fun i => by
            unfold sbL
            simp only [Option.getD_some, Int.toNat_natCast]
          have hck : FSpec Tryd.prog 22 [.sl 1 (unD L B).2.1 fun i => [yA (B i)]] (lA [(cs B (unD L B).2.1).1, (cs B (unD L B).2.1).2]) := sums_spec (by omega) fun i hi => hB i (by omega)
          have hq1 : FSpec Tryd.prog 36 [.sl 1 2 (lE [(cs B (unD L B).2.1).1, (cs B (unD L B).2.1).2]), .sl 1 (L - (unD L B).2.1) fun i => [yA (B ((unD L B).2.1 + i))]] (bA (syE 2 (lE [(cs B (unD L B).2.1).1, (cs B (unD L B).2.1).2]) (L - (unD L B).2.1) fun i => [yA (B ((unD L B).2.1 + i))])) := same_spec (gl [(cs B (unD L B).2.1).1, (cs B (unD L B).2.1).2]) (L - (unD L B).2.1) (fun i => B ((unD L B).2.1 + i)) (by omega)
          obtain ⟨u1, u2⟩ := unC_q k0 k1
          have eq1 : syE 2 (lE [(cs B (unD L B).2.1).1, (cs B (unD L B).2.1).2]) (L - (unD L B).2.1) (fun i => [yA (B ((unD L B).2.1 + i))]) = sq 2 (gl [(cs B (unD L B).2.1).1, (cs B (unD L B).2.1).2]) (L - (unD L B).2.1) (fun i => B ((unD L B).2.1 + i)) := rfl
          unfold gS vxQ gS at st
          rw [x1, x2, gate_pos hck, x3, x4, gate_pos hq1, sbB_hi (by omega) (by omega), sbB_lo (by omega) (by omega), eq1] at st
          cases hq : sq 2 (gl [(cs B (unD L B).2.1).1, (cs B (unD L B).2.1).2]) (L - (unD L B).2.1) (fun i => B ((unD L B).2.1 + i))
          · rw [hq] at st
            exact un_bad (e := 12) (by unfold unE; rw [if_neg (fun h => h c0), if_neg (fun h => h c1), u2 hq]; rfl) (by decide) (main _ (told (by simp) hr') st)
          · rw [hq] at st
            have hpk : FSpec Tryd.prog 8 [.agg [iA (B 4), iA (B 5), sB (4 * unN B) (gl (unD L B).2.2)]] (.tup [.sl 1 (unK L B).length (lE (unK L B)), iA 0]) := packR_spec hW hH hN (by rw [← hPl]; exact hPb.by)
            have hkl : (unK L B).length ≤ 1000000 := by
              have := pkA_len (unN B) (gl (unD L B).2.2) (unN B) 0 (by omega)
              unfold unK pkL pkX
              simp only [List.length_append, List.length_cons, List.length_nil]
              omega
            have hq2 : FSpec Tryd.prog 36 [.sl 1 (unK L B).length (lE (unK L B)), .sl 1 L fun i => [yA (B i)]] (bA (syE (unK L B).length (lE (unK L B)) L fun i => [yA (B i)])) := same_spec (gl (unK L B)) L B hkl
            have eq2 : syE (unK L B).length (lE (unK L B)) L (fun i => [yA (B i)]) = sq (unK L B).length (gl (unK L B)) L B := rfl
            rw [gate_pos hpk, gate_pos hq2, eq2] at st
            cases hz : sq (unK L B).length (gl (unK L B)) L B
            · rw [hz] at st
              exact un_bad (e := 11) (by unfold unE; rw [if_neg (fun h => h c0), if_neg (fun h => h c1), u1 hq, hz]; rfl) (by decide) (main _ (told (by simp) hr') st)
            · rw [hz] at st
              have he : unE L B = 0 := by unfold unE; rw [if_neg (fun h => h c0), if_neg (fun h => h c1), u1 hq, hz]; rfl
              unfold unP
              rw [he, if_pos rfl]
              exact main _ (told (by simp) hr') st
    · have c1 : (unD L B).1 = 8 := e8
      have st := vx_evB L B syE 0 0 0 (fun _ => []) 0 (vqS L B (B 4) (B 5) 6 []) 8 (gl [])
      rw [head, gate_pos hsub] at st
      exact un_bad (e := 8) (by unfold unE; rw [if_neg (fun h => h c0), c1]; rfl) (by decide) (main _ (told (by simp) (r2 e8)) st)
    · have c1 : (unD L B).1 = 5 := e5
      obtain ⟨o', P', q1, q2⟩ := r3 e5
      have st := vx_evA L B syE 0 0 0 (fun _ => []) 0 (vqS L B (B 4) (B 5) 6 []) (B 4) (B 5) (o' : Nat) P'.length (gl P') (gl [])
      have hF : vxF P'.length = true := by unfold vxF; rw [Nat.beq_refl]; rfl
      rw [head, gate_pos hsub] at st
      unfold vxE at st
      rw [hF, hZ, decide_eq_true (show (P'.length : Int) > ((4 * unN B : Nat) : Int) by omega)] at st
      exact un_bad (e := 5) (by unfold unE; rw [if_neg (fun h => h c0), c1]; rfl) (by decide) (main _ (told (by simp) q2) st)
  · have st := vx_ev0 L B syE 0 0 0 (fun _ => []) 0
    rw [vxHd_eq hB, if_pos c0] at st
    exact un_bad (by unfold unE; rw [if_pos c0]) c0 (main _ (lok_none 9) st)
end Go.Proofs.YtcdhdnfkcmjnpaaDoor.Pi

namespace Go.Proofs.YtcdhdnfkcmjnpaaDoor.Pi
open Go.Shelf Go.RowKit Go.Gv

section
variable (p q : Pic)
def spC : Bool := cond (p.W == q.W) (p.H == q.H) false
theorem sp_ev : ev Tryd.prog [] [] noL Tryd.f12 [.agg p.c, .agg q.c] ret =
    cond (allB p.n (fun _ => true) || !(decide (spC p q = true) && true)) (cond (allB q.n (fun _ => true) || !(decide (spC p q = true) && true)) (some (Out.of (bA (cond (spC p q) ((strF p.n p.px).toList == (strF q.n q.px).toList) false)))) none) none := by kernel_rfl
end
theorem sp_spec (p : Pic) : FSpec Tryd.prog 12 [.agg p.c, .agg p.c] (bA true) := by
  refine gspec e_nil k_nil Tryd.func12 (by kernel_rfl) (by kernel_rfl) noL_ok rfl ((sp_ev p p).trans ?_)
  rw [allB_true fun _ _ => rfl]
  unfold spC
  rw [BEq.rfl, BEq.rfl, BEq.rfl]
  rfl
theorem pr_ev (n : Nat) (g : Nat → Int) (s : ByteArray) (p r : Pic) (e f : Int) : ev Tryd.prog [] [kC 11 (pOut p e), kC 16 (pOut p e), kC 13 (pOut r f), kC 17 (pOut r f), kC 12 (bA true)] noL Tryd.f5 [sB n g, zA s] ret =
    cond (decide (w64 ((n : Int) + (s.size : Int)) > 4000)) (some (Out.of (bA true))) (gS 11 [sB n g] (pOut p e) (gS 16 [sB n g] (pOut p e) (gS 12 [.agg p.c, .agg p.c] (bA true) (cond (cond (!(e == e)) true false) (some (Out.of (bA false)))
      (gS 13 [zA s] (pOut r f) (gS 17 [zA s] (pOut r f) (gS 12 [.agg r.c, .agg r.c] (bA true) (some (Out.of (bA (cond (f == f) true false)))))))))) ) := by kernel_rfl
theorem pictReads_law {n : Nat} {g : Nat → Int} {s : ByteArray} (hn : n ≤ 4611686018427387903) (hs : s.size ≤ 4611686018427387903) (hg : By n g) : FSpec Tryd.prog 5 [sB n g, zA s] (bA true) := by
  refine gspec e_nil (k_cons (kC_ok _ _) <| k_cons (kC_ok _ _) <| k_cons (kC_ok _ _) <| k_cons (kC_ok _ _) <| k_cons (kC_ok _ _) k_nil) Tryd.func5 (by kernel_rfl) (by kernel_rfl) noL_ok rfl ((pr_ev n g s (unP n g) (rdP s.size (wds s)) (unE n g) (rdE s.size (wds s))).trans ?_)
  rw [w64_id (by omega) (by omega)]
  by_cases c : (n : Int) + (s.size : Int) > 4000
  · rw [decide_eq_true c]; rfl
  · rw [decide_eq_false c]
    unfold gS
    rw [gate_pos (unpack_spec (by omega) hg), gate_pos (unpackR_spec (by omega) hg), gate_pos (sp_spec _), gate_pos (read_spec s), gate_pos (pictRead_spec s), gate_pos (sp_spec _), BEq.rfl, BEq.rfl]
    rfl
end Go.Proofs.YtcdhdnfkcmjnpaaDoor.Pi

namespace Go.Proofs.YtcdhdnfkcmjnpaaDoor
open Go.Gv Go.RowKit Go.ChangeShapes Go.WideShapes Go.ChangeAt

def rsl (n : Nat) (hs : Nat → Int) : AV := .sl 1 n fun i => [iA (hs i)]
theorem open_num {H : Type} {enc : TypeId × Value → H} {P : Program} {w : World} {r : Reach} {b0 : Nat} {t : TypeId} {v : Value} {d : DataW H} {p : List MemPlace} {k : IntKind} (hu : P.underlying t = some (.int k)) (hk : kds P 1 t = some [.i k]) (hv : Value.okWide P w r b0 t v)
    (h : DataW.Trod enc P w 0 (fun _ => true) true t v d p) : ∃ n, rel (Env.all w) (.x (.int k n)) v ∧ (Lit.int k n).wf = true := by
  have hone : v.cells = #[v] := by
    obtain ⟨n, rfl, _⟩ := okWide_int hu hv
    rfl
  obtain ⟨fuel, hf⟩ := h
  obtain ⟨a, h1, h2⟩ := open_arg hf hk hone
  rw [fitA] at h1
  obtain ⟨n, rfl, hw⟩ := h1
  exact ⟨n, h2, hw⟩
def numOf (el : Nat → List AV) (i : Nat) : Int := match el i with
  | [.x (.int .i64 h)] => h
  | _ => 0
theorem sl_same {E : Env} {sz n : Nat} {el el' : Nat → List AV} {v : Value} (h : rel E (.sl sz n el) v) (he : ∀ i, i < n → el' i = el i) : rel E (.sl sz n el') v := by
  have h : relA _ _ _ := h
  show relA _ _ _
  rw [relA] at h ⊢
  obtain ⟨a, c, h1, h2, h3⟩ := h
  refine ⟨a, c, h1, h2, ?_⟩
  rcases h3 with h3 | ⟨b, o, cs, e, fz, h4, h5, h6, h7⟩
  · exact Or.inl h3
  · exact Or.inr ⟨b, o, cs, e, fz, h4, h5, h6, fun i hi => by rw [he i hi]; exact h7 i hi⟩
theorem fitL_single {k : Kd} {zs : List AV} (h : fitL [k] zs) : ∃ a, zs = [a] ∧ fitA k a := by
  match zs, h with
  | [a], h => exact ⟨a, rfl, (fitL_cons.1 h).1⟩
  | [], h => have := fitL_length h; simp at this
  | _ :: _ :: _, h => have := fitL_length h; simp at this
/-- A row of whole numbers that came in: as many, each a number of 64 bits. -/
theorem open_raw {H : Type} {enc : TypeId × Value → H} {P : Program} {w : World} {r : Reach} {b0 : Nat} {t e : TypeId} {v : Value} {d : DataW H} {p : List MemPlace} (hu : P.underlying t = some (.slice e)) (hk : kds P 2 t = some [.l 1 [.i .i64]]) (hv : Value.okWide P w r b0 t v)
    (h : DataW.Trod enc P w 0 (fun _ => true) true t v d p) : ∃ n hs, rel (Env.all w) (rsl n hs) v ∧ ∀ i, i < n → (Lit.int .i64 (hs i)).wf = true := by
  have hone : v.cells = #[v] := by
    obtain ⟨a, len, cap, rfl⟩ := okWide_slice hu hv
    rfl
  obtain ⟨fuel, hf⟩ := h
  obtain ⟨a, h1, h2⟩ := open_arg hf hk hone
  rw [fitA] at h1
  obtain ⟨n, el, rfl, _, hel⟩ := h1
  have key : ∀ i, i < n → el i = [iA (numOf el i)] ∧ (Lit.int .i64 (numOf el i)).wf = true := fun i hi => by
    obtain ⟨a, ha, hf⟩ := fitL_single (hel i hi)
    rw [fitA] at hf
    obtain ⟨m, rfl, hw⟩ := hf
    have e : numOf el i = m := by unfold numOf; rw [ha]
    rw [e]
    exact ⟨ha, hw⟩
  exact ⟨n, numOf el, sl_same h2 fun i hi => (key i hi).1.symm, fun i hi => (key i hi).2⟩
end Go.Proofs.YtcdhdnfkcmjnpaaDoor

namespace Go.Proofs.YtcdhdnfkcmjnpaaDoor
open Go.Gv Go.RowKit Go.ChangeShapes Go.WideShapes Go.ChangeAt

def u8Of (el : Nat → List AV) (i : Nat) : Int := match el i with
  | [.x (.int .u8 h)] => h
  | _ => 0
theorem u8_wf {n : Int} (h : (Lit.int .u8 n).wf = true) : 0 ≤ n ∧ n ≤ 255 := by
  simp [Lit.wf, IntKind.min, IntKind.max, IntKind.signed, IntKind.bits] at h
  omega
theorem fit_iw {a : AV} {k : IntKind} (h : fitA (.i k) a) : ∃ n, a = .x (.int k n) ∧ (Lit.int k n).wf = true := by rw [fitA] at h; exact h
/-- A row of whole numbers within something. -/
theorem fit_ints {E : Env} {a : AV} {v : Value} (h : fitA (.l 1 [.i .i64]) a) (hr : rel E a v) : ∃ n g, n ≤ maxLen ∧ (∀ i, i < n → (Lit.int .i64 (g i)).wf = true) ∧ rel E (sI n g) v := by
  rw [fitA] at h
  obtain ⟨n, el, rfl, hn, hel⟩ := h
  have key : ∀ i, i < n → el i = [iA (numOf el i)] ∧ (Lit.int .i64 (numOf el i)).wf = true := fun i hi => by
    obtain ⟨a, ha, hf⟩ := fitL_single (hel i hi)
    obtain ⟨m, rfl, hw⟩ := fit_iw hf
    have e : numOf el i = m := by unfold numOf; rw [ha]
    rw [e]
    exact ⟨ha, hw⟩
  exact ⟨n, numOf el, hn, fun i hi => (key i hi).2, sl_like hr fun i hi => (key i hi).1.symm⟩
/-- A row of bytes within something. -/
theorem fit_bytes {E : Env} {a : AV} {v : Value} (h : fitA (.l 1 [.i .u8]) a) (hr : rel E a v) : ∃ n g, n ≤ maxLen ∧ (∀ i, i < n → 0 ≤ g i ∧ g i ≤ 255) ∧ rel E (sB n g) v := by
  rw [fitA] at h
  obtain ⟨n, el, rfl, hn, hel⟩ := h
  have key : ∀ i, i < n → el i = [yA (u8Of el i)] ∧ (Lit.int .u8 (u8Of el i)).wf = true := fun i hi => by
    obtain ⟨a, ha, hf⟩ := fitL_single (hel i hi)
    obtain ⟨m, rfl, hw⟩ := fit_iw hf
    have e : u8Of el i = m := by unfold u8Of; rw [ha]
    rw [e]
    exact ⟨ha, hw⟩
  exact ⟨n, u8Of el, hn, fun i hi => u8_wf (key i hi).2, sl_like hr fun i hi => (key i hi).1.symm⟩
/-- A row of bytes that came in. -/
theorem open_bytes {H : Type} {enc : TypeId × Value → H} {P : Program} {w : World} {r : Reach} {b0 : Nat} {t e : TypeId} {v : Value} {d : DataW H} {p : List MemPlace} (hu : P.underlying t = some (.slice e)) (hk : kds P 2 t = some [.l 1 [.i .u8]]) (hv : Value.okWide P w r b0 t v)
    (h : DataW.Trod enc P w 0 (fun _ => true) true t v d p) : ∃ n g, n ≤ maxLen ∧ (∀ i, i < n → 0 ≤ g i ∧ g i ≤ 255) ∧ rel (Env.all w) (sB n g) v := by
  have hone : v.cells = #[v] := by
    obtain ⟨a, len, cap, rfl⟩ := okWide_slice hu hv
    rfl
  obtain ⟨fuel, hf⟩ := h
  obtain ⟨a, h1, h2⟩ := open_arg hf hk hone
  exact fit_bytes h1 h2
/-- Four cells, one behind the other. -/
theorem fitL_n3 {k0 k1 k2 : Kd} {zs : List AV} (h : fitL [k0, k1, k2] zs) : ∃ x y z, zs = [x, y, z] ∧ fitA k0 x ∧ fitA k1 y ∧ fitA k2 z := by
  match zs, h with
  | [x, y, z], h =>
    simp only [fitL_cons] at h
    exact ⟨x, y, z, rfl, h.1, h.2.1, h.2.2.1⟩
  | [], h => have := fitL_length h; simp at this
  | [_], h => have := fitL_length h; simp at this
  | [_, _], h => have := fitL_length h; simp at this
  | _ :: _ :: _ :: _ :: _, h => have := fitL_length h; simp at this
theorem fitL_n4 {k0 k1 k2 k3 : Kd} {zs : List AV} (h : fitL [k0, k1, k2, k3] zs) : ∃ x y z u, zs = [x, y, z, u] ∧ fitA k0 x ∧ fitA k1 y ∧ fitA k2 z ∧ fitA k3 u := by
  match zs, h with
  | [x, y, z, u], h =>
    simp only [fitL_cons] at h
    exact ⟨x, y, z, u, rfl, h.1, h.2.1, h.2.2.1, h.2.2.2.1⟩
  | [], h => have := fitL_length h; simp at this
  | [_], h => have := fitL_length h; simp at this
  | [_, _], h => have := fitL_length h; simp at this
  | [_, _, _], h => have := fitL_length h; simp at this
  | _ :: _ :: _ :: _ :: _ :: _, h => have := fitL_length h; simp at this
def l3A (l : Nat → Int) : List AV := [iA (l 0), iA (l 1), iA (l 2)]
/-- Three whole numbers. -/
theorem three_arg {E : Env} {zs : List AV} {v : Value} (h : fitL [.i .i64, .i .i64, .i .i64] zs) (hr : rel E (.agg zs) v) : ∃ l : Nat → Int, (∀ i, i < 3 → (Lit.int .i64 (l i)).wf = true) ∧ rel E (.agg (l3A l)) v := by
  obtain ⟨x, y, z, rfl, h0, h1, h2⟩ := fitL_n3 h
  obtain ⟨a, rfl, wa⟩ := fit_iw h0
  obtain ⟨b, rfl, wb⟩ := fit_iw h1
  obtain ⟨c, rfl, wc⟩ := fit_iw h2
  refine ⟨fun i => [a, b, c].getD i 0, fun i hi => ?_, hr⟩
  match i, hi with
  | 0, _ => exact wa
  | 1, _ => exact wb
  | 2, _ => exact wc
end Go.Proofs.YtcdhdnfkcmjnpaaDoor
