/-
  A picture of half the sides: what the code gives.
-/
import Derived.Test.YtkibceiellnggaaSk11
namespace Go.Proofs.Ytkibceiellnggaa
open Go.Gv

def hoS (p : Pic) (W' H' y : Int) (n : Nat) (el : Nat → List AV) : St := mkS 49 [(1, .own 0 0), (2, .own 1 0), (3, .own 2 0), (25, iA H'), (26, iA y)] [.c p.c, .c picZ, .c [iA W', iA H', .osl 3 1 0 n], .a 5 1 n el]
def keepHo : List Nat := [1, 2, 3, 25, 26]
noncomputable def hoL (p : Pic) (W' H' y x' : Int) (n : Nat) (el el' : Nat → List AV) : Nat → Option LFun := oneL 7 (toldF keepHi [some 0, some 1, some 2, some 3] (hiS p W' H' y 0 n el) (.exit 2) (hiS p W' H' y x' n el'))
section
variable (p : Pic) (W' H' y x' : Int) (n : Nat) (el el' : Nat → List AV)
theorem ho_step : evC Try.prog [] [] (hoL p W' H' y x' n el el') (loopAt Try.f25 0) (hoS p W' H' y n el) (finN keepHo [some 0, some 1, some 2, some 3]) =
    cond (decide (y < H')) (gate (Sub (hiS p W' H' y 0 n el) (hiS p W' H' y 0 n el)) (some ⟨.normal, hoS p W' H' (w64 (y + 1)) n el', .any⟩)) none := by kernel_rfl
theorem ho_end : evC Try.prog [] [] (oneL 7 fun _ _ => none) (loopAt Try.f25 0) (hoS p W' H' y n el) (finX keepHo [some 0, some 1, some 2, some 3]) = cond (decide (y < H')) none (some ⟨.exit 0, hoS p W' H' y n el, .any⟩) := by kernel_rfl
end
theorem ho_leads {p : Pic} {wd ht : Nat} (h : PG p wd ht) :
    Leads Try.prog (.loop (loopAt Try.f25 0)) (hoS p (half2 wd : Nat) (half2 ht : Nat) 0 (half2 wd * half2 ht * 4) fun q => [yA (laid p wd ht 0 q)]) (.exit 0)
      (hoS p (half2 wd : Nat) (half2 ht : Nat) (half2 ht : Nat) (half2 wd * half2 ht * 4) fun q => [yA (laid p wd ht (half2 ht * half2 wd) q)]) := by
  obtain ⟨h1, h2⟩ := half2_le h.h64 h.h1
  have h0 : Leads Try.prog (.loop (loopAt Try.f25 0)) (hoS p (half2 wd : Nat) (half2 ht : Nat) (0 : Nat) (half2 wd * half2 ht * 4) fun q => [yA (laid p wd ht (0 * half2 wd) q)]) (.exit 0)
      (hoS p (half2 wd : Nat) (half2 ht : Nat) (half2 ht : Nat) (half2 wd * half2 ht * 4) fun q => [yA (laid p wd ht (half2 ht * half2 wd) q)]) := by
    refine loop_rule (fun Y => hoS p (half2 wd : Nat) (half2 ht : Nat) (Y : Nat) (half2 wd * half2 ht * 4) fun q => [yA (laid p wd ht (Y * half2 wd) q)]) (half2 ht) (.exit 0) _ (by simp) (fun Y hY => ?_) ?_
    · have hL : LOk Try.prog (hoL p (half2 wd : Nat) (half2 ht : Nat) (Y : Nat) (half2 wd : Nat) (half2 wd * half2 ht * 4) (fun q => [yA (laid p wd ht (Y * half2 wd) q)]) fun q => [yA (laid p wd ht (Y * half2 wd + half2 wd) q)]) (loopAt Try.f25 0) :=
        lok_one (i := 7) 1 (by kernel_rfl) fun j hj _ => by
          have : j = 0 := by omega
          subst this
          exact toldF_sound (hi_leads h hY)
      refine leads_ev (finN_sub keepHo [some 0, some 1, some 2, some 3]) e_nil k_nil hL ((ho_step p _ _ _ _ _ _ _).trans ?_)
      rw [dec_lt hY, gate_pos (Sub.refl _), w64_next (by omega), Nat.succ_mul]
      rfl
    · refine leads_ev (finX_sub keepHo [some 0, some 1, some 2, some 3]) e_nil k_nil (lok_none 7) ((ho_end p _ _ _ _ _).trans ?_)
      rw [dec_self, cond_false]
  rw [Nat.zero_mul] at h0
  exact h0
noncomputable def halfL (p : Pic) (W' H' y' : Int) (n : Nat) (el : Nat → List AV) (g : Nat → Int) : Nat → Option LFun := oneL 4 (toldF keepHo [some 0, some 1, some 2, some 3] (hoS p W' H' 0 n el) (.exit 0) (hoS p W' H' y' n fun q => [yA (g q)]))
def hw (n : Int) : Int := w64 ((w64 (n + 1)).tdiv 2)
def hlen (W H : Int) : Int := w64 (w64 (hw W * hw H) * 4)
theorem half_ev (p : Pic) (W' H' y' : Int) (n : Nat) (el : Nat → List AV) (g : Nat → Int) : ev Try.prog [] [] (halfL p W' H' y' n el g) Try.f25 [.agg p.c] ret =
    cond ((decide (0 ≤ hlen p.W p.H) && (decide (hlen p.W p.H ≤ hlen p.W p.H) && decide (((1 : Nat) : Int) * hlen p.W p.H ≤ 281474976710656))) && true)
      (gate (Sub (hoS p (hw p.W) (hw p.H) 0 (hlen p.W p.H).toNat fun _ => [yA 0]) (hoS p W' H' 0 n el)) (some (Out.of (.agg [iA W', iA H', .sl 1 n fun i => [yA (g (0 + i))]])))) none := by kernel_rfl
theorem FSpec.of_res {P : Program} {f : Nat} {args : List AV} {r r' : AV} (h : FSpec P f args r) (hr : ∀ (E : Env) (v : Value), rel E r v → rel E r' v) : FSpec P f args r' :=
  ⟨h.1, fun A w cargs hA ha hg => (h.2 A w cargs hA ha hg).mono fun _ _ ⟨v, h1, h2, h3⟩ => ⟨v, h1, hr _ _ h2, h3⟩⟩
theorem pic_like {E : Env} {W H : Int} {n : Nat} {g g' : Nat → Int} {v : Value} (h : rel E (.agg [iA W, iA H, .sl 1 n fun i => [yA (g i)]]) v) (hg : ∀ i, i < n → g' i = g i) : rel E (.agg [iA W, iA H, .sl 1 n fun i => [yA (g' i)]]) v := by
  obtain ⟨vs, h1, h2⟩ := rel_agg.1 h
  refine rel_agg.2 ⟨vs, h1, ?_⟩
  obtain ⟨u0, t0, e0, r0, h2⟩ := rels_cons.1 h2
  obtain ⟨u1, t1, e1, r1, h2⟩ := rels_cons.1 h2
  obtain ⟨u2, t2, e2, r2, h2⟩ := rels_cons.1 h2
  exact rels_cons.2 ⟨u0, t0, e0, r0, rels_cons.2 ⟨u1, t1, e1, r1, rels_cons.2 ⟨u2, t2, e2, sl_like r2 fun i hi => by rw [hg i hi], h2⟩⟩⟩
theorem hw_eq {n : Nat} (h : n ≤ 64) : hw (n : Nat) = (half2 n : Nat) := by
  unfold hw half2
  have e1 : w64 ((n : Int) + 1) = ((n + 1 : Nat) : Int) := w64_next (by omega)
  have e2 : Int.tdiv ((n + 1 : Nat) : Int) 2 = (((n + 1) / 2 : Nat) : Int) := (Int.ofNat_tdiv (n + 1) 2).symm
  rw [e1, e2, w64_id (by omega) (by omega)]
theorem half_spec {p : Pic} {wd ht : Nat} (h : PG p wd ht) : FSpec Try.prog 25 [.agg p.c] (.agg (hpic p wd ht).c) := by
  obtain ⟨w1, w2⟩ := half2_le h.w64 h.w1
  obtain ⟨h1, h2⟩ := half2_le h.h64 h.h1
  have hn : half2 wd * half2 ht ≤ 32 * 32 := Nat.mul_le_mul w2 h2
  have hL : LOk Try.prog (halfL p (half2 wd : Nat) (half2 ht : Nat) (half2 ht : Nat) (half2 wd * half2 ht * 4) (fun q => [yA (laid p wd ht 0 q)]) (laid p wd ht (half2 ht * half2 wd))) (bodyOf Try.f25) :=
    lok_one (i := 4) 2 (by kernel_rfl) fun j hj hid => by
      have : j = 0 ∨ j = 1 := by omega
      rcases this with rfl | rfl
      · exact toldF_sound (ho_leads h)
      · have e : firstId ((loopsOf (bodyOf Try.f25)).getD 1 .skip) = some 7 := by kernel_rfl
        rw [e] at hid; cases hid
  have sp : FSpec Try.prog 25 [.agg p.c] (.agg [iA (half2 wd : Nat), iA (half2 ht : Nat), .sl 1 (half2 wd * half2 ht * 4) fun i => [yA (laid p wd ht (half2 ht * half2 wd) (0 + i))]]) := by
    refine gspec e_nil k_nil Try.func25 (by kernel_rfl) (by kernel_rfl) hL rfl ((half_ev p _ _ _ _ _ _).trans ?_)
    have e1 : hw p.W = (half2 wd : Nat) := by rw [h.W]; exact hw_eq h.w64
    have e2 : hw p.H = (half2 ht : Nat) := by rw [h.H]; exact hw_eq h.h64
    have e3 : hlen p.W p.H = ((half2 wd * half2 ht * 4 : Nat) : Int) := by
      unfold hlen
      rw [e1, e2]
      have e4 : ((half2 wd : Nat) : Int) * ((half2 ht : Nat) : Int) = ((half2 wd * half2 ht : Nat) : Int) := by rw [Int.natCast_mul]
      rw [e4, w64_id (n := ((half2 wd * half2 ht : Nat) : Int)) (by omega) (by omega), w64_id (by omega) (by omega)]
      omega
    have hs : Sub (hoS p (half2 wd : Nat) (half2 ht : Nat) 0 (half2 wd * half2 ht * 4) fun _ => [yA 0]) (hoS p (half2 wd : Nat) (half2 ht : Nat) 0 (half2 wd * half2 ht * 4) fun q => [yA (laid p wd ht 0 q)]) := by
      refine sub_same ⟨Or.inl rfl, Or.inl rfl, Or.inl rfl, Or.inr ⟨5, 1, half2 wd * half2 ht * 4, _, _, rfl, rfl, fun q _ => ?_⟩, trivial⟩
      unfold laid
      rw [blt_f (by omega)]
      rfl
    rw [e1, e2, e3, dec_nonneg, decide_eq_true (Int.le_refl _), decide_eq_true (show ((1 : Nat) : Int) * ((half2 wd * half2 ht * 4 : Nat) : Int) ≤ 281474976710656 by omega), Int.toNat_natCast, gate_pos hs]
    rfl
  refine FSpec.of_res sp fun E v hr => pic_like hr fun i hi => ?_
  show hpx p wd ht i = laid p wd ht (half2 ht * half2 wd) (0 + i)
  unfold laid
  rw [Nat.zero_add, blt_t (by rw [Nat.mul_comm (half2 ht)]; exact hi)]
  rfl
end Go.Proofs.Ytkibceiellnggaa
